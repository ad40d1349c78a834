import Derived.Test.YtpfojbeakjpbkaaA
namespace Go.Proofs.Ytpfojbeakjpbkaa
open Go.RowKit

end Go.Proofs.Ytpfojbeakjpbkaa
