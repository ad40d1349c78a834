import Derived.Test.YtgipjjhkhfihpaaA
namespace Go.Proofs.Ytgipjjhkhfihpaa
open Go.RowKit

end Go.Proofs.Ytgipjjhkhfihpaa
