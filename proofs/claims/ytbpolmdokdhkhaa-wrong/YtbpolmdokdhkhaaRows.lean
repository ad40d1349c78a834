/-
  No cell of these rows narrows 'for every input' (looked for: loops, veiled, ifaces, maps, wideKeys, modest, calm, conditions, laid).
  DERIVED. THE GIVEN ROWS OF THIS SEAT. 5 by the template 'for every input the law returns true; each argument reads behind the call as it read before'; 0 by the template 'total and deterministic' (their statements: YtbpolmdokdhkhaaTotals.lean).
  GIVEN WITH THE SEED: the statements are not yours to turn. If you find one false, say at which input.
  Laid BY PROGRAM, IN A SANDBOX (cutbox-rows.mjs): the forced cells as the released guide's own fill.sh prints them over the translation a8fd1b45edb6442e… (all of the seat's roots in one cut). By AI agents, Wed Nov 11 2026. No macro, syntax, notation, axiom, sorry.
-/
import Derived.Test.YtbpolmdokdhkhaaChecked
import GoSem.Claim
import GoSem.ClaimJoined
import GoSem.ClaimMapViews
import Derived.JoinedTies
import Derived.KernelRfl
namespace Go.Proofs.Ytbpolmdokdhkhaa
/- THE CELL 'sum', in the pinned program and in every row, IS THE sha256 OF THE DUMP (.gsa) THAT YtbpolmdokdhkhaaProg.lean LOADS. Nothing in Lean hashes anything: it is a label: what it is worth is what the hold of that sum in a sandbox is worth. -/
noncomputable def Try.pinned : Pinned := { name := "ytbpolmdokdhkhaa", sum := "a8fd1b45edb6442e9737739e81f84b3f3fa9b4e7bff5cae3fe4eb3a99b4f9361", checked := Try.checked }
namespace Rows
def none {H : Type} : Left H := { results := [], args := [] }

/-- 'duellaw.Loads': WHATEVER THE INPUT: true; the input reads as it did. -/
def loadsSpec : ChangeSpec := { name := "loads", fn := fun _ => fun
  | [d] => { results := [.lit (.bool true)], args := [d] }
  | _ => none }
def loadsRow : OpenClaim := { program := "ytbpolmdokdhkhaa", sum := "a8fd1b45edb6442e9737739e81f84b3f3fa9b4e7bff5cae3fe4eb3a99b4f9361", func := "duel/duellaw.Loads", spec := "loads", recurses := true, apart := false }
def LoadsSaid : Prop := loadsRow.holds Try.pinned (OpenSpec.ofChange loadsSpec)

/-- ITS FALSE NEIGHBOUR: 'it returns false'. Refute it at one input. -/
def loadsWrong : ChangeSpec := { name := "loads", fn := fun _ => fun
  | [d] => { results := [.lit (.bool false)], args := [d] }
  | _ => none }
def LoadsWrongFalsely : Prop := loadsRow.holds Try.pinned (OpenSpec.ofChange loadsWrong)

/-- 'duellaw.Lists': WHATEVER THE INPUT: true; the input reads as it did. -/
def listsSpec : ChangeSpec := { name := "lists", fn := fun _ => fun
  | [d] => { results := [.lit (.bool true)], args := [d] }
  | _ => none }
def listsRow : OpenClaim := { program := "ytbpolmdokdhkhaa", sum := "a8fd1b45edb6442e9737739e81f84b3f3fa9b4e7bff5cae3fe4eb3a99b4f9361", func := "duel/duellaw.Lists", spec := "lists", recurses := true, apart := false }
def ListsSaid : Prop := listsRow.holds Try.pinned (OpenSpec.ofChange listsSpec)

/-- ITS FALSE NEIGHBOUR: 'it returns false'. Refute it at one input. -/
def listsWrong : ChangeSpec := { name := "lists", fn := fun _ => fun
  | [d] => { results := [.lit (.bool false)], args := [d] }
  | _ => none }
def ListsWrongFalsely : Prop := listsRow.holds Try.pinned (OpenSpec.ofChange listsWrong)

/-- 'duellaw.Checks': WHATEVER THE INPUT: true; the input reads as it did. -/
def checksSpec : ChangeSpec := { name := "checks", fn := fun _ => fun
  | [d] => { results := [.lit (.bool true)], args := [d] }
  | _ => none }
def checksRow : OpenClaim := { program := "ytbpolmdokdhkhaa", sum := "a8fd1b45edb6442e9737739e81f84b3f3fa9b4e7bff5cae3fe4eb3a99b4f9361", func := "duel/duellaw.Checks", spec := "checks", recurses := true, apart := false }
def ChecksSaid : Prop := checksRow.holds Try.pinned (OpenSpec.ofChange checksSpec)

/-- ITS FALSE NEIGHBOUR: 'it returns false'. Refute it at one input. -/
def checksWrong : ChangeSpec := { name := "checks", fn := fun _ => fun
  | [d] => { results := [.lit (.bool false)], args := [d] }
  | _ => none }
def ChecksWrongFalsely : Prop := checksRow.holds Try.pinned (OpenSpec.ofChange checksWrong)

/-- 'duellaw.Duels': WHATEVER THE INPUT: true; the input reads as it did. -/
def duelsSpec : ChangeSpec := { name := "duels", fn := fun _ => fun
  | [d] => { results := [.lit (.bool true)], args := [d] }
  | _ => none }
def duelsRow : OpenClaim := { program := "ytbpolmdokdhkhaa", sum := "a8fd1b45edb6442e9737739e81f84b3f3fa9b4e7bff5cae3fe4eb3a99b4f9361", func := "duel/duellaw.Duels", spec := "duels", recurses := true, apart := false }
def DuelsSaid : Prop := duelsRow.holds Try.pinned (OpenSpec.ofChange duelsSpec)

/-- ITS FALSE NEIGHBOUR: 'it returns false'. Refute it at one input. -/
def duelsWrong : ChangeSpec := { name := "duels", fn := fun _ => fun
  | [d] => { results := [.lit (.bool false)], args := [d] }
  | _ => none }
def DuelsWrongFalsely : Prop := duelsRow.holds Try.pinned (OpenSpec.ofChange duelsWrong)

/-- 'duelkeep.Wrong': WHATEVER THE INPUT: true; the input reads as it did. -/
def wrongSpec : ChangeSpec := { name := "wrong", fn := fun _ => fun
  | [d] => { results := [.lit (.bool true)], args := [d] }
  | _ => none }
def wrongRow : OpenClaim := { program := "ytbpolmdokdhkhaa", sum := "a8fd1b45edb6442e9737739e81f84b3f3fa9b4e7bff5cae3fe4eb3a99b4f9361", func := "duel/duelkeep.Wrong", spec := "wrong", apart := false }
def WrongSaid : Prop := wrongRow.holds Try.pinned (OpenSpec.ofChange wrongSpec)

/-- ITS FALSE NEIGHBOUR: 'it returns false'. Refute it at one input. -/
def wrongWrong : ChangeSpec := { name := "wrong", fn := fun _ => fun
  | [d] => { results := [.lit (.bool false)], args := [d] }
  | _ => none }
def WrongWrongFalsely : Prop := wrongRow.holds Try.pinned (OpenSpec.ofChange wrongWrong)

/- THE SECOND FORM. 'bulk': how many values and letters a reading holds, each counted each time it is reached (what is shared counts as often as it is met; a slice's spare places count too). A statement '..UptoSaid' is the law's where the arguments, and the package variables that the reading takes, are together of bulk at most 1048576: NARROWER than '..Said'. Prove '..Said' where nothing that the law and all that it calls make is longer than what came in: it says more and counts as full. Else prove '..UptoSaid'. A law counts once. -/
mutual
def uptoBulk {H : Type} : DataW H → Nat
  | .lit (.string bytes) => bytes.length + 1
  | .lit _ => 1
  | .nil => 1
  | .ptr d => uptoBulk d + 1
  | .slice elems spare => uptoBulkAll elems + uptoBulkAll spare + 1
  | .agg parts => uptoBulkAll parts + 1
  | .iface _ d => uptoBulk d + 1
  | .map entries => uptoBulkEntries entries + 1
  | .held _ => 1
def uptoBulkAll {H : Type} : List (DataW H) → Nat
  | [] => 0
  | d :: r => uptoBulk d + uptoBulkAll r
def uptoBulkEntries {H : Type} : List (Lit × DataW H) → Nat
  | [] => 0
  | x :: r => uptoBulkEntry x + uptoBulkEntries r
def uptoBulkEntry {H : Type} : Lit × DataW H → Nat
  | (.string bytes, d) => bytes.length + uptoBulk d + 1
  | (_, d) => uptoBulk d + 1
 end
def uptoSmall : (H : Type) → List (DataW H) → Bool := fun _ ds => decide (uptoBulkAll ds ≤ 1048576)
def OpenSpec.upto (s : _root_.Go.ChangeSpec) : _root_.Go.OpenSpec := { _root_.Go.OpenSpec.ofChange s with cond := some uptoSmall }

/-- 'duellaw.Loads', WHERE WHAT IT READS IS OF BULK AT MOST 1048576: true; the input reads as it did. -/
def loadsUptoRow : OpenClaim := { program := "ytbpolmdokdhkhaa", sum := "a8fd1b45edb6442e9737739e81f84b3f3fa9b4e7bff5cae3fe4eb3a99b4f9361", func := "duel/duellaw.Loads", spec := "loads", recurses := true, apart := false, narrowed := true }
def LoadsUptoSaid : Prop := loadsUptoRow.holds Try.pinned (OpenSpec.upto loadsSpec)

/-- 'duellaw.Lists', WHERE WHAT IT READS IS OF BULK AT MOST 1048576: true; the input reads as it did. -/
def listsUptoRow : OpenClaim := { program := "ytbpolmdokdhkhaa", sum := "a8fd1b45edb6442e9737739e81f84b3f3fa9b4e7bff5cae3fe4eb3a99b4f9361", func := "duel/duellaw.Lists", spec := "lists", recurses := true, apart := false, narrowed := true }
def ListsUptoSaid : Prop := listsUptoRow.holds Try.pinned (OpenSpec.upto listsSpec)

/-- 'duellaw.Checks', WHERE WHAT IT READS IS OF BULK AT MOST 1048576: true; the input reads as it did. -/
def checksUptoRow : OpenClaim := { program := "ytbpolmdokdhkhaa", sum := "a8fd1b45edb6442e9737739e81f84b3f3fa9b4e7bff5cae3fe4eb3a99b4f9361", func := "duel/duellaw.Checks", spec := "checks", recurses := true, apart := false, narrowed := true }
def ChecksUptoSaid : Prop := checksUptoRow.holds Try.pinned (OpenSpec.upto checksSpec)

/-- 'duellaw.Duels', WHERE WHAT IT READS IS OF BULK AT MOST 1048576: true; the input reads as it did. -/
def duelsUptoRow : OpenClaim := { program := "ytbpolmdokdhkhaa", sum := "a8fd1b45edb6442e9737739e81f84b3f3fa9b4e7bff5cae3fe4eb3a99b4f9361", func := "duel/duellaw.Duels", spec := "duels", recurses := true, apart := false, narrowed := true }
def DuelsUptoSaid : Prop := duelsUptoRow.holds Try.pinned (OpenSpec.upto duelsSpec)

/-- 'duelkeep.Wrong', WHERE WHAT IT READS IS OF BULK AT MOST 1048576: true; the input reads as it did. -/
def wrongUptoRow : OpenClaim := { program := "ytbpolmdokdhkhaa", sum := "a8fd1b45edb6442e9737739e81f84b3f3fa9b4e7bff5cae3fe4eb3a99b4f9361", func := "duel/duelkeep.Wrong", spec := "wrong", apart := false, narrowed := true }
def WrongUptoSaid : Prop := wrongUptoRow.holds Try.pinned (OpenSpec.upto wrongSpec)

end Rows
end Go.Proofs.Ytbpolmdokdhkhaa
