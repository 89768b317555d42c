/-
  No cell of these rows narrows 'for every input' (looked for: loops, veiled, ifaces, maps, wideKeys, modest, calm, conditions, laid).
  DERIVED. THE GIVEN ROWS OF THIS SEAT. 5 by the template 'for every input the law returns true; each argument reads behind the call as it read before'; 0 by the template 'total and deterministic' (their statements: YtijpiloljgpnkaaTotals.lean).
  GIVEN WITH THE SEED: the statements are not yours to turn. If you find one false, say at which input.
  Laid BY PROGRAM, IN A SANDBOX (cutbox-rows.mjs): the forced cells as the released guide's own fill.sh prints them over the translation fb7476ed54ce2f3b… (all of the seat's roots in one cut). By AI agents, Wed Nov 11 2026. No macro, syntax, notation, axiom, sorry.
-/
import Derived.Test.YtijpiloljgpnkaaChecked
import GoSem.Claim
import GoSem.ClaimJoined
import GoSem.ClaimMapViews
import Derived.JoinedTies
import Derived.KernelRfl
namespace Go.Proofs.Ytijpiloljgpnkaa
/- THE CELL 'sum', in the pinned program and in every row, IS THE sha256 OF THE DUMP (.gsa) THAT YtijpiloljgpnkaaProg.lean LOADS. Nothing in Lean hashes anything: it is a label: what it is worth is what the hold of that sum in a sandbox is worth. -/
noncomputable def Try.pinned : Pinned := { name := "ytijpiloljgpnkaa", sum := "fb7476ed54ce2f3beb158a714feb4fc92e8fa03a534f2329b17f64d2e45aedd9", checked := Try.checked }
namespace Rows
def none {H : Type} : Left H := { results := [], args := [] }

/-- 'ringlaw1.DeadPlays': WHATEVER THE INPUT: true; the input reads as it did. -/
def deadPlaysSpec : ChangeSpec := { name := "deadPlays", fn := fun _ => fun
  | [d] => { results := [.lit (.bool true)], args := [d] }
  | _ => none }
def deadPlaysRow : OpenClaim := { program := "ytijpiloljgpnkaa", sum := "fb7476ed54ce2f3beb158a714feb4fc92e8fa03a534f2329b17f64d2e45aedd9", func := "ringhall/ringlaw1.DeadPlays", spec := "deadPlays", inPlace := ["internal/reflectlite.ValueOf", "internal/reflectlite.Swapper", "(internal/reflectlite.Value).Len"], unfollowed := true, recurses := true, apart := false }
def DeadPlaysSaid : Prop := deadPlaysRow.holds Try.pinned (OpenSpec.ofChange deadPlaysSpec)

/-- ITS FALSE NEIGHBOUR: 'it returns false'. Refute it at one input. -/
def deadPlaysWrong : ChangeSpec := { name := "deadPlays", fn := fun _ => fun
  | [d] => { results := [.lit (.bool false)], args := [d] }
  | _ => none }
def DeadPlaysWrongFalsely : Prop := deadPlaysRow.holds Try.pinned (OpenSpec.ofChange deadPlaysWrong)

/-- 'ringkeep1.DeadBudget': WHATEVER THE INPUT: true; the input reads as it did. -/
def deadBudgetSpec : ChangeSpec := { name := "deadBudget", fn := fun _ => fun
  | [d1, d2, d3] => { results := [.lit (.bool true)], args := [d1, d2, d3] }
  | _ => none }
def deadBudgetRow : OpenClaim := { program := "ytijpiloljgpnkaa", sum := "fb7476ed54ce2f3beb158a714feb4fc92e8fa03a534f2329b17f64d2e45aedd9", func := "ringhall/ringkeep1.DeadBudget", spec := "deadBudget", apart := false }
def DeadBudgetSaid : Prop := deadBudgetRow.holds Try.pinned (OpenSpec.ofChange deadBudgetSpec)

/-- ITS FALSE NEIGHBOUR: 'it returns false'. Refute it at one input. -/
def deadBudgetWrong : ChangeSpec := { name := "deadBudget", fn := fun _ => fun
  | [d1, d2, d3] => { results := [.lit (.bool false)], args := [d1, d2, d3] }
  | _ => none }
def DeadBudgetWrongFalsely : Prop := deadBudgetRow.holds Try.pinned (OpenSpec.ofChange deadBudgetWrong)

/-- 'ringkeep1.DeadFirst': WHATEVER THE INPUT: true; the input reads as it did. -/
def deadFirstSpec : ChangeSpec := { name := "deadFirst", fn := fun _ => fun
  | [d1, d2] => { results := [.lit (.bool true)], args := [d1, d2] }
  | _ => none }
def deadFirstRow : OpenClaim := { program := "ytijpiloljgpnkaa", sum := "fb7476ed54ce2f3beb158a714feb4fc92e8fa03a534f2329b17f64d2e45aedd9", func := "ringhall/ringkeep1.DeadFirst", spec := "deadFirst", apart := false }
def DeadFirstSaid : Prop := deadFirstRow.holds Try.pinned (OpenSpec.ofChange deadFirstSpec)

/-- ITS FALSE NEIGHBOUR: 'it returns false'. Refute it at one input. -/
def deadFirstWrong : ChangeSpec := { name := "deadFirst", fn := fun _ => fun
  | [d1, d2] => { results := [.lit (.bool false)], args := [d1, d2] }
  | _ => none }
def DeadFirstWrongFalsely : Prop := deadFirstRow.holds Try.pinned (OpenSpec.ofChange deadFirstWrong)

/-- 'ringkeep1.DeadMeets': WHATEVER THE INPUT: true; the input reads as it did. -/
def deadMeetsSpec : ChangeSpec := { name := "deadMeets", fn := fun _ => fun
  | [d1, d2] => { results := [.lit (.bool true)], args := [d1, d2] }
  | _ => none }
def deadMeetsRow : OpenClaim := { program := "ytijpiloljgpnkaa", sum := "fb7476ed54ce2f3beb158a714feb4fc92e8fa03a534f2329b17f64d2e45aedd9", func := "ringhall/ringkeep1.DeadMeets", spec := "deadMeets", apart := false }
def DeadMeetsSaid : Prop := deadMeetsRow.holds Try.pinned (OpenSpec.ofChange deadMeetsSpec)

/-- ITS FALSE NEIGHBOUR: 'it returns false'. Refute it at one input. -/
def deadMeetsWrong : ChangeSpec := { name := "deadMeets", fn := fun _ => fun
  | [d1, d2] => { results := [.lit (.bool false)], args := [d1, d2] }
  | _ => none }
def DeadMeetsWrongFalsely : Prop := deadMeetsRow.holds Try.pinned (OpenSpec.ofChange deadMeetsWrong)

/-- 'ringkeep1.DeadApart': WHATEVER THE INPUT: true; the input reads as it did. -/
def deadApartSpec : ChangeSpec := { name := "deadApart", fn := fun _ => fun
  | [d1, d2, d3] => { results := [.lit (.bool true)], args := [d1, d2, d3] }
  | _ => none }
def deadApartRow : OpenClaim := { program := "ytijpiloljgpnkaa", sum := "fb7476ed54ce2f3beb158a714feb4fc92e8fa03a534f2329b17f64d2e45aedd9", func := "ringhall/ringkeep1.DeadApart", spec := "deadApart", apart := false }
def DeadApartSaid : Prop := deadApartRow.holds Try.pinned (OpenSpec.ofChange deadApartSpec)

/-- ITS FALSE NEIGHBOUR: 'it returns false'. Refute it at one input. -/
def deadApartWrong : ChangeSpec := { name := "deadApart", fn := fun _ => fun
  | [d1, d2, d3] => { results := [.lit (.bool false)], args := [d1, d2, d3] }
  | _ => none }
def DeadApartWrongFalsely : Prop := deadApartRow.holds Try.pinned (OpenSpec.ofChange deadApartWrong)

/- THE SECOND FORM. 'bulk': how many values and letters a reading holds, each counted each time it is reached (what is shared counts as often as it is met; a slice's spare places count too). A statement '..UptoSaid' is the law's where the arguments, and the package variables that the reading takes, are together of bulk at most 1048576: NARROWER than '..Said'. Prove '..Said' where nothing that the law and all that it calls make is longer than what came in: it says more and counts as full. Else prove '..UptoSaid'. A law counts once. -/
mutual
def uptoBulk {H : Type} : DataW H → Nat
  | .lit (.string bytes) => bytes.length + 1
  | .lit _ => 1
  | .nil => 1
  | .ptr d => uptoBulk d + 1
  | .slice elems spare => uptoBulkAll elems + uptoBulkAll spare + 1
  | .agg parts => uptoBulkAll parts + 1
  | .iface _ d => uptoBulk d + 1
  | .map entries => uptoBulkEntries entries + 1
  | .held _ => 1
def uptoBulkAll {H : Type} : List (DataW H) → Nat
  | [] => 0
  | d :: r => uptoBulk d + uptoBulkAll r
def uptoBulkEntries {H : Type} : List (Lit × DataW H) → Nat
  | [] => 0
  | x :: r => uptoBulkEntry x + uptoBulkEntries r
def uptoBulkEntry {H : Type} : Lit × DataW H → Nat
  | (.string bytes, d) => bytes.length + uptoBulk d + 1
  | (_, d) => uptoBulk d + 1
 end
def uptoSmall : (H : Type) → List (DataW H) → Bool := fun _ ds => decide (uptoBulkAll ds ≤ 1048576)
def OpenSpec.upto (s : _root_.Go.ChangeSpec) : _root_.Go.OpenSpec := { _root_.Go.OpenSpec.ofChange s with cond := some uptoSmall }

/-- 'ringlaw1.DeadPlays', WHERE WHAT IT READS IS OF BULK AT MOST 1048576: true; the input reads as it did. -/
def deadPlaysUptoRow : OpenClaim := { program := "ytijpiloljgpnkaa", sum := "fb7476ed54ce2f3beb158a714feb4fc92e8fa03a534f2329b17f64d2e45aedd9", func := "ringhall/ringlaw1.DeadPlays", spec := "deadPlays", inPlace := ["internal/reflectlite.ValueOf", "internal/reflectlite.Swapper", "(internal/reflectlite.Value).Len"], unfollowed := true, recurses := true, apart := false, narrowed := true }
def DeadPlaysUptoSaid : Prop := deadPlaysUptoRow.holds Try.pinned (OpenSpec.upto deadPlaysSpec)

/-- 'ringkeep1.DeadBudget', WHERE WHAT IT READS IS OF BULK AT MOST 1048576: true; the input reads as it did. -/
def deadBudgetUptoRow : OpenClaim := { program := "ytijpiloljgpnkaa", sum := "fb7476ed54ce2f3beb158a714feb4fc92e8fa03a534f2329b17f64d2e45aedd9", func := "ringhall/ringkeep1.DeadBudget", spec := "deadBudget", apart := false, narrowed := true }
def DeadBudgetUptoSaid : Prop := deadBudgetUptoRow.holds Try.pinned (OpenSpec.upto deadBudgetSpec)

/-- 'ringkeep1.DeadFirst', WHERE WHAT IT READS IS OF BULK AT MOST 1048576: true; the input reads as it did. -/
def deadFirstUptoRow : OpenClaim := { program := "ytijpiloljgpnkaa", sum := "fb7476ed54ce2f3beb158a714feb4fc92e8fa03a534f2329b17f64d2e45aedd9", func := "ringhall/ringkeep1.DeadFirst", spec := "deadFirst", apart := false, narrowed := true }
def DeadFirstUptoSaid : Prop := deadFirstUptoRow.holds Try.pinned (OpenSpec.upto deadFirstSpec)

/-- 'ringkeep1.DeadMeets', WHERE WHAT IT READS IS OF BULK AT MOST 1048576: true; the input reads as it did. -/
def deadMeetsUptoRow : OpenClaim := { program := "ytijpiloljgpnkaa", sum := "fb7476ed54ce2f3beb158a714feb4fc92e8fa03a534f2329b17f64d2e45aedd9", func := "ringhall/ringkeep1.DeadMeets", spec := "deadMeets", apart := false, narrowed := true }
def DeadMeetsUptoSaid : Prop := deadMeetsUptoRow.holds Try.pinned (OpenSpec.upto deadMeetsSpec)

/-- 'ringkeep1.DeadApart', WHERE WHAT IT READS IS OF BULK AT MOST 1048576: true; the input reads as it did. -/
def deadApartUptoRow : OpenClaim := { program := "ytijpiloljgpnkaa", sum := "fb7476ed54ce2f3beb158a714feb4fc92e8fa03a534f2329b17f64d2e45aedd9", func := "ringhall/ringkeep1.DeadApart", spec := "deadApart", apart := false, narrowed := true }
def DeadApartUptoSaid : Prop := deadApartUptoRow.holds Try.pinned (OpenSpec.upto deadApartSpec)

end Rows
end Go.Proofs.Ytijpiloljgpnkaa
