/-
  No cell of these rows narrows 'for every input' (looked for: loops, veiled, ifaces, maps, wideKeys, modest, calm, conditions, laid).
  DERIVED. THE GIVEN ROWS OF THIS SEAT. 4 by the template 'for every input the law returns true; each argument reads behind the call as it read before'; 0 by the template 'total and deterministic' (their statements: YtcnmpgkapedniaaTotals.lean).
  GIVEN WITH THE SEED: the statements are not yours to turn. If you find one false, say at which input.
  Laid BY PROGRAM, IN A SANDBOX (cutbox-rows.mjs): the forced cells as the released guide's own fill.sh prints them over the translation 1a9aaa2c849b8f0e… (all of the seat's roots in one cut). By AI agents, Wed Nov 11 2026. No macro, syntax, notation, axiom, sorry.
-/
import Derived.Test.YtcnmpgkapedniaaChecked
import GoSem.Claim
import GoSem.ClaimJoined
import GoSem.ClaimMapViews
import Derived.JoinedTies
import Derived.KernelRfl
namespace Go.Proofs.Ytcnmpgkapedniaa
/- THE CELL 'sum', in the pinned program and in every row, IS THE sha256 OF THE DUMP (.gsa) THAT YtcnmpgkapedniaaProg.lean LOADS. Nothing in Lean hashes anything: it is a label: what it is worth is what the hold of that sum in a sandbox is worth. -/
noncomputable def Try.pinned : Pinned := { name := "ytcnmpgkapedniaa", sum := "1a9aaa2c849b8f0e2f5a7371547c5f664cd2fc863f5ce85673fddfadc26fde35", checked := Try.checked }
namespace Rows
def none {H : Type} : Left H := { results := [], args := [] }

/-- 'ringlaw1.PrioPlays': WHATEVER THE INPUT: true; the input reads as it did. -/
def prioPlaysSpec : ChangeSpec := { name := "prioPlays", fn := fun _ => fun
  | [d] => { results := [.lit (.bool true)], args := [d] }
  | _ => none }
def prioPlaysRow : OpenClaim := { program := "ytcnmpgkapedniaa", sum := "1a9aaa2c849b8f0e2f5a7371547c5f664cd2fc863f5ce85673fddfadc26fde35", func := "ringhall/ringlaw1.PrioPlays", spec := "prioPlays", apart := false }
def PrioPlaysSaid : Prop := prioPlaysRow.holds Try.pinned (OpenSpec.ofChange prioPlaysSpec)

/-- ITS FALSE NEIGHBOUR: 'it returns false'. Refute it at one input. -/
def prioPlaysWrong : ChangeSpec := { name := "prioPlays", fn := fun _ => fun
  | [d] => { results := [.lit (.bool false)], args := [d] }
  | _ => none }
def PrioPlaysWrongFalsely : Prop := prioPlaysRow.holds Try.pinned (OpenSpec.ofChange prioPlaysWrong)

/-- 'ringkeep1.PrioGoes': WHATEVER THE INPUT: true; the input reads as it did. -/
def prioGoesSpec : ChangeSpec := { name := "prioGoes", fn := fun _ => fun
  | [d] => { results := [.lit (.bool true)], args := [d] }
  | _ => none }
def prioGoesRow : OpenClaim := { program := "ytcnmpgkapedniaa", sum := "1a9aaa2c849b8f0e2f5a7371547c5f664cd2fc863f5ce85673fddfadc26fde35", func := "ringhall/ringkeep1.PrioGoes", spec := "prioGoes", unfollowed := true, recurses := true, apart := false }
def PrioGoesSaid : Prop := prioGoesRow.holds Try.pinned (OpenSpec.ofChange prioGoesSpec)

/-- ITS FALSE NEIGHBOUR: 'it returns false'. Refute it at one input. -/
def prioGoesWrong : ChangeSpec := { name := "prioGoes", fn := fun _ => fun
  | [d] => { results := [.lit (.bool false)], args := [d] }
  | _ => none }
def PrioGoesWrongFalsely : Prop := prioGoesRow.holds Try.pinned (OpenSpec.ofChange prioGoesWrong)

/-- 'ringkeep1.PrioTurns': WHATEVER THE INPUT: true; the input reads as it did. -/
def prioTurnsSpec : ChangeSpec := { name := "prioTurns", fn := fun _ => fun
  | [d1, d2] => { results := [.lit (.bool true)], args := [d1, d2] }
  | _ => none }
def prioTurnsRow : OpenClaim := { program := "ytcnmpgkapedniaa", sum := "1a9aaa2c849b8f0e2f5a7371547c5f664cd2fc863f5ce85673fddfadc26fde35", func := "ringhall/ringkeep1.PrioTurns", spec := "prioTurns", apart := false }
def PrioTurnsSaid : Prop := prioTurnsRow.holds Try.pinned (OpenSpec.ofChange prioTurnsSpec)

/-- ITS FALSE NEIGHBOUR: 'it returns false'. Refute it at one input. -/
def prioTurnsWrong : ChangeSpec := { name := "prioTurns", fn := fun _ => fun
  | [d1, d2] => { results := [.lit (.bool false)], args := [d1, d2] }
  | _ => none }
def PrioTurnsWrongFalsely : Prop := prioTurnsRow.holds Try.pinned (OpenSpec.ofChange prioTurnsWrong)

/-- 'ringkeep1.PrioBits': WHATEVER THE INPUT: true; the input reads as it did. -/
def prioBitsSpec : ChangeSpec := { name := "prioBits", fn := fun _ => fun
  | [d] => { results := [.lit (.bool true)], args := [d] }
  | _ => none }
def prioBitsRow : OpenClaim := { program := "ytcnmpgkapedniaa", sum := "1a9aaa2c849b8f0e2f5a7371547c5f664cd2fc863f5ce85673fddfadc26fde35", func := "ringhall/ringkeep1.PrioBits", spec := "prioBits", apart := false }
def PrioBitsSaid : Prop := prioBitsRow.holds Try.pinned (OpenSpec.ofChange prioBitsSpec)

/-- ITS FALSE NEIGHBOUR: 'it returns false'. Refute it at one input. -/
def prioBitsWrong : ChangeSpec := { name := "prioBits", fn := fun _ => fun
  | [d] => { results := [.lit (.bool false)], args := [d] }
  | _ => none }
def PrioBitsWrongFalsely : Prop := prioBitsRow.holds Try.pinned (OpenSpec.ofChange prioBitsWrong)

/- THE SECOND FORM. 'bulk': how many values and letters a reading holds, each counted each time it is reached (what is shared counts as often as it is met; a slice's spare places count too). A statement '..UptoSaid' is the law's where the arguments, and the package variables that the reading takes, are together of bulk at most 1048576: NARROWER than '..Said'. Prove '..Said' where nothing that the law and all that it calls make is longer than what came in: it says more and counts as full. Else prove '..UptoSaid'. A law counts once. -/
mutual
def uptoBulk {H : Type} : DataW H → Nat
  | .lit (.string bytes) => bytes.length + 1
  | .lit _ => 1
  | .nil => 1
  | .ptr d => uptoBulk d + 1
  | .slice elems spare => uptoBulkAll elems + uptoBulkAll spare + 1
  | .agg parts => uptoBulkAll parts + 1
  | .iface _ d => uptoBulk d + 1
  | .map entries => uptoBulkEntries entries + 1
  | .held _ => 1
def uptoBulkAll {H : Type} : List (DataW H) → Nat
  | [] => 0
  | d :: r => uptoBulk d + uptoBulkAll r
def uptoBulkEntries {H : Type} : List (Lit × DataW H) → Nat
  | [] => 0
  | x :: r => uptoBulkEntry x + uptoBulkEntries r
def uptoBulkEntry {H : Type} : Lit × DataW H → Nat
  | (.string bytes, d) => bytes.length + uptoBulk d + 1
  | (_, d) => uptoBulk d + 1
 end
def uptoSmall : (H : Type) → List (DataW H) → Bool := fun _ ds => decide (uptoBulkAll ds ≤ 1048576)
def OpenSpec.upto (s : _root_.Go.ChangeSpec) : _root_.Go.OpenSpec := { _root_.Go.OpenSpec.ofChange s with cond := some uptoSmall }

/-- 'ringlaw1.PrioPlays', WHERE WHAT IT READS IS OF BULK AT MOST 1048576: true; the input reads as it did. -/
def prioPlaysUptoRow : OpenClaim := { program := "ytcnmpgkapedniaa", sum := "1a9aaa2c849b8f0e2f5a7371547c5f664cd2fc863f5ce85673fddfadc26fde35", func := "ringhall/ringlaw1.PrioPlays", spec := "prioPlays", apart := false, narrowed := true }
def PrioPlaysUptoSaid : Prop := prioPlaysUptoRow.holds Try.pinned (OpenSpec.upto prioPlaysSpec)

/-- 'ringkeep1.PrioGoes', WHERE WHAT IT READS IS OF BULK AT MOST 1048576: true; the input reads as it did. -/
def prioGoesUptoRow : OpenClaim := { program := "ytcnmpgkapedniaa", sum := "1a9aaa2c849b8f0e2f5a7371547c5f664cd2fc863f5ce85673fddfadc26fde35", func := "ringhall/ringkeep1.PrioGoes", spec := "prioGoes", unfollowed := true, recurses := true, apart := false, narrowed := true }
def PrioGoesUptoSaid : Prop := prioGoesUptoRow.holds Try.pinned (OpenSpec.upto prioGoesSpec)

/-- 'ringkeep1.PrioTurns', WHERE WHAT IT READS IS OF BULK AT MOST 1048576: true; the input reads as it did. -/
def prioTurnsUptoRow : OpenClaim := { program := "ytcnmpgkapedniaa", sum := "1a9aaa2c849b8f0e2f5a7371547c5f664cd2fc863f5ce85673fddfadc26fde35", func := "ringhall/ringkeep1.PrioTurns", spec := "prioTurns", apart := false, narrowed := true }
def PrioTurnsUptoSaid : Prop := prioTurnsUptoRow.holds Try.pinned (OpenSpec.upto prioTurnsSpec)

/-- 'ringkeep1.PrioBits', WHERE WHAT IT READS IS OF BULK AT MOST 1048576: true; the input reads as it did. -/
def prioBitsUptoRow : OpenClaim := { program := "ytcnmpgkapedniaa", sum := "1a9aaa2c849b8f0e2f5a7371547c5f664cd2fc863f5ce85673fddfadc26fde35", func := "ringhall/ringkeep1.PrioBits", spec := "prioBits", apart := false, narrowed := true }
def PrioBitsUptoSaid : Prop := prioBitsUptoRow.holds Try.pinned (OpenSpec.upto prioBitsSpec)

end Rows
end Go.Proofs.Ytcnmpgkapedniaa
