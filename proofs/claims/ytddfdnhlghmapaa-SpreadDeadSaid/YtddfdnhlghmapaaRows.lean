/-
  No cell of these rows narrows 'for every input' (looked for: loops, veiled, ifaces, maps, wideKeys, modest, calm, conditions, laid).
  DERIVED. THE GIVEN ROWS OF THIS SEAT. 8 by the template 'for every input the law returns true; each argument reads behind the call as it read before'; 0 by the template 'total and deterministic' (their statements: YtddfdnhlghmapaaTotals.lean).
  GIVEN WITH THE SEED: the statements are not yours to turn. If you find one false, say at which input.
  Laid BY PROGRAM, IN A SANDBOX (cutbox-rows.mjs): the forced cells as the released guide's own fill.sh prints them over the translation 6be43980a6dba940… (all of the seat's roots in one cut). By AI agents, Wed Nov 11 2026. No macro, syntax, notation, axiom, sorry.
-/
import Derived.Test.YtddfdnhlghmapaaChecked
import GoSem.Claim
import GoSem.ClaimJoined
import GoSem.ClaimMapViews
import Derived.JoinedTies
import Derived.KernelRfl
namespace Go.Proofs.Ytddfdnhlghmapaa
/- THE CELL 'sum', in the pinned program and in every row, IS THE sha256 OF THE DUMP (.gsa) THAT YtddfdnhlghmapaaProg.lean LOADS. Nothing in Lean hashes anything: it is a label: what it is worth is what the hold of that sum in a sandbox is worth. -/
noncomputable def Try.pinned : Pinned := { name := "ytddfdnhlghmapaa", sum := "6be43980a6dba940616860f5a4382f832e0eccaffba12b1a35d55be5efaa5161", checked := Try.checked }
namespace Rows
def none {H : Type} : Left H := { results := [], args := [] }

/-- 'ringlaw1.WaitPlays': WHATEVER THE INPUT: true; the input reads as it did. -/
def waitPlaysSpec : ChangeSpec := { name := "waitPlays", fn := fun _ => fun
  | [d] => { results := [.lit (.bool true)], args := [d] }
  | _ => none }
def waitPlaysRow : OpenClaim := { program := "ytddfdnhlghmapaa", sum := "6be43980a6dba940616860f5a4382f832e0eccaffba12b1a35d55be5efaa5161", func := "ringhall/ringlaw1.WaitPlays", spec := "waitPlays", unfollowed := true, recurses := true, apart := false }
def WaitPlaysSaid : Prop := waitPlaysRow.holds Try.pinned (OpenSpec.ofChange waitPlaysSpec)

/-- ITS FALSE NEIGHBOUR: 'it returns false'. Refute it at one input. -/
def waitPlaysWrong : ChangeSpec := { name := "waitPlays", fn := fun _ => fun
  | [d] => { results := [.lit (.bool false)], args := [d] }
  | _ => none }
def WaitPlaysWrongFalsely : Prop := waitPlaysRow.holds Try.pinned (OpenSpec.ofChange waitPlaysWrong)

/-- 'ringkeep1.WaitLost': WHATEVER THE INPUT: true; the input reads as it did. -/
def waitLostSpec : ChangeSpec := { name := "waitLost", fn := fun _ => fun
  | [d1, d2, d3, d4] => { results := [.lit (.bool true)], args := [d1, d2, d3, d4] }
  | _ => none }
def waitLostRow : OpenClaim := { program := "ytddfdnhlghmapaa", sum := "6be43980a6dba940616860f5a4382f832e0eccaffba12b1a35d55be5efaa5161", func := "ringhall/ringkeep1.WaitLost", spec := "waitLost", unfollowed := true, recurses := true, apart := false }
def WaitLostSaid : Prop := waitLostRow.holds Try.pinned (OpenSpec.ofChange waitLostSpec)

/-- ITS FALSE NEIGHBOUR: 'it returns false'. Refute it at one input. -/
def waitLostWrong : ChangeSpec := { name := "waitLost", fn := fun _ => fun
  | [d1, d2, d3, d4] => { results := [.lit (.bool false)], args := [d1, d2, d3, d4] }
  | _ => none }
def WaitLostWrongFalsely : Prop := waitLostRow.holds Try.pinned (OpenSpec.ofChange waitLostWrong)

/-- 'ringkeep1.WaitWakes': WHATEVER THE INPUT: true; the input reads as it did. -/
def waitWakesSpec : ChangeSpec := { name := "waitWakes", fn := fun _ => fun
  | [d1, d2] => { results := [.lit (.bool true)], args := [d1, d2] }
  | _ => none }
def waitWakesRow : OpenClaim := { program := "ytddfdnhlghmapaa", sum := "6be43980a6dba940616860f5a4382f832e0eccaffba12b1a35d55be5efaa5161", func := "ringhall/ringkeep1.WaitWakes", spec := "waitWakes", unfollowed := true, recurses := true, apart := false }
def WaitWakesSaid : Prop := waitWakesRow.holds Try.pinned (OpenSpec.ofChange waitWakesSpec)

/-- ITS FALSE NEIGHBOUR: 'it returns false'. Refute it at one input. -/
def waitWakesWrong : ChangeSpec := { name := "waitWakes", fn := fun _ => fun
  | [d1, d2] => { results := [.lit (.bool false)], args := [d1, d2] }
  | _ => none }
def WaitWakesWrongFalsely : Prop := waitWakesRow.holds Try.pinned (OpenSpec.ofChange waitWakesWrong)

/-- 'ringlaw1.SpreadPlays': WHATEVER THE INPUT: true; the input reads as it did. -/
def spreadPlaysSpec : ChangeSpec := { name := "spreadPlays", fn := fun _ => fun
  | [d1, d2] => { results := [.lit (.bool true)], args := [d1, d2] }
  | _ => none }
def spreadPlaysRow : OpenClaim := { program := "ytddfdnhlghmapaa", sum := "6be43980a6dba940616860f5a4382f832e0eccaffba12b1a35d55be5efaa5161", func := "ringhall/ringlaw1.SpreadPlays", spec := "spreadPlays", unfollowed := true, recurses := true, apart := false }
def SpreadPlaysSaid : Prop := spreadPlaysRow.holds Try.pinned (OpenSpec.ofChange spreadPlaysSpec)

/-- ITS FALSE NEIGHBOUR: 'it returns false'. Refute it at one input. -/
def spreadPlaysWrong : ChangeSpec := { name := "spreadPlays", fn := fun _ => fun
  | [d1, d2] => { results := [.lit (.bool false)], args := [d1, d2] }
  | _ => none }
def SpreadPlaysWrongFalsely : Prop := spreadPlaysRow.holds Try.pinned (OpenSpec.ofChange spreadPlaysWrong)

/-- 'ringkeep1.SpreadShares': WHATEVER THE INPUT: true; the input reads as it did. -/
def spreadSharesSpec : ChangeSpec := { name := "spreadShares", fn := fun _ => fun
  | [d1, d2] => { results := [.lit (.bool true)], args := [d1, d2] }
  | _ => none }
def spreadSharesRow : OpenClaim := { program := "ytddfdnhlghmapaa", sum := "6be43980a6dba940616860f5a4382f832e0eccaffba12b1a35d55be5efaa5161", func := "ringhall/ringkeep1.SpreadShares", spec := "spreadShares", apart := false }
def SpreadSharesSaid : Prop := spreadSharesRow.holds Try.pinned (OpenSpec.ofChange spreadSharesSpec)

/-- ITS FALSE NEIGHBOUR: 'it returns false'. Refute it at one input. -/
def spreadSharesWrong : ChangeSpec := { name := "spreadShares", fn := fun _ => fun
  | [d1, d2] => { results := [.lit (.bool false)], args := [d1, d2] }
  | _ => none }
def SpreadSharesWrongFalsely : Prop := spreadSharesRow.holds Try.pinned (OpenSpec.ofChange spreadSharesWrong)

/-- 'ringkeep1.SpreadRound': WHATEVER THE INPUT: true; the input reads as it did. -/
def spreadRoundSpec : ChangeSpec := { name := "spreadRound", fn := fun _ => fun
  | [d1, d2, d3, d4] => { results := [.lit (.bool true)], args := [d1, d2, d3, d4] }
  | _ => none }
def spreadRoundRow : OpenClaim := { program := "ytddfdnhlghmapaa", sum := "6be43980a6dba940616860f5a4382f832e0eccaffba12b1a35d55be5efaa5161", func := "ringhall/ringkeep1.SpreadRound", spec := "spreadRound", apart := false }
def SpreadRoundSaid : Prop := spreadRoundRow.holds Try.pinned (OpenSpec.ofChange spreadRoundSpec)

/-- ITS FALSE NEIGHBOUR: 'it returns false'. Refute it at one input. -/
def spreadRoundWrong : ChangeSpec := { name := "spreadRound", fn := fun _ => fun
  | [d1, d2, d3, d4] => { results := [.lit (.bool false)], args := [d1, d2, d3, d4] }
  | _ => none }
def SpreadRoundWrongFalsely : Prop := spreadRoundRow.holds Try.pinned (OpenSpec.ofChange spreadRoundWrong)

/-- 'ringkeep1.SpreadFull': WHATEVER THE INPUT: true; the input reads as it did. -/
def spreadFullSpec : ChangeSpec := { name := "spreadFull", fn := fun _ => fun
  | [d1, d2, d3] => { results := [.lit (.bool true)], args := [d1, d2, d3] }
  | _ => none }
def spreadFullRow : OpenClaim := { program := "ytddfdnhlghmapaa", sum := "6be43980a6dba940616860f5a4382f832e0eccaffba12b1a35d55be5efaa5161", func := "ringhall/ringkeep1.SpreadFull", spec := "spreadFull", apart := false }
def SpreadFullSaid : Prop := spreadFullRow.holds Try.pinned (OpenSpec.ofChange spreadFullSpec)

/-- ITS FALSE NEIGHBOUR: 'it returns false'. Refute it at one input. -/
def spreadFullWrong : ChangeSpec := { name := "spreadFull", fn := fun _ => fun
  | [d1, d2, d3] => { results := [.lit (.bool false)], args := [d1, d2, d3] }
  | _ => none }
def SpreadFullWrongFalsely : Prop := spreadFullRow.holds Try.pinned (OpenSpec.ofChange spreadFullWrong)

/-- 'ringkeep1.SpreadDead': WHATEVER THE INPUT: true; the input reads as it did. -/
def spreadDeadSpec : ChangeSpec := { name := "spreadDead", fn := fun _ => fun
  | [d1, d2, d3] => { results := [.lit (.bool true)], args := [d1, d2, d3] }
  | _ => none }
def spreadDeadRow : OpenClaim := { program := "ytddfdnhlghmapaa", sum := "6be43980a6dba940616860f5a4382f832e0eccaffba12b1a35d55be5efaa5161", func := "ringhall/ringkeep1.SpreadDead", spec := "spreadDead", unfollowed := true, recurses := true, apart := false }
def SpreadDeadSaid : Prop := spreadDeadRow.holds Try.pinned (OpenSpec.ofChange spreadDeadSpec)

/-- ITS FALSE NEIGHBOUR: 'it returns false'. Refute it at one input. -/
def spreadDeadWrong : ChangeSpec := { name := "spreadDead", fn := fun _ => fun
  | [d1, d2, d3] => { results := [.lit (.bool false)], args := [d1, d2, d3] }
  | _ => none }
def SpreadDeadWrongFalsely : Prop := spreadDeadRow.holds Try.pinned (OpenSpec.ofChange spreadDeadWrong)

/- THE SECOND FORM. 'bulk': how many values and letters a reading holds, each counted each time it is reached (what is shared counts as often as it is met; a slice's spare places count too). A statement '..UptoSaid' is the law's where the arguments, and the package variables that the reading takes, are together of bulk at most 1048576: NARROWER than '..Said'. Prove '..Said' where nothing that the law and all that it calls make is longer than what came in: it says more and counts as full. Else prove '..UptoSaid'. A law counts once. -/
mutual
def uptoBulk {H : Type} : DataW H → Nat
  | .lit (.string bytes) => bytes.length + 1
  | .lit _ => 1
  | .nil => 1
  | .ptr d => uptoBulk d + 1
  | .slice elems spare => uptoBulkAll elems + uptoBulkAll spare + 1
  | .agg parts => uptoBulkAll parts + 1
  | .iface _ d => uptoBulk d + 1
  | .map entries => uptoBulkEntries entries + 1
  | .held _ => 1
def uptoBulkAll {H : Type} : List (DataW H) → Nat
  | [] => 0
  | d :: r => uptoBulk d + uptoBulkAll r
def uptoBulkEntries {H : Type} : List (Lit × DataW H) → Nat
  | [] => 0
  | x :: r => uptoBulkEntry x + uptoBulkEntries r
def uptoBulkEntry {H : Type} : Lit × DataW H → Nat
  | (.string bytes, d) => bytes.length + uptoBulk d + 1
  | (_, d) => uptoBulk d + 1
 end
def uptoSmall : (H : Type) → List (DataW H) → Bool := fun _ ds => decide (uptoBulkAll ds ≤ 1048576)
def OpenSpec.upto (s : _root_.Go.ChangeSpec) : _root_.Go.OpenSpec := { _root_.Go.OpenSpec.ofChange s with cond := some uptoSmall }

/-- 'ringlaw1.WaitPlays', WHERE WHAT IT READS IS OF BULK AT MOST 1048576: true; the input reads as it did. -/
def waitPlaysUptoRow : OpenClaim := { program := "ytddfdnhlghmapaa", sum := "6be43980a6dba940616860f5a4382f832e0eccaffba12b1a35d55be5efaa5161", func := "ringhall/ringlaw1.WaitPlays", spec := "waitPlays", unfollowed := true, recurses := true, apart := false, narrowed := true }
def WaitPlaysUptoSaid : Prop := waitPlaysUptoRow.holds Try.pinned (OpenSpec.upto waitPlaysSpec)

/-- 'ringkeep1.WaitLost', WHERE WHAT IT READS IS OF BULK AT MOST 1048576: true; the input reads as it did. -/
def waitLostUptoRow : OpenClaim := { program := "ytddfdnhlghmapaa", sum := "6be43980a6dba940616860f5a4382f832e0eccaffba12b1a35d55be5efaa5161", func := "ringhall/ringkeep1.WaitLost", spec := "waitLost", unfollowed := true, recurses := true, apart := false, narrowed := true }
def WaitLostUptoSaid : Prop := waitLostUptoRow.holds Try.pinned (OpenSpec.upto waitLostSpec)

/-- 'ringkeep1.WaitWakes', WHERE WHAT IT READS IS OF BULK AT MOST 1048576: true; the input reads as it did. -/
def waitWakesUptoRow : OpenClaim := { program := "ytddfdnhlghmapaa", sum := "6be43980a6dba940616860f5a4382f832e0eccaffba12b1a35d55be5efaa5161", func := "ringhall/ringkeep1.WaitWakes", spec := "waitWakes", unfollowed := true, recurses := true, apart := false, narrowed := true }
def WaitWakesUptoSaid : Prop := waitWakesUptoRow.holds Try.pinned (OpenSpec.upto waitWakesSpec)

/-- 'ringlaw1.SpreadPlays', WHERE WHAT IT READS IS OF BULK AT MOST 1048576: true; the input reads as it did. -/
def spreadPlaysUptoRow : OpenClaim := { program := "ytddfdnhlghmapaa", sum := "6be43980a6dba940616860f5a4382f832e0eccaffba12b1a35d55be5efaa5161", func := "ringhall/ringlaw1.SpreadPlays", spec := "spreadPlays", unfollowed := true, recurses := true, apart := false, narrowed := true }
def SpreadPlaysUptoSaid : Prop := spreadPlaysUptoRow.holds Try.pinned (OpenSpec.upto spreadPlaysSpec)

/-- 'ringkeep1.SpreadShares', WHERE WHAT IT READS IS OF BULK AT MOST 1048576: true; the input reads as it did. -/
def spreadSharesUptoRow : OpenClaim := { program := "ytddfdnhlghmapaa", sum := "6be43980a6dba940616860f5a4382f832e0eccaffba12b1a35d55be5efaa5161", func := "ringhall/ringkeep1.SpreadShares", spec := "spreadShares", apart := false, narrowed := true }
def SpreadSharesUptoSaid : Prop := spreadSharesUptoRow.holds Try.pinned (OpenSpec.upto spreadSharesSpec)

/-- 'ringkeep1.SpreadRound', WHERE WHAT IT READS IS OF BULK AT MOST 1048576: true; the input reads as it did. -/
def spreadRoundUptoRow : OpenClaim := { program := "ytddfdnhlghmapaa", sum := "6be43980a6dba940616860f5a4382f832e0eccaffba12b1a35d55be5efaa5161", func := "ringhall/ringkeep1.SpreadRound", spec := "spreadRound", apart := false, narrowed := true }
def SpreadRoundUptoSaid : Prop := spreadRoundUptoRow.holds Try.pinned (OpenSpec.upto spreadRoundSpec)

/-- 'ringkeep1.SpreadFull', WHERE WHAT IT READS IS OF BULK AT MOST 1048576: true; the input reads as it did. -/
def spreadFullUptoRow : OpenClaim := { program := "ytddfdnhlghmapaa", sum := "6be43980a6dba940616860f5a4382f832e0eccaffba12b1a35d55be5efaa5161", func := "ringhall/ringkeep1.SpreadFull", spec := "spreadFull", apart := false, narrowed := true }
def SpreadFullUptoSaid : Prop := spreadFullUptoRow.holds Try.pinned (OpenSpec.upto spreadFullSpec)

/-- 'ringkeep1.SpreadDead', WHERE WHAT IT READS IS OF BULK AT MOST 1048576: true; the input reads as it did. -/
def spreadDeadUptoRow : OpenClaim := { program := "ytddfdnhlghmapaa", sum := "6be43980a6dba940616860f5a4382f832e0eccaffba12b1a35d55be5efaa5161", func := "ringhall/ringkeep1.SpreadDead", spec := "spreadDead", unfollowed := true, recurses := true, apart := false, narrowed := true }
def SpreadDeadUptoSaid : Prop := spreadDeadUptoRow.holds Try.pinned (OpenSpec.upto spreadDeadSpec)

end Rows
end Go.Proofs.Ytddfdnhlghmapaa
