/-
  No cell of these rows narrows 'for every input' (looked for: loops, veiled, ifaces, maps, wideKeys, modest, calm, conditions, laid).
  DERIVED. THE GIVEN ROWS OF THIS SEAT. 9 by the template 'for every input the law returns true; each argument reads behind the call as it read before'; 0 by the template 'total and deterministic' (their statements: YtlohjlhopbhnoaaTotals.lean).
  GIVEN WITH THE SEED: the statements are not yours to turn. If you find one false, say at which input.
  Laid BY PROGRAM, IN A SANDBOX (cutbox-rows.mjs): the forced cells as the released guide's own fill.sh prints them over the translation e9982bf8ccccc528… (all of the seat's roots in one cut). By AI agents, Wed Nov 11 2026. No macro, syntax, notation, axiom, sorry.
-/
import Derived.Test.YtlohjlhopbhnoaaChecked
import GoSem.Claim
import GoSem.ClaimJoined
import GoSem.ClaimMapViews
import Derived.JoinedTies
import Derived.KernelRfl
namespace Go.Proofs.Ytlohjlhopbhnoaa
/- THE CELL 'sum', in the pinned program and in every row, IS THE sha256 OF THE DUMP (.gsa) THAT YtlohjlhopbhnoaaProg.lean LOADS. Nothing in Lean hashes anything: it is a label: what it is worth is what the hold of that sum in a sandbox is worth. -/
noncomputable def Try.pinned : Pinned := { name := "ytlohjlhopbhnoaa", sum := "e9982bf8ccccc528f7d36eb9a68e108ef16531e1adfa6b6359a1e70260dc1904", checked := Try.checked }
namespace Rows
def none {H : Type} : Left H := { results := [], args := [] }

/-- 'ringlaw1.AdmitSays': WHATEVER THE INPUT: true; the input reads as it did. -/
def admitSaysSpec : ChangeSpec := { name := "admitSays", fn := fun _ => fun
  | [d1, d2, d3] => { results := [.lit (.bool true)], args := [d1, d2, d3] }
  | _ => none }
def admitSaysRow : OpenClaim := { program := "ytlohjlhopbhnoaa", sum := "e9982bf8ccccc528f7d36eb9a68e108ef16531e1adfa6b6359a1e70260dc1904", func := "ringhall/ringlaw1.AdmitSays", spec := "admitSays", apart := false }
def AdmitSaysSaid : Prop := admitSaysRow.holds Try.pinned (OpenSpec.ofChange admitSaysSpec)

/-- ITS FALSE NEIGHBOUR: 'it returns false'. Refute it at one input. -/
def admitSaysWrong : ChangeSpec := { name := "admitSays", fn := fun _ => fun
  | [d1, d2, d3] => { results := [.lit (.bool false)], args := [d1, d2, d3] }
  | _ => none }
def AdmitSaysWrongFalsely : Prop := admitSaysRow.holds Try.pinned (OpenSpec.ofChange admitSaysWrong)

/-- 'ringlaw1.AdmitLate': WHATEVER THE INPUT: true; the input reads as it did. -/
def admitLateSpec : ChangeSpec := { name := "admitLate", fn := fun _ => fun
  | [d1, d2] => { results := [.lit (.bool true)], args := [d1, d2] }
  | _ => none }
def admitLateRow : OpenClaim := { program := "ytlohjlhopbhnoaa", sum := "e9982bf8ccccc528f7d36eb9a68e108ef16531e1adfa6b6359a1e70260dc1904", func := "ringhall/ringlaw1.AdmitLate", spec := "admitLate", inPlace := ["internal/reflectlite.ValueOf", "internal/reflectlite.Swapper", "(internal/reflectlite.Value).Len"], unfollowed := true, recurses := true, apart := false }
def AdmitLateSaid : Prop := admitLateRow.holds Try.pinned (OpenSpec.ofChange admitLateSpec)

/-- ITS FALSE NEIGHBOUR: 'it returns false'. Refute it at one input. -/
def admitLateWrong : ChangeSpec := { name := "admitLate", fn := fun _ => fun
  | [d1, d2] => { results := [.lit (.bool false)], args := [d1, d2] }
  | _ => none }
def AdmitLateWrongFalsely : Prop := admitLateRow.holds Try.pinned (OpenSpec.ofChange admitLateWrong)

/-- 'ringkeep1.DeadMeets': WHATEVER THE INPUT: true; the input reads as it did. -/
def deadMeetsSpec : ChangeSpec := { name := "deadMeets", fn := fun _ => fun
  | [d1, d2] => { results := [.lit (.bool true)], args := [d1, d2] }
  | _ => none }
def deadMeetsRow : OpenClaim := { program := "ytlohjlhopbhnoaa", sum := "e9982bf8ccccc528f7d36eb9a68e108ef16531e1adfa6b6359a1e70260dc1904", func := "ringhall/ringkeep1.DeadMeets", spec := "deadMeets", apart := false }
def DeadMeetsSaid : Prop := deadMeetsRow.holds Try.pinned (OpenSpec.ofChange deadMeetsSpec)

/-- ITS FALSE NEIGHBOUR: 'it returns false'. Refute it at one input. -/
def deadMeetsWrong : ChangeSpec := { name := "deadMeets", fn := fun _ => fun
  | [d1, d2] => { results := [.lit (.bool false)], args := [d1, d2] }
  | _ => none }
def DeadMeetsWrongFalsely : Prop := deadMeetsRow.holds Try.pinned (OpenSpec.ofChange deadMeetsWrong)

/-- 'ringkeep1.DeadApart': WHATEVER THE INPUT: true; the input reads as it did. -/
def deadApartSpec : ChangeSpec := { name := "deadApart", fn := fun _ => fun
  | [d1, d2, d3] => { results := [.lit (.bool true)], args := [d1, d2, d3] }
  | _ => none }
def deadApartRow : OpenClaim := { program := "ytlohjlhopbhnoaa", sum := "e9982bf8ccccc528f7d36eb9a68e108ef16531e1adfa6b6359a1e70260dc1904", func := "ringhall/ringkeep1.DeadApart", spec := "deadApart", apart := false }
def DeadApartSaid : Prop := deadApartRow.holds Try.pinned (OpenSpec.ofChange deadApartSpec)

/-- ITS FALSE NEIGHBOUR: 'it returns false'. Refute it at one input. -/
def deadApartWrong : ChangeSpec := { name := "deadApart", fn := fun _ => fun
  | [d1, d2, d3] => { results := [.lit (.bool false)], args := [d1, d2, d3] }
  | _ => none }
def DeadApartWrongFalsely : Prop := deadApartRow.holds Try.pinned (OpenSpec.ofChange deadApartWrong)

/-- 'ringkeep1.AdmitFits': WHATEVER THE INPUT: true; the input reads as it did. -/
def admitFitsSpec : ChangeSpec := { name := "admitFits", fn := fun _ => fun
  | [d1, d2] => { results := [.lit (.bool true)], args := [d1, d2] }
  | _ => none }
def admitFitsRow : OpenClaim := { program := "ytlohjlhopbhnoaa", sum := "e9982bf8ccccc528f7d36eb9a68e108ef16531e1adfa6b6359a1e70260dc1904", func := "ringhall/ringkeep1.AdmitFits", spec := "admitFits", apart := false }
def AdmitFitsSaid : Prop := admitFitsRow.holds Try.pinned (OpenSpec.ofChange admitFitsSpec)

/-- ITS FALSE NEIGHBOUR: 'it returns false'. Refute it at one input. -/
def admitFitsWrong : ChangeSpec := { name := "admitFits", fn := fun _ => fun
  | [d1, d2] => { results := [.lit (.bool false)], args := [d1, d2] }
  | _ => none }
def AdmitFitsWrongFalsely : Prop := admitFitsRow.holds Try.pinned (OpenSpec.ofChange admitFitsWrong)

/-- 'ringkeep1.AdmitAdds': WHATEVER THE INPUT: true; the input reads as it did. -/
def admitAddsSpec : ChangeSpec := { name := "admitAdds", fn := fun _ => fun
  | [d1, d2, d3, d4] => { results := [.lit (.bool true)], args := [d1, d2, d3, d4] }
  | _ => none }
def admitAddsRow : OpenClaim := { program := "ytlohjlhopbhnoaa", sum := "e9982bf8ccccc528f7d36eb9a68e108ef16531e1adfa6b6359a1e70260dc1904", func := "ringhall/ringkeep1.AdmitAdds", spec := "admitAdds", apart := false }
def AdmitAddsSaid : Prop := admitAddsRow.holds Try.pinned (OpenSpec.ofChange admitAddsSpec)

/-- ITS FALSE NEIGHBOUR: 'it returns false'. Refute it at one input. -/
def admitAddsWrong : ChangeSpec := { name := "admitAdds", fn := fun _ => fun
  | [d1, d2, d3, d4] => { results := [.lit (.bool false)], args := [d1, d2, d3, d4] }
  | _ => none }
def AdmitAddsWrongFalsely : Prop := admitAddsRow.holds Try.pinned (OpenSpec.ofChange admitAddsWrong)

/-- 'ringkeep1.AdmitDemand': WHATEVER THE INPUT: true; the input reads as it did. -/
def admitDemandSpec : ChangeSpec := { name := "admitDemand", fn := fun _ => fun
  | [d1, d2] => { results := [.lit (.bool true)], args := [d1, d2] }
  | _ => none }
def admitDemandRow : OpenClaim := { program := "ytlohjlhopbhnoaa", sum := "e9982bf8ccccc528f7d36eb9a68e108ef16531e1adfa6b6359a1e70260dc1904", func := "ringhall/ringkeep1.AdmitDemand", spec := "admitDemand", apart := false }
def AdmitDemandSaid : Prop := admitDemandRow.holds Try.pinned (OpenSpec.ofChange admitDemandSpec)

/-- ITS FALSE NEIGHBOUR: 'it returns false'. Refute it at one input. -/
def admitDemandWrong : ChangeSpec := { name := "admitDemand", fn := fun _ => fun
  | [d1, d2] => { results := [.lit (.bool false)], args := [d1, d2] }
  | _ => none }
def AdmitDemandWrongFalsely : Prop := admitDemandRow.holds Try.pinned (OpenSpec.ofChange admitDemandWrong)

/-- 'ringkeep1.AdmitLess': WHATEVER THE INPUT: true; the input reads as it did. -/
def admitLessSpec : ChangeSpec := { name := "admitLess", fn := fun _ => fun
  | [d1, d2, d3] => { results := [.lit (.bool true)], args := [d1, d2, d3] }
  | _ => none }
def admitLessRow : OpenClaim := { program := "ytlohjlhopbhnoaa", sum := "e9982bf8ccccc528f7d36eb9a68e108ef16531e1adfa6b6359a1e70260dc1904", func := "ringhall/ringkeep1.AdmitLess", spec := "admitLess", apart := false }
def AdmitLessSaid : Prop := admitLessRow.holds Try.pinned (OpenSpec.ofChange admitLessSpec)

/-- ITS FALSE NEIGHBOUR: 'it returns false'. Refute it at one input. -/
def admitLessWrong : ChangeSpec := { name := "admitLess", fn := fun _ => fun
  | [d1, d2, d3] => { results := [.lit (.bool false)], args := [d1, d2, d3] }
  | _ => none }
def AdmitLessWrongFalsely : Prop := admitLessRow.holds Try.pinned (OpenSpec.ofChange admitLessWrong)

/-- 'ringlaw1.DeadPlays': WHATEVER THE INPUT: true; the input reads as it did. -/
def deadPlaysSpec : ChangeSpec := { name := "deadPlays", fn := fun _ => fun
  | [d] => { results := [.lit (.bool true)], args := [d] }
  | _ => none }
def deadPlaysRow : OpenClaim := { program := "ytlohjlhopbhnoaa", sum := "e9982bf8ccccc528f7d36eb9a68e108ef16531e1adfa6b6359a1e70260dc1904", func := "ringhall/ringlaw1.DeadPlays", spec := "deadPlays", inPlace := ["internal/reflectlite.ValueOf", "internal/reflectlite.Swapper", "(internal/reflectlite.Value).Len"], unfollowed := true, recurses := true, apart := false }
def DeadPlaysSaid : Prop := deadPlaysRow.holds Try.pinned (OpenSpec.ofChange deadPlaysSpec)

/-- ITS FALSE NEIGHBOUR: 'it returns false'. Refute it at one input. -/
def deadPlaysWrong : ChangeSpec := { name := "deadPlays", fn := fun _ => fun
  | [d] => { results := [.lit (.bool false)], args := [d] }
  | _ => none }
def DeadPlaysWrongFalsely : Prop := deadPlaysRow.holds Try.pinned (OpenSpec.ofChange deadPlaysWrong)

/- THE SECOND FORM. 'bulk': how many values and letters a reading holds, each counted each time it is reached (what is shared counts as often as it is met; a slice's spare places count too). A statement '..UptoSaid' is the law's where the arguments, and the package variables that the reading takes, are together of bulk at most 1048576: NARROWER than '..Said'. Prove '..Said' where nothing that the law and all that it calls make is longer than what came in: it says more and counts as full. Else prove '..UptoSaid'. A law counts once. -/
mutual
def uptoBulk {H : Type} : DataW H → Nat
  | .lit (.string bytes) => bytes.length + 1
  | .lit _ => 1
  | .nil => 1
  | .ptr d => uptoBulk d + 1
  | .slice elems spare => uptoBulkAll elems + uptoBulkAll spare + 1
  | .agg parts => uptoBulkAll parts + 1
  | .iface _ d => uptoBulk d + 1
  | .map entries => uptoBulkEntries entries + 1
  | .held _ => 1
def uptoBulkAll {H : Type} : List (DataW H) → Nat
  | [] => 0
  | d :: r => uptoBulk d + uptoBulkAll r
def uptoBulkEntries {H : Type} : List (Lit × DataW H) → Nat
  | [] => 0
  | x :: r => uptoBulkEntry x + uptoBulkEntries r
def uptoBulkEntry {H : Type} : Lit × DataW H → Nat
  | (.string bytes, d) => bytes.length + uptoBulk d + 1
  | (_, d) => uptoBulk d + 1
 end
def uptoSmall : (H : Type) → List (DataW H) → Bool := fun _ ds => decide (uptoBulkAll ds ≤ 1048576)
def OpenSpec.upto (s : _root_.Go.ChangeSpec) : _root_.Go.OpenSpec := { _root_.Go.OpenSpec.ofChange s with cond := some uptoSmall }

/-- 'ringlaw1.AdmitSays', WHERE WHAT IT READS IS OF BULK AT MOST 1048576: true; the input reads as it did. -/
def admitSaysUptoRow : OpenClaim := { program := "ytlohjlhopbhnoaa", sum := "e9982bf8ccccc528f7d36eb9a68e108ef16531e1adfa6b6359a1e70260dc1904", func := "ringhall/ringlaw1.AdmitSays", spec := "admitSays", apart := false, narrowed := true }
def AdmitSaysUptoSaid : Prop := admitSaysUptoRow.holds Try.pinned (OpenSpec.upto admitSaysSpec)

/-- 'ringlaw1.AdmitLate', WHERE WHAT IT READS IS OF BULK AT MOST 1048576: true; the input reads as it did. -/
def admitLateUptoRow : OpenClaim := { program := "ytlohjlhopbhnoaa", sum := "e9982bf8ccccc528f7d36eb9a68e108ef16531e1adfa6b6359a1e70260dc1904", func := "ringhall/ringlaw1.AdmitLate", spec := "admitLate", inPlace := ["internal/reflectlite.ValueOf", "internal/reflectlite.Swapper", "(internal/reflectlite.Value).Len"], unfollowed := true, recurses := true, apart := false, narrowed := true }
def AdmitLateUptoSaid : Prop := admitLateUptoRow.holds Try.pinned (OpenSpec.upto admitLateSpec)

/-- 'ringkeep1.DeadMeets', WHERE WHAT IT READS IS OF BULK AT MOST 1048576: true; the input reads as it did. -/
def deadMeetsUptoRow : OpenClaim := { program := "ytlohjlhopbhnoaa", sum := "e9982bf8ccccc528f7d36eb9a68e108ef16531e1adfa6b6359a1e70260dc1904", func := "ringhall/ringkeep1.DeadMeets", spec := "deadMeets", apart := false, narrowed := true }
def DeadMeetsUptoSaid : Prop := deadMeetsUptoRow.holds Try.pinned (OpenSpec.upto deadMeetsSpec)

/-- 'ringkeep1.DeadApart', WHERE WHAT IT READS IS OF BULK AT MOST 1048576: true; the input reads as it did. -/
def deadApartUptoRow : OpenClaim := { program := "ytlohjlhopbhnoaa", sum := "e9982bf8ccccc528f7d36eb9a68e108ef16531e1adfa6b6359a1e70260dc1904", func := "ringhall/ringkeep1.DeadApart", spec := "deadApart", apart := false, narrowed := true }
def DeadApartUptoSaid : Prop := deadApartUptoRow.holds Try.pinned (OpenSpec.upto deadApartSpec)

/-- 'ringkeep1.AdmitFits', WHERE WHAT IT READS IS OF BULK AT MOST 1048576: true; the input reads as it did. -/
def admitFitsUptoRow : OpenClaim := { program := "ytlohjlhopbhnoaa", sum := "e9982bf8ccccc528f7d36eb9a68e108ef16531e1adfa6b6359a1e70260dc1904", func := "ringhall/ringkeep1.AdmitFits", spec := "admitFits", apart := false, narrowed := true }
def AdmitFitsUptoSaid : Prop := admitFitsUptoRow.holds Try.pinned (OpenSpec.upto admitFitsSpec)

/-- 'ringkeep1.AdmitAdds', WHERE WHAT IT READS IS OF BULK AT MOST 1048576: true; the input reads as it did. -/
def admitAddsUptoRow : OpenClaim := { program := "ytlohjlhopbhnoaa", sum := "e9982bf8ccccc528f7d36eb9a68e108ef16531e1adfa6b6359a1e70260dc1904", func := "ringhall/ringkeep1.AdmitAdds", spec := "admitAdds", apart := false, narrowed := true }
def AdmitAddsUptoSaid : Prop := admitAddsUptoRow.holds Try.pinned (OpenSpec.upto admitAddsSpec)

/-- 'ringkeep1.AdmitDemand', WHERE WHAT IT READS IS OF BULK AT MOST 1048576: true; the input reads as it did. -/
def admitDemandUptoRow : OpenClaim := { program := "ytlohjlhopbhnoaa", sum := "e9982bf8ccccc528f7d36eb9a68e108ef16531e1adfa6b6359a1e70260dc1904", func := "ringhall/ringkeep1.AdmitDemand", spec := "admitDemand", apart := false, narrowed := true }
def AdmitDemandUptoSaid : Prop := admitDemandUptoRow.holds Try.pinned (OpenSpec.upto admitDemandSpec)

/-- 'ringkeep1.AdmitLess', WHERE WHAT IT READS IS OF BULK AT MOST 1048576: true; the input reads as it did. -/
def admitLessUptoRow : OpenClaim := { program := "ytlohjlhopbhnoaa", sum := "e9982bf8ccccc528f7d36eb9a68e108ef16531e1adfa6b6359a1e70260dc1904", func := "ringhall/ringkeep1.AdmitLess", spec := "admitLess", apart := false, narrowed := true }
def AdmitLessUptoSaid : Prop := admitLessUptoRow.holds Try.pinned (OpenSpec.upto admitLessSpec)

/-- 'ringlaw1.DeadPlays', WHERE WHAT IT READS IS OF BULK AT MOST 1048576: true; the input reads as it did. -/
def deadPlaysUptoRow : OpenClaim := { program := "ytlohjlhopbhnoaa", sum := "e9982bf8ccccc528f7d36eb9a68e108ef16531e1adfa6b6359a1e70260dc1904", func := "ringhall/ringlaw1.DeadPlays", spec := "deadPlays", inPlace := ["internal/reflectlite.ValueOf", "internal/reflectlite.Swapper", "(internal/reflectlite.Value).Len"], unfollowed := true, recurses := true, apart := false, narrowed := true }
def DeadPlaysUptoSaid : Prop := deadPlaysUptoRow.holds Try.pinned (OpenSpec.upto deadPlaysSpec)

end Rows
end Go.Proofs.Ytlohjlhopbhnoaa
