/-
  No cell of these rows narrows 'for every input' (looked for: loops, veiled, ifaces, maps, wideKeys, modest, calm, conditions, laid).
  DERIVED. THE GIVEN ROWS OF THIS SEAT. 3 by the template 'for every input the law returns true; each argument reads behind the call as it read before'; 0 by the template 'total and deterministic' (their statements: YtbdkibigcjpkbaaTotals.lean).
  GIVEN WITH THE SEED: the statements are not yours to turn. If you find one false, say at which input.
  Laid BY PROGRAM, IN A SANDBOX (cutbox-rows.mjs): the forced cells as the released guide's own fill.sh prints them over the translation 6e0f671cce077ea7… (all of the seat's roots in one cut). By AI agents, Wed Nov 11 2026. No macro, syntax, notation, axiom, sorry.
-/
import Derived.Test.YtbdkibigcjpkbaaChecked
import GoSem.Claim
import GoSem.ClaimJoined
import GoSem.ClaimMapViews
import Derived.JoinedTies
import Derived.KernelRfl
namespace Go.Proofs.Ytbdkibigcjpkbaa
/- THE CELL 'sum', in the pinned program and in every row, IS THE sha256 OF THE DUMP (.gsa) THAT YtbdkibigcjpkbaaProg.lean LOADS. Nothing in Lean hashes anything: it is a label: what it is worth is what the hold of that sum in a sandbox is worth. -/
noncomputable def Try.pinned : Pinned := { name := "ytbdkibigcjpkbaa", sum := "6e0f671cce077ea7c6a8c02a4607cc727a59acda8f8313e9852206a9dd509696", checked := Try.checked }
namespace Rows
def none {H : Type} : Left H := { results := [], args := [] }

/-- 'ringlaw1.VtimeSays': WHATEVER THE INPUT: true; the input reads as it did. -/
def vtimeSaysSpec : ChangeSpec := { name := "vtimeSays", fn := fun _ => fun
  | [d1, d2, d3, d4, d5, d6] => { results := [.lit (.bool true)], args := [d1, d2, d3, d4, d5, d6] }
  | _ => none }
def vtimeSaysRow : OpenClaim := { program := "ytbdkibigcjpkbaa", sum := "6e0f671cce077ea7c6a8c02a4607cc727a59acda8f8313e9852206a9dd509696", func := "ringhall/ringlaw1.VtimeSays", spec := "vtimeSays", apart := false }
def VtimeSaysSaid : Prop := vtimeSaysRow.holds Try.pinned (OpenSpec.ofChange vtimeSaysSpec)

/-- ITS FALSE NEIGHBOUR: 'it returns false'. Refute it at one input. -/
def vtimeSaysWrong : ChangeSpec := { name := "vtimeSays", fn := fun _ => fun
  | [d1, d2, d3, d4, d5, d6] => { results := [.lit (.bool false)], args := [d1, d2, d3, d4, d5, d6] }
  | _ => none }
def VtimeSaysWrongFalsely : Prop := vtimeSaysRow.holds Try.pinned (OpenSpec.ofChange vtimeSaysWrong)

/-- 'ringkeep1.VtimeAdds': WHATEVER THE INPUT: true; the input reads as it did. -/
def vtimeAddsSpec : ChangeSpec := { name := "vtimeAdds", fn := fun _ => fun
  | [d1, d2, d3, d4, d5] => { results := [.lit (.bool true)], args := [d1, d2, d3, d4, d5] }
  | _ => none }
def vtimeAddsRow : OpenClaim := { program := "ytbdkibigcjpkbaa", sum := "6e0f671cce077ea7c6a8c02a4607cc727a59acda8f8313e9852206a9dd509696", func := "ringhall/ringkeep1.VtimeAdds", spec := "vtimeAdds", apart := false }
def VtimeAddsSaid : Prop := vtimeAddsRow.holds Try.pinned (OpenSpec.ofChange vtimeAddsSpec)

/-- ITS FALSE NEIGHBOUR: 'it returns false'. Refute it at one input. -/
def vtimeAddsWrong : ChangeSpec := { name := "vtimeAdds", fn := fun _ => fun
  | [d1, d2, d3, d4, d5] => { results := [.lit (.bool false)], args := [d1, d2, d3, d4, d5] }
  | _ => none }
def VtimeAddsWrongFalsely : Prop := vtimeAddsRow.holds Try.pinned (OpenSpec.ofChange vtimeAddsWrong)

/-- 'ringkeep1.VtimeLags': WHATEVER THE INPUT: true; the input reads as it did. -/
def vtimeLagsSpec : ChangeSpec := { name := "vtimeLags", fn := fun _ => fun
  | [d1, d2, d3] => { results := [.lit (.bool true)], args := [d1, d2, d3] }
  | _ => none }
def vtimeLagsRow : OpenClaim := { program := "ytbdkibigcjpkbaa", sum := "6e0f671cce077ea7c6a8c02a4607cc727a59acda8f8313e9852206a9dd509696", func := "ringhall/ringkeep1.VtimeLags", spec := "vtimeLags", apart := false }
def VtimeLagsSaid : Prop := vtimeLagsRow.holds Try.pinned (OpenSpec.ofChange vtimeLagsSpec)

/-- ITS FALSE NEIGHBOUR: 'it returns false'. Refute it at one input. -/
def vtimeLagsWrong : ChangeSpec := { name := "vtimeLags", fn := fun _ => fun
  | [d1, d2, d3] => { results := [.lit (.bool false)], args := [d1, d2, d3] }
  | _ => none }
def VtimeLagsWrongFalsely : Prop := vtimeLagsRow.holds Try.pinned (OpenSpec.ofChange vtimeLagsWrong)

/- THE SECOND FORM. 'bulk': how many values and letters a reading holds, each counted each time it is reached (what is shared counts as often as it is met; a slice's spare places count too). A statement '..UptoSaid' is the law's where the arguments, and the package variables that the reading takes, are together of bulk at most 1048576: NARROWER than '..Said'. Prove '..Said' where nothing that the law and all that it calls make is longer than what came in: it says more and counts as full. Else prove '..UptoSaid'. A law counts once. -/
mutual
def uptoBulk {H : Type} : DataW H → Nat
  | .lit (.string bytes) => bytes.length + 1
  | .lit _ => 1
  | .nil => 1
  | .ptr d => uptoBulk d + 1
  | .slice elems spare => uptoBulkAll elems + uptoBulkAll spare + 1
  | .agg parts => uptoBulkAll parts + 1
  | .iface _ d => uptoBulk d + 1
  | .map entries => uptoBulkEntries entries + 1
  | .held _ => 1
def uptoBulkAll {H : Type} : List (DataW H) → Nat
  | [] => 0
  | d :: r => uptoBulk d + uptoBulkAll r
def uptoBulkEntries {H : Type} : List (Lit × DataW H) → Nat
  | [] => 0
  | x :: r => uptoBulkEntry x + uptoBulkEntries r
def uptoBulkEntry {H : Type} : Lit × DataW H → Nat
  | (.string bytes, d) => bytes.length + uptoBulk d + 1
  | (_, d) => uptoBulk d + 1
 end
def uptoSmall : (H : Type) → List (DataW H) → Bool := fun _ ds => decide (uptoBulkAll ds ≤ 1048576)
def OpenSpec.upto (s : _root_.Go.ChangeSpec) : _root_.Go.OpenSpec := { _root_.Go.OpenSpec.ofChange s with cond := some uptoSmall }

/-- 'ringlaw1.VtimeSays', WHERE WHAT IT READS IS OF BULK AT MOST 1048576: true; the input reads as it did. -/
def vtimeSaysUptoRow : OpenClaim := { program := "ytbdkibigcjpkbaa", sum := "6e0f671cce077ea7c6a8c02a4607cc727a59acda8f8313e9852206a9dd509696", func := "ringhall/ringlaw1.VtimeSays", spec := "vtimeSays", apart := false, narrowed := true }
def VtimeSaysUptoSaid : Prop := vtimeSaysUptoRow.holds Try.pinned (OpenSpec.upto vtimeSaysSpec)

/-- 'ringkeep1.VtimeAdds', WHERE WHAT IT READS IS OF BULK AT MOST 1048576: true; the input reads as it did. -/
def vtimeAddsUptoRow : OpenClaim := { program := "ytbdkibigcjpkbaa", sum := "6e0f671cce077ea7c6a8c02a4607cc727a59acda8f8313e9852206a9dd509696", func := "ringhall/ringkeep1.VtimeAdds", spec := "vtimeAdds", apart := false, narrowed := true }
def VtimeAddsUptoSaid : Prop := vtimeAddsUptoRow.holds Try.pinned (OpenSpec.upto vtimeAddsSpec)

/-- 'ringkeep1.VtimeLags', WHERE WHAT IT READS IS OF BULK AT MOST 1048576: true; the input reads as it did. -/
def vtimeLagsUptoRow : OpenClaim := { program := "ytbdkibigcjpkbaa", sum := "6e0f671cce077ea7c6a8c02a4607cc727a59acda8f8313e9852206a9dd509696", func := "ringhall/ringkeep1.VtimeLags", spec := "vtimeLags", apart := false, narrowed := true }
def VtimeLagsUptoSaid : Prop := vtimeLagsUptoRow.holds Try.pinned (OpenSpec.upto vtimeLagsSpec)

end Rows
end Go.Proofs.Ytbdkibigcjpkbaa
