/- slices.Clone of numbers. -/
import Derived.Test.YtddfdnhlghmapaaAppend
import Derived.WalkSpells
namespace Go.Proofs.Ytddfdnhlghmapaa
open Go.ChangeShapes Go.WideShapes Go.ChangeAt Go.RowKit
set_option linter.unusedVariables false

/-- The numbers were answered in a row of the call's own, and nothing that was there changed. -/
def FreshInts (xs : List Int) (w : World) (e : Ending) (w' : World) : Prop := ∃ v, e = .returned v ∧ Ints w' w.heap.size v xs ∧ Only (fun _ => False) w w'

set_option maxRecDepth 100000 in
theorem clone_ints (v : Value) (xs : List Int) (w : World) (h : Nums w v xs) (hnil : ∀ l c, v = .slice none l c → c = 0) (hl : xs.length ≤ 17000000000000) :
    Calls Try.prog 62 #[v] w (FreshInts xs w) := by
  have H := Lib.hid h
  have HL := Lib.hid hl
  have HN := Lib.hid hnil
  obtain ⟨a, c, rfl, hr⟩ := h
  clear hnil hl
  have q29 : ∀ (w : World) (a : Option Addr) (n c n' c' : Nat), (binOp .eql 28 (.slice a n c) (.slice none n' c')).run Try.prog w = .ok (.bool a.isNone) w := fun w a n c n' c' => Lib.run_eql_slice_nil w _ _ a n c n' c' Try.underlying28
  cases a with
  | none =>
    have hx : xs = [] := by
      by_cases e : xs = []
      · exact e
      · obtain ⟨b, off, hh, _⟩ := hr 0 (List.length_pos_iff.2 e); cases hh
    subst hx
    have := HN.out _ _ rfl
    subst this
    clear hr
    go_enter Try.func62, Try.ntmps62
    go_wp2_with fail
    go_ret
    exact ⟨_, rfl, ints_nil w _, Only.refl _ w⟩
  | some ad =>
    clear hr
    have HI := Lib.hid (show Ints (w.alloc (.cells #[] 3)) w.heap.size (.slice (some ⟨w.heap.size, 0, none⟩) 0 0) [] from ⟨rfl, Or.inr ⟨w.heap.size, 0, #[], rfl, Nat.le_refl _, heap_alloc_new w _, Nat.le_refl _, by unfold maxLen; omega, rfl, rfl⟩⟩)
    have HA := Lib.hid (H.out.later ((Only.refl (fun _ => False) w).alloc (.cells #[] 3)))
    have hsz : w.heap.size ≤ (w.alloc (.cells #[] 3)).heap.size := by simp
    have HZ := Lib.hid hsz
    clear hsz
    go_enter Try.func62, Try.ntmps62
    go_wp2_with (at_builtin; go_must (refine append_nums rfl _ _ rfl w.heap.size _ _ [] xs rfl rfl HI.out HA.out HN.out (by have := HL.out; simp; omega) HZ.out ?_); go_must (intro v5 w5 hr5 hO5); have HR5 := Lib.hid hr5; have HO5 := Lib.hid hO5; clear hr5 hO5)
    go_ret
    refine ⟨_, rfl, by simpa using HR5.out, ((Only.refl (fun _ => False) w).alloc (.cells #[] 3)).trans HO5.out (fun k hk e => ?_)⟩
    have e2 : some w.heap.size = some k := e
    cases e2; omega
end Go.Proofs.Ytddfdnhlghmapaa
