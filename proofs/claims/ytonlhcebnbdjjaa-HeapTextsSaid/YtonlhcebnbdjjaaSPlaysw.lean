/- The walk of HeapTexts. -/
import Derived.Test.YtonlhcebnbdjjaaSHeaps
import Derived.Test.YtonlhcebnbdjjaaSTexts
namespace Go.Proofs.Ytonlhcebnbdjjaa.S
open Go.ChangeShapes Go.WideShapes Go.ChangeAt Go.RowKit Go.Maps
set_option linter.unusedVariables false

theorem args_later {w w' : World} {a : Option Addr} {len cap : Nat} {recs : List (List Int)} (h : ArgRows w a len cap recs) (hb : Below w.heap.size w w') : ArgRows w' a len cap recs := by
  obtain ⟨h1, h2, h3, h4, h5⟩ := h
  refine ⟨h1, h2, h3, h4, fun j hj => ?_⟩
  obtain ⟨b, off, v, rfl, q1, q2, q3⟩ := h5 j hj
  exact ⟨b, off, v, rfl, Nat.lt_of_lt_of_le q1 hb.size, (hb.cell (p := ⟨b, off + j, none⟩) q1).trans q2, q3.later hb⟩

/-- What stays of the texts and of their box from the box on. -/
theorem key_later {w w1 : World} {a : Option Addr} {len cap : Nat} {ts : List ByteArray} (ht : TextRow w a len ts)
    (hb : Below (w.alloc (.cells #[.slice a len cap] 31)).heap.size (w.alloc (.cells #[.slice a len cap] 31)) w1) :
    ∀ n w', (Lit.int .i64 n).wf = true → Below w1.heap.size w1 w' →
      Calls Try.prog 17 #[.int .i64 n, .pointer (some ⟨w.heap.size, 0, none⟩)] w' fun e w'' => e = .returned (.string (textOf ts n)) ∧ Only (fun _ => False) w' w'' := by
  intro n w' _ hb'
  have h2 := hb.trans (hb'.mono hb.size)
  have hn : (w.alloc (.cells #[.slice a len cap] 31)).heap[w.heap.size]? = some (.cells #[.slice a len cap] 31 (0, 0)) := heap_alloc_new w _
  have hlt := block_there hn
  refine text_any w.heap.size a len cap n ts w' ?_ ?_
  · rw [cell_at ((h2.block w.heap.size hlt).trans hn)]; rfl
  · exact ht.later (((Below.refl _ w).alloc (Nat.le_refl _) _).trans (h2.mono (by simp)))

set_option maxRecDepth 100000 in
set_option maxHeartbeats 1000000 in
theorem texts_walk (a : Option Addr) (cap : Nat) (recs : List (List Int)) (a1 : Option Addr) (len1 cap1 : Nat) (ts : List ByteArray) (w : World) (h : ArgRows w a recs.length cap recs) (hn : recs.length ≤ 5864062014634) (ht : TextRow w a1 len1 ts) :
    Calls Try.prog 4 #[.slice a recs.length cap, .slice a1 len1 cap1] w fun e w' => e = .returned (.bool true) ∧ Below w.heap.size w w' := by
  have HAR := Lib.hid h
  have HN := Lib.hid hn
  have HTX := Lib.hid ht
  have HB0 := Lib.hid ((Below.refl w.heap.size w).alloc (Nat.le_refl _) (.cells #[.slice a1 len1 cap1] 31))
  have hx : ∀ x ∈ ([] : List (Int × ByteArray)), x.1 ≠ 3 := fun x hx => absurd hx (by simp)
  clear h hn ht
  go_enter Try.func4, Try.ntmps4
  go_wp2_with (first
    | (go_at_call 13; refine (hnew _).mono ?_; rintro e w1 ⟨p, rfl, ha, ho⟩; have HA := Lib.hid ha; have HO := Lib.hid (ho.below (B := (w.alloc (.cells #[.slice a1 len1 cap1] 31)).heap.size) (Nat.le_refl _) (fun _ e => e.elim)); clear ha ho)
    | (go_at_call 14; have hp := hpush HA.out ⟨#[120]⟩ (id := 3) (by decide) hx (by simp); (with_reducible refine hp.mono ?_); clear hp; rintro e w2 ⟨rfl, ha, ho⟩; have HA2 := Lib.hid ha; have HO2 := Lib.hid (HO.out.trans (ho.below (B := (w.alloc (.cells #[.slice a1 len1 cap1] 31)).heap.size) HO.out.size (fun _ e => e))); clear ha ho)
    | (go_at_call 15; refine (hlen HA2.out).mono ?_; rintro e w3 ⟨rfl, rfl⟩)
    | (go_at_call 16; have HB2 := Lib.hid (HB0.out.trans (HO2.out.mono (by simp))); have hc := heaps_walk a cap recs (textOf ts) (.pointer (some ⟨w.heap.size, 0, none⟩)) _ (args_later HAR.out HB2.out) HN.out (key_later HTX.out HO2.out); (with_reducible refine hc.mono ?_); clear hc; rintro e w4 ⟨rfl, hb⟩; have HB := Lib.hid (HB2.out.trans (hb.mono HB2.out.size)); clear hb))
  go_ret
  exact ⟨rfl, HB.out⟩
end Go.Proofs.Ytonlhcebnbdjjaa.S
