/- The walk of HeapPlays. -/
import Derived.Test.YtonlhcebnbdjjaaHeaps
namespace Go.Proofs.Ytonlhcebnbdjjaa
open Go.ChangeShapes Go.WideShapes Go.ChangeAt Go.RowKit Go.Maps
set_option linter.unusedVariables false

theorem ArgRows.later {w w' : World} {a : Option Addr} {len cap : Nat} {recs : List (List Int)} (h : ArgRows w a len cap recs) (hb : Below w.heap.size w w') : ArgRows w' a len cap recs := by
  obtain ⟨h1, h2, h3, h4, h5⟩ := h
  refine ⟨h1, h2, h3, h4, fun j hj => ?_⟩
  obtain ⟨b, off, v, rfl, q1, q2, q3⟩ := h5 j hj
  exact ⟨b, off, v, rfl, Nat.lt_of_lt_of_le q1 hb.size, (hb.cell (p := ⟨b, off + j, none⟩) q1).trans q2, q3.later hb⟩

set_option maxRecDepth 100000 in
set_option maxHeartbeats 1000000 in
theorem plays_walk (a : Option Addr) (cap : Nat) (recs : List (List Int)) (w : World) (h : ArgRows w a recs.length cap recs) (hn : recs.length ≤ 5900000000000) :
    Calls Try.prog 3 #[.slice a recs.length cap] w fun e w' => e = .returned (.bool true) ∧ Below w.heap.size w w' := by
  have HAR := Lib.hid h
  have HN := Lib.hid hn
  clear h hn
  go_enter Try.func3, Try.ntmps3
  go_wp2_with (first
    | (go_at_call 8; refine (hnew _).mono ?_; rintro e w1 ⟨p, rfl, ha, ho⟩; have HA := Lib.hid ha; have HO := Lib.hid (ho.below (B := w.heap.size) (Nat.le_refl _) (fun _ e => e.elim)); clear ha ho)
    | (go_at_call 9; refine (hpush HA.out 5 (id := 3) (by decide) (by simp) (by simp)).mono ?_; rintro e w2 ⟨rfl, ha, ho⟩; have HA2 := Lib.hid ha; have HO2 := Lib.hid (HO.out.trans (ho.below (B := w.heap.size) HO.out.size (fun _ e => e))); clear ha ho)
    | (go_at_call 10; refine (hlen HA2.out).mono ?_; rintro e w3 ⟨rfl, rfl⟩)
    | (go_at_call 11; refine (heaps_walk a cap recs _ (HAR.out.later HO2.out) HN.out).mono ?_; rintro e w4 ⟨rfl, hb⟩; have HB := Lib.hid (HO2.out.trans (hb.mono HO2.out.size)); clear hb))
  go_ret
  exact ⟨rfl, HB.out⟩
end Go.Proofs.Ytonlhcebnbdjjaa
