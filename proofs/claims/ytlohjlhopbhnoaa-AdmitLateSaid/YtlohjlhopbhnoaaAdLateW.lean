/- The walk of AdmitLate. -/
import Derived.Test.YtlohjlhopbhnoaaAdRefW
import Derived.Test.YtlohjlhopbhnoaaAdLateC
namespace Go.Proofs.Ytlohjlhopbhnoaa.Ad
open Go.ChangeShapes Go.WideShapes Go.ChangeAt Go.RowKit
set_option linter.unusedVariables false

theorem late_two (w : World) (t : TypeId) : Calls Try.prog 21 #[.slice (some ⟨w.heap.size, 0, none⟩) 2 2, .int .i64 4] (w.alloc (.cells #[.int .i64 1, .int .i64 1, .int .i64 1, .int .i64 2] t)) (Pair 2 0 (w.alloc (.cells #[.int .i64 1, .int .i64 1, .int .i64 1, .int .i64 2] t))) := by
  have hU : UV (w.alloc (.cells #[.int .i64 1, .int .i64 1, .int .i64 1, .int .i64 2] t)) (.slice (some ⟨w.heap.size, 0, none⟩) 2 2) [(1, 1), (1, 2)] := by
    refine ⟨_, 2, rfl, Nat.le_refl _, by omega, fun j hj => ⟨w.heap.size, 0, rfl, by simp, ?_⟩⟩
    have hb : (w.alloc (.cells #[.int .i64 1, .int .i64 1, .int .i64 1, .int .i64 2] t)).heap[w.heap.size]? = some (.cells #[.int .i64 1, .int .i64 1, .int .i64 1, .int .i64 2] t (0, 0)) := heap_alloc_new w _
    rw [cell_at hb, cell_at hb]
    have : j = 0 ∨ j = 1 := by simp at hj; omega
    rcases this with rfl | rfl <;> exact ⟨rfl, rfl⟩
  have := late_good _ [(1, 1), (1, 2)] 4 _ hU (by decide) (by omega)
  rwa [show lateAt [(1, 1), (1, 2)] 4 = 2 by decide] at this

set_option maxRecDepth 100000 in
set_option maxHeartbeats 4000000 in
theorem late_walk_bad (v : Value) (S : List Use) (t : Int) (w : World) (h : UV w v S) (hl : S.length ≤ 8796093022000) (hc : chk S ≠ 0) :
    Calls Try.prog 4 #[v, .int .i64 t] w fun e w' => e = .returned (.bool true) ∧ Below w.heap.size w w' := by
  have H := Lib.hid h
  have C0 := Lib.hid (uses_any v S w h hl)
  have C1 := Lib.hid (fun (wx : World) (v : Value) (hv : UV wx v S) => late_bad v S t wx hv hc)
  have C5 := Lib.hid (fun (wx : World) (v : Value) (hv : UV wx v S) => ref_uses v S wx hv)
  have C7 := Lib.hid (fun (wx : World) (t : TypeId) => late_two wx t)
  have e0 : (chk S == 0) = false := by simp [hc]
  obtain ⟨a, c, rfl, -⟩ := h
  clear hc
  generalize chk S = x at *
  go_enter Try.func4, Try.ntmps4
  go_wp2_with (first
    | (go_at_call 12; (with_reducible refine C0.out.mono ?_); rintro e w1 ⟨V, rfl, hr, hO⟩; have HR := Lib.hid (fun (wx : World) (hO : Only (fun _ => False) w1 wx) => row_view (hr.later hO)); have HO1 := Lib.hid hO; clear hr hO)
    | (go_at_call 21; (with_reducible refine (C1.out _ _ (HR.out _ (Only.refl _ _))).mono ?_); rintro e w2 ⟨rfl, hO⟩; have HO2 := Lib.hid (trans_quiet HO1.out hO); clear hO)
    | (go_at_call 21; (with_reducible refine (C7.out _ _).mono ?_); rintro e w3 ⟨rfl, hO⟩; have HO3 := Lib.hid (trans_quiet (HO2.out.alloc _) hO); clear hO)
    | (go_at_call 17; (with_reducible refine (C5.out _ _ (H.out.later HO3.out)).mono ?_); rintro e w4 ⟨rfl, hO⟩; have HO4 := Lib.hid (trans_quiet HO3.out hO); clear hO))
  go_ret
  exact ⟨rfl, Only.below HO4.out (Nat.le_refl _) (fun _ e => e.elim)⟩

set_option maxRecDepth 100000 in
set_option maxHeartbeats 4000000 in
theorem late_walk_time (v : Value) (S : List Use) (t : Int) (w : World) (h : UV w v S) (hc : chk S = 0) (ht : t < 0 ∨ 2000 < t) :
    Calls Try.prog 4 #[v, .int .i64 t] w fun e w' => e = .returned (.bool true) ∧ Below w.heap.size w w' := by
  obtain ⟨hl, hok⟩ := chk_zero hc
  have H := Lib.hid h
  have C0 := Lib.hid (uses_any v S w h (by omega))
  have C1 := Lib.hid (fun (wx : World) (v : Value) (hv : UV wx v S) => late_time v S t wx hv hc ht)
  have c5 := fun (wx : World) (v : Value) (hv : UV wx v S) => ref_uses v S wx hv
  rw [hc] at c5
  have C5 := Lib.hid c5
  have C7 := Lib.hid (fun (wx : World) (t : TypeId) => late_two wx t)
  obtain ⟨a, c, rfl, -⟩ := h
  clear hc hok c5
  by_cases k1 : t < 0
  · clear ht
    go_enter Try.func4, Try.ntmps4
    go_wp2_with (first
      | (go_at_call 12; (with_reducible refine C0.out.mono ?_); rintro e w1 ⟨V, rfl, hr, hO⟩; have HR := Lib.hid (fun (wx : World) (hO : Only (fun _ => False) w1 wx) => row_view (hr.later hO)); have HO1 := Lib.hid hO; clear hr hO)
      | (go_at_call 21; (with_reducible refine (C1.out _ _ (HR.out _ (Only.refl _ _))).mono ?_); rintro e w2 ⟨rfl, hO⟩; have HO2 := Lib.hid (trans_quiet HO1.out hO); clear hO)
      | (go_at_call 21; (with_reducible refine (C7.out _ _).mono ?_); rintro e w3 ⟨rfl, hO⟩; have HO3 := Lib.hid (trans_quiet (HO2.out.alloc _) hO); clear hO)
      | (go_at_call 17; (with_reducible refine (C5.out _ _ (H.out.later HO3.out)).mono ?_); rintro e w4 ⟨rfl, hO⟩; have HO4 := Lib.hid (trans_quiet HO3.out hO); clear hO))
    go_ret
    exact ⟨rfl, Only.below HO4.out (Nat.le_refl _) (fun _ e => e.elim)⟩
  · have k2 : 2000 < t := by omega
    clear ht
    go_enter Try.func4, Try.ntmps4
    go_wp2_with (first
      | (go_at_call 12; (with_reducible refine C0.out.mono ?_); rintro e w1 ⟨V, rfl, hr, hO⟩; have HR := Lib.hid (fun (wx : World) (hO : Only (fun _ => False) w1 wx) => row_view (hr.later hO)); have HO1 := Lib.hid hO; clear hr hO)
      | (go_at_call 21; (with_reducible refine (C1.out _ _ (HR.out _ (Only.refl _ _))).mono ?_); rintro e w2 ⟨rfl, hO⟩; have HO2 := Lib.hid (trans_quiet HO1.out hO); clear hO)
      | (go_at_call 21; (with_reducible refine (C7.out _ _).mono ?_); rintro e w3 ⟨rfl, hO⟩; have HO3 := Lib.hid (trans_quiet (HO2.out.alloc _) hO); clear hO)
      | (go_at_call 17; (with_reducible refine (C5.out _ _ (H.out.later HO3.out)).mono ?_); rintro e w4 ⟨rfl, hO⟩; have HO4 := Lib.hid (trans_quiet HO3.out hO); clear hO))
    go_ret
    exact ⟨rfl, Only.below HO4.out (Nat.le_refl _) (fun _ e => e.elim)⟩

set_option maxRecDepth 100000 in
set_option maxHeartbeats 4000000 in
theorem late_walk_good (v : Value) (S : List Use) (t : Nat) (w : World) (h : UV w v S) (hc : chk S = 0) (ht : t ≤ 2000) :
    Calls Try.prog 4 #[v, .int .i64 t] w fun e w' => e = .returned (.bool true) ∧ Below w.heap.size w w' := by
  obtain ⟨hl, hok⟩ := chk_zero hc
  have H := Lib.hid h
  have C0 := Lib.hid (uses_any v S w h (by omega))
  have C1 := Lib.hid (fun (wx : World) (v : Value) (hv : UV wx v S) => late_good v S t wx hv hc ht)
  have C2 := Lib.hid (fun (wx : World) (v : Value) (hv : UV wx v S) => ref_late v S t wx hv hc ht)
  have c5 := fun (wx : World) (v : Value) (hv : UV wx v S) => ref_uses v S wx hv
  rw [hc] at c5
  have C5 := Lib.hid c5
  have C7 := Lib.hid (fun (wx : World) (t : TypeId) => late_two wx t)
  obtain ⟨a, c, rfl, -⟩ := h
  clear hc hok c5
  have k1 : ¬ (t : Int) < 0 := by omega
  have k2 : ¬ 2000 < (t : Int) := by omega
  generalize lateAt S t = x at *
  generalize (t : Int) = t at *
  clear ht
  go_enter Try.func4, Try.ntmps4
  go_wp2_with (first
    | (go_at_call 12; (with_reducible refine C0.out.mono ?_); rintro e w1 ⟨V, rfl, hr, hO⟩; have HR := Lib.hid (fun (wx : World) (hO : Only (fun _ => False) w1 wx) => row_view (hr.later hO)); have HO1 := Lib.hid hO; clear hr hO)
    | (go_at_call 21; (with_reducible refine (C1.out _ _ (HR.out _ (Only.refl _ _))).mono ?_); rintro e w2 ⟨rfl, hO⟩; have HO2 := Lib.hid (trans_quiet HO1.out hO); clear hO)
    | (go_at_call 21; (with_reducible refine (C7.out _ _).mono ?_); rintro e w3 ⟨rfl, hO⟩; have HO3 := Lib.hid (trans_quiet (HO2.out.alloc _) hO); clear hO)
    | (go_at_call 17; (with_reducible refine (C5.out _ _ (H.out.later HO3.out)).mono ?_); rintro e w4 ⟨rfl, hO⟩; have HO4 := Lib.hid (trans_quiet HO3.out hO); clear hO)
    | (go_at_call 22; (with_reducible refine (C2.out _ _ (H.out.later HO4.out)).mono ?_); rintro e w5 ⟨rfl, hO⟩; have HO5 := Lib.hid (trans_quiet HO4.out hO); clear hO))
  go_ret
  exact ⟨rfl, Only.below HO5.out (Nat.le_refl _) (fun _ e => e.elim)⟩

theorem late_walk (v : Value) (S : List Use) (t : Int) (w : World) (h : UV w v S) (hl : S.length ≤ 8796093022000) :
    Calls Try.prog 4 #[v, .int .i64 t] w fun e w' => e = .returned (.bool true) ∧ Below w.heap.size w w' := by
  by_cases hc : chk S = 0
  · by_cases ht : t < 0 ∨ 2000 < t
    · exact late_walk_time v S t w h hc ht
    · obtain ⟨t, rfl⟩ : ∃ k : Nat, t = k := ⟨t.toNat, by omega⟩
      exact late_walk_good v S t w h hc (by omega)
  · exact late_walk_bad v S t w h hl hc

end Go.Proofs.Ytlohjlhopbhnoaa.Ad
