/- The walk of AdmitSays. -/
import Derived.Test.YtlohjlhopbhnoaaAdRefR
namespace Go.Proofs.Ytlohjlhopbhnoaa.Ad
open Go.ChangeShapes Go.WideShapes Go.ChangeAt Go.RowKit
set_option linter.unusedVariables false

theorem uv_one (w : World) (x y : Int) (t : TypeId) : UV (w.alloc (.cells #[.int .i64 x, .int .i64 y] t)) (.slice (some ⟨w.heap.size, 0, none⟩) 1 1) [(x, y)] := by
  refine ⟨_, 1, rfl, Nat.le_refl _, by omega, fun j hj => ⟨w.heap.size, 0, rfl, by simp, ?_⟩⟩
  rw [cell_at (heap_alloc_new w _), cell_at (heap_alloc_new w _)]
  have : j = 0 := by simp at hj; omega
  subst this
  exact ⟨rfl, rfl⟩

theorem check_zero (w : World) (t : TypeId) : Calls Try.prog 18 #[.slice (some ⟨w.heap.size, 0, none⟩) 1 1] (w.alloc (.cells #[.int .i64 0, .int .i64 0] t)) (Num 1 (w.alloc (.cells #[.int .i64 0, .int .i64 0] t))) := by
  have := check_any _ [(0, 0)] _ (uv_one w 0 0 t)
  rwa [show chk [(0, 0)] = 1 by decide] at this

set_option maxRecDepth 100000 in
set_option maxHeartbeats 4000000 in
theorem says_bad (v : Value) (S : List Use) (cpus t : Int) (w : World) (h : UV w v S) (hl : S.length ≤ 8796093022000) (hc : chk S ≠ 0) :
    Calls Try.prog 3 #[v, .int .i64 cpus, .int .i64 t] w fun e w' => e = .returned (.bool true) ∧ Below w.heap.size w w' := by
  have H := Lib.hid h
  have C0 := Lib.hid (uses_any v S w h hl)
  have C1 := Lib.hid (fun (wx : World) (v : Value) (hv : UV wx v S) => round_bad v S wx hv hc)
  have C2 := Lib.hid (fun (wx : World) (v : Value) (hv : UV wx v S) => share_bad v S wx hv hc)
  have C3 := Lib.hid (fun (wx : World) (v : Value) (hv : UV wx v S) => fits_bad v S cpus wx hv hc)
  have C4 := Lib.hid (fun (wx : World) (v : Value) (hv : UV wx v S) => demand_bad v S t wx hv hc)
  have C5 := Lib.hid (fun (wx : World) (v : Value) (hv : UV wx v S) => ref_uses v S wx hv)
  have C6 := Lib.hid (fun (wx : World) (v : Value) (hv : UV wx v S) => check_any v S wx hv)
  have C7 := Lib.hid (fun (wx : World) => check_zero wx 36)
  have e0 : (chk S == 0) = false := by simp [hc]
  obtain ⟨a, c, rfl, -⟩ := h
  clear hc
  generalize chk S = x at *
  go_enter Try.func3, Try.ntmps3
  go_wp2_with (first
    | (go_at_call 12; (with_reducible refine C0.out.mono ?_); rintro e w1 ⟨V, rfl, hr, hO⟩; have HR := Lib.hid (fun (wx : World) (hO : Only (fun _ => False) w1 wx) => row_view (hr.later hO)); have HO1 := Lib.hid hO; clear hr hO)
    | (go_at_call 13; (with_reducible refine (C1.out _ _ (HR.out _ (Only.refl _ _))).mono ?_); rintro e w2 ⟨rfl, hO⟩; have HO2 := Lib.hid hO; clear hO)
    | (go_at_call 14; (with_reducible refine (C2.out _ _ (HR.out _ HO2.out)).mono ?_); rintro e w3 ⟨rfl, hO⟩; have HO3 := Lib.hid (trans_quiet HO2.out hO); clear hO)
    | (go_at_call 15; (with_reducible refine (C3.out _ _ (HR.out _ HO3.out)).mono ?_); rintro e w4 ⟨rfl, hO⟩; have HO4 := Lib.hid (trans_quiet HO3.out hO); clear hO)
    | (go_at_call 16; (with_reducible refine (C4.out _ _ (HR.out _ HO4.out)).mono ?_); rintro e w5 ⟨rfl, hO⟩; have HO5 := Lib.hid (trans_quiet HO4.out hO); clear hO)
    | (go_at_call 17; (with_reducible refine (C5.out _ _ (H.out.later (trans_quiet HO1.out HO5.out))).mono ?_); rintro e w6 ⟨rfl, hO⟩; have HO6 := Lib.hid (trans_quiet HO5.out hO); clear hO)
    | (go_at_call 18; (with_reducible refine (C6.out _ _ (HR.out _ HO6.out)).mono ?_); rintro e w7 ⟨rfl, hO⟩; have HO7 := Lib.hid (trans_quiet HO6.out hO); clear hO)
    | (go_at_call 18; (with_reducible refine (C7.out _).mono ?_); rintro e w8 ⟨rfl, hO⟩; have HO8 := Lib.hid (trans_quiet (HO7.out.alloc _) hO); clear hO))
  go_ret
  exact ⟨rfl, Only.below (trans_quiet HO1.out HO8.out) (Nat.le_refl _) (fun _ e => e.elim)⟩

set_option maxRecDepth 100000 in
set_option maxHeartbeats 8000000 in
theorem says_good (v : Value) (S : List Use) (cpus t : Int) (w : World) (h : UV w v S) (hc : chk S = 0) :
    Calls Try.prog 3 #[v, .int .i64 cpus, .int .i64 t] w fun e w' => e = .returned (.bool true) ∧ Below w.heap.size w w' := by
  obtain ⟨hl, hok⟩ := chk_zero hc
  have H := Lib.hid h
  have HOK := Lib.hid hok
  have HCK := Lib.hid hc
  have C0 := Lib.hid (uses_any v S w h (by omega))
  have C1 := Lib.hid (fun (wx : World) (v : Value) (hv : UV wx v S) => round_good v S wx hv hc)
  have C2 := Lib.hid (fun (wx : World) (v : Value) (hv : UV wx v S) => share_good v S wx hv hc)
  have c5 := fun (wx : World) (v : Value) (hv : UV wx v S) => ref_uses v S wx hv
  have c6 := fun (wx : World) (v : Value) (hv : UV wx v S) => check_any v S wx hv
  rw [hc] at c5 c6
  have C5 := Lib.hid c5
  have C6 := Lib.hid c6
  have C7 := Lib.hid (fun (wx : World) => check_zero wx 36)
  have C8 := Lib.hid (fun (wx : World) (v : Value) (hv : UV wx v S) => ref_share v S wx hv hc)
  have C9 := Lib.hid (fun (wx : World) (v : Value) (hv : UV wx v S) => ref_round v S wx hv hc)
  have hsd := shareD_le hc
  have CF := Lib.hid (fun (wx : World) (v : Value) (hv : UV wx v S) (hk : cpus < 1 ∨ 4 < cpus) => fits_cpus v S cpus wx hv hc hk)
  have CG := Lib.hid (fun (wx : World) (v : Value) (hv : UV wx v S) (k : Nat) (hk : 1 ≤ k ∧ k ≤ 4) => fits_good v S k wx hv hc hk)
  have CD := Lib.hid (fun (wx : World) (v : Value) (hv : UV wx v S) (ht : t < 0 ∨ 100000 < t) => demand_time v S t wx hv hc ht)
  have CE := Lib.hid (fun (wx : World) (v : Value) (hv : UV wx v S) (k : Nat) (hk : k ≤ 100000) => demand_good v S k wx hv hc hk)
  obtain ⟨a, c, rfl, h0, h1, -⟩ := h
  clear hc hok c5 c6
  obtain ⟨n, hn⟩ : ∃ n, S.length = n := ⟨_, rfl⟩
  have HN := Lib.hid hn
  rw [hn] at H h0 hl C0 CE ⊢
  clear hn
  generalize rnd S = r at *
  generalize shareN S = x at *
  generalize shareD S = y at *
  by_cases k1 : cpus < 1
  · have C3 := Lib.hid (fun (wx : World) (v : Value) (hv : UV wx v S) => CF.out wx v hv (Or.inl k1))
    clear CF CG hsd
    by_cases t1 : t < 0
    · have C4 := Lib.hid (fun (wx : World) (v : Value) (hv : UV wx v S) => CD.out wx v hv (Or.inl t1))
      clear CD CE
      go_enter Try.func3, Try.ntmps3
      go_wp2_with (first
          | (go_at_call 12; (with_reducible refine C0.out.mono ?_); rintro e w1 ⟨V, rfl, hr, hO⟩; have HR := Lib.hid (fun (wx : World) (hO : Only (fun _ => False) w1 wx) => row_view (hr.later hO)); have HO1 := Lib.hid hO; clear hr hO)
          | (go_at_call 13; (with_reducible refine (C1.out _ _ (HR.out _ (Only.refl _ _))).mono ?_); rintro e w2 ⟨rfl, hO⟩; have HO2 := Lib.hid hO; clear hO)
          | (go_at_call 14; (with_reducible refine (C2.out _ _ (HR.out _ HO2.out)).mono ?_); rintro e w3 ⟨rfl, hO⟩; have HO3 := Lib.hid (trans_quiet HO2.out hO); clear hO)
          | (go_at_call 15; (with_reducible refine (C3.out _ _ (HR.out _ HO3.out)).mono ?_); rintro e w4 ⟨rfl, hO⟩; have HO4 := Lib.hid (trans_quiet HO3.out hO); clear hO)
          | (go_at_call 16; (with_reducible refine (C4.out _ _ (HR.out _ HO4.out)).mono ?_); rintro e w5 ⟨rfl, hO⟩; have HO5 := Lib.hid (trans_quiet HO4.out hO); clear hO)
          | (go_at_call 17; (with_reducible refine (C5.out _ _ (H.out.later (trans_quiet HO1.out HO5.out))).mono ?_); rintro e w6 ⟨rfl, hO⟩; have HO6 := Lib.hid (trans_quiet HO5.out hO); clear hO)
          | (go_at_call 18; (with_reducible refine (C6.out _ _ (HR.out _ HO6.out)).mono ?_); rintro e w7 ⟨rfl, hO⟩; have HO7 := Lib.hid (trans_quiet HO6.out hO); clear hO)
          | (go_at_call 18; (with_reducible refine (C7.out _).mono ?_); rintro e w8 ⟨rfl, hO⟩; have HO8 := Lib.hid (trans_quiet HO1.out (trans_quiet (HO7.out.alloc _) hO)); clear hO)
          | (go_at_call 19; (with_reducible refine (C8.out _ _ (H.out.later HO8.out)).mono ?_); rintro e w9 ⟨rfl, hO⟩; have HO9 := Lib.hid (trans_quiet HO8.out hO); clear hO)
          | (go_at_call 20; (with_reducible refine (C9.out _ _ (H.out.later HO9.out)).mono ?_); rintro e w10 ⟨rfl, hO⟩; have HO10 := Lib.hid (trans_quiet HO9.out hO); clear hO))
      go_ret
      exact ⟨rfl, Only.below HO10.out (Nat.le_refl _) (fun _ e => e.elim)⟩
    · by_cases t2 : 100000 < t
      · have C4 := Lib.hid (fun (wx : World) (v : Value) (hv : UV wx v S) => CD.out wx v hv (Or.inr t2))
        clear CD CE
        go_enter Try.func3, Try.ntmps3
        go_wp2_with (first
            | (go_at_call 12; (with_reducible refine C0.out.mono ?_); rintro e w1 ⟨V, rfl, hr, hO⟩; have HR := Lib.hid (fun (wx : World) (hO : Only (fun _ => False) w1 wx) => row_view (hr.later hO)); have HO1 := Lib.hid hO; clear hr hO)
            | (go_at_call 13; (with_reducible refine (C1.out _ _ (HR.out _ (Only.refl _ _))).mono ?_); rintro e w2 ⟨rfl, hO⟩; have HO2 := Lib.hid hO; clear hO)
            | (go_at_call 14; (with_reducible refine (C2.out _ _ (HR.out _ HO2.out)).mono ?_); rintro e w3 ⟨rfl, hO⟩; have HO3 := Lib.hid (trans_quiet HO2.out hO); clear hO)
            | (go_at_call 15; (with_reducible refine (C3.out _ _ (HR.out _ HO3.out)).mono ?_); rintro e w4 ⟨rfl, hO⟩; have HO4 := Lib.hid (trans_quiet HO3.out hO); clear hO)
            | (go_at_call 16; (with_reducible refine (C4.out _ _ (HR.out _ HO4.out)).mono ?_); rintro e w5 ⟨rfl, hO⟩; have HO5 := Lib.hid (trans_quiet HO4.out hO); clear hO)
            | (go_at_call 17; (with_reducible refine (C5.out _ _ (H.out.later (trans_quiet HO1.out HO5.out))).mono ?_); rintro e w6 ⟨rfl, hO⟩; have HO6 := Lib.hid (trans_quiet HO5.out hO); clear hO)
            | (go_at_call 18; (with_reducible refine (C6.out _ _ (HR.out _ HO6.out)).mono ?_); rintro e w7 ⟨rfl, hO⟩; have HO7 := Lib.hid (trans_quiet HO6.out hO); clear hO)
            | (go_at_call 18; (with_reducible refine (C7.out _).mono ?_); rintro e w8 ⟨rfl, hO⟩; have HO8 := Lib.hid (trans_quiet HO1.out (trans_quiet (HO7.out.alloc _) hO)); clear hO)
            | (go_at_call 19; (with_reducible refine (C8.out _ _ (H.out.later HO8.out)).mono ?_); rintro e w9 ⟨rfl, hO⟩; have HO9 := Lib.hid (trans_quiet HO8.out hO); clear hO)
            | (go_at_call 20; (with_reducible refine (C9.out _ _ (H.out.later HO9.out)).mono ?_); rintro e w10 ⟨rfl, hO⟩; have HO10 := Lib.hid (trans_quiet HO9.out hO); clear hO))
        go_ret
        exact ⟨rfl, Only.below HO10.out (Nat.le_refl _) (fun _ e => e.elim)⟩
      · obtain ⟨t, rfl⟩ : ∃ k : Nat, t = k := ⟨t.toNat, by omega⟩
        have C4 := Lib.hid (fun (wx : World) (v : Value) (hv : UV wx v S) => CE.out wx v hv t (by omega))
        clear CD CE
        go_enter Try.func3, Try.ntmps3
        go_wp2_with (first
            | (go_at_call 12; (with_reducible refine C0.out.mono ?_); rintro e w1 ⟨V, rfl, hr, hO⟩; have HR := Lib.hid (fun (wx : World) (hO : Only (fun _ => False) w1 wx) => row_view (hr.later hO)); have HO1 := Lib.hid hO; clear hr hO)
            | (go_at_call 13; (with_reducible refine (C1.out _ _ (HR.out _ (Only.refl _ _))).mono ?_); rintro e w2 ⟨rfl, hO⟩; have HO2 := Lib.hid hO; clear hO)
            | (go_at_call 14; (with_reducible refine (C2.out _ _ (HR.out _ HO2.out)).mono ?_); rintro e w3 ⟨rfl, hO⟩; have HO3 := Lib.hid (trans_quiet HO2.out hO); clear hO)
            | (go_at_call 15; (with_reducible refine (C3.out _ _ (HR.out _ HO3.out)).mono ?_); rintro e w4 ⟨rfl, hO⟩; have HO4 := Lib.hid (trans_quiet HO3.out hO); clear hO)
            | (go_at_call 16; (with_reducible refine (C4.out _ _ (HR.out _ HO4.out)).mono ?_); rintro e w5 ⟨rfl, hO⟩; have HO5 := Lib.hid (trans_quiet HO4.out hO); clear hO)
            | (go_at_call 17; (with_reducible refine (C5.out _ _ (H.out.later (trans_quiet HO1.out HO5.out))).mono ?_); rintro e w6 ⟨rfl, hO⟩; have HO6 := Lib.hid (trans_quiet HO5.out hO); clear hO)
            | (go_at_call 18; (with_reducible refine (C6.out _ _ (HR.out _ HO6.out)).mono ?_); rintro e w7 ⟨rfl, hO⟩; have HO7 := Lib.hid (trans_quiet HO6.out hO); clear hO)
            | (go_at_call 18; (with_reducible refine (C7.out _).mono ?_); rintro e w8 ⟨rfl, hO⟩; have HO8 := Lib.hid (trans_quiet HO1.out (trans_quiet (HO7.out.alloc _) hO)); clear hO)
            | (go_at_call 19; (with_reducible refine (C8.out _ _ (H.out.later HO8.out)).mono ?_); rintro e w9 ⟨rfl, hO⟩; have HO9 := Lib.hid (trans_quiet HO8.out hO); clear hO)
            | (go_at_call 20; (with_reducible refine (C9.out _ _ (H.out.later HO9.out)).mono ?_); rintro e w10 ⟨rfl, hO⟩; have HO10 := Lib.hid (trans_quiet HO9.out hO); clear hO))
        go_loopw [20, 163] (fun s i wr => ∃ k : Nat, k ≤ n ∧ i = .int .i64 k ∧ s = .int .i64 (usedTo S t k : Nat) ∧ Only (fun _ => False) w wr) (fun _ i _ => n - (intOf i).toNat)
        case atStart => exact ⟨0, Nat.zero_le _, rfl, rfl, HO10.out⟩
        case round =>
          obtain ⟨k, hk, rfl, rfl, hOr⟩ := hrel
          have HRR := Lib.hid hOr
          clear hOr
          by_cases hlt : k < n
          · obtain ⟨b, off, rfl, hb, c1, c2⟩ : ∃ b off, a = some ⟨b, off, none⟩ ∧ b < wr.heap.size ∧ wr.cell? ⟨b, off + k * 2, none⟩ = some (.int .i64 (nthU S k).1) ∧ wr.cell? ⟨b, off + k * 2 + 1, none⟩ = some (.int .i64 (nthU S k).2) := by
              obtain ⟨a', c', e, -, -, h3⟩ := H.out.later HRR.out
              cases e
              exact h3 k (by rw [HN.out]; exact hlt)
            have g1 : (k : Int) < n := by omega
            have hu := okU_nat (HOK.out k (by rw [HN.out]; exact hlt))
            have hs1 := usedTo_bd HOK.out (by rw [HN.out]; exact hl) (show t ≤ 2329089562800 by omega) (k := k + 1) (by rw [HN.out]; omega)
            have hS : usedTo S t (k + 1) = usedTo S t k + t / per (nthU S k) * cst (nthU S k) := rfl
            obtain ⟨s', hs'⟩ : ∃ s', usedTo S t (k + 1) = s' := ⟨_, rfl⟩
            have HS' := Lib.hid hs'
            rw [hs'] at hs1 hS
            clear hs'
            generalize usedTo S t k = s at *
            obtain ⟨u1, u2, u3, u4, u5, u6⟩ := hu
            rw [u1] at c1
            rw [u2] at c2
            clear u1 u2
            generalize cst (nthU S k) = cc at *
            generalize per (nthU S k) = p at *
            obtain ⟨z, hz⟩ : ∃ z, t / p = z := ⟨_, rfl⟩
            obtain ⟨m, hm⟩ : ∃ m, t % p = m := ⟨_, rfl⟩
            have hz1 : z ≤ t := hz ▸ Nat.div_le_self t p
            have hmt : m ≤ t := hm ▸ Nat.mod_le t p
            have hdm : p * z + m = t := by rw [← hz, ← hm]; exact Nat.div_add_mod t p
            have qm : (t : Int) % p = (m : Int) := by rw [← hm]; rfl
            have qz : ((t : Int) - m) / p = (z : Int) := by
              rw [show (t : Int) - m = (p : Int) * z by rw [← hdm]; rw [Int.natCast_add, Int.natCast_mul]; omega]
              exact Int.mul_ediv_cancel_left _ (by omega)
            rw [hz] at hS
            obtain ⟨q, hq⟩ : ∃ q, z * cc = q := ⟨_, rfl⟩
            rw [hq] at hS
            have q2 : wrap64 ((z : Int) * cc) = q := by rw [← Int.natCast_mul, hq]; exact IntWalk.wrap64_in _ (by omega)
            have q3 : wrap64 ((s : Int) + q) = s' := wrap_add hS hs1
            clear hz hm hdm hS hq
            have y1 : ¬ (p : Int) = 0 := by omega
            have y2 : (0 : Int) ≤ t := by omega
            have y3 : (0 : Int) ≤ (t : Int) - m := by omega
            go_wp2_with fail
            go_quiet (fail)
            go_wp2_with fail
            go_roundw
            case rel => exact ⟨k + 1, by omega, by go_num, by rw [HS'.out, q3], only_quiet (HRR.out.alloc _) _⟩
            case measure => simp [intOf]; omega
          · obtain rfl : k = n := by omega
            go_wp2_with fail
            go_ret
            exact ⟨rfl, Only.below HRR.out (Nat.le_refl _) (fun _ e => e.elim)⟩
  · by_cases k2 : 4 < cpus
    · have C3 := Lib.hid (fun (wx : World) (v : Value) (hv : UV wx v S) => CF.out wx v hv (Or.inr k2))
      clear CF CG hsd
      by_cases t1 : t < 0
      · have C4 := Lib.hid (fun (wx : World) (v : Value) (hv : UV wx v S) => CD.out wx v hv (Or.inl t1))
        clear CD CE
        go_enter Try.func3, Try.ntmps3
        go_wp2_with (first
            | (go_at_call 12; (with_reducible refine C0.out.mono ?_); rintro e w1 ⟨V, rfl, hr, hO⟩; have HR := Lib.hid (fun (wx : World) (hO : Only (fun _ => False) w1 wx) => row_view (hr.later hO)); have HO1 := Lib.hid hO; clear hr hO)
            | (go_at_call 13; (with_reducible refine (C1.out _ _ (HR.out _ (Only.refl _ _))).mono ?_); rintro e w2 ⟨rfl, hO⟩; have HO2 := Lib.hid hO; clear hO)
            | (go_at_call 14; (with_reducible refine (C2.out _ _ (HR.out _ HO2.out)).mono ?_); rintro e w3 ⟨rfl, hO⟩; have HO3 := Lib.hid (trans_quiet HO2.out hO); clear hO)
            | (go_at_call 15; (with_reducible refine (C3.out _ _ (HR.out _ HO3.out)).mono ?_); rintro e w4 ⟨rfl, hO⟩; have HO4 := Lib.hid (trans_quiet HO3.out hO); clear hO)
            | (go_at_call 16; (with_reducible refine (C4.out _ _ (HR.out _ HO4.out)).mono ?_); rintro e w5 ⟨rfl, hO⟩; have HO5 := Lib.hid (trans_quiet HO4.out hO); clear hO)
            | (go_at_call 17; (with_reducible refine (C5.out _ _ (H.out.later (trans_quiet HO1.out HO5.out))).mono ?_); rintro e w6 ⟨rfl, hO⟩; have HO6 := Lib.hid (trans_quiet HO5.out hO); clear hO)
            | (go_at_call 18; (with_reducible refine (C6.out _ _ (HR.out _ HO6.out)).mono ?_); rintro e w7 ⟨rfl, hO⟩; have HO7 := Lib.hid (trans_quiet HO6.out hO); clear hO)
            | (go_at_call 18; (with_reducible refine (C7.out _).mono ?_); rintro e w8 ⟨rfl, hO⟩; have HO8 := Lib.hid (trans_quiet HO1.out (trans_quiet (HO7.out.alloc _) hO)); clear hO)
            | (go_at_call 19; (with_reducible refine (C8.out _ _ (H.out.later HO8.out)).mono ?_); rintro e w9 ⟨rfl, hO⟩; have HO9 := Lib.hid (trans_quiet HO8.out hO); clear hO)
            | (go_at_call 20; (with_reducible refine (C9.out _ _ (H.out.later HO9.out)).mono ?_); rintro e w10 ⟨rfl, hO⟩; have HO10 := Lib.hid (trans_quiet HO9.out hO); clear hO))
        go_ret
        exact ⟨rfl, Only.below HO10.out (Nat.le_refl _) (fun _ e => e.elim)⟩
      · by_cases t2 : 100000 < t
        · have C4 := Lib.hid (fun (wx : World) (v : Value) (hv : UV wx v S) => CD.out wx v hv (Or.inr t2))
          clear CD CE
          go_enter Try.func3, Try.ntmps3
          go_wp2_with (first
              | (go_at_call 12; (with_reducible refine C0.out.mono ?_); rintro e w1 ⟨V, rfl, hr, hO⟩; have HR := Lib.hid (fun (wx : World) (hO : Only (fun _ => False) w1 wx) => row_view (hr.later hO)); have HO1 := Lib.hid hO; clear hr hO)
              | (go_at_call 13; (with_reducible refine (C1.out _ _ (HR.out _ (Only.refl _ _))).mono ?_); rintro e w2 ⟨rfl, hO⟩; have HO2 := Lib.hid hO; clear hO)
              | (go_at_call 14; (with_reducible refine (C2.out _ _ (HR.out _ HO2.out)).mono ?_); rintro e w3 ⟨rfl, hO⟩; have HO3 := Lib.hid (trans_quiet HO2.out hO); clear hO)
              | (go_at_call 15; (with_reducible refine (C3.out _ _ (HR.out _ HO3.out)).mono ?_); rintro e w4 ⟨rfl, hO⟩; have HO4 := Lib.hid (trans_quiet HO3.out hO); clear hO)
              | (go_at_call 16; (with_reducible refine (C4.out _ _ (HR.out _ HO4.out)).mono ?_); rintro e w5 ⟨rfl, hO⟩; have HO5 := Lib.hid (trans_quiet HO4.out hO); clear hO)
              | (go_at_call 17; (with_reducible refine (C5.out _ _ (H.out.later (trans_quiet HO1.out HO5.out))).mono ?_); rintro e w6 ⟨rfl, hO⟩; have HO6 := Lib.hid (trans_quiet HO5.out hO); clear hO)
              | (go_at_call 18; (with_reducible refine (C6.out _ _ (HR.out _ HO6.out)).mono ?_); rintro e w7 ⟨rfl, hO⟩; have HO7 := Lib.hid (trans_quiet HO6.out hO); clear hO)
              | (go_at_call 18; (with_reducible refine (C7.out _).mono ?_); rintro e w8 ⟨rfl, hO⟩; have HO8 := Lib.hid (trans_quiet HO1.out (trans_quiet (HO7.out.alloc _) hO)); clear hO)
              | (go_at_call 19; (with_reducible refine (C8.out _ _ (H.out.later HO8.out)).mono ?_); rintro e w9 ⟨rfl, hO⟩; have HO9 := Lib.hid (trans_quiet HO8.out hO); clear hO)
              | (go_at_call 20; (with_reducible refine (C9.out _ _ (H.out.later HO9.out)).mono ?_); rintro e w10 ⟨rfl, hO⟩; have HO10 := Lib.hid (trans_quiet HO9.out hO); clear hO))
          go_ret
          exact ⟨rfl, Only.below HO10.out (Nat.le_refl _) (fun _ e => e.elim)⟩
        · obtain ⟨t, rfl⟩ : ∃ k : Nat, t = k := ⟨t.toNat, by omega⟩
          have C4 := Lib.hid (fun (wx : World) (v : Value) (hv : UV wx v S) => CE.out wx v hv t (by omega))
          clear CD CE
          go_enter Try.func3, Try.ntmps3
          go_wp2_with (first
              | (go_at_call 12; (with_reducible refine C0.out.mono ?_); rintro e w1 ⟨V, rfl, hr, hO⟩; have HR := Lib.hid (fun (wx : World) (hO : Only (fun _ => False) w1 wx) => row_view (hr.later hO)); have HO1 := Lib.hid hO; clear hr hO)
              | (go_at_call 13; (with_reducible refine (C1.out _ _ (HR.out _ (Only.refl _ _))).mono ?_); rintro e w2 ⟨rfl, hO⟩; have HO2 := Lib.hid hO; clear hO)
              | (go_at_call 14; (with_reducible refine (C2.out _ _ (HR.out _ HO2.out)).mono ?_); rintro e w3 ⟨rfl, hO⟩; have HO3 := Lib.hid (trans_quiet HO2.out hO); clear hO)
              | (go_at_call 15; (with_reducible refine (C3.out _ _ (HR.out _ HO3.out)).mono ?_); rintro e w4 ⟨rfl, hO⟩; have HO4 := Lib.hid (trans_quiet HO3.out hO); clear hO)
              | (go_at_call 16; (with_reducible refine (C4.out _ _ (HR.out _ HO4.out)).mono ?_); rintro e w5 ⟨rfl, hO⟩; have HO5 := Lib.hid (trans_quiet HO4.out hO); clear hO)
              | (go_at_call 17; (with_reducible refine (C5.out _ _ (H.out.later (trans_quiet HO1.out HO5.out))).mono ?_); rintro e w6 ⟨rfl, hO⟩; have HO6 := Lib.hid (trans_quiet HO5.out hO); clear hO)
              | (go_at_call 18; (with_reducible refine (C6.out _ _ (HR.out _ HO6.out)).mono ?_); rintro e w7 ⟨rfl, hO⟩; have HO7 := Lib.hid (trans_quiet HO6.out hO); clear hO)
              | (go_at_call 18; (with_reducible refine (C7.out _).mono ?_); rintro e w8 ⟨rfl, hO⟩; have HO8 := Lib.hid (trans_quiet HO1.out (trans_quiet (HO7.out.alloc _) hO)); clear hO)
              | (go_at_call 19; (with_reducible refine (C8.out _ _ (H.out.later HO8.out)).mono ?_); rintro e w9 ⟨rfl, hO⟩; have HO9 := Lib.hid (trans_quiet HO8.out hO); clear hO)
              | (go_at_call 20; (with_reducible refine (C9.out _ _ (H.out.later HO9.out)).mono ?_); rintro e w10 ⟨rfl, hO⟩; have HO10 := Lib.hid (trans_quiet HO9.out hO); clear hO))
          go_loopw [20, 163] (fun s i wr => ∃ k : Nat, k ≤ n ∧ i = .int .i64 k ∧ s = .int .i64 (usedTo S t k : Nat) ∧ Only (fun _ => False) w wr) (fun _ i _ => n - (intOf i).toNat)
          case atStart => exact ⟨0, Nat.zero_le _, rfl, rfl, HO10.out⟩
          case round =>
            obtain ⟨k, hk, rfl, rfl, hOr⟩ := hrel
            have HRR := Lib.hid hOr
            clear hOr
            by_cases hlt : k < n
            · obtain ⟨b, off, rfl, hb, c1, c2⟩ : ∃ b off, a = some ⟨b, off, none⟩ ∧ b < wr.heap.size ∧ wr.cell? ⟨b, off + k * 2, none⟩ = some (.int .i64 (nthU S k).1) ∧ wr.cell? ⟨b, off + k * 2 + 1, none⟩ = some (.int .i64 (nthU S k).2) := by
                obtain ⟨a', c', e, -, -, h3⟩ := H.out.later HRR.out
                cases e
                exact h3 k (by rw [HN.out]; exact hlt)
              have g1 : (k : Int) < n := by omega
              have hu := okU_nat (HOK.out k (by rw [HN.out]; exact hlt))
              have hs1 := usedTo_bd HOK.out (by rw [HN.out]; exact hl) (show t ≤ 2329089562800 by omega) (k := k + 1) (by rw [HN.out]; omega)
              have hS : usedTo S t (k + 1) = usedTo S t k + t / per (nthU S k) * cst (nthU S k) := rfl
              obtain ⟨s', hs'⟩ : ∃ s', usedTo S t (k + 1) = s' := ⟨_, rfl⟩
              have HS' := Lib.hid hs'
              rw [hs'] at hs1 hS
              clear hs'
              generalize usedTo S t k = s at *
              obtain ⟨u1, u2, u3, u4, u5, u6⟩ := hu
              rw [u1] at c1
              rw [u2] at c2
              clear u1 u2
              generalize cst (nthU S k) = cc at *
              generalize per (nthU S k) = p at *
              obtain ⟨z, hz⟩ : ∃ z, t / p = z := ⟨_, rfl⟩
              obtain ⟨m, hm⟩ : ∃ m, t % p = m := ⟨_, rfl⟩
              have hz1 : z ≤ t := hz ▸ Nat.div_le_self t p
              have hmt : m ≤ t := hm ▸ Nat.mod_le t p
              have hdm : p * z + m = t := by rw [← hz, ← hm]; exact Nat.div_add_mod t p
              have qm : (t : Int) % p = (m : Int) := by rw [← hm]; rfl
              have qz : ((t : Int) - m) / p = (z : Int) := by
                rw [show (t : Int) - m = (p : Int) * z by rw [← hdm]; rw [Int.natCast_add, Int.natCast_mul]; omega]
                exact Int.mul_ediv_cancel_left _ (by omega)
              rw [hz] at hS
              obtain ⟨q, hq⟩ : ∃ q, z * cc = q := ⟨_, rfl⟩
              rw [hq] at hS
              have q2 : wrap64 ((z : Int) * cc) = q := by rw [← Int.natCast_mul, hq]; exact IntWalk.wrap64_in _ (by omega)
              have q3 : wrap64 ((s : Int) + q) = s' := wrap_add hS hs1
              clear hz hm hdm hS hq
              have y1 : ¬ (p : Int) = 0 := by omega
              have y2 : (0 : Int) ≤ t := by omega
              have y3 : (0 : Int) ≤ (t : Int) - m := by omega
              go_wp2_with fail
              go_quiet (fail)
              go_wp2_with fail
              go_roundw
              case rel => exact ⟨k + 1, by omega, by go_num, by rw [HS'.out, q3], only_quiet (HRR.out.alloc _) _⟩
              case measure => simp [intOf]; omega
            · obtain rfl : k = n := by omega
              go_wp2_with fail
              go_ret
              exact ⟨rfl, Only.below HRR.out (Nat.le_refl _) (fun _ e => e.elim)⟩
    · obtain ⟨k, rfl⟩ : ∃ k : Nat, cpus = k := ⟨cpus.toNat, by omega⟩
      have hk4 : k ≤ 4 := by omega
      have hk1 : 1 ≤ k := by omega
      have c3 := fun (wx : World) (v : Value) (hv : UV wx v S) => CG.out wx v hv k ⟨by omega, by omega⟩
      have q1 : wrap64 ((k : Int) * y) = ((k * y : Nat) : Int) := wrap_mul hk4 hsd
      generalize k * y = z at *
      clear CF CG hsd
      by_cases hf : x ≤ z
      · rw [decide_eq_true hf] at c3
        have C3 := Lib.hid c3
        have hf2 : (x : Int) ≤ z := by omega
        clear c3 hf
        by_cases t1 : t < 0
        · have C4 := Lib.hid (fun (wx : World) (v : Value) (hv : UV wx v S) => CD.out wx v hv (Or.inl t1))
          clear CD CE
          go_enter Try.func3, Try.ntmps3
          go_wp2_with (first
              | (go_at_call 12; (with_reducible refine C0.out.mono ?_); rintro e w1 ⟨V, rfl, hr, hO⟩; have HR := Lib.hid (fun (wx : World) (hO : Only (fun _ => False) w1 wx) => row_view (hr.later hO)); have HO1 := Lib.hid hO; clear hr hO)
              | (go_at_call 13; (with_reducible refine (C1.out _ _ (HR.out _ (Only.refl _ _))).mono ?_); rintro e w2 ⟨rfl, hO⟩; have HO2 := Lib.hid hO; clear hO)
              | (go_at_call 14; (with_reducible refine (C2.out _ _ (HR.out _ HO2.out)).mono ?_); rintro e w3 ⟨rfl, hO⟩; have HO3 := Lib.hid (trans_quiet HO2.out hO); clear hO)
              | (go_at_call 15; (with_reducible refine (C3.out _ _ (HR.out _ HO3.out)).mono ?_); rintro e w4 ⟨rfl, hO⟩; have HO4 := Lib.hid (trans_quiet HO3.out hO); clear hO)
              | (go_at_call 16; (with_reducible refine (C4.out _ _ (HR.out _ HO4.out)).mono ?_); rintro e w5 ⟨rfl, hO⟩; have HO5 := Lib.hid (trans_quiet HO4.out hO); clear hO)
              | (go_at_call 17; (with_reducible refine (C5.out _ _ (H.out.later (trans_quiet HO1.out HO5.out))).mono ?_); rintro e w6 ⟨rfl, hO⟩; have HO6 := Lib.hid (trans_quiet HO5.out hO); clear hO)
              | (go_at_call 18; (with_reducible refine (C6.out _ _ (HR.out _ HO6.out)).mono ?_); rintro e w7 ⟨rfl, hO⟩; have HO7 := Lib.hid (trans_quiet HO6.out hO); clear hO)
              | (go_at_call 18; (with_reducible refine (C7.out _).mono ?_); rintro e w8 ⟨rfl, hO⟩; have HO8 := Lib.hid (trans_quiet HO1.out (trans_quiet (HO7.out.alloc _) hO)); clear hO)
              | (go_at_call 19; (with_reducible refine (C8.out _ _ (H.out.later HO8.out)).mono ?_); rintro e w9 ⟨rfl, hO⟩; have HO9 := Lib.hid (trans_quiet HO8.out hO); clear hO)
              | (go_at_call 20; (with_reducible refine (C9.out _ _ (H.out.later HO9.out)).mono ?_); rintro e w10 ⟨rfl, hO⟩; have HO10 := Lib.hid (trans_quiet HO9.out hO); clear hO))
          go_ret
          exact ⟨rfl, Only.below HO10.out (Nat.le_refl _) (fun _ e => e.elim)⟩
        · by_cases t2 : 100000 < t
          · have C4 := Lib.hid (fun (wx : World) (v : Value) (hv : UV wx v S) => CD.out wx v hv (Or.inr t2))
            clear CD CE
            go_enter Try.func3, Try.ntmps3
            go_wp2_with (first
                | (go_at_call 12; (with_reducible refine C0.out.mono ?_); rintro e w1 ⟨V, rfl, hr, hO⟩; have HR := Lib.hid (fun (wx : World) (hO : Only (fun _ => False) w1 wx) => row_view (hr.later hO)); have HO1 := Lib.hid hO; clear hr hO)
                | (go_at_call 13; (with_reducible refine (C1.out _ _ (HR.out _ (Only.refl _ _))).mono ?_); rintro e w2 ⟨rfl, hO⟩; have HO2 := Lib.hid hO; clear hO)
                | (go_at_call 14; (with_reducible refine (C2.out _ _ (HR.out _ HO2.out)).mono ?_); rintro e w3 ⟨rfl, hO⟩; have HO3 := Lib.hid (trans_quiet HO2.out hO); clear hO)
                | (go_at_call 15; (with_reducible refine (C3.out _ _ (HR.out _ HO3.out)).mono ?_); rintro e w4 ⟨rfl, hO⟩; have HO4 := Lib.hid (trans_quiet HO3.out hO); clear hO)
                | (go_at_call 16; (with_reducible refine (C4.out _ _ (HR.out _ HO4.out)).mono ?_); rintro e w5 ⟨rfl, hO⟩; have HO5 := Lib.hid (trans_quiet HO4.out hO); clear hO)
                | (go_at_call 17; (with_reducible refine (C5.out _ _ (H.out.later (trans_quiet HO1.out HO5.out))).mono ?_); rintro e w6 ⟨rfl, hO⟩; have HO6 := Lib.hid (trans_quiet HO5.out hO); clear hO)
                | (go_at_call 18; (with_reducible refine (C6.out _ _ (HR.out _ HO6.out)).mono ?_); rintro e w7 ⟨rfl, hO⟩; have HO7 := Lib.hid (trans_quiet HO6.out hO); clear hO)
                | (go_at_call 18; (with_reducible refine (C7.out _).mono ?_); rintro e w8 ⟨rfl, hO⟩; have HO8 := Lib.hid (trans_quiet HO1.out (trans_quiet (HO7.out.alloc _) hO)); clear hO)
                | (go_at_call 19; (with_reducible refine (C8.out _ _ (H.out.later HO8.out)).mono ?_); rintro e w9 ⟨rfl, hO⟩; have HO9 := Lib.hid (trans_quiet HO8.out hO); clear hO)
                | (go_at_call 20; (with_reducible refine (C9.out _ _ (H.out.later HO9.out)).mono ?_); rintro e w10 ⟨rfl, hO⟩; have HO10 := Lib.hid (trans_quiet HO9.out hO); clear hO))
            go_ret
            exact ⟨rfl, Only.below HO10.out (Nat.le_refl _) (fun _ e => e.elim)⟩
          · obtain ⟨t, rfl⟩ : ∃ k : Nat, t = k := ⟨t.toNat, by omega⟩
            have C4 := Lib.hid (fun (wx : World) (v : Value) (hv : UV wx v S) => CE.out wx v hv t (by omega))
            clear CD CE
            go_enter Try.func3, Try.ntmps3
            go_wp2_with (first
                | (go_at_call 12; (with_reducible refine C0.out.mono ?_); rintro e w1 ⟨V, rfl, hr, hO⟩; have HR := Lib.hid (fun (wx : World) (hO : Only (fun _ => False) w1 wx) => row_view (hr.later hO)); have HO1 := Lib.hid hO; clear hr hO)
                | (go_at_call 13; (with_reducible refine (C1.out _ _ (HR.out _ (Only.refl _ _))).mono ?_); rintro e w2 ⟨rfl, hO⟩; have HO2 := Lib.hid hO; clear hO)
                | (go_at_call 14; (with_reducible refine (C2.out _ _ (HR.out _ HO2.out)).mono ?_); rintro e w3 ⟨rfl, hO⟩; have HO3 := Lib.hid (trans_quiet HO2.out hO); clear hO)
                | (go_at_call 15; (with_reducible refine (C3.out _ _ (HR.out _ HO3.out)).mono ?_); rintro e w4 ⟨rfl, hO⟩; have HO4 := Lib.hid (trans_quiet HO3.out hO); clear hO)
                | (go_at_call 16; (with_reducible refine (C4.out _ _ (HR.out _ HO4.out)).mono ?_); rintro e w5 ⟨rfl, hO⟩; have HO5 := Lib.hid (trans_quiet HO4.out hO); clear hO)
                | (go_at_call 17; (with_reducible refine (C5.out _ _ (H.out.later (trans_quiet HO1.out HO5.out))).mono ?_); rintro e w6 ⟨rfl, hO⟩; have HO6 := Lib.hid (trans_quiet HO5.out hO); clear hO)
                | (go_at_call 18; (with_reducible refine (C6.out _ _ (HR.out _ HO6.out)).mono ?_); rintro e w7 ⟨rfl, hO⟩; have HO7 := Lib.hid (trans_quiet HO6.out hO); clear hO)
                | (go_at_call 18; (with_reducible refine (C7.out _).mono ?_); rintro e w8 ⟨rfl, hO⟩; have HO8 := Lib.hid (trans_quiet HO1.out (trans_quiet (HO7.out.alloc _) hO)); clear hO)
                | (go_at_call 19; (with_reducible refine (C8.out _ _ (H.out.later HO8.out)).mono ?_); rintro e w9 ⟨rfl, hO⟩; have HO9 := Lib.hid (trans_quiet HO8.out hO); clear hO)
                | (go_at_call 20; (with_reducible refine (C9.out _ _ (H.out.later HO9.out)).mono ?_); rintro e w10 ⟨rfl, hO⟩; have HO10 := Lib.hid (trans_quiet HO9.out hO); clear hO))
            go_loopw [20, 163] (fun s i wr => ∃ k : Nat, k ≤ n ∧ i = .int .i64 k ∧ s = .int .i64 (usedTo S t k : Nat) ∧ Only (fun _ => False) w wr) (fun _ i _ => n - (intOf i).toNat)
            case atStart => exact ⟨0, Nat.zero_le _, rfl, rfl, HO10.out⟩
            case round =>
              obtain ⟨k, hk, rfl, rfl, hOr⟩ := hrel
              have HRR := Lib.hid hOr
              clear hOr
              by_cases hlt : k < n
              · obtain ⟨b, off, rfl, hb, c1, c2⟩ : ∃ b off, a = some ⟨b, off, none⟩ ∧ b < wr.heap.size ∧ wr.cell? ⟨b, off + k * 2, none⟩ = some (.int .i64 (nthU S k).1) ∧ wr.cell? ⟨b, off + k * 2 + 1, none⟩ = some (.int .i64 (nthU S k).2) := by
                  obtain ⟨a', c', e, -, -, h3⟩ := H.out.later HRR.out
                  cases e
                  exact h3 k (by rw [HN.out]; exact hlt)
                have g1 : (k : Int) < n := by omega
                have hu := okU_nat (HOK.out k (by rw [HN.out]; exact hlt))
                have hs1 := usedTo_bd HOK.out (by rw [HN.out]; exact hl) (show t ≤ 2329089562800 by omega) (k := k + 1) (by rw [HN.out]; omega)
                have hS : usedTo S t (k + 1) = usedTo S t k + t / per (nthU S k) * cst (nthU S k) := rfl
                obtain ⟨s', hs'⟩ : ∃ s', usedTo S t (k + 1) = s' := ⟨_, rfl⟩
                have HS' := Lib.hid hs'
                rw [hs'] at hs1 hS
                clear hs'
                generalize usedTo S t k = s at *
                obtain ⟨u1, u2, u3, u4, u5, u6⟩ := hu
                rw [u1] at c1
                rw [u2] at c2
                clear u1 u2
                generalize cst (nthU S k) = cc at *
                generalize per (nthU S k) = p at *
                obtain ⟨z, hz⟩ : ∃ z, t / p = z := ⟨_, rfl⟩
                obtain ⟨m, hm⟩ : ∃ m, t % p = m := ⟨_, rfl⟩
                have hz1 : z ≤ t := hz ▸ Nat.div_le_self t p
                have hmt : m ≤ t := hm ▸ Nat.mod_le t p
                have hdm : p * z + m = t := by rw [← hz, ← hm]; exact Nat.div_add_mod t p
                have qm : (t : Int) % p = (m : Int) := by rw [← hm]; rfl
                have qz : ((t : Int) - m) / p = (z : Int) := by
                  rw [show (t : Int) - m = (p : Int) * z by rw [← hdm]; rw [Int.natCast_add, Int.natCast_mul]; omega]
                  exact Int.mul_ediv_cancel_left _ (by omega)
                rw [hz] at hS
                obtain ⟨q, hq⟩ : ∃ q, z * cc = q := ⟨_, rfl⟩
                rw [hq] at hS
                have q2 : wrap64 ((z : Int) * cc) = q := by rw [← Int.natCast_mul, hq]; exact IntWalk.wrap64_in _ (by omega)
                have q3 : wrap64 ((s : Int) + q) = s' := wrap_add hS hs1
                clear hz hm hdm hS hq
                have y1 : ¬ (p : Int) = 0 := by omega
                have y2 : (0 : Int) ≤ t := by omega
                have y3 : (0 : Int) ≤ (t : Int) - m := by omega
                go_wp2_with fail
                go_quiet (fail)
                go_wp2_with fail
                go_roundw
                case rel => exact ⟨k + 1, by omega, by go_num, by rw [HS'.out, q3], only_quiet (HRR.out.alloc _) _⟩
                case measure => simp [intOf]; omega
              · obtain rfl : k = n := by omega
                go_wp2_with fail
                go_ret
                exact ⟨rfl, Only.below HRR.out (Nat.le_refl _) (fun _ e => e.elim)⟩
      · rw [decide_eq_false hf] at c3
        have C3 := Lib.hid c3
        have hf2 : ¬ (x : Int) ≤ z := by omega
        clear c3 hf
        by_cases t1 : t < 0
        · have C4 := Lib.hid (fun (wx : World) (v : Value) (hv : UV wx v S) => CD.out wx v hv (Or.inl t1))
          clear CD CE
          go_enter Try.func3, Try.ntmps3
          go_wp2_with (first
              | (go_at_call 12; (with_reducible refine C0.out.mono ?_); rintro e w1 ⟨V, rfl, hr, hO⟩; have HR := Lib.hid (fun (wx : World) (hO : Only (fun _ => False) w1 wx) => row_view (hr.later hO)); have HO1 := Lib.hid hO; clear hr hO)
              | (go_at_call 13; (with_reducible refine (C1.out _ _ (HR.out _ (Only.refl _ _))).mono ?_); rintro e w2 ⟨rfl, hO⟩; have HO2 := Lib.hid hO; clear hO)
              | (go_at_call 14; (with_reducible refine (C2.out _ _ (HR.out _ HO2.out)).mono ?_); rintro e w3 ⟨rfl, hO⟩; have HO3 := Lib.hid (trans_quiet HO2.out hO); clear hO)
              | (go_at_call 15; (with_reducible refine (C3.out _ _ (HR.out _ HO3.out)).mono ?_); rintro e w4 ⟨rfl, hO⟩; have HO4 := Lib.hid (trans_quiet HO3.out hO); clear hO)
              | (go_at_call 16; (with_reducible refine (C4.out _ _ (HR.out _ HO4.out)).mono ?_); rintro e w5 ⟨rfl, hO⟩; have HO5 := Lib.hid (trans_quiet HO4.out hO); clear hO)
              | (go_at_call 17; (with_reducible refine (C5.out _ _ (H.out.later (trans_quiet HO1.out HO5.out))).mono ?_); rintro e w6 ⟨rfl, hO⟩; have HO6 := Lib.hid (trans_quiet HO5.out hO); clear hO)
              | (go_at_call 18; (with_reducible refine (C6.out _ _ (HR.out _ HO6.out)).mono ?_); rintro e w7 ⟨rfl, hO⟩; have HO7 := Lib.hid (trans_quiet HO6.out hO); clear hO)
              | (go_at_call 18; (with_reducible refine (C7.out _).mono ?_); rintro e w8 ⟨rfl, hO⟩; have HO8 := Lib.hid (trans_quiet HO1.out (trans_quiet (HO7.out.alloc _) hO)); clear hO)
              | (go_at_call 19; (with_reducible refine (C8.out _ _ (H.out.later HO8.out)).mono ?_); rintro e w9 ⟨rfl, hO⟩; have HO9 := Lib.hid (trans_quiet HO8.out hO); clear hO)
              | (go_at_call 20; (with_reducible refine (C9.out _ _ (H.out.later HO9.out)).mono ?_); rintro e w10 ⟨rfl, hO⟩; have HO10 := Lib.hid (trans_quiet HO9.out hO); clear hO))
          go_ret
          exact ⟨rfl, Only.below HO10.out (Nat.le_refl _) (fun _ e => e.elim)⟩
        · by_cases t2 : 100000 < t
          · have C4 := Lib.hid (fun (wx : World) (v : Value) (hv : UV wx v S) => CD.out wx v hv (Or.inr t2))
            clear CD CE
            go_enter Try.func3, Try.ntmps3
            go_wp2_with (first
                | (go_at_call 12; (with_reducible refine C0.out.mono ?_); rintro e w1 ⟨V, rfl, hr, hO⟩; have HR := Lib.hid (fun (wx : World) (hO : Only (fun _ => False) w1 wx) => row_view (hr.later hO)); have HO1 := Lib.hid hO; clear hr hO)
                | (go_at_call 13; (with_reducible refine (C1.out _ _ (HR.out _ (Only.refl _ _))).mono ?_); rintro e w2 ⟨rfl, hO⟩; have HO2 := Lib.hid hO; clear hO)
                | (go_at_call 14; (with_reducible refine (C2.out _ _ (HR.out _ HO2.out)).mono ?_); rintro e w3 ⟨rfl, hO⟩; have HO3 := Lib.hid (trans_quiet HO2.out hO); clear hO)
                | (go_at_call 15; (with_reducible refine (C3.out _ _ (HR.out _ HO3.out)).mono ?_); rintro e w4 ⟨rfl, hO⟩; have HO4 := Lib.hid (trans_quiet HO3.out hO); clear hO)
                | (go_at_call 16; (with_reducible refine (C4.out _ _ (HR.out _ HO4.out)).mono ?_); rintro e w5 ⟨rfl, hO⟩; have HO5 := Lib.hid (trans_quiet HO4.out hO); clear hO)
                | (go_at_call 17; (with_reducible refine (C5.out _ _ (H.out.later (trans_quiet HO1.out HO5.out))).mono ?_); rintro e w6 ⟨rfl, hO⟩; have HO6 := Lib.hid (trans_quiet HO5.out hO); clear hO)
                | (go_at_call 18; (with_reducible refine (C6.out _ _ (HR.out _ HO6.out)).mono ?_); rintro e w7 ⟨rfl, hO⟩; have HO7 := Lib.hid (trans_quiet HO6.out hO); clear hO)
                | (go_at_call 18; (with_reducible refine (C7.out _).mono ?_); rintro e w8 ⟨rfl, hO⟩; have HO8 := Lib.hid (trans_quiet HO1.out (trans_quiet (HO7.out.alloc _) hO)); clear hO)
                | (go_at_call 19; (with_reducible refine (C8.out _ _ (H.out.later HO8.out)).mono ?_); rintro e w9 ⟨rfl, hO⟩; have HO9 := Lib.hid (trans_quiet HO8.out hO); clear hO)
                | (go_at_call 20; (with_reducible refine (C9.out _ _ (H.out.later HO9.out)).mono ?_); rintro e w10 ⟨rfl, hO⟩; have HO10 := Lib.hid (trans_quiet HO9.out hO); clear hO))
            go_ret
            exact ⟨rfl, Only.below HO10.out (Nat.le_refl _) (fun _ e => e.elim)⟩
          · obtain ⟨t, rfl⟩ : ∃ k : Nat, t = k := ⟨t.toNat, by omega⟩
            have C4 := Lib.hid (fun (wx : World) (v : Value) (hv : UV wx v S) => CE.out wx v hv t (by omega))
            clear CD CE
            go_enter Try.func3, Try.ntmps3
            go_wp2_with (first
                | (go_at_call 12; (with_reducible refine C0.out.mono ?_); rintro e w1 ⟨V, rfl, hr, hO⟩; have HR := Lib.hid (fun (wx : World) (hO : Only (fun _ => False) w1 wx) => row_view (hr.later hO)); have HO1 := Lib.hid hO; clear hr hO)
                | (go_at_call 13; (with_reducible refine (C1.out _ _ (HR.out _ (Only.refl _ _))).mono ?_); rintro e w2 ⟨rfl, hO⟩; have HO2 := Lib.hid hO; clear hO)
                | (go_at_call 14; (with_reducible refine (C2.out _ _ (HR.out _ HO2.out)).mono ?_); rintro e w3 ⟨rfl, hO⟩; have HO3 := Lib.hid (trans_quiet HO2.out hO); clear hO)
                | (go_at_call 15; (with_reducible refine (C3.out _ _ (HR.out _ HO3.out)).mono ?_); rintro e w4 ⟨rfl, hO⟩; have HO4 := Lib.hid (trans_quiet HO3.out hO); clear hO)
                | (go_at_call 16; (with_reducible refine (C4.out _ _ (HR.out _ HO4.out)).mono ?_); rintro e w5 ⟨rfl, hO⟩; have HO5 := Lib.hid (trans_quiet HO4.out hO); clear hO)
                | (go_at_call 17; (with_reducible refine (C5.out _ _ (H.out.later (trans_quiet HO1.out HO5.out))).mono ?_); rintro e w6 ⟨rfl, hO⟩; have HO6 := Lib.hid (trans_quiet HO5.out hO); clear hO)
                | (go_at_call 18; (with_reducible refine (C6.out _ _ (HR.out _ HO6.out)).mono ?_); rintro e w7 ⟨rfl, hO⟩; have HO7 := Lib.hid (trans_quiet HO6.out hO); clear hO)
                | (go_at_call 18; (with_reducible refine (C7.out _).mono ?_); rintro e w8 ⟨rfl, hO⟩; have HO8 := Lib.hid (trans_quiet HO1.out (trans_quiet (HO7.out.alloc _) hO)); clear hO)
                | (go_at_call 19; (with_reducible refine (C8.out _ _ (H.out.later HO8.out)).mono ?_); rintro e w9 ⟨rfl, hO⟩; have HO9 := Lib.hid (trans_quiet HO8.out hO); clear hO)
                | (go_at_call 20; (with_reducible refine (C9.out _ _ (H.out.later HO9.out)).mono ?_); rintro e w10 ⟨rfl, hO⟩; have HO10 := Lib.hid (trans_quiet HO9.out hO); clear hO))
            go_loopw [20, 163] (fun s i wr => ∃ k : Nat, k ≤ n ∧ i = .int .i64 k ∧ s = .int .i64 (usedTo S t k : Nat) ∧ Only (fun _ => False) w wr) (fun _ i _ => n - (intOf i).toNat)
            case atStart => exact ⟨0, Nat.zero_le _, rfl, rfl, HO10.out⟩
            case round =>
              obtain ⟨k, hk, rfl, rfl, hOr⟩ := hrel
              have HRR := Lib.hid hOr
              clear hOr
              by_cases hlt : k < n
              · obtain ⟨b, off, rfl, hb, c1, c2⟩ : ∃ b off, a = some ⟨b, off, none⟩ ∧ b < wr.heap.size ∧ wr.cell? ⟨b, off + k * 2, none⟩ = some (.int .i64 (nthU S k).1) ∧ wr.cell? ⟨b, off + k * 2 + 1, none⟩ = some (.int .i64 (nthU S k).2) := by
                  obtain ⟨a', c', e, -, -, h3⟩ := H.out.later HRR.out
                  cases e
                  exact h3 k (by rw [HN.out]; exact hlt)
                have g1 : (k : Int) < n := by omega
                have hu := okU_nat (HOK.out k (by rw [HN.out]; exact hlt))
                have hs1 := usedTo_bd HOK.out (by rw [HN.out]; exact hl) (show t ≤ 2329089562800 by omega) (k := k + 1) (by rw [HN.out]; omega)
                have hS : usedTo S t (k + 1) = usedTo S t k + t / per (nthU S k) * cst (nthU S k) := rfl
                obtain ⟨s', hs'⟩ : ∃ s', usedTo S t (k + 1) = s' := ⟨_, rfl⟩
                have HS' := Lib.hid hs'
                rw [hs'] at hs1 hS
                clear hs'
                generalize usedTo S t k = s at *
                obtain ⟨u1, u2, u3, u4, u5, u6⟩ := hu
                rw [u1] at c1
                rw [u2] at c2
                clear u1 u2
                generalize cst (nthU S k) = cc at *
                generalize per (nthU S k) = p at *
                obtain ⟨z, hz⟩ : ∃ z, t / p = z := ⟨_, rfl⟩
                obtain ⟨m, hm⟩ : ∃ m, t % p = m := ⟨_, rfl⟩
                have hz1 : z ≤ t := hz ▸ Nat.div_le_self t p
                have hmt : m ≤ t := hm ▸ Nat.mod_le t p
                have hdm : p * z + m = t := by rw [← hz, ← hm]; exact Nat.div_add_mod t p
                have qm : (t : Int) % p = (m : Int) := by rw [← hm]; rfl
                have qz : ((t : Int) - m) / p = (z : Int) := by
                  rw [show (t : Int) - m = (p : Int) * z by rw [← hdm]; rw [Int.natCast_add, Int.natCast_mul]; omega]
                  exact Int.mul_ediv_cancel_left _ (by omega)
                rw [hz] at hS
                obtain ⟨q, hq⟩ : ∃ q, z * cc = q := ⟨_, rfl⟩
                rw [hq] at hS
                have q2 : wrap64 ((z : Int) * cc) = q := by rw [← Int.natCast_mul, hq]; exact IntWalk.wrap64_in _ (by omega)
                have q3 : wrap64 ((s : Int) + q) = s' := wrap_add hS hs1
                clear hz hm hdm hS hq
                have y1 : ¬ (p : Int) = 0 := by omega
                have y2 : (0 : Int) ≤ t := by omega
                have y3 : (0 : Int) ≤ (t : Int) - m := by omega
                go_wp2_with fail
                go_quiet (fail)
                go_wp2_with fail
                go_roundw
                case rel => exact ⟨k + 1, by omega, by go_num, by rw [HS'.out, q3], only_quiet (HRR.out.alloc _) _⟩
                case measure => simp [intOf]; omega
              · obtain rfl : k = n := by omega
                go_wp2_with fail
                go_ret
                exact ⟨rfl, Only.below HRR.out (Nat.le_refl _) (fun _ e => e.elim)⟩

theorem says_walk (v : Value) (S : List Use) (cpus t : Int) (w : World) (h : UV w v S) (hl : S.length ≤ 8796093022000) :
    Calls Try.prog 3 #[v, .int .i64 cpus, .int .i64 t] w fun e w' => e = .returned (.bool true) ∧ Below w.heap.size w w' := by
  by_cases hc : chk S = 0
  · exact says_good v S cpus t w h hc
  · exact says_bad v S cpus t w h hl hc
end Go.Proofs.Ytlohjlhopbhnoaa.Ad
