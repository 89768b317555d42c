/- The walk of FairWeights. -/
import Derived.Test.YtkjcaainbomemaaFAlike
namespace Go.Proofs.Ytkjcaainbomemaa.Fr
open Go.ChangeShapes Go.WideShapes Go.ChangeAt Go.RowKit Go.Maps
open Go.Proofs.Ytkjcaainbomemaa.Vt
set_option linter.unusedVariables false

/-- The times by ticks. -/
def vk (c k : Nat → Int) : Nat → Int := fun t => c t * k t

theorem vk_tick {m : Nat} {c k : Nat → Int} {n : Nat} (h1 : 1 ≤ n) (h2 : n ≤ m) : tickT (mkT m c (vk c k)) n = mkT m c (vk c (upd k n (k n + 1))) := by
  rw [mkT_tick h1 h2]
  refine mkT_congr (fun t h3 h4 => ⟨rfl, ?_⟩)
  unfold upd vk
  by_cases e : t = n
  · subst e; simp [Int.mul_add]
  · simp [e]

/-- No two tasks are further apart than most. -/
def Close (m : Nat) (c k : Nat → Int) (most : Int) : Prop := ∀ i j, 1 ≤ i → i ≤ m → 1 ≤ j → j ≤ m → c i * k i - c j * k j ≤ most

theorem close_tick {m : Nat} {c k : Nat → Int} {most : Int} {n : Nat} (h : Close m c k most) (hm : 1 ≤ m) (hm16 : m ≤ 16) (hn : first (mkT m c (vk c k)) 0 = n) (hc : ∀ t, 1 ≤ t → t ≤ m → 0 ≤ c t ∧ c t ≤ most) :
    1 ≤ n ∧ n ≤ m ∧ Close m c (upd k n (k n + 1)) most := by
  obtain ⟨h1, h2, h3⟩ := mkT_first (c := c) (v := vk c k) hm hm16
  rw [hn] at h1 h2 h3
  refine ⟨h1, h2, fun i j i1 i2 j1 j2 => ?_⟩
  have h4 := h i j i1 i2 j1 j2
  have h5 := hc n h1 h2
  have hi := h3 i i1 i2
  have hj := h3 j j1 j2
  unfold vk at hi hj
  unfold upd
  by_cases ei : i = n
  · by_cases ej : j = n
    · subst ei; subst ej; simp; omega
    · subst ei; simp only [if_true, if_neg ej, Int.mul_add, Int.mul_one]; omega
  · by_cases ej : j = n
    · subst ej; simp only [if_true, if_neg ei, Int.mul_add, Int.mul_one]; omega
    · simp only [if_neg ei, if_neg ej]; omega

theorem vk_fit {m : Nat} {c k : Nat → Int} {K : Int} (hm : m ≤ 16) (hc : ∀ t, 1 ≤ t → t ≤ m → 1 ≤ c t ∧ c t ≤ 1048576) (hk : ∀ t, 1 ≤ t → t ≤ m → 0 ≤ k t ∧ k t ≤ K) (hK0 : 0 ≤ K) (hK : K ≤ 2000) : Fit (mkT m c (vk c k)) noG 2097152000 := by
  refine mkT_fit hm hc (fun t h1 h2 => ?_) (by omega)
  have a := hc t h1 h2
  have b := hk t h1 h2
  have h3 : 0 ≤ c t * k t := Int.mul_nonneg (by omega) (by omega)
  have h4 : c t * k t ≤ 1048576 * 2000 := Int.mul_le_mul a.2 (by omega) (by omega) (by omega)
  unfold vk
  omega

theorem run_tick {w : World} {p m : Nat} {c k : Nat → Int} {K x : Int} {n : Nat} (h : FairAt w p (mkT m c (vk c k)) noG) (hm1 : 1 ≤ m) (hm : m ≤ 16) (hc : ∀ t, 1 ≤ t → t ≤ m → 1 ≤ c t ∧ c t ≤ 1048576) (hk : ∀ t, 1 ≤ t → t ≤ m → 0 ≤ k t ∧ k t ≤ K) (hK0 : 0 ≤ K) (hK : K ≤ 2000)
    (hn : first (mkT m c (vk c k)) 0 = n) (hx : (n : Int) = x) :
    Calls Try.prog 23 #[.pointer (some ⟨p, 0, none⟩)] w (FKeep w p (.tuple #[.int .i64 x, .int .i64 0]) (mkT m c (vk c (upd k n (k n + 1)))) noG) := by
  obtain ⟨h1, h2, -⟩ := mkT_first (c := c) (v := vk c k) hm1 hm
  rw [hn] at h1 h2
  exact tick_is h (vk_fit hm hc hk hK0 hK) (by omega) (by rw [mkT_next hm1 hm, hn]) (by omega) hx (vk_tick h1 h2) (mkT_tickG h1 h2)

theorem pow_bd {a : Nat} (h : a ≤ 6) : 1 ≤ (2 : Int) ^ a ∧ (2 : Int) ^ a ≤ 64 := by
  rcases (show a = 0 ∨ a = 1 ∨ a = 2 ∨ a = 3 ∨ a = 4 ∨ a = 5 ∨ a = 6 by omega) with rfl | rfl | rfl | rfl | rfl | rfl | rfl <;> decide

theorem wOf_pow {x : Int} (h : 1 ≤ x ∧ x ≤ 64) : wOf (x - 1) = x := by unfold wOf restOf; omega

/-- By how much twice the weight is off twice the ticks. -/
theorem weights_end {a b : Nat} (ha : a ≤ 6) (hb : b ≤ 6) (x y : Int) (h1 : costOf (2 ^ a) * x - costOf (2 ^ b) * y ≤ max (costOf (2 ^ a)) (costOf (2 ^ b))) (h2 : costOf (2 ^ b) * y - costOf (2 ^ a) * x ≤ max (costOf (2 ^ a)) (costOf (2 ^ b))) :
    x * 2 ^ b - y * 2 ^ a ≤ 2 ^ (max a b) ∧ -(x * 2 ^ b - y * 2 ^ a) ≤ 2 ^ (max a b) := by
  unfold costOf at h1 h2
  rcases (show a = 0 ∨ a = 1 ∨ a = 2 ∨ a = 3 ∨ a = 4 ∨ a = 5 ∨ a = 6 by omega) with rfl | rfl | rfl | rfl | rfl | rfl | rfl <;>
  rcases (show b = 0 ∨ b = 1 ∨ b = 2 ∨ b = 3 ∨ b = 4 ∨ b = 5 ∨ b = 6 by omega) with rfl | rfl | rfl | rfl | rfl | rfl | rfl <;>
  (simp only [Nat.max_def, Nat.reduceLeDiff, if_true, if_false] ; omega)

set_option maxRecDepth 100000 in
theorem weights_any (a0 a1 a2 : Int) (w : World) :
    Calls Try.prog 8 #[.int .i64 a0, .int .i64 a1, .int .i64 a2] w (fun e w' => e = .returned (.bool true) ∧ Below w.heap.size w w') := by
  obtain ⟨a, ha⟩ : ∃ k : Nat, restOf a0 7 = k := ⟨(restOf a0 7).toNat, by have := restOf_lo a0 7 (by omega); omega⟩
  have ha1 : a ≤ 6 := by have := restOf_hi a0 7 (by omega); omega
  obtain ⟨b, hb⟩ : ∃ k : Nat, restOf a1 7 = k := ⟨(restOf a1 7).toNat, by have := restOf_lo a1 7 (by omega); omega⟩
  have hb1 : b ≤ 6 := by have := restOf_hi a1 7 (by omega); omega
  obtain ⟨n, hn⟩ : ∃ n : Nat, restOf a2 1000 = n := ⟨(restOf a2 1000).toNat, by have := restOf_lo a2 1000 (by omega); omega⟩
  have hn1 : n < 1000 := by have := restOf_hi a2 1000 (by omega); omega
  have c0 := fun w => rest_any a0 7 (by omega) (by omega) w
  have c1 := fun w => rest_any a1 7 (by omega) (by omega) w
  have c2 := fun w => rest_any a2 1000 (by omega) (by omega) w
  rw [ha] at c0
  rw [hb] at c1
  rw [hn] at c2
  have C0 := Lib.hid c0
  have C1 := Lib.hid c1
  have C2 := Lib.hid c2
  clear c0 c1 c2 ha hb hn
  obtain ⟨A, hA⟩ : ∃ A : Int, 2 ^ a = A := ⟨_, rfl⟩
  obtain ⟨B, hB⟩ : ∃ B : Int, 2 ^ b = B := ⟨_, rfl⟩
  have hA1 : 1 ≤ A ∧ A ≤ 64 := by rw [← hA]; exact pow_bd ha1
  have hB1 : 1 ≤ B ∧ B ≤ 64 := by rw [← hB]; exact pow_bd hb1
  have qa : IntKind.i64.wrap ((2 : Int) ^ a) = A := by rw [hA]; exact IntWalk.i64_in _ (by omega)
  have qb : IntKind.i64.wrap ((2 : Int) ^ b) = B := by rw [hB]; exact IntWalk.i64_in _ (by omega)
  have qa1 : IntKind.i64.wrap (A - 1) = A - 1 := IntWalk.i64_in _ (by omega)
  have qb1 : IntKind.i64.wrap (B - 1) = B - 1 := IntWalk.i64_in _ (by omega)
  have HA := Lib.hid hA
  have HB := Lib.hid hB
  have A0 : Hid (a ≤ 6 ∧ b ≤ 6 ∧ n < 1000) := Lib.hid ⟨ha1, hb1, hn1⟩
  have s1 : (a : Int) ≤ 64 := by omega
  have s2 : (b : Int) ≤ 64 := by omega
  have s3 : (0 : Int) ≤ a := by omega
  have s4 : (0 : Int) ≤ b := by omega
  have W1 := Lib.hid (wOf_pow hA1)
  have W2 := Lib.hid (wOf_pow hB1)
  have A1 := Lib.hid hA1
  have B1 := Lib.hid hB1
  clear hA hB hA1 hB1
  go_enter Try.func8, Try.ntmps8
  go_wp2_with (first
    | (go_at_call 27; (with_reducible refine (begun_any _).mono ?_); rintro e w1 ⟨rfl, hO⟩; have HO := Lib.hid hO; clear hO)
    | (go_at_call 30; (with_reducible refine (C0.out _).mono ?_); rintro e w2 ⟨rfl, rfl⟩)
    | (go_at_call 30; (with_reducible refine (C1.out _).mono ?_); rintro e w2 ⟨rfl, rfl⟩))
  have h2 : Nums (w1.alloc (.cells #[.int .i64 (A - 1), .int .i64 (B - 1)] 3)).drew (.slice (some ⟨w1.heap.size, 0, none⟩) 2 2) [A - 1, B - 1] := nums_block (heap_alloc_new w1 _) rfl (c := 2) (xs := [A - 1, B - 1])
  have cf := fairs_any _ 2 2 [A - 1, B - 1] _ h2 rfl (by omega)
  have CF := Lib.hid cf
  clear h2 cf
  go_region_with ((go_at_call 28; (with_reducible refine CF.out.mono ?_); rintro e w4 ⟨p, rfl, hp, hF, hO⟩; have HF := Lib.hid hF; have HO4 := Lib.hid (only_trans (HO.out.alloc _).drew hO); have HP := Lib.hid (Nat.le_trans (HO.out.alloc (.cells #[.int .i64 (A - 1), .int .i64 (B - 1)] 3)).drew.size hp); clear hF hO hp))
  have hc : ∀ t : Nat, 10485 ≤ cw [A - 1, B - 1] t ∧ cw [A - 1, B - 1] t ≤ 1048576 := cw_bd _
  have e1 : cw [A - 1, B - 1] 1 = costOf A := by unfold cw; simp only [Nat.sub_self, List.getD_cons_zero, W1.out]
  have e2 : cw [A - 1, B - 1] 2 = costOf B := by unfold cw; simp only [Nat.add_one_sub_one, List.getD_cons_succ, List.getD_cons_zero, W2.out]
  have E1 := Lib.hid e1
  have E2 := Lib.hid e2
  have HC := Lib.hid hc
  have HF0 : Hid (FairAt w4 p (mkT 2 (cw [A - 1, B - 1]) (vk (cw [A - 1, B - 1]) (fun _ => 0))) noG) := by
    have := HF.out
    unfold bareT at this
    rw [mkT_congr (c' := cw [A - 1, B - 1]) (v' := vk (cw [A - 1, B - 1]) (fun _ => 0)) (fun t _ _ => ⟨rfl, by simp [vk]⟩)] at this
    exact Lib.hid this
  clear hc e1 e2 CF HF
  generalize cw [A - 1, B - 1] = c at *
  go_wp2_with (first
    | (go_at_call 30; (with_reducible refine (C2.out _).mono ?_); rintro e w5 ⟨rfl, rfl⟩))
  go_loopw [9, 10, 35] (fun x y i wr => ∃ (h : Nat) (k : Nat → Int), h ≤ n ∧ i = .int .i64 h ∧ x = .int .i64 (k 1) ∧ y = .int .i64 (k 2) ∧ (Close 2 c k (max (c 1) (c 2)) ∧ ∀ t, 1 ≤ t → t ≤ 2 → 0 ≤ k t ∧ k t ≤ h) ∧ FairAt wr p (mkT 2 c (vk c k)) noG ∧ Only (fun _ => False) w wr) (fun _ _ i _ => n - (intOf i).toNat)
  case atStart => exact ⟨0, fun _ => 0, by omega, rfl, rfl, rfl, ⟨fun i j _ _ _ _ => by have := HC.out 1; simp; omega, fun t _ _ => by simp⟩, HF0.out, HO4.out⟩
  case round =>
    obtain ⟨h, k, hh, rfl, rfl, rfl, hk, hF, hO⟩ := hrel
    have HK := Lib.hid hk
    have HF := Lib.hid hF
    have HO5 := Lib.hid hO
    have k1 := hk.2 1 (by omega) (by omega)
    have k2 := hk.2 2 (by omega) (by omega)
    clear hk hF hO
    by_cases hlt : h < n
    · have h1 : (h : Int) < n := by omega
      have n1000 := A0.out.2.2
      have hcl := fun n0 hn => close_tick (n := n0) HK.out.1 (by omega) (by omega) hn (fun t t1 t2 => ⟨by have := HC.out t; omega, by rcases (show t = 1 ∨ t = 2 by omega) with rfl | rfl <;> omega⟩)
      have HCL := Lib.hid hcl
      clear hcl
      obtain ⟨n0, hn0⟩ : ∃ n0, first (mkT 2 c (vk c k)) 0 = n0 := ⟨_, rfl⟩
      have hcn := HCL.out n0 hn0
      rcases (show n0 = 1 ∨ n0 = 2 by omega) with rfl | rfl
      · have ct := Lib.hid (run_tick HF.out (by omega) (by omega) (fun t _ _ => by have := HC.out t; omega) HK.out.2 (by omega) (by omega) hn0 (x := 1) rfl)
        have HN := Lib.hid hcn.2.2
        clear hn0 hcn
        go_wp2_with (go_at_call 23; (with_reducible refine ct.out.mono ?_); rintro e w6 ⟨rfl, hF3, hO6⟩; have HF3 := Lib.hid hF3; have HO6 := Lib.hid (only_new HO5.out hO6 HP.out); clear hF3 hO6)
        go_roundw
        case rel =>
          exact ⟨h + 1, upd k 1 (k 1 + 1), by omega, by go_num, by rw [upd_same], by rw [upd_other _ _ (by omega)], ⟨HN.out, fun t t1 t2 => by
            rcases (show t = 1 ∨ t = 2 by omega) with rfl | rfl
            · rw [upd_same]; omega
            · rw [upd_other _ _ (by omega)]; omega⟩, HF3.out, HO6.out⟩
        case measure => simp [intOf]; omega
      · have ct := Lib.hid (run_tick HF.out (by omega) (by omega) (fun t _ _ => by have := HC.out t; omega) HK.out.2 (by omega) (by omega) hn0 (x := 2) rfl)
        have HN := Lib.hid hcn.2.2
        clear hn0 hcn
        go_wp2_with (go_at_call 23; (with_reducible refine ct.out.mono ?_); rintro e w6 ⟨rfl, hF3, hO6⟩; have HF3 := Lib.hid hF3; have HO6 := Lib.hid (only_new HO5.out hO6 HP.out); clear hF3 hO6)
        go_roundw
        case rel =>
          exact ⟨h + 1, upd k 2 (k 2 + 1), by omega, by go_num, by rw [upd_other _ _ (by omega)], by rw [upd_same], ⟨HN.out, fun t t1 t2 => by
            rcases (show t = 1 ∨ t = 2 by omega) with rfl | rfl
            · rw [upd_other _ _ (by omega)]; omega
            · rw [upd_same]; omega⟩, HF3.out, HO6.out⟩
        case measure => simp [intOf]; omega
    · have hd := weights_end A0.out.1 A0.out.2.1 (k 1) (k 2) (by rw [HA.out, HB.out, ← E1.out, ← E2.out]; exact HK.out.1 1 2 (by omega) (by omega) (by omega) (by omega)) (by rw [HA.out, HB.out, ← E1.out, ← E2.out]; exact HK.out.1 2 1 (by omega) (by omega) (by omega) (by omega))
      rw [HA.out, HB.out] at hd
      generalize k 1 = x at *
      generalize k 2 = y at *
      obtain ⟨M, hM⟩ : ∃ M : Nat, max a b = M := ⟨_, rfl⟩
      rw [hM] at hd
      have qm := run_max2 (a : Int) b M (by omega)
      have m1 : M ≤ 6 := by have := A0.out; omega
      have mp := pow_bd m1
      have x1 : 0 ≤ x * B := Int.mul_nonneg (by omega) (by have := B1.out; omega)
      have x2 : x * B ≤ 1000 * 64 := Int.mul_le_mul (by have := A0.out; omega) B1.out.2 (by have := B1.out; omega) (by omega)
      have y1 : 0 ≤ y * A := Int.mul_nonneg (by omega) (by have := A1.out; omega)
      have y2 : y * A ≤ 1000 * 64 := Int.mul_le_mul (by have := A0.out; omega) A1.out.2 (by have := A1.out; omega) (by omega)
      have qx : IntKind.i64.wrap (x * 2 ^ b) = x * B := by rw [HB.out]; exact IntWalk.i64_in _ (by omega)
      have qy : IntKind.i64.wrap (y * 2 ^ a) = y * A := by rw [HA.out]; exact IntWalk.i64_in _ (by omega)
      obtain ⟨P, hP⟩ : ∃ P : Int, 2 ^ M = P := ⟨_, rfl⟩
      rw [hP] at hd mp
      generalize x * B = X at *
      generalize y * A = Y at *
      obtain ⟨D, hD⟩ : ∃ D, X - Y = D := ⟨_, rfl⟩
      rw [hD] at hd
      have qd : IntKind.i64.wrap (X - Y) = D := by rw [hD]; exact IntWalk.i64_in _ (by omega)
      have qn : IntKind.i64.wrap (-D) = -D := IntWalk.i64_in _ (by omega)
      have qp : IntKind.i64.wrap ((2 : Int) ^ M) = P := by rw [hP]; exact IntWalk.i64_in _ (by omega)
      have qp2 : wrap64 ((2 : Int) ^ M) = P := by rw [hP]; exact IntWalk.wrap64_in _ (by omega)
      obtain ⟨d1, d2⟩ := hd
      have HPP := Lib.hid hP
      clear hP
      have m2 : (M : Int) ≤ 64 := by omega
      have m3 : (0 : Int) ≤ M := by omega
      clear hD
      go_wp2_with fail
      go_quiet (fail)
      go_wp2_with fail
      go_ret
      exact ⟨by simp, Only.below (only_drewN HO5.out _) (Nat.le_refl _) (fun _ e => e.elim)⟩
end Go.Proofs.Ytkjcaainbomemaa.Fr
