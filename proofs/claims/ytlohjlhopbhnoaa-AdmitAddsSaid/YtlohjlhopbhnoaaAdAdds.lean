/- The walk of AdmitAdds. -/
import Derived.Test.YtlohjlhopbhnoaaAdLess
import Derived.Test.YtlohjlhopbhnoaaAdDem
namespace Go.Proofs.Ytlohjlhopbhnoaa.Ad
open Go.ChangeShapes Go.WideShapes Go.ChangeAt Go.RowKit
set_option linter.unusedVariables false

theorem shares_turn (N : Nat) (S : List Use) (r : Nat) : shares N (S.drop r ++ S.take r) = shares N S := by
  rw [shares_append, Nat.add_comm, ← shares_append, List.take_append_drop]

theorem share_same {S T : List Use} (hs : allOk S) (ht : allOk T) (ds : ∀ j, j < S.length → per (nthU S j) ∣ 120) (dt : ∀ j, j < T.length → per (nthU T j) ∣ 120) (h : shares 120 S = shares 120 T) : shareN S = shareN T ∧ shareD S = shareD T := by
  obtain ⟨a1, a2⟩ := share_by hs (N := 120) (by omega) ds
  obtain ⟨b1, b2⟩ := share_by ht (N := 120) (by omega) dt
  unfold shares at h
  rw [a1, a2, b1, b2, h]
  exact ⟨rfl, rfl⟩

theorem share_up {S T : List Use} (hs : allOk S) (ht : allOk T) (ds : ∀ j, j < S.length → per (nthU S j) ∣ 120) (dt : ∀ j, j < T.length → per (nthU T j) ∣ 120) (h : shares 120 S ≤ shares 120 T) : shareN S * shareD T ≤ shareN T * shareD S := by
  obtain ⟨a1, a2⟩ := share_by hs (N := 120) (by omega) ds
  obtain ⟨b1, b2⟩ := share_by ht (N := 120) (by omega) dt
  unfold shares at h
  rw [a1, a2, b1, b2]
  generalize usedTo S 120 S.length = x at *
  generalize usedTo T 120 T.length = y at *
  have g1 : 0 < Nat.gcd 120 x := Nat.gcd_pos_of_pos_left _ (by omega)
  have g2 : 0 < Nat.gcd 120 y := Nat.gcd_pos_of_pos_left _ (by omega)
  have e1 := Nat.div_mul_cancel (Nat.gcd_dvd_right 120 x)
  have e2 := Nat.div_mul_cancel (Nat.gcd_dvd_left 120 x)
  have e3 := Nat.div_mul_cancel (Nat.gcd_dvd_right 120 y)
  have e4 := Nat.div_mul_cancel (Nat.gcd_dvd_left 120 y)
  generalize x / Nat.gcd 120 x = p at *
  generalize 120 / Nat.gcd 120 x = q at *
  generalize y / Nat.gcd 120 y = r at *
  generalize 120 / Nat.gcd 120 y = s at *
  generalize Nat.gcd 120 x = g at *
  generalize Nat.gcd 120 y = k at *
  apply Nat.le_of_mul_le_mul_right (c := g * k) _ (Nat.mul_pos g1 g2)
  rw [show p * s * (g * k) = (p * g) * (s * k) by ac_rfl, show r * q * (g * k) = (r * k) * (q * g) by ac_rfl, e1, e2, e3, e4]
  exact Nat.mul_le_mul_right _ h

/-- What AdmitAdds asks. -/
structure Added (n1 d1 n2 d2 n3 d3 x y z : Nat) : Prop where
  n : n2 = n1
  d : d2 = d1
  sum : z = x + y
  up : n1 * d3 ≤ n3 * d1
  b : n1 ≤ 1000 ∧ d1 ≤ 1000 ∧ n3 ≤ 1000 ∧ d3 ≤ 1000 ∧ x ≤ 20000 ∧ y ≤ 20000

theorem SetOk.turned {S : List Use} (h : SetOk S) (r : Nat) : Ad.chk (S.drop r ++ S.take r) = 0 :=
  chk_of (S := S.drop r ++ S.take r) (by have := h.len; rw [List.length_append, List.length_drop, List.length_take]; omega) (fun x hx => by
    rcases List.mem_append.1 hx with hx | hx
    · exact (h.each x (List.mem_of_mem_drop hx)).1
    · exact (h.each x (List.mem_of_mem_take hx)).1)
theorem SetOk.both {S T : List Use} (h : SetOk S) (k : SetOk T) : Ad.chk (S ++ T) = 0 :=
  chk_of (S := S ++ T) (by have := h.len; have := k.len; rw [List.length_append]; omega) (fun x hx => by
    rcases List.mem_append.1 hx with hx | hx
    · exact (h.each x hx).1
    · exact (k.each x hx).1)

theorem share_bd {S : List Use} (hs : allOk S) (ds : ∀ j, j < S.length → per (nthU S j) ∣ 120) : shareN S ≤ shares 120 S ∧ shareD S ≤ 120 := by
  obtain ⟨a1, a2⟩ := share_by hs (N := 120) (by omega) ds
  rw [a1, a2]
  exact ⟨Nat.div_le_self _ _, Nat.div_le_self _ _⟩

theorem SetOk.added {S T : List Use} (h : SetOk S) (k : SetOk T) (r t : Nat) (ht : t ≤ 1000) :
    Added (shareN S) (shareD S) (shareN (S.drop r ++ S.take r)) (shareD (S.drop r ++ S.take r)) (shareN (S ++ T)) (shareD (S ++ T)) (usedTo S t S.length) (usedTo T t T.length) (usedTo (S ++ T) t (S ++ T).length) := by
  have hd1 : ∀ j, j < (S.drop r ++ S.take r).length → per (nthU (S.drop r ++ S.take r) j) ∣ 120 := fun j hj => by
    rcases List.mem_append.1 (nthU_mem hj) with hx | hx
    · exact (h.each _ (List.mem_of_mem_drop hx)).2
    · exact (h.each _ (List.mem_of_mem_take hx)).2
  have hd2 : ∀ j, j < (S ++ T).length → per (nthU (S ++ T) j) ∣ 120 := fun j hj => by
    rcases List.mem_append.1 (nthU_mem hj) with hx | hx
    · exact (h.each _ hx).2
    · exact (k.each _ hx).2
  have e1 := share_same (chk_zero (h.turned r)).2 h.ok hd1 h.dvd (shares_turn 120 S r)
  have e2 := share_up h.ok (chk_zero (h.both k)).2 h.dvd hd2 (by rw [shares_append]; omega)
  have b1 := share_bd h.ok h.dvd
  have b2 := share_bd (chk_zero (h.both k)).2 hd2
  have f1 := h.fits
  have f2 := k.fits
  rw [shares_append] at b2
  have u1 := usedTo_le h.ok t S.length (Nat.le_refl _)
  have u2 := usedTo_le k.ok t T.length (Nat.le_refl _)
  have l1 := h.len
  have l2 := k.len
  have m1 : S.length * t ≤ 8 * 1000 := Nat.mul_le_mul l1 ht
  have m2 : T.length * t ≤ 8 * 1000 := Nat.mul_le_mul l2 ht
  exact ⟨e1.1, e1.2, shares_append t S T, e2, by omega⟩

theorem rest_1000 (k : Int) (w : World) :
    Calls Try.prog 28 #[.int .i64 k, .int .i64 1000] w fun e w' => ∃ c : Nat, c < 1000 ∧ e = .returned (.int .i64 c) ∧ w = w' := rest_nat k 1000 (by omega) (by omega) w
theorem rest_succ (k : Int) (p : Nat) (h2 : p ≤ 1000) (w : World) :
    Calls Try.prog 28 #[.int .i64 k, .int .i64 ((p : Int) + 1)] w fun e w' => ∃ c : Nat, c ≤ p ∧ e = .returned (.int .i64 c) ∧ w = w' :=
  (rest_nat k (p + 1) (Nat.succ_pos p) (by omega) w).mono fun e w' ⟨c, hc, he⟩ => ⟨c, by omega, he⟩

/-- The demand that AdmitAdds begins with. -/
theorem demand_first (w : World) (t : TypeId) : Calls Try.prog 16 #[.slice (some ⟨w.heap.size, 0, none⟩) 1 1, .int .i64 7] (w.alloc (.cells #[.int .i64 2, .int .i64 3] t)) (Pair 4 0 (w.alloc (.cells #[.int .i64 2, .int .i64 3] t))) :=
  demand_good _ [(2, 3)] 7 _ (UV.lit1 w 2 3 t) (by decide) (by omega)

/-- Concat of two slices that were just laid side by side. -/
theorem concat_laid (w : World) (v1 v2 : Value) (S Z : List Use) (h1 : UV w v1 S) (h2 : UV w v2 Z) (n1 : ∀ l c, v1 = .slice none l c → c = 0) (n2 : ∀ l c, v2 = .slice none l c → c = 0) (hl : S.length + Z.length ≤ 1000000) :
    Calls Try.prog 32 #[.slice (some ⟨w.heap.size, 0, none⟩) 2 2] (w.alloc (.cells #[v1, v2] 23)) (fun e w' => ∃ v, e = .returned v ∧ Us.RowAt w' w.heap.size v (S ++ Z) ∧ Only (fun _ => False) w w') := by
  have hO : Only (fun _ => False) w (w.alloc (.cells #[v1, v2] 23)) := (Only.refl _ w).alloc _
  refine (concat_two w.heap.size 2 v1 v2 S Z _ (by rw [cell_at (heap_alloc_new w _)]; rfl) (by rw [cell_at (heap_alloc_new w _)]; rfl) (h1.later hO) (h2.later hO) n1 n2 hl).mono ?_
  rintro e w' ⟨v, rfl, hr, hO2⟩
  exact ⟨v, rfl, hr.base hO.size, trans_quiet hO hO2⟩

theorem concat_drew (w : World) (v1 v2 : Value) (S Z : List Use) (h1 : UV w v1 S) (h2 : UV w v2 Z) (n1 : ∀ l c, v1 = .slice none l c → c = 0) (n2 : ∀ l c, v2 = .slice none l c → c = 0) (hl : S.length + Z.length ≤ 1000000) :
    Calls Try.prog 32 #[.slice (some ⟨w.heap.size, 0, none⟩) 2 2] (w.alloc (.cells #[v1, v2] 23)).drew (fun e w' => ∃ v, e = .returned v ∧ Us.RowAt w' w.heap.size v (S ++ Z) ∧ Only (fun _ => False) w w') := by
  have hO : Only (fun _ => False) w (w.alloc (.cells #[v1, v2] 23)).drew := ((Only.refl _ w).alloc _).drew
  have c0 : (w.alloc (.cells #[v1, v2] 23)).cell? ⟨w.heap.size, 0, none⟩ = some v1 := by rw [cell_at (heap_alloc_new w _)]; rfl
  have c1 : (w.alloc (.cells #[v1, v2] 23)).cell? ⟨w.heap.size, 1, none⟩ = some v2 := by rw [cell_at (heap_alloc_new w _)]; rfl
  refine (concat_two w.heap.size 2 v1 v2 S Z (w.alloc (.cells #[v1, v2] 23)).drew c0 c1 (h1.later hO) (h2.later hO) n1 n2 hl).mono ?_
  rintro e w' ⟨v, rfl, hr, hO2⟩
  exact ⟨v, rfl, hr.base hO.size, trans_quiet hO hO2⟩

set_option maxRecDepth 100000 in
set_option maxHeartbeats 4000000 in
theorem adds_walk (a : Option Addr) (len cap : Nat) (zs : List Int) (b : Option Addr) (len2 cap2 : Nat) (ys : List Int) (t turn : Int) (w : World) (h : IsRow .i64 w a len cap zs) (h2 : IsRow .i64 w b len2 cap2 ys) :
    Calls Try.prog 8 #[.slice a len cap, .slice b len2 cap2, .int .i64 t, .int .i64 turn] w fun e w' => e = .returned (.bool true) ∧ Below w.heap.size w w' := by
  have H := Lib.hid h
  have H2 := Lib.hid h2
  clear h h2
  have K0 := Lib.hid (fun t => demand_first w t)
  go_enter Try.func8, Try.ntmps8
  go_upto_region 5 with (first
    | (go_at_call 16; (with_reducible refine (K0.out _).mono ?_); rintro e w1 ⟨rfl, hO⟩; have HO1 := Lib.hid (trans_quiet ((Only.refl (fun _ => False) w).alloc _) hO); clear hO)
    | (go_at_call 25; (with_reducible refine (sets_any _ _ _ _ _ (row_keep H.out HO1.out)).mono ?_); rintro e w2 ⟨V, S, rfl, hS, hr, hO⟩; have HS := Lib.hid hS; have HR := Lib.hid hr; have HO2 := Lib.hid (trans_quiet HO1.out hO); clear hS hr hO)
    | (go_at_call 25; (with_reducible refine (sets_any _ _ _ _ _ (row_keep H2.out HO2.out)).mono ?_); rintro e w3 ⟨V2, T, rfl, hS, hr, hO⟩; have HS2 := Lib.hid hS; have HR2 := Lib.hid hr; have HO3 := Lib.hid (trans_quiet HO2.out hO); have HR1 := Lib.hid (HR.out.later hO); clear hS hr hO))
  have hl8 := HS.out.len
  obtain ⟨n, hn⟩ : ∃ n, S.length = n := ⟨_, rfl⟩
  have HN := Lib.hid hn
  rw [hn] at hl8
  obtain ⟨a3, c3, hv3, hc31, hc32, hnil⟩ := HR1.out.shape hn
  subst hv3
  clear hn
  go_upto_region 7 with (first
    | (go_at_call 28; (with_reducible refine (rest_succ _ n (by omega) _).mono ?_); rintro e w' ⟨r, hr, rfl, rfl⟩)
    | (go_at_call 28; (with_reducible refine (rest_1000 _ _).mono ?_); rintro e w' ⟨t', ht, rfl, rfl⟩))
  go_cut [13] (fun s13 wx => ∃ v, s13 = v ∧ Us.RowAt wx w3.heap.size v (S.drop r ++ S.take r) ∧ Only (fun _ => False) w3 wx)
  case first =>
    rcases HR1.out.cases with ⟨hv, hS0⟩ | ⟨g, cap', hv, -, q1, q2, ⟨cur, q3⟩, -⟩
    · subst hS0
      obtain rfl : n = 0 := HN.out.symm
      obtain rfl : r = 0 := by omega
      injection hv with hv1 hv2 hv3
      subst hv1
      subst hv3
      have KC := Lib.hid (concat_drew w3 (.slice none 0 0) (.slice none 0 0) [] [] (UV.nil _) (UV.nil _) (fun l c e => by cases e; rfl) (fun l c e => by cases e; rfl) (by simp))
      go_region_held3 (fun _ => True) (trivial)
        (first
          | (go_at_call 32; (with_reducible refine KC.out.mono ?_); rintro e w6 ⟨v6, rfl, hr6, hO6⟩; have HR6 := Lib.hid hr6; have HO6 := Lib.hid hO6; clear hr6 hO6))
      all_goals (
        go_wp2_with fail
        go_meet
        exact ⟨_, rfl, HR6.out, HO6.out⟩)
    · rw [HN.out] at hv
      injection hv with hv1 hv2 hv3
      subst hv1
      subst hv3
      clear q1 q2 q3
      have HU := Lib.hid ((row_view HR1.out).head (i := r) (by omega))
      have HT := Lib.hid ((row_view HR1.out).tail (i := r) (by omega))
      obtain ⟨A, hA⟩ : ∃ A, cutAt g c3 r = A := ⟨_, rfl⟩
      rw [hA] at HT
      unfold cutAt at hA
      have r1 : (r : Int) ≤ n := by omega
      have r3 : (0 : Int) ≤ r := by omega
      have r6 : r ≤ c3 := by omega
      have KC := Lib.hid (concat_drew w3 (.slice A (n - r) (c3 - r)) (.slice (some ⟨g, 0, none⟩) r c3) (S.drop r) (S.take r) HT.out.1 HU.out HT.out.2 (fun l c e => by cases e) (by rw [List.length_take, List.length_drop]; have := HN.out; omega))
      go_region_held3 (fun _ => True) (trivial)
        (first
          | (go_at_call 32; (with_reducible refine KC.out.mono ?_); rintro e w6 ⟨v6, rfl, hr6, hO6⟩; have HR6 := Lib.hid hr6; have HO6 := Lib.hid hO6; clear hr6 hO6))
      all_goals (
        go_wp2_with fail
        go_meet
        exact ⟨_, rfl, HR6.out, HO6.out⟩)
  case rest =>
    obtain ⟨V4, rfl, hr4, hO4⟩ := hcut
    have HV4 := Lib.hid (fun (wx : World) (hO : Only (fun _ => False) wc wx) => row_view (hr4.later hO))
    have HV1 := Lib.hid (fun (wx : World) (hO : Only (fun _ => False) wc wx) => row_view (HR1.out.later (trans_quiet hO4 hO)))
    have HV2 := Lib.hid (fun (wx : World) (hO : Only (fun _ => False) wc wx) => row_view (HR2.out.later (trans_quiet hO4 hO)))
    have N1 := Lib.hid (nil_cap HR1.out)
    have N2 := Lib.hid (nil_cap HR2.out)
    have HO4 := Lib.hid (trans_quiet HO3.out hO4)
    obtain ⟨m, hm⟩ : ∃ m, T.length = m := ⟨_, rfl⟩
    obtain ⟨a4, c4, hv4, hc41, hc42, -⟩ := HR2.out.shape hm
    subst hv4
    have hm8 : m ≤ 8 := by have := HS2.out.len; omega
    clear hm hr4 hO4
    have A1 := HS.out.added HS2.out r t' (by omega)
    have K1 := Lib.hid (fun (wx : World) (hO : Only (fun _ => False) wc wx) => share_good _ S wx (HV1.out wx hO) HS.out.chk)
    have K2 := Lib.hid (fun (wx : World) (hO : Only (fun _ => False) wc wx) => share_good _ _ wx (HV4.out wx hO) (HS.out.turned r))
    have K3 := Lib.hid (fun (wx : World) (hO : Only (fun _ => False) wc wx) => demand_good _ S t' wx (HV1.out wx hO) HS.out.chk (by omega))
    have K4 := Lib.hid (fun (wx : World) (hO : Only (fun _ => False) wc wx) => demand_good _ T t' wx (HV2.out wx hO) HS2.out.chk (by omega))
    have K5 := Lib.hid (fun (wx : World) (v : Value) (hv : UV wx v (S ++ T)) => demand_good v _ t' wx hv (HS.out.both HS2.out) (by omega))
    have K6 := Lib.hid (fun (wx : World) (v : Value) (hv : UV wx v (S ++ T)) => share_good v _ wx hv (HS.out.both HS2.out))
    have KC := Lib.hid (fun (wx : World) (hO : Only (fun _ => False) wc wx) => concat_laid wx _ _ S T (HV1.out wx hO) (HV2.out wx hO) N1.out N2.out (by have := HS.out.len; have := HS2.out.len; omega))
    clear HS HS2 HR HR1 HR2
    generalize shareN (S.drop r ++ S.take r) = n2 at *
    generalize shareD (S.drop r ++ S.take r) = d2 at *
    generalize shareN (S ++ T) = n3 at *
    generalize shareD (S ++ T) = d3 at *
    generalize usedTo (S ++ T) t' (S ++ T).length = z at *
    generalize usedTo S t' S.length = x at *
    generalize usedTo T t' T.length = y at *
    generalize shareN S = n1 at *
    generalize shareD S = d1 at *
    obtain ⟨rfl, rfl, rfl, hup, b1, b2, b3, b4, b5, b6⟩ := A1
    have q1 : wrap64 ((n2 : Int) * d3) = ((n2 * d3 : Nat) : Int) := wrap_small (by omega) (by omega)
    have q2 : wrap64 ((n3 : Int) * d2) = ((n3 * d2 : Nat) : Int) := wrap_small (by omega) (by omega)
    generalize n2 * d3 = m1 at *
    generalize n3 * d2 = m2 at *
    have e1 : (m1 : Int) ≤ m2 := by omega
    have e2 : ((x : Int) + y == ((x + y : Nat) : Int)) = true := by simp
    clear hup b1 b2 b3 b4
    go_wp2_with (first
      | (go_at_call 14; (with_reducible refine (K1.out _ (Only.refl _ wc)).mono ?_); rintro e w6 ⟨rfl, hO⟩; have HO6 := Lib.hid hO; clear hO)
      | (go_at_call 14; (with_reducible refine (K2.out _ HO6.out).mono ?_); rintro e w7 ⟨rfl, hO⟩; have HO7 := Lib.hid (trans_quiet HO6.out hO); clear hO)
      | (go_at_call 16; (with_reducible refine (K3.out _ HO7.out).mono ?_); rintro e w8 ⟨rfl, hO⟩; have HO8 := Lib.hid (trans_quiet HO7.out hO); clear hO)
      | (go_at_call 16; (with_reducible refine (K4.out _ HO8.out).mono ?_); rintro e w9 ⟨rfl, hO⟩; have HO9 := Lib.hid (trans_quiet HO8.out hO); clear hO)
      | (go_at_call 32; (with_reducible refine (KC.out _ HO9.out).mono ?_); rintro e w10 ⟨v10, rfl, hr, hO⟩; have HR10 := Lib.hid hr; have HO10 := Lib.hid (trans_quiet HO9.out hO); clear hO hr)
      | (go_at_call 16; (with_reducible refine (K5.out _ _ (row_view HR10.out)).mono ?_); rintro e w11 ⟨rfl, hO⟩; have HO11 := Lib.hid (trans_quiet HO10.out hO); clear hO)
      | (go_at_call 32; (with_reducible refine (KC.out _ HO11.out).mono ?_); rintro e w12 ⟨v12, rfl, hr, hO⟩; have HR12 := Lib.hid hr; have HO12 := Lib.hid (trans_quiet HO11.out hO); clear hO hr)
      | (go_at_call 14; (with_reducible refine (K6.out _ _ (row_view HR12.out)).mono ?_); rintro e w13 ⟨rfl, hO⟩; have HO13 := Lib.hid (trans_quiet HO12.out hO); clear hO))
    refine wp_loop_rounds 7 ?_
    rw [rounds_succ]
    go_wp2_with fail
    rw [rounds_succ]
    go_wp2_with fail
    rw [rounds_succ]
    go_wp2_with fail
    rw [rounds_succ]
    go_wp2_with fail
    rw [rounds_succ]
    go_wp2_with fail
    rw [rounds_succ]
    go_wp2_with fail
    rw [rounds_succ]
    go_wp2_with fail
    go_ret
    exact ⟨rfl, Only.below (trans_quiet HO4.out (HO13.out.alloc _)) (Nat.le_refl _) (fun _ e => e.elim)⟩
end Go.Proofs.Ytlohjlhopbhnoaa.Ad
