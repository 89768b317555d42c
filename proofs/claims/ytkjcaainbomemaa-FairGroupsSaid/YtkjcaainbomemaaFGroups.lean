/- The walk of FairGroups. -/
import Derived.Test.YtkjcaainbomemaaFDuo
import Derived.Test.YtkjcaainbomemaaFShares
namespace Go.Proofs.Ytkjcaainbomemaa.Fr
open Go.ChangeShapes Go.WideShapes Go.ChangeAt Go.RowKit Go.Maps
open Go.Proofs.Ytkjcaainbomemaa.Vt
set_option linter.unusedVariables false

section
variable {w : World} {p0 : Nat} {T : Tks} {c : Nat → Int} {p q x y : Int}
theorem group_1 (h : FairAt w p0 noT noG) (x : Int) (hx : isW x = true) :
    Calls Try.prog 14 #[.pointer (some ⟨p0, 0, none⟩), .int .i64 1, .int .i64 x] w (FKeep w p0 (.int .i64 0) noT (duoG (costOf x) 0 0 0)) := by
  have := grp_ok h 1 x (by omega) (by omega) hx
  rw [← duoG_1]
  exact this
theorem group_2 (h : FairAt w p0 noT (duoG p 0 0 0)) (x : Int) (hx : isW x = true) :
    Calls Try.prog 14 #[.pointer (some ⟨p0, 0, none⟩), .int .i64 2, .int .i64 x] w (FKeep w p0 (.int .i64 0) noT (duoG p (costOf x) 0 0)) := by
  have := grp_ok h 2 x (by omega) (by omega) hx
  rw [← duoG_2]
  exact this
theorem add_1 (h : FairAt w p0 noT (duoG p q 0 0)) (hp : p ≠ 0) :
    Calls Try.prog 11 #[.pointer (some ⟨p0, 0, none⟩), .int .i64 1, .int .i64 50, .int .i64 1] w (FKeep w p0 (.int .i64 0) (duo 0 (fun _ => costOf 50) (fun _ => 0)) (duoG p q 0 0)) := by
  have := add_yes h 1 50 1 (by decide) (by omega) (by omega) (by omega) rfl (Or.inr hp)
  obtain ⟨e1, e2⟩ := duo_start (c := fun _ => costOf 50) (p := p) (q := q) (z := costOf 50) rfl
  rw [← e1]
  have e3 : (duoG p q 0 0) = addG noT (duoG p q 0 0) 1 (costOf 50) 1 := e2.symm
  rw [show FKeep w p0 (.int .i64 0) (addT noT (duoG p q 0 0) 1 (costOf 50) 1) (duoG p q 0 0) = FKeep w p0 (.int .i64 0) (addT noT (duoG p q 0 0) 1 (costOf 50) 1) (addG noT (duoG p q 0 0) 1 (costOf 50) 1) by rw [e2]]
  exact this
theorem add_2 {j : Nat} (h : FairAt w p0 (duo j c (fun _ => 0)) (duoG p q 0 0)) (hj : j < 14) (hq : q ≠ 0) (x : Int) (hx : isW x = true) :
    Calls Try.prog 11 #[.pointer (some ⟨p0, 0, none⟩), .int .i64 (2 + (j : Int)), .int .i64 x, .int .i64 2] w (FKeep w p0 (.int .i64 0) (duo (j + 1) (upd c (j + 2) (costOf x)) (fun _ => 0)) (duoG p q 0 0)) := by
  have hc : duo j c (fun _ => 0) = duo j (upd c (j + 2) (costOf x)) (fun _ => 0) := by
    funext t
    unfold duo
    by_cases k : t = 1
    · rw [if_pos k, if_pos k, upd_other _ _ (by omega)]
    · rw [if_neg k, if_neg k]
      by_cases l : 2 ≤ t ∧ t ≤ j + 1
      · rw [if_pos l, if_pos l, upd_other _ _ (by omega)]
      · rw [if_neg l, if_neg l]
  rw [hc] at h
  have := add_yes h (j + 2) x 2 hx (by omega) (by omega) (by omega) (by rw [duo_0 (by omega) (by omega)]) (Or.inr hq)
  obtain ⟨e1, e2⟩ := duo_add (c := upd c (j + 2) (costOf x)) (p := p) (q := q) hj (upd_same _ _ _)
  rw [show (((2 : Nat) : Int)) = 2 from rfl, e1, e2] at this
  rw [show (2 : Int) + (j : Int) = ((j + 2 : Nat) : Int) by omega]
  exact this
theorem gat_1 {j : Nat} {v : Nat → Int} (h : FairAt w p0 (duo j c v) (duoG p q x y)) (hp : p ≠ 0) :
    Calls Try.prog 32 #[.pointer (some ⟨p0, 0, none⟩), .int .i64 1] w fun e w' => e = .returned (.tuple #[.int .i64 x, .int .i64 0]) ∧ w = w' := gat_yes h 1 (by omega) (by omega) hp
theorem gat_2 {j : Nat} {v : Nat → Int} (h : FairAt w p0 (duo j c v) (duoG p q x y)) (hq : q ≠ 0) :
    Calls Try.prog 32 #[.pointer (some ⟨p0, 0, none⟩), .int .i64 2] w fun e w' => e = .returned (.tuple #[.int .i64 y, .int .i64 0]) ∧ w = w' := gat_yes h 2 (by omega) (by omega) hq
end

/-- Block g holds two numbers. -/
def Pair (w : World) (g : Nat) (x y : Int) : Prop := w.heap[g]? = some (.cells #[.int .i64 x, .int .i64 y] 60 (0, 0))
section
variable {w w' : World} {g : Nat} {x y : Int}
theorem Pair.keep {S : Nat → Prop} (h : Pair w g x y) (hO : Only S w w') (hS : ¬ S g) : Pair w' g x y := by unfold Pair; rw [hO.block g (block_there h) hS]; exact h
theorem Pair.c0 (h : Pair w g x y) : w.cell? ⟨g, 0, none⟩ = some (.int .i64 x) := by rw [cell_at h]; rfl
theorem Pair.c1 (h : Pair w g x y) : w.cell? ⟨g, 1, none⟩ = some (.int .i64 y) := by rw [cell_at h]; rfl
theorem Pair.frozen (h : Pair w g x y) (j : Nat) : w.frozen? ⟨g, j, none⟩ = false := frozen_at h j
theorem Pair.set0 (h : Pair w g x y) (z : Int) : Pair (w.setCell ⟨g, 0, none⟩ (.int .i64 z)) g z y := heap_setCell_same w g 0 _ _ (.int .i64 z) h
theorem Pair.set1 (h : Pair w g x y) (z : Int) : Pair (w.setCell ⟨g, 1, none⟩ (.int .i64 z)) g x z := heap_setCell_same w g 1 _ _ (.int .i64 z) h
end

theorem prod_bd {P x : Int} {h : Nat} (hP : 10485 ≤ P ∧ P ≤ 1048576) (hx : 0 ≤ x ∧ x ≤ h) (hh : h ≤ 400) : 0 ≤ P * x ∧ P * x ≤ 500000000 := by
  have h3 : 0 ≤ P * x := Int.mul_nonneg (by omega) (by omega)
  have h4 : P * x ≤ 1048576 * 400 := Int.mul_le_mul hP.2 (by omega) (by omega) (by omega)
  omega

/-- What is known ere each tick. -/
structure Fared (P Q cm x y : Int) (v : Nat → Int) (h : Nat) : Prop where
  near : P * x - Q * y ≤ cm ∧ Q * y - P * x ≤ cm
  x : 0 ≤ x ∧ x ≤ h
  y : 0 ≤ y ∧ y ≤ h
  v : ∀ t, 0 ≤ v t ∧ v t ≤ 1048576 * h

theorem Fared.one {P Q cm x y : Int} {v c : Nat → Int} {h : Nat} (k : Fared P Q cm x y v h) (hle : ¬ Q * y < P * x) (hP : P ≤ cm) (hP0 : 0 ≤ P) (hc : ∀ t, 1 ≤ c t ∧ c t ≤ 1048576) (n : Nat) : Fared P Q cm (x + 1) y (upd v n (v n + c n)) (h + 1) := by
  have h1 := k.near; have h2 := k.x; have h3 := k.y
  refine ⟨by rw [Int.mul_add, Int.mul_one]; omega, by omega, by omega, fun t => ?_⟩
  have := k.v t; have := k.v n; have := hc n
  unfold upd; split <;> omega
theorem Fared.two {P Q cm x y : Int} {v c : Nat → Int} {h : Nat} (k : Fared P Q cm x y v h) (hlt : Q * y < P * x) (hQ : Q ≤ cm) (hQ0 : 0 ≤ Q) (hc : ∀ t, 1 ≤ c t ∧ c t ≤ 1048576) (n : Nat) : Fared P Q cm x (y + 1) (upd v n (v n + c n)) (h + 1) := by
  have h1 := k.near; have h2 := k.x; have h3 := k.y
  refine ⟨by rw [Int.mul_add, Int.mul_one]; omega, by omega, by omega, fun t => ?_⟩
  have := k.v t; have := k.v n; have := hc n
  unfold upd; split <;> omega

theorem cost_less {a b : Int} (ha : 1 ≤ a) (h : a ≤ b) : costOf b ≤ costOf a := by
  unfold costOf
  rw [Int.le_ediv_iff_mul_le (by omega)]
  have h1 : 1048576 / b * b ≤ 1048576 := Int.ediv_mul_le _ (by omega)
  have h2 : 0 ≤ 1048576 / b := Int.ediv_nonneg (by omega) (by omega)
  have h3 : 1048576 / b * a ≤ 1048576 / b * b := Int.mul_le_mul_of_nonneg_left h h2
  omega

theorem rest_some (x : Int) (w : World) : Calls Try.prog 30 #[.int .i64 x, .int .i64 100] w fun e w' => ∃ r, e = .returned (.int .i64 r) ∧ w = w' ∧ 0 ≤ r ∧ r < 100 :=
  (rest_any x 100 (by omega) (by omega) w).mono fun e w' ⟨h1, h2⟩ => ⟨_, h1, h2, restOf_lo x 100 (by omega), restOf_hi x 100 (by omega)⟩
theorem isW_more {r : Int} (h1 : 0 ≤ r) (h2 : r < 100) : isW (1 + r) = true := decide_eq_true (by omega)

set_option maxRecDepth 100000 in
theorem groups_any (a0 a1 a2 a3 : Int) (w : World) :
    Calls Try.prog 7 #[.int .i64 a0, .int .i64 a1, .int .i64 a2, .int .i64 a3] w (fun e w' => e = .returned (.bool true) ∧ Below w.heap.size w w') := by
  obtain ⟨J, hJ⟩ : ∃ k : Nat, 1 + restOf a2 14 = k := ⟨(1 + restOf a2 14).toNat, by have := restOf_lo a2 14 (by omega); omega⟩
  have hJ1 : 1 ≤ J ∧ J ≤ 14 := by have := restOf_lo a2 14 (by omega); have := restOf_hi a2 14 (by omega); omega
  obtain ⟨n, hn⟩ : ∃ n : Nat, restOf a3 400 = n := ⟨(restOf a3 400).toNat, by have := restOf_lo a3 400 (by omega); omega⟩
  have hn1 : n < 400 := by have := restOf_hi a3 400 (by omega); omega
  have c0 := Lib.hid (fun w => rest_any a0 100 (by omega) (by omega) w)
  have c1 := Lib.hid (fun w => rest_any a1 100 (by omega) (by omega) w)
  have c2 := fun w => rest_any a2 14 (by omega) (by omega) w
  have c3 := fun w => rest_any a3 400 (by omega) (by omega) w
  rw [hn] at c3
  rw [show restOf a2 14 = J - 1 by omega] at c2
  have C2 := Lib.hid c2
  have C3 := Lib.hid c3
  have ha := wOf_ok a0
  have hb := wOf_ok a1
  unfold wOf at ha hb
  have b1 := restOf_lo a0 100 (by omega)
  have b2 := restOf_hi a0 100 (by omega)
  have b3 := restOf_lo a1 100 (by omega)
  have b4 := restOf_hi a1 100 (by omega)
  generalize restOf a0 100 = A at *
  generalize restOf a1 100 = B at *
  have HA := Lib.hid ha
  have HB := Lib.hid hb
  have eJ : 1 + ((J : Int) - 1) = J := by omega
  have hP := costOf_ok ha
  have hQ := costOf_ok hb
  have HP1 := Lib.hid hP
  have HQ1 := Lib.hid hQ
  have HJ := Lib.hid hJ1
  clear c2 c3 hJ hn ha hb hP hQ
  have j14 : (J : Int) ≤ 14 := by omega
  go_enter Try.func7, Try.ntmps7
  go_wp2_with (first
    | (go_at_call 27; (with_reducible refine (begun_any _).mono ?_); rintro e w1 ⟨rfl, hO⟩; have HO := Lib.hid hO; clear hO)
    | (go_at_call 10; (with_reducible refine (new_any _).mono ?_); rintro e w2 ⟨p, rfl, hp, hF, hO⟩; have HF := Lib.hid hF; have HP := Lib.hid (Nat.le_trans HO.out.size hp); have HO2 := Lib.hid (only_trans HO.out hO); have k1 := Lib.hid (group_1 hF (1 + A) HA.out); clear hF hO hp)
    | (go_at_call 30; (with_reducible refine (c0.out _).mono ?_); rintro e w' ⟨rfl, rfl⟩)
    | (go_at_call 30; (with_reducible refine (c1.out _).mono ?_); rintro e w' ⟨rfl, rfl⟩)
    | (go_at_call 30; (with_reducible refine (C2.out _).mono ?_); rintro e w' ⟨rfl, rfl⟩)
    | (go_at_call 14; (with_reducible refine k2.out.mono ?_); rintro e w4 ⟨rfl, hF, hO⟩; have HO4 := Lib.hid (only_new HO3.out hO HP.out); have k3 := Lib.hid (add_1 hF (by have := HP1.out; omega)); clear hF hO)
    | (go_at_call 14; (with_reducible refine k1.out.mono ?_); rintro e w3 ⟨rfl, hF, hO⟩; have HO3 := Lib.hid (only_new HO2.out hO HP.out); have k2 := Lib.hid (group_2 hF (1 + B) HB.out); clear hF hO)
    | (go_at_call 11; (with_reducible refine k3.out.mono ?_); rintro e w5 ⟨rfl, hF, hO⟩; have HO5 := Lib.hid (only_new HO4.out hO HP.out); have HF5 := Lib.hid hF; clear hF hO))
  have HAB : Hid ((0 ≤ A ∧ A < 100) ∧ 0 ≤ B ∧ B < 100) := Lib.hid ⟨⟨b1, b2⟩, b3, b4⟩
  clear k1 k2 k3
  go_loopw [52] (fun i wr => ∃ (j : Nat) (c : Nat → Int), j ≤ J ∧ i = .int .i64 j ∧ (∀ t, 1 ≤ c t ∧ c t ≤ 1048576) ∧ FairAt wr p (duo j c (fun _ => 0)) (duoG (costOf (1 + A)) (costOf (1 + B)) 0 0) ∧ Only (fun _ => False) w wr) (fun i _ => J - (intOf i).toNat)
  case atStart => exact ⟨0, _, by omega, rfl, fun _ => by decide, HF5.out, HO5.out⟩
  case round =>
    obtain ⟨j, c, hj, rfl, hc, hF, hO⟩ := hrel
    have HC := Lib.hid hc
    have HF6 := Lib.hid hF
    have HO6 := Lib.hid hO
    clear hc hF hO
    by_cases hlt : j < J
    · have g1 : (j : Int) < J := by omega
      have ka := Lib.hid (fun r (h : 0 ≤ r ∧ r < 100) => add_2 HF6.out (by have := HJ.out; omega) (by have := HQ1.out; omega) (1 + r) (isW_more h.1 h.2))
      go_wp2_with (first
        | (go_at_call 30; (with_reducible refine (rest_some _ _).mono ?_); rintro e w' ⟨r, rfl, rfl, r1, r2⟩)
        | (go_at_call 11; (with_reducible refine (ka.out r ⟨r1, r2⟩).mono ?_); rintro e w7 ⟨rfl, hF, hO⟩; have HF7 := Lib.hid hF; have HO7 := Lib.hid (only_new HO6.out hO HP.out); clear hF hO))
      go_roundw
      case rel => exact ⟨j + 1, _, by omega, by go_num, fun t => by have := costOf_ok (isW_more r1 r2); have := HC.out t; unfold upd; split <;> omega, HF7.out, HO7.out⟩
      case measure => simp [intOf]; omega
    · obtain rfl : j = J := by omega
      obtain ⟨M, hM⟩ : ∃ M, min (1 + A) (1 + B) = M := ⟨_, rfl⟩
      have qm := run_min2 _ _ _ hM
      have mb := HAB.out
      have hMW : isW M = true := decide_eq_true (by omega)
      have km := Lib.hid (fun w => cost_yes M w hMW)
      have hc1 : costOf (1 + A) ≤ costOf M := cost_less (by omega) (by omega)
      have hc2 : costOf (1 + B) ≤ costOf M := cost_less (by omega) (by omega)
      have hc3 := costOf_ok hMW
      have HCM := Lib.hid (show (costOf (1 + A) ≤ costOf M ∧ costOf (1 + B) ≤ costOf M) ∧ 10485 ≤ costOf M ∧ costOf M ≤ 1048576 from ⟨⟨hc1, hc2⟩, hc3⟩)
      have kA := Lib.hid (fun w => cost_yes (1 + A) w HA.out)
      have kB := Lib.hid (fun w => cost_yes (1 + B) w HB.out)
      clear hM hMW hc1 hc2 hc3 mb
      generalize costOf M = cm at *
      generalize costOf (1 + A) = P at *
      generalize costOf (1 + B) = Q at *
      go_wp2_with (first
        | (go_at_call 30; (with_reducible refine (C3.out _).mono ?_); rintro e w5 ⟨rfl, rfl⟩)
        | (go_at_call 29; (with_reducible refine (km.out _).mono ?_); rintro e w5 ⟨rfl, rfl⟩))
      have HPR0 : Hid (Pair (wr.alloc (.cells #[.int .i64 0, .int .i64 0] 60)) wr.heap.size 0 0) := Lib.hid (heap_alloc_new wr _)
      have HO7 := Lib.hid (HO6.out.alloc (.cells #[.int .i64 0, .int .i64 0] 60))
      have HG := Lib.hid HO6.out.size
      have HF7 := Lib.hid (HF6.out.later ((Only.refl (fun _ => False) wr).alloc (.cells #[.int .i64 0, .int .i64 0] 60)))
      have HPG : Hid (p < wr.heap.size) := Lib.hid HF6.out.lt
      clear qm HF6 HO6 HF5 HO5
      generalize wr.alloc (.cells #[.int .i64 0, .int .i64 0] 60) = w5 at *
      generalize wr.heap.size = g at *
      go_loopw [76] (fun i wr => ∃ (h : Nat) (x y : Int) (v : Nat → Int), h ≤ n ∧ i = .int .i64 h ∧ Pair wr g x y ∧ Fared P Q cm x y v h ∧ FairAt wr p (duo j c v) (duoG P Q (P * x) (Q * y)) ∧ Only (fun _ => False) w wr) (fun i _ => n - (intOf i).toNat)
      case atStart => exact ⟨0, 0, 0, fun _ => 0, by omega, rfl, HPR0.out, ⟨by have := HCM.out; simp; omega, by simp, by simp, fun t => by simp⟩, by simpa using HF7.out, HO7.out⟩
      case round =>
        obtain ⟨h, x, y, v, hh, rfl, hPr, hS, hF, hO⟩ := hrel
        have HPR := Lib.hid hPr
        have HS := Lib.hid hS
        have HF8 := Lib.hid hF
        have HO8 := Lib.hid hO
        clear hPr hS hF hO
        by_cases hlt2 : h < n
        · have h1 : (h : Int) < n := by omega
          have hj14 := HJ.out.2
          have hb1 := prod_bd HP1.out HS.out.x (by omega)
          have hb2 := prod_bd HQ1.out HS.out.y (by omega)
          have hpb := HP1.out
          have hqb := HQ1.out
          have hnx := duo_next (c := c) (v := v) (p := P) (q := Q) (x := P * x) (y := Q * y) HJ.out.1 hj14
          have hf := duo_first2 (c := c) (v := v) HJ.out.1 hj14
          by_cases hxy : Q * y < P * x
          · rw [if_pos hxy] at hnx
            generalize first (duo j c v) 2 = f at *
            have HNX := Lib.hid hnx
            have HFF := Lib.hid hf
            have q1 : ((f : Int) == 1) = false := by simp; omega
            clear hnx
            have kt := tick_is HF8.out (duo_fit hj14 HC.out (fun t => by have := HS.out.v t; omega) (by omega) (by omega) hb1 hb2 (B := 500000000)) (by omega) HNX.out (by omega) (k := (f : Int)) rfl (duo_tick2 (p := P) (q := Q) (x := P * x) (y := Q * y) hf.1 hf.2).1 (duo_tick2 (p := P) (q := Q) (x := P * x) (y := Q * y) hf.1 hf.2).2
            rw [show duoG P Q (P * x) (Q * y + Q) = duoG P Q (P * x) (Q * (y + 1)) by rw [Int.mul_add, Int.mul_one]] at kt
            have KT := Lib.hid kt
            have HS2 := Lib.hid (HS.out.two hxy HCM.out.1.2 (by omega) HC.out f)
            have hbx := HS.out.y
            clear kt hxy hb1 hb2
            go_upto_region 23 with (go_at_call 23; (with_reducible refine KT.out.mono ?_); rintro e w6 ⟨rfl, hF3, hO6⟩; have HF9 := Lib.hid hF3; have HPR2 := Lib.hid (HPR.out.keep hO6 (fun e => by have := HPG.out; omega)); have HO9 := Lib.hid (only_new HO8.out hO6 HP.out); have ce := HPR2.out.c1; have fz := HPR2.out.frozen 1; clear hF3 hO6)
            have HPR3 := Lib.hid (HPR2.out.set1 (y + 1))
            have HF10 := Lib.hid (HF9.out.keep (only_set1 (p := g) (Only.refl (fun _ => False) w6) 1 (.int .i64 (y + 1))) (fun e => by have := HPG.out; omega))
            have HO10 := Lib.hid (only_new HO9.out (only_set1 (p := g) (Only.refl (fun _ => False) w6) 1 (.int .i64 (y + 1))) HG.out)
            clear ce fz hbx
            generalize w6.setCell ⟨g, 1, none⟩ (.int .i64 (y + 1)) = w7 at *
            generalize y + 1 = z at *
            generalize upd v f (v f + c f) = u at *
            clear HPR2 HF9 HO9 KT
            clear hf hpb hqb
            have d0 := HPR3.out.c0
            have d1 := HPR3.out.c1
            have px := prod_bd HP1.out HS2.out.x (by omega)
            have py := prod_bd HQ1.out HS2.out.y (by omega)
            have nr := HS2.out.near
            have K1 := Lib.hid (gat_1 HF10.out (by have := HP1.out; omega))
            have K2 := Lib.hid (gat_2 HF10.out (by have := HQ1.out; omega))
            have qx : IntKind.i64.wrap (P * x) = P * x := IntWalk.i64_in _ (by omega)
            have qy : IntKind.i64.wrap (Q * z) = Q * z := IntWalk.i64_in _ (by omega)
            have qx2 : wrap64 (P * x) = P * x := IntWalk.wrap64_in _ (by omega)
            have qy2 : wrap64 (Q * z) = Q * z := IntWalk.wrap64_in _ (by omega)
            obtain ⟨px0, px1⟩ := px
            obtain ⟨py0, py1⟩ := py
            have nr1 : ¬ cm < P * x - Q * z := by omega
            have nr2 : ¬ cm < Q * z - P * x := by omega
            have HNR := Lib.hid HS2.out
            clear nr
            go_wp2_with (first
              | (go_at_call 32; (with_reducible refine K1.out.mono ?_); rintro e w' ⟨rfl, rfl⟩)
              | (go_at_call 32; (with_reducible refine K2.out.mono ?_); rintro e w' ⟨rfl, rfl⟩)
              | (go_at_call 29; (with_reducible refine (kA.out _).mono ?_); rintro e w5 ⟨rfl, rfl⟩)
              | (go_at_call 29; (with_reducible refine (kB.out _).mono ?_); rintro e w5 ⟨rfl, rfl⟩))
            go_roundw
            case rel => exact ⟨h + 1, x, z, u, by omega, by go_num, HPR3.out, HNR.out, HF10.out, HO10.out⟩
            case measure => simp [intOf]; omega
          · rw [if_neg hxy] at hnx
            have HNX := Lib.hid hnx
            clear hnx hf
            have kt := tick_is HF8.out (duo_fit hj14 HC.out (fun t => by have := HS.out.v t; omega) (by omega) (by omega) hb1 hb2 (B := 500000000)) (by omega) HNX.out (by omega) (k := 1) rfl (duo_tick1 (p := P) (q := Q) (x := P * x) (y := Q * y)).1 (duo_tick1 (p := P) (q := Q) (x := P * x) (y := Q * y)).2
            rw [show duoG P Q (P * x + P) (Q * y) = duoG P Q (P * (x + 1)) (Q * y) by rw [Int.mul_add, Int.mul_one]] at kt
            have KT := Lib.hid kt
            have HS2 := Lib.hid (HS.out.one hxy HCM.out.1.1 (by omega) HC.out 1)
            have hbx := HS.out.x
            clear kt hxy hb1 hb2
            go_upto_region 23 with (go_at_call 23; (with_reducible refine KT.out.mono ?_); rintro e w6 ⟨rfl, hF3, hO6⟩; have HF9 := Lib.hid hF3; have HPR2 := Lib.hid (HPR.out.keep hO6 (fun e => by have := HPG.out; omega)); have HO9 := Lib.hid (only_new HO8.out hO6 HP.out); have ce := HPR2.out.c0; have fz := HPR2.out.frozen 0; clear hF3 hO6)
            have HPR3 := Lib.hid (HPR2.out.set0 (x + 1))
            have HF10 := Lib.hid (HF9.out.keep (only_set1 (p := g) (Only.refl (fun _ => False) w6) 0 (.int .i64 (x + 1))) (fun e => by have := HPG.out; omega))
            have HO10 := Lib.hid (only_new HO9.out (only_set1 (p := g) (Only.refl (fun _ => False) w6) 0 (.int .i64 (x + 1))) HG.out)
            clear ce fz hbx
            generalize w6.setCell ⟨g, 0, none⟩ (.int .i64 (x + 1)) = w7 at *
            generalize x + 1 = z at *
            generalize upd v 1 (v 1 + c 1) = u at *
            clear HPR2 HF9 HO9 KT
            clear hpb hqb
            have d0 := HPR3.out.c0
            have d1 := HPR3.out.c1
            have px := prod_bd HP1.out HS2.out.x (by omega)
            have py := prod_bd HQ1.out HS2.out.y (by omega)
            have nr := HS2.out.near
            have K1 := Lib.hid (gat_1 HF10.out (by have := HP1.out; omega))
            have K2 := Lib.hid (gat_2 HF10.out (by have := HQ1.out; omega))
            have qx : IntKind.i64.wrap (P * z) = P * z := IntWalk.i64_in _ (by omega)
            have qy : IntKind.i64.wrap (Q * y) = Q * y := IntWalk.i64_in _ (by omega)
            have qx2 : wrap64 (P * z) = P * z := IntWalk.wrap64_in _ (by omega)
            have qy2 : wrap64 (Q * y) = Q * y := IntWalk.wrap64_in _ (by omega)
            obtain ⟨px0, px1⟩ := px
            obtain ⟨py0, py1⟩ := py
            have nr1 : ¬ cm < P * z - Q * y := by omega
            have nr2 : ¬ cm < Q * y - P * z := by omega
            have HNR := Lib.hid HS2.out
            clear nr
            go_wp2_with (first
              | (go_at_call 32; (with_reducible refine K1.out.mono ?_); rintro e w' ⟨rfl, rfl⟩)
              | (go_at_call 32; (with_reducible refine K2.out.mono ?_); rintro e w' ⟨rfl, rfl⟩)
              | (go_at_call 29; (with_reducible refine (kA.out _).mono ?_); rintro e w5 ⟨rfl, rfl⟩)
              | (go_at_call 29; (with_reducible refine (kB.out _).mono ?_); rintro e w5 ⟨rfl, rfl⟩))
            go_roundw
            case rel => exact ⟨h + 1, z, y, u, by omega, by go_num, HPR3.out, HNR.out, HF10.out, HO10.out⟩
            case measure => simp [intOf]; omega
        · go_wp2_with fail
          go_ret
          exact ⟨rfl, Only.below HO8.out (Nat.le_refl _) (fun _ e => e.elim)⟩
end Go.Proofs.Ytkjcaainbomemaa.Fr
