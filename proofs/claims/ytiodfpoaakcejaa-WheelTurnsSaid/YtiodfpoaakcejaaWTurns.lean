/- The walk of WheelTurns. -/
import Derived.Test.YtiodfpoaakcejaaTwoW
namespace Go.Proofs.Ytiodfpoaakcejaa.Wh
open Go.ChangeShapes Go.WideShapes Go.ChangeAt Go.RowKit Go.Maps
open Go.Proofs.Ytiodfpoaakcejaa.Hp
set_option linter.unusedVariables false

/-- Where WheelTurns stands: it is so late for one, and c later for the other; the timers that are left lie c apart, too. -/
structure Turning (B C D p q : Nat) (c : Int) (k : Nat) (t : Int) (R : Timers) (w : World) : Prop where
  two : TwoW B C D p q t (t + c) R (shift c R) w
  late1 : t ≤ 4294967296 + 1000 * k
  late2 : t + c ≤ 4294967296 + 1000 * k

theorem turning_same (c : Int) (R : Timers) (t : Int) : idsOf (goers (shift c R) (t + c)) = idsOf (goers R t) ∧ stay (shift c R) (t + c) = shift c (stay R t) := ⟨goers_ids_shift c R t, stay_shift c R t⟩

theorem Turning.next {B C D p q : Nat} {c : Int} {k : Nat} {t r : Int} {R : Timers} {w w' : World} (h : Turning B C D p q c k t R w) (h2 : TwoW B C D p q (t + r) (t + r + c) (stay R (t + r)) (shift c (stay R (t + r))) w') (h0 : 0 ≤ r) (h1 : r ≤ 1000) : Turning B C D p q c (k + 1) (t + r) (stay R (t + r)) w' := by
  have := h.late1
  have := h.late2
  exact ⟨h2, by omega, by omega⟩

theorem turning_zero {B C D p q : Nat} {a b : Int} {xs : List Int} {w : World} (h : TwoW B C D p q a b (timersOf a xs xs.length) (timersOf b xs xs.length) w) (ha : a < 4294967296) (hb : b < 4294967296) : Turning B C D p q (b - a) 0 a (timersOf a xs xs.length) w := by
  refine ⟨?_, by omega, by omega⟩
  rw [← timersOf_shift, show a + (b - a) = b by omega]
  exact h

set_option maxRecDepth 100000 in
set_option maxHeartbeats 2000000 in
theorem turns_start (a b : Int) (ad : Option Addr) (len cap : Nat) (zs : List Int) (ad2 : Option Addr) (len2 cap2 : Nat) (zs2 : List Int) (w : World) (ha : (Lit.int .u32 a).wf = true) (hb : (Lit.int .u32 b).wf = true) (h : IsRow .i64 w ad len cap zs) (h2 : IsRow .i64 w ad2 len2 cap2 zs2) :
    Calls Try.prog 4 #[.int .u32 a, .int .u32 b, .slice ad len cap, .slice ad2 len2 cap2] w fun e w' => e = .returned (.bool true) ∧ Below w.heap.size w w' := by
  obtain ⟨xs, hxl, hx, hc1, hc2⟩ := nums_cut h 100
  obtain ⟨ys, hyl, hy, hd1, hd2⟩ := nums_cut h2 50
  obtain ⟨a0, a1⟩ := u32_bd ha
  obtain ⟨b0, b1⟩ := u32_bd hb
  have HX := Lib.hid hx
  have HXL := Lib.hid hxl
  have HY := Lib.hid hy
  have HYL := Lib.hid hyl
  have hx2 : xs.length ≤ 100 := by omega
  have hy2 : ys.length ≤ 50 := by omega
  clear h hx hxl ha h2 hy hyl hb
  go_enter Try.func4, Try.ntmps4
  go_upto_region 3 with (go_at_call 21; refine (begun_any _).mono ?_; rintro e w1 ⟨rfl, hO⟩; have HO1 := Lib.hid hO; clear hO)
  go_cut [2] (fun s2 wx => s2 = .slice ad xs.length cap ∧ wx = w1)
  case first =>
    have HE := HXL.out
    rcases Nat.lt_or_ge 100 len with h200 | h200
    rotate_left
    · have h201 : (len : Int) ≤ 100 := by omega
      rw [Nat.min_eq_left (by omega)] at HE
      clear HX HXL
      have HE := Lib.hid HE
      go_wp2
      go_meet
      exact ⟨by rw [HE.out], rfl⟩
    · have h201 : (100 : Int) < len := by omega
      rw [Nat.min_eq_right (by omega)] at HE
      clear HX HXL
      have HE := Lib.hid HE
      go_wp2
      go_meet
      exact ⟨by rw [HE.out], rfl⟩
  case rest =>
    obtain ⟨rfl, rfl⟩ := hcut
    generalize wc = w1 at *
    have HX1 := Lib.hid (HX.out.later HO1.out)
    clear HX HXL hc1 hc2
    go_upto_region 8 with (first
      | (go_at_call 22; refine (timers_any _ xs a _ a0 a1 HX1.out (by omega)).mono ?_; rintro e w2 ⟨p, rfl, hw, hO⟩; have HW := Lib.hid hw.there; have HO2 := Lib.hid hO; have HX2 := Lib.hid (HX1.out.later hO); clear hw hO HX1)
      | (go_at_call 22; refine (timers_any _ xs b _ b0 b1 HX2.out (by omega)).mono ?_; rintro e w3 ⟨q, rfl, hw, hO⟩; have HT := Lib.hid (twoW_made HW.out HO2.out.size hw.there hO); have HO3 := Lib.hid (HO2.out.trans hO (fun _ _ e => e)); clear hw hO HW HO2 HX2))
    go_cut [52, 53, 54] (fun s52 s53 s54 wx => s52 = .slice ad2 ys.length cap2 ∧ s53 = .int .i64 ys.length ∧ s54 = .int .i64 0 ∧ wx = w3)
    case first =>
      have HE := HYL.out
      rcases Nat.lt_or_ge 50 len2 with h200 | h200
      rotate_left
      · have h201 : (len2 : Int) ≤ 50 := by omega
        rw [Nat.min_eq_left (by omega)] at HE
        clear HY HYL
        have HE := Lib.hid HE
        go_wp2
        go_meet
        exact ⟨by rw [HE.out], by rw [HE.out], rfl, rfl⟩
      · have h201 : (50 : Int) < len2 := by omega
        rw [Nat.min_eq_right (by omega)] at HE
        clear HY HYL
        have HE := Lib.hid HE
        go_wp2
        go_meet
        exact ⟨by rw [HE.out], by rw [HE.out]; rfl, rfl, rfl⟩
    case rest =>
      obtain ⟨rfl, rfl, rfl, rfl⟩ := hcut
      have HT0 := Lib.hid (turning_zero HT.out a1 b1)
      have HB := Lib.hid (show Only (fun _ => False) w wc from HO1.out.trans HO3.out (fun _ _ e => e))
      have HC := Lib.hid HO1.out.size
      generalize w1.heap.size = B at *
      generalize w2.heap.size = C at *
      generalize wc.heap.size = D at *
      obtain ⟨c, hc⟩ : ∃ c, c = b - a := ⟨_, rfl⟩
      rw [← hc] at HT0
      have hbc : b = a + c := by omega
      subst hbc
      clear HT HO1 HO3 HYL hc hd1 hd2 hx2
      go_wp2_with fail
      go_loopw [0, 1, 54] (fun s0 s1 s54 wr => ∃ (k : Nat) (t : Int) (R : Timers), s0 = .int .u32 (t % 4294967296) ∧ s1 = .int .u32 ((t + c) % 4294967296) ∧ s54 = .int .i64 k ∧ k ≤ ys.length ∧ Turning B C D p q c k t R wr ∧ Only (fun _ => False) w wr) (fun _ _ s54 _ => ys.length - (intOf s54).toNat)
      case atStart => exact ⟨0, a, _, by rw [Int.emod_eq_of_lt a0 a1], by rw [Int.emod_eq_of_lt b0 b1], rfl, Nat.zero_le _, HT0.out, HB.out⟩
      case round =>
        obtain ⟨k, t, R, rfl, rfl, rfl, hk, hT, hO⟩ := hrel
        have HT := Lib.hid hT
        have HO := Lib.hid hO
        have hl1 := hT.late1
        have hl2 := hT.late2
        have hp1 := hT.two.one.past
        have hp2 := hT.two.two.past
        have hlen := hT.two.one.len
        clear hT hO HB HT0
        by_cases hlt : k < ys.length
        · obtain ⟨a3, c3, he3, hc3⟩ := HY.out
          cases he3
          obtain ⟨b, off, rfl, hcell⟩ := hc3 k hlt
          have d0 : wr.cell? ⟨b, off + k, none⟩ = some (.int .i64 (ys.getD k 0)) := by
            rw [← hcell]; unfold World.cell?; rw [HO.out.block b (block_lt hcell) (fun e => e)]
          clear hcell
          have g1 : (k : Int) < ys.length := by omega
          have g2 : (0 : Int) ≤ k := by omega
          generalize ys.getD k 0 = y at *
          have r0 := restOf_lo y 1000 (by omega)
          have r1 := restOf_hi y 1000 (by omega)
          obtain ⟨r, hr⟩ : ∃ r, restOf y 1000 = r := ⟨_, rfl⟩
          have HRR := Lib.hid hr
          rw [hr] at r0 r1
          clear hr
          have hgs : (goers R (t + r)).length ≤ 6000000000000 := by have := goers_len R (t + r); omega
          have HG := Lib.hid (turning_same c R (t + r))
          cases hR : stay R (t + r) with
          | nil =>
            have HRN := Lib.hid hR
            clear hR
            go_wp2_with (first
              | (go_at_call 23; go_must (have hc := rest_any y 1000 (by omega) (by omega) wr; rw [HRR.out] at hc); (with_reducible refine hc.mono ?_); clear hc; rintro e w4 ⟨rfl, rfl⟩)
              | (go_at_call 17; go_must (have hc := wstep_to (t + r) ((t + r) % 4294967296) HT.out.two.one HT.out.two.thereOne rfl (by omega) (by omega) (by omega)); (with_reducible refine hc.mono ?_); clear hc; rintro e w4 ⟨v4, rfl, hrow, hw, hO4⟩; have HT4 := Lib.hid (HT.out.two.stepOne hw hO4); have HR4 := Lib.hid hrow; have HO4 := Lib.hid (HT.out.two.onlyOne HC.out HO.out hO4); have HZ4 := Lib.hid HT.out.two.size; clear hrow hw hO4)
              | (go_at_call 17; go_must (have hc := wstep_to (t + r + c) ((t + c + r) % 4294967296) HT4.out.two HT4.out.thereTwo (by omega) (by omega) (by omega) (by omega)); (with_reducible refine hc.mono ?_); clear hc; rintro e w5 ⟨v5, rfl, hrow, hw, hO5⟩; rw [HG.out.2] at hw; rw [HG.out.1] at hrow; have HT5 := Lib.hid (HT4.out.stepTwo hw hO5); have HR5 := Lib.hid hrow; have HR45 := Lib.hid (HT4.out.rowTwo HR4.out HZ4.out hO5); have HO5 := Lib.hid (HT4.out.onlyTwo HC.out HO4.out hO5); clear hrow hw hO5)
              | (go_at_call 20; go_must (have h5 := HT5.out.one; rw [HRN.out] at h5; have hc := wnext_none h5); (with_reducible refine hc.mono ?_); clear hc h5; rintro e w6 ⟨rfl, rfl⟩)
              | (go_at_call 20; go_must (have h5 := HT5.out.two; rw [HRN.out] at h5; have hc := wnext_none (show WheelAt _ w5 q (t + r + c) [] from h5)); (with_reducible refine hc.mono ?_); clear hc h5; rintro e w6 ⟨rfl, rfl⟩)
              | (go_at_call 19; go_must (have hc := eq_same v4 v5 (idsOf (goers R (t + r))) w5 HR45.out.nums HR5.out.nums (by simp; omega)); (with_reducible refine hc.mono ?_); clear hc; rintro e w7 ⟨rfl, hO7⟩; have HT7 := Lib.hid (HT5.out.later hO7); have HO7 := Lib.hid (HO5.out.trans hO7 (fun _ _ e => e)); clear hO7))
            go_roundw
            case rel => exact ⟨k + 1, t + r, _, rfl, by rw [show t + r + c = t + c + r by omega], by go_num, by omega, HT.out.next HT7.out r0 (by omega), HO7.out⟩
            case measure => simp [intOf]; omega
          | cons r1 R1 =>
            have HNE := Lib.hid (show stay R (t + r) ≠ [] by rw [hR]; simp)
            clear hR
            obtain ⟨m, hm⟩ := least_any HNE.out
            have HM := Lib.hid hm
            clear hm
            have hsub : ((m.2 - (t + r)) % 4294967296 != (m.2 + c - (t + c + r)) % 4294967296) = false := by rw [show m.2 + c - (t + c + r) = m.2 - (t + r) by omega]; simp
            go_wp2_with (first
              | (go_at_call 23; go_must (have hc := rest_any y 1000 (by omega) (by omega) wr; rw [HRR.out] at hc); (with_reducible refine hc.mono ?_); clear hc; rintro e w4 ⟨rfl, rfl⟩)
              | (go_at_call 17; go_must (have hc := wstep_to (t + r) ((t + r) % 4294967296) HT.out.two.one HT.out.two.thereOne rfl (by omega) (by omega) (by omega)); (with_reducible refine hc.mono ?_); clear hc; rintro e w4 ⟨v4, rfl, hrow, hw, hO4⟩; have HT4 := Lib.hid (HT.out.two.stepOne hw hO4); have HR4 := Lib.hid hrow; have HO4 := Lib.hid (HT.out.two.onlyOne HC.out HO.out hO4); have HZ4 := Lib.hid HT.out.two.size; clear hrow hw hO4)
              | (go_at_call 17; go_must (have hc := wstep_to (t + r + c) ((t + c + r) % 4294967296) HT4.out.two HT4.out.thereTwo (by omega) (by omega) (by omega) (by omega)); (with_reducible refine hc.mono ?_); clear hc; rintro e w5 ⟨v5, rfl, hrow, hw, hO5⟩; rw [HG.out.2] at hw; rw [HG.out.1] at hrow; have HT5 := Lib.hid (HT4.out.stepTwo hw hO5); have HR5 := Lib.hid hrow; have HR45 := Lib.hid (HT4.out.rowTwo HR4.out HZ4.out hO5); have HO5 := Lib.hid (HT4.out.onlyTwo HC.out HO4.out hO5); clear hrow hw hO5)
              | (go_at_call 20; go_must (have hc := wnext HT5.out.one HM.out); (with_reducible refine hc.mono ?_); clear hc; rintro e w6 ⟨rfl, hO6⟩; have HT6 := Lib.hid (HT5.out.later hO6); have HR6 := Lib.hid (HR45.out.later hO6); have HS6 := Lib.hid (HR5.out.later hO6); have HO6 := Lib.hid (HO5.out.trans hO6 (fun _ _ e => e)); clear hO6)
              | (go_at_call 20; go_must (have hc := wnext HT6.out.two (least_shift HM.out)); (with_reducible refine hc.mono ?_); clear hc; rintro e w7 ⟨rfl, hO7⟩; have HT7 := Lib.hid (HT6.out.later hO7); have HR7 := Lib.hid (HR6.out.later hO7); have HS7 := Lib.hid (HS6.out.later hO7); have HO7 := Lib.hid (HO6.out.trans hO7 (fun _ _ e => e)); clear hO7)
              | (go_at_call 19; go_must (have hc := eq_same v4 v5 (idsOf (goers R (t + r))) w7 HR7.out.nums HS7.out.nums (by simp; omega)); (with_reducible refine hc.mono ?_); clear hc; rintro e w8 ⟨rfl, hO8⟩; have HT8 := Lib.hid (HT7.out.later hO8); have HO8 := Lib.hid (HO7.out.trans hO8 (fun _ _ e => e)); clear hO8))
            go_roundw
            case rel => exact ⟨k + 1, t + r, _, rfl, by rw [show t + r + c = t + c + r by omega], by go_num, by omega, HT.out.next HT8.out r0 (by omega), HO8.out⟩
            case measure => simp [intOf]; omega
        · go_wp2_with fail
          go_ret
          exact ⟨rfl, HO.out.below (Nat.le_refl _) (fun _ e => e.elim)⟩
end Go.Proofs.Ytiodfpoaakcejaa.Wh
