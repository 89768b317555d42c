/- The walk of DeadApart. -/
import Derived.Test.YtijpiloljgpnkaaDMeets
import Derived.Test.YtijpiloljgpnkaaAt
namespace Go.Proofs.Ytijpiloljgpnkaa.De
open Go.ChangeShapes Go.WideShapes Go.ChangeAt Go.RowKit Go.Maps
open Go.Proofs.Ytijpiloljgpnkaa.Ad (Use nthU okU SetOk shr sumK cst per UV fl fl_len fl_get fl_set updN updN_same updN_other rest_nat row_view Off)
set_option linter.unusedVariables false

/-- What is so while others sleep and are woken. -/
structure Apart (S : List Use) (T : Tks) (who t gv : Nat) : Prop where
  going : Going S T t
  even : ∃ q, Even (T (who + 1)) t gv q
  bd : gv ≤ t

theorem Going.there {S : List Use} {T : Tks} {t : Nat} (h : Going S T t) (hs : SetOk S) {i : Nat} (hi : i < S.length) : (T (i + 1)).p ≠ 0 := by
  have := (h.fixed i hi).2
  have := SetOk.bd hs hi
  omega
theorem Going.at_ok {S : List Use} {T : Tks} {t : Nat} (h : Going S T t) {i : Nat} (hi : i < S.length) : Ok (T (i + 1)) t := h.fit.at (by have := h.meets.k16; omega)

theorem Apart.block {S : List Use} {T : Tks} {who t gv i : Nat} (h : Apart S T who t gv) (hs : SetOk S) (hi : i < S.length) (hne : i ≠ who) : Apart S (upd T (i + 1) (slept (T (i + 1)))) who t gv := by
  have hp := h.going.there hs hi
  refine ⟨⟨h.going.fit.upd (h.going.at_ok hi).slept (by omega), h.going.bare.upd (fun e => absurd e hp), h.going.meets.block (by omega) (by omega), h.going.fixed.upd rfl rfl⟩, ?_, h.bd⟩
  obtain ⟨q, he⟩ := h.even
  exact ⟨q, by rw [upd_other _ _ (by omega)]; exact he⟩
theorem Apart.wake {S : List Use} {T : Tks} {who t gv i : Nat} (h : Apart S T who t gv) (hs : SetOk S) (hi : i < S.length) (hne : i ≠ who) (hr : (T (i + 1)).r = false) : Apart S (upd T (i + 1) (woke (T (i + 1)) t)) who t gv := by
  have hp := h.going.there hs hi
  have hw := woke_bp (T (i + 1)) t
  refine ⟨⟨h.going.fit.upd ((h.going.at_ok hi).woke (by omega) hp) (by omega), h.going.bare.upd (fun e => absurd (by rw [hw.2] at e; exact e) hp), h.going.meets.wake (by omega) (by omega) hr, h.going.fixed.upd hw.1 hw.2⟩, ?_, h.bd⟩
  obtain ⟨q, he⟩ := h.even
  exact ⟨q, by rw [upd_other _ _ (by omega)]; exact he⟩
theorem Apart.tick {S : List Use} {T : Tks} {who t gv : Nat} (h : Apart S T who t gv) (hw : who < S.length) : Apart S (De.tick T t) who (t + 1) (if pick T = who + 1 then gv + 1 else gv) := by
  obtain ⟨q, he⟩ := h.even
  have hb := h.bd
  obtain ⟨q', he'⟩ := Even.tick h.going.meets (i := who + 1) (by omega) (by omega) he
  have e : (t : Int) + 1 = ((t + 1 : Nat) : Int) := by omega
  rw [e] at he'
  refine ⟨h.going.tick, ?_, by split <;> omega⟩
  by_cases h0 : pick T = who + 1
  · rw [if_pos h0]
    rw [if_pos h0] at he'
    exact ⟨q', by rw [show ((gv + 1 : Nat) : Int) = (gv : Int) + 1 by omega]; exact he'⟩
  · rw [if_neg h0]
    rw [if_neg h0, Int.add_zero] at he'
    exact ⟨q', he'⟩
theorem Apart.start {S : List Use} (hs : SetOk S) {who : Nat} (hw : who < S.length) : Apart S (addTo S S.length) who 0 0 :=
  ⟨Going.start hs, (Had.start hs who hw).1, Nat.le_refl _⟩
theorem Apart.done {S : List Use} {T : Tks} {who t gv : Nat} (h : Apart S T who t gv) (hs : SetOk S) (hw : who < S.length) (hm : t % per (nthU S who) = 0) : t / per (nthU S who) * cst (nthU S who) = gv := by
  obtain ⟨q, he⟩ := h.even
  have hn := Ad.okU_nat (hs.each _ (Ad.nthU_mem hw)).1
  obtain ⟨hb, hp⟩ := h.going.fixed who hw
  have hd := Nat.div_add_mod t (per (nthU S who))
  rw [hm, Nat.add_zero] at hd
  have := he.done (m := ((t / per (nthU S who) : Nat) : Int)) (by rw [hp]; omega) (by rw [hp, hn.2.1, ← Int.natCast_mul, hd])
  rw [hb, hn.1, ← Int.natCast_mul] at this
  have := Int.ofNat.inj this
  rw [this, Nat.mul_comm]

theorem rest_2 (k : Int) (w : World) :
    Calls Try.prog 27 #[.int .i64 k, .int .i64 2] w fun e w' => ∃ c : Nat, c < 2 ∧ e = .returned (.int .i64 c) ∧ w = w' := rest_nat k 2 (by omega) (by omega) w

theorem run_min2 (x y m : Int) (h : min x y = m) (w : World) (ts : Array TypeId) (t : TypeId) : (Builtin.min_ ts t #[.int .i64 x, .int .i64 y]).run Try.prog w = .ok (.int .i64 m) w := by
  subst h
  have e : (if y < x then y else x) = min x y := by rw [Int.min_def]; split <;> split <;> omega
  simp [Builtin.min_, Builtin.min2, e]

/-- The first m numbers of a slice that came in. -/
theorem row_cut {w : World} {v : Value} {xs : List Int} (h : NumRow w v xs) : ∃ a c, v = .slice a xs.length c ∧ xs.length ≤ c ∧ c ≤ 9223372036854775807 ∧ ∀ j, j < xs.length → ∃ ad, a = some ad ∧ ad.block < w.heap.size ∧ w.cell? (ad.add j) = some (.int .i64 (xs.getD j 0)) := by
  obtain ⟨a, c, rfl, h1, h2, h3, h4⟩ := h
  exact ⟨a, c, rfl, h1, by unfold maxLen at h2; omega, h3⟩

set_option maxRecDepth 100000 in
set_option maxHeartbeats 8000000 in
theorem apart_walk (a : Option Addr) (len cap : Nat) (zs : List Int) (who0 : Int) (a2 : Option Addr) (len2 cap2 : Nat) (recs : List (List Int)) (w : World) (h : IsRow .i64 w a len cap zs) (h2 : ArgRows w a2 len2 cap2 recs) :
    Calls Try.prog 7 #[.slice a len cap, .int .i64 who0, .slice a2 len2 cap2] w fun e w' => e = .returned (.bool true) ∧ Below w.heap.size w w' := by
  have HI := Lib.hid h
  have HA := Lib.hid h2
  obtain ⟨rfl, hc2, hm2, -⟩ := h2
  have hcap2 : cap2 ≤ 9223372036854775807 := by unfold maxLen at hm2; omega
  clear h hm2
  obtain ⟨q, hq⟩ : ∃ q : Nat, min recs.length 150 = q := ⟨_, rfl⟩
  have qmin := run_min2 (recs.length : Int) 150 q (by omega)
  have hq1 : q ≤ 150 := by omega
  have hq2 : q ≤ recs.length := by omega
  clear hq
  go_enter Try.func7, Try.ntmps7
  go_upto_region 4 with (first
    | (go_at_call 26; (with_reducible refine (begun_any _).mono ?_); rintro e w1 ⟨rfl, hO⟩; have HO1 := Lib.hid hO; clear hO)
    | (go_at_call 28; (with_reducible refine (Ad.begun_any _).mono ?_); rintro e w2 ⟨rfl, hO⟩; have HO2 := Lib.hid (only_trans HO1.out hO); clear hO)
    | (go_at_call 29; (with_reducible refine (Ad.sets_any _ _ _ _ _ (Ad.row_keep2 HI.out HO2.out)).mono ?_); rintro e w3 ⟨V, S, rfl, hS, hr, hO⟩; obtain ⟨n, hn⟩ : ∃ n, S.length = n := ⟨_, rfl⟩; obtain ⟨a3, c3, rfl, hc31, hc32, -⟩ := hr.shape hn; have HN := Lib.hid hn; clear hn; have HS := Lib.hid hS; have HR := Lib.hid hr; have HO3 := Lib.hid (only_trans HO2.out hO); clear hS hr hO))
  have hn8 : n ≤ 8 := by have := HS.out.len; have := HN.out; omega
  have HV := Lib.hid (fun (wx : World) (hO : Only (fun _ => False) w3 wx) => row_view (HR.out.later hO))
  by_cases hn0 : n = 0
  · have e0 : ((n : Int) == 0) = true := by simp [hn0]
    go_wp2_with fail
    go_ret
    exact ⟨rfl, Only.below HO3.out (Nat.le_refl _) (fun _ e => e.elim)⟩
  have e0 : ((n : Int) == 0) = false := by simp [hn0]
  go_wp2_with (first
    | (go_at_call 27; (with_reducible refine (rest_nat _ n (by omega) (by omega) _).mono ?_); rintro e w' ⟨who, hwho, rfl, rfl⟩)
    | (go_at_call 8; (with_reducible refine (new_any _).mono ?_); rintro e w4 ⟨p, rfl, hp, hD, hO⟩; have HP := Lib.hid hp; have HD := Lib.hid hD; have HO4 := Lib.hid hO; clear hp hD hO))
  go_loopw [35] (fun i wr => ∃ k : Nat, k ≤ n ∧ i = .int .i64 k ∧ DeadAt wr p (addTo S k) 0 ∧ Only (fun _ => False) w3 wr) (fun i _ => n - (intOf i).toNat)
  case atStart => exact ⟨0, Nat.zero_le _, rfl, HD.out, HO4.out⟩
  case round =>
    obtain ⟨k, hk, rfl, hDr, hOr⟩ := hrel
    have HDR := Lib.hid hDr
    have HOR := Lib.hid hOr
    clear hDr hOr
    by_cases hlt : k < n
    · obtain ⟨b, off, rfl, hb, c1, c2⟩ : ∃ b off, a3 = some ⟨b, off, none⟩ ∧ b < wr.heap.size ∧ wr.cell? ⟨b, off + k * 2, none⟩ = some (.int .i64 (nthU S k).1) ∧ wr.cell? ⟨b, off + k * 2 + 1, none⟩ = some (.int .i64 (nthU S k).2) := by
        obtain ⟨a', c', e, -, -, h3⟩ := HV.out wr HOR.out
        cases e
        exact h3 k (by rw [HN.out]; exact hlt)
      have g1 : (k : Int) < n := by omega
      have hu := Ad.okU_nat (HS.out.each _ (Ad.nthU_mem (show k < S.length by rw [HN.out]; exact hlt))).1
      have KA := Lib.hid (fun (wx : World) (hO : Only (fun _ => False) wr wx) => add_next HS.out (by rw [HN.out]; exact hlt) (HDR.out.later hO))
      obtain ⟨u1, u2, u3, u4, u5, u6⟩ := hu
      rw [u1] at c1
      rw [u2] at c2
      clear u1 u2
      generalize cst (nthU S k) = x at *
      generalize per (nthU S k) = y at *
      go_wp2_with (go_at_call 9; (with_reducible refine (KA.out _ ((Only.refl _ wr).alloc _) _ (by omega)).mono ?_); rintro e w5 ⟨rfl, hF, hO⟩; have HF := Lib.hid hF; have HO5 := Lib.hid (only_new (HOR.out.alloc _) hO HP.out); clear hF hO)
      go_roundw
      case rel => exact ⟨k + 1, by omega, by go_num, HF.out, HO5.out⟩
      case measure => simp [intOf]; omega
    · obtain rfl : k = n := by omega
      have HWH := Lib.hid (show who < S.length by rw [HN.out]; exact hwho)
      have HST := Lib.hid (Apart.start HS.out HWH.out)
      rw [HN.out] at HST
      go_wp2_with fail
      go_loopw [11, 12] (fun g i wr => ∃ (j : Nat) (T : Tks) (gv : Nat), j ≤ q ∧ i = .int .i64 ((j : Int) + 1) ∧ g = .int .i64 gv ∧ DeadAt wr p T j ∧ Apart S T who j gv ∧ Only (fun _ => False) w3 wr) (fun _ i _ => q + 1 - (intOf i).toNat)
      case atStart => exact ⟨0, _, 0, Nat.zero_le _, rfl, rfl, HDR.out, HST.out, HOR.out⟩
      case round =>
        obtain ⟨j, T, gv, hj, rfl, rfl, hDj, hGj, hOj⟩ := hrel
        have HDJ := Lib.hid hDj
        have HGJ := Lib.hid hGj
        have HOJ := Lib.hid hOj
        have hgv := hGj.bd
        clear hDj hGj hOj
        by_cases hlt2 : j < q
        · have g1 : (j : Int) + 1 ≤ q := by omega
          have hbJ : Below w.heap.size w wr := (only_trans HO3.out HOJ.out).below (Nat.le_refl _) (fun _ e => e.elim)
          obtain ⟨b2, off2, v2, rfl, hb2, hcv, hrow⟩ : ∃ b off v, a2 = some ⟨b, off, none⟩ ∧ b < w.heap.size ∧ w.cell? ⟨b, off + j, none⟩ = some v ∧ NumRow w v (recs.getD j []) := by
            obtain ⟨-, -, -, -, h5⟩ := HA.out
            exact h5 j (by omega)
          have hcv := (hbJ.cell (p := ⟨b2, off2 + j, none⟩) hb2).trans hcv
          have hb2 := Nat.lt_of_lt_of_le hb2 hbJ.size
          clear hbJ
          obtain ⟨a4, c4, rfl, hc41, hc42, hcell⟩ := row_cut hrow
          clear hrow
          generalize recs.getD j [] = xs at *
          obtain ⟨m, hm⟩ : ∃ m : Nat, min xs.length 4 = m := ⟨_, rfl⟩
          have mmin := run_min2 (xs.length : Int) 4 m (by omega)
          have hm1 : m ≤ xs.length := by omega
          have HC := Lib.hid hcell
          clear hm hcell
          have g2 : (0 : Int) ≤ j := by omega
          have g3 : (j : Int) < recs.length := by omega
          have g4 : (j : Int) + 1 - 1 = j := by omega
          have g5 : (0 : Int) ≤ m := by omega
          have g6 : (m : Int) ≤ xs.length := by omega
          have g7 : (m : Int) ≤ c4 := by omega
          have g8 : IntKind.i64.wrap ((j : Int) + 1 - 1) = j := by rw [g4]; exact IntWalk.i64_in _ (by omega)
          go_wp2_with fail
          go_quiet (fail)
          have HDA := Lib.hid (HDJ.out.later (only_drewN (Only.refl _ wr) nq))
          have HOA := Lib.hid (only_drewN HOJ.out nq)
          clear hcv hb2 g3 g8 mmin g6 g7
          generalize wr.drewN nq = wa at *
          go_wp2_with fail
          go_loopw [71] (fun i wr => ∃ (x : Nat) (T : Tks), x ≤ m ∧ i = .int .i64 x ∧ DeadAt wr p T j ∧ Apart S T who j gv ∧ Only (fun _ => False) w3 wr) (fun i _ => m - (intOf i).toNat)
          case atStart => exact ⟨0, _, Nat.zero_le _, rfl, HDA.out, HGJ.out, HOA.out⟩
          case round =>
            clear HDA HOA HDJ HGJ HOJ
            obtain ⟨x, T, hx, rfl, hDx, hGx, hOx⟩ := hrel
            have HDX := Lib.hid hDx
            have HGX := Lib.hid hGx
            have HOX := Lib.hid hOx
            clear hDx hGx hOx
            by_cases hxm : x < m
            · obtain ⟨ad, rfl, hal, hcx⟩ : ∃ ad, a4 = some ad ∧ ad.block < wr.heap.size ∧ wr.cell? (ad.add x) = some (.int .i64 (xs.getD x 0)) := by
                have hb := (only_trans HO3.out HOX.out).below (Nat.le_refl _) (fun _ e => e.elim)
                obtain ⟨ad, e, hl, hc⟩ := HC.out x (by omega)
                refine ⟨ad, e, Nat.lt_of_lt_of_le hl hb.size, ?_⟩
                have hlt := block_lt hc
                rw [hb.cell (p := ad.add x) hlt]
                exact hc
              generalize xs.getD x 0 = z at *
              have x1 : (x : Int) < m := by omega
              have r0 := restOf_lo z 2 (by omega)
              have r1 := restOf_hi z 2 (by omega)
              have k2 := fun (wx : World) => rest_any z 2 (by omega) (by omega) wx
              obtain ⟨c, hc⟩ : ∃ c : Nat, restOf z 2 = c := ⟨(restOf z 2).toNat, by omega⟩
              rw [hc] at k2
              have K2 := Lib.hid k2
              clear k2 hc r0 r1
              go_upto_region 22 with (go_at_call 27; (with_reducible refine (rest_nat _ k (by omega) (by omega) _).mono ?_); rintro e w' ⟨t, ht, rfl, rfl⟩)
              clear hcx
              by_cases htw : t = who
              · have e4 : ((t : Int) == who) = true := by simp [htw]
                go_wp2_with fail
                go_roundw
                case rel => exact ⟨x + 1, T, by omega, by go_num, HDX.out, HGX.out, HOX.out⟩
                case measure => simp [intOf]; omega
              · have e4 : ((t : Int) == who) = false := by simp; omega
                have hts : t < S.length := by rw [HN.out]; exact ht
                have hth := HGX.out.going.there HS.out hts
                have e5 : ((t + 1 : Nat) : Int) = (t : Int) + 1 := by omega
                by_cases hc0 : c = 0
                · have e6 : ((c : Int) == 0) = true := by simp [hc0]
                  cases hr : (T (t + 1)).r with
                  | true =>
                    have kb := block_yes HDX.out (t + 1) (by omega) (by omega) hth hr
                    rw [e5] at kb
                    have KB := Lib.hid kb
                    have HG2 := Lib.hid (HGX.out.block HS.out hts htw)
                    clear kb hth hr e5
                    go_wp2_with (first
                      | (go_at_call 27; (with_reducible refine (K2.out _).mono ?_); rintro e w' ⟨rfl, rfl⟩)
                      | (go_at_call 17; (with_reducible refine KB.out.mono ?_); rintro e w8 ⟨rfl, hF, hO⟩; have HF8 := Lib.hid hF; have HO8 := Lib.hid (only_new HOX.out hO HP.out); clear hF hO))
                    go_roundw
                    case rel => exact ⟨x + 1, _, by omega, by go_num, HF8.out, HG2.out, HO8.out⟩
                    case measure => simp [intOf]; omega
                  | false =>
                    have kb := block_state HDX.out (t + 1) (by omega) (by omega) hth hr
                    rw [e5] at kb
                    have KB := Lib.hid kb
                    clear kb hth hr e5
                    go_wp2_with (first
                      | (go_at_call 27; (with_reducible refine (K2.out _).mono ?_); rintro e w' ⟨rfl, rfl⟩)
                      | (go_at_call 17; (with_reducible refine KB.out.mono ?_); rintro e w8 ⟨rfl, rfl⟩))
                    go_roundw
                    case rel => exact ⟨x + 1, T, by omega, by go_num, HDX.out, HGX.out, HOX.out⟩
                    case measure => simp [intOf]; omega
                · have e6 : ((c : Int) == 0) = false := by simp [hc0]
                  cases hr : (T (t + 1)).r with
                  | true =>
                    have kb := wk_state HDX.out (t + 1) (by omega) (by omega) hth hr
                    rw [e5] at kb
                    have KB := Lib.hid kb
                    clear kb hth hr e5
                    go_wp2_with (first
                      | (go_at_call 27; (with_reducible refine (K2.out _).mono ?_); rintro e w' ⟨rfl, rfl⟩)
                      | (go_at_call 18; (with_reducible refine KB.out.mono ?_); rintro e w8 ⟨rfl, rfl⟩))
                    go_roundw
                    case rel => exact ⟨x + 1, T, by omega, by go_num, HDX.out, HGX.out, HOX.out⟩
                    case measure => simp [intOf]; omega
                  | false =>
                    have kb := wk_yes HDX.out HGX.out.going.fit (by omega) (by omega) (by omega) (t + 1) (by omega) (by omega) hth hr
                    rw [e5] at kb
                    have KB := Lib.hid kb
                    have HG2 := Lib.hid (HGX.out.wake HS.out hts htw hr)
                    clear kb hth hr e5
                    go_wp2_with (first
                      | (go_at_call 27; (with_reducible refine (K2.out _).mono ?_); rintro e w' ⟨rfl, rfl⟩)
                      | (go_at_call 18; (with_reducible refine KB.out.mono ?_); rintro e w8 ⟨rfl, hF, hO⟩; have HF8 := Lib.hid hF; have HO8 := Lib.hid (only_new HOX.out hO HP.out); clear hF hO))
                    go_roundw
                    case rel => exact ⟨x + 1, _, by omega, by go_num, HF8.out, HG2.out, HO8.out⟩
                    case measure => simp [intOf]; omega
            · obtain rfl : x = m := by omega
              have hA7 := HGX.out.tick HWH.out
              obtain ⟨pk, hpk⟩ : ∃ pk, pick T = pk := ⟨_, rfl⟩
              have KT := Lib.hid (fun (wx : World) (hO : Only (fun _ => False) wr wx) => tick_at (HDX.out.later hO) HGX.out.going (by omega) hpk)
              rw [hpk] at hA7
              clear hpk
              by_cases hpw : pk = who + 1
              · have e4 : ((pk : Int) == (who : Int) + 1) = true := by simp; omega
                rw [if_pos hpw] at hA7
                have HA7 := Lib.hid hA7
                clear hA7
                go_upto_region 29 with (go_at_call 10; (with_reducible refine (KT.out _ (Only.refl _ _)).mono ?_); rintro e w7 ⟨rfl, hF, hO⟩; have HD7 := Lib.hid hF; have HO7 := Lib.hid (only_new HOX.out hO HP.out); clear hF hO)
                have hwl : who < k := hwho
                obtain ⟨b, off, rfl, hb, c1, c2⟩ : ∃ b off, a3 = some ⟨b, off, none⟩ ∧ b < w7.heap.size ∧ w7.cell? ⟨b, off + who * 2, none⟩ = some (.int .i64 (nthU S who).1) ∧ w7.cell? ⟨b, off + who * 2 + 1, none⟩ = some (.int .i64 (nthU S who).2) := by
                  obtain ⟨a', c', e, -, -, h3⟩ := HV.out w7 HO7.out
                  cases e
                  exact h3 who HWH.out
                have hu := Ad.okU_nat (HS.out.each _ (Ad.nthU_mem HWH.out)).1
                have hdone := HA7.out.done HS.out HWH.out
                obtain ⟨u1, u2, u3, u4, u5, u6⟩ := hu
                rw [u1] at c1
                rw [u2] at c2
                clear u1 u2
                generalize cst (nthU S who) = c at *
                generalize per (nthU S who) = y at *
                obtain ⟨mm, hmm⟩ : ∃ m, (j + 1) % y = m := ⟨_, rfl⟩
                have qm : ((j : Int) + 1) % y = (mm : Int) := by rw [← hmm, show (j : Int) + 1 = ((j + 1 : Nat) : Int) by omega]; rfl
                rw [hmm] at hdone
                obtain ⟨z, hz⟩ : ∃ z, (j + 1) / y = z := ⟨_, rfl⟩
                have qz : ((j : Int) + 1) / y = (z : Int) := by rw [← hz, show (j : Int) + 1 = ((j + 1 : Nat) : Int) by omega]; rfl
                rw [hz] at hdone
                clear hmm hz
                have y1 : ¬ (y : Int) = 0 := by omega
                have y2 : (0 : Int) ≤ (j : Int) + 1 := by omega
                have y3 : (who : Int) < k := by omega
                by_cases m0 : mm = 0
                · have y4 : ((mm : Int) == 0) = true := by simp [m0]
                  have hgx := hdone m0
                  have q2 : wrap64 ((z : Int) * c) = ((gv : Int) + 1) := by rw [← Int.natCast_mul, hgx]; rw [show ((gv + 1 : Nat) : Int) = (gv : Int) + 1 by omega]; exact IntWalk.wrap64_in _ (by omega)
                  clear hdone hgx
                  go_wp2_with fail
                  go_quiet (fail)
                  go_wp2_with fail
                  go_roundw
                  case rel => exact ⟨j + 1, _, gv + 1, by omega, by go_num, by go_num, HD7.out.later (only_drewN ((Only.refl _ _).alloc _) _), HA7.out, only_drewN (HO7.out.alloc _) _⟩
                  case measure => simp [intOf]; omega
                · have y4 : ((mm : Int) == 0) = false := by simp [m0]
                  clear hdone
                  go_wp2_with fail
                  go_quiet (fail)
                  go_wp2_with fail
                  go_roundw
                  case rel => exact ⟨j + 1, _, gv + 1, by omega, by go_num, by go_num, HD7.out.later (only_drewN ((Only.refl _ _).alloc _) _), HA7.out, only_drewN (HO7.out.alloc _) _⟩
                  case measure => simp [intOf]; omega
              · have e4 : ((pk : Int) == (who : Int) + 1) = false := by simp; omega
                rw [if_neg hpw] at hA7
                have HA7 := Lib.hid hA7
                clear hA7
                go_upto_region 29 with (go_at_call 10; (with_reducible refine (KT.out _ (Only.refl _ _)).mono ?_); rintro e w7 ⟨rfl, hF, hO⟩; have HD7 := Lib.hid hF; have HO7 := Lib.hid (only_new HOX.out hO HP.out); clear hF hO)
                have hwl : who < k := hwho
                obtain ⟨b, off, rfl, hb, c1, c2⟩ : ∃ b off, a3 = some ⟨b, off, none⟩ ∧ b < w7.heap.size ∧ w7.cell? ⟨b, off + who * 2, none⟩ = some (.int .i64 (nthU S who).1) ∧ w7.cell? ⟨b, off + who * 2 + 1, none⟩ = some (.int .i64 (nthU S who).2) := by
                  obtain ⟨a', c', e, -, -, h3⟩ := HV.out w7 HO7.out
                  cases e
                  exact h3 who HWH.out
                have hu := Ad.okU_nat (HS.out.each _ (Ad.nthU_mem HWH.out)).1
                have hdone := HA7.out.done HS.out HWH.out
                obtain ⟨u1, u2, u3, u4, u5, u6⟩ := hu
                rw [u1] at c1
                rw [u2] at c2
                clear u1 u2
                generalize cst (nthU S who) = c at *
                generalize per (nthU S who) = y at *
                obtain ⟨mm, hmm⟩ : ∃ m, (j + 1) % y = m := ⟨_, rfl⟩
                have qm : ((j : Int) + 1) % y = (mm : Int) := by rw [← hmm, show (j : Int) + 1 = ((j + 1 : Nat) : Int) by omega]; rfl
                rw [hmm] at hdone
                obtain ⟨z, hz⟩ : ∃ z, (j + 1) / y = z := ⟨_, rfl⟩
                have qz : ((j : Int) + 1) / y = (z : Int) := by rw [← hz, show (j : Int) + 1 = ((j + 1 : Nat) : Int) by omega]; rfl
                rw [hz] at hdone
                clear hmm hz
                have y1 : ¬ (y : Int) = 0 := by omega
                have y2 : (0 : Int) ≤ (j : Int) + 1 := by omega
                have y3 : (who : Int) < k := by omega
                by_cases m0 : mm = 0
                · have y4 : ((mm : Int) == 0) = true := by simp [m0]
                  have hgx := hdone m0
                  have q2 : wrap64 ((z : Int) * c) = (gv : Int) := by rw [← Int.natCast_mul, hgx]; exact IntWalk.wrap64_in _ (by omega)
                  clear hdone hgx
                  go_wp2_with fail
                  go_quiet (fail)
                  go_wp2_with fail
                  go_roundw
                  case rel => exact ⟨j + 1, _, gv, by omega, by go_num, rfl, HD7.out.later (only_drewN ((Only.refl _ _).alloc _) _), HA7.out, only_drewN (HO7.out.alloc _) _⟩
                  case measure => simp [intOf]; omega
                · have y4 : ((mm : Int) == 0) = false := by simp [m0]
                  clear hdone
                  go_wp2_with fail
                  go_quiet (fail)
                  go_wp2_with fail
                  go_roundw
                  case rel => exact ⟨j + 1, _, gv, by omega, by go_num, rfl, HD7.out.later (only_drewN ((Only.refl _ _).alloc _) _), HA7.out, only_drewN (HO7.out.alloc _) _⟩
                  case measure => simp [intOf]; omega
        · obtain rfl : j = q := by omega
          have g1 : ¬ (j : Int) + 1 ≤ j := by omega
          go_wp2_with fail
          go_ret
          exact ⟨rfl, Only.below (only_trans HO3.out HOJ.out) (Nat.le_refl _) (fun _ e => e.elim)⟩
end Go.Proofs.Ytijpiloljgpnkaa.De
