/- The walk of SpanPlays. -/
import Derived.Test.YtbfnaejfmpnkbaaHalf
import Derived.Test.YtbfnaejfmpnkbaaTellw
import Derived.Deep.CutBlock
namespace Go.Proofs.Ytbfnaejfmpnkbaa
open Go.ChangeShapes Go.WideShapes Go.ChangeAt Go.RowKit
set_option linter.unusedVariables false

theorem at_0 {v : Value} {xs : List Int} {w : World} (h : NumRow w v xs) : Calls Try.prog 12 #[v, .int .i64 0] w fun e w' => e = .returned (.int .i64 (atn xs 0)) ∧ w = w' := atn_any v xs 0 w h (by decide)
theorem at_1 {v : Value} {xs : List Int} {w : World} (h : NumRow w v xs) : Calls Try.prog 12 #[v, .int .i64 1] w fun e w' => e = .returned (.int .i64 (atn xs 1)) ∧ w = w' := atn_any v xs 1 w h (by decide)
theorem at_2 {v : Value} {xs : List Int} {w : World} (h : NumRow w v xs) : Calls Try.prog 12 #[v, .int .i64 2] w fun e w' => e = .returned (.int .i64 (atn xs 2)) ∧ w = w' := atn_any v xs 2 w h (by decide)
theorem at_3 {v : Value} {xs : List Int} {w : World} (h : NumRow w v xs) : Calls Try.prog 12 #[v, .int .i64 3] w fun e w' => e = .returned (.int .i64 (atn xs 3)) ∧ w = w' := atn_any v xs 3 w h (by decide)

/-- The state at the head of the plays' loop. -/
def Head (B : Nat) (w0 : World) (p n : Nat) (V v : Value) (w : World) : Prop :=
  ∃ (j : Nat) (L : List El), v = .int .i64 j ∧ j ≤ n ∧ L.length ≤ j ∧ Play B w p V L ∧ Below B w0 w

/-- The state behind the switch. -/
def Mixed (B : Nat) (w0 : World) (p j : Nat) (V : Value) (w : World) : Prop := ∃ L : List El, L.length ≤ j + 1 ∧ Play B w p V L ∧ Below B w0 w

theorem wts_five : wts (put ⟨1, 1, 5⟩ []) = 5 := by decide

theorem things_shape {B : Nat} {w : World} {V : Value} {L : List El} (h : ThingsAt w B V L) : ∃ a c, V = .slice a L.length c ∧ (0 < L.length → ∃ g, a = some ⟨g, 0, none⟩) := by
  rcases h.cases with ⟨rfl, rfl⟩ | ⟨g, cap, cur, rfl, -⟩
  · exact ⟨none, 0, rfl, fun h => absurd h (by decide)⟩
  · exact ⟨_, cap, rfl, fun _ => ⟨g, rfl⟩⟩
theorem things_cell {B g cv i n : Nat} {w : World} {L : List El} (h : ThingsAt w B (.slice (some ⟨g, 0, none⟩) n cv) L) (hi : i < L.length) :
    w.cell? ⟨g, i * 3, none⟩ = some (.int .i64 (thg L i).k) ∧ w.cell? ⟨g, i * 3 + 1, none⟩ = some (.int .i64 (thg L i).i) ∧ w.cell? ⟨g, i * 3 + 2, none⟩ = some (.int .i64 (thg L i).w) := by
  rcases h.cases with ⟨h, -⟩ | ⟨g', cap', cur, h, -, -, -, -, -, -, hc⟩
  · cases h
  · cases h; exact hc i hi

set_option maxRecDepth 100000 in
set_option maxHeartbeats 8000000 in
theorem plays_walk (a : Option Addr) (cap : Nat) (recs : List (List Int)) (w : World) (h : ArgRows w a recs.length cap recs) (hn : recs.length * 24 ≤ 140737488351232) :
    Calls Try.prog 3 #[.slice a recs.length cap] w fun e w' => e = .returned (.bool true) ∧ Below w.heap.size w w' := by
  obtain ⟨-, hcap, hmx, -, hrow⟩ := h
  have HROW := Lib.hid hrow
  have hcm : cap ≤ 9223372036854775807 := by unfold maxLen at hmx; omega
  clear hrow hmx
  go_enter Try.func3, Try.ntmps3
  have tok1 : True := trivial
  go_upto_region 5 with (first
    | (go_at_call 9; have _t := tok1; go_must (refine (tnew w).mono ?_); rintro e w1 ⟨q, rfl, ht, ho⟩; have HT := Lib.hid ht; have HO := Lib.hid (ho.below (B := w.heap.size) (Nat.le_refl _) (fun _ e => e.elim)); clear ht ho tok1)
    | (go_at_call 10; (with_reducible refine (tput_arg 1 1 1000001 (Or.inr (by decide)) _).mono ?_); rintro e w2 ⟨rfl, rfl⟩)
    | (go_at_call 10; have hc := tput HT.out (k := 1) (i := 1) (v := 5) (by rintro ⟨x, hx, -⟩; cases hx) (by decide) (by decide) (by decide); (with_reducible refine hc.mono ?_); clear hc; rintro e w2 ⟨rfl, ht, ho⟩; have HT2 := Lib.hid ht; have HO2 := Lib.hid (HO.out.trans (ho.below HO.out.size (fun _ e => e))); clear ht ho)
    | (go_at_call 11; (with_reducible refine (tsum_is HT2.out wts_five).mono ?_); rintro e w3 ⟨rfl, rfl⟩)
    | (go_at_call 9; go_must (refine (tnew _).mono ?_); rintro e w4 ⟨p, rfl, ht, ho⟩; have HT4 := Lib.hid ht; have HO4 := Lib.hid (HO2.out.trans (ho.below HO2.out.size (fun _ e => e.elim))); clear ht ho))
  have HP0 : Hid (Play w.heap.size w4 p (.slice none 0 0) []) := Lib.hid ⟨_, HT4.out, ⟨rfl, Or.inl ⟨rfl, rfl⟩⟩, fun k hk => (by cases hk), fun k hk => Nat.le_trans HO2.out.size hk⟩
  clear HT HO HT2 HT4
  go_wp2_with fail
  go_loopw [4, 36] (fun V v wr => Head w.heap.size w p recs.length V v wr) (fun _ v _ => recs.length - (intOf v).toNat)
  case atStart => exact ⟨0, [], rfl, Nat.zero_le _, Nat.le_refl _, HP0.out, HO4.out⟩
  case round =>
    obtain ⟨j, L, rfl, hj, hS, hp, hb⟩ := hrel
    have HP := Lib.hid hp
    have HB := Lib.hid hb
    clear hp hb HP0 HO4 HO2
    by_cases hjn : j < recs.length
    · obtain ⟨b, off, v, rfl, hbl, hc, hv⟩ := HROW.out j hjn
      have hcx := (HB.out.cell (p := ⟨b, off + j, none⟩) hbl).trans hc
      have HV := Lib.hid (hv.later HB.out)
      have g1 : (j : Int) < recs.length := by omega
      have g2 : (0 : Int) ≤ j := by omega
      have hwf3 := hv.wf 3
      generalize recs.getD j [] = xs at *
      clear hc hv
      go_upto_region 10 with (first
        | (go_at_call 12; (with_reducible refine (at_1 HV.out).mono ?_); rintro e w' ⟨rfl, rfl⟩)
        | (go_at_call 12; (with_reducible refine (at_2 HV.out).mono ?_); rintro e w' ⟨rfl, rfl⟩)
        | (go_at_call 12; (with_reducible refine (at_3 HV.out).mono ?_); rintro e w' ⟨rfl, rfl⟩))
      have hwf : (Lit.int .i64 (atn xs 3)).wf = true := hwf3
      clear hwf3 hcx
      obtain ⟨key, hkey⟩ : ∃ key, atn xs 1 = key := ⟨_, rfl⟩
      obtain ⟨id, hid⟩ : ∃ id, atn xs 2 = id := ⟨_, rfl⟩
      obtain ⟨wt, hwt⟩ : ∃ wt, atn xs 3 = wt := ⟨_, rfl⟩
      rw [hkey, hid, hwt]
      rw [hwt] at hwf
      have HWF := Lib.hid hwf
      clear hkey hid hwt hwf
      obtain ⟨av, cv, rfl, hadr⟩ := things_shape HP.out.things
      have HAD := Lib.hid hadr
      have hll : L.length ≤ 5900000000000 := by omega
      clear hadr
      go_upto_block 2 with fail
      obtain ⟨wo, hwo⟩ : ∃ wo : World, wo = wr := ⟨_, rfl⟩
      subst hwo
      go_cut [10] (fun s wx => s = .int .i64 (pI L key id : Nat) ∧ Below wo.heap.size wo wx)
      case first =>
        as_aux_lemma =>
          go_wp2_with fail
          go_loopw [10] (fun s wr => ∃ i : Nat, s = .int .i64 i ∧ i ≤ pI L key id ∧ Below wo.heap.size wo wr) (fun s _ => L.length - (intOf s).toNat)
          case atStart => exact ⟨0, rfl, Nat.zero_le _, Below.refl _ _⟩
          case round =>
            obtain ⟨i, rfl, hi, hb⟩ := hrel
            have HB2 := Lib.hid hb
            have hpl := pI_le L key id
            clear hb
            by_cases hil : i < L.length
            · obtain ⟨g, rfl⟩ := HAD.out (by omega)
              obtain ⟨x0, x1, x2⟩ := things_cell (HP.out.below HB2.out).things hil
              have hpi := pI_at hil hi
              have g3 : (i : Int) < L.length := by omega
              have g4 : (0 : Int) ≤ i := by omega
              obtain ⟨x, hx⟩ : ∃ x, thg L i = x := ⟨_, rfl⟩
              rw [hx] at x0 x1 x2 hpi
              have HPI := Lib.hid hpi
              clear hpi hx
              by_cases hbe : bef x key id
              · have HV : Hid (decide (bef x key id) = true) := Lib.hid (decide_eq_true hbe)
                have HI : Hid (i < pI L key id) := Lib.hid (HPI.out.2 hbe)
                clear hbe
                go_wp2_with (go_at_call 13; go_must (refine (before_any x key id true HV.out _).mono ?_); rintro e w2 ⟨rfl, hb2⟩; have HB3 := Lib.hid (HB2.out.trans (hb2.mono HB2.out.size)); clear hb2)
                go_roundw
                case rel => exact ⟨i + 1, by go_num, HI.out, HB3.out⟩
                case measure => simp [intOf]; omega
              · have HV : Hid (decide (bef x key id) = false) := Lib.hid (decide_eq_false hbe)
                have HI : Hid (i = pI L key id) := Lib.hid (by have := mt HPI.out.1 hbe; omega)
                clear hbe
                go_wp2_with (go_at_call 13; go_must (refine (before_any x key id false HV.out _).mono ?_); rintro e w2 ⟨rfl, hb2⟩; have HB3 := Lib.hid (HB2.out.trans (hb2.mono HB2.out.size)); clear hb2)
                go_meet
                exact ⟨by rw [← HI.out], HB3.out⟩
            · have HI : Hid (i = pI L key id) := Lib.hid (by omega)
              have g3 : ¬ (i : Int) < L.length := by omega
              go_wp2_with fail
              go_meet
              exact ⟨by rw [← HI.out], HB2.out⟩
      case rest =>
        obtain ⟨rfl, hb2⟩ := hcut
        have HP2 := Lib.hid (HP.out.below hb2)
        have HV2 := Lib.hid (HV.out.later hb2)
        have HB2 := Lib.hid (HB.out.trans (hb2.mono HB.out.size))
        have HIS := Lib.hid (is_idx (k := key) (i := id) HP2.out.sorted)
        have HPL := Lib.hid (pI_le L key id)
        have HIX : Hid (∀ z : El, z.k = key → z.i = id → ¬ Is L key id → put z L = L.take (pI L key id) ++ z :: L.drop (pI L key id)) := Lib.hid (fun z hk hi hno => by have := put_idx (z := z) HP2.out.sorted (by rw [hk, hi]; exact hno); rw [hk, hi] at this; exact this)
        have HCX : Hid (Is L key id → cut key id L = L.eraseIdx (pI L key id)) := Lib.hid (fun h => cut_idx HP2.out.sorted h)
        clear hb2 HV HP HB
        generalize pI L key id = i at *
        obtain ⟨isb, hisb⟩ : ∃ isb : Bool, isb = true ↔ Is L key id := by
          by_cases h : Is L key id
          · exact ⟨true, by simp [h]⟩
          · exact ⟨false, by simp [h]⟩
        have HISB := Lib.hid hisb
        have hil := HPL.out
        clear hisb
        go_upto_region 13 with fail
        go_cut [11] (fun s11 wx => s11 = .bool isb ∧ wx = wc)
        case first =>
          as_aux_lemma =>
            have hiff := HISB.out.trans HIS.out
            by_cases hi : i < L.length
            · obtain ⟨g, rfl⟩ := HAD.out (by omega)
              obtain ⟨x0, x1, x2⟩ := things_cell HP2.out.things hi
              have g3 : (i : Int) < L.length := by omega
              have g4 : (0 : Int) ≤ i := by omega
              obtain ⟨x, hx⟩ : ∃ x, thg L i = x := ⟨_, rfl⟩
              rw [hx] at x0 x1 x2 hiff
              by_cases hk : x.k = key
              · by_cases hd : x.i = id
                · have hkb : (x.k == key) = true := by simpa using hk
                  have hdb : (x.i == id) = true := by simpa using hd
                  have HT : Hid (isb = true) := Lib.hid (hiff.2 ⟨hi, hk, hd⟩)
                  clear hiff hk hd hx
                  go_wp2_with fail
                  go_meet
                  exact ⟨by rw [HT.out], rfl⟩
                · have hkb : (x.k == key) = true := by simpa using hk
                  have hdb : (x.i == id) = false := by simpa using hd
                  have HT : Hid (isb = false) := Lib.hid (by cases isb; rfl; exact absurd (hiff.1 rfl).2.2 hd)
                  clear hiff hk hd hx
                  go_wp2_with fail
                  go_meet
                  exact ⟨by rw [HT.out], rfl⟩
              · have hkb : (x.k == key) = false := by simpa using hk
                have HT : Hid (isb = false) := Lib.hid (by cases isb; rfl; exact absurd (hiff.1 rfl).2.1 hk)
                clear hiff hk hx
                go_wp2_with fail
                go_meet
                exact ⟨by rw [HT.out], rfl⟩
            · have g3 : ¬ (i : Int) < L.length := by omega
              have HT : Hid (isb = false) := Lib.hid (by cases isb; rfl; exact absurd (hiff.1 rfl).1 hi)
              clear hiff
              go_wp2_with fail
              go_meet
              exact ⟨by rw [HT.out], rfl⟩
        case rest =>
          obtain ⟨rfl, rfl⟩ := hcut
          go_upto_block 4 with (go_at_call 12; (with_reducible refine (at_0 HV2.out).mono ?_); rintro e w' ⟨rfl, rfl⟩)
          generalize atn xs 0 = op at *
          clear HV2
          have HBS := Lib.hid HB2.out.size
          go_cut [4] (fun s4 wx => Mixed w.heap.size w p j s4 wx)
          case first =>
            as_aux_lemma =>
              by_cases o1 : op = 1
              · subst o1
                by_cases v0 : wt < 0
                · have HC := Lib.hid (play_arg HP2.out key id wt (Or.inl v0))
                  go_wp2_with (go_at_call 10; (with_reducible refine HC.out.mono ?_); rintro e w3 ⟨rfl, rfl⟩)
                  go_meet
                  exact ⟨L, by omega, HP2.out, HB2.out⟩
                · by_cases v1 : 1000000 < wt
                  · have HC := Lib.hid (play_arg HP2.out key id wt (Or.inr v1))
                    go_wp2_with (go_at_call 10; (with_reducible refine HC.out.mono ?_); rintro e w3 ⟨rfl, rfl⟩)
                    go_meet
                    exact ⟨L, by omega, HP2.out, HB2.out⟩
                  · have v2 : 0 ≤ wt := by omega
                    have v3 : wt ≤ 1000000 := by omega
                    by_cases hisb : Is L key id
                    · obtain rfl : isb = true := HISB.out.2 hisb
                      have HC := Lib.hid (play_there HP2.out hisb v2 v3 HBS.out)
                      clear hisb
                      go_wp2_with (go_at_call 10; (with_reducible refine HC.out.mono ?_); rintro e w3 ⟨rfl, hp, hb⟩; have HP3 := Lib.hid hp; have HB3 := Lib.hid (HB2.out.trans hb); clear hp hb)
                      go_meet
                      exact ⟨L, by omega, HP3.out, HB3.out⟩
                    · obtain rfl : isb = false := by cases isb; rfl; exact absurd (HISB.out.1 rfl) hisb
                      have HC := Lib.hid (play_put HP2.out hisb v2 v3 (by omega) HBS.out)
                      have HL := Lib.hid (HIX.out ⟨key, id, wt⟩ rfl rfl hisb)
                      clear hisb
                      go_wp2_with (first
                        | (go_at_call 10; (with_reducible refine HC.out.mono ?_); rintro e w3 ⟨rfl, hp, hb⟩; have HP3 := Lib.hid hp; have HB3 := Lib.hid (HB2.out.trans hb); clear hp hb)
                        | (go_at_call 14; go_must (have hd := play_ins HP3.out hil HL.out HB3.out.size (by omega)); (with_reducible refine hd.mono ?_); rintro e w4 ⟨V4, rfl, hp, hb⟩; have HP4 := Lib.hid hp; have HB4 := Lib.hid (HB3.out.trans hb); clear hd hp hb))
                      go_meet
                      refine ⟨_, ?_, HP4.out, HB4.out⟩
                      rw [HL.out]; simp; omega
              · have n1 : (op == 1) = false := by simpa using o1
                by_cases o2 : op = 2
                · subst o2
                  by_cases hisb : Is L key id
                  · obtain rfl : isb = true := HISB.out.2 hisb
                    obtain ⟨h1, h2, h3⟩ := HIS.out.1 hisb
                    obtain ⟨g, rfl⟩ := HAD.out (by omega)
                    obtain ⟨m, hm⟩ : ∃ m, L.length = m + 1 := ⟨L.length - 1, by omega⟩
                    have HC := Lib.hid (play_out HP2.out (thg_mem h1) h2 h3 rfl HBS.out)
                    have HL := Lib.hid (HCX.out hisb)
                    have HM := Lib.hid hm
                    have him : i < m + 1 := by omega
                    have q1 : (i : Int) < m + 1 := by omega
                    have q2 : (0 : Int) ≤ i := by omega
                    rw [hm] at HP2 HC
                    clear hisb h2 h3 HIS
                    go_wp2_with (first
                      | (go_at_call 15; (with_reducible refine HC.out.mono ?_); rintro e w3 ⟨rfl, hp, hb⟩; have HP3 := Lib.hid hp; have HB3 := Lib.hid (HB2.out.trans hb); obtain ⟨x0, x1, x2⟩ := things_cell hp.things h1; clear hp hb)
                      | (go_at_call 16; go_must (have hd := play_del HP3.out HM.out him HL.out HB3.out.size (by omega)); (with_reducible refine hd.mono ?_); rintro e w4 ⟨rfl, hp, hb⟩; have HP4 := Lib.hid hp; have HB4 := Lib.hid (HB3.out.trans hb); clear hd hp hb))
                    go_meet
                    refine ⟨_, ?_, HP4.out, HB4.out⟩
                    rw [HL.out, List.length_eraseIdx, if_pos h1]; omega
                  · obtain rfl : isb = false := by cases isb; rfl; exact absurd (HISB.out.1 rfl) hisb
                    have HC := Lib.hid (play_none HP2.out hisb HBS.out)
                    clear hisb
                    go_wp2_with (go_at_call 15; (with_reducible refine HC.out.mono ?_); rintro e w3 ⟨rfl, hp, hb⟩; have HP3 := Lib.hid hp; have HB3 := Lib.hid (HB2.out.trans hb); clear hp hb)
                    go_meet
                    exact ⟨L, by omega, HP3.out, HB3.out⟩
                · have n2 : (op == 2) = false := by simpa using o2
                  go_wp2_with fail
                  go_meet
                  exact ⟨L, by omega, HP2.out, HB2.out⟩
          case rest =>
            as_aux_lemma =>
              obtain ⟨T, hT, hp, hb⟩ := hcut
              obtain ⟨M, m1, m2, m3, m4⟩ := hp
              have HC := Lib.hid (tells_walk M w.heap.size p u4 T key id wt _ m1 m2 HWF.out)
              have HPM : Hid (Play w.heap.size wc p u4 T) := Lib.hid ⟨M, m1, m2, m3, m4⟩
              have HBM := Lib.hid hb
              clear m1 m2 m3 m4 hb
              go_wp2_with (go_at_call 17; (with_reducible refine HC.out.mono ?_); rintro e w5 ⟨rfl, ho⟩; have HP5 := Lib.hid (HPM.out.later ho); have HB5 := Lib.hid (HBM.out.trans (ho.below HBM.out.size (fun _ e => e.elim))); clear ho)
              go_roundw
              case rel => exact ⟨j + 1, _, by go_num, by omega, hT, HP5.out, HB5.out⟩
              case measure => simp [intOf]; omega
    · have e : j = recs.length := by omega
      subst e
      go_wp2_with fail
      go_ret
      exact ⟨rfl, HB.out⟩
end Go.Proofs.Ytbfnaejfmpnkbaa
