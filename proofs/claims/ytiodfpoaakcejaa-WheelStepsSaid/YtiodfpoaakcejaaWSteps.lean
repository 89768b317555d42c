/- The walk of WheelSteps. -/
import Derived.Test.YtiodfpoaakcejaaTwoW
import Derived.Test.YtiodfpoaakcejaaAppend
namespace Go.Proofs.Ytiodfpoaakcejaa.Wh
open Go.ChangeShapes Go.WideShapes Go.ChangeAt Go.RowKit Go.Maps
open Go.Proofs.Ytiodfpoaakcejaa.Hp
set_option linter.unusedVariables false

/-- Where WheelSteps stands: so many ticks have gone, G have gone in their order, R are left; the other wheel is as it was. -/
structure Stepping (B C D p q : Nat) (a : Int) (S : Timers) (now : Int) (G R : Timers) (v : Value) (w : World) : Prop where
  two : TwoW B C D p q (a + now) a R S w
  row : Ints w D v (idsOf G)
  same : ∀ t, a + now ≤ t → G ++ goers R t = goers S t ∧ stay R t = stay S t
  sub : ∀ r ∈ R, r ∈ S
  after : 0 < now → ∀ r ∈ R, a + now < r.2

section
variable {B C D p q : Nat} {a : Int} {S : Timers} {now r : Int} {G R : Timers} {v v' : Value} {w w' w2 : World}

theorem stepping_zero (h : TwoW B C D p q a a S S w) : Stepping B C D p q a S 0 [] S (.slice none 0 0) w :=
  ⟨by rw [Int.add_zero]; exact h, ints_nil w D, fun t _ => ⟨rfl, rfl⟩, fun _ h => h, fun h => absurd h (by omega)⟩

theorem Stepping.len (h : Stepping B C D p q a S now G R v w) (t : Int) (ht : a + now ≤ t) : G.length + (goers R t).length ≤ S.length := by
  have h1 := congrArg List.length (h.same t ht).1
  rw [List.length_append] at h1
  have := goers_len S t
  omega

/-- What a step has answered, and what is known then. -/
structure Stept (B C D p q : Nat) (a : Int) (S : Timers) (now t : Int) (G R : Timers) (v v2 : Value) (w : World) : Prop where
  two : TwoW B C D p q t a (stay R t) S w
  row : Ints w D v (idsOf G)
  new : Ints w D v2 (idsOf (goers R t))

theorem Stepping.step {t : Int} {v2 : Value} (h : Stepping B C D p q a S now G R v w) (hw : WheelAt (fun k => B ≤ k ∧ k < C) w' p t (stay R t)) (hO : Only (fun k => B ≤ k ∧ k < C) w w') (hr : Ints w' w.heap.size v2 (idsOf (goers R t))) : Stept B C D p q a S now t G R v v2 w' :=
  ⟨h.two.stepOne hw hO, h.two.rowOne h.row (Nat.le_refl _) hO, hr.base h.two.size⟩

theorem Stept.only {t : Int} {v2 : Value} {w0 : World} (hs : Stept B C D p q a S now t G R v v2 w) (hB : w0.heap.size ≤ B) (h0 : Only (fun _ => False) w0 w) (hO : Only (fun k => v.ownBlock = some k) w w') : Only (fun _ => False) w0 w' :=
  only_above h0 hO (fun k e => by have := (hs.row.block e).1; have := hs.two.bc; have := hs.two.cd; omega)

theorem Stepping.next {t n2 : Int} {v2 : Value} (h : Stepping B C D p q a S now G R v w) (hs : Stept B C D p q a S now t G R v v2 w') (ht : t = a + n2) (hn : now ≤ n2) (hr : Ints w2 D v' (idsOf G ++ idsOf (goers R t))) (hO : Only (fun k => v.ownBlock = some k) w' w2) :
    Stepping B C D p q a S n2 (G ++ goers R t) (stay R t) v' w2 := by
  subst ht
  have hb : ∀ k, v.ownBlock = some k → D ≤ k := fun k hk => (hs.row.block hk).1
  have hc := hs.two.bc
  have hd := hs.two.cd
  refine ⟨⟨hs.two.one.keep hO (fun k _ e f => by have := hb k f; omega), hs.two.two.keep hO (fun k _ e f => by have := hb k f; omega), hc, hd, Nat.le_trans hs.two.size hO.size⟩, by simpa [idsOf] using hr, fun u hu => ?_, fun r hr => h.sub r (mem_stay.1 hr).1, fun _ r hr => (mem_stay.1 hr).2⟩
  have g1 := goers_two (S := R) hu
  have g2 := h.same u (by omega)
  exact ⟨by rw [List.append_assoc, ← g1.1]; exact g2.1, g1.2.trans g2.2⟩

/-- When no time has passed, all that has gone is what one step would have answered. -/
theorem Stepping.closed (h : Stepping B C D p q a S now G R v w) (h5 : Stepping B C D p q a S now (G ++ goers R (a + now)) (stay R (a + now)) v' w2) :
    TwoW B C D p q (a + now) a (stay S (a + now)) S w2 ∧ Ints w2 D v' (idsOf (goers S (a + now))) := by
  have := h.same (a + now) (Int.le_refl _)
  have h1 := h5.two
  have h2 := h5.row
  rw [this.2] at h1
  rw [this.1] at h2
  exact ⟨h1, h2⟩

/-- An id that a step has answered is one of the law's, and its time has just come. -/
theorem Stepping.just {t : Int} {xs : List Int} (h : Stepping B C D p q a (timersOf a xs xs.length) now G R v w) (j : Nat) (hj : j < (goers R t).length) :
    ∃ i : Nat, i < xs.length ∧ (idsOf (goers R t)).getD j 0 = i ∧ a + restOf (xs.getD i 0) 5000 ≤ t ∧ (0 < now → now < restOf (xs.getD i 0) 5000) := by
  have hm : (goers R t)[j] ∈ goers R t := List.getElem_mem hj
  obtain ⟨h1, h2⟩ := mem_goers.1 hm
  have h3 := h.sub _ h1
  obtain ⟨i, hi, he⟩ := List.mem_map.1 h3
  simp only [List.mem_range] at hi
  refine ⟨i, hi, ?_, ?_, fun hn => ?_⟩
  · simp [idsOf, List.getD, hj, ← he]
  · rw [← he] at h2; exact h2
  · have := h.after hn _ h1
    rw [← he] at this
    simp only at this; omega
end

set_option maxRecDepth 100000 in
set_option maxHeartbeats 2000000 in
theorem steps_start (a : Int) (ad : Option Addr) (len cap : Nat) (zs : List Int) (ad2 : Option Addr) (len2 cap2 : Nat) (zs2 : List Int) (w : World) (ha : (Lit.int .u32 a).wf = true) (h : IsRow .i64 w ad len cap zs) (h2 : IsRow .i64 w ad2 len2 cap2 zs2) :
    Calls Try.prog 5 #[.int .u32 a, .slice ad len cap, .slice ad2 len2 cap2] w fun e w' => e = .returned (.bool true) ∧ Below w.heap.size w w' := by
  obtain ⟨xs, hxl, hx, hc1, hc2⟩ := nums_cut h 100
  obtain ⟨ys, hyl, hy, hd1, hd2⟩ := nums_cut h2 50
  obtain ⟨a0, a1⟩ := u32_bd ha
  have HX := Lib.hid hx
  have HXL := Lib.hid hxl
  have HY := Lib.hid hy
  have HYL := Lib.hid hyl
  have hx2 : xs.length ≤ 100 := by omega
  have hy2 : ys.length ≤ 50 := by omega
  clear h hx hxl ha h2 hy hyl
  go_enter Try.func5, Try.ntmps5
  go_upto_region 3 with (go_at_call 21; refine (begun_any _).mono ?_; rintro e w1 ⟨rfl, hO⟩; have HO1 := Lib.hid hO; clear hO)
  go_cut [1] (fun s1 wx => s1 = .slice ad xs.length cap ∧ wx = w1)
  case first =>
    have HE := HXL.out
    rcases Nat.lt_or_ge 100 len with h200 | h200
    rotate_left
    · have h201 : (len : Int) ≤ 100 := by omega
      rw [Nat.min_eq_left (by omega)] at HE
      clear HX HXL
      have HE := Lib.hid HE
      go_wp2
      go_meet
      exact ⟨by rw [HE.out], rfl⟩
    · have h201 : (100 : Int) < len := by omega
      rw [Nat.min_eq_right (by omega)] at HE
      clear HX HXL
      have HE := Lib.hid HE
      go_wp2
      go_meet
      exact ⟨by rw [HE.out], rfl⟩
  case rest =>
    obtain ⟨rfl, rfl⟩ := hcut
    generalize wc = w1 at *
    have HX1 := Lib.hid (HX.out.later HO1.out)
    clear HXL hc1 hc2
    go_upto_region 10 with (first
      | (go_at_call 22; refine (timers_any _ xs a _ a0 a1 HX1.out (by omega)).mono ?_; rintro e w2 ⟨p, rfl, hw, hO⟩; have HW := Lib.hid hw.there; have HO2 := Lib.hid hO; have HX2 := Lib.hid (HX1.out.later hO); clear hw hO HX1)
      | (go_at_call 22; refine (timers_any _ xs a _ a0 a1 HX2.out (by omega)).mono ?_; rintro e w3 ⟨q, rfl, hw, hO⟩; have HT := Lib.hid (twoW_made HW.out HO2.out.size hw.there hO); have HO3 := Lib.hid (HO2.out.trans hO (fun _ _ e => e)); clear hw hO HW HO2 HX2))
    go_cut [58, 59, 60] (fun s58 s59 s60 wx => s58 = .slice ad2 ys.length cap2 ∧ s59 = .int .i64 ys.length ∧ s60 = .int .i64 0 ∧ wx = w3)
    case first =>
      have HE := HYL.out
      rcases Nat.lt_or_ge 50 len2 with h200 | h200
      rotate_left
      · have h201 : (len2 : Int) ≤ 50 := by omega
        rw [Nat.min_eq_left (by omega)] at HE
        clear HY HYL
        have HE := Lib.hid HE
        go_wp2
        go_meet
        exact ⟨by rw [HE.out], by rw [HE.out], rfl, rfl⟩
      · have h201 : (50 : Int) < len2 := by omega
        rw [Nat.min_eq_right (by omega)] at HE
        clear HY HYL
        have HE := Lib.hid HE
        go_wp2
        go_meet
        exact ⟨by rw [HE.out], by rw [HE.out]; rfl, rfl, rfl⟩
    case rest =>
      obtain ⟨rfl, rfl, rfl, rfl⟩ := hcut
      have HS0 := Lib.hid (stepping_zero HT.out)
      have HB := Lib.hid (show Only (fun _ => False) w wc from HO1.out.trans HO3.out (fun _ _ e => e))
      have HC := Lib.hid HO1.out.size
      generalize w1.heap.size = B at *
      generalize w2.heap.size = C at *
      generalize wc.heap.size = D at *
      clear HT HO1 HO3 HYL hd1 hd2
      go_wp2_with fail
      go_loopw [11, 12, 60] (fun s11 s12 s60 wr => ∃ (k : Nat) (now : Int) (G R : Timers), s12 = .int .i64 now ∧ s60 = .int .i64 k ∧ k ≤ ys.length ∧ 0 ≤ now ∧ now ≤ 1000 * k ∧ Stepping B C D p q a (timersOf a xs xs.length) now G R s11 wr ∧ Only (fun _ => False) w wr) (fun _ _ s60 _ => ys.length - (intOf s60).toNat)
      case atStart => exact ⟨0, 0, [], _, rfl, rfl, Nat.zero_le _, by omega, by omega, HS0.out, HB.out⟩
      case round =>
        obtain ⟨k, now, G, R, rfl, rfl, hk, hn0, hn1, hS, hO⟩ := hrel
        rename_i v0 _ _
        have HS := Lib.hid hS
        have HO := Lib.hid hO
        have hp1 := hS.two.one.past
        have hgl := hS.len (a + now) (by omega)
        rw [timersOf_len] at hgl
        clear hS hO HB HS0
        by_cases hlt : k < ys.length
        · obtain ⟨a3, c3, he3, hc3⟩ := HY.out
          cases he3
          obtain ⟨b, off, rfl, hcell⟩ := hc3 k hlt
          have d0 : wr.cell? ⟨b, off + k, none⟩ = some (.int .i64 (ys.getD k 0)) := by
            rw [← hcell]; unfold World.cell?; rw [HO.out.block b (block_lt hcell) (fun e => e)]
          clear hcell
          have g1 : (k : Int) < ys.length := by omega
          have g2 : (0 : Int) ≤ k := by omega
          generalize ys.getD k 0 = y at *
          have r0 := restOf_lo y 1000 (by omega)
          have r1 := restOf_hi y 1000 (by omega)
          obtain ⟨r, hr⟩ : ∃ r, restOf y 1000 = r := ⟨_, rfl⟩
          have HRR := Lib.hid hr
          rw [hr] at r0 r1
          clear hr
          obtain ⟨n4, hn4⟩ : ∃ n4, (goers R (a + (now + r))).length = n4 := ⟨_, rfl⟩
          have hn5 : n4 ≤ 100 := by have := HS.out.len (a + (now + r)) (by omega); rw [timersOf_len, hn4] at this; omega
          have HN4 := Lib.hid hn4
          clear hn4
          go_wp2_with (first
            | (go_at_call 23; go_must (have hc := rest_any y 1000 (by omega) (by omega) wr; rw [HRR.out] at hc); (with_reducible refine hc.mono ?_); clear hc; rintro e w4 ⟨rfl, rfl⟩)
            | (go_at_call 17; go_loud (have hc := wstep_to (a + (now + r)) ((a + (now + r)) % 4294967296) HS.out.two.one HS.out.two.thereOne rfl (by omega) (by omega) (by omega)); go_loud (with_reducible refine hc.mono ?_); clear hc; intro e w4 hs; obtain ⟨a4, c4, rfl, hrow, hw, hO4⟩ := hs.open HN4.out; have HS4 := Lib.hid (HS.out.step hw hO4 hrow); have HO4 := Lib.hid (HS.out.two.onlyOne HC.out HO.out hO4); clear hrow hw hO4 hs))
          go_loop [82] (fun s82 => ∃ j : Nat, j ≤ n4 ∧ s82 = .int .i64 j) (fun s82 => n4 - (intOf s82).toNat)
          case atStart => exact ⟨0, Nat.zero_le _, rfl⟩
          case round =>
            obtain ⟨j, hj, rfl⟩ := hrel
            by_cases hjl : j < n4
            · obtain ⟨i, hi, hid, hr1, hr2⟩ := HS.out.just (t := a + (now + r)) j (by rw [HN4.out]; exact hjl)
              obtain ⟨b4, off4, rfl, -, hcell⟩ := HS4.out.new.nums.at (j := j) (by simpa using (show j < (goers R (a + (now + r))).length by rw [HN4.out]; exact hjl))
              have d1 : w4.cell? ⟨b4, off4 + j, none⟩ = some (.int .i64 i) := by rw [hcell, hid]
              obtain ⟨b6, off6, rfl, -, hcell6⟩ := HX.out.at hi
              have d2 : w4.cell? ⟨b6, off6 + i, none⟩ = some (.int .i64 (xs.getD i 0)) := by
                rw [← hcell6]; unfold World.cell?; rw [HO4.out.block b6 (block_lt hcell6) (fun e => e)]
              clear hcell hcell6 hid
              generalize xs.getD i 0 = x at *
              have j1 : (j : Int) < n4 := by omega
              have j2 : (0 : Int) ≤ j := by omega
              have i1 : (i : Int) < xs.length := by omega
              have i2 : (0 : Int) ≤ i := by omega
              have q1 : restOf x 5000 ≤ now + r := by omega
              by_cases hnow : 0 < now
              · have q2 := hr2 hnow
                clear hr1 hr2
                go_wp2_with (go_at_call 23; go_must (have hc := rest_any x 5000 (by omega) (by omega) w4); (with_reducible refine hc.mono ?_); clear hc; rintro e w5 ⟨rfl, rfl⟩)
                go_round
                case rel => exact ⟨j + 1, by omega, by go_num⟩
                case measure => simp [intOf]; omega
              · clear hr1 hr2
                by_cases q3 : restOf x 5000 ≤ now
                all_goals
                  go_wp2_with (go_at_call 23; go_must (have hc := rest_any x 5000 (by omega) (by omega) w4); (with_reducible refine hc.mono ?_); clear hc; rintro e w5 ⟨rfl, rfl⟩)
                  go_round
                  case rel => exact ⟨j + 1, by omega, by go_num⟩
                  case measure => simp [intOf]; omega
            · have HR := Lib.hid HS4.out.row
              have HNW := Lib.hid HS4.out.new
              have HL := Lib.hid (show (idsOf G).length + (idsOf (goers R (a + (now + r)))).length ≤ 17000000000000 by simp only [idsOf, List.length_map, HN4.out]; omega)
              have HZ := Lib.hid HS4.out.two.size
              go_wp2_with (at_builtin; go_must (refine append_nums rfl _ _ rfl D _ _ (idsOf G) (idsOf (goers R (a + (now + r)))) rfl rfl HR.out HNW.out.nums HNW.out.nil_cap HL.out HZ.out ?_); go_must (intro v5 w5 hr5 hO5); have HS5 := Lib.hid (HS.out.next (n2 := now + r) HS4.out rfl (by omega) hr5 hO5); have HO5 := Lib.hid (HS4.out.only HC.out HO4.out hO5); clear hr5 hO5)
              go_roundw
              case rel => exact ⟨k + 1, now + r, _, _, rfl, by go_num, by omega, by omega, by omega, HS5.out, HO5.out⟩
              case measure => simp [intOf]; omega
        · have hlen := goers_len (timersOf a xs xs.length) (a + now)
          rw [timersOf_len] at hlen
          have HL := Lib.hid (show (idsOf G).length + (idsOf (goers R (a + now))).length ≤ 17000000000000 by simp only [idsOf, List.length_map]; omega)
          cases hR : stay (timersOf a xs xs.length) (a + now) with
          | nil =>
            have HN7 := Lib.hid (show (goers (timersOf a xs xs.length) (a + now)).length = xs.length by rw [hR] at hlen; simpa using hlen)
            have HRN := Lib.hid hR
            clear hR hlen hgl
            go_wp2_with (first
              | (go_at_call 17; go_must (have hc := wstep_to (a + now) ((a + now) % 4294967296) HS.out.two.one HS.out.two.thereOne rfl (by omega) (by omega) (by omega)); (with_reducible refine hc.mono ?_); clear hc; rintro e w4 ⟨v4, rfl, hrow, hw, hO4⟩; have HS4 := Lib.hid (HS.out.step hw hO4 hrow); have HO4 := Lib.hid (HS.out.two.onlyOne HC.out HO.out hO4); have HR4 := Lib.hid HS4.out.row; have HNW := Lib.hid HS4.out.new; have HZ := Lib.hid HS4.out.two.size; clear hrow hw hO4)
              | (at_builtin; go_must (refine append_nums rfl _ _ rfl D _ _ (idsOf G) (idsOf (goers R (a + now))) rfl rfl HR4.out HNW.out.nums HNW.out.nil_cap HL.out HZ.out ?_); go_must (intro v5 w5 hr5 hO5); have HS5 := Lib.hid (HS.out.next (n2 := now) HS4.out rfl (by omega) hr5 hO5); have HO5 := Lib.hid (HS4.out.only HC.out HO4.out hO5); have HQ5 := Lib.hid (HS.out.closed HS5.out); clear hr5 hO5)
              | (go_at_call 17; go_must (have hc := wstep_to (a + now) ((a + now) % 4294967296) HS5.out.two.two HS5.out.two.thereTwo rfl (by omega) (by omega) (by omega)); (with_reducible refine hc.mono ?_); clear hc; intro e w6 hs; obtain ⟨a6, c6, rfl, hrow, hw, hO6⟩ := hs.open HN7.out; have HT6 := Lib.hid (HQ5.out.1.stepTwo hw hO6); have HA6 := Lib.hid (HQ5.out.1.rowTwo HQ5.out.2 (Nat.le_refl _) hO6); have HP6 := Lib.hid hrow; have HO6 := Lib.hid (HQ5.out.1.onlyTwo HC.out HO5.out hO6); clear hrow hw hO6 hs)
              | (go_at_call 20; go_must (have h5 := HT6.out.one; rw [HRN.out] at h5; have hc := wnext_none h5); (with_reducible refine hc.mono ?_); clear hc h5; rintro e w7 ⟨rfl, rfl⟩)
              | (go_at_call 20; go_must (have h5 := HT6.out.two; rw [HRN.out] at h5; have hc := wnext_none h5); (with_reducible refine hc.mono ?_); clear hc h5; rintro e w7 ⟨rfl, rfl⟩)
              | (go_at_call 19; go_must (have hc := eq_same v5 _ (idsOf (goers (timersOf a xs xs.length) (a + now))) w6 HA6.out.nums HP6.out.nums (by simp only [idsOf, List.length_map, HN7.out]; omega)); (with_reducible refine hc.mono ?_); clear hc; rintro e w8 ⟨rfl, hO8⟩; have HO8 := Lib.hid (HO6.out.trans hO8 (fun _ _ e => e)); clear hO8))
            go_ret
            exact ⟨rfl, HO8.out.below (Nat.le_refl _) (fun _ e => e.elim)⟩
          | cons r1 R1 =>
            have hpos : 0 < (stay (timersOf a xs xs.length) (a + now)).length := by rw [hR]; simp
            have HNE := Lib.hid (List.length_pos_iff.1 hpos)
            obtain ⟨n7, hn7⟩ : ∃ n7, (goers (timersOf a xs xs.length) (a + now)).length = n7 := ⟨_, rfl⟩
            have hn8 : ((n7 : Int) == (xs.length : Int)) = false := by rw [beq_eq_false_iff_ne]; omega
            have hn9 : n7 ≤ 100 := by omega
            have HN7 := Lib.hid hn7
            obtain ⟨m, hm⟩ := least_any HNE.out
            have HM := Lib.hid hm
            clear hR hlen hgl hm hn7 hpos
            go_wp2_with (first
              | (go_at_call 17; go_must (have hc := wstep_to (a + now) ((a + now) % 4294967296) HS.out.two.one HS.out.two.thereOne rfl (by omega) (by omega) (by omega)); (with_reducible refine hc.mono ?_); clear hc; rintro e w4 ⟨v4, rfl, hrow, hw, hO4⟩; have HS4 := Lib.hid (HS.out.step hw hO4 hrow); have HO4 := Lib.hid (HS.out.two.onlyOne HC.out HO.out hO4); have HR4 := Lib.hid HS4.out.row; have HNW := Lib.hid HS4.out.new; have HZ := Lib.hid HS4.out.two.size; clear hrow hw hO4)
              | (at_builtin; go_must (refine append_nums rfl _ _ rfl D _ _ (idsOf G) (idsOf (goers R (a + now))) rfl rfl HR4.out HNW.out.nums HNW.out.nil_cap HL.out HZ.out ?_); go_must (intro v5 w5 hr5 hO5); have HS5 := Lib.hid (HS.out.next (n2 := now) HS4.out rfl (by omega) hr5 hO5); have HO5 := Lib.hid (HS4.out.only HC.out HO4.out hO5); have HQ5 := Lib.hid (HS.out.closed HS5.out); clear hr5 hO5)
              | (go_at_call 17; go_must (have hc := wstep_to (a + now) ((a + now) % 4294967296) HS5.out.two.two HS5.out.two.thereTwo rfl (by omega) (by omega) (by omega)); (with_reducible refine hc.mono ?_); clear hc; intro e w6 hs; obtain ⟨a6, c6, rfl, hrow, hw, hO6⟩ := hs.open HN7.out; have HT6 := Lib.hid (HQ5.out.1.stepTwo hw hO6); have HA6 := Lib.hid (HQ5.out.1.rowTwo HQ5.out.2 (Nat.le_refl _) hO6); have HP6 := Lib.hid hrow; have HO6 := Lib.hid (HQ5.out.1.onlyTwo HC.out HO5.out hO6); clear hrow hw hO6 hs)
              | (go_at_call 20; go_must (have hc := wnext HT6.out.one HM.out); (with_reducible refine hc.mono ?_); clear hc; rintro e w7 ⟨rfl, hO7⟩; have HT7 := Lib.hid (HT6.out.later hO7); have HA7 := Lib.hid (HA6.out.later hO7); have HP7 := Lib.hid (HP6.out.later hO7); have HO7 := Lib.hid (HO6.out.trans hO7 (fun _ _ e => e)); clear hO7)
              | (go_at_call 20; go_must (have hc := wnext HT7.out.two HM.out); (with_reducible refine hc.mono ?_); clear hc; rintro e w7 ⟨rfl, hO7⟩; have HA8 := Lib.hid (HA7.out.later hO7); have HP8 := Lib.hid (HP7.out.later hO7); have HO8 := Lib.hid (HO7.out.trans hO7 (fun _ _ e => e)); clear hO7)
              | (go_at_call 19; go_must (have hc := eq_same v5 _ (idsOf (goers (timersOf a xs xs.length) (a + now))) w7 HA8.out.nums HP8.out.nums (by simp only [idsOf, List.length_map, HN7.out]; omega)); (with_reducible refine hc.mono ?_); clear hc; rintro e w8 ⟨rfl, hO8⟩; have HO9 := Lib.hid (HO8.out.trans hO8 (fun _ _ e => e)); clear hO8))
            go_ret
            exact ⟨rfl, HO9.out.below (Nat.le_refl _) (fun _ e => e.elim)⟩
end Go.Proofs.Ytiodfpoaakcejaa.Wh
