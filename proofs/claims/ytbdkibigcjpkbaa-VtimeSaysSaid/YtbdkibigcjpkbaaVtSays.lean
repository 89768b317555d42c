/- The walk of VtimeSays. -/
import Derived.Test.YtbdkibigcjpkbaaVtLag
namespace Go.Proofs.Ytbdkibigcjpkbaa.Vt
open Go.ChangeShapes Go.WideShapes Go.ChangeAt Go.RowKit
set_option linter.unusedVariables false

def costAll (x : Int) : Int × Int := if isW x = true then (costOf x, 0) else (0, 1)
def afterAll (v x t : Int) : Int × Int := if afterBad v x t = true then (0, 1) else (v + t * costOf x, 0)
def lagAll (ws ts : List Int) (i : Int) : Int × Int := if 16 < ws.length ∨ 16 < ts.length then (0, 2) else if ws.length ≠ ts.length then (0, 3) else lagAns ws ts i

/-- A number and an error were answered, and nothing else. -/
def PairSame (x : Int × Int) (w : World) (e : Ending) (w' : World) : Prop := e = .returned (.tuple #[.int .i64 x.1, .int .i64 x.2]) ∧ w = w'

theorem cost_any (x : Int) (w : World) : Calls Try.prog 6 #[.int .i64 x] w (PairSame (costAll x) w) := by
  unfold costAll
  split
  · exact (cost_yes x w (by assumption)).mono fun _ _ h => h
  · exact (cost_no x w (Bool.eq_false_iff.2 (by assumption))).mono fun _ _ h => h

theorem after_any (v x t : Int) (w : World) : Calls Try.prog 7 #[.int .i64 v, .int .i64 x, .int .i64 t] w (PairSame (afterAll v x t) w) := by
  unfold afterAll
  split
  · exact (after_no v x t w (by assumption)).mono fun _ _ h => h
  · rename_i h
    have h' := Bool.eq_false_iff.2 h
    simp only [afterBad, Bool.or_eq_false_iff, Bool.not_eq_false', decide_eq_false_iff_not] at h'
    exact (after_yes v x t w h'.1.1.1 h'.2 (by omega) (by omega)).mono fun _ _ h => h

theorem cost_3 (w : World) : Calls Try.prog 6 #[.int .i64 3] w fun e w' => e = .returned (.tuple #[.int .i64 349525, .int .i64 0]) ∧ w = w' := by
  have := cost_yes 3 w (by decide)
  rwa [show costOf 3 = 349525 by decide] at this

theorem cost_bad {x c e : Int} (h : costAll x = (c, e)) (hx : isW x = false) : c = 0 ∧ e = 1 := by
  unfold costAll at h; rw [hx] at h; simp at h; omega
theorem cost_good {x c e : Int} (h : costAll x = (c, e)) (hx : isW x = true) : c = costOf x ∧ e = 0 := by
  unfold costAll at h; rw [hx] at h; simp at h; omega
theorem after_bad {v x t a e : Int} (h : afterAll v x t = (a, e)) (hx : afterBad v x t = true) : a = 0 ∧ e = 1 := by
  unfold afterAll at h; rw [hx] at h; simp at h; omega
theorem after_good {v x t a e : Int} (h : afterAll v x t = (a, e)) (hx : afterBad v x t = false) : a = v + t * costOf x ∧ e = 0 := by
  unfold afterAll at h; rw [hx] at h; simp at h; omega

theorem lag_all (v v' : Value) (ws ts : List Int) (i : Int) (w : World) (h : Nums w v ws) (h' : Nums w v' ts) (hl : ws.length ≤ 9223372036854775807) (hl' : ts.length ≤ 9223372036854775807) :
    Calls Try.prog 8 #[v, v', .int .i64 i] w (PairOnly (lagAll ws ts i) w) := by
  unfold lagAll
  split
  · exact lag_large v v' ws ts i w h h' hl hl' (by assumption)
  · split
    · exact lag_form v v' ws ts i w h h' (by omega) (by omega) (by assumption)
    · exact lag_any v v' ws ts i ws.length w h h' rfl (by omega) (by omega)

theorem within_any (x a b : Int) (w : World) :
    Calls Try.prog 15 #[.int .i64 x, .int .i64 a, .int .i64 b] w fun e w' => e = .returned (.bool (decide (a ≤ x ∧ x ≤ b))) ∧ w = w' := by
  by_cases h1 : a ≤ x
  · by_cases h2 : x ≤ b
    · rw [decide_eq_true (p := a ≤ x ∧ x ≤ b) ⟨h1, h2⟩]
      go_enter Try.func15, Try.ntmps15
      go_wp2
      go_ret
      exact ⟨rfl, rfl⟩
    · rw [decide_eq_false (p := a ≤ x ∧ x ≤ b) (by omega)]
      go_enter Try.func15, Try.ntmps15
      go_wp2
      go_ret
      exact ⟨rfl, rfl⟩
  · rw [decide_eq_false (p := a ≤ x ∧ x ≤ b) (by omega)]
    go_enter Try.func15, Try.ntmps15
    go_wp2
    go_ret
    exact ⟨rfl, rfl⟩

theorem ref_weight (x : Int) (w : World) : Calls Try.prog 9 #[.int .i64 x] w fun e w' => e = .returned (.bool (isW x)) ∧ w = w' := by
  have c := Lib.hid (within_any x 1 100 w)
  unfold isW
  generalize decide (1 ≤ x ∧ x ≤ 100) = b at *
  go_enter Try.func9, Try.ntmps9
  go_wp2_with (go_at_call 15; (with_reducible refine c.out.mono ?_); rintro e w' ⟨rfl, rfl⟩)
  go_ret
  exact ⟨rfl, rfl⟩

theorem ref_cost (x : Int) (w : World) (h : isW x = true) : Calls Try.prog 10 #[.int .i64 x] w fun e w' => e = .returned (.int .i64 (costOf x)) ∧ w = w' := by
  obtain ⟨h1, h2⟩ := isW_yes h
  obtain ⟨c0, c1⟩ := costOf_bd h
  unfold costOf at *
  clear h
  go_enter Try.func10, Try.ntmps10
  go_wp2
  go_ret
  exact ⟨rfl, rfl⟩

set_option maxHeartbeats 2000000 in
set_option maxRecDepth 100000 in
theorem says_any (v x t i : Int) (ad ad' : Option Addr) (m m' cap cap' : Nat) (ws ts : List Int) (w : World) (h : Nums w (.slice ad m cap) ws) (h' : Nums w (.slice ad' m' cap') ts) (hm : ws.length = m) (hm' : ts.length = m')
    (hl : m ≤ 9223372036854775807) (hl' : m' ≤ 9223372036854775807)  :
    Calls Try.prog 3 #[.int .i64 v, .int .i64 x, .int .i64 t, .slice ad m cap, .slice ad' m' cap', .int .i64 i] w (fun e w' => e = .returned (.bool true) ∧ Only (fun _ => False) w w') := by
  obtain ⟨⟨c, e1⟩, hc⟩ : ∃ p, costAll x = p := ⟨_, rfl⟩
  obtain ⟨⟨a, e2⟩, ha⟩ : ∃ p, afterAll v x t = p := ⟨_, rfl⟩
  obtain ⟨⟨n, e3⟩, hn⟩ : ∃ p, lagAll ws ts i = p := ⟨_, rfl⟩
  have K1 := Lib.hid (cost_any x w)
  have K2 := Lib.hid (after_any v x t w)
  have K3 := Lib.hid (lag_all _ _ ws ts i w h h' (by rw [hm]; exact hl) (by rw [hm']; exact hl'))
  rw [hc] at K1
  rw [ha] at K2
  rw [hn] at K3
  have HC := Lib.hid hc
  have HA := Lib.hid ha
  have HN := Lib.hid hn
  have HM := Lib.hid hm
  have HM' := Lib.hid hm'
  have H := Lib.hid h
  have H' := Lib.hid h'
  clear hc ha hn hm hm' h h'
  go_enter Try.func3, Try.ntmps3
  go_upto_if 56 with (first
    | (go_at_call 6; (with_reducible refine K1.out.mono ?_); rintro e w' ⟨rfl, rfl⟩)
    | (go_at_call 6; (with_reducible refine (cost_3 _).mono ?_); rintro e w' ⟨rfl, rfl⟩)
    | (go_at_call 7; (with_reducible refine K2.out.mono ?_); rintro e w' ⟨rfl, rfl⟩)
    | (go_at_call 8; (with_reducible refine K3.out.mono ?_); rintro e w1 ⟨rfl, hO⟩; have HO := Lib.hid hO; clear hO)
    | (go_at_call 9; (with_reducible refine (ref_weight _ _).mono ?_); rintro e w' ⟨rfl, rfl⟩))
  go_cut [17] (fun s17 wx => s17 = .int .i64 n ∧ wx = w1)
  case first =>
    cases hx : isW x with
    | false =>
      obtain ⟨rfl, rfl⟩ := cost_bad HC.out hx
      obtain ⟨rfl, rfl⟩ := after_bad HA.out (by unfold afterBad; rw [hx]; rfl)
      clear hx
      go_wp2_with fail
      go_meet
      case rel => exact ⟨rfl, rfl⟩
    | true =>
      obtain ⟨rfl, rfl⟩ := cost_good HC.out hx
      have HX := Lib.hid hx
      have hcb := costOf_bd hx
      have RC := Lib.hid (ref_cost x w1 hx)
      cases hb : afterBad v x t with
      | true =>
        obtain ⟨rfl, rfl⟩ := after_bad HA.out hb
        have hb2 : v < 0 ∨ 1152921504606846976 < v ∨ t < 0 ∨ 1073741824 < t := by
          unfold afterBad at hb
          rw [hx] at hb
          simp only [Bool.not_true, Bool.false_or, Bool.or_eq_true, decide_eq_true_eq, Bool.not_eq_true'] at hb
          rcases hb with (hb | hb) | hb
          · exact Or.inl hb
          · exact Or.inr (Or.inl hb)
          · have := isT_no hb; omega
        clear hx hb
        generalize costOf x = c at *
        by_cases q1 : v < 0
        · clear hb2
          go_wp2_with (go_at_call 10; (with_reducible refine RC.out.mono ?_); rintro e w' ⟨rfl, rfl⟩)
          go_meet
          case rel => exact ⟨rfl, rfl⟩
        · by_cases q2 : 1152921504606846976 < v
          · clear hb2
            go_wp2_with (go_at_call 10; (with_reducible refine RC.out.mono ?_); rintro e w' ⟨rfl, rfl⟩)
            go_meet
            case rel => exact ⟨rfl, rfl⟩
          · by_cases q3 : t < 0
            · clear hb2
              go_wp2_with (go_at_call 10; (with_reducible refine RC.out.mono ?_); rintro e w' ⟨rfl, rfl⟩)
              go_meet
              case rel => exact ⟨rfl, rfl⟩
            · have q4 : 1073741824 < t := by omega
              clear hb2
              go_wp2_with (go_at_call 10; (with_reducible refine RC.out.mono ?_); rintro e w' ⟨rfl, rfl⟩)
              go_meet
              case rel => exact ⟨rfl, rfl⟩
      | false =>
        obtain ⟨rfl, rfl⟩ := after_good HA.out hb
        simp only [afterBad, Bool.or_eq_false_iff, Bool.not_eq_false', decide_eq_false_iff_not] at hb
        obtain ⟨⟨⟨hb0, hb1⟩, hb2⟩, hb3⟩ := hb
        have hp := prod_bd hx hb3
        have ht := isT_yes hb3
        clear hx hb3 hb0
        generalize costOf x = c at *
        go_wp2_with (go_at_call 10; (with_reducible refine RC.out.mono ?_); rintro e w' ⟨rfl, rfl⟩)
        go_meet
        case rel => exact ⟨rfl, rfl⟩
  case rest =>
    obtain ⟨rfl, rfl⟩ := hcut
    have GN := HN.out
    unfold lagAll at GN
    rw [HM.out, HM'.out] at GN
    by_cases g1 : 16 < m
    · rw [if_pos (Or.inl g1)] at GN
      obtain ⟨rfl, rfl⟩ := GN
      have g2 : (16 : Int) < m := by omega
      clear g1
      go_wp2_with fail
      go_ret
      exact ⟨rfl, HO.out⟩
    · by_cases g2 : 16 < m'
      · rw [if_pos (Or.inr g2)] at GN
        obtain ⟨rfl, rfl⟩ := GN
        have g3 : ¬ (16 : Int) < m := by omega
        have g4 : (16 : Int) < m' := by omega
        clear g1 g2
        go_wp2_with fail
        go_ret
        exact ⟨rfl, HO.out⟩
      · rw [if_neg (by omega)] at GN
        by_cases g3 : m = m'
        · rw [if_neg (by simp [g3])] at GN
          obtain rfl : m = m' := g3
          have HG := Lib.hid GN
          have g4 : ¬ (16 : Int) < m := by omega
          clear g1 g2 GN
          go_wp2_with fail
          go_loopw [21, 22, 23, 24, 112, 135, 136, 137, 138, 139, 140, 141, 142, 143, 144, 145, 146] (fun u s t _ i _ _ _ _ _ _ _ _ _ _ _ _ wr => ∃ k : Nat, k ≤ m ∧ u = .int .i64 0 ∧ i = .int .i64 k ∧ t = .int .i64 (sumTo ws k) ∧ s = .int .i64 (sumTo ts k) ∧ okTo ws ts k ∧ Only (fun _ => False) w wr) (fun _ _ _ _ i _ _ _ _ _ _ _ _ _ _ _ _ _ => m - (intOf i).toNat)
          case atStart => exact ⟨0, Nat.zero_le _, rfl, rfl, rfl, rfl, (fun j hj => absurd hj (Nat.not_lt_zero _)), HO.out⟩
          case round =>
            obtain ⟨k, hk, rfl, rfl, rfl, rfl, hok, hOr⟩ := hrel
            have hb := sumTo_bd hok (by rw [HM.out]; exact hk) (by rw [HM'.out]; exact hk)
            have HK := Lib.hid hok
            have HR := Lib.hid hOr
            clear hok hOr
            by_cases hlt : k < m
            · obtain ⟨b, off, rfl, -, hc⟩ := (H.out.later HR.out).at (show k < ws.length by rw [HM.out]; exact hlt)
              obtain ⟨b', off', rfl, -, hc'⟩ := (H'.out.later HR.out).at (show k < ts.length by rw [HM'.out]; exact hlt)
              have S1 := Lib.hid (sumTo_succ ws k (by rw [HM.out]; exact hlt))
              have S2 := Lib.hid (sumTo_succ ts k (by rw [HM'.out]; exact hlt))
              have hA : Hid (okAt ws ts k = (isW (ws.getD k 0) && isT (ts.getD k 0))) := Lib.hid rfl
              have HF : Hid (okAt ws ts k = false → n = 0 ∧ e3 = 1) := Lib.hid (fun hh => by
                have := HG.out
                unfold lagAns at this
                rw [if_pos (fun h2 => by have := h2 k (by rw [HM.out]; exact hlt); rw [hh] at this; cases this)] at this
                simp at this; omega)
              have W1 := Lib.hid (ref_weight (ws.getD k 0) wr)
              generalize ws.getD k 0 = y at *
              generalize ts.getD k 0 = z at *
              generalize sumTo ws k = s1 at *
              generalize sumTo ts k = s2 at *
              have j1 : (k : Int) < m := by omega
              cases hy : isW y with
              | false =>
                rw [hy] at W1 hA
                obtain ⟨rfl, rfl⟩ := HF.out hA.out
                clear hy
                go_wp2_with (go_at_call 9; (with_reducible refine W1.out.mono ?_); rintro e w' ⟨rfl, rfl⟩)
                go_ret
                exact ⟨rfl, HR.out⟩
              | true =>
                rw [hy] at W1 hA
                have b1 := isW_yes hy
                cases hz : isT z with
                | false =>
                  rw [hz] at hA
                  obtain ⟨rfl, rfl⟩ := HF.out hA.out
                  have b2 := isT_no hz
                  clear hy hz
                  by_cases q : z < 0
                  · clear b2
                    go_wp2_with (go_at_call 9; (with_reducible refine W1.out.mono ?_); rintro e w' ⟨rfl, rfl⟩)
                    go_ret
                    exact ⟨rfl, HR.out⟩
                  · have b3 : 1073741824 < z := by omega
                    clear b2
                    go_wp2_with (go_at_call 9; (with_reducible refine W1.out.mono ?_); rintro e w' ⟨rfl, rfl⟩)
                    go_ret
                    exact ⟨rfl, HR.out⟩
                | true =>
                  rw [hz] at hA
                  have b2 := isT_yes hz
                  have HK2 := Lib.hid (okTo_succ HK.out hA.out)
                  have j2 : ¬ z < 0 := by omega
                  have j3 : ¬ 1073741824 < z := by omega
                  clear hy hz
                  go_wp2_with (go_at_call 9; (with_reducible refine W1.out.mono ?_); rintro e w' ⟨rfl, rfl⟩)
                  have E1 : IntKind.i64.wrap (s2 + z) = s2 + z := IntWalk.i64_in _ (by omega)
                  have E2 : IntKind.i64.wrap (s1 + y) = s1 + y := IntWalk.i64_in _ (by omega)
                  go_quiet (fail)
                  go_wp2_with fail
                  go_roundw
                  case rel => exact ⟨k + 1, by omega, rfl, by go_num, by rw [S1.out], by rw [S2.out], HK2.out, only_drewN HR.out _⟩
                  case measure => simp [intOf]; omega
            · obtain rfl : k = m := by omega
              have e1 : ¬ ¬ (∀ j, j < ws.length → okAt ws ts j = true) := fun hh => hh (by rw [HM.out]; exact HK.out)
              have GN := HG.out
              unfold lagAns at GN
              rw [if_neg e1, HM.out] at GN
              clear e1
              by_cases hi : i < 0
              · rw [if_pos (Or.inl hi)] at GN
                obtain ⟨rfl, rfl⟩ := GN
                go_wp2_with fail
                go_ret
                exact ⟨rfl, HR.out⟩
              · by_cases hi2 : (k : Int) ≤ i
                · rw [if_pos (Or.inr hi2)] at GN
                  obtain ⟨rfl, rfl⟩ := GN
                  go_wp2_with fail
                  go_ret
                  exact ⟨rfl, HR.out⟩
                · rw [if_neg (by omega)] at GN
                  obtain ⟨l, rfl⟩ : ∃ l : Nat, i = l := ⟨i.toNat, by omega⟩
                  have hm : l < k := by omega
                  obtain ⟨b, off, rfl, -, hc⟩ := (H.out.later HR.out).at (show l < ws.length by rw [HM.out]; exact hm)
                  obtain ⟨b', off', rfl, -, hc'⟩ := (H'.out.later HR.out).at (show l < ts.length by rw [HM'.out]; exact hm)
                  have hbd := okAt_bd (HK.out l hm)
                  have HP := lag_prod (s := sumTo ts k) (x := ws.getD l 0) (t := ts.getD l 0) (u := sumTo ws k) (by omega) hbd.1 hbd.2 (by omega)
                  have HL : lagOf ws ts l = ws.getD l 0 * sumTo ts k - sumTo ws k * ts.getD l 0 := by unfold lagOf; rw [HM.out, Int.mul_comm, Int.mul_comm (ts.getD l 0)]
                  simp only [Int.toNat_natCast] at GN
                  rw [HL] at GN
                  clear HL
                  generalize ws.getD l 0 = y at *
                  generalize ts.getD l 0 = z at *
                  generalize sumTo ws k = s1 at *
                  generalize sumTo ts k = s2 at *
                  obtain ⟨rfl, rfl⟩ := GN
                  have g1 : (l : Int) < k := by omega
                  rw [Int.mul_comm, Int.mul_comm z] at HP
                  have E1 : IntKind.i64.wrap (y * s2) = y * s2 := IntWalk.i64_in _ (by omega)
                  have E2 : IntKind.i64.wrap (s1 * z) = s1 * z := IntWalk.i64_in _ (by omega)
                  have E3 : IntKind.i64.wrap (y * s2 - s1 * z) = y * s2 - s1 * z := IntWalk.i64_in _ (by omega)
                  go_wp2_with fail
                  go_quiet (fail)
                  go_wp2_with fail
                  go_ret
                  exact ⟨rfl, only_drewN HR.out _⟩
        · rw [if_pos g3] at GN
          obtain ⟨rfl, rfl⟩ := GN
          have g4 : ¬ (16 : Int) < m := by omega
          have g5 : ¬ (16 : Int) < m' := by omega
          have g6 : ¬ (m : Int) = m' := by omega
          clear g1 g2 g3
          go_wp2_with fail
          go_ret
          exact ⟨rfl, HO.out⟩
end Go.Proofs.Ytbdkibigcjpkbaa.Vt
