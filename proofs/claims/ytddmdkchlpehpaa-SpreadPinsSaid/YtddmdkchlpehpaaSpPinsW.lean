/- The law SpreadPins: its walk. -/
import Derived.Test.YtddmdkchlpehpaaSpPins
import Derived.Test.YtddmdkchlpehpaaInts
import Derived.Test.YtddmdkchlpehpaaMin2
import Derived.Deep.CutBlock
namespace Go.Proofs.Ytddmdkchlpehpaa.Sp
open Go.ChangeShapes Go.WideShapes Go.ChangeAt Go.RowKit Go.Maps
open Go.Proofs.Ytddmdkchlpehpaa.Vt
set_option linter.unusedVariables false

theorem shl_num {c : Nat} (hc : c < 4) : wrap64 (2 ^ min c 64) = ((2 ^ c : Nat) : Int) := by
  rcases (show c = 0 ∨ c = 1 ∨ c = 2 ∨ c = 3 by omega) with rfl | rfl | rfl | rfl <;> decide +kernel
theorem seat_onto {n r c : Nat} (n1 : 1 ≤ n) (n4 : n ≤ 4) (hr : r < n) (hc : c < n) : ∃ t, 1 ≤ t ∧ t ≤ n ∧ seat n r t = c := by
  unfold seat
  by_cases h : r < c
  · exact ⟨c - r, by omega, by omega, by rw [Nat.mod_eq_of_lt (by omega)]; omega⟩
  · refine ⟨n + c - r, by omega, by omega, ?_⟩
    rw [show n + c - r + r = c + n by omega, Nat.add_mod_right, Nat.mod_eq_of_lt hc]
theorem seat_int (n r k : Nat) : ((k : Int) + r) % (n : Int) = ((seat n r k : Nat) : Int) := by unfold seat; push_cast; rfl

set_option maxRecDepth 100000 in
set_option maxHeartbeats 2000000 in
theorem pins_walk (cpus turn : Int) (a : Option Addr) (len cap : Nat) (zs : List Int) (w : World) (h : IsRow .i64 w a len cap zs) :
    Calls Try.prog 10 #[.int .i64 cpus, .int .i64 turn, .slice a len cap] w fun e w' => e = .returned (.bool true) ∧ Below w.heap.size w w' := by
  obtain ⟨ys, hy1, hy2, hy3, hy4⟩ := nums_cut h 60
  obtain ⟨m, hm⟩ : ∃ m, min len 60 = m := ⟨_, rfl⟩
  rw [hm] at hy1
  rw [hy1] at hy2
  have hm1 : m ≤ 60 := by omega
  have hm2 : m ≤ len := by omega
  have q2 := run_min2 (len : Int) 60 m (by omega)
  have HY := Lib.hid hy2
  have HYL := Lib.hid hy1
  clear h hy1 hy2 hm
  have K0 := Lib.hid (begun_any w)
  have R1 := Lib.hid (fun w => rest_any cpus 4 (by omega) (by omega) w)
  have b1 := restOf_lo cpus 4 (by omega)
  have b2 := restOf_hi cpus 4 (by omega)
  generalize restOf cpus 4 = rc at *
  obtain ⟨n, hn⟩ : ∃ n : Nat, (n : Int) = 1 + rc := ⟨(1 + rc).toNat, by omega⟩
  have en : 1 + rc = (n : Int) := hn.symm
  have n1 : 1 ≤ n := by omega
  have n4 : n ≤ 4 := by omega
  have R2 := Lib.hid (fun w => rest_any turn n (by omega) (by omega) w)
  have d1 := restOf_lo turn n (by omega)
  have d2 := restOf_hi turn n (by omega)
  generalize restOf turn n = rr at *
  obtain ⟨r, rfl⟩ : ∃ r : Nat, rr = r := ⟨rr.toNat, by omega⟩
  have hr : r < n := by omega
  have RK := Lib.hid (fun x w => rest_any x n (by omega) (by omega) w)
  have NW := Lib.hid (fun W hO => own_new n n1 n4 (w0 := w) (w := W) hO)
  clear b1 b2 hn d1 d2
  go_enter Try.func10, Try.ntmps10
  go_wp2_with (first
    | (go_at_call 34; (with_reducible refine K0.out.mono ?_); rintro e w1 ⟨rfl, hO⟩; have O1 := Lib.hid hO; clear hO)
    | (go_at_call_of 35 (Value.int .i64 cpus); (with_reducible refine (R1.out _).mono ?_); rintro e w' ⟨rfl, rfl⟩)
    | (go_at_call_of 35 (Value.int .i64 turn); (with_reducible refine (R2.out _).mono ?_); rintro e w' ⟨rfl, rfl⟩)
    | (go_at_call 12; (with_reducible refine (NW.out _ O1.out).mono ?_); rintro e w2 ⟨p, rfl, -, hM⟩; have H0 := Lib.hid hM; clear hM))
  clear K0 O1 R1 R2 NW
  go_loopw [9] (fun i wr => ∃ (k : Nat) (S : St), k ≤ n ∧ i = .int .i64 ((k + 1 : Nat) : Int) ∧ Own w wr p S (2 * k) ∧ Grown S k (Pinned n r) ∧ S.n = n ∧ (1 ≤ k → Full S)) (fun i _ => n + 1 - (intOf i).toNat)
  case atStart => exact ⟨0, _, by omega, rfl, H0.out, Grown.start n4 _, rfl, fun h => by omega⟩
  case round =>
    clear H0
    obtain ⟨k, S, hk, rfl, hM, hG, hn, hF⟩ := hrel
    have HM := Lib.hid hM
    have HG := Lib.hid hG
    have HF := Lib.hid hF
    have Hn := Lib.hid hn
    clear hM hG hF hn
    by_cases hlt : k < n
    · have g1 : (k : Int) + 1 ≤ n := by omega
      have st := pins_more HG.out Hn.out n1 n4 hlt
      have KA := Lib.hid (own_add HM.out (by omega) ((k : Int) + 1) 1 ((k : Int) + 1))
      rw [st.1] at KA
      have KPp := Lib.hid (fun W (h : Own w W p (addS S ((k : Int) + 1) 1 ((k : Int) + 1)) (2 * k + 1)) => own_pin h (by omega) ((k : Int) + 1) ((2 ^ seat n r (k + 1) : Nat) : Int))
      rw [st.2.1] at KPp
      have ST := Lib.hid st.2.2
      clear st
      have es : ((k : Int) + 1 + r) % (n : Int) = ((seat n r (k + 1) : Nat) : Int) := seat_int n r (k + 1)
      have hsh := shl_num (c := seat n r (k + 1)) (by have := seat_lt (r := r) (t := k + 1) n1; omega)
      generalize 2 ^ seat n r (k + 1) = e2 at *
      generalize seat n r (k + 1) = c at *
      go_wp2_with (first
        | (go_at_call 13; (with_reducible refine KA.out.mono ?_); rintro e w3 ⟨rfl, hM⟩; have HM2 := Lib.hid hM; clear hM)
        | (go_at_call 27; (with_reducible refine (KPp.out _ HM2.out).mono ?_); rintro e w4 ⟨rfl, hM⟩; have HM3 := Lib.hid hM; clear hM))
      go_roundw
      case rel => exact ⟨k + 1, _, by omega, by go_num, by have := HM3.out.mono (show 2 * (k : Int) + 1 + 1 ≤ 2 * ((k + 1 : Nat) : Int) by omega); exact this, ST.out.1, ST.out.2.2, fun _ => ST.out.2.1⟩
      case measure => simp [intOf]; omega
    · obtain rfl : k = n := by omega
      have hFk := HF.out (by omega)
      have g1 : ¬ (k : Int) + 1 ≤ k := by omega
      have HFk := Lib.hid hFk
      clear hFk HF
      go_wp2_with fail
      go_loopw [58] (fun i wr => ∃ (j : Nat) (S3 : St), j ≤ m ∧ i = .int .i64 j ∧ Own w wr p S3 (2 * k + 2 * j) ∧ Grown S3 k (Pinned k r) ∧ S3.n = k ∧ Full S3) (fun i _ => m - (intOf i).toNat)
      case atStart => exact ⟨0, S, by omega, rfl, by simpa using HM.out, HG.out, Hn.out, HFk.out⟩
      case round =>
        clear HM HG Hn HFk
        obtain ⟨j, S3, hj, rfl, hM, hG, hn, hF⟩ := hrel
        have HM := Lib.hid hM
        have HG := Lib.hid hG
        have HF := Lib.hid hF
        have Hn := Lib.hid hn
        clear hM hG hF hn
        by_cases hlt2 : j < m
        · have g2 : (j : Int) < m := by omega
          have g3 : (0 : Int) ≤ j := by omega
          obtain ⟨ya, yc, hye, hyc⟩ := HY.out
          rw [Value.slice.injEq] at hye
          obtain ⟨rfl, -, rfl⟩ := hye
          obtain ⟨b, off, rfl, hc⟩ := hyc j (by rw [HYL.out]; exact hlt2)
          have hcx := (HM.out.below.cell (p := ⟨b, off + j, none⟩) (block_lt hc)).trans hc
          generalize ys.getD j 0 = x at *
          have x1 := restOf_lo x k (by omega)
          have x2 := restOf_hi x k (by omega)
          have RX := Lib.hid (RK.out x)
          obtain ⟨c, hcc⟩ : ∃ c : Nat, restOf x k = c := ⟨(restOf x k).toNat, by omega⟩
          rw [hcc] at RX x1 x2
          have hck : c < k := by omega
          have htk : tickE S3 (c : Int) = 0 ∧ tickS S3 (c : Int) = tick S3 c := by
            have hcp : isCpu S3 (c : Int) = true := decide_eq_true (by rw [Hn.out]; omega)
            unfold tickE tickS; rw [if_pos hcp, if_pos hcp]; exact ⟨rfl, rfl⟩
          -- a task runs on that processor: the one whose seat it is
          have hpl : Plain S3 := fun t ht => by
            by_cases h0 : t = 0
            · subst h0; rw [HG.out.runs.z]; exact ⟨by decide, rfl⟩
            · by_cases hle : t ≤ k
              · obtain ⟨q1, q2, q3, q4, q5⟩ := HG.out.old t (by omega) hle
                exact ⟨by rw [q1]; decide, q5⟩
              · rw [HG.out.new t (by omega) ht]; exact ⟨by decide, rfl⟩
          have hon : S3.on c ≠ 0 := fun e => by
            obtain ⟨t, t1, t2, t3⟩ := seat_onto (n := k) (r := r) (c := c) n1 n4 hr hck
            have := pins_run HG.out HF.out Hn.out n1 n4 hr (Nat.le_refl _) t1 t2
            rw [t3, e] at this
            omega
          have HT := Lib.hid (HG.out.tick hpl (by omega) (c := c) (by omega) hon (fun t x y hq e1 e2 e3 e4 e5 => ⟨e1.trans hq.1, e2.trans hq.2.1, e3.trans hq.2.2.1, e4.trans hq.2.2.2.1, e5.trans hq.2.2.2.2⟩))
          have KT := Lib.hid (own_tick HM.out (by omega) (c : Int))
          rw [htk.1, htk.2] at KT
          clear htk hpl hon hc hyc x1 x2 RK hcc
          generalize tick S3 c = S4 at *
          go_wp2_with (first
            | (go_at_call 35; (with_reducible refine (RX.out _).mono ?_); rintro e w' ⟨rfl, rfl⟩)
            | (go_at_call 25; (with_reducible refine KT.out.mono ?_); rintro e w5 ⟨rfl, hM⟩; have HM2 := Lib.hid hM; clear hM))
          clear KT RX HM
          go_loopw [12] (fun i wr => ∃ t : Nat, t ≤ k ∧ i = .int .i64 ((t + 1 : Nat) : Int) ∧ w5 = wr) (fun i _ => k + 1 - (intOf i).toNat)
          case atStart => exact ⟨0, by omega, rfl, rfl⟩
          case round =>
            obtain ⟨t, ht, rfl, rfl⟩ := hrel
            by_cases hlt3 : t < k
            · have g4 : (t : Int) + 1 ≤ k := by omega
              have es : ((t : Int) + 1 + r) % (k : Int) = ((seat k r (t + 1) : Nat) : Int) := seat_int k r (t + 1)
              have hrun := pins_run HT.out.1 HT.out.2.1 (HT.out.2.2.trans Hn.out) n1 n4 hr (Nat.le_refl _) (t := t + 1) (by omega) (by omega)
              have hsl := seat_lt (r := r) (t := t + 1) n1
              have KP := Lib.hid (own_pick HM2.out ((seat k r (t + 1) : Nat) : Int))
              have hcp : isCpu S4 ((seat k r (t + 1) : Nat) : Int) = true := decide_eq_true (by rw [HT.out.2.2, Hn.out]; omega)
              have hpk : pickN S4 ((seat k r (t + 1) : Nat) : Int) = t + 1 ∧ pickE S4 ((seat k r (t + 1) : Nat) : Int) = 0 := by
                unfold pickN pickE; rw [if_pos hcp, if_pos hcp, Int.toNat_natCast, hrun]
                exact ⟨rfl, if_neg (by omega)⟩
              rw [hpk.1, hpk.2] at KP
              clear hpk hcp hrun
              generalize seat k r (t + 1) = c2 at *
              have ent : ((t : Int) + 1 != t + 1) = false := by simp
              go_wp2_with (go_at_call 14; (with_reducible refine KP.out.mono ?_); rintro e w' ⟨rfl, rfl⟩)
              go_roundw
              case rel => exact ⟨t + 1, by omega, by go_num, trivial⟩
              case measure => simp [intOf]; omega
            · obtain rfl : t = k := by omega
              have g4 : ¬ (t : Int) + 1 ≤ t := by omega
              go_wp2_with fail
              go_roundw
              case rel => exact ⟨j + 1, S4, by omega, by go_num, by have := HM2.out.mono (show 2 * (t : Int) + 2 * j + 2 ≤ 2 * t + 2 * ((j + 1 : Nat) : Int) by omega); exact this, HT.out.1, HT.out.2.2.trans Hn.out, HT.out.2.1⟩
              case measure => simp [intOf]; omega
        · obtain rfl : j = m := by omega
          go_wp2_with fail
          go_ret
          exact ⟨rfl, HM.out.below⟩
end Go.Proofs.Ytddmdkchlpehpaa.Sp
