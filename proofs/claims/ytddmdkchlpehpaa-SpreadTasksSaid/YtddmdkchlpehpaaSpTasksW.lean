/- The law SpreadTasks: its walk. -/
import Derived.Test.YtddmdkchlpehpaaSpBusyW
import Derived.Test.YtddmdkchlpehpaaSpTasks
import Derived.Test.YtddmdkchlpehpaaSpIdxQ
import Derived.Test.YtddmdkchlpehpaaSpPlay
import Derived.Test.YtddmdkchlpehpaaMin2
import Derived.Deep.CutBlock
namespace Go.Proofs.Ytddmdkchlpehpaa.Sp
open Go.ChangeShapes Go.WideShapes Go.ChangeAt Go.RowKit Go.Maps
open Go.Proofs.Ytddmdkchlpehpaa.Vt
set_option linter.unusedVariables false

theorem quiet_drewN (w : World) (n : Nat) : Only (fun _ => False) w (w.drewN n) := by
  induction n with
  | zero => exact Only.refl _ w
  | succ n ih => exact ih.drew

set_option maxRecDepth 100000 in
set_option maxHeartbeats 4000000 in
theorem tasks_walk (cpus : Int) (a : Option Addr) (len cap : Nat) (recs : List (List Int)) (w : World) (h : ArgRows w a len cap recs) :
    Calls Try.prog 5 #[.int .i64 cpus, .slice a len cap] w fun e w' => e = .returned (.bool true) ∧ Below w.heap.size w w' := by
  obtain ⟨hlen, hcap, hmx, -, hrow⟩ := h
  have hcm : cap ≤ 9223372036854775807 := by unfold maxLen at hmx; omega
  obtain ⟨m, hm⟩ : ∃ m, min len 100 = m := ⟨_, rfl⟩
  have hm1 : m ≤ 100 := by omega
  have hm2 : m ≤ len := by omega
  have q2 := run_min2 (len : Int) 100 m (by omega)
  rw [← hlen] at hrow
  have HROW := Lib.hid hrow
  clear hrow hmx hlen hm
  have K0 := Lib.hid (begun_any w)
  have R1 := Lib.hid (fun w => rest_any cpus 4 (by omega) (by omega) w)
  have b1 := restOf_lo cpus 4 (by omega)
  have b2 := restOf_hi cpus 4 (by omega)
  generalize restOf cpus 4 = rc at *
  obtain ⟨n, hn⟩ : ∃ n : Nat, (n : Int) = 1 + rc := ⟨(1 + rc).toNat, by omega⟩
  have en : 1 + rc = (n : Int) := hn.symm
  have n1 : 1 ≤ n := by omega
  have n4 : n ≤ 4 := by omega
  have NW := Lib.hid (fun W hO => own_new n n1 n4 (w0 := w) (w := W) hO)
  clear b1 b2 hn
  go_enter Try.func5, Try.ntmps5
  go_wp2_with (first
    | (go_at_call 34; (with_reducible refine K0.out.mono ?_); rintro e w1 ⟨rfl, hO⟩; have O1 := Lib.hid hO; clear hO)
    | (go_at_call 35; (with_reducible refine (R1.out _).mono ?_); rintro e w' ⟨rfl, rfl⟩)
    | (go_at_call 12; (with_reducible refine (NW.out _ O1.out).mono ?_); rintro e w2 ⟨p, rfl, -, hM⟩; have H0 := Lib.hid hM; clear hM))
  clear K0 O1 R1 NW
  have HB0 := Lib.hid (duo_start H0.out n4)
  clear H0
  go_loopw [37] (fun i wr => ∃ (j : Nat) (S : St) (P : Pls), j ≤ m ∧ i = .int .i64 j ∧ Duo w wr p w2.heap.size S P (2 * j) ∧ S.n = n) (fun i _ => m - (intOf i).toNat)
  case atStart => exact ⟨0, _, _, by omega, rfl, HB0.out, rfl⟩
  case round =>
    clear HB0
    obtain ⟨j, S, P, hj, rfl, hM, hn⟩ := hrel
    have HM := Lib.hid hM
    have Hn := Lib.hid hn
    clear hM hn
    generalize w2.heap.size = q at *
    by_cases hlt : j < m
    · obtain ⟨rb, roff, rv, rfl, hbl, hc, hv⟩ := HROW.out j (by omega)
      have hcx := (HM.out.below.cell (p := ⟨rb, roff + j, none⟩) hbl).trans hc
      have HV := Lib.hid (hv.later HM.out.below)
      have g1 : (j : Int) < m := by omega
      have g2 : (0 : Int) ≤ j := by omega
      generalize recs.getD j [] = xs at *
      obtain ⟨ya, yc, rfl, hl1, hl2, -⟩ := hv
      have hl3 : yc ≤ 9223372036854775807 := by unfold maxLen at hl2; omega
      clear hc hl2 HROW
      by_cases hs : xs.length < 3
      · have g3 : (xs.length : Int) < 3 := by omega
        go_wp2_with fail
        go_roundw
        case rel => exact ⟨j + 1, S, P, by omega, by go_num, HM.out.mono (by omega), Hn.out⟩
        case measure => simp [intOf]; omega
      · have g3 : ¬ (xs.length : Int) < 3 := by omega
        have KP := Lib.hid (play_any HM.out (by omega) n Hn.out _ xs HV.out (by omega))
        clear HV
        go_wp2_with (first
          | (go_at_call 36; (with_reducible refine KP.out.mono ?_); rintro e w3 ⟨rfl, S3, P3, hM, hn⟩; have HD := Lib.hid hM; have Hn3 := Lib.hid hn; clear hM hn)
          | (go_at_call 37; (with_reducible refine (tasks_any HD.out.own.at_ HD.out.own.ok.z).mono ?_); rintro e w4 ⟨lv, rfl, hI, hO⟩; have HD4 := Lib.hid (HD.out.quiet hO); have HI := Lib.hid hI.nums; clear hI hO))
        clear KP HM HD
        have hz : tasksTo S3 1 = [] := tasksTo_no (by rw [HD4.out.own.ok.z])
        have hl17 := tasksTo_len S3 17
        have HNI := Lib.hid (fun W (hO : Only (fun _ => False) w4 W) => HI.out.later hO)
        have KS := Lib.hid (fun W (hO : Only (fun _ => False) w4 W) => sorted_any lv (tasksTo S3 17) W (HI.out.later hO) (by omega) (tasksTo_sorted S3 17))
        obtain ⟨la, lc, hlv, -⟩ := HI.out
        subst hlv
        go_loopw [11, 12] (fun d i wx => ∃ t : Nat, 1 ≤ t ∧ t ≤ 17 ∧ i = .int .i64 t ∧ d = .int .i64 ((tasksTo S3 t).length : Nat) ∧ Only (fun _ => False) w4 wx) (fun _ i _ => 17 - (intOf i).toNat)
        case atStart => exact ⟨1, by omega, by omega, rfl, by rw [hz]; rfl, Only.refl _ _⟩
        case round =>
          obtain ⟨t, t1, t2, rfl, rfl, hO⟩ := hrel
          have HO := Lib.hid hO
          clear hO
          by_cases ht : t < 17
          · have g4 : (t : Int) ≤ 16 := by omega
            have g5 : (0 : Int) ≤ t := by omega
            have g6 : (t : Int) < 17 := by omega
            have HDx := Lib.hid (HD4.out.quiet HO.out)
            have KR := Lib.hid (ready_any HDx.out.own.at_ (t : Int))
            have KC := Lib.hid (fun n => contains_q (.slice la (tasksTo S3 17).length lc) (tasksTo S3 17) (t : Int) (wr.drewN n) (HNI.out _ (quiet_trans HO.out (quiet_drewN wr n))) (by omega))
            have hmem := tasksTo_mem S3 17 t
            obtain ⟨q1, q2, -⟩ := HD4.out.told t (Nat.zero_le _) (by omega)
            have ci := HDx.out.pl.qi t ht
            have cr := HDx.out.pl.qr t ht
            have CI := Lib.hid (fun W (hO : Only (fun _ => False) w4 W) => (HD4.out.quiet hO).pl.qi t ht)
            have CR := Lib.hid (fun W (hO : Only (fun _ => False) w4 W) => (HD4.out.quiet hO).pl.qr t ht)
            by_cases hc : (S3.T t).c = 0
            · have hi : (P3 t).i = false := by rw [q1]; exact decide_eq_false (fun e => e hc)
              have hmm : decide ((t : Int) ∈ tasksTo S3 17) = false := decide_eq_false (fun e => (hmem.1 e).2 hc)
              have hre : readyB S3 (t : Int) = false ∧ readyE S3 (t : Int) = 4 := by
                have hn : ¬ There S3 (t : Int) := fun e => e.2.2 (by rw [Int.toNat_natCast]; exact hc)
                unfold readyB readyE; rw [if_neg hn, decide_eq_false hn]; exact ⟨rfl, rfl⟩
              have HLn := Lib.hid (show (tasksTo S3 (t + 1)).length = (tasksTo S3 t).length from by rw [tasksTo_no hc])
              rw [hi] at ci CI
              rw [hmm] at KC
              rw [hre.1, hre.2] at KR
              clear hi hmm hre hmem q1 q2 hc
              generalize (P3 t).r = pr at *
              have hdl := tasksTo_len S3 t
              generalize (tasksTo S3 t).length = d at *
              go_wp2_with (go_at_call 38; (with_reducible refine KR.out.mono ?_); rintro e w' ⟨rfl, rfl⟩)
              go_wp2_with fail
              go_quiet ((go_at_call 39; with_reducible exact Calls.quiet_of (KC.out _)))
              go_wp2_with fail
              go_roundw
              case rel => exact ⟨t + 1, by omega, by omega, by go_num, by rw [HLn.out], only_drewN HO.out _⟩
              case measure => simp [intOf]; omega
            · have hi : (P3 t).i = true := by rw [q1]; exact decide_eq_true hc
              have hmm : decide ((t : Int) ∈ tasksTo S3 17) = true := decide_eq_true (hmem.2 ⟨ht, hc⟩)
              have hth : There S3 (t : Int) := ⟨by omega, by omega, by rw [Int.toNat_natCast]; exact hc⟩
              have hre : readyB S3 (t : Int) = (P3 t).r ∧ readyE S3 (t : Int) = 0 := by
                unfold readyB readyE; rw [if_pos hth, decide_eq_true hth, Int.toNat_natCast, q2]; exact ⟨rfl, rfl⟩
              have HLn := Lib.hid (show (tasksTo S3 (t + 1)).length = (tasksTo S3 t).length + 1 from by rw [tasksTo_yes hc, List.length_append]; rfl)
              rw [hi] at ci CI
              rw [hmm] at KC
              rw [hre.1, hre.2] at KR
              clear hi hmm hre hmem q1 q2 hc hth
              generalize (P3 t).r = pr at *
              have hdl := tasksTo_len S3 t
              generalize (tasksTo S3 t).length = d at *
              cases pr
              all_goals (
                go_wp2_with (go_at_call 38; (with_reducible refine KR.out.mono ?_); rintro e w' ⟨rfl, rfl⟩)
                go_wp2_with fail
                go_quiet ((go_at_call 39; with_reducible exact Calls.quiet_of (KC.out _)))
                go_wp2_with fail
                go_roundw
                case rel => exact ⟨t + 1, by omega, by omega, by go_num, by rw [HLn.out]; first | rfl | go_num, only_drewN HO.out _⟩
                case measure => simp [intOf]; omega)
          · obtain rfl : t = 17 := by omega
            generalize hlen : (tasksTo S3 17).length = d at *
            go_wp2_with (go_at_call 40; (with_reducible refine (KS.out _ HO.out).mono ?_); rintro e w5 ⟨rfl, hO⟩; have HO5 := Lib.hid (quiet_trans HO.out hO); clear hO)
            go_roundw
            case rel => exact ⟨j + 1, S3, P3, by omega, by go_num, (HD4.out.quiet HO5.out).mono (by omega), Hn3.out⟩
            case measure => simp [intOf]; omega
    · obtain rfl : j = m := by omega
      go_wp2_with fail
      go_ret
      exact ⟨rfl, HM.out.below⟩
end Go.Proofs.Ytddmdkchlpehpaa.Sp
