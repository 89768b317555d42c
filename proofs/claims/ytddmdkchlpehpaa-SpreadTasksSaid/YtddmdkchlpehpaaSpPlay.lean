/- The laws' play: a call, and what is remembered of it. -/
import Derived.Test.YtddmdkchlpehpaaSpPl
import Derived.Test.YtddmdkchlpehpaaArgs
import Derived.Deep.CutBlock
namespace Go.Proofs.Ytddmdkchlpehpaa.Sp
open Go.ChangeShapes Go.WideShapes Go.ChangeAt Go.RowKit Go.Maps
open Go.Proofs.Ytddmdkchlpehpaa.Vt Go.Proofs.Ytddmdkchlpehpaa.Ad
set_option linter.unusedVariables false

theorem shl5 {c : Nat} (hc : c ≤ 4) : wrap64 (2 ^ min c 64) = ((2 ^ c : Nat) : Int) := by
  rcases (show c = 0 ∨ c = 1 ∨ c = 2 ∨ c = 3 ∨ c = 4 by omega) with rfl | rfl | rfl | rfl | rfl <;> decide +kernel

theorem shl5b {c : Nat} (hc : c ≤ 4) : wrap64 (2 ^ c) = ((2 ^ c : Nat) : Int) := by
  rcases (show c = 0 ∨ c = 1 ∨ c = 2 ∨ c = 3 ∨ c = 4 by omega) with rfl | rfl | rfl | rfl | rfl <;> decide +kernel

/-- What is known behind a play. -/
def Played (w0 : World) (p q n : Nat) (B : Int) (e : Ending) (w' : World) : Prop := e = .returned (.tuple #[]) ∧ ∃ S P, Duo w0 w' p q S P B ∧ S.n = n

set_option maxRecDepth 100000 in
set_option maxHeartbeats 4000000 in
theorem play_any {w0 w : World} {p q : Nat} {S : St} {P : Pls} {B : Int} (h : Duo w0 w p q S P B) (hB : B ≤ 6000000000000) (n : Nat) (hn : S.n = n) (v : Value) (xs : List Int) (hv : NumRow w v xs) (hl : 3 ≤ xs.length) :
    Calls Try.prog 36 #[.pointer (some ⟨q, 0, none⟩), .pointer (some ⟨p, 0, none⟩), .int .i64 n, v] w (Played w0 p q n (B + 2)) := by
  have H := Lib.hid h
  have n1 : 1 ≤ n := by have := h.own.ok.n1; omega
  have n4 : n ≤ 4 := by have := h.own.ok.n4; omega
  obtain ⟨a, c, rfl, h1, h2, h3, h4⟩ := hv
  obtain ⟨ad, rfl, hb0, c0⟩ := h3 0 (by omega)
  obtain ⟨ad1, e1, hb1, c1⟩ := h3 1 (by omega)
  injection e1 with e1; subst e1
  obtain ⟨ad2, e2, hb2, c2⟩ := h3 2 (by omega)
  injection e2 with e2; subst e2
  have hcap : c ≤ 9223372036854775807 := by unfold maxLen at h2; omega
  have hsp : ad.spot = none := by
    have := World.cell?_spot c0
    simpa [Addr.add] using this
  obtain ⟨ab, ao, sp⟩ := ad
  simp only at hsp
  subst hsp
  rw [add_plain] at c0 c1 c2
  have l0 : (0 : Int) < xs.length := by omega
  have l1 : (1 : Int) < xs.length := by omega
  have l2 : (2 : Int) < xs.length := by omega
  generalize xs.getD 0 0 = x0 at *
  generalize xs.getD 1 0 = x1 at *
  generalize xs.getD 2 0 = x2 at *
  clear h3 h4 h2 hb0 hb1 hb2
  obtain ⟨tt, htt⟩ : ∃ r : Nat, restOf x1 16 = r := ⟨(restOf x1 16).toNat, by have := restOf_lo x1 16 (by omega); omega⟩
  have tlt : tt < 16 := by have := restOf_hi x1 16 (by omega); omega
  obtain ⟨kd, hkd⟩ : ∃ r : Int, restOf x0 14 = r := ⟨_, rfl⟩
  have R16 : Hid (∀ m, Calls Try.prog 35 #[.int .i64 x1, .int .i64 16] (w.drewN m) fun e w' => e = .returned (.int .i64 tt) ∧ w' = w.drewN m) := Lib.hid (fun m => (rest_any x1 16 (by omega) (by omega) _).mono fun e w' ⟨a, b⟩ => ⟨by rw [a, htt], b.symm⟩)
  have R14 : Hid (∀ w, Calls Try.prog 35 #[.int .i64 x0, .int .i64 14] w fun e w' => e = .returned (.int .i64 kd) ∧ w = w') := Lib.hid (fun w => (rest_any x0 14 (by omega) (by omega) w).mono fun e w' ⟨a, b⟩ => ⟨by rw [a, hkd], b⟩)
  have ek : 1 + (tt : Int) = ((tt + 1 : Nat) : Int) := by omega
  obtain ⟨k, hk⟩ : ∃ k, tt + 1 = k := ⟨_, rfl⟩
  rw [hk] at ek
  have k1 : 1 ≤ k := by omega
  have k2 : k ≤ 16 := by omega
  have g1 : (k : Int) < 17 := by omega
  have g2 : (0 : Int) ≤ k := by omega
  clear h htt hkd hk
  go_enter Try.func36, Try.ntmps36
  go_upto_region 0 with fail
  go_quiet ((go_at_call 35; (with_reducible exact Calls.quiet_of_same (R16.out _))))
  have HW := Lib.hid (H.out.quiet (only_drewN (Only.refl (fun _ => False) w) nq))
  have c0 : (w.drewN nq).cell? ⟨ab, ao, none⟩ = some (.int .i64 x0) := c0
  generalize w.drewN nq = w1 at *
  clear H R16 c1 c2
  go_upto_region 3 with (go_at_call 35; (with_reducible refine (R14.out _).mono ?_); rintro e w' ⟨rfl, rfl⟩)
  have hS := HW.out.own.at_
  have hok := HW.out.own.ok
  have RA := Lib.hid (fun y m (hm : 0 < m) (hm2 : m ≤ 9223372036854775807) w => rest_some y m hm hm2 w)
  have HS := Lib.hid hS
  have HOK := Lib.hid hok
  clear hS hok R14 c0
  have fz := HW.out.pl.frozen
  by_cases o0 : kd = 0
  · subst o0
    have KA := Lib.hid (fun c v => HW.out.go (HOK.out.add k c v) (add_any HS.out HOK.out (by omega) (k : Int) c v))
    go_wp2_with (first
      | (go_at_call 35; (with_reducible refine (RA.out _ 2 (by omega) (by omega) _).mono ?_); rintro e w' ⟨r2, rfl, hr2, rfl⟩)
      | (go_at_call 35; (with_reducible refine (RA.out _ 7 (by omega) (by omega) _).mono ?_); rintro e w' ⟨r7, rfl, hr7, rfl⟩)
      | (go_at_call 13; (with_reducible refine (KA.out _ _).mono ?_); rintro e w2 ⟨rfl, hM⟩; have HM := Lib.hid hM; clear hM; obtain ⟨ee, hee⟩ : ∃ ee, addE S k (1 + (r2 : Int)) (1 + (r7 : Int)) = ee := ⟨_, rfl⟩; rw [hee]; have HE := Lib.hid hee; clear hee))
    · have hz : ee = 0 := by simpa using ‹(ee == 0) = true›
      subst hz
      have ef := add_eff HW.out.runs HE.out k1 k2 rfl
      have EF := Lib.hid ef
      have hC := HW.out.told k (Nat.zero_le k) k2
      clear ef
      have qq := HM.out.pl.frozen
      have cq1 := HM.out.pl.qi k (by omega)
      have cq2 := HM.out.pl.qr k (by omega)
      have cq3 := HM.out.pl.qd k (by omega)
      have cq4 := HM.out.pl.qm k (by omega)
      have cq5 := HM.out.pl.qpin k (by omega)
      have hsh : wrap64 (2 ^ n) = ((2 ^ n : Nat) : Int) := shl5b n4
      have hp2 : 1 ≤ 2 ^ n := Nat.pow_pos (by omega)
      have hall : all S = 2 ^ n - 1 := by unfold all; rw [hn]
      have HALL : Hid (((2 ^ n : Nat) : Int) - 1 = ((all S : Nat) : Int)) := Lib.hid (by rw [hall]; omega)
      have hp3 : 2 ^ n ≤ 16 := by have := Nat.pow_le_pow_right (n := 2) (by omega) n4; simpa using this
      generalize 2 ^ n = e2 at *
      go_wp2_with fail
      go_region
      all_goals (
        (try go_wp2_with fail)
        go_end0
        have hF := ((((((HM.out.set_i k (by omega) true).set_r k (by omega) true).set_d k (by omega) false).set_m k (by omega) false).set_pin k (by omega) (((e2 : Nat) : Int) - 1)).quiet (Only.refl (fun _ => False) _).drew)
        simp only [upd_upd, upd_same] at hF
        exact ⟨rfl, _, _, (hF.duo HW.out.told EF.out ⟨(decide_eq_true (show (1 : Int) + r2 ≠ 0 by omega)).symm, rfl, fun _ => ⟨(decide_eq_false (show ¬ (1 : Int) + r2 = 3 by omega)).symm, rfl, HALL.out⟩⟩).mono (by omega), EF.out.n.trans hn⟩)
    · have hz2 : Hid (ee ≠ 0) := Lib.hid (by simpa using ‹(ee == 0) = false›)
      (try go_wp2_with fail)
      go_end0
      have hf : addS S k (1 + (r2 : Int)) (1 + (r7 : Int)) = S := add_fail (by rw [HE.out]; exact hz2.out)
      refine ⟨rfl, S, P, ?_, hn⟩
      have hM := HM.out
      rw [hf] at hM
      exact (hM.back HW.out).mono (by omega)
  by_cases o1 : kd = 1
  · subst o1
    have KA := Lib.hid (fun z => HW.out.go (HOK.out.addDead k 1 z) (addDead_any HS.out HOK.out (by omega) (k : Int) 1 z))
    go_wp2_with (first
      | (go_at_call 35; (with_reducible refine (RA.out _ 10 (by omega) (by omega) _).mono ?_); rintro e w' ⟨r10, rfl, hr10, rfl⟩)
      | (go_at_call 17; (with_reducible refine (KA.out _).mono ?_); rintro e w2 ⟨rfl, hM⟩; have HM := Lib.hid hM; clear hM; obtain ⟨ee, hee⟩ : ∃ ee, addDeadE S k 1 (2 + (r10 : Int)) = ee := ⟨_, rfl⟩; rw [hee]; have HE := Lib.hid hee; clear hee))
    · have hz : ee = 0 := by simpa using ‹(ee == 0) = true›
      subst hz
      have ef := addDead_eff HW.out.runs HE.out k1 k2 rfl
      have EF := Lib.hid ef
      have hC := HW.out.told k (Nat.zero_le k) k2
      clear ef
      have qq := HM.out.pl.frozen
      have cq1 := HM.out.pl.qi k (by omega)
      have cq2 := HM.out.pl.qr k (by omega)
      have cq3 := HM.out.pl.qd k (by omega)
      have cq4 := HM.out.pl.qm k (by omega)
      have cq5 := HM.out.pl.qpin k (by omega)
      have hsh : wrap64 (2 ^ n) = ((2 ^ n : Nat) : Int) := shl5b n4
      have hp2 : 1 ≤ 2 ^ n := Nat.pow_pos (by omega)
      have hall : all S = 2 ^ n - 1 := by unfold all; rw [hn]
      have HALL : Hid (((2 ^ n : Nat) : Int) - 1 = ((all S : Nat) : Int)) := Lib.hid (by rw [hall]; omega)
      have hp3 : 2 ^ n ≤ 16 := by have := Nat.pow_le_pow_right (n := 2) (by omega) n4; simpa using this
      generalize 2 ^ n = e2 at *
      go_wp2_with fail
      go_region
      all_goals (
        (try go_wp2_with fail)
        go_end0
        have hF := ((((((HM.out.set_i k (by omega) true).set_r k (by omega) true).set_d k (by omega) true).set_m k (by omega) false).set_pin k (by omega) (((e2 : Nat) : Int) - 1)).quiet (Only.refl (fun _ => False) _).drew)
        simp only [upd_upd, upd_same] at hF
        exact ⟨rfl, _, _, (hF.duo HW.out.told EF.out ⟨rfl, rfl, fun _ => ⟨rfl, rfl, HALL.out⟩⟩).mono (by omega), EF.out.n.trans hn⟩)
    · have hz2 : Hid (ee ≠ 0) := Lib.hid (by simpa using ‹(ee == 0) = false›)
      (try go_wp2_with fail)
      go_end0
      have hf : addDeadS S k 1 (2 + (r10 : Int)) = S := addDead_fail (by rw [HE.out]; exact hz2.out)
      refine ⟨rfl, S, P, ?_, hn⟩
      have hM := HM.out
      rw [hf] at hM
      exact (hM.back HW.out).mono (by omega)
  by_cases o2 : kd = 2
  · subst o2
    have KA := Lib.hid (fun (_ : Unit) => HW.out.go (HOK.out.leave k) (leave_any HS.out HOK.out (by omega) (k : Int)))
    go_wp2_with (first
      | (go_at_call 19; (with_reducible refine (KA.out ()).mono ?_); rintro e w2 ⟨rfl, hM⟩; have HM := Lib.hid hM; clear hM; obtain ⟨ee, hee⟩ : ∃ ee, leaveE S k = ee := ⟨_, rfl⟩; rw [hee]; have HE := Lib.hid hee; clear hee))
    · have hz : ee = 0 := by simpa using ‹(ee == 0) = true›
      subst hz
      have ef := leave_eff HW.out.runs HE.out k1 k2
      have EF := Lib.hid ef
      have hC := HW.out.told k (Nat.zero_le k) k2
      clear ef
      have qq := HM.out.pl.frozen
      have cq1 := HM.out.pl.qi k (by omega)
      have cq2 := HM.out.pl.qr k (by omega)
      go_wp2_with fail
      go_region
      all_goals (
        (try go_wp2_with fail)
        go_end0
        have hF := (((HM.out.set_i k (by omega) false).set_r k (by omega) false).quiet (Only.refl (fun _ => False) _).drew)
        rw [upd_upd, upd_same] at hF
        exact ⟨rfl, _, _, (hF.duo HW.out.told EF.out ⟨rfl, rfl, fun e => absurd rfl e⟩).mono (by omega), EF.out.n.trans hn⟩)
    · have hz2 : Hid (ee ≠ 0) := Lib.hid (by simpa using ‹(ee == 0) = false›)
      (try go_wp2_with fail)
      go_end0
      have hf : leaveS S k = S := leave_fail (by rw [HE.out]; exact hz2.out)
      refine ⟨rfl, S, P, ?_, hn⟩
      have hM := HM.out
      rw [hf] at hM
      exact (hM.back HW.out).mono (by omega)
  by_cases o3 : kd = 3
  · subst o3
    have KA := Lib.hid (fun (_ : Unit) => HW.out.go (HOK.out.block k) (block_any HS.out HOK.out (by omega) (k : Int)))
    go_wp2_with (first
      | (go_at_call 21; (with_reducible refine (KA.out ()).mono ?_); rintro e w2 ⟨rfl, hM⟩; have HM := Lib.hid hM; clear hM; have qq := HM.out.pl.frozen; have cq := HM.out.pl.qr k (by omega); obtain ⟨ee, hee⟩ : ∃ ee, blockE S k = ee := ⟨_, rfl⟩; rw [hee]; have HE := Lib.hid hee; clear hee))
    · have hz : ee = 0 := by simpa using ‹(ee == 0) = true›
      subst hz
      have ef := block_eff HW.out.runs HE.out k1 k2
      have EF := Lib.hid ef
      have hC := HW.out.told k (Nat.zero_le k) k2
      clear ef
      (try go_wp2_with fail)
      go_end0
      exact ⟨rfl, _, _, ((HM.out.set_r k (by omega) false).duo HW.out.told EF.out ⟨hC.1, rfl, hC.2.2⟩).mono (by omega), EF.out.n.trans hn⟩
    · have hz2 : Hid (ee ≠ 0) := Lib.hid (by simpa using ‹(ee == 0) = false›)
      (try go_wp2_with fail)
      go_end0
      have hf : blockS S k = S := block_fail (by rw [HE.out]; exact hz2.out)
      refine ⟨rfl, S, P, ?_, hn⟩
      have hM := HM.out
      rw [hf] at hM
      exact (hM.back HW.out).mono (by omega)
  by_cases o4 : kd = 4
  · subst o4
    have KA := Lib.hid (fun (_ : Unit) => HW.out.go (HOK.out.wake k) (wake_any HS.out HOK.out (by omega) (k : Int)))
    go_wp2_with (first
      | (go_at_call 23; (with_reducible refine (KA.out ()).mono ?_); rintro e w2 ⟨rfl, hM⟩; have HM := Lib.hid hM; clear hM; have qq := HM.out.pl.frozen; have cq := HM.out.pl.qr k (by omega); obtain ⟨ee, hee⟩ : ∃ ee, wakeE S k = ee := ⟨_, rfl⟩; rw [hee]; have HE := Lib.hid hee; clear hee))
    · have hz : ee = 0 := by simpa using ‹(ee == 0) = true›
      subst hz
      have ef := wake_eff HW.out.runs HE.out k1 k2
      have EF := Lib.hid ef
      have hC := HW.out.told k (Nat.zero_le k) k2
      clear ef
      (try go_wp2_with fail)
      go_end0
      exact ⟨rfl, _, _, ((HM.out.set_r k (by omega) true).duo HW.out.told EF.out ⟨hC.1, rfl, hC.2.2⟩).mono (by omega), EF.out.n.trans hn⟩
    · have hz2 : Hid (ee ≠ 0) := Lib.hid (by simpa using ‹(ee == 0) = false›)
      (try go_wp2_with fail)
      go_end0
      have hf : wakeS S k = S := wake_fail (by rw [HE.out]; exact hz2.out)
      refine ⟨rfl, S, P, ?_, hn⟩
      have hM := HM.out
      rw [hf] at hM
      exact (hM.back HW.out).mono (by omega)
  by_cases o5 : kd = 5
  · subst o5
    have KA := Lib.hid (fun (_ : Unit) => HW.out.go (HOK.out.wake k) (wake_any HS.out HOK.out (by omega) (k : Int)))
    go_wp2_with (first
      | (go_at_call 23; (with_reducible refine (KA.out ()).mono ?_); rintro e w2 ⟨rfl, hM⟩; have HM := Lib.hid hM; clear hM; have qq := HM.out.pl.frozen; have cq := HM.out.pl.qr k (by omega); obtain ⟨ee, hee⟩ : ∃ ee, wakeE S k = ee := ⟨_, rfl⟩; rw [hee]; have HE := Lib.hid hee; clear hee))
    · have hz : ee = 0 := by simpa using ‹(ee == 0) = true›
      subst hz
      have ef := wake_eff HW.out.runs HE.out k1 k2
      have EF := Lib.hid ef
      have hC := HW.out.told k (Nat.zero_le k) k2
      clear ef
      (try go_wp2_with fail)
      go_end0
      exact ⟨rfl, _, _, ((HM.out.set_r k (by omega) true).duo HW.out.told EF.out ⟨hC.1, rfl, hC.2.2⟩).mono (by omega), EF.out.n.trans hn⟩
    · have hz2 : Hid (ee ≠ 0) := Lib.hid (by simpa using ‹(ee == 0) = false›)
      (try go_wp2_with fail)
      go_end0
      have hf : wakeS S k = S := wake_fail (by rw [HE.out]; exact hz2.out)
      refine ⟨rfl, S, P, ?_, hn⟩
      have hM := HM.out
      rw [hf] at hM
      exact (hM.back HW.out).mono (by omega)
  by_cases o6 : kd = 6
  · subst o6
    have hsh : wrap64 (2 ^ n) = ((2 ^ n : Nat) : Int) := shl5b n4
    have hp2 : 1 < 2 ^ n := Nat.one_lt_two_pow (by omega)
    have hp3 : 2 ^ n ≤ 16 := by have := Nat.pow_le_pow_right (n := 2) (by omega) n4; simpa using this
    generalize 2 ^ n = e2 at *
    have KA := Lib.hid (fun m => HW.out.go (HOK.out.pin k m) (pin_any HS.out HOK.out (by omega) (k : Int) m))
    go_wp2_with (first
      | (go_at_call 35; (with_reducible refine (RA.out _ _ (by omega) (by omega) _).mono ?_); rintro e w' ⟨rp, rfl, hrp, rfl⟩; have erp : 1 + (rp : Int) = ((rp + 1 : Nat) : Int) := (by omega); obtain ⟨mm, hmm⟩ : ∃ mm, rp + 1 = mm := ⟨_, rfl⟩; rw [hmm] at erp)
      | (go_at_call 27; (with_reducible refine (KA.out _).mono ?_); rintro e w2 ⟨rfl, hM⟩; have HM := Lib.hid hM; clear hM; have qq := HM.out.pl.frozen; have cq := HM.out.pl.qpin k (by omega); obtain ⟨ee, hee⟩ : ∃ ee, pinE S k (mm : Int) = ee := ⟨_, rfl⟩; rw [hee]; have HE := Lib.hid hee; clear hee))
    · have hz : ee = 0 := by simpa using ‹(ee == 0) = true›
      subst hz
      have EF := Lib.hid (pin_eff HW.out.runs HE.out k1 k2)
      have hC := HW.out.told k (Nat.zero_le k) k2
      (try go_wp2_with fail)
      go_end0
      exact ⟨rfl, _, _, ((HM.out.set_pin k (by omega) (mm : Int)).duo HW.out.told EF.out ⟨hC.1, hC.2.1, fun e => ⟨(hC.2.2 e).1, (hC.2.2 e).2.1, rfl⟩⟩).mono (by omega), EF.out.n.trans hn⟩
    · have hz2 : Hid (ee ≠ 0) := Lib.hid (by simpa using ‹(ee == 0) = false›)
      (try go_wp2_with fail)
      go_end0
      have hf : pinS S k (mm : Int) = S := pin_fail (by rw [HE.out]; exact hz2.out)
      refine ⟨rfl, S, P, ?_, hn⟩
      have hM := HM.out
      rw [hf] at hM
      exact (hM.back HW.out).mono (by omega)
  by_cases o7 : kd = 7
  · subst o7
    have KA := Lib.hid (fun v => HW.out.go (HOK.out.boost k 2 v) (boost_any HS.out HOK.out (k : Int) 2 v))
    go_wp2_with (first
      | (go_at_call 35; (with_reducible refine (RA.out _ 8 (by omega) (by omega) _).mono ?_); rintro e w' ⟨r8, rfl, hr8, rfl⟩)
      | (go_at_call 29; (with_reducible refine (KA.out _).mono ?_); rintro e w2 ⟨rfl, hM⟩; have HM := Lib.hid hM; clear hM; have qq := HM.out.pl.frozen; have cq := HM.out.pl.qm k (by omega); obtain ⟨ee, hee⟩ : ∃ ee, boostE S k 2 (r8 : Int) = ee := ⟨_, rfl⟩; rw [hee]; have HE := Lib.hid hee; clear hee))
    · have hz : ee = 0 := by simpa using ‹(ee == 0) = true›
      subst hz
      have ef := boost_eff HW.out.runs HE.out k1 k2
      have EF := Lib.hid ef
      have hC := HW.out.told k (Nat.zero_le k) k2
      clear ef
      (try go_wp2_with fail)
      go_end0
      exact ⟨rfl, _, _, ((HM.out.set_m k (by omega) true).duo HW.out.told EF.out ⟨hC.1, hC.2.1, fun e => ⟨(hC.2.2 e).1, rfl, (hC.2.2 e).2.2⟩⟩).mono (by omega), EF.out.n.trans hn⟩
    · have hz2 : Hid (ee ≠ 0) := Lib.hid (by simpa using ‹(ee == 0) = false›)
      (try go_wp2_with fail)
      go_end0
      have hf : boostS S k 2 (r8 : Int) = S := boost_fail (by rw [HE.out]; exact hz2.out)
      refine ⟨rfl, S, P, ?_, hn⟩
      have hM := HM.out
      rw [hf] at hM
      exact (hM.back HW.out).mono (by omega)
  by_cases o8 : kd = 8
  · subst o8
    have KA := Lib.hid (fun (_ : Unit) => HW.out.go (HOK.out.calm k) (calm_any HS.out HOK.out (by omega) (k : Int)))
    go_wp2_with (first
      | (go_at_call 31; (with_reducible refine (KA.out ()).mono ?_); rintro e w2 ⟨rfl, hM⟩; have HM := Lib.hid hM; clear hM; have qq := HM.out.pl.frozen; have cq := HM.out.pl.qm k (by omega); obtain ⟨ee, hee⟩ : ∃ ee, calmE S k = ee := ⟨_, rfl⟩; rw [hee]; have HE := Lib.hid hee; clear hee))
    · have hz : ee = 0 := by simpa using ‹(ee == 0) = true›
      subst hz
      have ef := calm_eff HW.out.runs HE.out k1 k2
      have EF := Lib.hid ef
      have hC := HW.out.told k (Nat.zero_le k) k2
      clear ef
      (try go_wp2_with fail)
      go_end0
      exact ⟨rfl, _, _, ((HM.out.set_m k (by omega) false).duo HW.out.told EF.out ⟨hC.1, hC.2.1, fun e => ⟨(hC.2.2 e).1, rfl, (hC.2.2 e).2.2⟩⟩).mono (by omega), EF.out.n.trans hn⟩
    · have hz2 : Hid (ee ≠ 0) := Lib.hid (by simpa using ‹(ee == 0) = false›)
      (try go_wp2_with fail)
      go_end0
      have hf : calmS S k = S := calm_fail (by rw [HE.out]; exact hz2.out)
      refine ⟨rfl, S, P, ?_, hn⟩
      have hM := HM.out
      rw [hf] at hM
      exact (hM.back HW.out).mono (by omega)
  have e0 : (kd == 0) = false := by simp [o0]
  have e1 : (kd == 1) = false := by simp [o1]
  have e2 : (kd == 2) = false := by simp [o2]
  have e3 : (kd == 3) = false := by simp [o3]
  have e4 : (kd == 4) = false := by simp [o4]
  have e5 : (kd == 5) = false := by simp [o5]
  have e6 : (kd == 6) = false := by simp [o6]
  have e7 : (kd == 7) = false := by simp [o7]
  have e8 : (kd == 8) = false := by simp [o8]
  have KT := Lib.hid (fun (r : Nat) => HW.out.go (HOK.out.tickS (r : Int)) (tick_any HS.out HOK.out (by omega) (r : Int)))
  go_wp2_with (first
    | (go_at_call 35; (with_reducible refine (RA.out _ _ (by omega) (by omega) _).mono ?_); rintro e w' ⟨rc, rfl, hrc, rfl⟩)
    | (go_at_call 25; (with_reducible refine (KT.out _).mono ?_); rintro e w2 ⟨rfl, hM⟩; have HM := Lib.hid hM; clear hM))
  go_end0
  have hts : tickS S (rc : Int) = tick S rc := by unfold tickS; rw [if_pos (show isCpu S (rc : Int) = true by unfold isCpu; simp only [decide_eq_true_eq]; omega), Int.toNat_natCast]
  have hM := HM.out
  rw [hts] at hM
  obtain ⟨t1, t2, t3, t4⟩ := tick_eff (c := rc) HW.out.runs (by omega)
  exact ⟨rfl, _, P, ⟨hM.own, hM.pl, hM.ne, hM.qown, fun t h1 h2 => by rw [t4 t (by omega)]; exact HW.out.told t h1 h2, t1, t2⟩, t3.trans hn⟩
end Go.Proofs.Ytddmdkchlpehpaa.Sp
