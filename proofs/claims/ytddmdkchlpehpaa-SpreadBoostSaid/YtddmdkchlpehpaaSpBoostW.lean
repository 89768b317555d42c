/- The law SpreadBoost: its walk. -/
import Derived.Test.YtddmdkchlpehpaaSpBoost
import Derived.Deep.CutBlock
namespace Go.Proofs.Ytddmdkchlpehpaa.Sp
open Go.ChangeShapes Go.WideShapes Go.ChangeAt Go.RowKit Go.Maps
open Go.Proofs.Ytddmdkchlpehpaa.Vt
set_option linter.unusedVariables false

theorem ten_came {S : St} (hn : S.n = 1) (k : Nat) (tm : Int) : Ten (k + 1) (cameTk S 1 10 tm) := ⟨rfl, rfl, rfl, by show 2 ^ S.n - 1 = 1; rw [hn], rfl⟩
theorem own_full {w0 w : World} {p : Nat} {S : St} {B : Int} (h : Own w0 w p S B) (hn : S.n = 1) : 1 ≤ S.n := by omega

set_option maxRecDepth 100000 in
set_option maxHeartbeats 2000000 in
theorem boost_walk (n who ticks : Int) (w : World) : Calls Try.prog 8 #[.int .i64 n, .int .i64 who, .int .i64 ticks] w fun e w' => e = .returned (.bool true) ∧ Below w.heap.size w w' := by
  have K0 := Lib.hid (begun_any w)
  have R1 := Lib.hid (fun w => rest_any n 15 (by omega) (by omega) w)
  have b1 := restOf_lo n 15 (by omega)
  have b2 := restOf_hi n 15 (by omega)
  have R3 := Lib.hid (fun w => rest_any ticks 50 (by omega) (by omega) w)
  have c1 := restOf_lo ticks 50 (by omega)
  have c2 := restOf_hi ticks 50 (by omega)
  generalize restOf n 15 = rn at *
  generalize restOf ticks 50 = rt at *
  have R2 := Lib.hid (fun w => rest_any who (2 + rn) (by omega) (by omega) w)
  have d1 := restOf_lo who (2 + rn) (by omega)
  have d2 := restOf_hi who (2 + rn) (by omega)
  generalize restOf who (2 + rn) = rw0 at *
  obtain ⟨N, hN⟩ : ∃ N : Nat, (N : Int) = 2 + rn := ⟨(2 + rn).toNat, by omega⟩
  obtain ⟨u, hu⟩ : ∃ u : Nat, (u : Int) = 1 + rw0 := ⟨(1 + rw0).toNat, by omega⟩
  obtain ⟨q, rfl⟩ : ∃ q : Nat, rt = q := ⟨rt.toNat, by omega⟩
  have eN : 2 + rn = (N : Int) := hN.symm
  have eu : 1 + rw0 = (u : Int) := hu.symm
  have N16 : N ≤ 16 := by omega
  have u1 : 1 ≤ u := by omega
  have u2 : u ≤ N := by omega
  rw [eN] at R2
  clear hN hu b1 b2 c1 d1 d2
  have NW : Hid (∀ W, Only (fun _ => False) w W → Calls Try.prog 12 #[.int .i64 1] W fun e w' => ∃ p, e = .returned (.tuple #[.pointer (some ⟨p, 0, none⟩), .int .i64 0]) ∧ p = W.heap.size ∧ Own w w' p (noS 1) 0) := Lib.hid (fun W hO => own_new 1 (by omega) (by omega) hO)
  go_enter Try.func8, Try.ntmps8
  go_wp2_with (first
    | (go_at_call 34; (with_reducible refine K0.out.mono ?_); rintro e w1 ⟨rfl, hO⟩; have O1 := Lib.hid hO; clear hO)
    | (go_at_call_of 35 (Value.int .i64 n); (with_reducible refine (R1.out _).mono ?_); rintro e w' ⟨rfl, rfl⟩)
    | (go_at_call_of 35 (Value.int .i64 who); (with_reducible refine (R2.out _).mono ?_); rintro e w' ⟨rfl, rfl⟩)
    | (go_at_call 12; (with_reducible refine (NW.out _ O1.out).mono ?_); rintro e w2 ⟨p, rfl, -, hM⟩; have H0 := Lib.hid hM; clear hM))
  clear K0 O1 R1 R2 NW
  go_loopw [9] (fun i wr => ∃ (k : Nat) (S : St), k ≤ N ∧ i = .int .i64 ((k + 1 : Nat) : Int) ∧ Own w wr p S k ∧ Grown S k Ten ∧ S.n = 1 ∧ (1 ≤ k → Full S)) (fun i _ => N + 1 - (intOf i).toNat)
  case atStart => exact ⟨0, _, by omega, rfl, H0.out, Grown.start (by omega) _, rfl, fun h => by omega⟩
  case round =>
    clear H0
    obtain ⟨k, S, hk, rfl, hM, hG, hn, hF⟩ := hrel
    have HM := Lib.hid hM
    have HG := Lib.hid hG
    have HF := Lib.hid hF
    have Hn := Lib.hid hn
    clear hM hG hF hn
    by_cases hlt : k < N
    · have g1 : (k : Int) + 1 ≤ N := by omega
      have st : addE S ((k : Int) + 1) 1 10 = 0 ∧ Grown (addS S ((k : Int) + 1) 1 10) (k + 1) Ten ∧ Full (addS S ((k : Int) + 1) 1 10) ∧ (addS S ((k : Int) + 1) 1 10).n = S.n := HG.out.more (by omega) (c := 1) (v := 10) (by decide) (fun tm _ => ten_came Hn.out k tm)
      have KA := Lib.hid (own_add HM.out (by omega) ((k : Int) + 1) 1 10)
      rw [st.1] at KA
      have ST := Lib.hid st
      clear st
      go_wp2_with (go_at_call 13; (with_reducible refine KA.out.mono ?_); rintro e w3 ⟨rfl, hM⟩; have HM2 := Lib.hid hM; clear hM)
      go_roundw
      case rel => exact ⟨k + 1, _, by omega, by go_num, by have := HM2.out; push_cast at this ⊢; exact this, ST.out.2.1, ST.out.2.2.2.trans Hn.out, fun _ => ST.out.2.2.1⟩
      case measure => simp [intOf]; omega
    · obtain rfl : k = N := by omega
      have hFk := HF.out (by omega)
      have hb := boost_start HG.out hFk Hn.out u1 u2 N16
      have KB := Lib.hid (own_boost HM.out u 2 7)
      rw [hb.1] at KB
      have HB0 := Lib.hid hb.2
      have ht0 := tick0 (S := boostS S u 2 7) (by rw [hb.2.n]; omega)
      have KT := Lib.hid (fun W (h : Own w W p (boostS S u 2 7) (k + 1)) => own_tick h (by omega) 0)
      rw [ht0.1, ht0.2] at KT
      clear hb ht0 hFk HF HG
      generalize boostS S u 2 7 = S1 at *
      have g1 : ¬ (k : Int) + 1 ≤ k := by omega
      go_wp2_with (first
        | (go_at_call 29; (with_reducible refine KB.out.mono ?_); rintro e w3 ⟨rfl, hM⟩; have HM2 := Lib.hid hM; clear hM)
        | (go_at_call 25; (with_reducible refine (KT.out _ HM2.out).mono ?_); rintro e w4 ⟨rfl, hM⟩; have HM3 := Lib.hid hM; clear hM)
        | (go_at_call 35; (with_reducible refine (R3.out _).mono ?_); rintro e w' ⟨rfl, rfl⟩))
      have HB1 := Lib.hid HB0.out.tick
      clear KB KT HM HM2 HB0 R3
      generalize tick S1 0 = S2 at *
      clear S1
      go_loopw [47] (fun i wr => ∃ (j : Nat) (S3 : St), j ≤ q ∧ i = .int .i64 j ∧ Own w wr p S3 (k + 1 + 2 + 2 * j) ∧ Boosted S3 u ∧ S3.on 0 = u) (fun i _ => q - (intOf i).toNat)
      case atStart => exact ⟨0, S2, by omega, rfl, by simpa using HM3.out, HB1.out.1, HB1.out.2⟩
      case round =>
        clear HM3 HB1
        obtain ⟨j, S3, hj, rfl, hM, hB, ho⟩ := hrel
        have HM := Lib.hid hM
        have HB := Lib.hid hB
        have hp0 := pick0 (S := S3) (by rw [hB.n]; omega) (by rw [ho]; omega)
        rw [ho] at hp0
        have KP := Lib.hid (own_pick hM 0)
        rw [hp0.1, hp0.2] at KP
        have ht0 := tick0 (S := S3) (by rw [hB.n]; omega)
        have KT := Lib.hid (own_tick hM (by omega) 0)
        rw [ht0.1, ht0.2] at KT
        clear hM hB ho hp0 ht0
        have en : ((u : Int) != u) = false := by simp
        by_cases hlt2 : j < q
        · have g2 : (j : Int) < q := by omega
          have HB2 := Lib.hid HB.out.tick
          go_wp2_with (first
            | (go_at_call 14; (with_reducible refine KP.out.mono ?_); rintro e w' ⟨rfl, rfl⟩)
            | (go_at_call 25; (with_reducible refine KT.out.mono ?_); rintro e w5 ⟨rfl, hM⟩; have HM2 := Lib.hid hM; clear hM))
          go_roundw
          case rel => exact ⟨j + 1, _, by omega, by go_num, by have := HM2.out.mono (show (k : Int) + 1 + 2 + 2 * j + 2 ≤ k + 1 + 2 + 2 * ((j + 1 : Nat) : Int) by omega); exact this, HB2.out.1, HB2.out.2⟩
          case measure => simp [intOf]; omega
        · obtain rfl : j = q := by omega
          have he := boost_end HB.out
          have KC := Lib.hid (own_calm HM.out (by omega) u)
          rw [he.1] at KC
          have KD := Lib.hid (fun W B (hB : B ≤ 7000000000000) (h : Own w W p (calmS S3 u) B) => own_calm h hB u)
          rw [he.2] at KD
          clear he KP KT
          generalize calmS S3 u = S4 at *
          go_wp2_with (first
            | (go_at_call 31; (with_reducible refine (KD.out _ _ (by omega) HM2.out).mono ?_); rintro e w7 ⟨rfl, hM⟩; have HM3 := Lib.hid hM; clear hM)
            | (go_at_call 31; (with_reducible refine KC.out.mono ?_); rintro e w6 ⟨rfl, hM⟩; have HM2 := Lib.hid hM; clear hM))
          go_ret
          exact ⟨rfl, HM3.out.below⟩
end Go.Proofs.Ytddmdkchlpehpaa.Sp
