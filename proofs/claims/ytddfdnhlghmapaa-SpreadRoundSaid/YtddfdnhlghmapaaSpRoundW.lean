/- The law SpreadRound: its walk. -/
import Derived.Test.YtddfdnhlghmapaaSpRound
import Derived.Test.YtddfdnhlghmapaaSpSharesW
import Derived.Deep.QuietTactic
import Derived.BigQuiet
namespace Go.Proofs.Ytddfdnhlghmapaa.Sp
open Go.ChangeShapes Go.WideShapes Go.ChangeAt Go.RowKit Go.Maps
open Go.Proofs.Ytddfdnhlghmapaa.Vt
set_option linter.unusedVariables false

/-- How often the task t + 1 has run in q ticks. -/
def ran (n : Nat) : Nat → Nat → Nat
  | 0, _ => 0
  | q + 1, t => ran n q t + if t = q % n then 1 else 0
theorem ran_le (n q t : Nat) : ran n q t ≤ q := by
  induction q with
  | zero => exact Nat.le_refl _
  | succ q ih => show ran n q t + (if t = q % n then 1 else 0) ≤ q + 1; split <;> omega
theorem ran_in (n m : Nat) (hn : 0 < n) (h : ∀ t, t < n → ran n (n * m) t = m) : ∀ j, j ≤ n → ∀ t, t < n → ran n (n * m + j) t = m + if t < j then 1 else 0 := by
  intro j
  induction j with
  | zero =>
    intro _ t ht
    rw [Nat.add_zero, h t ht, if_neg (by omega)]
    rfl
  | succ j ih =>
    intro hj t ht
    show ran n (n * m + j) t + (if t = (n * m + j) % n then 1 else 0) = _
    have e : (n * m + j) % n = j := by rw [Nat.add_comm, Nat.add_mul_mod_self_left]; exact Nat.mod_eq_of_lt (by omega)
    rw [ih (by omega) t ht, e]
    by_cases h1 : t < j
    · rw [if_pos h1, if_neg (by omega), if_pos (by omega)]
    · rw [if_neg h1]
      by_cases h2 : t = j
      · rw [if_pos h2, if_pos (by omega)]
      · rw [if_neg h2, if_neg (by omega)]
theorem ran_full (n m : Nat) (hn : 0 < n) : ∀ t, t < n → ran n (n * m) t = m := by
  induction m with
  | zero => intro t ht; rw [Nat.mul_zero]; rfl
  | succ m ih =>
    intro t ht
    have := ran_in n m hn ih n (Nat.le_refl _) t ht
    rw [if_pos ht] at this
    rw [Nat.mul_succ]; exact this
theorem ran_even {n q : Nat} (hn : 0 < n) (hq : q % n = 0) : ∀ t, t < n → ran n q t = q / n := by
  intro t ht
  have e : q = n * (q / n) := by have := Nat.div_add_mod q n; omega
  have := ran_full n (q / n) hn t ht
  rwa [← e] at this

/-- What is known ere a tick. -/
def RoundAt (w0 : World) (p g N n q : Nat) (v : Int) (wr : World) : Prop :=
  ∃ (S : St) (gs : List Int), RunNums w0 wr p g S (n + 2 * q) gs ∧ gs.length = n + 1 ∧ gs.getD 0 0 = 0 ∧ (∀ t, t < n → gs.getD (t + 1) 0 = (ran n q t : Nat)) ∧ Turns S N n q v

theorem mul_succ_le {a b c : Nat} (h : a < b) : a * c + c ≤ b * c := by
  have := Nat.mul_le_mul_right c (show a + 1 ≤ b by omega)
  rwa [Nat.succ_mul] at this

set_option maxRecDepth 100000 in
set_option maxHeartbeats 4000000 in
theorem round_walk (a0 a1 a2 a3 : Int) (w : World) :
    Calls Try.prog 8 #[.int .i64 a0, .int .i64 a1, .int .i64 a2, .int .i64 a3] w fun e w' => e = .returned (.bool true) ∧ Below w.heap.size w w' := by
  have K0 := Lib.hid (begun_any w)
  have R0 := Lib.hid (fun w => rest_any a0 4 (by omega) (by omega) w)
  have b1 := restOf_lo a0 4 (by omega)
  have b2 := restOf_hi a0 4 (by omega)
  generalize restOf a0 4 = rc at *
  obtain ⟨N, hN⟩ : ∃ N : Nat, (N : Int) = 1 + rc := ⟨(1 + rc).toNat, by omega⟩
  have eN : 1 + rc = (N : Int) := hN.symm
  have N1 : 1 ≤ N := by omega
  have N4 : N ≤ 4 := by omega
  have R1 := Lib.hid (fun w => rest_any a1 (16 - (N : Int) + 1) (by omega) (by omega) w)
  have d1 := restOf_lo a1 (16 - (N : Int) + 1) (by omega)
  have d2 := restOf_hi a1 (16 - (N : Int) + 1) (by omega)
  generalize restOf a1 (16 - (N : Int) + 1) = rn at *
  obtain ⟨n, hn⟩ : ∃ n : Nat, (n : Int) = N + rn := ⟨(N + rn).toNat, by omega⟩
  have en : (N : Int) + rn = (n : Int) := hn.symm
  have nN : N ≤ n := by omega
  have n16 : n ≤ 16 := by omega
  have R2 := Lib.hid (fun w => rest_any a2 8 (by omega) (by omega) w)
  have v1 := restOf_lo a2 8 (by omega)
  have v2 := restOf_hi a2 8 (by omega)
  generalize restOf a2 8 = v at *
  have R3 := Lib.hid (fun w => rest_any a3 5 (by omega) (by omega) w)
  have r1 := restOf_lo a3 5 (by omega)
  have r2 := restOf_hi a3 5 (by omega)
  generalize restOf a3 5 = rr at *
  obtain ⟨R, hR⟩ : ∃ R : Nat, (R : Int) = 1 + rr := ⟨(1 + rr).toNat, by omega⟩
  have eR : 1 + rr = (R : Int) := hR.symm
  have R5 : R ≤ 5 := by omega
  have NW := Lib.hid (fun W hO => own_new N N1 N4 (w0 := w) (w := W) hO)
  have hmk := run_mk (n + 1) (by omega)
  rw [show ((n + 1 : Nat) : Int) = (n : Int) + 1 by omega] at hmk
  have hkv : kindOk 2 v = true := decide_eq_true (Or.inr ⟨rfl, by omega, by omega⟩)
  have HKV := Lib.hid hkv
  clear b1 b2 hN d1 d2 hn r1 r2 hR hkv
  go_enter Try.func8, Try.ntmps8
  go_wp2_with (first
    | (go_at_call 48; (with_reducible refine K0.out.mono ?_); rintro e w1 ⟨rfl, hO⟩; have O1 := Lib.hid hO; clear hO)
    | (go_at_call_of 24 (Value.int .i64 a0); (with_reducible refine (R0.out _).mono ?_); rintro e w' ⟨rfl, rfl⟩)
    | (go_at_call_of 24 (Value.int .i64 a1); (with_reducible refine (R1.out _).mono ?_); rintro e w' ⟨rfl, rfl⟩)
    | (go_at_call_of 24 (Value.int .i64 a2); (with_reducible refine (R2.out _).mono ?_); rintro e w' ⟨rfl, rfl⟩)
    | (go_at_call 27; (with_reducible refine (NW.out _ O1.out).mono ?_); rintro e w2 ⟨p, rfl, -, hM⟩; have H0 := Lib.hid hM; clear hM))
  clear K0 O1 R0 R1 R2 NW
  go_loopw [11] (fun i wr => ∃ (k : Nat) (S : St), k ≤ n ∧ i = .int .i64 ((k + 1 : Nat) : Int) ∧ Own w wr p S k ∧ Came S N k v) (fun i _ => n + 1 - (intOf i).toNat)
  case atStart => exact ⟨0, _, by omega, rfl, H0.out, Came.start N4 v⟩
  case round =>
    clear H0
    obtain ⟨k, S, hk, rfl, hB, hC⟩ := hrel
    have HB := Lib.hid hB
    have HC := Lib.hid hC
    clear hB hC
    by_cases hlt : k < n
    · have g1 : (k : Int) + 1 ≤ n := by omega
      have hmore := HC.out.more N4 (by omega) HKV.out
      have KA := Lib.hid (own_add HB.out (by omega) ((k : Int) + 1) 2 v)
      rw [hmore.1] at KA
      have HM := Lib.hid hmore.2
      clear hmore
      go_wp2_with (go_at_call 28; (with_reducible refine KA.out.mono ?_); rintro e w4 ⟨rfl, ho⟩; have HO := Lib.hid ho; clear ho)
      go_roundw
      case rel => exact ⟨k + 1, _, by omega, by go_num, HO.out, HM.out⟩
      case measure => simp [intOf]; omega
    · have hkn : k = n := by omega
      have g1 : ¬ (k : Int) + 1 ≤ n := by omega
      have hl0 : (List.replicate (n + 1) (0 : Int)).length = n + 1 := by simp
      have hz0 : ∀ t, (List.replicate (n + 1) (0 : Int)).getD t 0 = 0 := fun t => by
        by_cases h : t < n + 1 <;> simp [List.getD, h]
      have HG0 : Hid (RoundAt w p wr.heap.size N n 0 v (wr.alloc (.cells (numCells (List.replicate (n + 1) 0)).toArray 3))) :=
        Lib.hid ⟨S, List.replicate (n + 1) 0, ⟨(HB.out.mono (by omega)).quiet ((Only.refl _ _).alloc _), BlockOf.new _ _, HB.out.only.size⟩, hl0, hz0 0, fun t _ => hz0 _, by rw [hkn] at HC; exact Turns.start HC.out N4 nN⟩
      clear hl0 hz0 HB HC
      go_wp2_with (go_at_call 24; (with_reducible refine (R3.out _).mono ?_); rintro e w' ⟨rfl, rfl⟩)
      obtain ⟨g, hg⟩ : ∃ g, wr.heap.size = g := ⟨_, rfl⟩
      rw [hg] at HG0
      rw [hg]
      clear hg
      generalize wr.alloc _ = w3 at *
      go_loopw [13, 14, 15, 53] (fun _ _ _ i wr => ∃ (r q : Nat), r ≤ R ∧ i = .int .i64 r ∧ q ≤ r * 64 ∧ q % n = 0 ∧ q % N = 0 ∧ RoundAt w p g N n q v wr) (fun _ _ _ i _ => R - (intOf i).toNat)
      case atStart => exact ⟨0, 0, by omega, rfl, by omega, Nat.zero_mod _, Nat.zero_mod _, HG0.out⟩
      case round =>
        clear HG0
        obtain ⟨r, q, hr, rfl, hq64, hqn, hqN, hRA⟩ := hrel
        have HRA := Lib.hid hRA
        clear hRA
        by_cases hlt2 : r < R
        · have g3 : (r : Int) < R := by omega
          go_wp2_with fail
          go_loopw [13, 14, 15, 56] (fun _ _ _ i wr => ∃ (i2 P : Nat), i2 ≤ n ∧ i = .int .i64 i2 ∧ P = i2 * N ∧ RoundAt w p g N n (q + P) v wr) (fun _ _ _ i _ => n - (intOf i).toNat)
          case atStart => exact ⟨0, 0, by omega, rfl, (Nat.zero_mul _).symm, HRA.out⟩
          case round =>
            clear HRA
            obtain ⟨i2, P, hi2, rfl, hP, hRA⟩ := hrel
            have HRA := Lib.hid hRA
            clear hRA
            have hP64 : P ≤ 64 := by
              have h1 := Nat.mul_le_mul_right N hi2
              have h2 := Nat.mul_le_mul n16 N4
              omega
            have hPN : (q + P) % N = 0 := by rw [hP, Nat.mul_comm, Nat.add_mul_mod_self_left]; exact hqN
            by_cases hlt3 : i2 < n
            · have g4 : (i2 : Int) < n := by omega
              go_wp2_with fail
              go_loopw [13, 14, 15, 59] (fun _ _ _ i wr => ∃ j : Nat, j ≤ N ∧ i = .int .i64 j ∧ RoundAt w p g N n (q + P + j) v wr) (fun _ _ _ i _ => N - (intOf i).toNat)
              case atStart => exact ⟨0, by omega, rfl, HRA.out⟩
              case round =>
                clear HRA
                obtain ⟨j, hj, rfl, S, gs, hB, hl, hz, hv, hT⟩ := hrel
                have HB := Lib.hid hB
                have HL := Lib.hid hl
                have HZ := Lib.hid hz
                have HV := Lib.hid hv
                have HT := Lib.hid hT
                clear hB hl hz hv hT
                by_cases hlt4 : j < N
                · have g5 : (j : Int) < N := by omega
                  have g6 : (0 : Int) ≤ j := by omega
                  obtain ⟨t1, t2⟩ := HT.out.tick N1 N4 nN n16
                  have hjm : (q + P + j) % N = j := by rw [mod_add (by omega) (by omega), hPN, Nat.zero_add, if_pos hlt4]
                  rw [hjm] at t1 t2
                  have hun : (q + P + j) % n < n := Nat.mod_lt _ (by omega)
                  obtain ⟨u, hu⟩ : ∃ u, (q + P + j) % n = u := ⟨_, rfl⟩
                  rw [hu] at t1 hun
                  have HT2 := Lib.hid t2
                  have KP := Lib.hid (own_pick HB.out.own (j : Int))
                  have hpi : isCpu S (j : Int) = true := decide_eq_true (by rw [HT.out.hn]; omega)
                  have KT := Lib.hid (own2_tick HB.out.own (by omega) (j : Int))
                  have htk : tickE S (j : Int) = 0 ∧ tickS S (j : Int) = tick S j := by unfold tickE tickS; rw [if_pos hpi, if_pos hpi, Int.toNat_natCast]; exact ⟨rfl, rfl⟩
                  rw [htk.1, htk.2] at KT
                  unfold pickN pickE at KP
                  rw [if_pos hpi, if_pos hpi, Int.toNat_natCast, t1, if_neg (by omega)] at KP
                  have hul : u + 1 < gs.length := by rw [HL.out]; omega
                  have HUL := Lib.hid hul
                  have hrl := ran_le n (q + P + j) u
                  have HU := Lib.hid hu
                  have hue : ((u : Int) + 1) < (n : Int) + 1 := by omega
                  clear t1 t2 htk hpi hu hul
                  go_upto_region 24 with (first
                    | (go_at_call 29; (with_reducible refine KP.out.mono ?_); rintro e w' ⟨rfl, rfl⟩)
                    | (go_at_call 39; (with_reducible refine KT.out.mono ?_); rintro e w5 ⟨rfl, ho, hO⟩; have HB2 := Lib.hid (HB.out.call ho hO); clear ho hO))
                  have c3 := HB2.out.nums.cell HUL.out
                  have f3 := HB2.out.nums.frozen (u + 1)
                  rw [HV.out u hun] at c3
                  obtain ⟨x, hx⟩ : ∃ x, ran n (q + P + j) u = x := ⟨_, rfl⟩
                  have HX := Lib.hid hx
                  rw [hx] at c3 hrl
                  clear hx KP KT
                  go_wp2_with fail
                  go_roundw
                  case rel => exact ⟨j + 1, by omega, by go_num, tick S j, gs.set (u + 1) ((x : Int) + 1), (HB2.out.set (u + 1) ((x : Int) + 1)).mono (by omega), by rw [List.length_set]; exact HL.out, by rw [getD_set HUL.out, if_neg (by omega)]; exact HZ.out, fun t ht => by
                    rw [getD_set HUL.out]
                    show _ = ((ran n (q + P + j) t + (if t = (q + P + j) % n then 1 else 0) : Nat) : Int)
                    rw [HU.out]
                    by_cases e : t = u
                    · rw [if_pos (by omega), if_pos e, e, HX.out]; omega
                    · rw [if_neg (by omega), if_neg e]; exact HV.out t ht, HT2.out⟩
                  case measure => simp [intOf]; omega
                · have hjN : j = N := by omega
                  have g5 : ¬ (j : Int) < N := by omega
                  go_wp2_with fail
                  go_roundw
                  case rel => exact ⟨i2 + 1, P + N, by omega, by go_num, by rw [hP, Nat.succ_mul], by rw [show q + (P + N) = q + P + j by omega]; exact ⟨S, gs, HB.out, HL.out, HZ.out, HV.out, HT.out⟩⟩
                  case measure => simp [intOf]; omega
            · have hin : i2 = n := by omega
              have g4 : ¬ (i2 : Int) < n := by omega
              obtain ⟨S, gs, hB, hl, hz, hv, hT⟩ := HRA.out
              have HB := Lib.hid hB
              have HL := Lib.hid hl
              have HZ := Lib.hid hz
              have HV := Lib.hid hv
              have HT := Lib.hid hT
              clear hB hl hz hv hT HRA
              have hqe : (q + P) % n = 0 := by rw [hP, hin, Nat.add_mul_mod_self_left]; exact hqn
              have hev := ran_even (q := q + P) (by omega) hqe
              have hd : (gs.drop 1).length = n := by rw [List.length_drop, HL.out]; omega
              have hdv : ∀ t, t < n → (gs.drop 1).getD t 0 = ((q + P) / n : Nat) := fun t ht => by
                have := HV.out t ht
                rw [hev t ht] at this
                rw [← this]
                simp [List.getD]
              have HX := Lib.hid (fun m => show Nums (wr.drewN m) (.slice (some ⟨g, 1, none⟩) n n) (gs.drop 1) from ⟨_, n, by rw [hd], fun t ht => ⟨g, 1, rfl, by
                rw [hd] at ht
                rw [hdv t ht, ← hev t ht, ← HV.out t ht]
                have := ((HB.out.nums.later (only_drewN (Only.refl (fun _ => False) wr) m))).cell (j := 1 + t) (by rw [HL.out]; omega)
                rw [this, Nat.add_comm]⟩⟩)
              obtain ⟨⟨ia, ha1, ha2⟩, -⟩ := highOf_is (gs.drop 1) (n - 1)
              obtain ⟨⟨ib, hb1, hb2⟩, -⟩ := lowOf_is (gs.drop 1) (n - 1)
              rw [hdv ia (by omega)] at ha2
              rw [hdv ib (by omega)] at hb2
              have CX := Lib.hid (fun m => max_any (some ⟨g, 1, none⟩) n n (gs.drop 1) (wr.drewN m) (HX.out m) hd (by omega) (by omega))
              have CN := Lib.hid (fun m => min_any (some ⟨g, 1, none⟩) n n (gs.drop 1) (wr.drewN m) (HX.out m) hd (by omega) (by omega))
              rw [ha2] at CX
              rw [hb2] at CN
              generalize (q + P) / n = M at *
              have hn1 : ¬ n + 1 = 1 := by omega
              clear hev hd hdv HX ha2 hb2 ha1 hb1
              go_upto_region 27 with fail
              go_quiet (first
                | (go_at_call 50; (with_reducible exact Calls.quiet_of_same (CX.out _)))
                | (go_at_call 51; (with_reducible exact Calls.quiet_of_same (CN.out _))))
              go_wp2_with fail
              go_roundw
              case rel => exact ⟨r + 1, q + P, by omega, by go_num, by omega, hqe, hPN, S, gs, HB.out.quiet (only_drewN (Only.refl _ wr) _), HL.out, HZ.out, HV.out, HT.out⟩
              case measure => simp [intOf]; omega
        · obtain rfl : r = R := by omega
          go_wp2_with fail
          go_ret
          obtain ⟨S, gs, hB, -⟩ := HRA.out
          exact ⟨rfl, hB.own.below⟩
end Go.Proofs.Ytddfdnhlghmapaa.Sp
