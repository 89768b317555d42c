/- The walk of FairAlike. -/
import Derived.Test.YtkjcaainbomemaaFFairs
import Derived.Test.YtkjcaainbomemaaNumRow
namespace Go.Proofs.Ytkjcaainbomemaa.Fr
open Go.ChangeShapes Go.WideShapes Go.ChangeAt Go.RowKit Go.Maps
open Go.Proofs.Ytkjcaainbomemaa.Vt
set_option linter.unusedVariables false

theorem mkT_congr {m : Nat} {c c' v v' : Nat → Int} (h : ∀ t, 1 ≤ t → t ≤ m → c t = c' t ∧ v t = v' t) : mkT m c v = mkT m c' v' := by
  funext t; unfold mkT
  split
  · rename_i q; rw [(h t q.1 q.2).1, (h t q.1 q.2).2]
  · rfl

/-- The times of tasks that weigh the same, behind q rounds and r ticks of the next. -/
def rv (C : Int) (q r : Nat) : Nat → Int := fun t => C * q + if t ≤ r then C else 0

theorem rv_next {k : Nat} {C : Int} {q r : Nat} (hC : 1 ≤ C) (hr : r < k) (hk : k ≤ 16) (c : Nat → Int) : next (mkT k c (rv C q r)) noG = (r + 1, C * q) := by
  have e : first (mkT k c (rv C q r)) 0 = r + 1 := mkT_first_is (r + 1) (by omega) (by omega) (by omega) (fun t h1 h2 => by
    unfold rv
    rw [if_neg (show ¬ r + 1 ≤ r by omega)]
    by_cases h : t ≤ r
    · rw [if_pos h]; left; omega
    · rw [if_neg h]; right; exact ⟨rfl, by omega⟩)
  rw [mkT_next (by omega) (by omega), e]
  unfold rv
  rw [if_neg (show ¬ r + 1 ≤ r by omega)]
  simp

theorem rv_tick {k : Nat} {C : Int} {q r : Nat} (hr : r < k) : tickT (mkT k (fun _ => C) (rv C q r)) (r + 1) = if r + 1 = k then mkT k (fun _ => C) (rv C (q + 1) 0) else mkT k (fun _ => C) (rv C q (r + 1)) := by
  rw [mkT_tick (by omega) (by omega)]
  split
  · rename_i e
    refine mkT_congr (fun t h1 h2 => ⟨rfl, ?_⟩)
    unfold upd rv
    rw [if_neg (show ¬ t ≤ 0 by omega), if_neg (show ¬ r + 1 ≤ r by omega), Int.natCast_add, Int.mul_add]
    by_cases h : t = r + 1
    · rw [if_pos h]; simp
    · rw [if_neg h, if_pos (by omega)]; simp
  · rename_i e
    refine mkT_congr (fun t h1 h2 => ⟨rfl, ?_⟩)
    unfold upd rv
    rw [if_neg (show ¬ r + 1 ≤ r by omega)]
    by_cases h : t = r + 1
    · rw [if_pos h, if_pos (by omega)]; simp
    · rw [if_neg h]
      by_cases h' : t ≤ r
      · rw [if_pos h', if_pos (by omega)]
      · rw [if_neg h', if_neg (by omega)]

theorem bare_same {x : Int} {xs : List Int} {k : Nat} (h : ∀ j, j < k → xs.getD j 0 = x) : bareT xs k = mkT k (fun _ => costOf (wOf x)) (rv (costOf (wOf x)) 0 0) := by
  unfold bareT
  refine mkT_congr (fun t h1 h2 => ⟨?_, ?_⟩)
  · unfold cw; rw [h (t - 1) (by omega)]
  · unfold rv; rw [if_neg (by omega)]; simp

set_option maxHeartbeats 1000000 in
theorem rv_fit {k q r : Nat} {C : Int} (hC : 1 ≤ C ∧ C ≤ 1048576) (hk : k ≤ 16) (hq : q ≤ 1000) : Fit (mkT k (fun _ => C) (rv C q r)) noG 2000000000 := by
  have h1 : 0 ≤ C * q := Int.mul_nonneg (by omega) (by omega)
  have h2 : C * q ≤ 1048576 * 1000 := Int.mul_le_mul hC.2 (by omega) (by omega) (by omega)
  refine mkT_fit hk (fun t _ _ => hC) (fun t _ _ => ?_) (by omega)
  unfold rv
  split <;> omega

set_option maxRecDepth 100000 in
theorem alike_any (a0 a1 a2 : Int) (w : World) :
    Calls Try.prog 5 #[.int .i64 a0, .int .i64 a1, .int .i64 a2] w (fun e w' => e = .returned (.bool true) ∧ Below w.heap.size w w') := by
  obtain ⟨k, hk⟩ : ∃ k : Nat, 1 + restOf a0 16 = k := ⟨(1 + restOf a0 16).toNat, by have := restOf_lo a0 16 (by omega); omega⟩
  have hk1 : 1 ≤ k ∧ k ≤ 16 := by have := restOf_lo a0 16 (by omega); have := restOf_hi a0 16 (by omega); omega
  have c0 := fun w => rest_any a0 16 (by omega) (by omega) w
  have e0 : restOf a0 16 = k - 1 := by omega
  rw [e0] at c0
  have C0 := Lib.hid c0
  have HK := Lib.hid hk1
  have C1 := Lib.hid (fun w => rest_any a1 100 (by omega) (by omega) w)
  obtain ⟨n, hn⟩ : ∃ n : Nat, restOf a2 200 = n := ⟨(restOf a2 200).toNat, by have := restOf_lo a2 200 (by omega); omega⟩
  have hn1 : n < 200 := by have := restOf_hi a2 200 (by omega); omega
  have c2 := fun w => rest_any a2 200 (by omega) (by omega) w
  rw [hn] at c2
  have C2 := Lib.hid c2
  clear c0 c2 hk e0 hn
  generalize restOf a1 100 = x at *
  have mk := run_mk k (by omega)
  have ek : 1 + ((k : Int) - 1) = k := by omega
  go_enter Try.func5, Try.ntmps5
  go_wp2_with (first
    | (go_at_call 27; (with_reducible refine (begun_any _).mono ?_); rintro e w1 ⟨rfl, hO⟩; have HO := Lib.hid hO; clear hO)
    | (go_at_call 30; (with_reducible refine (C0.out _).mono ?_); rintro e w2 ⟨rfl, rfl⟩)
    | (go_at_call 30; (with_reducible refine (C1.out _).mono ?_); rintro e w2 ⟨rfl, rfl⟩))
  have HB := Lib.hid (BlockOf.new w1 (List.replicate k 0))
  have HO2 := Lib.hid (HO.out.alloc (.cells (numCells (List.replicate k 0)).toArray 3))
  have HG := Lib.hid HO.out.size
  clear mk HO
  generalize w1.alloc (.cells (numCells (List.replicate k 0)).toArray 3) = w2 at *
  generalize w1.heap.size = g at *
  go_loopw [25] (fun i wr => ∃ (j : Nat) (ys : List Int), j ≤ k ∧ i = .int .i64 j ∧ BlockOf wr g ys ∧ (ys.length = k ∧ ∀ i, i < j → ys.getD i 0 = x) ∧ Only (fun _ => False) w wr) (fun i _ => k - (intOf i).toNat)
  case atStart => exact ⟨0, _, by omega, rfl, HB.out, ⟨by simp, fun i h => absurd h (Nat.not_lt_zero _)⟩, HO2.out⟩
  case round =>
    obtain ⟨j, ys, hj, rfl, hB, hY, hO⟩ := hrel
    have HB2 := Lib.hid hB
    have HY := Lib.hid hY
    have HO3 := Lib.hid hO
    clear hB hY hO
    by_cases hlt : j < k
    · have g1 : (j : Int) < k := by omega
      have g2 : (0 : Int) ≤ j := by omega
      have ce := HB2.out.cell (j := j) (by rw [HY.out.1]; exact hlt)
      have fz := HB2.out.frozen j
      go_wp2_with fail
      go_roundw
      case rel =>
        refine ⟨j + 1, ys.set j x, by omega, by go_num, HB2.out.set j x, ⟨by rw [List.length_set]; exact HY.out.1, fun i hi => ?_⟩, only_new HO3.out (only_set1 (p := g) (Only.refl _ _) j _) HG.out⟩
        by_cases e : i = j
        · subst e; simp [List.getD, HY.out.1, hlt]
        · have := HY.out.2 i (by omega)
          rw [← this]; simp [List.getD, List.getElem?_set_ne (Ne.symm e)]
      case measure => simp [intOf]; omega
    · obtain rfl : j = k := by omega
      have hN := HB2.out.nums j
      rw [HY.out.1] at hN
      have cf := Lib.hid (fairs_any _ j j ys _ hN HY.out.1 hk1.2)
      have HE := Lib.hid (bare_same (k := j) HY.out.2)
      have hC := costOf_ok (wOf_ok x)
      rw [HE.out] at cf
      have HC := Lib.hid hC
      clear hN hC HE
      go_wp2_with (first
        | (go_at_call 28; (with_reducible refine cf.out.mono ?_); rintro e w4 ⟨p, rfl, hp, hF, hO⟩; have HF := Lib.hid hF; have HO4 := Lib.hid (only_trans HO3.out hO); have HP := Lib.hid (Nat.le_trans HO3.out.size hp); clear hF hO hp)
        | (go_at_call 30; (with_reducible refine (C2.out _).mono ?_); rintro e w5 ⟨rfl, rfl⟩))
      generalize costOf (wOf x) = C at *
      clear HB2 HY HO3 hk1 HG HB HO2
      go_loopw [42] (fun i wr => ∃ (h q r : Nat), h ≤ n ∧ i = .int .i64 h ∧ (h = q * j + r ∧ r < j) ∧ FairAt wr p (mkT j (fun _ => C) (rv C q r)) noG ∧ Only (fun _ => False) w wr) (fun i _ => n - (intOf i).toNat)
      case atStart => exact ⟨0, 0, 0, by omega, rfl, ⟨by omega, by have := HK.out; omega⟩, HF.out, HO4.out⟩
      case round =>
        obtain ⟨h, q, r, hh, rfl, hqr, hF, hO⟩ := hrel
        have HQ := Lib.hid hqr
        have HF2 := Lib.hid hF
        have HO5 := Lib.hid hO
        clear hF hO hqr
        by_cases hlt : h < n
        · have hj0 : 1 ≤ j := by have := HQ.out.2; omega
          have hq : q ≤ 1000 := by
            have := HQ.out.1
            have h2 : q * 1 ≤ q * j := Nat.mul_le_mul_left q hj0
            omega
          have em : h % j = r := by rw [HQ.out.1, Nat.mul_comm, Nat.mul_add_mod, Nat.mod_eq_of_lt HQ.out.2]
          have em2 : (h : Int) % (j : Int) = r := by omega
          have em3 : (h : Int).tmod (j : Int) = r := by rw [Int.tmod_eq_emod_of_nonneg (by omega)]; exact em2
          have HT := Lib.hid (rv_tick (C := C) (q := q) HQ.out.2)
          have ct := Lib.hid (tick_is HF2.out (rv_fit (by have := HC.out; omega) HK.out.2 hq) (by omega) (rv_next (by have := HC.out; omega) HQ.out.2 HK.out.2 _) (by omega) (k := (r : Int) + 1) rfl HT.out (mkT_tickG (by omega) (by have := HQ.out.2; omega)))
          have j1 : (0 : Int) < j := by omega
          have h1 : (h : Int) < n := by omega
          have j2 : ¬ (j : Int) = 0 := by omega
          have r1 : r < 16 := by have := HQ.out.2; have := HK.out.2; omega
          clear em
          go_wp2_with (go_at_call 23; (with_reducible refine ct.out.mono ?_); rintro e w6 ⟨rfl, hF3, hO6⟩; have HF3 := Lib.hid hF3; have HO6 := Lib.hid (only_new HO5.out hO6 HP.out); clear hF3 hO6)
          go_roundw
          case rel =>
            have hF := HF3.out
            have e := HQ.out
            by_cases er : r + 1 = j
            · rw [if_pos er] at hF
              exact ⟨h + 1, q + 1, 0, by omega, by go_num, ⟨by rw [Nat.add_mul]; omega, by omega⟩, hF, HO6.out⟩
            · rw [if_neg er] at hF
              exact ⟨h + 1, q, r + 1, by omega, by go_num, ⟨by omega, by omega⟩, hF, HO6.out⟩
          case measure => simp [intOf]; omega
        · go_wp2_with fail
          go_ret
          exact ⟨rfl, Only.below HO5.out (Nat.le_refl _) (fun _ e => e.elim)⟩
end Go.Proofs.Ytkjcaainbomemaa.Fr
