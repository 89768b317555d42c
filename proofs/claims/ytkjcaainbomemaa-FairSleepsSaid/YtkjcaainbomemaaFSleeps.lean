/- The walk of FairSleeps. -/
import Derived.Test.YtkjcaainbomemaaFFlat
namespace Go.Proofs.Ytkjcaainbomemaa.Fr
open Go.ChangeShapes Go.WideShapes Go.ChangeAt Go.RowKit Go.Maps
open Go.Proofs.Ytkjcaainbomemaa.Vt
set_option linter.unusedVariables false

/-- Tasks 1 to k are ready. -/
def bK (k : Nat) : Nat → Bool := fun t => decide (1 ≤ t ∧ t ≤ k)
/-- Tasks 1 to k, each of which a tick costs C. -/
def cK (k : Nat) (C : Int) : Nat → Int := fun t => if 1 ≤ t ∧ t ≤ k then C else 0

theorem bK_yes {k t : Nat} (h1 : 1 ≤ t) (h2 : t ≤ k) : bK k t = true := decide_eq_true ⟨h1, h2⟩
theorem bK_in {k t : Nat} (h : bK k t = true) : 1 ≤ t ∧ t ≤ k := of_decide_eq_true h
theorem bK_few {k : Nat} (hk : k ≤ 16) : Few (bK k) := fun t h => by have := bK_in h; omega
theorem bA_in {k who t : Nat} (h : upd (bK k) who false t = true) : 1 ≤ t ∧ t ≤ k ∧ t ≠ who := by
  unfold upd at h
  by_cases e : t = who
  · rw [if_pos e] at h; cases h
  · rw [if_neg e] at h; have := bK_in h; exact ⟨this.1, this.2, e⟩
theorem bA_few {k who : Nat} (hk : k ≤ 16) : Few (upd (bK k) who false) := fun t h => by have := bA_in h; omega
theorem bA_yes {k who : Nat} (hk : 2 ≤ k) : ∃ i, upd (bK k) who false i = true := by
  by_cases e : who = 1
  · exact ⟨2, by unfold upd; rw [if_neg (by omega)]; exact bK_yes (by omega) hk⟩
  · exact ⟨1, by unfold upd; rw [if_neg (by omega)]; exact bK_yes (by omega) (by omega)⟩
theorem cK_in {k t : Nat} {C : Int} (h1 : 1 ≤ t) (h2 : t ≤ k) : cK k C t = C := if_pos ⟨h1, h2⟩
theorem cK_bd {k : Nat} {C : Int} (hC : 10485 ≤ C ∧ C ≤ 1048576) (t : Nat) : 0 ≤ cK k C t ∧ cK k C t ≤ 1048576 := by unfold cK; split <;> omega

/-- While somebody sleeps. -/
structure Asleep (k who : Nat) (C : Int) (v : Nat → Int) (h : Nat) : Prop where
  near : Near v (upd (bK k) who false) C
  own : v who = 0
  bd : ∀ t, 0 ≤ v t ∧ v t ≤ 1048576 * h

theorem Asleep.fit {k who h : Nat} {C : Int} {v : Nat → Int} (hS : Asleep k who C v h) (hk : k ≤ 16) (hC : 10485 ≤ C ∧ C ≤ 1048576) (hh : h ≤ 1000) : Fit (flat (cK k C) v (upd (bK k) who false)) noG 1048576000 :=
  flat_fit (bA_few hk) (cK_bd hC) (by unfold cK; rw [if_neg (by omega)]) (fun t ht => by have := bA_in ht; rw [cK_in this.1 this.2.1]; omega) (fun t => by have := hS.bd t; omega) (by omega)

theorem Asleep.tick {k who h : Nat} {C : Int} {v : Nat → Int} (hS : Asleep k who C v h) (hk2 : 2 ≤ k) (hk : k ≤ 16) (hC : 10485 ≤ C ∧ C ≤ 1048576) {n : Nat} (hn : first (flat (cK k C) v (upd (bK k) who false)) 0 = n) :
    (1 ≤ n ∧ n ≤ k ∧ n ≠ who) ∧ Asleep k who C (upd v n (v n + cK k C n)) (h + 1) := by
  obtain ⟨i, hi⟩ := bA_yes (who := who) hk2
  have h1 := (flat_first (c := cK k C) (v := v) (bA_few hk) hi).1
  have h2 := near_tick (c := cK k C) hS.near (bA_few hk) hi (fun t ht => by have := bA_in ht; rw [cK_in this.1 this.2.1]; omega)
  rw [hn] at h1 h2
  have h3 := bA_in h1
  refine ⟨h3, h2, by rw [upd_other _ _ (Ne.symm h3.2.2)]; exact hS.own, fun t => ?_⟩
  have h4 := hS.bd t
  have h5 := hS.bd n
  have h6 := cK_bd (k := k) hC n
  unfold upd
  split <;> omega

/-- When he wakes up. -/
structure Awake (k who : Nat) (C m : Int) (v0 v : Nat → Int) (h g : Nat) : Prop where
  near : Near v (bK k) C
  own : v who = m + C * g
  sum : sumF v k = sumF v0 k + C * h
  bd : ∀ t, 0 ≤ v t ∧ v t ≤ 1048576 * (h + 1000)
  few : g ≤ h

theorem Asleep.wake {k who h : Nat} {C : Int} {v : Nat → Int} (hS : Asleep k who C v h) (hk2 : 2 ≤ k) (hk : k ≤ 16) (h1 : 1 ≤ who) (h2 : who ≤ k) (hC : 10485 ≤ C ∧ C ≤ 1048576) (hh : h ≤ 1000) :
    ∃ m v0, wokeT (flat (cK k C) v (upd (bK k) who false)) noG who = flat (cK k C) v0 (bK k) ∧ (∀ t, 1 ≤ t → t ≤ k → m ≤ v0 t ∧ v0 t ≤ m + C) ∧ v0 who = m ∧ Awake k who C m v0 v0 0 0 := by
  obtain ⟨i, hi⟩ := bA_yes (who := who) hk2
  obtain ⟨q1, q2, q3, q4⟩ := flat_first (c := cK k C) (v := v) (bA_few hk) hi
  have hn := flat_next (c := cK k C) (v := v) (G := noG) (bA_few hk) hi
  generalize first (flat (cK k C) v (upd (bK k) who false)) 0 = n at *
  have hm := hS.bd n
  have e1 : max (v who) (v n) = v n := by rw [hS.own]; omega
  have hlo : ∀ t, 1 ≤ t → t ≤ k → v n ≤ upd v who (v n) t ∧ upd v who (v n) t ≤ v n + C := by
    intro t t1 t2
    unfold upd
    by_cases e : t = who
    · rw [if_pos e]; omega
    · rw [if_neg e]
      have ht : upd (bK k) who false t = true := by rw [upd_other _ _ e]; exact bK_yes t1 t2
      have := q4 t ht
      have := hS.near t n ht q1
      omega
  refine ⟨v n, upd v who (v n), ?_, hlo, upd_same _ _ _, ?_⟩
  · rw [flat_wake, hn, upd_upd]
    show flat (cK k C) (upd v who (max (v who) (v n))) (upd (bK k) who true) = _
    rw [e1]
    congr 1
    funext t
    unfold upd
    split
    · rename_i e; subst e; exact (bK_yes h1 h2).symm
    · rfl
  · refine ⟨fun i j hi hj => ?_, by rw [upd_same]; simp, by simp, fun t => ?_, Nat.le_refl _⟩
    · have a := bK_in hi
      have b := bK_in hj
      have := hlo i a.1 a.2
      have := hlo j b.1 b.2
      omega
    · have := hS.bd t
      unfold upd; split <;> omega

theorem Awake.fit {k who h g : Nat} {C m : Int} {v0 v : Nat → Int} (hS : Awake k who C m v0 v h g) (hk : k ≤ 16) (hC : 10485 ≤ C ∧ C ≤ 1048576) (hh : h ≤ 16) : Fit (flat (cK k C) v (bK k)) noG 1100000000 :=
  flat_fit (bK_few hk) (cK_bd hC) (by unfold cK; rw [if_neg (by omega)]) (fun t ht => by have := bK_in ht; rw [cK_in this.1 this.2]; omega) (fun t => by have := hS.bd t; omega) (by omega)

theorem Awake.tick {k who h g : Nat} {C m : Int} {v0 v : Nat → Int} (hS : Awake k who C m v0 v h g) (hk1 : 1 ≤ k) (hk : k ≤ 16) (hC : 10485 ≤ C ∧ C ≤ 1048576) {n : Nat} (hn : first (flat (cK k C) v (bK k)) 0 = n) :
    (1 ≤ n ∧ n ≤ k) ∧ Awake k who C m v0 (upd v n (v n + cK k C n)) (h + 1) (if n = who then g + 1 else g) := by
  have hi : bK k 1 = true := bK_yes (by omega) hk1
  have h1 := (flat_first (c := cK k C) (v := v) (bK_few hk) hi).1
  have h2 := near_tick (c := cK k C) hS.near (bK_few hk) hi (fun t ht => by have := bK_in ht; rw [cK_in this.1 this.2]; omega)
  rw [hn] at h1 h2
  have h3 := bK_in h1
  have e := cK_in (C := C) h3.1 h3.2
  refine ⟨h3, h2, ?_, ?_, fun t => ?_, ?_⟩
  · by_cases q : n = who
    · subst q; rw [upd_same, if_pos rfl, e, hS.own, Int.natCast_add, Int.mul_add]; simp; omega
    · rw [upd_other _ _ (Ne.symm q), if_neg q, hS.own]
  · rw [sumF_upd, if_pos h3, hS.sum, e, Int.natCast_add, Int.mul_add]; simp; omega
  · have h4 := hS.bd t
    have h5 := hS.bd n
    have h6 := cK_bd (k := k) hC n
    unfold upd
    split <;> omega
  · have := hS.few; split <;> omega

theorem Awake.done {k who g : Nat} {C m : Int} {v0 v : Nat → Int} (hS : Awake k who C m v0 v k g) (h1 : 1 ≤ who) (h2 : who ≤ k) (hC : 1 ≤ C) (h0 : ∀ t, 1 ≤ t → t ≤ k → m ≤ v0 t ∧ v0 t ≤ m + C) (hw : v0 who = m) : 1 ≤ g ∧ g ≤ 2 := by
  have hs := hS.sum
  have ho := hS.own
  have hw1 := bK_yes h1 h2
  constructor
  · apply Decidable.byContradiction
    intro hg
    obtain rfl : g = 0 := by omega
    have hle : sumF v k ≤ sumF (upd (fun t => v0 t + C) who (v0 who)) k := sumF_le (fun t t1 t2 => by
      have := hS.near t who (bK_yes t1 t2) hw1
      have := h0 t t1 t2
      by_cases e : t = who
      · subst e; rw [upd_same]; simp at ho; omega
      · rw [upd_other _ _ e]; simp at ho; omega)
    rw [sumF_upd, if_pos ⟨h1, h2⟩, sumF_more] at hle
    omega
  · apply Decidable.byContradiction
    intro hg
    have h3 : C * 3 ≤ C * g := Int.mul_le_mul_of_nonneg_left (by omega) (by omega)
    have hle : sumF (upd (fun t => v0 t + C) who (v0 who + 3 * C)) k ≤ sumF v k := sumF_le (fun t t1 t2 => by
      have := hS.near who t hw1 (bK_yes t1 t2)
      have := h0 t t1 t2
      by_cases e : t = who
      · subst e; rw [upd_same]; omega
      · rw [upd_other _ _ e]; omega)
    rw [sumF_upd, if_pos ⟨h1, h2⟩, sumF_more] at hle
    omega

theorem bare_flat {x : Int} {xs : List Int} {k : Nat} (h : ∀ j, j < k → xs.getD j 0 = x) : bareT xs k = flat (cK k (costOf (wOf x))) (fun _ => 0) (bK k) := by
  rw [bare_same h, mkT_flat]
  unfold cK bK rv
  congr 1
  funext t
  by_cases q : 1 ≤ t ∧ t ≤ k
  · rw [if_pos q, if_neg (by omega)]; simp
  · rw [if_neg q]

set_option maxRecDepth 100000 in
theorem sleeps_any (a0 a1 a2 a3 : Int) (w : World) :
    Calls Try.prog 6 #[.int .i64 a0, .int .i64 a1, .int .i64 a2, .int .i64 a3] w (fun e w' => e = .returned (.bool true) ∧ Below w.heap.size w w') := by
  obtain ⟨k, hk⟩ : ∃ k : Nat, 2 + restOf a0 15 = k := ⟨(2 + restOf a0 15).toNat, by have := restOf_lo a0 15 (by omega); omega⟩
  have hk1 : 2 ≤ k ∧ k ≤ 16 := by have := restOf_lo a0 15 (by omega); have := restOf_hi a0 15 (by omega); omega
  have c0 := fun w => rest_any a0 15 (by omega) (by omega) w
  have e0 : restOf a0 15 = k - 2 := by omega
  rw [e0] at c0
  have C0 := Lib.hid c0
  have HK := Lib.hid hk1
  have C1 := Lib.hid (fun w => rest_any a1 100 (by omega) (by omega) w)
  obtain ⟨n, hn⟩ : ∃ n : Nat, restOf a3 300 = n := ⟨(restOf a3 300).toNat, by have := restOf_lo a3 300 (by omega); omega⟩
  have hn1 : n < 300 := by have := restOf_hi a3 300 (by omega); omega
  have c2 := fun w => rest_any a3 300 (by omega) (by omega) w
  rw [hn] at c2
  have C2 := Lib.hid c2
  obtain ⟨who, hwho⟩ : ∃ who : Nat, 1 + restOf a2 k = who := ⟨(1 + restOf a2 k).toNat, by have := restOf_lo a2 k (by omega); omega⟩
  have hw1 : 1 ≤ who ∧ who ≤ k := by have := restOf_lo a2 k (by omega); have := restOf_hi a2 k (by omega); omega
  have c3 := fun w => rest_any a2 k (by omega) (by omega) w
  have e3 : restOf a2 k = who - 1 := by omega
  rw [e3] at c3
  have C3 := Lib.hid c3
  have HW := Lib.hid hw1
  clear c0 c2 c3 hk e0 hn e3 hwho
  generalize restOf a1 100 = x at *
  have mk := run_mk k (by omega)
  have ek : 2 + ((k : Int) - 2) = k := by omega
  have ew : 1 + ((who : Int) - 1) = who := by omega
  have hw2 : (who : Int) ≤ 16 := by omega
  clear hw1
  go_enter Try.func6, Try.ntmps6
  go_wp2_with (first
    | (go_at_call 27; (with_reducible refine (begun_any _).mono ?_); rintro e w1 ⟨rfl, hO⟩; have HO := Lib.hid hO; clear hO)
    | (go_at_call 30; (with_reducible refine (C0.out _).mono ?_); rintro e w2 ⟨rfl, rfl⟩)
    | (go_at_call 30; (with_reducible refine (C1.out _).mono ?_); rintro e w2 ⟨rfl, rfl⟩))
  have HB := Lib.hid (BlockOf.new w1 (List.replicate k 0))
  have HO2 := Lib.hid (HO.out.alloc (.cells (numCells (List.replicate k 0)).toArray 3))
  have HG := Lib.hid HO.out.size
  clear mk HO
  generalize w1.alloc (.cells (numCells (List.replicate k 0)).toArray 3) = w2 at *
  generalize w1.heap.size = g at *
  go_loopw [29] (fun i wr => ∃ (j : Nat) (ys : List Int), j ≤ k ∧ i = .int .i64 j ∧ BlockOf wr g ys ∧ (ys.length = k ∧ ∀ i, i < j → ys.getD i 0 = x) ∧ Only (fun _ => False) w wr) (fun i _ => k - (intOf i).toNat)
  case atStart => exact ⟨0, _, by omega, rfl, HB.out, ⟨by simp, fun i h => absurd h (Nat.not_lt_zero _)⟩, HO2.out⟩
  case round =>
    obtain ⟨j, ys, hj, rfl, hB, hY, hO⟩ := hrel
    have HB2 := Lib.hid hB
    have HY := Lib.hid hY
    have HO3 := Lib.hid hO
    clear hB hY hO
    by_cases hlt : j < k
    · have g1 : (j : Int) < k := by omega
      have g2 : (0 : Int) ≤ j := by omega
      have ce := HB2.out.cell (j := j) (by rw [HY.out.1]; exact hlt)
      have fz := HB2.out.frozen j
      go_wp2_with fail
      go_roundw
      case rel =>
        refine ⟨j + 1, ys.set j x, by omega, by go_num, HB2.out.set j x, ⟨by rw [List.length_set]; exact HY.out.1, fun i hi => ?_⟩, only_new HO3.out (only_set1 (p := g) (Only.refl _ _) j _) HG.out⟩
        by_cases e : i = j
        · subst e; simp [List.getD, HY.out.1, hlt]
        · have := HY.out.2 i (by omega)
          rw [← this]; simp [List.getD, List.getElem?_set_ne (Ne.symm e)]
      case measure => simp [intOf]; omega
    · obtain rfl : j = k := by omega
      have hN := HB2.out.nums j
      rw [HY.out.1] at hN
      have cf := Lib.hid (fairs_any _ j j ys _ hN HY.out.1 hk1.2)
      have HE := Lib.hid (bare_flat (k := j) HY.out.2)
      have hC := costOf_ok (wOf_ok x)
      rw [HE.out] at cf
      have HC := Lib.hid hC
      clear hN hC HE
      generalize costOf (wOf x) = C at *
      go_wp2_with (first
        | (go_at_call 28; (with_reducible refine cf.out.mono ?_); rintro e w4 ⟨p, rfl, hp, hF, hO⟩; have HF := Lib.hid hF; have HO4 := Lib.hid (only_trans HO3.out hO); have HP := Lib.hid (Nat.le_trans HO3.out.size hp); have CB := Lib.hid (block_flat HF.out who HW.out.1 (Nat.le_trans HW.out.2 HK.out.2) (by rw [cK_in HW.out.1 HW.out.2]; have := HC.out; omega) (bK_yes HW.out.1 HW.out.2)); clear hF hO hp)
        | (go_at_call 21; (with_reducible refine CB.out.mono ?_); rintro e w5 ⟨rfl, hF5, hO5⟩; have HF5 := Lib.hid hF5; have HO5 := Lib.hid (only_new HO4.out hO5 HP.out); clear hF5 hO5)
        | (go_at_call 30; (with_reducible refine (C3.out _).mono ?_); rintro e w5 ⟨rfl, rfl⟩)
        | (go_at_call 30; (with_reducible refine (C2.out _).mono ?_); rintro e w5 ⟨rfl, rfl⟩))
      clear HB2 HY HO3 hk1 HG HB HO2 CB
      go_loopw [56] (fun i wr => ∃ (h : Nat) (v : Nat → Int), h ≤ n ∧ i = .int .i64 h ∧ Asleep j who C v h ∧ FairAt wr p (flat (cK j C) v (upd (bK j) who false)) noG ∧ Only (fun _ => False) w wr) (fun i _ => n - (intOf i).toNat)
      case atStart => exact ⟨0, _, by omega, rfl, ⟨fun i j _ _ => by have := HC.out; omega, rfl, fun t => by simp⟩, HF5.out, HO5.out⟩
      case round =>
        obtain ⟨h, v, hh, rfl, hS, hF, hO⟩ := hrel
        have HS := Lib.hid hS
        have HF2 := Lib.hid hF
        have HO6 := Lib.hid hO
        clear hS hF hO
        by_cases hlt : h < n
        · obtain ⟨n0, hn0⟩ : ∃ n0, first (flat (cK j C) v (upd (bK j) who false)) 0 = n0 := ⟨_, rfl⟩
          have ht := HS.out.tick HK.out.1 HK.out.2 HC.out hn0
          obtain ⟨i0, hi0⟩ := bA_yes (who := who) HK.out.1
          have ct := Lib.hid (tick_flat HF2.out (HS.out.fit HK.out.2 HC.out (by omega)) (by omega) (bA_few HK.out.2) hi0 hn0 (x := n0) rfl)
          have HT := Lib.hid ht
          have q1 : ((n0 : Int) == (who : Int)) = false := by have := ht.1.2.2; simp; omega
          have h1 : (h : Int) < n := by omega
          clear ht hn0 hi0
          go_wp2_with (go_at_call 23; (with_reducible refine ct.out.mono ?_); rintro e w6 ⟨rfl, hF3, hO6⟩; have HF3 := Lib.hid hF3; have HO7 := Lib.hid (only_new HO6.out hO6 HP.out); clear hF3 hO6)
          go_roundw
          case rel => exact ⟨h + 1, _, by omega, by go_num, HT.out.2, HF3.out, HO7.out⟩
          case measure => simp [intOf]; omega
        · obtain rfl : h = n := by omega
          obtain ⟨m, v0, hw1, hw2, hw3, hw4⟩ := HS.out.wake HK.out.1 HK.out.2 HW.out.1 HW.out.2 HC.out (by omega)
          have CW := Lib.hid (wake_flat HF2.out who HW.out.1 (Nat.le_trans HW.out.2 HK.out.2) (by rw [cK_in HW.out.1 HW.out.2]; have := HC.out; omega) (by rw [upd_same]))
          rw [hw1] at CW
          have H2 := Lib.hid hw2
          have H3 := Lib.hid hw3
          have H4 := Lib.hid hw4
          clear hw1 hw2 hw3 hw4
          go_wp2_with (first
            | (go_at_call 22; (with_reducible refine CW.out.mono ?_); rintro e w8 ⟨rfl, hF8, hO8⟩; have HF8 := Lib.hid hF8; have HO8 := Lib.hid (only_new HO6.out hO8 HP.out); clear hF8 hO8))
          clear CW HF2 HF5 HF cf HS
          go_loopw [15, 76] (fun gv i wr => ∃ (l g : Nat) (v : Nat → Int), l ≤ j ∧ i = .int .i64 l ∧ gv = .int .i64 g ∧ Awake j who C m v0 v l g ∧ FairAt wr p (flat (cK j C) v (bK j)) noG ∧ Only (fun _ => False) w wr) (fun _ i _ => j - (intOf i).toNat)
          case atStart => exact ⟨0, 0, _, by omega, rfl, rfl, H4.out, HF8.out, HO8.out⟩
          case round =>
            obtain ⟨l, gv, v2, hl, rfl, rfl, hS, hF, hO⟩ := hrel
            have HS := Lib.hid hS
            have HF9 := Lib.hid hF
            have HO9 := Lib.hid hO
            have hgl := hS.few
            clear hS hF hO
            by_cases hlt2 : l < j
            · obtain ⟨n0, hn0⟩ : ∃ n0, first (flat (cK j C) v2 (bK j)) 0 = n0 := ⟨_, rfl⟩
              have ht := HS.out.tick (by have := HK.out; omega) HK.out.2 HC.out hn0
              have ct := Lib.hid (tick_flat HF9.out (HS.out.fit HK.out.2 HC.out (by have := HK.out; omega)) (by omega) (bK_few HK.out.2) (bK_yes (Nat.le_refl 1) (by have := HK.out; omega)) hn0 (x := n0) rfl)
              have h1 : (l : Int) < j := by omega
              have l16 : (l : Int) < 16 := by have := HK.out; omega
              by_cases q : n0 = who
              · rw [if_pos q] at ht
                have HT := Lib.hid ht
                have q1 : ((n0 : Int) == (who : Int)) = true := by simp [q]
                clear ht hn0 q
                go_wp2_with (go_at_call 23; (with_reducible refine ct.out.mono ?_); rintro e w6 ⟨rfl, hF3, hO6⟩; have HF3 := Lib.hid hF3; have HO7 := Lib.hid (only_new HO9.out hO6 HP.out); clear hF3 hO6)
                go_roundw
                case rel => exact ⟨l + 1, gv + 1, _, by omega, by go_num, by go_num, HT.out.2, HF3.out, HO7.out⟩
                case measure => simp [intOf]; omega
              · rw [if_neg q] at ht
                have HT := Lib.hid ht
                have q1 : ((n0 : Int) == (who : Int)) = false := by simp; omega
                clear ht hn0 q
                go_wp2_with (go_at_call 23; (with_reducible refine ct.out.mono ?_); rintro e w6 ⟨rfl, hF3, hO6⟩; have HF3 := Lib.hid hF3; have HO7 := Lib.hid (only_new HO9.out hO6 HP.out); clear hF3 hO6)
                go_roundw
                case rel => exact ⟨l + 1, gv, _, by omega, by go_num, rfl, HT.out.2, HF3.out, HO7.out⟩
                case measure => simp [intOf]; omega
            · obtain rfl : l = j := by omega
              have hd := HS.out.done HW.out.1 HW.out.2 (by have := HC.out; omega) H2.out H3.out
              have d1 : (1 : Int) ≤ gv := by omega
              have d2 : (gv : Int) ≤ 2 := by omega
              clear hd
              go_wp2_with fail
              go_ret
              exact ⟨by simp, Only.below HO9.out (Nat.le_refl _) (fun _ e => e.elim)⟩
end Go.Proofs.Ytkjcaainbomemaa.Fr
