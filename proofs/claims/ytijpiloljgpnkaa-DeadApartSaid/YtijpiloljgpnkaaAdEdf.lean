/- Liu and Layland, without memory: what fits is never late; what does not is late by the end of a round. -/
import Derived.Test.YtijpiloljgpnkaaAdLateP
namespace Go.Proofs.Ytijpiloljgpnkaa.Ad
set_option linter.unusedVariables false

/-- The sum of the first k. -/
def sumK (g : Nat → Nat) : Nat → Nat
  | 0 => 0
  | k + 1 => sumK g k + g k

theorem sumK_le {g h : Nat → Nat} : ∀ {k : Nat}, (∀ i, i < k → g i ≤ h i) → sumK g k ≤ sumK h k
  | 0, _ => Nat.le_refl _
  | k + 1, H => Nat.add_le_add (sumK_le (fun i hi => H i (by omega))) (H k (by omega))
theorem sumK_less {g h : Nat → Nat} {N j : Nat} : ∀ {k : Nat}, (∀ i, i < k → g i ≤ h i) → j < k → g j + N ≤ h j → sumK g k + N ≤ sumK h k
  | k + 1, H, hj, hN => by
    show sumK g k + g k + N ≤ sumK h k + h k
    by_cases e : j = k
    · subst e
      have := sumK_le (k := j) (fun i hi => H i (by omega))
      omega
    · have := sumK_less (k := k) (fun i hi => H i (by omega)) (by omega) hN
      have := H k (by omega)
      omega
theorem sumK_one {h : Nat → Nat} {j : Nat} : ∀ {k : Nat}, j < k → h j ≤ sumK h k
  | k + 1, hj => by
    show h j ≤ sumK h k + h k
    by_cases e : j = k
    · subst e; omega
    · have := sumK_one (h := h) (k := k) (j := j) (by omega); omega
theorem sumK_two {h : Nat → Nat} {i j : Nat} (hij : i ≠ j) : ∀ {k : Nat}, i < k → j < k → h i + h j ≤ sumK h k
  | k + 1, hi, hj => by
    show h i + h j ≤ sumK h k + h k
    by_cases e : i = k
    · subst e; have := sumK_one (h := h) (k := i) (j := j) (by omega); omega
    · by_cases e2 : j = k
      · subst e2; have := sumK_one (h := h) (k := j) (j := i) (by omega); omega
      · have := sumK_two (h := h) hij (k := k) (by omega) (by omega); omega
theorem sumK_mul (g : Nat → Nat) (c : Nat) : ∀ k, sumK (fun i => g i * c) k = sumK g k * c
  | 0 => by simp [sumK]
  | k + 1 => by show sumK (fun i => g i * c) k + g k * c = (sumK g k + g k) * c; rw [sumK_mul g c k, Nat.add_mul]
theorem used_sum (S : List Use) (r : Nat) : ∀ k, usedTo S r k = sumK (fun i => r / per (nthU S i) * cst (nthU S i)) k
  | 0 => rfl
  | k + 1 => by show usedTo S r k + _ = sumK _ k + _; rw [used_sum S r k]

theorem cnt_zero {S : List Use} {f : Nat → Nat} {now : Nat} : ∀ {k : Nat}, cntTo S f now k = 0 ↔ ∀ i, i < k → now % per (nthU S i) = 0 → f i = 0
  | 0 => ⟨fun _ i hi => absurd hi (Nat.not_lt_zero _), fun _ => rfl⟩
  | k + 1 => by
    show cntTo S f now k + (if now % per (nthU S k) = 0 ∧ 0 < f k then 1 else 0) = 0 ↔ _
    have ih := cnt_zero (S := S) (f := f) (now := now) (k := k)
    constructor
    · intro h i hi hm
      by_cases e : i = k
      · subst e
        apply Decidable.byContradiction; intro hf
        rw [if_pos ⟨hm, by omega⟩] at h; omega
      · exact ih.1 (by omega) i (by omega) hm
    · intro h
      rw [if_neg (fun q => by have := h k (by omega) q.1; omega), ih.2 (fun i hi => h i (by omega))]

theorem end_now {t p : Nat} (hp : 1 ≤ p) (h : (t + 1) % p = 0) : endAt t p = t + 1 := by
  unfold endAt
  have h1 := Nat.mod_lt t (show 0 < p by omega)
  have h2 : (t + 1) % p = (t % p + 1) % p := by rw [Nat.add_mod, Nat.mod_add_mod]; simp [Nat.add_mod]
  rw [h2] at h
  have h3 : t % p + 1 = p := by
    apply Decidable.byContradiction; intro hh
    rw [Nat.mod_eq_of_lt (by omega)] at h; omega
  omega
theorem end_same {t p : Nat} (hp : 1 ≤ p) (h : ¬ (t + 1) % p = 0) : endAt (t + 1) p = endAt t p := by
  unfold endAt
  have h1 := Nat.mod_lt t (show 0 < p by omega)
  have h2 : (t + 1) % p = t % p + 1 := by
    have h3 : (t + 1) % p = (t % p + 1) % p := by rw [Nat.add_mod, Nat.mod_add_mod]; simp [Nat.add_mod]
    by_cases e : t % p + 1 = p
    · rw [e, Nat.mod_self] at h3; exact absurd h3 h
    · rw [h3, Nat.mod_eq_of_lt (by omega)]
  rw [h2]
  omega
theorem end_again {t p : Nat} (h : (t + 1) % p = 0) : endAt (t + 1) p = t + 1 + p := by
  unfold endAt; rw [h]; rfl

section
variable {S : List Use} {N : Nat}

/-- The share of a task. -/
def shr (N : Nat) (S : List Use) (i : Nat) : Nat := N / per (nthU S i) * cst (nthU S i)
theorem shr_per {i : Nat} (h : per (nthU S i) ∣ N) : shr N S i * per (nthU S i) = N * cst (nthU S i) := by
  unfold shr
  rw [Nat.mul_right_comm, Nat.div_mul_cancel h]

/-- What a task may still want by time D. -/
def wantD (N : Nat) (S : List Use) (f : Nat → Nat) (t D i : Nat) : Nat := if endAt t (per (nthU S i)) ≤ D then N * f i + shr N S i * (D - endAt t (per (nthU S i))) else 0

/-- By any time no more is wanted than there is. -/
def Met (N : Nat) (S : List Use) (f : Nat → Nat) (t : Nat) : Prop := ∀ D, t ≤ D → sumK (wantD N S f t D) S.length ≤ N * (D - t)

theorem met_start (hok : allOk S) (hd : ∀ i, i < S.length → per (nthU S i) ∣ N) (hs : sumK (shr N S) S.length ≤ N) : Met N S (fAt S 0) 0 := by
  intro D _
  have h1 : sumK (wantD N S (fAt S 0) 0 D) S.length ≤ sumK (fun i => shr N S i * D) S.length := sumK_le (fun i hi => by
    have hu := okU_nat (hok i hi)
    unfold wantD
    have he : endAt 0 (per (nthU S i)) = per (nthU S i) := by unfold endAt; simp
    rw [he]
    split
    · rename_i hD
      show N * cst (nthU S i) + _ ≤ _
      rw [← shr_per (hd i hi), ← Nat.mul_add]
      exact Nat.mul_le_mul_left _ (by omega)
    · exact Nat.zero_le _)
  rw [sumK_mul] at h1
  have h2 : sumK (shr N S) S.length * D ≤ N * D := Nat.mul_le_mul_right D hs
  rw [Nat.sub_zero]; omega

/-- Who is picked, and what that leaves. -/
theorem run_pick (S : List Use) (f : Nat → Nat) (t : Nat) : (run S f t = f ∧ ∀ j, j < S.length → f j = 0) ∨
    ∃ i, i < S.length ∧ 0 < f i ∧ run S f t = updN f i (f i - 1) ∧ ∀ j, j < S.length → 0 < f j → endAt t (per (nthU S i)) ≤ endAt t (per (nthU S j)) := by
  rcases pkTo_is S f t S.length with ⟨h1, h2⟩ | ⟨i, h1, h2, h3, -, h5⟩
  · left
    exact ⟨by unfold run pkI; rw [if_neg (by rw [h1]; omega)], h2⟩
  · right
    refine ⟨i, h2, h3, ?_, fun j hj hf => ?_⟩
    · unfold run pkI
      rw [h1, if_pos (by omega), Int.toNat_natCast]
    · rcases h5 j hj hf with h | h <;> omega

/-- Nobody is late at the next time. -/
theorem met_late (hok : allOk S) (hN : 0 < N) {f : Nat → Nat} {t : Nat} (h : Met N S f t) : cnt S (run S f t) (t + 1) = 0 := by
  unfold cnt
  refine cnt_zero.2 (fun i hi hm => ?_)
  have hu := okU_nat (hok i hi)
  have he := end_now hu.2.2.1 hm
  have hD := h (t + 1) (by omega)
  rw [show t + 1 - t = 1 by omega, Nat.mul_one] at hD
  have hw : ∀ j, j < S.length → endAt t (per (nthU S j)) = t + 1 → wantD N S f t (t + 1) j = N * f j := fun j hj e => by
    unfold wantD; rw [if_pos (by omega), e, Nat.sub_self, Nat.mul_zero, Nat.add_zero]
  have h1 : N * f i ≤ N := by rw [← hw i hi he]; exact Nat.le_trans (sumK_one hi) hD
  have h2 : f i ≤ 1 := by
    apply Decidable.byContradiction; intro hh
    have : N * 2 ≤ N * f i := Nat.mul_le_mul_left N (by omega)
    omega
  rcases run_pick S f t with ⟨hr, hz⟩ | ⟨j, hj, hfj, hr, hmin⟩
  · rw [hr]; exact hz i hi
  · rw [hr]
    by_cases e : i = j
    · subst e; rw [updN_same]; omega
    · rw [updN_other _ _ e]
      apply Decidable.byContradiction; intro hfi
      have hej := hmin i hi (by omega)
      have hgt := endAt_gt (now := t) (okU_nat (hok j hj)).2.2.1
      have hej2 : endAt t (per (nthU S j)) = t + 1 := by omega
      have h3 := sumK_two (h := wantD N S f t (t + 1)) e hi hj
      rw [hw i hi he, hw j hj hej2] at h3
      have h4 : N * 1 ≤ N * f i := Nat.mul_le_mul_left N (by omega)
      have h5 : N * 1 ≤ N * f j := Nat.mul_le_mul_left N (by omega)
      omega

theorem met_step (hok : allOk S) (hN : 0 < N) (hd : ∀ i, i < S.length → per (nthU S i) ∣ N) (hs : sumK (shr N S) S.length ≤ N) {f : Nat → Nat} {t : Nat} (h : Met N S f t) : Met N S (rel S (run S f t) (t + 1)) (t + 1) := by
  intro D hD
  have h0 := cnt_zero.1 (show cntTo S (run S f t) (t + 1) S.length = 0 from met_late hok hN h)
  -- behind the release nobody wants more than ahead of it
  have h1 : sumK (wantD N S (rel S (run S f t) (t + 1)) (t + 1) D) S.length ≤ sumK (wantD N S (run S f t) t D) S.length := sumK_le (fun i hi => by
    have hu := okU_nat (hok i hi)
    unfold wantD
    by_cases hm : (t + 1) % per (nthU S i) = 0
    · rw [end_again hm, end_now hu.2.2.1 hm, if_pos hD]
      have hr : rel S (run S f t) (t + 1) i = cst (nthU S i) := by unfold rel relTo; rw [if_pos ⟨hi, hm⟩]
      rw [hr]
      split
      · rename_i hD2
        rw [← shr_per (hd i hi), ← Nat.mul_add]
        exact Nat.le_trans (Nat.mul_le_mul_left _ (by omega)) (Nat.le_add_left _ _)
      · exact Nat.zero_le _
    · rw [end_same hu.2.2.1 hm]
      have hr : rel S (run S f t) (t + 1) i = run S f t i := by unfold rel relTo; rw [if_neg (fun q => hm q.2)]
      rw [hr]
      exact Nat.le_refl _)
  refine Nat.le_trans h1 ?_
  have hidle : (∀ j, j < S.length → endAt t (per (nthU S j)) ≤ D → run S f t j = 0) → sumK (wantD N S (run S f t) t D) S.length ≤ N * (D - (t + 1)) := fun hz => by
    have h2 : sumK (wantD N S (run S f t) t D) S.length ≤ sumK (fun i => shr N S i * (D - (t + 1))) S.length := sumK_le (fun i hi => by
      have hgt := endAt_gt (now := t) (okU_nat (hok i hi)).2.2.1
      unfold wantD
      split
      · rename_i he
        rw [hz i hi he, Nat.mul_zero, Nat.zero_add]
        exact Nat.mul_le_mul_left _ (by omega)
      · exact Nat.zero_le _)
    rw [sumK_mul] at h2
    exact Nat.le_trans h2 (Nat.mul_le_mul_right _ hs)
  rcases run_pick S f t with ⟨hr, hz⟩ | ⟨j, hj, hfj, hr, hmin⟩
  · exact hidle (fun i hi _ => by rw [hr]; exact hz i hi)
  · by_cases he : endAt t (per (nthU S j)) ≤ D
    · have h2 : sumK (wantD N S (run S f t) t D) S.length + N ≤ sumK (wantD N S f t D) S.length := sumK_less (j := j) (fun i hi => by
        unfold wantD
        split
        · exact Nat.add_le_add_right (Nat.mul_le_mul_left N (run_le S f t i)) _
        · exact Nat.le_refl _) hj (by
        unfold wantD
        rw [if_pos he, if_pos he, hr, updN_same]
        have : N * (f j - 1) + N = N * f j := by rw [← Nat.mul_succ]; congr 1; omega
        omega)
      have h3 := h D (by omega)
      have h4 : N * (D - t) = N * (D - (t + 1)) + N := by rw [← Nat.mul_succ]; congr 1; omega
      omega
    · refine hidle (fun i hi hei => ?_)
      have hfi : f i = 0 := by
        apply Decidable.byContradiction; intro hh
        have := hmin i hi (by omega); omega
      have := run_le S f t i
      omega

theorem met_at (hok : allOk S) (hN : 0 < N) (hd : ∀ i, i < S.length → per (nthU S i) ∣ N) (hs : sumK (shr N S) S.length ≤ N) : ∀ t, Met N S (fAt S t) t
  | 0 => met_start hok hd hs
  | t + 1 => met_step hok hN hd hs (met_at hok hN hd hs t)

/-- What fits is never late. -/
theorem fits_never (hok : allOk S) (h : used S ≤ rnd S) : ∀ t, lateAt S t = 0
  | 0 => rfl
  | t + 1 => by
    have hN := rndTo_pos hok (Nat.le_refl S.length)
    have hm := met_at hok (N := rnd S) hN (fun i hi => per_dvd hi) (by unfold used at h; rw [used_sum] at h; exact h) t
    show lateAt S t + cnt S (run S (fAt S t) t) (t + 1) = 0
    rw [fits_never hok h t, met_late hok hN hm]

/-- What was worked on each job, and on those before. -/
def work (S : List Use) (f : Nat → Nat) (t i : Nat) : Nat := t / per (nthU S i) * cst (nthU S i) + (cst (nthU S i) - f i)

theorem div_next {t p : Nat} (hp : 1 ≤ p) (h : (t + 1) % p = 0) : (t + 1) / p = t / p + 1 := by
  rw [Nat.succ_div, if_pos (Nat.dvd_of_mod_eq_zero h)]
theorem div_stay {t p : Nat} (h : ¬ (t + 1) % p = 0) : (t + 1) / p = t / p := by
  rw [Nat.succ_div, if_neg (fun q => h (Nat.mod_eq_zero_of_dvd q)), Nat.add_zero]

theorem work_bd (hok : allOk S) : ∀ t, lateAt S t = 0 → sumK (work S (fAt S t) t) S.length ≤ t
  | 0, _ => by
    have : sumK (work S (fAt S 0) 0) S.length ≤ sumK (fun i => 0 * 0) S.length := sumK_le (fun i hi => by
      unfold work; show 0 / _ * _ + (cst _ - cst _) ≤ _; rw [Nat.zero_div, Nat.sub_self]; simp)
    rw [sumK_mul] at this
    omega
  | t + 1, hl => by
    have hl1 : lateAt S t + cnt S (run S (fAt S t) t) (t + 1) = 0 := hl
    have ih := work_bd hok t (by omega)
    have h0 := cnt_zero.1 (show cntTo S (run S (fAt S t) t) (t + 1) S.length = 0 by unfold cnt at hl1; omega)
    have hc := fAt_le S t
    have h1 : sumK (work S (fAt S (t + 1)) (t + 1)) S.length ≤ sumK (work S (run S (fAt S t) t) t) S.length := sumK_le (fun i hi => by
      have hu := okU_nat (hok i hi)
      show work S (rel S (run S (fAt S t) t) (t + 1)) (t + 1) i ≤ _
      unfold work
      by_cases hm : (t + 1) % per (nthU S i) = 0
      · have hr : rel S (run S (fAt S t) t) (t + 1) i = cst (nthU S i) := by unfold rel relTo; rw [if_pos ⟨hi, hm⟩]
        rw [hr, div_next hu.2.2.1 hm, h0 i hi hm, Nat.sub_self, Nat.add_mul]; omega
      · have hr : rel S (run S (fAt S t) t) (t + 1) i = run S (fAt S t) t i := by unfold rel relTo; rw [if_neg (fun q => hm q.2)]
        rw [hr, div_stay hm]; exact Nat.le_refl _)
    have h2 : sumK (work S (run S (fAt S t) t) t) S.length ≤ sumK (work S (fAt S t) t) S.length + 1 := by
      rcases run_pick S (fAt S t) t with ⟨hr, hz⟩ | ⟨j, hj, hfj, hr, hmin⟩
      · rw [hr]; omega
      · have h3 : ∀ k, sumK (work S (run S (fAt S t) t) t) k ≤ sumK (work S (fAt S t) t) k + (if j < k then 1 else 0) := by
          intro k
          induction k with
          | zero => exact Nat.zero_le _
          | succ k ihk =>
            show sumK _ k + work S (run S (fAt S t) t) t k ≤ sumK _ k + work S (fAt S t) t k + _
            rw [hr] at ihk ⊢
            by_cases e : k = j
            · subst e
              rw [if_neg (by omega)] at ihk
              rw [if_pos (by omega)]
              unfold work
              rw [updN_same]
              have := hc k
              unfold work at ihk
              omega
            · have e2 : (if j < k + 1 then 1 else 0) = (if j < k then 1 else 0) := by
                by_cases q : j < k
                · rw [if_pos (by omega), if_pos q]
                · rw [if_neg (by omega), if_neg q]
              rw [e2]
              have : work S (updN (fAt S t) j (fAt S t j - 1)) t k = work S (fAt S t) t k := by unfold work; rw [updN_other _ _ e]
              omega
        have := h3 S.length
        rw [if_pos hj] at this
        exact this
    omega

/-- What does not fit is late by the end of a round. -/
theorem over_late (hok : allOk S) (h : rnd S < used S) : 0 < lateAt S (rnd S) := by
  apply Decidable.byContradiction
  intro hh
  have h1 := work_bd hok (rnd S) (by omega)
  have h2 : used S ≤ sumK (work S (fAt S (rnd S)) (rnd S)) S.length := by
    unfold used
    rw [used_sum]
    exact sumK_le (fun i hi => Nat.le_add_right _ _)
  omega
end
end Go.Proofs.Ytijpiloljgpnkaa.Ad
