/- What is so of sets that fit. Without memory. -/
import Derived.Test.YtlohjlhopbhnoaaAdSets
namespace Go.Proofs.Ytlohjlhopbhnoaa.Ad
set_option linter.unusedVariables false

/-- What is wanted by t is no more than the share of it. -/
theorem used_share {S : List Use} {r t : Nat} : ∀ {k : Nat}, (∀ j, j < k → per (nthU S j) ∣ r) → usedTo S t k * r ≤ usedTo S r k * t
  | 0, _ => by simp [usedTo]
  | k + 1, h => by
    have ih := used_share (t := t) (k := k) (fun j hj => h j (by omega))
    obtain ⟨a, ha⟩ := h k (by omega)
    show (usedTo S t k + t / per (nthU S k) * cst (nthU S k)) * r ≤ (usedTo S r k + r / per (nthU S k) * cst (nthU S k)) * t
    rw [Nat.add_mul, Nat.add_mul]
    refine Nat.add_le_add ih ?_
    generalize per (nthU S k) = p at *
    generalize cst (nthU S k) = c at *
    by_cases h0 : p = 0
    · subst h0; simp
    · have e1 : r / p = a := by rw [ha]; exact Nat.mul_div_cancel_left _ (by omega)
      have e2 : t / p * p ≤ t := Nat.div_mul_le_self t p
      have e3 : t / p * c * r = (t / p * p) * (a * c) := by rw [ha]; ac_rfl
      have e4 : r / p * c * t = t * (a * c) := by rw [e1]; ac_rfl
      rw [e3, e4]
      exact Nat.mul_le_mul_right _ e2

theorem SetOk.ok {S : List Use} (h : SetOk S) : allOk S := allOk_mem.2 fun x hx => (h.each x hx).1
theorem SetOk.dvd {S : List Use} (h : SetOk S) : ∀ j, j < S.length → per (nthU S j) ∣ 120 := fun j hj => (h.each _ (nthU_mem hj)).2
theorem SetOk.rnd {S : List Use} (h : SetOk S) : rnd S ∣ 120 := rndTo_least h.dvd
theorem SetOk.rnd_bd {S : List Use} (h : SetOk S) : 1 ≤ Ad.rnd S ∧ Ad.rnd S ≤ 120 := ⟨rndTo_pos h.ok (Nat.le_refl _), Nat.le_of_dvd (by omega) h.rnd⟩
theorem SetOk.used {S : List Use} (h : SetOk S) : Ad.used S ≤ Ad.rnd S := by
  have h1 := (share_le h.ok 1).1 ((share_le_of h.ok (N := 120) (by omega) h.dvd 1).2 (by have := h.fits; unfold shares at this; omega))
  omega

/-- What AdmitDemand asks. -/
structure Wanted (x y n r a t : Nat) : Prop where
  share : n * y ≤ x * t
  fits : n ≤ t
  all : a * y = x * r
  b1 : 1 ≤ r ∧ r ≤ 120
  b2 : x ≤ 120 ∧ y ≤ 120 ∧ a ≤ 120

theorem SetOk.wanted {S : List Use} (h : SetOk S) (t : Nat) : Wanted (shareN S) (shareD S) (usedTo S t S.length) (Ad.rnd S) (usedTo S (Ad.rnd S) S.length) t := by
  have hg := gcd_pos_of h.ok
  obtain ⟨h1, h2⟩ := share_mul (S := S)
  have hu : Ad.used S = usedTo S (Ad.rnd S) S.length := rfl
  have h3 := used_share (S := S) (r := Ad.rnd S) (t := t) (k := S.length) (fun j hj => per_dvd hj)
  have h4 := h.used
  have hr := h.rnd_bd
  rw [← hu] at h3 ⊢
  have hx : shareN S ≤ Ad.used S := Nat.div_le_self _ _
  have hy : shareD S ≤ Ad.rnd S := Nat.div_le_self _ _
  generalize Nat.gcd (Ad.rnd S) (Ad.used S) = g at *
  generalize shareN S = x at *
  generalize shareD S = y at *
  generalize Ad.used S = u at *
  generalize Ad.rnd S = r at *
  generalize usedTo S t S.length = n at *
  refine ⟨?_, ?_, ?_, hr, by omega⟩
  · apply Nat.le_of_mul_le_mul_right (c := g) _ hg
    rw [Nat.mul_assoc, h2, Nat.mul_right_comm x t g, h1]; exact h3
  · apply Nat.le_of_mul_le_mul_right (c := r) _ (by omega)
    exact Nat.le_trans h3 (by rw [Nat.mul_comm t r]; exact Nat.mul_le_mul_right t h4)
  · rw [← h1, ← h2]; ac_rfl
end Go.Proofs.Ytlohjlhopbhnoaa.Ad
