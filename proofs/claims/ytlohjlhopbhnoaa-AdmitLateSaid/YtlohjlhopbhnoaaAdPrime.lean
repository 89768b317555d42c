/- The reference's round and share, without memory: by powers of primes. -/
import Derived.Test.YtlohjlhopbhnoaaAdFrac
namespace Go.Proofs.Ytlohjlhopbhnoaa.Ad
set_option linter.unusedVariables false

/-- The primes up to 29. -/
def pr (i : Nat) : Nat := [2, 3, 5, 7, 11, 13, 17, 19, 23, 29].getD i 0
theorem pr_bd {i : Nat} (h : i < 10) : 2 ≤ pr i ∧ pr i ≤ 29 := by
  have : ∀ q : Fin 10, 2 ≤ pr q.val ∧ pr q.val ≤ 29 := by decide
  exact this ⟨i, h⟩
theorem pr_apart {i j : Nat} (hi : i < 10) (hj : j < 10) (h : i ≠ j) : Nat.Coprime (pr i) (pr j) := by
  have : ∀ a b : Fin 10, a.val ≠ b.val → Nat.gcd (pr a.val) (pr b.val) = 1 := by decide
  exact this ⟨i, hi⟩ ⟨j, hj⟩ h
theorem pr_prime {i d : Nat} (hi : i < 10) (h : d ∣ pr i) : d = 1 ∨ d = pr i := by
  have key : ∀ (a : Fin 10) (b : Fin 30), b.val ∣ pr a.val → b.val = 1 ∨ b.val = pr a.val := by decide
  have hb := pr_bd hi
  have hd := Nat.le_of_dvd (by omega) h
  exact key ⟨i, hi⟩ ⟨d, by omega⟩ h

/-- How often a prime divides a number up to 30. -/
def ex (p k : Nat) : Nat := if k % p ^ 4 = 0 then 4 else if k % p ^ 3 = 0 then 3 else if k % p ^ 2 = 0 then 2 else if k % p = 0 then 1 else 0
/-- The powers of the first n primes in a number. -/
def pprod (k : Nat) : Nat → Nat
  | 0 => 1
  | n + 1 => pprod k n * pr n ^ ex (pr n) k
theorem pprod_all {k : Nat} (h1 : 1 ≤ k) (h2 : k ≤ 30) : pprod k 10 = k := by
  have : ∀ q : Fin 31, 1 ≤ q.val → pprod q.val 10 = q.val := by decide +kernel
  exact this ⟨k, by omega⟩ h1
theorem ex_dvd (p k : Nat) : p ^ ex p k ∣ k := by
  unfold ex
  split
  · exact Nat.dvd_of_mod_eq_zero (by assumption)
  · split
    · exact Nat.dvd_of_mod_eq_zero (by assumption)
    · split
      · exact Nat.dvd_of_mod_eq_zero (by assumption)
      · split
        · rw [Nat.pow_one]; exact Nat.dvd_of_mod_eq_zero (by assumption)
        · rw [Nat.pow_zero]; exact Nat.one_dvd k

theorem pow_dvd_of_le {p a b : Nat} (hp : 2 ≤ p) (h : p ^ a ≤ p ^ b) : p ^ a ∣ p ^ b := by
  apply Nat.pow_dvd_pow
  apply Decidable.byContradiction; intro hh
  have := Nat.pow_lt_pow_right (show 1 < p by omega) (show b < a by omega)
  omega

/-- The greatest power of p in the first k periods. -/
structure Most (S : List Use) (p k M : Nat) : Prop where
  pow : ∃ f, M = p ^ f
  dvd : M ∣ rndTo S k
  all : ∀ j, j < k → ∀ e, p ^ e ∣ per (nthU S j) → p ^ e ∣ M

theorem Most.start (S : List Use) (p : Nat) : Most S p 0 1 := ⟨⟨0, by simp⟩, Nat.one_dvd _, fun j hj => absurd hj (Nat.not_lt_zero _)⟩

theorem Most.step {S : List Use} {p k M q m e : Nat} (h : Most S p k M) (hp : 2 ≤ p) (hq : q = p ^ e) (hm : q * m = per (nthU S k)) (hn : ¬ p ∣ m) : Most S p (k + 1) (max M q) := by
  obtain ⟨f, hf⟩ := h.pow
  have hlast : ∀ e', p ^ e' ∣ per (nthU S k) → p ^ e' ∣ q := fun e' he => by
    rw [hq]
    apply Nat.pow_dvd_pow
    apply Decidable.byContradiction; intro hh
    apply hn
    have h1 : p ^ (e + 1) ∣ p ^ e * m := by
      rw [← hq, hm]
      exact Nat.dvd_trans (Nat.pow_dvd_pow p (by omega)) he
    rw [Nat.pow_succ] at h1
    exact Nat.dvd_of_mul_dvd_mul_left (Nat.pow_pos (by omega)) h1
  rcases Nat.le_total q M with hle | hle
  · rw [Nat.max_eq_left hle]
    refine ⟨⟨f, hf⟩, Nat.dvd_trans h.dvd (Nat.dvd_lcm_left _ _), fun j hj e' he => ?_⟩
    by_cases ej : j = k
    · subst ej
      refine Nat.dvd_trans (hlast e' he) ?_
      rw [hq, hf] at hle ⊢
      exact pow_dvd_of_le hp hle
    · exact h.all j (by omega) e' he
  · rw [Nat.max_eq_right hle]
    refine ⟨⟨e, hq⟩, Nat.dvd_trans ⟨m, hm.symm⟩ (Nat.dvd_lcm_right _ _), fun j hj e' he => ?_⟩
    by_cases ej : j = k
    · subst ej; exact hlast e' he
    · refine Nat.dvd_trans (h.all j (by omega) e' he) ?_
      rw [hq, hf] at hle ⊢
      exact pow_dvd_of_le hp hle

/-- The product over the first k primes. -/
structure RoundTo (S : List Use) (k n : Nat) : Prop where
  dvd : n ∣ rnd S
  apart : ∀ l, k ≤ l → l < 10 → Nat.Coprime n (pr l)
  all : ∀ j, j < S.length → pprod (per (nthU S j)) k ∣ n

theorem RoundTo.start (S : List Use) : RoundTo S 0 1 := ⟨Nat.one_dvd _, fun l _ _ => Nat.coprime_one_left_eq_true _ ▸ trivial, fun j hj => Nat.one_dvd _⟩

theorem RoundTo.step {S : List Use} {k n M : Nat} (h : RoundTo S k n) (hk : k < 10) (hM : Most S (pr k) S.length M) : RoundTo S (k + 1) (n * M) := by
  obtain ⟨f, hf⟩ := hM.pow
  have hc := h.apart k (Nat.le_refl _) hk
  refine ⟨?_, fun l hl hl2 => ?_, fun j hj => ?_⟩
  · refine Nat.Coprime.mul_dvd_of_dvd_of_dvd ?_ h.dvd hM.dvd
    rw [hf]; exact Nat.Coprime.pow_right _ hc
  · refine Nat.Coprime.mul_left (h.apart l (by omega) hl2) ?_
    rw [hf]; exact Nat.Coprime.pow_left _ (pr_apart hk hl2 (by omega))
  · exact Nat.mul_dvd_mul (h.all j hj) (hM.all j hj _ (ex_dvd _ _))

theorem RoundTo.done {S : List Use} (hok : allOk S) {n : Nat} (h : RoundTo S 10 n) : n = rnd S := by
  refine Nat.dvd_antisymm h.dvd (rndTo_least (fun j hj => ?_))
  have hu := okU_nat (hok j hj)
  have := h.all j hj
  rwa [pprod_all hu.2.2.1 hu.2.2.2.1] at this

/-- A fraction from which the first k primes have been struck. -/
structure Struck (S : List Use) (k n r : Nat) : Prop where
  frac : ∃ g, n * g = used S ∧ r * g = rnd S
  gone : n = 0 ∨ ∀ i, i < k → ¬ (pr i ∣ n ∧ pr i ∣ r)

theorem Struck.start (S : List Use) : Struck S 0 (used S) (rnd S) := ⟨⟨1, by simp, by simp⟩, Or.inr (fun i hi => absurd hi (Nat.not_lt_zero _))⟩
theorem Struck.next {S : List Use} {k n r : Nat} (h : Struck S k n r) (hn : n = 0 ∨ ¬ (pr k ∣ n ∧ pr k ∣ r)) : Struck S (k + 1) n r := by
  refine ⟨h.frac, ?_⟩
  rcases h.gone with h0 | hg
  · exact Or.inl h0
  · rcases hn with hn | hn
    · exact Or.inl hn
    · refine Or.inr (fun i hi => ?_)
      by_cases e : i = k
      · subst e; exact hn
      · exact hg i (by omega)
theorem Struck.out {S : List Use} {k n r n' r' p : Nat} (h : Struck S k n r) (hp : 1 ≤ p) (hn : n' * p = n) (hr : r' * p = r) : Struck S k n' r' := by
  obtain ⟨g, h1, h2⟩ := h.frac
  refine ⟨⟨p * g, by rw [← Nat.mul_assoc, hn, h1], by rw [← Nat.mul_assoc, hr, h2]⟩, ?_⟩
  rcases h.gone with h0 | hg
  · left
    rw [← hn] at h0
    rcases Nat.mul_eq_zero.1 h0 with h0 | h0
    · exact h0
    · omega
  · exact Or.inr (fun i hi hh => hg i hi ⟨hn ▸ Nat.dvd_trans hh.1 (Nat.dvd_mul_right _ _), hr ▸ Nat.dvd_trans hh.2 (Nat.dvd_mul_right _ _)⟩)

theorem L30_primes : L30 = pr 0 ^ 4 * pr 1 ^ 3 * pr 2 ^ 2 * pr 3 * pr 4 * pr 5 * pr 6 * pr 7 * pr 8 * pr 9 := by decide

theorem coprime_of {i d : Nat} (hi : i < 10) (h : ¬ pr i ∣ d) : Nat.Coprime d (pr i) := by
  rcases pr_prime hi (Nat.gcd_dvd_right d (pr i)) with h1 | h1
  · exact h1
  · exact absurd (h1 ▸ Nat.gcd_dvd_left d (pr i)) h

theorem Struck.done {S : List Use} (hok : allOk S) {n r : Nat} (h : Struck S 10 n r) : shareN S = n ∧ shareD S = if n = 0 then 1 else r := by
  obtain ⟨g, h1, h2⟩ := h.frac
  have hr0 := rndTo_pos hok (Nat.le_refl S.length)
  have hr1 : 0 < rnd S := hr0
  have hg : 0 < g := by
    rcases Nat.eq_zero_or_pos g with e | e
    · rw [e, Nat.mul_zero] at h2; omega
    · exact e
  by_cases hn : n = 0
  · rw [if_pos hn]
    have hu : used S = 0 := by rw [← h1, hn, Nat.zero_mul]
    unfold shareN shareD
    rw [hu, Nat.gcd_zero_right, Nat.zero_div, Nat.div_self hr1]
    exact ⟨hn.symm, rfl⟩
  · rw [if_neg hn]
    have hg2 := h.gone.resolve_left hn
    have hd : Nat.gcd n r ∣ L30 := Nat.dvd_trans (Nat.gcd_dvd_right n r) (Nat.dvd_trans ⟨g, h2.symm⟩ (rndTo_dvd hok S.length (Nat.le_refl _)))
    have hc : ∀ i, i < 10 → Nat.Coprime (Nat.gcd n r) (pr i) := fun i hi => coprime_of hi (fun q => hg2 i hi ⟨Nat.dvd_trans q (Nat.gcd_dvd_left n r), Nat.dvd_trans q (Nat.gcd_dvd_right n r)⟩)
    have hcl : Nat.Coprime (Nat.gcd n r) L30 := by
      rw [L30_primes]
      refine Nat.Coprime.mul_right (Nat.Coprime.mul_right (Nat.Coprime.mul_right (Nat.Coprime.mul_right (Nat.Coprime.mul_right (Nat.Coprime.mul_right (Nat.Coprime.mul_right (Nat.Coprime.mul_right (Nat.Coprime.mul_right ?_ ?_) ?_) ?_) ?_) ?_) ?_) ?_) ?_) ?_
      · exact Nat.Coprime.pow_right _ (hc 0 (by omega))
      · exact Nat.Coprime.pow_right _ (hc 1 (by omega))
      · exact Nat.Coprime.pow_right _ (hc 2 (by omega))
      · exact hc 3 (by omega)
      · exact hc 4 (by omega)
      · exact hc 5 (by omega)
      · exact hc 6 (by omega)
      · exact hc 7 (by omega)
      · exact hc 8 (by omega)
      · exact hc 9 (by omega)
    have h3 : Nat.gcd n r = 1 := Nat.Coprime.eq_one_of_dvd hcl hd
    have h4 : Nat.gcd (rnd S) (used S) = g := by
      rw [← h1, ← h2, Nat.gcd_mul_right, Nat.gcd_comm, h3, Nat.one_mul]
    unfold shareN shareD
    rw [h4]
    constructor
    · rw [← h1]; exact Nat.mul_div_cancel _ hg
    · rw [← h2]; exact Nat.mul_div_cancel _ hg
end Go.Proofs.Ytlohjlhopbhnoaa.Ad
