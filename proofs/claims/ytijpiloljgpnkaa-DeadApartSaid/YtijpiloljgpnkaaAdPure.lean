/- Sets of periodic tasks, without memory: what they come to. -/
import Derived.Test.YtijpiloljgpnkaaMem
namespace Go.Proofs.Ytijpiloljgpnkaa.Ad
set_option linter.unusedVariables false

/-- A task: its cost and its period. -/
abbrev Use := Int × Int

/-- May it be? -/
def okU (u : Use) : Bool := decide (1 ≤ u.2 ∧ u.2 ≤ 30 ∧ 1 ≤ u.1 ∧ u.1 ≤ u.2)
theorem okU_bd {u : Use} (h : okU u = true) : 1 ≤ u.2 ∧ u.2 ≤ 30 ∧ 1 ≤ u.1 ∧ u.1 ≤ u.2 := of_decide_eq_true h
theorem okU_of {u : Use} (h : 1 ≤ u.2 ∧ u.2 ≤ 30 ∧ 1 ≤ u.1 ∧ u.1 ≤ u.2) : okU u = true := decide_eq_true h
theorem okU_no {u : Use} (h : okU u = false) : u.2 < 1 ∨ 30 < u.2 ∨ u.1 < 1 ∨ u.2 < u.1 := by
  have := of_decide_eq_false h; omega

/-- A task of a list. -/
def nthU (S : List Use) (k : Nat) : Use := S.getD k (0, 0)

/-- May all be? -/
def allOk (S : List Use) : Prop := ∀ j, j < S.length → okU (nthU S j) = true
instance (S : List Use) : Decidable (allOk S) := by unfold allOk; exact inferInstance

/-- What Check answers. -/
def chk (S : List Use) : Int := if 16 < S.length then 2 else if allOk S then 0 else 1

theorem chk_large {S : List Use} (h : 16 < S.length) : chk S = 2 := if_pos h
theorem chk_bad {S : List Use} (h : S.length ≤ 16) {k : Nat} (hk : k < S.length) (hb : okU (nthU S k) = false) : chk S = 1 := by
  unfold chk; rw [if_neg (by omega), if_neg (fun hh => by have := hh k hk; rw [hb] at this; cases this)]
theorem chk_ok {S : List Use} (h : S.length ≤ 16) (ha : allOk S) : chk S = 0 := by
  unfold chk; rw [if_neg (by omega), if_pos ha]
theorem chk_zero {S : List Use} (h : chk S = 0) : S.length ≤ 16 ∧ allOk S := by
  unfold chk at h
  split at h
  · omega
  · split at h
    · exact ⟨by omega, by assumption⟩
    · omega
theorem chk_cases (S : List Use) : chk S = 2 ∨ chk S = 1 ∨ chk S = 0 := by
  unfold chk; split
  · exact Or.inl rfl
  · split
    · exact Or.inr (Or.inr rfl)
    · exact Or.inr (Or.inl rfl)

/-- The cost and the period, as numbers from 0 on. -/
def cst (u : Use) : Nat := u.1.toNat
def per (u : Use) : Nat := u.2.toNat
theorem okU_nat {u : Use} (h : okU u = true) : u.1 = cst u ∧ u.2 = per u ∧ 1 ≤ per u ∧ per u ≤ 30 ∧ 1 ≤ cst u ∧ cst u ≤ per u := by
  have := okU_bd h; unfold cst per; omega

/-- In how many ticks the first k periods end together. -/
def rndTo (S : List Use) : Nat → Nat
  | 0 => 1
  | k + 1 => Nat.lcm (rndTo S k) (per (nthU S k))
def rnd (S : List Use) : Nat := rndTo S S.length

/-- Ticks of the first k, in so many. -/
def usedTo (S : List Use) (r : Nat) : Nat → Nat
  | 0 => 0
  | k + 1 => usedTo S r k + r / per (nthU S k) * cst (nthU S k)
def used (S : List Use) : Nat := usedTo S (rnd S) S.length
def shareN (S : List Use) : Nat := used S / Nat.gcd (rnd S) (used S)
def shareD (S : List Use) : Nat := rnd S / Nat.gcd (rnd S) (used S)

theorem allOk_at {S : List Use} (h : allOk S) {k : Nat} (hk : k < S.length) : okU (nthU S k) = true := h k hk

/-- The least common multiple of 1 to 30. -/
def L30 : Nat := 2329089562800
theorem dvd_L30 {p : Nat} (h1 : 1 ≤ p) (h2 : p ≤ 30) : p ∣ L30 := by
  have : ∀ q : Fin 31, 1 ≤ q.val → q.val ∣ L30 := by decide
  exact this ⟨p, by omega⟩ h1

theorem rndTo_dvd {S : List Use} (h : allOk S) : ∀ k, k ≤ S.length → rndTo S k ∣ L30
  | 0, _ => Nat.one_dvd _
  | k + 1, hk => by
    have hu := okU_nat (h k (by omega))
    exact Nat.lcm_dvd (rndTo_dvd h k (by omega)) (dvd_L30 (by omega) (by omega))
theorem rndTo_pos {S : List Use} (h : allOk S) {k : Nat} (hk : k ≤ S.length) : 1 ≤ rndTo S k := Nat.pos_of_dvd_of_pos (rndTo_dvd h k hk) (by decide)
theorem rndTo_le {S : List Use} (h : allOk S) {k : Nat} (hk : k ≤ S.length) : rndTo S k ≤ 2329089562800 := Nat.le_of_dvd (by decide) (rndTo_dvd h k hk)
theorem per_dvd {S : List Use} : ∀ {k : Nat} {j : Nat}, j < k → per (nthU S j) ∣ rndTo S k
  | k + 1, j, hj => by
    by_cases e : j = k
    · subst e; exact Nat.dvd_lcm_right _ _
    · exact Nat.dvd_trans (per_dvd (show j < k by omega)) (Nat.dvd_lcm_left _ _)
theorem rndTo_least {S : List Use} {m : Nat} : ∀ {k : Nat}, (∀ j, j < k → per (nthU S j) ∣ m) → rndTo S k ∣ m
  | 0, _ => Nat.one_dvd _
  | k + 1, h => Nat.lcm_dvd (rndTo_least (fun j hj => h j (by omega))) (h k (by omega))

/-- How a period is multiplied in. -/
theorem lcm_step {a p : Nat} (ha : 1 ≤ a) (hp : 1 ≤ p) : a * (p / Nat.gcd a p) = Nat.lcm a p := by
  unfold Nat.lcm; rw [Nat.mul_div_assoc _ (Nat.gcd_dvd_right a p)]

theorem usedTo_le {S : List Use} (h : allOk S) (r : Nat) : ∀ k, k ≤ S.length → usedTo S r k ≤ k * r
  | 0, _ => by simp [usedTo]
  | k + 1, hk => by
    have hu := okU_nat (h k (by omega))
    have h1 := usedTo_le h r k (by omega)
    have h2 : r / per (nthU S k) * cst (nthU S k) ≤ r := Nat.le_trans (Nat.mul_le_mul_left _ hu.2.2.2.2.2) (Nat.div_mul_le_self _ _)
    show usedTo S r k + _ ≤ _
    rw [Nat.succ_mul]; omega
theorem usedTo_bd {S : List Use} (h : allOk S) (hl : S.length ≤ 16) {r k : Nat} (hr : r ≤ 2329089562800) (hk : k ≤ S.length) : usedTo S r k ≤ 37265433004800 := by
  have h1 := usedTo_le h r k hk
  have h2 : k * r ≤ 16 * 2329089562800 := Nat.mul_le_mul (by omega) hr
  omega

/-- What is wanted by t. -/
def demTo (S : List Use) (t : Nat) : Nat → Nat
  | 0 => 0
  | k + 1 => demTo S t k + t / per (nthU S k) * cst (nthU S k)
def dem (S : List Use) (t : Nat) : Nat := demTo S t S.length
theorem demTo_eq (S : List Use) (t : Nat) : ∀ k, demTo S t k = usedTo S t k
  | 0 => rfl
  | k + 1 => by show demTo S t k + _ = usedTo S t k + _; rw [demTo_eq S t k]
end Go.Proofs.Ytijpiloljgpnkaa.Ad
