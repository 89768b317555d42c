/- Late, without memory: jobs that are worked on by their deadlines, tick by tick. -/
import Derived.Test.YtijpiloljgpnkaaAdFrac
namespace Go.Proofs.Ytijpiloljgpnkaa.Ad
set_option linter.unusedVariables false

/-- A function with another value at one place. -/
def updN {α : Type} (f : Nat → α) (k : Nat) (x : α) : Nat → α := fun j => if j = k then x else f j
theorem updN_same {α : Type} (f : Nat → α) (k : Nat) (x : α) : updN f k x k = x := by simp [updN]
theorem updN_other {α : Type} (f : Nat → α) {k j : Nat} (x : α) (h : j ≠ k) : updN f k x j = f j := by simp [updN, h]

/-- The numbers of a function, as far as n. -/
def fl (n : Nat) (f : Nat → Nat) : List Int := (List.range n).map fun i => (f i : Int)
theorem fl_len (n : Nat) (f : Nat → Nat) : (fl n f).length = n := by simp [fl]
theorem fl_get {n : Nat} (f : Nat → Nat) {i : Nat} (h : i < n) : (fl n f).getD i 0 = f i := by simp [fl, List.getD, h]
theorem fl_set (n : Nat) (f : Nat → Nat) (i x : Nat) : (fl n f).set i (x : Int) = fl n (updN f i x) := by
  apply List.ext_getElem?
  intro j
  rw [List.getElem?_set]
  unfold fl
  by_cases e : i = j
  · subst e
    rw [if_pos rfl]
    by_cases h : i < n
    · simp [h, updN]
    · simp [h]
  · rw [if_neg e]
    by_cases h : j < n
    · simp [h, updN, Ne.symm e]
    · simp [h]

/-- When the job of a task ends that is open behind a time. -/
def endAt (now p : Nat) : Nat := now + p - now % p
theorem endAt_gt {now p : Nat} (h : 1 ≤ p) : now < endAt now p := by
  have := Nat.mod_lt now (show 0 < p by omega); unfold endAt; omega

/-- Who goes next, as far as k, and when he must be done; -1: nobody. -/
def pkTo (S : List Use) (f : Nat → Nat) (now : Nat) : Nat → Int × Nat
  | 0 => (-1, 0)
  | k + 1 => if 0 < f k ∧ ((pkTo S f now k).1 < 0 ∨ endAt now (per (nthU S k)) < (pkTo S f now k).2) then ((k : Int), endAt now (per (nthU S k))) else pkTo S f now k
def pkI (S : List Use) (f : Nat → Nat) (now : Nat) : Int := (pkTo S f now S.length).1

/-- Who is chosen of the first k. -/
theorem pkTo_is (S : List Use) (f : Nat → Nat) (now : Nat) : ∀ k,
    ((pkTo S f now k).1 = -1 ∧ ∀ j, j < k → f j = 0) ∨
    ∃ i : Nat, (pkTo S f now k).1 = i ∧ i < k ∧ 0 < f i ∧ (pkTo S f now k).2 = endAt now (per (nthU S i)) ∧
      ∀ j, j < k → 0 < f j → endAt now (per (nthU S i)) < endAt now (per (nthU S j)) ∨ endAt now (per (nthU S i)) = endAt now (per (nthU S j)) ∧ i ≤ j
  | 0 => Or.inl ⟨rfl, fun j hj => absurd hj (Nat.not_lt_zero _)⟩
  | k + 1 => by
    have ih := pkTo_is S f now k
    show ((if 0 < f k ∧ ((pkTo S f now k).1 < 0 ∨ endAt now (per (nthU S k)) < (pkTo S f now k).2) then ((k : Int), endAt now (per (nthU S k))) else pkTo S f now k).1 = -1 ∧ _) ∨ ∃ i : Nat, (if 0 < f k ∧ ((pkTo S f now k).1 < 0 ∨ endAt now (per (nthU S k)) < (pkTo S f now k).2) then ((k : Int), endAt now (per (nthU S k))) else pkTo S f now k).1 = i ∧ _ ∧ _ ∧ (if 0 < f k ∧ ((pkTo S f now k).1 < 0 ∨ endAt now (per (nthU S k)) < (pkTo S f now k).2) then ((k : Int), endAt now (per (nthU S k))) else pkTo S f now k).2 = _ ∧ _
    split
    · rename_i hc
      right
      refine ⟨k, rfl, by omega, hc.1, rfl, fun j hj hf => ?_⟩
      by_cases e : j = k
      · subst e; exact Or.inr ⟨rfl, Nat.le_refl _⟩
      · rcases ih with ⟨h1, h2⟩ | ⟨i, h1, h2, h3, h4, h5⟩
        · have := h2 j (by omega); omega
        · have := h5 j (by omega) hf
          rcases hc.2 with hc | hc
          · omega
          · rw [h4] at hc; left; omega
    · rename_i hc
      rcases ih with ⟨h1, h2⟩ | ⟨i, h1, h2, h3, h4, h5⟩
      · left
        refine ⟨h1, fun j hj => ?_⟩
        by_cases e : j = k
        · subst e
          apply Decidable.byContradiction; intro hh
          exact hc ⟨by omega, Or.inl (by omega)⟩
        · exact h2 j (by omega)
      · right
        refine ⟨i, h1, by omega, h3, h4, fun j hj hf => ?_⟩
        by_cases e : j = k
        · subst e
          have : ¬ endAt now (per (nthU S j)) < (pkTo S f now j).2 := fun hh => hc ⟨hf, Or.inr hh⟩
          rw [h4] at this; omega
        · exact h5 j (by omega) hf

/-- The jobs behind a tick. -/
def run (S : List Use) (f : Nat → Nat) (now : Nat) : Nat → Nat := if 0 ≤ pkI S f now then updN f (pkI S f now).toNat (f (pkI S f now).toNat - 1) else f
/-- How many of the first k jobs are late at a time. -/
def cntTo (S : List Use) (f : Nat → Nat) (now : Nat) : Nat → Nat
  | 0 => 0
  | k + 1 => cntTo S f now k + (if now % per (nthU S k) = 0 ∧ 0 < f k then 1 else 0)
def cnt (S : List Use) (f : Nat → Nat) (now : Nat) : Nat := cntTo S f now S.length
/-- The jobs behind the releases of the first k. -/
def relTo (S : List Use) (f : Nat → Nat) (now k : Nat) : Nat → Nat := fun i => if i < k ∧ now % per (nthU S i) = 0 then cst (nthU S i) else f i
def rel (S : List Use) (f : Nat → Nat) (now : Nat) : Nat → Nat := relTo S f now S.length

theorem cntTo_le (S : List Use) (f : Nat → Nat) (now : Nat) : ∀ k, cntTo S f now k ≤ k
  | 0 => Nat.le_refl _
  | k + 1 => by have := cntTo_le S f now k; show _ + _ ≤ _; split <;> omega

theorem relTo_succ_yes {S : List Use} {f : Nat → Nat} {now k : Nat} (h : now % per (nthU S k) = 0) : relTo S f now (k + 1) = updN (relTo S f now k) k (cst (nthU S k)) := by
  funext i
  by_cases e : i = k
  · subst e; simp [relTo, updN, h]
  · have h2 : i < k + 1 ↔ i < k := by omega
    simp [relTo, updN, e, h2]
theorem relTo_succ_no {S : List Use} {f : Nat → Nat} {now k : Nat} (h : ¬ now % per (nthU S k) = 0) : relTo S f now (k + 1) = relTo S f now k := by
  funext i
  unfold relTo
  by_cases hi : i < k + 1 ∧ now % per (nthU S i) = 0
  · have : i ≠ k := fun e => h (e ▸ hi.2)
    rw [if_pos hi, if_pos ⟨by omega, hi.2⟩]
  · rw [if_neg hi, if_neg (fun q => hi ⟨by omega, q.2⟩)]
theorem relTo_at {S : List Use} {f : Nat → Nat} {now k i : Nat} (h : k ≤ i) : relTo S f now k i = f i := by
  unfold relTo; rw [if_neg (fun q => by have := q.1; omega)]
theorem relTo_zero (S : List Use) (f : Nat → Nat) (now : Nat) : relTo S f now 0 = f := by funext i; exact relTo_at (Nat.zero_le _)

/-- The jobs before a tick. -/
def fAt (S : List Use) : Nat → (Nat → Nat)
  | 0 => fun i => cst (nthU S i)
  | t + 1 => rel S (run S (fAt S t) t) (t + 1)
/-- How many have been late. -/
def lateAt (S : List Use) : Nat → Nat
  | 0 => 0
  | t + 1 => lateAt S t + cnt S (run S (fAt S t) t) (t + 1)

theorem lateAt_le (S : List Use) : ∀ t, lateAt S t ≤ S.length * t
  | 0 => Nat.zero_le _
  | t + 1 => by
    have := lateAt_le S t
    have := cntTo_le S (run S (fAt S t) t) (t + 1) S.length
    show lateAt S t + cntTo S (run S (fAt S t) t) (t + 1) S.length ≤ _
    rw [Nat.mul_succ]; omega

theorem run_le (S : List Use) (f : Nat → Nat) (now i : Nat) : run S f now i ≤ f i := by
  unfold run; split
  · by_cases e : i = (pkI S f now).toNat
    · subst e; rw [updN_same]; omega
    · rw [updN_other _ _ e]; exact Nat.le_refl _
  · exact Nat.le_refl _
theorem fAt_le (S : List Use) : ∀ t i, fAt S t i ≤ cst (nthU S i)
  | 0, i => Nat.le_refl _
  | t + 1, i => by
    have h1 := fAt_le S t i
    have h2 := run_le S (fAt S t) t i
    show relTo S (run S (fAt S t) t) (t + 1) S.length i ≤ _
    unfold relTo; split <;> omega
theorem pkI_lt (S : List Use) (f : Nat → Nat) (now : Nat) : pkI S f now = -1 ∨ ∃ i : Nat, pkI S f now = i ∧ i < S.length ∧ 0 < f i := by
  rcases pkTo_is S f now S.length with h | ⟨i, h1, h2, h3, -⟩
  · exact Or.inl h.1
  · exact Or.inr ⟨i, h1, h2, h3⟩
end Go.Proofs.Ytijpiloljgpnkaa.Ad
