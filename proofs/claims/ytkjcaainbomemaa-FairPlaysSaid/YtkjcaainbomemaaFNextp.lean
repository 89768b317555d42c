/- Who goes next has the least of the times that compete: without memory. -/
import Derived.Test.YtkjcaainbomemaaFPure
namespace Go.Proofs.Ytkjcaainbomemaa.Fr
open Go.Proofs.Ytkjcaainbomemaa.Vt
set_option linter.unusedVariables false

/-- A time that competes. -/
def Top (T : Tks) (G : Grs) (x : Int) : Prop := (∃ g : Nat, (1 ≤ g ∧ g ≤ 8) ∧ first T g ≠ 0 ∧ x = (G g).v) ∨ ∃ t, t < 17 ∧ isOf T 0 t ∧ x = (T t).v

section
variable {T : Tks} {G : Grs}

/-- What is known of the best of groups 1 to k. -/
theorem nextTo_spec (T : Tks) (G : Grs) (k : Nat) :
    ((nextTo T G k).1 = 0 → ∀ g : Nat, 1 ≤ g → g ≤ k → first T g = 0) ∧
    ((nextTo T G k).1 ≠ 0 → ∃ g : Nat, (1 ≤ g ∧ g ≤ k) ∧ first T g ≠ 0 ∧ nextTo T G k = (first T g, (G g).v) ∧ (∀ g' : Nat, 1 ≤ g' → g' ≤ k → first T g' ≠ 0 → (G g).v ≤ (G g').v) ∧ ∀ g' : Nat, 1 ≤ g' → g' < g → first T g' ≠ 0 → (G g).v ≠ (G g').v) := by
  induction k with
  | zero => exact ⟨fun _ g h1 h2 => by omega, fun h => absurd rfl h⟩
  | succ k ih =>
    obtain ⟨i1, i2⟩ := ih
    unfold nextTo
    have ek : ((k : Int) + 1) = ((k + 1 : Nat) : Int) := by omega
    rw [ek]
    by_cases hc : first T ((k + 1 : Nat) : Int) ≠ 0 ∧ ((nextTo T G k).1 = 0 ∨ (G (k + 1)).v < (nextTo T G k).2)
    · rw [if_pos hc]
      refine ⟨fun h => absurd h hc.1, fun _ => ⟨k + 1, ⟨by omega, by omega⟩, hc.1, rfl, fun g' h1 h2 h3 => ?_, fun g' h1 h2 h3 => ?_⟩⟩
      · by_cases e : g' = k + 1
        · subst e; exact Int.le_refl _
        · by_cases z : (nextTo T G k).1 = 0
          · exact absurd (i1 z g' h1 (by omega)) h3
          · obtain ⟨g, -, -, e2, e3, -⟩ := i2 z
            rcases hc.2 with h | h
            · exact absurd h z
            · rw [e2] at h
              have := e3 g' h1 (by omega) h3
              simp only at h; omega
      · by_cases z : (nextTo T G k).1 = 0
        · exact absurd (i1 z g' h1 (by omega)) h3
        · obtain ⟨g, -, -, e2, e3, -⟩ := i2 z
          rcases hc.2 with h | h
          · exact absurd h z
          · rw [e2] at h
            have := e3 g' h1 (by omega) h3
            simp only at h; omega
    · rw [if_neg hc]
      refine ⟨fun z g h1 h2 => ?_, fun z => ?_⟩
      · by_cases e : g = k + 1
        · subst e
          apply Decidable.byContradiction
          intro h
          exact hc ⟨h, Or.inl z⟩
        · exact i1 z g h1 (by omega)
      · obtain ⟨g, e0, e1, e2, e3, e4⟩ := i2 z
        refine ⟨g, ⟨e0.1, by omega⟩, e1, e2, fun g' h1 h2 h3 => ?_, e4⟩
        by_cases e : g' = k + 1
        · subst e
          have : ¬ (G (k + 1)).v < (nextTo T G k).2 := fun h => hc ⟨h3, Or.inr h⟩
          rw [e2] at this
          simp only at this; omega
        · exact e3 g' h1 (by omega) h3

/-- Who goes next: of group g, the first of those with the least time; or without a group. -/
theorem next_spec (h0 : (T 0).r = false) :
    ((next T G).1 = 0 → ∀ x, ¬ Top T G x) ∧
    ((next T G).1 ≠ 0 → Top T G (next T G).2 ∧ (∀ x, Top T G x → (next T G).2 ≤ x) ∧
      ((∃ g : Nat, (1 ≤ g ∧ g ≤ 8) ∧ first T g ≠ 0 ∧ next T G = (first T g, (G g).v) ∧ ∀ g' : Nat, 1 ≤ g' → g' < g → first T g' ≠ 0 → (G g').v ≠ (G g).v) ∨
       (first T 0 ≠ 0 ∧ next T G = (first T 0, (T (first T 0)).v) ∧ ∀ g : Nat, 1 ≤ g → g ≤ 8 → first T g ≠ 0 → (G g).v ≠ (T (first T 0)).v))) := by
  obtain ⟨i1, i2⟩ := nextTo_spec T G 8
  unfold next
  by_cases hc : first T 0 ≠ 0 ∧ ((nextTo T G 8).1 = 0 ∨ (T (first T 0)).v < (nextTo T G 8).2)
  · rw [if_pos hc]
    have hf := first_of h0 hc.1
    have hg : ∀ g : Nat, 1 ≤ g → g ≤ 8 → first T g ≠ 0 → (T (first T 0)).v < (G g).v := by
      intro g h1 h2 h3
      by_cases z : (nextTo T G 8).1 = 0
      · exact absurd (i1 z g h1 h2) h3
      · obtain ⟨g1, -, -, e2, e3, -⟩ := i2 z
        rcases hc.2 with h | h
        · exact absurd h z
        · rw [e2] at h
          have := e3 g h1 h2 h3
          simp only at h; omega
    refine ⟨fun h => absurd h hc.1, fun _ => ⟨Or.inr ⟨_, first_lt T 0, hf, rfl⟩, ?_, Or.inr ⟨hc.1, rfl, fun g h1 h2 h3 => by have := hg g h1 h2 h3; omega⟩⟩⟩
    rintro x (⟨g, h1, h2, rfl⟩ | ⟨t, h1, h2, rfl⟩)
    · have := hg g h1.1 h1.2 h2; simp only; omega
    · exact first_le h0 hc.1 t h1 h2
  · rw [if_neg hc]
    refine ⟨fun z x hx => ?_, fun z => ?_⟩
    · rcases hx with ⟨g, h1, h2, -⟩ | ⟨t, h1, h2, -⟩
      · exact h2 (i1 z g h1.1 h1.2)
      · have : first T 0 = 0 := by
          apply Decidable.byContradiction
          intro h; exact hc ⟨h, Or.inl z⟩
        exact first_zero h0 this t h1 h2
    · obtain ⟨g, e0, e1, e2, e3, e4⟩ := i2 z
      rw [e2]
      refine ⟨Or.inl ⟨g, e0, e1, rfl⟩, ?_, Or.inl ⟨g, e0, e1, rfl, fun g' h1 h2 h3 => Ne.symm (e4 g' h1 h2 h3)⟩⟩
      rintro x (⟨g', h1, h2, rfl⟩ | ⟨t, h1, h2, rfl⟩)
      · exact e3 g' h1.1 h1.2 h2
      · have hn : first T 0 ≠ 0 := fun e => first_zero h0 e t h1 h2
        have h4 := first_le h0 hn t h1 h2
        have : ¬ (T (first T 0)).v < (nextTo T G 8).2 := fun h => hc ⟨hn, Or.inr h⟩
        rw [e2] at this
        simp only at this ⊢; omega
end

/-- A list of the times that compete. -/
def Tops (T : Tks) (G : Grs) (U : List Int) : Prop := ∀ x, x ∈ U ↔ Top T G x

theorem tops_empty {T : Tks} {G : Grs} {U : List Int} (h0 : (T 0).r = false) (h : Tops T G U) : U = [] ↔ (next T G).1 = 0 := by
  obtain ⟨h1, h2⟩ := next_spec (G := G) h0
  constructor
  · intro e
    apply Decidable.byContradiction
    intro z
    have := (h _).2 (h2 z).1
    rw [e] at this; cases this
  · intro z
    match U, h with
    | [], _ => rfl
    | x :: r, h => exact absurd ((h x).1 (by simp)) (h1 z x)
theorem tops_least {T : Tks} {G : Grs} {U : List Int} {m : Int} (h0 : (T 0).r = false) (h : Tops T G U) (hm : m ∈ U) (hl : ∀ x ∈ U, m ≤ x) : m = (next T G).2 := by
  have hz : (next T G).1 ≠ 0 := fun z => by rw [(tops_empty h0 h).2 z] at hm; cases hm
  obtain ⟨h1, h2, -⟩ := (next_spec (G := G) h0).2 hz
  have := hl _ ((h _).2 h1)
  have := h2 m ((h m).1 hm)
  omega
end Go.Proofs.Ytkjcaainbomemaa.Fr
