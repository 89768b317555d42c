/- SpanMoves: what the two loops leave, as lists alone. -/
import Derived.Test.YtbfnaejfmpnkbaaWalks
import Derived.Test.YtbfnaejfmpnkbaaDeep
namespace Go.Proofs.Ytbfnaejfmpnkbaa
set_option linter.unusedVariables false

/-- The place that the law comes to in round j. -/
def pm (n t j : Nat) : Nat := (j + t) % n
/-- The element that comes and goes. -/
def ex (i : Nat) : El := ⟨500, i, 7⟩

theorem pm_lt {n t j : Nat} (h : 0 < n) : pm n t j < n := Nat.mod_lt _ h
theorem pm_inj {n t i j : Nat} (hi : i < n) (hj : j < n) (h : pm n t i = pm n t j) : i = j := by
  unfold pm at h
  have h1 := Nat.div_add_mod (i + t) n
  have h2 := Nat.div_add_mod (j + t) n
  rw [h] at h1
  have h3 : n * ((i + t) / n) + (j + t) = n * ((j + t) / n) + (i + t) := by omega
  rcases Nat.lt_trichotomy ((i + t) / n) ((j + t) / n) with g | g | g
  · have := Nat.mul_le_mul_left n (show (i + t) / n + 1 ≤ (j + t) / n from g)
    rw [Nat.mul_add] at this; omega
  · rw [g] at h3; omega
  · have := Nat.mul_le_mul_left n (show (j + t) / n + 1 ≤ (i + t) / n from g)
    rw [Nat.mul_add] at this; omega
theorem pm_onto {n t i : Nat} (ht : t ≤ n) (hi : i < n) : ∃ j, j < n ∧ pm n t j = i := by
  unfold pm
  by_cases h : t ≤ i
  · exact ⟨i - t, by omega, by rw [Nat.sub_add_cancel h]; exact Nat.mod_eq_of_lt hi⟩
  · refine ⟨i + n - t, by omega, ?_⟩
    rw [show i + n - t + t = i + n by omega, Nat.add_mod_right]; exact Nat.mod_eq_of_lt hi

theorem sorted_ext {l m : List El} (hl : Sorted l) (hm : Sorted m) (h : ∀ x, x ∈ l ↔ x ∈ m) : l = m := by
  induction l generalizing m with
  | nil =>
    cases m with
    | nil => rfl
    | cons y m => have := (h y).2 (by simp); cases this
  | cons x l ih =>
    cases m with
    | nil => have := (h x).1 (by simp); cases this
    | cons y m =>
      obtain ⟨h1, h2⟩ := List.pairwise_cons.1 hl
      obtain ⟨g1, g2⟩ := List.pairwise_cons.1 hm
      have hxy : x = y := by
        rcases List.mem_cons.1 ((h x).1 (by simp)) with e | e
        · exact e
        · rcases List.mem_cons.1 ((h y).2 (by simp)) with f | f
          · exact f.symm
          · exact absurd (lt_trans (g1 x e) (h1 y f)) (lt_irrefl y)
      subst hxy
      rw [ih h2 g2 (fun z => ?_)]
      constructor
      · intro hz
        rcases List.mem_cons.1 ((h z).1 (List.mem_cons_of_mem _ hz)) with e | e
        · subst e; exact absurd (h1 z hz) (lt_irrefl z)
        · exact e
      · intro hz
        rcases List.mem_cons.1 ((h z).2 (List.mem_cons_of_mem _ hz)) with e | e
        · subst e; exact absurd (g1 z hz) (lt_irrefl z)
        · exact e

theorem cut_mem_iff {k i : Int} {l : List El} (hs : Sorted l) {y : El} : y ∈ cut k i l ↔ y ∈ l ∧ ¬ (y.k = k ∧ y.i = i) := by
  constructor
  · intro h
    refine ⟨cut_mem h, fun e => ?_⟩
    induction l with
    | nil => cases h
    | cons x l ih =>
      obtain ⟨h1, h2⟩ := List.pairwise_cons.1 hs
      simp only [cut] at h
      split at h
      · rename_i g
        have := h1 y h
        unfold lt bef at this; omega
      · rename_i g
        rcases List.mem_cons.1 h with f | f
        · subst f; exact g e
        · exact ih h2 f
  · rintro ⟨h1, h2⟩; exact cut_keep h1 h2

/-- The second tree after j rounds of the first loop. -/
def InA (xs : List Int) (t j : Nat) (L : List El) : Prop :=
  L.length ≤ 2 * j ∧ ∀ x, x ∈ L ↔ (∃ i, i < j ∧ x = elAt xs (pm xs.length t i)) ∨ ∃ i, i < j ∧ i % 2 = 0 ∧ x = ex (pm xs.length t i)

/-- .. and of the second loop. -/
def InB (xs : List Int) (t j : Nat) (L : List El) : Prop :=
  ∀ x, x ∈ L ↔ (∃ i, i < xs.length ∧ x = elAt xs i) ∨ ∃ i, j ≤ i ∧ i < xs.length ∧ i % 2 = 0 ∧ x = ex (pm xs.length t i)

theorem elAt_key (xs : List Int) (i : Nat) : (elAt xs i).k ≠ 500 := by
  have := restOf_hi (num xs i) 20 (by decide)
  simp only [elAt]; omega

section
variable {xs : List Int} {t j : Nat} {L : List El}
theorem a_new (h : InA xs t j L) (hj : j < xs.length) : ¬ Is L 500 (pm xs.length t j) := by
  rintro ⟨x, hx, h1, h2⟩
  rcases (h.2 x).1 hx with ⟨i, hi, rfl⟩ | ⟨i, hi, _, rfl⟩
  · exact elAt_key _ _ h1
  · simp only [ex] at h2
    have := pm_inj (t := t) (show i < xs.length by omega) hj (by omega)
    omega
theorem a_new2 (h : InA xs t j L) (hj : j < xs.length) : ¬ Is (put (ex (pm xs.length t j)) L) (elAt xs (pm xs.length t j)).k (pm xs.length t j) := by
  rintro ⟨x, hx, h1, h2⟩
  rcases put_mem.1 hx with rfl | hx
  · exact elAt_key _ _ h1.symm
  · rcases (h.2 x).1 hx with ⟨i, hi, rfl⟩ | ⟨i, hi, _, rfl⟩
    · simp only [elAt] at h2
      have := pm_inj (t := t) (show i < xs.length by omega) hj (by omega)
      omega
    · exact elAt_key _ _ h1.symm

theorem a_even (h : InA xs t j L) (hp : j % 2 = 0) : InA xs t (j + 1) (put (elAt xs (pm xs.length t j)) (put (ex (pm xs.length t j)) L)) := by
  refine ⟨by rw [put_len, put_len]; have := h.1; omega, fun x => ?_⟩
  rw [put_mem, put_mem, h.2 x]
  constructor
  · rintro (rfl | rfl | ⟨i, hi, rfl⟩ | ⟨i, hi, hq, rfl⟩)
    · exact Or.inl ⟨j, by omega, rfl⟩
    · exact Or.inr ⟨j, by omega, hp, rfl⟩
    · exact Or.inl ⟨i, by omega, rfl⟩
    · exact Or.inr ⟨i, by omega, hq, rfl⟩
  · rintro (⟨i, hi, rfl⟩ | ⟨i, hi, hq, rfl⟩)
    · by_cases e : i = j
      · subst e; exact Or.inl rfl
      · exact Or.inr (Or.inr (Or.inl ⟨i, by omega, rfl⟩))
    · by_cases e : i = j
      · subst e; exact Or.inr (Or.inl rfl)
      · exact Or.inr (Or.inr (Or.inr ⟨i, by omega, hq, rfl⟩))

theorem a_odd (h : InA xs t j L) (hj : j < xs.length) (hp : j % 2 = 1) (hs : Sorted (put (elAt xs (pm xs.length t j)) (put (ex (pm xs.length t j)) L))) :
    InA xs t (j + 1) (cut 500 (pm xs.length t j) (put (elAt xs (pm xs.length t j)) (put (ex (pm xs.length t j)) L))) := by
  refine ⟨Nat.le_trans (cut_sub _ _ _).length_le (by rw [put_len, put_len]; have := h.1; omega), fun x => ?_⟩
  rw [cut_mem_iff hs, put_mem, put_mem, h.2 x]
  constructor
  · rintro ⟨rfl | rfl | ⟨i, hi, rfl⟩ | ⟨i, hi, hq, rfl⟩, hn⟩
    · exact Or.inl ⟨j, by omega, rfl⟩
    · exact absurd ⟨rfl, rfl⟩ hn
    · exact Or.inl ⟨i, by omega, rfl⟩
    · exact Or.inr ⟨i, by omega, hq, rfl⟩
  · rintro (⟨i, hi, rfl⟩ | ⟨i, hi, hq, rfl⟩)
    · refine ⟨?_, fun e => elAt_key _ _ e.1⟩
      by_cases e : i = j
      · subst e; exact Or.inl rfl
      · exact Or.inr (Or.inr (Or.inl ⟨i, by omega, rfl⟩))
    · have e : i ≠ j := by omega
      refine ⟨Or.inr (Or.inr (Or.inr ⟨i, by omega, hq, rfl⟩)), fun g => e ?_⟩
      have := g.2
      simp only [ex] at this
      exact pm_inj (t := t) (show i < xs.length by omega) hj (by omega)

theorem b_of_a (h : InA xs t xs.length L) (ht : t ≤ xs.length) : InB xs t 0 L := by
  intro x
  rw [h.2 x]
  constructor
  · rintro (⟨i, hi, rfl⟩ | ⟨i, hi, hq, rfl⟩)
    · exact Or.inl ⟨_, pm_lt (by omega), rfl⟩
    · exact Or.inr ⟨i, by omega, hi, hq, rfl⟩
  · rintro (⟨i, hi, rfl⟩ | ⟨i, _, hi, hq, rfl⟩)
    · obtain ⟨q, hq, rfl⟩ := pm_onto (t := t) ht hi
      exact Or.inl ⟨q, hq, rfl⟩
    · exact Or.inr ⟨i, hi, hq, rfl⟩

theorem b_there (h : InB xs t j L) (hj : j < xs.length) (hp : j % 2 = 0) : ex (pm xs.length t j) ∈ L := (h _).2 (Or.inr ⟨j, Nat.le_refl _, hj, hp, rfl⟩)

theorem b_even (h : InB xs t j L) (hj : j < xs.length) (hs : Sorted L) : InB xs t (j + 1) (cut 500 (pm xs.length t j) L) := by
  intro x
  rw [cut_mem_iff hs, h x]
  constructor
  · rintro ⟨⟨i, hi, rfl⟩ | ⟨i, h1, h2, h3, rfl⟩, hn⟩
    · exact Or.inl ⟨i, hi, rfl⟩
    · by_cases e : i = j
      · subst e; exact absurd ⟨rfl, rfl⟩ hn
      · exact Or.inr ⟨i, by omega, h2, h3, rfl⟩
  · rintro (⟨i, hi, rfl⟩ | ⟨i, h1, h2, h3, rfl⟩)
    · exact ⟨Or.inl ⟨i, hi, rfl⟩, fun e => elAt_key _ _ e.1⟩
    · refine ⟨Or.inr ⟨i, by omega, h2, h3, rfl⟩, fun g => ?_⟩
      have := g.2
      simp only [ex] at this
      have := pm_inj (t := t) h2 hj (by omega)
      omega
theorem b_odd (h : InB xs t j L) (hp : j % 2 = 1) : InB xs t (j + 1) L := by
  intro x
  rw [h x]
  constructor
  · rintro (h | ⟨i, h1, h2, h3, rfl⟩)
    · exact Or.inl h
    · exact Or.inr ⟨i, by omega, h2, h3, rfl⟩
  · rintro (h | ⟨i, h1, h2, h3, rfl⟩)
    · exact Or.inl h
    · exact Or.inr ⟨i, by omega, h2, h3, rfl⟩
theorem b_end (h : InB xs t xs.length L) (hs : Sorted L) (hs2 : Sorted (treeTo xs xs.length)) : L = treeTo xs xs.length := by
  refine sorted_ext hs hs2 (fun x => ?_)
  rw [h x, treeTo_mem]
  constructor
  · rintro (h | ⟨i, h1, h2, h3, rfl⟩)
    · exact h
    · omega
  · exact fun h => Or.inl h
end
end Go.Proofs.Ytbfnaejfmpnkbaa
