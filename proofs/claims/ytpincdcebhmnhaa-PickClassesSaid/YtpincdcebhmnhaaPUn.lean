/- Queues in which each task stands once. -/
import Derived.Test.YtpincdcebhmnhaaPTurn
namespace Go.Proofs.Ytpincdcebhmnhaa.Pr
open Go.ChangeShapes Go.WideShapes Go.ChangeAt Go.RowKit Go.Maps
set_option linter.unusedVariables false

/-- Each task stands once. -/
structure Uniq (Q : Qs) : Prop where
  nodup : ∀ i, i < 8 → (Q i).Nodup
  only : ∀ i j t, i < 8 → j < 8 → t ∈ Q i → t ∈ Q j → i = j
  task : ∀ i t, i < 8 → t ∈ Q i → 1 ≤ t ∧ t ≤ 16

theorem Uniq.len {Q : Qs} (h : Uniq Q) {i : Nat} (hi : i < 8) : (Q i).length ≤ 16 := by
  have h2 : (Q i).length ≤ ((List.range' 1 16).map Int.ofNat).length := by
    apply List.Nodup.length_le_of_subset (h.nodup i hi)
    intro x hx
    have := h.task i x hi hx
    rw [List.mem_map]
    refine ⟨x.toNat, ?_, by show ((x.toNat : Nat) : Int) = x; omega⟩
    rw [List.mem_range'_1]; omega
  simpa using h2

theorem uniq_no : Uniq noQ := ⟨fun _ _ => List.nodup_nil, (fun i j t _ _ h => by cases h), (fun i t _ h => by cases h)⟩

/-- A queue's list changed to one whose tasks were in it, or in no queue. -/
theorem Uniq.upd {Q : Qs} (h : Uniq Q) {v : Nat} (hv : v < 8) {xs : List Int} (hn : xs.Nodup) (hm : ∀ t ∈ xs, t ∈ Q v ∨ seek Q t = none ∧ 1 ≤ t ∧ t ≤ 16) : Uniq (upd Q v xs) := by
  refine ⟨fun i hi => ?_, fun i j t hi hj h1 h2 => ?_, fun i t hi ht => ?_⟩
  · by_cases e : i = v
    · subst e; rw [upd_same]; exact hn
    · rw [upd_other _ _ e]; exact h.nodup i hi
  · by_cases e : i = v
    · by_cases e2 : j = v
      · rw [e, e2]
      · subst e
        rw [upd_same] at h1
        rw [upd_other _ _ e2] at h2
        rcases hm t h1 with h3 | h3
        · exact h.only i j t hi hj h3 h2
        · exact absurd h2 (seek_no h3.1 hj)
    · rw [upd_other _ _ e] at h1
      by_cases e2 : j = v
      · subst e2
        rw [upd_same] at h2
        rcases hm t h2 with h3 | h3
        · exact h.only i j t hi hj h1 h3
        · exact absurd h1 (seek_no h3.1 hi)
      · rw [upd_other _ _ e2] at h2
        exact h.only i j t hi hj h1 h2
  · by_cases e : i = v
    · subst e
      rw [upd_same] at ht
      rcases hm t ht with h3 | h3
      · exact h.task i t hi h3
      · exact h3.2
    · rw [upd_other _ _ e] at ht
      exact h.task i t hi ht

theorem Uniq.put {Q : Qs} (h : Uniq Q) {v : Nat} (hv : v < 8) {t : Int} (hs : seek Q t = none) (ht : 1 ≤ t ∧ t ≤ 16) : Uniq (Pr.upd Q v (Q v ++ [t])) := by
  refine h.upd hv ?_ (fun x hx => ?_)
  · rw [List.nodup_append]
    refine ⟨h.nodup v hv, by simp, fun a ha b hb => ?_⟩
    simp at hb
    subst hb
    intro e
    subst e
    exact seek_no hs hv ha
  · rcases List.mem_append.1 hx with hx | hx
    · exact Or.inl hx
    · simp at hx; subst hx; exact Or.inr ⟨hs, ht⟩

theorem Uniq.out {Q : Qs} (h : Uniq Q) {t : Int} {i : Nat} (hi : i < 8) : Uniq (Pr.upd Q i ((Q i).erase t)) :=
  h.upd hi ((h.nodup i hi).sublist (List.erase_sublist)) (fun x hx => Or.inl (List.mem_of_mem_erase hx))

theorem Uniq.seek {Q : Qs} (h : Uniq Q) {t : Int} {i : Nat} (hi : i < 8) (ht : t ∈ Q i) : seek Q t = some i :=
  seekTo_some hi ht (fun j hj hm => by have := h.only i j t hi (by omega) ht hm; omega)

theorem Uniq.turned {Q : Qs} (h : Uniq Q) {v : Nat} (hv : v < 8) {x : Int} {xs : List Int} (he : Q v = x :: xs) : Uniq (Pr.upd Q v (xs ++ [x])) := by
  have hx : x ∈ Q v := by rw [he]; simp
  have hn := h.nodup v hv
  rw [he, List.nodup_cons] at hn
  refine h.upd hv ?_ (fun t ht => Or.inl ?_)
  · rw [List.nodup_append]
    refine ⟨hn.2, by simp, fun a ha b hb => ?_⟩
    simp at hb
    subst hb
    rintro rfl
    exact hn.1 ha
  · rw [he]
    rcases List.mem_append.1 ht with ht | ht
    · exact List.mem_cons_of_mem _ ht
    · simp at ht; subst ht; simp
end Go.Proofs.Ytpincdcebhmnhaa.Pr
