/- Timers alone, as lists of ids with times: which of them are due, in their order, and which stay. No world here. -/
import Derived.Test.YtiodfpoaakcejaaHFace
namespace Go.Proofs.Ytiodfpoaakcejaa.Wh
open Go.Proofs.Ytiodfpoaakcejaa.Hp
set_option linter.unusedVariables false

abbrev Timers := List (Int × Int)

/-- In order: none precedes one ahead of it. -/
def Sorted (D : Timers) : Prop := D.Pairwise fun x y => prec y x = false

/-- Who is due at a time, in order. -/
def goers (S : Timers) (t : Int) : Timers := (S.filter fun x => decide (x.2 ≤ t)).mergeSort fun x y => !prec y x

/-- Who isn't due yet. -/
def stay (S : Timers) (t : Int) : Timers := S.filter fun x => decide (t < x.2)

theorem sorted_goers (S : Timers) (t : Int) : Sorted (goers S t) := by
  have := List.pairwise_mergeSort (le := fun (x y : Int × Int) => !prec y x) (fun a b c h1 h2 => by
    simp only [prec, Bool.not_eq_true', decide_eq_false_iff_not] at *; omega) (fun a b => by
    simp only [prec, Bool.or_eq_true, Bool.not_eq_true', decide_eq_false_iff_not]; omega) (S.filter fun x => decide (x.2 ≤ t))
  exact this.imp (fun h => by simpa using h)

theorem perm_goers (S : Timers) (t : Int) : (goers S t).Perm (S.filter fun x => decide (x.2 ≤ t)) := List.mergeSort_perm _ _

theorem sorted_one {D E : Timers} (h1 : Sorted D) (h2 : Sorted E) (h : D.Perm E) : D = E := by
  refine List.Perm.eq_of_pairwise (le := fun x y => prec y x = false) (fun a b _ _ x y => ?_) h1 h2 h
  simp only [prec, decide_eq_false_iff_not] at x y
  apply Prod.ext <;> omega

/-- What makes a list the one of those who are due. -/
theorem goers_of {S D : Timers} {t : Int} (hs : Sorted D) (hp : D.Perm (S.filter fun x => decide (x.2 ≤ t))) : goers S t = D :=
  sorted_one (sorted_goers S t) hs ((perm_goers S t).trans hp.symm)

theorem mem_goers {S : Timers} {t : Int} {x : Int × Int} : x ∈ goers S t ↔ x ∈ S ∧ x.2 ≤ t := by
  rw [(perm_goers S t).mem_iff, List.mem_filter]; simp

theorem mem_stay {S : Timers} {t : Int} {x : Int × Int} : x ∈ stay S t ↔ x ∈ S ∧ t < x.2 := by
  unfold stay; rw [List.mem_filter]; simp

theorem goers_perm {S U : Timers} {t : Int} (h : S.Perm U) : goers S t = goers U t :=
  goers_of (sorted_goers U t) ((perm_goers U t).trans (h.filter _).symm)

theorem goers_len (S : Timers) (t : Int) : (goers S t).length + (stay S t).length = S.length := by
  rw [(perm_goers S t).length_eq]
  unfold stay
  induction S with
  | nil => rfl
  | cons x xs ih =>
    by_cases h : x.2 ≤ t
    · rw [List.filter_cons_of_pos (by simpa using h), List.filter_cons_of_neg (by simp; omega)]; simp only [List.length_cons]; omega
    · rw [List.filter_cons_of_neg (by simpa using h), List.filter_cons_of_pos (by simp; omega)]; simp only [List.length_cons]; omega

/-- What a step has done when the first of those who are left is not due. -/
theorem goers_done {S D R : Timers} {t : Int} (hp : (D ++ R).Perm S) (hs : Sorted D) (hd : ∀ d ∈ D, d.2 ≤ t) (hr : ∀ r ∈ R, t < r.2) : goers S t = D ∧ R.Perm (stay S t) := by
  have e1 : (D ++ R).filter (fun x => decide (x.2 ≤ t)) = D := by
    rw [List.filter_append, List.filter_eq_self.2 (by simpa using hd), List.filter_eq_nil_iff.2 (by simpa using hr), List.append_nil]
  have e2 : (D ++ R).filter (fun x => decide (t < x.2)) = R := by
    rw [List.filter_append, List.filter_eq_nil_iff.2 (by simpa using hd), List.filter_eq_self.2 (by simpa using hr), List.nil_append]
  refine ⟨goers_of hs ?_, ?_⟩
  · have := hp.filter (fun x => decide (x.2 ≤ t)); rwa [e1] at this
  · have := hp.filter (fun x => decide (t < x.2)); rwa [e2] at this

theorem sorted_snoc {D : Timers} {m : Int × Int} (h : Sorted D) (hm : ∀ d ∈ D, prec m d = false) : Sorted (D ++ [m]) := by
  unfold Sorted
  rw [List.pairwise_append]
  exact ⟨h, List.pairwise_singleton _ _, fun a ha b hb => by simp at hb; subst hb; exact hm a ha⟩

theorem sorted_append {D E : Timers} (h1 : Sorted D) (h2 : Sorted E) (h : ∀ d ∈ D, ∀ e ∈ E, prec e d = false) : Sorted (D ++ E) := by
  unfold Sorted
  rw [List.pairwise_append]
  exact ⟨h1, h2, h⟩

/-- In two steps as in one. -/
theorem goers_two {S : Timers} {t u : Int} (h : t ≤ u) : goers S u = goers S t ++ goers (stay S t) u ∧ stay (stay S t) u = stay S u := by
  have e : stay (stay S t) u = stay S u := by
    unfold stay
    rw [List.filter_filter]
    congr 1
    funext x
    by_cases h1 : u < x.2
    · simp [h1]; omega
    · simp [h1]
  refine ⟨?_, e⟩
  refine (goers_done (R := stay (stay S t) u) ?_ ?_ ?_ ?_).1
  · have h1 : (goers (stay S t) u ++ stay (stay S t) u).Perm (stay S t) := by
      refine ((perm_goers (stay S t) u).append_right _).trans ?_
      have := List.filter_append_perm (fun x : Int × Int => decide (x.2 ≤ u)) (stay S t)
      refine List.Perm.trans (List.Perm.of_eq ?_) this
      congr 1
      unfold stay
      congr 1
      funext x
      rw [← decide_not, decide_eq_decide]; omega
    have h2 : (goers S t ++ stay S t).Perm S := by
      refine ((perm_goers S t).append_right _).trans ?_
      have := List.filter_append_perm (fun x : Int × Int => decide (x.2 ≤ t)) S
      refine List.Perm.trans (List.Perm.of_eq ?_) this
      congr 1
      unfold stay
      congr 1
      funext x
      rw [← decide_not, decide_eq_decide]; omega
    rw [List.append_assoc]
    exact (h1.append_left _).trans h2
  · refine sorted_append (sorted_goers S t) (sorted_goers _ u) (fun d hd x hx => ?_)
    have h1 := (mem_goers.1 hd).2
    have h2 := (mem_stay.1 (mem_goers.1 hx).1).2
    simp only [prec, decide_eq_false_iff_not]; omega
  · intro d hd
    rcases List.mem_append.1 hd with hd | hd
    · have := (mem_goers.1 hd).2; omega
    · exact (mem_goers.1 hd).2
  · exact fun r hr => (mem_stay.1 hr).2

theorem goers_filter (S : Timers) (t : Int) (q : Int × Int → Bool) : goers (S.filter q) t = (goers S t).filter q := by
  refine goers_of ((sorted_goers S t).filter _) ?_
  have := (perm_goers S t).filter q
  refine this.trans (List.Perm.of_eq ?_)
  rw [List.filter_filter, List.filter_filter]
  congr 1
  funext x
  rw [Bool.and_comm]

theorem stay_filter (S : Timers) (t : Int) (q : Int × Int → Bool) : stay (S.filter q) t = (stay S t).filter q := by
  unfold stay
  rw [List.filter_filter, List.filter_filter]
  congr 1
  funext x
  rw [Bool.and_comm]

theorem stay_all {S : Timers} {t : Int} (h : ∀ x ∈ S, t < x.2) : stay S t = S := List.filter_eq_self.2 (by simpa using h)

theorem goers_none {S : Timers} {t : Int} (h : ∀ x ∈ S, t < x.2) : goers S t = [] := goers_of List.Pairwise.nil (by
  rw [List.filter_eq_nil_iff.2 (fun x hx => by have := h x hx; simp; omega)])

/-- Timers at another place of the clock. -/
def shift (c : Int) (S : Timers) : Timers := S.map fun x => (x.1, x.2 + c)

theorem shift_len (c : Int) (S : Timers) : (shift c S).length = S.length := by simp [shift]

theorem goers_shift (c : Int) (S : Timers) (t : Int) : goers (shift c S) (t + c) = shift c (goers S t) := by
  refine goers_of ?_ ?_
  · unfold Sorted shift
    rw [List.pairwise_map]
    refine (sorted_goers S t).imp (fun h => ?_)
    simp only [prec, decide_eq_false_iff_not] at *; omega
  · have h1 := (perm_goers S t).map (fun x : Int × Int => (x.1, x.2 + c))
    refine h1.trans (List.Perm.of_eq ?_)
    unfold shift
    rw [List.filter_map]
    congr 1
    congr 1
    funext x
    show decide (x.2 ≤ t) = decide (x.2 + c ≤ t + c)
    rw [decide_eq_decide]; omega

theorem stay_shift (c : Int) (S : Timers) (t : Int) : stay (shift c S) (t + c) = shift c (stay S t) := by
  unfold stay shift
  rw [List.filter_map]
  congr 1
  congr 1
  funext x
  show decide (t + c < x.2 + c) = decide (t < x.2)
  rw [decide_eq_decide]; omega

theorem least_shift {c : Int} {S : Timers} {m : Int × Int} (h : Least S m) : Least (shift c S) (m.1, m.2 + c) := by
  refine ⟨List.mem_map.2 ⟨m, h.1, rfl⟩, fun x hx => ?_⟩
  obtain ⟨y, hy, rfl⟩ := List.mem_map.1 hx
  have := h.2 y hy
  simp only [prec, decide_eq_false_iff_not] at *
  omega

theorem goers_ids_shift (c : Int) (S : Timers) (t : Int) : (goers (shift c S) (t + c)).map (·.1) = (goers S t).map (·.1) := by
  rw [goers_shift]; unfold shift; rw [List.map_map]; rfl

theorem ids_shift (c : Int) (S : Timers) : (shift c S).map (·.1) = S.map (·.1) := by
  unfold shift; rw [List.map_map]; rfl
end Go.Proofs.Ytiodfpoaakcejaa.Wh
