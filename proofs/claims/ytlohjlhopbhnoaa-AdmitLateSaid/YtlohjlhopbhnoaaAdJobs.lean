/- The reference's jobs, without memory. -/
import Derived.Test.YtlohjlhopbhnoaaAdEdf
import Derived.Shelf.SlSortFuncK.WholeK
namespace Go.Proofs.Ytlohjlhopbhnoaa.Ad
open Go.Shelf
set_option linter.unusedVariables false

/-- A job: what is left, when it ends, whose it is. -/
abbrev Job := Nat × Nat × Nat

/-- Who must be done first goes first. -/
def jobLt (x y : Job) : Bool := decide (x.2.1 < y.2.1 ∨ x.2.1 = y.2.1 ∧ x.2.2 < y.2.2)
theorem swo_job : Sort.SWO jobLt where
  irrefl x := by simp [jobLt]
  trans x y z h1 h2 := by simp only [jobLt, decide_eq_true_eq] at *; omega
  ntrans x y z h1 h2 := by simp only [jobLt, decide_eq_false_iff_not] at *; omega

/-- The jobs of those of whom q holds. -/
def jobsOf (n : Nat) (q : Nat → Bool) (g : Nat → Job) : List Job := ((List.range n).filter q).map g

theorem jobsOf_congr {n : Nat} {q q' : Nat → Bool} {g g' : Nat → Job} (h : ∀ i, i < n → q i = q' i) (hg : ∀ i, i < n → q i = true → g i = g' i) : jobsOf n q g = jobsOf n q' g' := by
  unfold jobsOf
  rw [List.filter_congr (q := q') (fun i hi => h i (List.mem_range.1 hi))]
  apply List.map_congr_left
  intro i hi
  obtain ⟨h1, h2⟩ := List.mem_filter.1 hi
  exact hg i (List.mem_range.1 h1) (by rw [h i (List.mem_range.1 h1)]; exact h2)

theorem filter_jobs (n : Nat) (q : Nat → Bool) (g : Nat → Job) (r : Job → Bool) : (jobsOf n q g).filter r = jobsOf n (fun i => q i && r (g i)) g := by
  unfold jobsOf
  rw [List.filter_map, List.filter_filter]
  congr 1
  apply List.filter_congr
  intro i _
  simp [Bool.and_comm]

theorem jobs_part (n : Nat) (q r : Nat → Bool) (g : Nat → Job) : (jobsOf n (fun i => q i && r i) g ++ jobsOf n (fun i => q i && !r i) g).Perm (jobsOf n q g) := by
  unfold jobsOf
  rw [← List.map_append]
  refine List.Perm.map g ?_
  have := List.filter_append_perm r ((List.range n).filter q)
  rw [List.filter_filter, List.filter_filter] at this
  refine List.Perm.trans (List.Perm.of_eq ?_) this
  congr 1 <;> (apply List.filter_congr; intro i _; simp [Bool.and_comm])

theorem jobs_one {n i0 : Nat} (h : i0 < n) (q : Nat → Bool) (g : Nat → Job) : jobsOf n (fun i => q i && decide (i = i0)) g = if q i0 = true then [g i0] else [] := by
  have key : ∀ m, ((List.range m).filter (fun i => q i && decide (i = i0))) = if i0 < m ∧ q i0 = true then [i0] else [] := by
    intro m
    induction m with
    | zero => simp
    | succ m ih =>
      rw [List.range_succ, List.filter_append, ih]
      by_cases e : m = i0
      · subst e
        rw [if_neg (by omega)]
        by_cases hq : q m = true
        · rw [if_pos ⟨by omega, hq⟩]; simp [hq]
        · rw [if_neg (fun x => hq x.2)]; simp [hq]
      · have h1 : ([m].filter (fun i => q i && decide (i = i0))) = [] := by simp [e]
        rw [h1, List.append_nil]
        by_cases hq : i0 < m ∧ q i0 = true
        · rw [if_pos hq, if_pos ⟨by omega, hq.2⟩]
        · rw [if_neg hq, if_neg (fun x => hq ⟨by have := x.1; omega, x.2⟩)]
  unfold jobsOf
  rw [key n]
  by_cases hq : q i0 = true
  · rw [if_pos ⟨h, hq⟩, if_pos hq]; rfl
  · rw [if_neg (fun x => hq x.2), if_neg hq]; rfl

theorem count_jobs (n : Nat) (q : Nat → Bool) (g : Nat → Job) (r : Job → Bool) : (jobsOf n q g).countP r = ((List.range n).filter (fun i => q i && r (g i))).length := by
  rw [List.countP_eq_length_filter, filter_jobs]
  unfold jobsOf
  rw [List.length_map]

section
variable {S : List Use}

/-- When the job ends that was open before a time. -/
def endB (now p : Nat) : Nat := if now % p = 0 then now else endAt now p
/-- The jobs before the releases at a time. -/
def Pb (S : List Use) : Nat → (Nat → Nat)
  | 0 => fun _ => 0
  | t + 1 => run S (fAt S t) t
/-- How many have been late before a time. -/
def lateB (S : List Use) : Nat → Nat
  | 0 => 0
  | t + 1 => lateAt S t

def jobB (S : List Use) (P : Nat → Nat) (now i : Nat) : Job := (P i, endB now (per (nthU S i)), i)
def jobA (S : List Use) (f : Nat → Nat) (now i : Nat) : Job := (f i, endAt now (per (nthU S i)), i)
def newJob (S : List Use) (now i : Nat) : Job := (cst (nthU S i), now + per (nthU S i), i)

/-- A list holds the jobs that were open before a time, and some that are done. -/
def Open (S : List Use) (now : Nat) (J : List Job) : Prop := (J.filter (fun x => decide (0 < x.1))).Perm (jobsOf S.length (fun i => decide (0 < Pb S now i)) (jobB S (Pb S now) now))

theorem Open.start (S : List Use) : Open S 0 [] := by
  unfold Open jobsOf
  have : (List.range S.length).filter (fun i => decide (0 < Pb S 0 i)) = [] := by
    apply List.filter_eq_nil_iff.2
    intro i _
    simp [Pb]
  rw [this]
  exact List.Perm.refl _

/-- The jobs behind the releases. -/
theorem fAt_is (hok : allOk S) (now i : Nat) (hi : i < S.length) : fAt S now i = if now % per (nthU S i) = 0 then cst (nthU S i) else Pb S now i := by
  cases now with
  | zero => rw [Nat.zero_mod, if_pos rfl]; rfl
  | succ t =>
    show relTo S (run S (fAt S t) t) (t + 1) S.length i = _
    unfold relTo
    by_cases h : (t + 1) % per (nthU S i) = 0
    · rw [if_pos ⟨hi, h⟩, if_pos h]
    · rw [if_neg (fun q => h q.2), if_neg h]; rfl

theorem late_is (S : List Use) (now : Nat) : lateB S now + cnt S (Pb S now) now = lateAt S now := by
  cases now with
  | zero =>
    have : cnt S (Pb S 0) 0 = 0 := cnt_zero.2 (fun i hi _ => rfl)
    rw [this]; rfl
  | succ t => rfl

/-- How many are late. -/
theorem Open.late {now : Nat} {J : List Job} (h : Open S now J) (hok : allOk S) : J.countP (fun x => decide (x.2.1 = now) && decide (0 < x.1)) = cnt S (Pb S now) now := by
  have h1 : J.countP (fun x => decide (x.2.1 = now) && decide (0 < x.1)) = (J.filter (fun x => decide (0 < x.1))).countP (fun x => decide (x.2.1 = now)) := by
    rw [List.countP_filter]
  rw [h1, h.countP_eq, count_jobs]
  have key : ∀ k, k ≤ S.length → ((List.range k).filter (fun i => decide (0 < Pb S now i) && decide ((jobB S (Pb S now) now i).2.1 = now))).length = cntTo S (Pb S now) now k := by
    intro k
    induction k with
    | zero => intro _; rfl
    | succ k ih =>
      intro hk
      rw [List.range_succ, List.filter_append, List.length_append, ih (by omega)]
      show _ = cntTo S (Pb S now) now k + _
      congr 1
      have hu := okU_nat (hok k (by omega))
      have he : (jobB S (Pb S now) now k).2.1 = now ↔ now % per (nthU S k) = 0 := by
        show endB now (per (nthU S k)) = now ↔ _
        unfold endB
        by_cases hm : now % per (nthU S k) = 0
        · rw [if_pos hm]; simp [hm]
        · rw [if_neg hm]
          have := endAt_gt (now := now) hu.2.2.1
          constructor
          · intro q; omega
          · intro q; exact absurd q hm
      by_cases hc : now % per (nthU S k) = 0 ∧ 0 < Pb S now k
      · rw [if_pos hc]; simp [he.2 hc.1, hc.2]
      · rw [if_neg hc]
        have : (decide (0 < Pb S now k) && decide ((jobB S (Pb S now) now k).2.1 = now)) = false := by
          rw [Bool.and_eq_false_iff]
          by_cases h0 : 0 < Pb S now k
          · right; exact decide_eq_false (fun q => hc ⟨he.1 q, h0⟩)
          · left; exact decide_eq_false h0
        simp [this]
  exact key S.length (Nat.le_refl _)

/-- The jobs behind the releases: those that go on, and the new ones. -/
theorem Open.left {now : Nat} {J : List Job} (h : Open S now J) (hok : allOk S) :
    (J.filter (fun x => decide (now < x.2.1) && decide (0 < x.1)) ++ jobsOf S.length (fun i => decide (now % per (nthU S i) = 0)) (newJob S now)).Perm (jobsOf S.length (fun i => decide (0 < fAt S now i)) (jobA S (fAt S now) now)) := by
  have h1 : J.filter (fun x => decide (now < x.2.1) && decide (0 < x.1)) = (J.filter (fun x => decide (0 < x.1))).filter (fun x => decide (now < x.2.1)) := by
    rw [List.filter_filter]
  have h2 := h.filter (fun x => decide (now < x.2.1))
  rw [← h1, filter_jobs] at h2
  have h3 := jobs_part S.length (fun i => decide (0 < fAt S now i)) (fun i => !decide (now % per (nthU S i) = 0)) (jobA S (fAt S now) now)
  refine List.Perm.trans (List.Perm.append (h2.trans (List.Perm.of_eq ?_)) (List.Perm.of_eq ?_)) h3
  · apply jobsOf_congr
    · intro i hi
      have hu := okU_nat (hok i hi)
      have he := endAt_gt (now := now) hu.2.2.1
      rw [fAt_is hok now i hi]
      show (decide (0 < Pb S now i) && decide (now < endB now (per (nthU S i)))) = _
      unfold endB
      by_cases hm : now % per (nthU S i) = 0
      · simp [hm]
      · simp [hm, he]
    · intro i hi hq
      have hu := okU_nat (hok i hi)
      rw [Bool.and_eq_true] at hq
      have h5 : now < endB now (per (nthU S i)) := of_decide_eq_true hq.2
      unfold jobB jobA
      rw [fAt_is hok now i hi]
      unfold endB at h5 ⊢
      by_cases hm : now % per (nthU S i) = 0
      · rw [if_pos hm] at h5; omega
      · rw [if_neg hm, if_neg hm]
  · apply jobsOf_congr
    · intro i hi
      have hu := okU_nat (hok i hi)
      rw [fAt_is hok now i hi]
      by_cases hm : now % per (nthU S i) = 0
      · simp [hm]; omega
      · simp [hm]
    · intro i hi hq
      have hm : now % per (nthU S i) = 0 := of_decide_eq_true hq
      unfold newJob jobA
      rw [fAt_is hok now i hi, if_pos hm]
      unfold endAt
      rw [hm, Nat.sub_zero]

theorem endB_next {t p : Nat} (hp : 1 ≤ p) : endB (t + 1) p = endAt t p := by
  unfold endB
  by_cases h : (t + 1) % p = 0
  · rw [if_pos h, end_now hp h]
  · rw [if_neg h, end_same hp h]

theorem mem_jobs {n : Nat} {q : Nat → Bool} {g : Nat → Job} {x : Job} : x ∈ jobsOf n q g ↔ ∃ i, i < n ∧ q i = true ∧ g i = x := by
  unfold jobsOf
  simp [List.mem_map, List.mem_filter, and_assoc]

/-- Nobody goes on. -/
theorem tick_none {now : Nat} (hok : allOk S) (h : ([] : List Job).Perm (jobsOf S.length (fun i => decide (0 < fAt S now i)) (jobA S (fAt S now) now))) : Open S (now + 1) [] := by
  have hz : ∀ i, i < S.length → fAt S now i = 0 := fun i hi => by
    apply Decidable.byContradiction; intro hh
    have : jobA S (fAt S now) now i ∈ ([] : List Job) := h.mem_iff.2 (mem_jobs.2 ⟨i, hi, decide_eq_true (by omega), rfl⟩)
    cases this
  have hr : ∀ i, i < S.length → Pb S (now + 1) i = 0 := fun i hi => by
    have := run_le S (fAt S now) now i
    have := hz i hi
    show run S (fAt S now) now i = 0
    omega
  unfold Open
  rw [show jobsOf S.length (fun i => decide (0 < Pb S (now + 1) i)) (jobB S (Pb S (now + 1)) (now + 1)) = [] from ?_]
  · exact List.Perm.refl _
  · unfold jobsOf
    rw [List.filter_eq_nil_iff.2 (fun i hi => by simp [hr i (List.mem_range.1 hi)])]
    rfl

/-- Who is first has the tick. -/
theorem tick_first {now : Nat} (hok : allOk S) {x : Job} {T : List Job} (hp : (x :: T).Perm (jobsOf S.length (fun i => decide (0 < fAt S now i)) (jobA S (fAt S now) now))) (hs : (x :: T).Pairwise fun x y => jobLt y x = false) : 0 < x.1 ∧ Open S (now + 1) ((x.1 - 1, x.2.1, x.2.2) :: T) := by
  obtain ⟨i0, hi0, hq0, hx0⟩ := mem_jobs.1 (hp.mem_iff.1 List.mem_cons_self)
  have hf0 : 0 < fAt S now i0 := of_decide_eq_true hq0
  -- it is the one that the program picks
  have hpick : pkI S (fAt S now) now = i0 := by
    unfold pkI
    rcases pkTo_is S (fAt S now) now S.length with ⟨-, h2⟩ | ⟨i, h1, h2, h3, -, h5⟩
    · have := h2 i0 hi0; omega
    · rw [h1]
      have hi : jobA S (fAt S now) now i ∈ x :: T := hp.mem_iff.2 (mem_jobs.2 ⟨i, h2, decide_eq_true h3, rfl⟩)
      have h6 := h5 i0 hi0 hf0
      rcases List.mem_cons.1 hi with e | hm
      · rw [← hx0] at e
        have : i = i0 := congrArg (fun z : Job => z.2.2) e
        rw [this]
      · have h7 := (List.pairwise_cons.1 hs).1 _ hm
        rw [← hx0] at h7
        have h8 : ¬ (endAt now (per (nthU S i)) < endAt now (per (nthU S i0)) ∨ endAt now (per (nthU S i)) = endAt now (per (nthU S i0)) ∧ i < i0) := of_decide_eq_false h7
        have : i = i0 := by omega
        rw [this]
  have hrun : Pb S (now + 1) = updN (fAt S now) i0 (fAt S now i0 - 1) := by
    show run S (fAt S now) now = _
    unfold run
    rw [hpick, if_pos (by omega), Int.toNat_natCast]
  have hx1 : x.1 = fAt S now i0 := by rw [← hx0]; rfl
  refine ⟨by omega, ?_⟩
  -- the others are as they were
  have h1 := jobs_part S.length (fun i => decide (0 < fAt S now i)) (fun i => decide (i = i0)) (jobA S (fAt S now) now)
  rw [jobs_one hi0, if_pos hq0, hx0] at h1
  have hT := List.Perm.cons_inv (hp.trans h1.symm)
  have hpos : ∀ y ∈ T, 0 < y.1 := fun y hy => by
    obtain ⟨i, -, hq, rfl⟩ := mem_jobs.1 (hp.mem_iff.1 (List.mem_cons_of_mem _ hy))
    exact of_decide_eq_true hq
  have hTf : T.filter (fun x => decide (0 < x.1)) = T := List.filter_eq_self.2 (fun y hy => decide_eq_true (hpos y hy))
  unfold Open
  rw [hrun]
  have h2 := jobs_part S.length (fun i => decide (0 < updN (fAt S now) i0 (fAt S now i0 - 1) i)) (fun i => decide (i = i0)) (jobB S (updN (fAt S now) i0 (fAt S now i0 - 1)) (now + 1))
  rw [jobs_one hi0] at h2
  refine List.Perm.trans ?_ h2
  have h3 : jobsOf S.length (fun i => decide (0 < updN (fAt S now) i0 (fAt S now i0 - 1) i) && !decide (i = i0)) (jobB S (updN (fAt S now) i0 (fAt S now i0 - 1)) (now + 1)) = jobsOf S.length (fun i => decide (0 < fAt S now i) && !decide (i = i0)) (jobA S (fAt S now) now) := by
    apply jobsOf_congr
    · intro i hi
      by_cases e : i = i0
      · simp [e]
      · rw [updN_other _ _ e]
    · intro i hi hq
      have e : i ≠ i0 := by
        intro e; subst e; simp at hq
      unfold jobB jobA
      rw [updN_other _ _ e, endB_next (okU_nat (hok i hi)).2.2.1]
  rw [h3]
  have hu0 := okU_nat (hok i0 hi0)
  rw [updN_same]
  by_cases hl : 0 < fAt S now i0 - 1
  · rw [if_pos (decide_eq_true hl)]
    rw [List.filter_cons, if_pos (by show decide (0 < x.1 - 1) = true; rw [hx1]; exact decide_eq_true hl), hTf]
    have e : jobB S (updN (fAt S now) i0 (fAt S now i0 - 1)) (now + 1) i0 = (x.1 - 1, x.2.1, x.2.2) := by
      unfold jobB
      rw [updN_same, endB_next hu0.2.2.1, ← hx0]; rfl
    rw [e]
    exact List.Perm.cons _ hT
  · rw [if_neg (by simp; omega)]
    rw [List.filter_cons, if_neg (by rw [hx1]; simp; omega), hTf]
    exact hT
end
end Go.Proofs.Ytlohjlhopbhnoaa.Ad
