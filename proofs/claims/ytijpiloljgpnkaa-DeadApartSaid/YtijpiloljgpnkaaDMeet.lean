/- Earliest deadline first meets deadlines: what the tasks may still want by any time is no more than there is. Without memory. -/
import Derived.Test.YtijpiloljgpnkaaDPure
namespace Go.Proofs.Ytijpiloljgpnkaa.De
set_option linter.unusedVariables false

/-- What a task may still want by time D, in parts: N parts are a tick, U parts are its share of one. -/
def want (U N : Int) (x : Tk) (D n : Int) : Int :=
  if D < x.d then 0 else if x.r = true then N * x.l + U * (D - x.d) else min (N * x.l + U * (D - x.d)) (U * (D - n))

/-- A task whose share is U of N. -/
structure Has (U N : Int) (x : Tk) (n : Int) : Prop where
  ok : Ok x n
  p : 1 ≤ x.p
  share : U * x.p = x.b * N
  pos : 0 < N
  thr : x.o = true → n < x.d
  dp : x.d ≤ n + x.p

section
variable {U N D n : Int} {x : Tk}
theorem Has.u0 (h : Has U N x n) : 0 ≤ U := by
  apply Decidable.byContradiction
  intro hh
  have h1 : U * x.p < 0 * x.p := Int.mul_lt_mul_of_pos_right (by omega) (by have := h.p; omega)
  have h2 : 0 ≤ x.b * N := Int.mul_nonneg h.ok.b.1 (by have := h.pos; omega)
  rw [h.share, Int.zero_mul] at h1
  omega
theorem Has.nl (h : Has U N x n) : 0 ≤ N * x.l := Int.mul_nonneg (by have := h.pos; omega) h.ok.l.1
theorem mul_up {U a b : Int} (hU : 0 ≤ U) (h : a ≤ b) : U * a ≤ U * b := Int.mul_le_mul_of_nonneg_left h hU
theorem mul_nn {U a : Int} (hU : 0 ≤ U) (h : 0 ≤ a) : 0 ≤ U * a := Int.mul_nonneg hU h

theorem Has.want_nn (h : Has U N x n) (hD : n ≤ D) : 0 ≤ want U N x D n := by
  have h1 := h.nl
  have h2 := h.u0
  unfold want
  split
  · exact Int.le_refl _
  · rename_i hd
    have h3 := mul_nn h2 (show 0 ≤ D - x.d by omega)
    have h4 := mul_nn h2 (show 0 ≤ D - n by omega)
    split <;> omega

theorem want_far (hd : D < x.d) : want U N x D n = 0 := if_pos hd
theorem want_r (hd : x.d ≤ D) (hr : x.r = true) : want U N x D n = N * x.l + U * (D - x.d) := by unfold want; rw [if_neg (by omega), if_pos hr]
theorem want_b (hd : x.d ≤ D) (hr : x.r = false) : want U N x D n = min (N * x.l + U * (D - x.d)) (U * (D - n)) := by unfold want; rw [if_neg (by omega), if_neg (by rw [hr]; simp)]

/-- Whoever does not have the tick. -/
theorem Has.want_again (h : Has U N x n) (hD : n + 1 ≤ D) : want U N (again x (n + 1)) D (n + 1) ≤ want U N x D n := by
  have hu := h.u0
  have hnn := h.want_nn (D := D) (by omega)
  by_cases hf : x.o = true ∧ x.d ≤ n + 1
  · have e : again x (n + 1) = fill x x.d := if_pos hf
    have hthr := h.thr hf.1
    have hl : x.l = 0 := (h.ok.lo (by have := h.p; omega)).1 hf.1
    rw [e]
    have hs := h.share
    by_cases hd : D < x.d + x.p
    · rw [want_far (x := fill x x.d) hd]; exact hnn
    · have hd2 : x.d ≤ D := by have := h.p; omega
      have h1 : N * x.b + U * (D - (x.d + x.p)) = U * (D - x.d) := by
        rw [show D - (x.d + x.p) = (D - x.d) - x.p by omega, Int.mul_sub, hs, Int.mul_comm N]; omega
      have h2 := mul_up hu (show D - (n + 1) ≤ D - n by omega)
      cases hr : x.r with
      | true =>
        rw [want_r (x := fill x x.d) (show x.d + x.p ≤ D by omega) hr, want_r hd2 hr, hl]
        show N * x.b + U * (D - (x.d + x.p)) ≤ _
        rw [h1]; omega
      | false =>
        rw [want_b (x := fill x x.d) (show x.d + x.p ≤ D by omega) hr, want_b hd2 hr, hl]
        show min (N * x.b + U * (D - (x.d + x.p))) _ ≤ _
        rw [h1]; omega
  · have e : again x (n + 1) = x := if_neg hf
    rw [e]
    have h2 := mul_up hu (show D - (n + 1) ≤ D - n by omega)
    by_cases hd : D < x.d
    · rw [want_far hd, want_far hd]; exact Int.le_refl _
    · cases hr : x.r with
      | true => rw [want_r (by omega) hr, want_r (by omega) hr]; exact Int.le_refl _
      | false => rw [want_b (by omega) hr, want_b (by omega) hr]; omega

theorem Has.again (h : Has U N x n) (hn : 0 ≤ n) : Has U N (again x (n + 1)) (n + 1) := by
  have hp := h.p
  have hdp := h.dp
  refine ⟨h.ok.again hn (by omega), by rw [again_p]; exact hp, ?_, h.pos, ?_, ?_⟩
  · have : (De.again x (n + 1)).b = x.b := by unfold De.again fill; split <;> rfl
    rw [again_p, this]; exact h.share
  · unfold De.again
    split
    · intro hh; cases hh
    · rename_i hc
      intro ho
      exact Decidable.byContradiction fun hh => hc ⟨ho, by omega⟩
  · rw [again_p]
    unfold De.again
    split
    · rename_i hc; show x.d + x.p ≤ _; omega
    · omega

theorem Has.use (h : Has U N x n) (hc : Can x) (hd : n < x.d) : Has U N (use x) n :=
  ⟨h.ok.use hc, h.p, h.share, h.pos, fun _ => hd, h.dp⟩

theorem Can.left (hc : Can x) (h : Ok x n) : 1 ≤ x.l := by
  have := h.l
  have h0 : x.l ≠ 0 := fun e => by have := (h.lo (h.rp hc.1)).2 e; rw [hc.2] at this; cases this
  omega

/-- Whoever has the tick. -/
theorem Has.want_use (h : Has U N x n) (hc : Can x) (hd : n < x.d) (hD : n + 1 ≤ D) (hxD : x.d ≤ D) : want U N (De.again (De.use x) (n + 1)) D (n + 1) + N ≤ want U N x D n := by
  have h1 := (h.use hc hd).want_again hD
  have h2 : want U N (De.use x) D n + N = want U N x D n := by
    rw [want_r (x := De.use x) hxD hc.1, want_r hxD hc.1]
    show N * (x.l - 1) + U * (D - x.d) + N = _
    rw [Int.mul_sub, Int.mul_one]; omega
  omega

/-- Where nobody who wants something by D has the tick. -/
theorem Has.want_idle (h : Has U N x n) (hc : ¬ Can x ∨ D < x.d) (hD : n + 1 ≤ D) : want U N (De.again x (n + 1)) D (n + 1) ≤ U * (D - (n + 1)) := by
  have hu := h.u0
  have h0 := mul_nn hu (show 0 ≤ D - (n + 1) by omega)
  by_cases hf : x.o = true ∧ x.d ≤ n + 1
  · have e : De.again x (n + 1) = fill x x.d := if_pos hf
    have hthr := h.thr hf.1
    have hd1 : x.d = n + 1 := by omega
    rw [e]
    by_cases hd : D < x.d + x.p
    · rw [want_far (x := fill x x.d) hd]; exact h0
    · have h1 : N * x.b + U * (D - (x.d + x.p)) = U * (D - (n + 1)) := by
        rw [show D - (x.d + x.p) = (D - (n + 1)) - x.p by omega, Int.mul_sub, h.share, Int.mul_comm N]; omega
      cases hr : x.r with
      | true =>
        rw [want_r (x := fill x x.d) (show x.d + x.p ≤ D by omega) hr]
        show N * x.b + U * (D - (x.d + x.p)) ≤ _
        rw [h1]; exact Int.le_refl _
      | false =>
        rw [want_b (x := fill x x.d) (show x.d + x.p ≤ D by omega) hr]
        show min (N * x.b + U * (D - (x.d + x.p))) _ ≤ _
        rw [h1]; omega
  · have e : De.again x (n + 1) = x := if_neg hf
    rw [e]
    by_cases hd : D < x.d
    · rw [want_far hd]; exact h0
    · have hc' : ¬ Can x := hc.resolve_right hd
      cases hr : x.r with
      | false => rw [want_b (by omega) hr]; omega
      | true =>
        cases ho : x.o with
        | false => exact absurd ⟨hr, ho⟩ hc'
        | true =>
          have hl : x.l = 0 := (h.ok.lo (by have := h.p; omega)).1 ho
          have hd2 : n + 1 < x.d := by
            apply Decidable.byContradiction; intro hh; exact hf ⟨ho, by omega⟩
          rw [want_r (by omega) hr, hl, Int.mul_zero, Int.zero_add]
          exact mul_up hu (by omega)

theorem Has.want_slept (h : Has U N x n) : want U N ⟨x.b, x.p, x.l, x.d, false, x.o⟩ D n ≤ want U N x D n := by
  by_cases hd : D < x.d
  · rw [want_far (x := ⟨x.b, x.p, x.l, x.d, false, x.o⟩) hd, want_far hd]; exact Int.le_refl _
  · rw [want_b (x := ⟨x.b, x.p, x.l, x.d, false, x.o⟩) (show x.d ≤ D by omega) rfl]
    cases hr : x.r with
    | true => rw [want_r (by omega) hr]; show min (N * x.l + U * (D - x.d)) _ ≤ _; omega
    | false => rw [want_b (by omega) hr]; exact Int.le_refl _
theorem Has.slept (h : Has U N x n) : Has U N ⟨x.b, x.p, x.l, x.d, false, x.o⟩ n := ⟨h.ok.slept, h.p, h.share, h.pos, h.thr, h.dp⟩

theorem Has.want_woke (h : Has U N x n) (hr : x.r = false) (hD : n ≤ D) : want U N (De.woke x n) D n ≤ want U N x D n := by
  have hu := h.u0
  have hp := h.p
  have hnn := h.want_nn hD
  by_cases hs : x.o = false ∧ Stale x n
  · have e : De.woke x n = fill ⟨x.b, x.p, x.l, x.d, true, x.o⟩ n := if_pos hs
    rw [e]
    by_cases hd : D < n + x.p
    · rw [want_far (x := fill ⟨x.b, x.p, x.l, x.d, true, x.o⟩ n) hd]; exact hnn
    · rw [want_r (x := fill ⟨x.b, x.p, x.l, x.d, true, x.o⟩ n) (show n + x.p ≤ D by omega) rfl]
      show N * x.b + U * (D - (n + x.p)) ≤ _
      have h1 : N * x.b + U * (D - (n + x.p)) = U * (D - n) := by
        rw [show D - (n + x.p) = (D - n) - x.p by omega, Int.mul_sub, h.share, Int.mul_comm N]; omega
      rw [h1, want_b (by have := h.dp; omega) hr]
      have h2 : U * (D - n) ≤ N * x.l + U * (D - x.d) := by
        rcases hs.2 with q | q
        · have := mul_up hu (show D - n ≤ D - x.d by omega)
          have := h.nl
          omega
        · have h3 : U * (x.d - n) ≤ N * x.l := by
            apply Decidable.byContradiction
            intro hh
            have h4 : N * x.l * x.p < U * (x.d - n) * x.p := Int.mul_lt_mul_of_pos_right (by omega) (by omega)
            have h5 : N * (x.b * (x.d - n)) < N * (x.l * x.p) := Int.mul_lt_mul_of_pos_left q h.pos
            have h6 : U * (x.d - n) * x.p = N * (x.b * (x.d - n)) := by
              rw [Int.mul_right_comm, h.share, Int.mul_comm x.b N, Int.mul_assoc]
            rw [h6, Int.mul_assoc] at h4
            omega
          rw [show D - n = (D - x.d) + (x.d - n) by omega, Int.mul_add]
          omega
      omega
  · have e : De.woke x n = ⟨x.b, x.p, x.l, x.d, true, x.o⟩ := if_neg hs
    rw [e]
    by_cases hd : D < x.d
    · rw [want_far (x := ⟨x.b, x.p, x.l, x.d, true, x.o⟩) hd, want_far hd]; exact Int.le_refl _
    · rw [want_r (x := ⟨x.b, x.p, x.l, x.d, true, x.o⟩) (show x.d ≤ D by omega) rfl, want_b (by omega) hr]
      show N * x.l + U * (D - x.d) ≤ _
      have h2 : N * x.l + U * (D - x.d) ≤ U * (D - n) := by
        have h3 : N * x.l ≤ U * (x.d - n) := by
          cases ho : x.o with
          | true =>
            have hl : x.l = 0 := (h.ok.lo (by omega)).1 ho
            rw [hl, Int.mul_zero]
            exact mul_nn hu (by have := h.thr ho; omega)
          | false =>
            have hns : ¬ Stale x n := fun q => hs ⟨ho, q⟩
            have hns2 : ¬ (x.d ≤ n ∨ x.b * (x.d - n) < x.l * x.p) := hns
            apply Decidable.byContradiction
            intro hh
            have h4 : U * (x.d - n) * x.p < N * x.l * x.p := Int.mul_lt_mul_of_pos_right (by omega) (by omega)
            have h5 : N * (x.l * x.p) ≤ N * (x.b * (x.d - n)) := mul_up (by have := h.pos; omega) (by omega)
            have h6 : U * (x.d - n) * x.p = N * (x.b * (x.d - n)) := by
              rw [Int.mul_right_comm, h.share, Int.mul_comm x.b N, Int.mul_assoc]
            rw [h6, Int.mul_assoc] at h4
            omega
        rw [show D - n = (D - x.d) + (x.d - n) by omega, Int.mul_add]
        omega
      omega
theorem Has.woke (h : Has U N x n) (hn : 0 ≤ n) : Has U N (De.woke x n) n := by
  have hp := h.p
  refine ⟨h.ok.woke hn (by omega), ?_, ?_, h.pos, ?_, ?_⟩
  · have : (De.woke x n).p = x.p := by unfold De.woke fill; split <;> rfl
    rw [this]; exact hp
  · have e1 : (De.woke x n).p = x.p := by unfold De.woke fill; split <;> rfl
    have e2 : (De.woke x n).b = x.b := by unfold De.woke fill; split <;> rfl
    rw [e1, e2]; exact h.share
  · unfold De.woke
    split
    · intro hh; cases hh
    · exact h.thr
  · unfold De.woke
    split
    · exact Int.le_refl _
    · exact h.dp
end

/-- The sum of f 1 to f k. -/
def sumT (f : Nat → Int) : Nat → Int
  | 0 => 0
  | k + 1 => sumT f k + f (k + 1)

section
variable {f g : Nat → Int} {k : Nat}
theorem sumT_le (h : ∀ i, 1 ≤ i → i ≤ k → f i ≤ g i) : sumT f k ≤ sumT g k := by
  induction k with
  | zero => exact Int.le_refl _
  | succ k ih =>
    have h1 := ih (fun i h1 h2 => h i h1 (by omega))
    have h2 := h (k + 1) (by omega) (Nat.le_refl _)
    show sumT f k + f (k + 1) ≤ sumT g k + g (k + 1)
    omega
theorem sumT_less (h : ∀ i, 1 ≤ i → i ≤ k → f i ≤ g i) {j : Nat} (h1 : 1 ≤ j) (h2 : j ≤ k) {m : Int} (hj : f j + m ≤ g j) : sumT f k + m ≤ sumT g k := by
  induction k with
  | zero => omega
  | succ k ih =>
    show sumT f k + f (k + 1) + m ≤ sumT g k + g (k + 1)
    by_cases e : j = k + 1
    · subst e
      have := sumT_le (f := f) (g := g) (k := k) (fun i q1 q2 => h i q1 (by omega))
      omega
    · have q := ih (fun i q1 q2 => h i q1 (by omega)) (by omega)
      have := h (k + 1) (by omega) (Nat.le_refl _)
      omega
theorem sumT_one (h : ∀ i, 1 ≤ i → i ≤ k → 0 ≤ f i) {j : Nat} (h1 : 1 ≤ j) (h2 : j ≤ k) : f j ≤ sumT f k := by
  induction k with
  | zero => omega
  | succ k ih =>
    show f j ≤ sumT f k + f (k + 1)
    have hk := h (k + 1) (by omega) (Nat.le_refl _)
    by_cases e : j = k + 1
    · subst e
      have : 0 ≤ sumT f k := by
        have := sumT_le (f := fun _ => 0) (g := f) (k := k) (fun i q1 q2 => h i q1 (by omega))
        have h0 : ∀ m, sumT (fun _ => (0 : Int)) m = 0 := fun m => by
          induction m with
          | zero => rfl
          | succ m ih => show sumT (fun _ => (0 : Int)) m + 0 = 0; omega
        rw [h0] at this; exact this
      omega
    · have := ih (fun i q1 q2 => h i q1 (by omega)) (by omega)
      omega
theorem sumT_two (h : ∀ i, 1 ≤ i → i ≤ k → 0 ≤ f i) {i j : Nat} (h1 : 1 ≤ i) (h2 : i ≤ k) (h3 : 1 ≤ j) (h4 : j ≤ k) (hne : i ≠ j) : f i + f j ≤ sumT f k := by
  induction k with
  | zero => omega
  | succ k ih =>
    show f i + f j ≤ sumT f k + f (k + 1)
    have hk := h (k + 1) (by omega) (Nat.le_refl _)
    by_cases e : i = k + 1
    · subst e
      have := sumT_one (f := f) (k := k) (fun i q1 q2 => h i q1 (by omega)) h3 (by omega)
      omega
    · by_cases e2 : j = k + 1
      · subst e2
        have := sumT_one (f := f) (k := k) (fun i q1 q2 => h i q1 (by omega)) h1 (by omega)
        omega
      · have := ih (fun i q1 q2 => h i q1 (by omega)) (by omega) (by omega)
        omega
theorem sumT_mul (c : Int) : sumT (fun i => f i * c) k = sumT f k * c := by
  induction k with
  | zero => show (0 : Int) = 0 * c; rw [Int.zero_mul]
  | succ k ih =>
    show sumT (fun i => f i * c) k + f (k + 1) * c = (sumT f k + f (k + 1)) * c
    rw [ih, Int.add_mul]
end

/-- Tasks 1 to k, whose shares of N are U, and who together want no more by any time than there is until it. -/
structure Meets (T : Tks) (k : Nat) (U : Nat → Int) (N n : Int) : Prop where
  has : ∀ i, 1 ≤ i → i ≤ k → Has (U i) N (T i) n
  none : ∀ i, k < i → i < 17 → (T i).r = false
  zero : (T 0).r = false
  k16 : k ≤ 16
  all : sumT U k ≤ N
  soon : ∀ i, 1 ≤ i → i ≤ k → Can (T i) → n < (T i).d
  sum : ∀ D, n ≤ D → sumT (fun i => want (U i) N (T i) D n) k ≤ N * (D - n)
  n0 : 0 ≤ n

section
variable {T : Tks} {k : Nat} {U : Nat → Int} {N n : Int}
theorem Meets.pos (h : Meets T k U N n) (hk : 1 ≤ k) : 0 < N := (h.has 1 (Nat.le_refl _) hk).pos
theorem Meets.no0 (h : Meets T k U N n) : ¬ Can (T 0) := fun c => by have := c.1; rw [h.zero] at this; cases this

/-- Who is ready, and has something left, has enough time for it. -/
theorem Meets.time (h : Meets T k U N n) {i : Nat} (h1 : 1 ≤ i) (h2 : i ≤ k) (hc : Can (T i)) : (T i).l ≤ (T i).d - n := by
  have hi := h.has i h1 h2
  have hs := h.soon i h1 h2 hc
  have hsum := h.sum (T i).d (by omega)
  have h3 := sumT_one (f := fun j => want (U j) N (T j) (T i).d n) (k := k) (fun j q1 q2 => (h.has j q1 q2).want_nn (by omega)) h1 h2
  rw [want_r (Int.le_refl _) hc.1, Int.sub_self, Int.mul_zero, Int.add_zero] at h3
  apply Decidable.byContradiction
  intro hh
  have : N * ((T i).d - n + 1) ≤ N * (T i).l := mul_up (by have := hi.pos; omega) (by omega)
  rw [Int.mul_add, Int.mul_one] at this
  have := hi.pos
  omega

theorem Meets.pick_in (h : Meets T k U N n) (hp : pick T ≠ 0) : 1 ≤ pick T ∧ pick T ≤ k ∧ Can (T (pick T)) := by
  have hc := pick_can hp
  refine ⟨by omega, ?_, hc⟩
  apply Decidable.byContradiction
  intro hh
  have := h.none (pick T) (by omega) (pick_lt T)
  rw [hc.1] at this; cases this

/-- Who has just the last tick ahead of its deadline left has it. -/
theorem Meets.last (h : Meets T k U N n) {i : Nat} (h1 : 1 ≤ i) (h2 : i ≤ k) (hc : Can (T i)) (hd : (T i).d = n + 1) : pick T = i ∧ (T i).l = 1 := by
  have hk := h.k16
  have hl := h.time h1 h2 hc
  have hi := h.has i h1 h2
  have hl1 := hc.left hi.ok
  have hf := pick_first h.no0 (show i < 17 by omega) hc
  obtain ⟨p1, p2, p3⟩ := h.pick_in hf.1
  refine ⟨?_, by omega⟩
  apply Decidable.byContradiction
  intro hne
  have hp := h.has _ p1 p2
  have hsum := h.sum (n + 1) (by omega)
  have h3 := sumT_two (f := fun j => want (U j) N (T j) (n + 1) n) (k := k) (fun j q1 q2 => (h.has j q1 q2).want_nn (by omega)) p1 p2 h1 h2 hne
  rw [want_r (by omega) p3.1, want_r (by omega) hc.1, hd, Int.sub_self, Int.mul_zero, Int.add_zero] at h3
  have hpl := p3.left hp.ok
  have e1 : N ≤ N * (T (pick T)).l := by have := mul_up (U := N) (by have := hi.pos; omega) hpl; rw [Int.mul_one] at this; exact this
  have e2 : N ≤ N * (T i).l := by have := mul_up (U := N) (by have := hi.pos; omega) hl1; rw [Int.mul_one] at this; exact this
  have e3 := mul_nn hp.u0 (show 0 ≤ n + 1 - (T (pick T)).d by omega)
  rw [show n + 1 - n = 1 by omega, Int.mul_one] at hsum
  have := hi.pos
  omega

theorem again_can (x : Tk) (m : Int) (h : Can (again x m)) : Can x ∨ (x.o = true ∧ x.d ≤ m ∧ (again x m).d = x.d + x.p) := by
  unfold again at h ⊢
  by_cases hf : x.o = true ∧ x.d ≤ m
  · rw [if_pos hf]; exact Or.inr ⟨hf.1, hf.2, rfl⟩
  · rw [if_neg hf] at h; exact Or.inl h

/-- A tick. -/
theorem Meets.tick (h : Meets T k U N n) : Meets (De.tick T n) k U N (n + 1) := by
  have hk := h.k16
  have hn := h.n0
  -- the tasks ahead of the refill
  obtain ⟨V, hV⟩ : ∃ V : Tks, V = if pick T = 0 then T else upd T (pick T) (use (T (pick T))) := ⟨_, rfl⟩
  have eT : De.tick T n = past V n := by
    unfold De.tick
    split
    · rename_i h0; rw [hV, if_pos h0]
    · rename_i h0; rw [hV, if_neg h0]
  have at_ : ∀ i, i < 17 → De.tick T n i = again (V i) (n + 1) := fun i hi => by rw [eT, past_at V n hi]
  have Vi : ∀ i, (pick T = i ∧ pick T ≠ 0 ∧ V i = use (T i)) ∨ ((pick T ≠ i ∨ pick T = 0) ∧ V i = T i) := by
    intro i
    by_cases h0 : pick T = 0
    · right; rw [hV, if_pos h0]; exact ⟨Or.inr h0, rfl⟩
    · by_cases e : pick T = i
      · left; rw [hV, if_neg h0]; subst e; exact ⟨rfl, h0, by rw [upd_same]⟩
      · right; rw [hV, if_neg h0, upd_other _ _ (Ne.symm e)]; exact ⟨Or.inl e, rfl⟩
  have hasV : ∀ i, 1 ≤ i → i ≤ k → Has (U i) N (V i) n := by
    intro i h1 h2
    rcases Vi i with ⟨e, h0, ev⟩ | ⟨-, ev⟩
    · rw [ev]
      have := (h.pick_in h0).2.2
      rw [e] at this
      exact (h.has i h1 h2).use this (h.soon i h1 h2 this)
    · rw [ev]; exact h.has i h1 h2
  have rV : ∀ i, (V i).r = (T i).r := by
    intro i
    rcases Vi i with ⟨e, h0, ev⟩ | ⟨-, ev⟩
    · rw [ev]; rfl
    · rw [ev]
  have ar : ∀ (x : Tk) (m : Int), (again x m).r = x.r := fun x m => by unfold again fill; split <;> rfl
  refine ⟨fun i h1 h2 => ?_, fun i h1 h2 => ?_, ?_, hk, h.all, fun i h1 h2 hc => ?_, fun D hD => ?_, by omega⟩
  · rw [at_ i (by omega)]; exact (hasV i h1 h2).again hn
  · rw [at_ i h2, ar, rV]; exact h.none i h1 h2
  · rw [at_ 0 (by omega), ar, rV]; exact h.zero
  · rw [at_ i (by omega)] at hc ⊢
    rcases again_can _ _ hc with q | ⟨q1, q2, q3⟩
    · -- it could go before: it has time
      have hnf : again (V i) (n + 1) = V i := if_neg (by rintro ⟨q1, -⟩; rw [q.2] at q1; cases q1)
      rw [hnf]
      rcases Vi i with ⟨e, h0, ev⟩ | ⟨-, ev⟩
      · rw [ev] at q ⊢
        have hci := (h.pick_in h0).2.2
        rw [e] at hci
        have ht := h.time h1 h2 hci
        have ho : (T i).l - 1 ≠ 0 := by have := q.2; simp [use] at this; omega
        have := hci.left (h.has i h1 h2).ok
        show n + 1 < (T i).d
        omega
      · rw [ev] at q ⊢
        have hd := h.soon i h1 h2 q
        by_cases e : (T i).d = n + 1
        · have hl := h.last h1 h2 q e
          rcases Vi i with ⟨_, _, ev2⟩ | ⟨hne, _⟩
          · have h3 : V i = T i := ev
            rw [h3] at ev2
            have := congrArg Tk.l ev2
            simp [use] at this
            omega
          · rcases hne with hne | hne
            · exact absurd hl.1 hne
            · omega
        · omega
    · rw [q3]
      have hv := hasV i h1 h2
      have := hv.thr q1
      have := hv.p
      omega
  · have hco : ∀ i, 1 ≤ i → i ≤ k → want (U i) N (De.tick T n i) D (n + 1) = want (U i) N (again (V i) (n + 1)) D (n + 1) := fun i h1 h2 => by rw [at_ i (by omega)]
    by_cases hA : pick T ≠ 0 ∧ (T (pick T)).d ≤ D
    · obtain ⟨h0, hd⟩ := hA
      obtain ⟨p1, p2, p3⟩ := h.pick_in h0
      have hs := h.sum D (by omega)
      have hl := sumT_less (f := fun i => want (U i) N (De.tick T n i) D (n + 1)) (g := fun i => want (U i) N (T i) D n) (k := k) (m := N) (fun i h1 h2 => by
          rw [hco i h1 h2]
          rcases Vi i with ⟨e, h0, ev⟩ | ⟨-, ev⟩
          · rw [ev]
            have hci : Can (T i) := by rw [← e]; exact p3
            have := (h.has i h1 h2).want_use hci (h.soon i h1 h2 hci) hD (by rw [← e]; exact hd)
            have := (h.has i h1 h2).pos
            omega
          · rw [ev]; exact (h.has i h1 h2).want_again hD) p1 p2 (by
          rw [hco _ p1 p2]
          rcases Vi (pick T) with ⟨e, h0, ev⟩ | ⟨hne, ev⟩
          · rw [ev]; exact (h.has _ p1 p2).want_use p3 (h.soon _ p1 p2 p3) hD hd
          · rcases hne with hne | hne
            · exact absurd rfl hne
            · exact absurd hne h0)
      rw [show D - n = (D - (n + 1)) + 1 by omega, Int.mul_add, Int.mul_one] at hs
      omega
    · have hl := sumT_le (f := fun i => want (U i) N (De.tick T n i) D (n + 1)) (g := fun i => U i * (D - (n + 1))) (k := k) (fun i h1 h2 => by
          rw [hco i h1 h2]
          have hni : ¬ Can (T i) ∨ D < (T i).d := by
            by_cases hc : Can (T i)
            · right
              have hf := pick_first h.no0 (show i < 17 by omega) hc
              apply Decidable.byContradiction
              intro hh
              exact hA ⟨hf.1, by omega⟩
            · exact Or.inl hc
          rcases Vi i with ⟨e, h0, ev⟩ | ⟨-, ev⟩
          · rw [ev]
            have hci := (h.pick_in h0).2.2
            rw [e] at hci
            exact ((h.has i h1 h2).use hci (h.soon i h1 h2 hci)).want_idle (Or.inr (by
              rcases hni with q | q
              · exact absurd hci q
              · exact q)) hD
          · rw [ev]; exact (h.has i h1 h2).want_idle hni hD)
      rw [sumT_mul] at hl
      by_cases hk1 : 1 ≤ k
      · have : sumT U k * (D - (n + 1)) ≤ N * (D - (n + 1)) := Int.mul_le_mul_of_nonneg_right h.all (by omega)
        omega
      · have hk0 : k = 0 := by omega
        have e0 : ∀ f : Nat → Int, sumT f k = 0 := fun f => by rw [hk0]; rfl
        rw [e0]
        have := h.sum (n + 1) (by omega)
        rw [e0, show n + 1 - n = 1 by omega, Int.mul_one] at this
        exact mul_nn this (by omega)
end
end Go.Proofs.Ytijpiloljgpnkaa.De
