/- On lags: all lags come to nothing; one tick more for one. -/
import Derived.Test.YtbdkibigcjpkbaaVtLag
namespace Go.Proofs.Ytbdkibigcjpkbaa.Vt
open Go.ChangeShapes Go.WideShapes Go.ChangeAt Go.RowKit
set_option linter.unusedVariables false

theorem sum_set (xs : List Int) : ∀ (q : Nat) (v : Int), q < xs.length → (xs.set q v).sum = xs.sum - xs.getD q 0 + v := by
  induction xs with
  | nil => intro q v h; cases h
  | cons x xs ih =>
    intro q v h
    cases q with
    | zero => simp; omega
    | succ q =>
      have := ih q v (by simpa using h)
      simp [List.getD] at *
      omega

theorem sum_more (xs : List Int) (hx : ∀ x ∈ xs, 1 ≤ x) : (xs.length : Int) ≤ xs.sum ∧ ∀ q, q < xs.length → xs.getD q 0 + xs.length - 1 ≤ xs.sum := by
  induction xs with
  | nil => exact ⟨by simp, fun q h => by cases h⟩
  | cons x xs ih =>
    obtain ⟨h1, h2⟩ := ih (fun y hy => hx y (by simp [hy]))
    have h3 := hx x (by simp)
    refine ⟨by simp; omega, fun q h => ?_⟩
    cases q with
    | zero => simp; omega
    | succ q =>
      have := h2 q (by simpa using h)
      simp [List.getD] at *
      omega

theorem sumTo_all (xs : List Int) {n : Nat} (h : xs.length = n) : sumTo xs n = xs.sum := by
  unfold sumTo; rw [List.take_of_length_le (by omega)]

/-- The weights and the ticks of the statement. -/
structure Fit (ws ts : List Int) (n : Nat) : Prop where
  lw : ws.length = n
  lt : ts.length = n
  few : n ≤ 16
  w : ∀ x ∈ ws, 1 ≤ x ∧ x ≤ 100
  t : ∀ x ∈ ts, 0 ≤ x ∧ x ≤ 1000

theorem getD_mem {xs : List Int} {j : Nat} (h : j < xs.length) : xs.getD j 0 ∈ xs := by
  simp [List.getD, h]

theorem Fit.ok {ws ts : List Int} {n : Nat} (h : Fit ws ts n) : okTo ws ts n := by
  intro j hj
  have h1 := h.w _ (getD_mem (j := j) (by rw [h.lw]; exact hj))
  have h2 := h.t _ (getD_mem (j := j) (by rw [h.lt]; exact hj))
  unfold okAt isW isT
  rw [Bool.and_eq_true]
  exact ⟨decide_eq_true h1, decide_eq_true ⟨h2.1, by omega⟩⟩

theorem Fit.ans {ws ts : List Int} {n : Nat} (h : Fit ws ts n) {j : Nat} (hj : j < n) : lagAns ws ts j = (lagOf ws ts j, 0) := by
  unfold lagAns
  rw [if_neg (fun hh => hh (by rw [h.lw]; exact h.ok)), if_neg (by rw [h.lw]; omega)]
  simp

theorem Fit.sums {ws ts : List Int} {n : Nat} (h : Fit ws ts n) {j : Nat} (hj : j ≤ n) : (0 ≤ sumTo ws j ∧ sumTo ws j ≤ 1600) ∧ 0 ≤ sumTo ts j ∧ sumTo ts j ≤ 16000 := by
  have h1 := sumTo_bd (k := j) (fun i hi => h.ok i (by omega)) (by rw [h.lw]; exact hj) (by rw [h.lt]; exact hj)
  refine ⟨⟨by omega, by have := h.few; omega⟩, by omega, ?_⟩
  have : ∀ k, k ≤ n → sumTo ts k ≤ 1000 * k := by
    intro k
    induction k with
    | zero => intro _; simp [sumTo]
    | succ k ih =>
      intro hk
      have h2 := h.t _ (getD_mem (j := k) (by rw [h.lt]; omega))
      have h3 := ih (by omega)
      rw [sumTo_succ ts k (by rw [h.lt]; omega)]
      omega
  have h3 := this j hj
  have := h.few
  omega

/-- The sum of the first lags. -/
def lagTo (ws ts : List Int) (n j : Nat) : Int := sumTo ts n * sumTo ws j - sumTo ts j * sumTo ws n

theorem lagTo_zero (ws ts : List Int) (n : Nat) : lagTo ws ts n 0 = 0 := by simp [lagTo, sumTo]
theorem lagTo_all (ws ts : List Int) (n : Nat) : lagTo ws ts n n = 0 := by unfold lagTo; omega
theorem Fit.lagTo_succ {ws ts : List Int} {n : Nat} (h : Fit ws ts n) {j : Nat} (hj : j < n) : lagTo ws ts n (j + 1) = lagTo ws ts n j + lagOf ws ts j := by
  unfold lagTo lagOf
  rw [sumTo_succ ws j (by rw [h.lw]; exact hj), sumTo_succ ts j (by rw [h.lt]; exact hj), h.lw, Int.mul_add, Int.add_mul]
  omega

theorem prod_small {s x t u : Int} (h1 : 0 ≤ s ∧ s ≤ 16016) (h2 : 0 ≤ x ∧ x ≤ 1600) (h3 : 0 ≤ t ∧ t ≤ 16000) (h4 : 0 ≤ u ∧ u ≤ 1600) : -25600000 ≤ s * x - t * u ∧ s * x - t * u ≤ 25625600 := by
  have a1 := Int.mul_nonneg h1.1 h2.1
  have a2 := Int.mul_nonneg h3.1 h4.1
  have a3 : s * x ≤ 16016 * 1600 := Int.mul_le_mul h1.2 h2.2 h2.1 (by omega)
  have a4 : t * u ≤ 16000 * 1600 := Int.mul_le_mul h3.2 h4.2 h4.1 (by omega)
  omega

theorem Fit.lagTo_bd {ws ts : List Int} {n : Nat} (h : Fit ws ts n) {j : Nat} (hj : j ≤ n) : -25600000 ≤ lagTo ws ts n j ∧ lagTo ws ts n j ≤ 25625600 := by
  have h1 := h.sums (Nat.le_refl n)
  have h2 := h.sums hj
  exact prod_small (by omega) h2.1 h2.2 h1.1

theorem Fit.lag_bd {ws ts : List Int} {n : Nat} (h : Fit ws ts n) {j : Nat} (hj : j < n) : -25600000 ≤ lagOf ws ts j ∧ lagOf ws ts j ≤ 25625600 := by
  have h1 := h.sums (Nat.le_refl n)
  have h2 := h.w _ (getD_mem (j := j) (by rw [h.lw]; exact hj))
  have h3 := h.t _ (getD_mem (j := j) (by rw [h.lt]; exact hj))
  unfold lagOf
  rw [h.lw]
  exact prod_small (by omega) (by omega) (by omega) h1.1

/-- One tick more for q. -/
def moreOf (ts : List Int) (q : Nat) : List Int := ts.set q (ts.getD q 0 + 1)

theorem mem_set {xs : List Int} {q : Nat} {v x : Int} (h : x ∈ xs.set q v) : x ∈ xs ∨ x = v := List.mem_or_eq_of_mem_set h

theorem sum_moreOf {ts : List Int} {n q : Nat} (hl : ts.length = n) (hq : q < n) : sumTo (moreOf ts q) n = sumTo ts n + 1 := by
  rw [sumTo_all (moreOf ts q) (by unfold moreOf; simpa using hl), sumTo_all ts hl]
  unfold moreOf
  rw [sum_set ts q _ (by omega)]
  omega

theorem at_moreOf {ts : List Int} {q j : Nat} (hq : q < ts.length) : (moreOf ts q).getD j 0 = if j = q then ts.getD q 0 + 1 else ts.getD j 0 := by
  unfold moreOf
  by_cases h : j = q
  · subst h; simp [List.getD, hq]
  · rw [if_neg h]; simp [List.getD, Ne.symm h]

theorem Fit.lag_other {ws ts : List Int} {n : Nat} (h : Fit ws ts n) {q j : Nat} (hq : q < n) (hj : j ≠ q) : lagOf ws (moreOf ts q) j = lagOf ws ts j + ws.getD j 0 := by
  unfold lagOf
  rw [h.lw, sum_moreOf h.lt hq, at_moreOf (by rw [h.lt]; exact hq), if_neg hj, Int.add_mul, Int.one_mul]
  omega

theorem Fit.lag_self {ws ts : List Int} {n : Nat} (h : Fit ws ts n) {q : Nat} (hq : q < n) (hn : 1 < n) : lagOf ws (moreOf ts q) q < lagOf ws ts q := by
  have h1 := (sum_more ws (fun x hx => (h.w x hx).1)).2 q (by rw [h.lw]; exact hq)
  rw [h.lw] at h1
  have h2 := sumTo_all ws h.lw
  unfold lagOf
  rw [h.lw, sum_moreOf h.lt hq, at_moreOf (by rw [h.lt]; exact hq), if_pos rfl, Int.add_mul, Int.one_mul, Int.add_mul, Int.one_mul]
  omega
end Go.Proofs.Ytbdkibigcjpkbaa.Vt
