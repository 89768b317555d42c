/- Rows of elements of several cells: the cells of a list, one element behind the other; cells laid over a row. Of no type and no program. -/
import Derived.Test.YtpincdcebhmnhaaMem
namespace Go.Proofs.Ytpincdcebhmnhaa
open Go.ChangeShapes Go.WideShapes Go.ChangeAt Go.RowKit
set_option linter.unusedVariables false

section
variable {α : Type} {enc : α → List Value} {k : Nat}

/-- The cells of a list. -/
def flat (enc : α → List Value) (L : List α) : List Value := L.flatMap enc

theorem flat_len (hk : ∀ x, (enc x).length = k) (L : List α) : (flat enc L).length = L.length * k := by
  induction L with
  | nil => simp [flat]
  | cons x xs ih => simp only [flat, List.flatMap_cons, List.length_append, List.length_cons, hk] at *; rw [ih, Nat.succ_mul]; omega

theorem flat_cons (x : α) (L : List α) : flat enc (x :: L) = enc x ++ flat enc L := rfl
theorem flat_append (L M : List α) : flat enc (L ++ M) = flat enc L ++ flat enc M := by simp [flat]

theorem flat_at (hk : ∀ x, (enc x).length = k) : ∀ (L : List α) (i j : Nat) (hi : i < L.length), j < k → (flat enc L)[i * k + j]? = (enc L[i])[j]? := by
  intro L
  induction L with
  | nil => intro i j hi; cases hi
  | cons x xs ih =>
    intro i j hi hj
    rw [flat_cons]
    cases i with
    | zero =>
      rw [List.getElem?_append_left (by rw [hk]; omega)]
      simp
    | succ i =>
      rw [List.getElem?_append_right (by rw [hk, Nat.succ_mul]; omega), hk]
      have := ih i j (by simpa using hi) hj
      rw [show (i + 1) * k + j - k = i * k + j by rw [Nat.succ_mul]; omega, this]
      simp

theorem flat_take (hk : ∀ x, (enc x).length = k) (L : List α) (n : Nat) : (flat enc L).take (n * k) = flat enc (L.take n) := by
  induction L generalizing n with
  | nil => simp [flat]
  | cons x xs ih =>
    cases n with
    | zero => simp [flat]
    | succ n =>
      rw [flat_cons, List.take_succ_cons, flat_cons, Nat.succ_mul, Nat.add_comm, List.take_append, hk, List.take_of_length_le (by rw [hk]; omega), show k + n * k - k = n * k by omega, ih]

theorem flat_drop (hk : ∀ x, (enc x).length = k) (L : List α) (n : Nat) : (flat enc L).drop (n * k) = flat enc (L.drop n) := by
  induction L generalizing n with
  | nil => simp [flat]
  | cons x xs ih =>
    cases n with
    | zero => simp [flat]
    | succ n =>
      rw [flat_cons, List.drop_succ_cons, Nat.succ_mul, Nat.add_comm, List.drop_append, hk, List.drop_eq_nil_of_le (by rw [hk]; omega), show k + n * k - k = n * k by omega, ih, List.nil_append]

theorem flat_one (x : α) : flat enc [x] = enc x := by simp [flat]

theorem flat_cells (hc : ∀ x, ∀ u ∈ enc x, u.oneCell' = true) (L : List α) : ∀ u ∈ flat enc L, u.oneCell' = true := by
  intro u hu
  obtain ⟨x, hx, hu⟩ := List.mem_flatMap.1 hu
  exact hc x u hu

theorem mul_lt {i n k : Nat} (h : i < n) : i * k + k ≤ n * k := by
  have : (i + 1) * k ≤ n * k := Nat.mul_le_mul_right k h
  rwa [Nat.succ_mul] at this
end

/-- Some elements laid over a list from a place on. -/
def over : Nat → List Value → List Value → List Value
  | _, [], xs => xs
  | o, v :: r, xs => over (o + 1) r (xs.set o v)

theorem over_length (o : Nat) (vs xs : List Value) : (over o vs xs).length = xs.length := by
  induction vs generalizing o xs with
  | nil => rfl
  | cons v r ih => rw [over, ih]; simp

theorem over_get (o : Nat) (vs xs : List Value) (i : Nat) (h : o + vs.length ≤ xs.length) : (over o vs xs)[i]? = if o ≤ i ∧ i < o + vs.length then vs[i - o]? else xs[i]? := by
  induction vs generalizing o xs with
  | nil => rw [over, if_neg (by simp)]
  | cons v r ih =>
    simp only [List.length_cons] at h
    rw [over, ih _ _ (by simp; omega)]
    simp only [List.length_cons]
    by_cases h1 : o + 1 ≤ i ∧ i < o + 1 + r.length
    · rw [if_pos h1, if_pos (by omega), show i - o = (i - (o + 1)) + 1 by omega]
      simp
    · rw [if_neg h1]
      by_cases h2 : i = o
      · subst h2
        rw [if_pos (by omega)]
        simp [show i < xs.length by omega]
      · rw [if_neg (by omega)]
        simp [Ne.symm h2]

theorem heap_setCells {g : Nat} {t : TypeId} (vs : List Value) : ∀ (o : Nat) (w : World) (cs : Array Value), w.heap[g]? = some (.cells cs t (0, 0)) →
    ∃ cs', (w.setCells g o vs).heap[g]? = some (.cells cs' t (0, 0)) ∧ cs'.size = cs.size ∧ cs'.toList = over o vs cs.toList ∧ Only (· = g) w (w.setCells g o vs) := by
  induction vs with
  | nil => exact fun o w cs h => ⟨cs, h, rfl, rfl, Only.refl _ w⟩
  | cons v r ih =>
    intro o w cs h
    obtain ⟨cs', h1, h2, h3, h4⟩ := ih (o + 1) (w.setCell ⟨g, o, none⟩ v) _ (heap_setCell_same w g o cs t v h)
    refine ⟨cs', h1, by simpa using h2, by rw [h3, Array.toList_setIfInBounds]; rfl, ?_⟩
    exact (Only.setCell (S := fun x => x = g) (Only.refl _ w) (p := ⟨g, o, none⟩) rfl v).trans h4 (fun _ _ h => h)

/-- A row without its element i: what lay behind it moved up, the last place cleared. -/
theorem flat_erased {α : Type} {enc : α → List Value} {k : Nat} (hk : ∀ x, (enc x).length = k) {S : List α} {cur : List Value} {i m : Nat} (z : List Value) (hz : z.length = k) (hS : S.length = m + 1) (hi : i < m + 1)
    (hcl : (m + 1) * k ≤ cur.length) (ht : cur.take ((m + 1) * k) = flat enc S) :
    (over (m * k) z (over (i * k) (flat enc (S.drop (i + 1))) cur)).take (m * k) = flat enc (S.eraseIdx i) := by
  have hl : (flat enc (S.drop (i + 1))).length = (m - i) * k := by rw [flat_len hk, List.length_drop, hS, show m + 1 - (i + 1) = m - i by omega]
  have hs := flat_len hk S
  rw [hS] at hs
  have hc : ∀ j, j < (m + 1) * k → cur[j]? = (flat enc S)[j]? := fun j hj => by rw [← ht, List.getElem?_take_of_lt hj]
  have hmk : (m + 1) * k = m * k + k := Nat.succ_mul m k
  have hik : i * k ≤ m * k := Nat.mul_le_mul_right k (by omega)
  have hmi : (m - i) * k = m * k - i * k := Nat.sub_mul m i k
  have hi1 : (i + 1) * k = i * k + k := Nat.succ_mul i k
  rw [List.eraseIdx_eq_take_drop_succ, flat_append, ← flat_take hk]
  apply List.ext_getElem?
  intro j
  rw [List.getElem?_take]
  by_cases h : j < m * k
  · rw [if_pos h, over_get _ _ _ _ (by rw [over_length]; omega), if_neg (by omega), over_get _ _ _ _ (by omega)]
    by_cases h2 : j < i * k
    · rw [if_neg (by omega), List.getElem?_append_left (by rw [List.length_take]; omega), List.getElem?_take_of_lt h2, hc j (by omega)]
    · rw [if_pos (by omega), List.getElem?_append_right (by rw [List.length_take]; omega), ← flat_drop hk, List.length_take]
      rw [Nat.min_eq_left (by omega)]
  · rw [if_neg h, List.getElem?_eq_none]
    rw [List.length_append, hl, List.length_take]; omega
end Go.Proofs.Ytpincdcebhmnhaa
