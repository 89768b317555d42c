/- DeadBudget without memory: two tasks, one of them always ready with budget 1 and period 30. -/
import Derived.Test.YtijpiloljgpnkaaDPure
namespace Go.Proofs.Ytijpiloljgpnkaa.De
set_option linter.unusedVariables false

def agl (q l d n : Int) : Int := if l = 0 ∧ d ≤ n then q else l
def agd (p l d n : Int) : Int := if l = 0 ∧ d ≤ n then d + p else d

/-- What holds of the first task's deadline when its budget is less than its period: it can be met, and so can the second's. -/
structure Edf (q p n l d : Int) (r : Bool) (m e : Int) : Prop where
  fa : l = 0 → n < d
  fc : r = true → l ≠ 0 → l ≤ d - n ∧ (m = 1 → e < d → l + 1 ≤ d - n)
  fd : n < e ∧ e ≤ n + 30
  dp : d ≤ n + p
  fe : m = 1 → e = n + 30 ∨ (r = true ∧ (l = 0 ∨ e < d ∨ l + q * ((e - d) / p) + 1 ≤ e - n))

/-- .. ahead of a tick. -/
structure EdfT (q p n l d : Int) (r : Bool) (m e : Int) : Prop where
  fa : l = 0 → n < d
  fc : r = true → l ≠ 0 → l ≤ d - n ∧ (m = 1 → e < d → l + 1 ≤ d - n)
  fd : n < e ∧ e ≤ n + 30
  dp : d ≤ n + p
  fe : m = 1 → e = n + 30 ∨ (r = true → l = 0 ∨ e < d ∨ l + q * ((e - d) / p) + 1 ≤ e - n)

section
variable {q p n l d m e : Int} {r : Bool}

theorem Edf.stay (h : Edf q p n l d r m e) : EdfT q p n l d r m e := ⟨h.fa, h.fc, h.fd, h.dp, fun hm => (h.fe hm).imp id (fun x _ => x.2)⟩
theorem Edf.block (h : Edf q p n l d r m e) : EdfT q p n l d false m e := ⟨h.fa, (fun x => by cases x), h.fd, h.dp, fun hm => Or.inr (fun x => by cases x)⟩
theorem Edf.full (h : Edf q p n l d false m e) (hm : m = 1) : e = n + 30 := (h.fe hm).resolve_right (fun x => by cases x.1)

theorem Edf.wake_new (h : Edf q p n l d false m e) (hq : 1 ≤ q) (hqp : q < p) (hp : p ≤ 30) : EdfT q p n q (n + p) true m e := by
  refine ⟨fun _ => by omega, fun _ _ => ⟨by omega, fun hm he => ?_⟩, h.fd, by omega, fun hm => Or.inl (h.full hm)⟩
  have := h.full hm; omega

theorem Edf.wake_old (h : Edf q p n l d false m e) (hl : 0 ≤ l) (hq : 1 ≤ q) (hqp : q < p) (hp : p ≤ 30) (hn : n < d) (hb : l * p ≤ q * (d - n)) : EdfT q p n l d true m e := by
  have key : l ≠ 0 → l ≤ d - n := by
    intro h0
    apply Decidable.byContradiction
    intro hh
    have h1 : (d - n) * p < l * p := Int.mul_lt_mul_of_pos_right (by omega) (by omega)
    have h2 : q * (d - n) ≤ p * (d - n) := Int.mul_le_mul_of_nonneg_right (by omega) (by omega)
    rw [Int.mul_comm p] at h2
    omega
  refine ⟨h.fa, fun _ h0 => ⟨key h0, fun hm he => ?_⟩, h.fd, h.dp, fun hm => Or.inl (h.full hm)⟩
  have := h.full hm; have := h.dp; omega

theorem div_facts (q p x : Int) (hq : 0 ≤ q) (hqp : q < p) (hx : 0 ≤ x) : 0 ≤ x / p ∧ 0 ≤ q * (x / p) ∧ q * (x / p) ≤ x - x / p := by
  have h0 : 0 ≤ x / p := Int.ediv_nonneg hx (by omega)
  have h1 : q * (x / p) ≤ (p - 1) * (x / p) := Int.mul_le_mul_of_nonneg_right (by omega) h0
  have h2 : p * (x / p) ≤ x := Int.mul_ediv_self_le (by omega)
  rw [Int.sub_mul, Int.one_mul] at h1
  exact ⟨h0, Int.mul_nonneg hq h0, by omega⟩

/-- The first task has the tick. -/
theorem EdfT.one (h : EdfT q p n l d true m e) (hq : 1 ≤ q) (hqp : q < p) (hp : p ≤ 30) (hl0 : l ≠ 0) (hl : 0 ≤ l) (hlq : l ≤ q) (hm : m = 0 ∨ m = 1) (hg : m = 0 ∨ d ≤ e) :
    Edf q p (n + 1) (agl q (l - 1) d (n + 1)) (agd p (l - 1) d (n + 1)) true (agl 1 m e (n + 1)) (agd 30 m e (n + 1)) := by
  obtain ⟨c1, c2⟩ := h.fc rfl hl0
  have hd := h.fd
  have key : m = 1 → l + q * ((e - d) / p) + 1 ≤ e - n := by
    intro h1
    have hde : d ≤ e := by omega
    obtain ⟨k0, k1, k2⟩ := div_facts q p (e - d) (by omega) hqp (by omega)
    rcases h.fe h1 with h2 | h2
    · generalize hK : (e - d) / p = K at *
      by_cases hK0 : K = 0
      · subst hK0; omega
      · omega
    · rcases h2 rfl with h3 | h3 | h3
      · exact absurd h3 hl0
      · omega
      · exact h3
  by_cases hx : l - 1 = 0 ∧ d ≤ n + 1
  · have e1 : agl q (l - 1) d (n + 1) = q := if_pos hx
    have e2 : agd p (l - 1) d (n + 1) = d + p := if_pos hx
    rw [e1, e2]
    by_cases hy : m = 0 ∧ e ≤ n + 1
    · have e3 : agl 1 m e (n + 1) = 1 := if_pos hy
      have e4 : agd 30 m e (n + 1) = e + 30 := if_pos hy
      rw [e3, e4]
      exact ⟨fun _ => by omega, fun _ _ => ⟨by omega, fun _ _ => by omega⟩, by omega, by omega, fun _ => Or.inl (by omega)⟩
    · have e3 : agl 1 m e (n + 1) = m := if_neg hy
      have e4 : agd 30 m e (n + 1) = e := if_neg hy
      rw [e3, e4]
      refine ⟨fun _ => by omega, fun _ _ => ⟨by omega, fun _ _ => by omega⟩, ?_, by omega, fun h1 => Or.inr ⟨rfl, ?_⟩⟩
      · rcases hm with h1 | h1
        · omega
        · have := key h1
          have := div_facts q p (e - d) (by omega) hqp (by omega)
          omega
      · by_cases h2 : e < d + p
        · exact Or.inr (Or.inl h2)
        · right; right
          have h3 := key h1
          have e5 : (e - (d + p)) / p = (e - d) / p - 1 := by
            rw [show e - (d + p) = (e - d) + (-1) * p by omega, Int.add_mul_ediv_right _ _ (by omega)]; omega
          rw [e5, Int.mul_sub, Int.mul_one]
          omega
  · have e1 : agl q (l - 1) d (n + 1) = l - 1 := if_neg hx
    have e2 : agd p (l - 1) d (n + 1) = d := if_neg hx
    rw [e1, e2]
    by_cases hy : m = 0 ∧ e ≤ n + 1
    · have e3 : agl 1 m e (n + 1) = 1 := if_pos hy
      have e4 : agd 30 m e (n + 1) = e + 30 := if_pos hy
      have := h.dp
      rw [e3, e4]
      exact ⟨fun _ => by omega, fun _ _ => ⟨by omega, fun _ _ => by omega⟩, by omega, by omega, fun _ => Or.inl (by omega)⟩
    · have e3 : agl 1 m e (n + 1) = m := if_neg hy
      have e4 : agd 30 m e (n + 1) = e := if_neg hy
      have := h.dp
      rw [e3, e4]
      refine ⟨fun _ => by omega, fun _ _ => ⟨by omega, fun _ _ => by omega⟩, ?_, by omega, fun h1 => Or.inr ⟨rfl, Or.inr (Or.inr (by have := key h1; omega))⟩⟩
      rcases hm with h1 | h1
      · omega
      · have := key h1
        have := div_facts q p (e - d) (by omega) hqp (by omega)
        omega

/-- The second has it. -/
theorem EdfT.two (h : EdfT q p n l d r 1 e) (hq : 1 ≤ q) (hqp : q < p) (hp : p ≤ 30) (hl : 0 ≤ l) (hg : r = false ∨ l = 0 ∨ e < d) :
    Edf q p (n + 1) (agl q l d (n + 1)) (agd p l d (n + 1)) r (agl 1 0 e (n + 1)) (agd 30 0 e (n + 1)) := by
  have hd := h.fd
  have ha := h.fa
  have hc := h.fc
  have hdp := h.dp
  by_cases hx : l = 0 ∧ d ≤ n + 1
  · have e1 : agl q l d (n + 1) = q := if_pos hx
    have e2 : agd p l d (n + 1) = d + p := if_pos hx
    rw [e1, e2]
    by_cases hy : (0 : Int) = 0 ∧ e ≤ n + 1
    · have e3 : agl 1 0 e (n + 1) = 1 := if_pos hy
      have e4 : agd 30 0 e (n + 1) = e + 30 := if_pos hy
      rw [e3, e4]
      exact ⟨fun _ => by omega, fun _ _ => ⟨by omega, fun _ _ => by omega⟩, by omega, by omega, fun _ => Or.inl (by omega)⟩
    · have e3 : agl 1 0 e (n + 1) = 0 := if_neg hy
      have e4 : agd 30 0 e (n + 1) = e := if_neg hy
      rw [e3, e4]
      exact ⟨fun _ => by omega, fun _ _ => ⟨by omega, fun h _ => by omega⟩, by omega, by omega, fun h => by omega⟩
  · have e1 : agl q l d (n + 1) = l := if_neg hx
    have e2 : agd p l d (n + 1) = d := if_neg hx
    rw [e1, e2]
    have hc2 : r = true → l ≠ 0 → l ≤ d - (n + 1) := by
      intro h1 h2
      have h3 := (hc h1 h2).2 rfl
      rcases hg with h4 | h4 | h4
      · rw [h1] at h4; cases h4
      · exact absurd h4 h2
      · have := h3 h4; omega
    by_cases hy : (0 : Int) = 0 ∧ e ≤ n + 1
    · have e3 : agl 1 0 e (n + 1) = 1 := if_pos hy
      have e4 : agd 30 0 e (n + 1) = e + 30 := if_pos hy
      rw [e3, e4]
      exact ⟨fun h0 => by have := ha h0; omega, fun h1 h2 => ⟨hc2 h1 h2, fun _ _ => by omega⟩, by omega, by omega, fun _ => Or.inl (by omega)⟩
    · have e3 : agl 1 0 e (n + 1) = 0 := if_neg hy
      have e4 : agd 30 0 e (n + 1) = e := if_neg hy
      rw [e3, e4]
      exact ⟨fun h0 => by have := ha h0; omega, fun h1 h2 => ⟨hc2 h1 h2, fun h _ => by omega⟩, by omega, by omega, fun h => by omega⟩

/-- Nobody has it. -/
theorem EdfT.nobody (h : EdfT q p n l d r 0 e) (hq : 1 ≤ q) (hqp : q < p) (hp : p ≤ 30) (hl : 0 ≤ l) (hg : r = false ∨ l = 0) :
    Edf q p (n + 1) (agl q l d (n + 1)) (agd p l d (n + 1)) r (agl 1 0 e (n + 1)) (agd 30 0 e (n + 1)) := by
  have h2 : EdfT q p n l d r 1 e := ⟨h.fa, fun h1 h2 => by rcases hg with h3 | h3; (rw [h1] at h3; cases h3); exact absurd h3 h2, h.fd, h.dp, fun _ => Or.inr (fun h1 => by rcases hg with h3 | h3; (rw [h1] at h3; cases h3); exact Or.inl h3)⟩
  exact h2.two hq hqp hp hl (hg.imp id Or.inl)

/-- What the first task had of the ticks from j on. -/
def from_ (gs : List Int) (j : Nat) : Int := (gs.drop j).sum

theorem from_snoc (gs : List Int) (g : Int) {j : Nat} (h : j ≤ gs.length) : from_ (gs ++ [g]) j = from_ gs j + g := by
  unfold from_; rw [List.drop_append_of_le_length h]; simp
theorem from_end (gs : List Int) : from_ gs gs.length = 0 := by unfold from_; simp

/-- No window has too much. -/
def Win (q p n l d : Int) (gs : List Int) : Prop := ∀ j : Nat, j ≤ gs.length → p * from_ gs j + p * l - q * max d n ≤ p * q - q * j

theorem Win.start (q p : Int) (hq : 0 ≤ q) (hp : 0 ≤ p) : Win q p 0 q p [] := by
  intro j hj
  have : j = 0 := by simpa using hj
  subst this
  have h1 : 0 ≤ p * q := Int.mul_nonneg hp hq
  rw [show from_ [] 0 = 0 from rfl, Int.max_eq_left hp, Int.mul_comm q p]
  simp [h1]

theorem Win.wake {gs : List Int} (h : Win q p n l d gs) (hs : d ≤ n ∨ q * (d - n) < l * p) (hl : 0 ≤ l) (hp : 0 ≤ p) : Win q p n q (n + p) gs := by
  intro j hj
  have h1 := h j hj
  rw [Int.max_eq_left (show n ≤ n + p by omega), Int.mul_add q n p, Int.mul_comm q p]
  have h2 : 0 ≤ p * l := Int.mul_nonneg hp hl
  rw [Int.mul_comm l p] at hs
  rcases hs with hs | hs
  · rw [Int.max_eq_right hs] at h1; omega
  · rw [Int.mul_sub] at hs
    rcases Int.le_total d n with h3 | h3
    · rw [Int.max_eq_right h3] at h1; omega
    · rw [Int.max_eq_left h3] at h1; omega

theorem Win.tick {gs : List Int} {g : Int} (h : Win q p n l d gs) (hn : n = gs.length) (hq : 0 ≤ q) (hp : 0 ≤ p) (hg : g = 0 ∨ g = 1 ∧ n < d) (hl : 0 ≤ l - g) (hlq : l ≤ q) (hd : d ≤ n + p) (ha : l - g = 0 → n < d) :
    Win q p (n + 1) (agl q (l - g) d (n + 1)) (agd p (l - g) d (n + 1)) (gs ++ [g]) := by
  have hmx : q * max d n ≤ q * max d (n + 1) := Int.mul_le_mul_of_nonneg_left (by omega) hq
  have hmn : g = 1 → max d (n + 1) = max d n := by intro h1; omega
  have key : ∀ j : Nat, j ≤ gs.length → p * from_ (gs ++ [g]) j + p * (l - g) - q * max d (n + 1) ≤ p * q - q * j := by
    intro j hj
    have h1 := h j hj
    rw [from_snoc gs g hj, Int.mul_add, Int.mul_sub]
    rcases hg with h2 | ⟨h2, h3⟩
    · subst h2; omega
    · rw [hmn h2]; omega
  have last : p * from_ (gs ++ [g]) (gs.length + 1) + p * (l - g) - q * max d (n + 1) ≤ p * q - q * ((gs.length + 1 : Nat) : Int) := by
    have e1 : from_ (gs ++ [g]) (gs.length + 1) = 0 := by have := from_end (gs ++ [g]); rwa [List.length_append, List.length_singleton] at this
    have h1 : p * (l - g) ≤ p * q := Int.mul_le_mul_of_nonneg_left (by omega) hp
    have h2 : q * (n + 1) ≤ q * max d (n + 1) := Int.mul_le_mul_of_nonneg_left (by omega) hq
    have e2 : (((gs.length + 1 : Nat)) : Int) = n + 1 := by omega
    rw [e1, e2, Int.mul_zero]
    omega
  have all : ∀ j : Nat, j ≤ (gs ++ [g]).length → p * from_ (gs ++ [g]) j + p * (l - g) - q * max d (n + 1) ≤ p * q - q * j := by
    intro j hj
    rw [List.length_append, List.length_singleton] at hj
    rcases Nat.lt_or_ge gs.length j with h1 | h1
    · obtain rfl : j = gs.length + 1 := by omega
      exact last
    · exact key j h1
  intro j hj
  have h1 := all j hj
  by_cases hx : l - g = 0 ∧ d ≤ n + 1
  · have e1 : agl q (l - g) d (n + 1) = q := if_pos hx
    have e2 : agd p (l - g) d (n + 1) = d + p := if_pos hx
    have e3 : d = n + 1 := by have := ha hx.1; omega
    rw [e1, e2, Int.max_eq_left (show n + 1 ≤ d + p by omega), Int.mul_add q d p, Int.mul_comm q p]
    rw [hx.1, Int.mul_zero, e3, Int.max_self] at h1
    rw [e3]
    omega
  · have e1 : agl q (l - g) d (n + 1) = l - g := if_neg hx
    have e2 : agd p (l - g) d (n + 1) = d := if_neg hx
    rw [e1, e2]; exact h1

/-- .. so the last p ticks gave it no more than three times its budget. -/
theorem Win.sum {gs : List Int} (h : Win q p n l d gs) (hn : n = gs.length) (hq : 0 ≤ q) (hp : 0 < p) (hl : 0 ≤ l) (hd : d ≤ n + p) : from_ gs (gs.length - p.toNat) ≤ 3 * q := by
  have h1 := h (gs.length - p.toNat) (by omega)
  generalize from_ gs (gs.length - p.toNat) = s at *
  have h2 : 0 ≤ p * l := Int.mul_nonneg (by omega) hl
  have h3 : q * max d n ≤ q * (n + p) := Int.mul_le_mul_of_nonneg_left (by omega) hq
  have h4 : q * (n - p) ≤ q * ((gs.length - p.toNat : Nat) : Int) := Int.mul_le_mul_of_nonneg_left (by omega) hq
  rw [Int.mul_add] at h3
  rw [Int.mul_sub] at h4
  apply Decidable.byContradiction
  intro hh
  have h5 : p * (3 * q + 1) ≤ p * s := Int.mul_le_mul_of_nonneg_left (by omega) (by omega)
  rw [Int.mul_add, Int.mul_one, ← Int.mul_assoc, Int.mul_comm p 3, Int.mul_assoc] at h5
  rw [Int.mul_comm q p] at h3 h4
  omega
end

theorem sum_le {gs : List Int} (h : ∀ x ∈ gs, 0 ≤ x ∧ x ≤ 1) : 0 ≤ gs.sum ∧ gs.sum ≤ gs.length := by
  induction gs with
  | nil => simp
  | cons x r ih =>
    have h1 := h x (by simp)
    have h2 := ih (fun y hy => h y (by simp [hy]))
    simp only [List.sum_cons, List.length_cons]
    omega
theorem from_le {gs : List Int} (h : ∀ x ∈ gs, 0 ≤ x ∧ x ≤ 1) (j : Nat) : 0 ≤ from_ gs j ∧ from_ gs j ≤ (gs.length - j : Nat) := by
  have := sum_le (gs := gs.drop j) (fun x hx => h x (List.mem_of_mem_drop hx))
  rw [List.length_drop] at this
  exact this
end Go.Proofs.Ytijpiloljgpnkaa.De
