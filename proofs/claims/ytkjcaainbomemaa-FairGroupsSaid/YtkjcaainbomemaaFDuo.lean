/- Two groups, one task in the first, some in the second: who goes next. -/
import Derived.Test.YtkjcaainbomemaaFFairs
namespace Go.Proofs.Ytkjcaainbomemaa.Fr
open Go.ChangeShapes Go.WideShapes Go.ChangeAt Go.RowKit Go.Maps
open Go.Proofs.Ytkjcaainbomemaa.Vt
set_option linter.unusedVariables false

theorem zero_nextTo {T : Tks} {G : Grs} (hG : ∀ g, (G g).v = 0) (k : Nat) : (nextTo T G k).2 = 0 := by
  induction k with
  | zero => rfl
  | succ k ih => unfold nextTo; split; exact hG _; exact ih
theorem zero_next {T : Tks} {G : Grs} (hT : ∀ t, (T t).v = 0) (hG : ∀ g, (G g).v = 0) : (next T G).2 = 0 := by
  unfold next; split; exact hT _; exact zero_nextTo hG 8

theorem upd_id {α : Type} (f : Nat → α) (k : Nat) {x : α} (h : f k = x) : upd f k x = f := by
  funext j; unfold upd; split
  · rename_i e; subst e; exact h.symm
  · rfl

/-- While nobody had a tick yet, a task that comes has no time, nor has its group. -/
theorem zero_add {T : Tks} {G : Grs} (hT : ∀ t, (T t).v = 0) (hG : ∀ g, (G g).v = 0) (t : Nat) (c g : Int) : addT T G t c g = upd T t ⟨c, 0, g, true⟩ ∧ addG T G t c g = G := by
  have hT' : ∀ k, ((upd T t ⟨c, 0, g, false⟩) k).v = 0 := by intro k; unfold upd; split; rfl; exact hT k
  have hn := zero_next hT' hG
  unfold addT addG
  by_cases h0 : ((upd T t ⟨c, 0, g, false⟩) t).g = 0
  · rw [wokeT_0 h0, wokeG_0 h0, hn, upd_upd, upd_same]; exact ⟨rfl, rfl⟩
  · by_cases h1 : first (upd T t ⟨c, 0, g, false⟩) ((upd T t ⟨c, 0, g, false⟩) t).g = 0
    · rw [wokeT_1 h0 h1, wokeG_1 h0 h1, hn, upd_upd, upd_same]
      refine ⟨rfl, upd_id _ _ ?_⟩
      have := hG g.toNat
      show G g.toNat = ⟨(G g.toNat).c, max (G g.toNat).v 0⟩
      rw [this]
      cases hh : G g.toNat with
      | mk a b => rw [hh] at this; simp only at this; rw [this]; rfl
    · have hz := hT' (first (upd T t ⟨c, 0, g, false⟩) ((upd T t ⟨c, 0, g, false⟩) t).g)
      rw [wokeT_2 h0 h1, wokeG_2 h1, hz, upd_upd, upd_same]; exact ⟨rfl, rfl⟩

/-- Task 1 in group 1, tasks 2 to j + 1 in group 2. -/
def duo (j : Nat) (c v : Nat → Int) : Tks := fun t => if t = 1 then ⟨c 1, v 1, 1, true⟩ else if 2 ≤ t ∧ t ≤ j + 1 then ⟨c t, v t, 2, true⟩ else ⟨0, 0, 0, false⟩
def duoG (p q x y : Int) : Grs := fun g => if g = 1 then ⟨p, x⟩ else if g = 2 then ⟨q, y⟩ else ⟨0, 0⟩

section
variable {j : Nat} {c v : Nat → Int} {p q x y : Int}
theorem duo_1 : duo j c v 1 = ⟨c 1, v 1, 1, true⟩ := if_pos rfl
theorem duo_2 {t : Nat} (h1 : 2 ≤ t) (h2 : t ≤ j + 1) : duo j c v t = ⟨c t, v t, 2, true⟩ := by unfold duo; rw [if_neg (by omega), if_pos ⟨h1, h2⟩]
theorem duo_0 {t : Nat} (h : t < 1 ∨ j + 1 < t) (h1 : t ≠ 1) : duo j c v t = ⟨0, 0, 0, false⟩ := by unfold duo; rw [if_neg h1, if_neg (by omega)]
theorem duo_no : (duo j c v 0).r = false := by rw [duo_0 (by omega) (by omega)]
theorem duo_of {g : Int} {t : Nat} (h : isOf (duo j c v) g t) : (t = 1 ∧ g = 1) ∨ ((2 ≤ t ∧ t ≤ j + 1) ∧ g = 2) := by
  by_cases e : t = 1
  · subst e; exact Or.inl ⟨rfl, h.2.symm⟩
  · by_cases k : 2 ≤ t ∧ t ≤ j + 1
    · have := h.2; rw [duo_2 k.1 k.2] at this; exact Or.inr ⟨k, this.symm⟩
    · have := h.1; rw [duo_0 (by omega) e] at this; cases this
theorem duo_first1 : first (duo j c v) 1 = 1 := first_is duo_no 1 (by omega) ⟨rfl, rfl⟩ (fun t ht ho => by
  rcases duo_of ho with ⟨h, _⟩ | ⟨_, h⟩
  · subst h; exact Or.inr ⟨rfl, Nat.le_refl _⟩
  · omega)
theorem duo_first2 (hj : 1 ≤ j) (hj16 : j ≤ 14) : 2 ≤ first (duo j c v) 2 ∧ first (duo j c v) 2 ≤ j + 1 := by
  have hn : first (duo j c v) 2 ≠ 0 := fun e => first_zero duo_no e 2 (by omega) (by unfold isOf; rw [duo_2 (by omega) (by omega)]; exact ⟨rfl, rfl⟩)
  rcases duo_of (first_of duo_no hn) with ⟨_, h⟩ | ⟨h, _⟩
  · omega
  · exact h
theorem duo_first0 {g : Int} (h1 : g ≠ 1) (h2 : g ≠ 2) : first (duo j c v) g = 0 := first_none duo_no (fun t ht ho => by
  rcases duo_of ho with ⟨_, h⟩ | ⟨_, h⟩ <;> omega)

theorem duo_nextTo (hj : 1 ≤ j) (hj16 : j ≤ 14) (k : Nat) : nextTo (duo j c v) (duoG p q x y) (k + 2) = if y < x then (first (duo j c v) 2, y) else (1, x) := by
  induction k with
  | zero =>
    have h1 : nextTo (duo j c v) (duoG p q x y) 1 = (1, x) := by
      unfold nextTo
      rw [show (((0 : Nat) : Int) + 1) = 1 from rfl, duo_first1, if_pos ⟨by omega, Or.inl rfl⟩]; rfl
    show nextTo (duo j c v) (duoG p q x y) (1 + 1) = _
    unfold nextTo
    rw [h1, show (((1 : Nat) : Int) + 1) = 2 from rfl]
    have hf := duo_first2 (c := c) (v := v) hj hj16
    by_cases h : y < x
    · rw [if_pos h, if_pos ⟨by omega, Or.inr h⟩]; rfl
    · rw [if_neg h, if_neg (fun k => k.2.elim (fun e => absurd (show (1 : Nat) = 0 from e) (by decide)) h)]
  | succ k ih =>
    show nextTo (duo j c v) (duoG p q x y) (k + 2 + 1) = _
    unfold nextTo
    rw [if_neg (fun h => h.1 (duo_first0 (by omega) (by omega)))]
    exact ih

theorem duo_next (hj : 1 ≤ j) (hj16 : j ≤ 14) : next (duo j c v) (duoG p q x y) = if y < x then (first (duo j c v) 2, y) else (1, x) := by
  unfold next
  rw [if_neg (fun h => h.1 (duo_first0 (by omega) (by omega)))]
  exact duo_nextTo hj hj16 6

theorem duo_tick1 : tickT (duo j c v) 1 = duo j c (upd v 1 (v 1 + c 1)) ∧ tickG (duo j c v) (duoG p q x y) 1 = duoG p q (x + p) y := by
  constructor
  · funext t
    unfold tickT
    rw [duo_1]
    unfold upd duo
    by_cases e : t = 1
    · subst e; simp
    · simp [e]
  · unfold tickG
    rw [duo_1, if_neg (show ¬ (1 : Int) = 0 by decide)]
    funext g
    show upd (duoG p q x y) 1 ⟨p, x + p⟩ g = _
    unfold upd duoG
    by_cases e : g = 1
    · simp [e]
    · simp [e]
theorem duo_tick2 {f : Nat} (h1 : 2 ≤ f) (h2 : f ≤ j + 1) : tickT (duo j c v) f = duo j c (upd v f (v f + c f)) ∧ tickG (duo j c v) (duoG p q x y) f = duoG p q x (y + q) := by
  constructor
  · funext t
    unfold tickT
    rw [duo_2 h1 h2]
    unfold upd duo
    by_cases e : t = f
    · subst e; simp [show t ≠ 1 by omega, h1, h2]
    · simp [e, show ¬ 1 = f by omega]
  · unfold tickG
    rw [duo_2 h1 h2, if_neg (show ¬ (2 : Int) = 0 by decide)]
    funext g
    show upd (duoG p q x y) 2 ⟨q, y + q⟩ g = _
    unfold upd duoG
    by_cases e : g = 2
    · simp [e]
    · simp [e]

theorem duo_add (hj : j < 14) {z : Int} (hz : c (j + 2) = z) : addT (duo j c (fun _ => 0)) (duoG p q 0 0) (j + 2) z 2 = duo (j + 1) c (fun _ => 0) ∧ addG (duo j c (fun _ => 0)) (duoG p q 0 0) (j + 2) z 2 = duoG p q 0 0 := by
  obtain ⟨e1, e2⟩ := zero_add (T := duo j c (fun _ => 0)) (G := duoG p q 0 0) (fun t => by unfold duo; split; rfl; split <;> rfl) (fun g => by unfold duoG; split; rfl; split <;> rfl) (j + 2) z 2
  refine ⟨?_, e2⟩
  rw [e1]
  funext t
  unfold upd
  by_cases e : t = j + 2
  · subst e; rw [if_pos rfl, duo_2 (by omega) (by omega), hz]
  · rw [if_neg e]
    unfold duo
    by_cases k : t = 1
    · rw [if_pos k, if_pos k]
    · rw [if_neg k, if_neg k]
      by_cases l : 2 ≤ t ∧ t ≤ j + 1
      · rw [if_pos l, if_pos (by omega)]
      · rw [if_neg l, if_neg (by omega)]

theorem duo_start {z : Int} (hz : c 1 = z) : addT noT (duoG p q 0 0) 1 z 1 = duo 0 c (fun _ => 0) ∧ addG noT (duoG p q 0 0) 1 z 1 = duoG p q 0 0 := by
  obtain ⟨e1, e2⟩ := zero_add (T := noT) (G := duoG p q 0 0) (fun t => rfl) (fun g => by unfold duoG; split; rfl; split <;> rfl) 1 z 1
  refine ⟨?_, e2⟩
  rw [e1]
  funext t
  unfold upd duo noT
  by_cases k : t = 1
  · rw [if_pos k, if_pos k, hz]
  · rw [if_neg k, if_neg k, if_neg (by omega)]

theorem duoG_1 : upd noG 1 ⟨p, 0⟩ = duoG p 0 0 0 := by
  funext g; unfold upd noG duoG
  by_cases e : g = 1
  · simp [e]
  · simp [e]
theorem duoG_2 : upd (duoG p 0 0 0) 2 ⟨q, 0⟩ = duoG p q 0 0 := by
  funext g; unfold upd duoG
  by_cases e : g = 2
  · simp [e]
  · simp [e]

theorem duo_fit {B : Int} (hj : j ≤ 14) (hc : ∀ t, 1 ≤ c t ∧ c t ≤ 1048576) (hv : ∀ t, 0 ≤ v t ∧ v t ≤ B) (hp : 0 ≤ p ∧ p ≤ 1048576) (hq : 0 ≤ q ∧ q ≤ 1048576) (hx : 0 ≤ x ∧ x ≤ B) (hy : 0 ≤ y ∧ y ≤ B) : Fit (duo j c v) (duoG p q x y) B := by
  have hB : 0 ≤ B := by omega
  refine ⟨fun t _ => ?_, fun t _ => ?_, fun t _ => ?_, fun g _ => ?_, fun g _ => ?_, by rw [duo_0 (by omega) (by omega)], fun t _ hr => ?_⟩
  · have := hc t; have := hc 1; unfold duo; split
    · simp; omega
    · split
      · simp; omega
      · simp
  · have := hv t; have := hv 1; unfold duo; split
    · simp; omega
    · split
      · simp; omega
      · simp; omega
  · unfold duo; split
    · simp
    · split <;> simp
  · unfold duoG; split
    · exact hp
    · split
      · exact hq
      · simp
  · unfold duoG; split
    · exact hx
    · split
      · exact hy
      · simp; omega
  · have := hc t; have := hc 1
    by_cases e : t = 1
    · subst e; rw [duo_1]; simp; omega
    · by_cases k : 2 ≤ t ∧ t ≤ j + 1
      · rw [duo_2 k.1 k.2]; simp; omega
      · rw [duo_0 (by omega) e] at hr; cases hr
end
end Go.Proofs.Ytkjcaainbomemaa.Fr
