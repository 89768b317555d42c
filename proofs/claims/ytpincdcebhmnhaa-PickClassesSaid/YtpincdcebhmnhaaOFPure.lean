/- Who goes first, and who goes next, without memory: what first and next answer; a class of ready tasks without groups. -/
import Derived.Test.YtpincdcebhmnhaaOFOps
namespace Go.Proofs.Ytpincdcebhmnhaa.Fr
open Go.Proofs.Ytpincdcebhmnhaa.Vt
set_option linter.unusedVariables false

/-- Is t ready, and of group g? -/
def isOf (T : Tks) (g : Int) (t : Nat) : Prop := (T t).r = true ∧ (T t).g = g

theorem firstTo_spec (T : Tks) (g : Int) (k : Nat) (h0 : (T 0).r = false) :
    (firstTo T g k = 0 → ∀ t, t < k → ¬ isOf T g t) ∧
    (firstTo T g k ≠ 0 → isOf T g (firstTo T g k) ∧ ∀ t, t < k → isOf T g t → (T (firstTo T g k)).v ≤ (T t).v ∧ ((T (firstTo T g k)).v = (T t).v → firstTo T g k ≤ t)) := by
  induction k with
  | zero => exact ⟨fun _ t ht => absurd ht (Nat.not_lt_zero _), fun h => absurd rfl h⟩
  | succ k ih =>
    obtain ⟨i1, i2⟩ := ih
    have hl := firstTo_lt T g k
    have hk0 : (T k).r = true → k ≠ 0 := by rintro h rfl; rw [h0] at h; cases h
    unfold firstTo
    by_cases hc : (T k).r = true ∧ (T k).g = g ∧ (firstTo T g k = 0 ∨ (T k).v < (T (firstTo T g k)).v)
    · rw [if_pos hc]
      refine ⟨fun e => absurd e (hk0 hc.1), fun _ => ⟨⟨hc.1, hc.2.1⟩, fun t ht hof => ?_⟩⟩
      by_cases e : t = k
      · subst e; exact ⟨Int.le_refl _, fun _ => Nat.le_refl _⟩
      · by_cases z : firstTo T g k = 0
        · exact absurd hof (i1 z t (by omega))
        · have h1 := (i2 z).2 t (by omega) hof
          rcases hc.2.2 with h2 | h2
          · exact absurd h2 z
          · exact ⟨by omega, fun h => by omega⟩
    · rw [if_neg hc]
      refine ⟨fun z t ht hof => ?_, fun z => ⟨(i2 z).1, fun t ht hof => ?_⟩⟩
      · by_cases e : t = k
        · subst e; exact hc ⟨hof.1, hof.2, Or.inl z⟩
        · exact i1 z t (by omega) hof
      · by_cases e : t = k
        · subst e
          have : ¬ (T t).v < (T (firstTo T g t)).v := fun h => hc ⟨hof.1, hof.2, Or.inr h⟩
          exact ⟨by omega, fun _ => by omega⟩
        · exact (i2 z).2 t (by omega) hof

section
variable {T : Tks} {G : Grs} {g : Int}
theorem first_zero (h0 : (T 0).r = false) (h : first T g = 0) (t : Nat) (ht : t < 17) : ¬ isOf T g t := (firstTo_spec T g 17 h0).1 h t ht
theorem first_of (h0 : (T 0).r = false) (h : first T g ≠ 0) : isOf T g (first T g) := ((firstTo_spec T g 17 h0).2 h).1
theorem first_le (h0 : (T 0).r = false) (h : first T g ≠ 0) (t : Nat) (ht : t < 17) (ho : isOf T g t) : (T (first T g)).v ≤ (T t).v := (((firstTo_spec T g 17 h0).2 h).2 t ht ho).1
theorem first_num (h0 : (T 0).r = false) (h : first T g ≠ 0) (t : Nat) (ht : t < 17) (ho : isOf T g t) (e : (T (first T g)).v = (T t).v) : first T g ≤ t := (((firstTo_spec T g 17 h0).2 h).2 t ht ho).2 e

theorem first_none (h0 : (T 0).r = false) (h : ∀ t, t < 17 → ¬ isOf T g t) : first T g = 0 := by
  apply Decidable.byContradiction
  intro hn
  exact h _ (first_lt T g) (first_of h0 hn)

theorem first_is (h0 : (T 0).r = false) (m : Nat) (hm : m < 17) (ho : isOf T g m) (h : ∀ t, t < 17 → isOf T g t → (T m).v < (T t).v ∨ ((T m).v = (T t).v ∧ m ≤ t)) : first T g = m := by
  have hn : first T g ≠ 0 := fun e => first_zero h0 e m hm ho
  have h1 := first_le h0 hn m hm ho
  rcases h _ (first_lt T g) (first_of h0 hn) with h2 | ⟨h2, h3⟩
  · omega
  · have := first_num h0 hn m hm ho (by omega)
    omega

/-- No ready task has a group. -/
def Solo (T : Tks) : Prop := ∀ t, t < 17 → (T t).r = true → (T t).g = 0

theorem solo_first (h0 : (T 0).r = false) (hs : Solo T) (hg : g ≠ 0) : first T g = 0 := first_none h0 (fun t ht ho => hg (ho.2.symm.trans (hs t ht ho.1)))

theorem solo_nextTo (h0 : (T 0).r = false) (hs : Solo T) (k : Nat) : nextTo T G k = (0, 0) := by
  induction k with
  | zero => rfl
  | succ k ih =>
    unfold nextTo
    rw [if_neg (fun h => h.1 (solo_first h0 hs (by omega))), ih]

theorem solo_next (h0 : (T 0).r = false) (hs : Solo T) : next T G = (first T 0, if first T 0 = 0 then 0 else (T (first T 0)).v) := by
  unfold next
  rw [solo_nextTo h0 hs]
  by_cases h : first T 0 = 0
  · rw [if_neg (fun q => q.1 h), if_pos h, h]
  · rw [if_pos ⟨h, Or.inl rfl⟩, if_neg h]
end

/-- Tasks 1 to m, ready, without groups: what a tick costs them, and their times. -/
def mkT (m : Nat) (c v : Nat → Int) : Tks := fun t => if 1 ≤ t ∧ t ≤ m then ⟨c t, v t, 0, true⟩ else ⟨0, 0, 0, false⟩

section
variable {m : Nat} {c v : Nat → Int} {G : Grs}
theorem mkT_in {t : Nat} (h1 : 1 ≤ t) (h2 : t ≤ m) : mkT m c v t = ⟨c t, v t, 0, true⟩ := by unfold mkT; rw [if_pos ⟨h1, h2⟩]
theorem mkT_out {t : Nat} (h : t < 1 ∨ m < t) : mkT m c v t = ⟨0, 0, 0, false⟩ := by unfold mkT; rw [if_neg (by omega)]
theorem mkT_0 : (mkT m c v 0).r = false := by rw [mkT_out (by omega)]
theorem mkT_solo : Solo (mkT m c v) := by
  intro t _ _; unfold mkT; split <;> rfl
theorem mkT_of {t : Nat} : isOf (mkT m c v) 0 t ↔ 1 ≤ t ∧ t ≤ m := by
  unfold isOf mkT; split <;> simp_all
theorem mkT_first (hm : 1 ≤ m) (hm16 : m ≤ 16) : 1 ≤ first (mkT m c v) 0 ∧ first (mkT m c v) 0 ≤ m ∧ ∀ t, 1 ≤ t → t ≤ m → v (first (mkT m c v) 0) ≤ v t := by
  have hn : first (mkT m c v) 0 ≠ 0 := fun e => first_zero mkT_0 e 1 (by omega) (mkT_of.2 ⟨by omega, hm⟩)
  have ho := mkT_of.1 (first_of mkT_0 hn)
  refine ⟨ho.1, ho.2, fun t h1 h2 => ?_⟩
  have := first_le mkT_0 hn t (by omega) (mkT_of.2 ⟨h1, h2⟩)
  rwa [mkT_in ho.1 ho.2, mkT_in h1 h2] at this
theorem mkT_first_is (n : Nat) (h1 : 1 ≤ n) (h2 : n ≤ m) (hm : m ≤ 16) (h : ∀ t, 1 ≤ t → t ≤ m → v n < v t ∨ (v n = v t ∧ n ≤ t)) : first (mkT m c v) 0 = n := by
  refine first_is mkT_0 n (by omega) (mkT_of.2 ⟨h1, h2⟩) (fun t ht ho => ?_)
  obtain ⟨h3, h4⟩ := mkT_of.1 ho
  rw [mkT_in h1 h2, mkT_in h3 h4]
  exact h t h3 h4
theorem mkT_next (hm : 1 ≤ m) (hm16 : m ≤ 16) : next (mkT m c v) G = (first (mkT m c v) 0, v (first (mkT m c v) 0)) := by
  obtain ⟨h1, h2, -⟩ := mkT_first (c := c) (v := v) hm hm16
  rw [solo_next mkT_0 mkT_solo, if_neg (by omega), mkT_in h1 h2]
theorem mkT_next0 : next (mkT 0 c v) G = (0, 0) := by
  have : first (mkT 0 c v) 0 = 0 := first_none mkT_0 (fun t ht ho => by have := mkT_of.1 ho; omega)
  rw [solo_next mkT_0 mkT_solo, this]; rfl
theorem mkT_tick {n : Nat} (h1 : 1 ≤ n) (h2 : n ≤ m) : tickT (mkT m c v) n = mkT m c (upd v n (v n + c n)) := by
  funext t
  unfold tickT upd
  by_cases e : t = n
  · subst e; rw [if_pos rfl, mkT_in h1 h2, mkT_in h1 h2, if_pos rfl]
  · rw [if_neg e]
    unfold mkT
    split
    · simp [e]
    · rfl
theorem mkT_tickG {n : Nat} (h1 : 1 ≤ n) (h2 : n ≤ m) : tickG (mkT m c v) G n = G := by
  unfold tickG; rw [mkT_in h1 h2, if_pos rfl]
theorem mkT_fit {B : Int} (hm : m ≤ 16) (hc : ∀ t, 1 ≤ t → t ≤ m → 1 ≤ c t ∧ c t ≤ 1048576) (hv : ∀ t, 1 ≤ t → t ≤ m → 0 ≤ v t ∧ v t ≤ B) (hB : 0 ≤ B) : Fit (mkT m c v) noG B := by
  refine ⟨?_, ?_, ?_, ?_, ?_, ?_, ?_⟩
  · intro t _; unfold mkT; split
    · rename_i h; have := hc t h.1 h.2; exact ⟨by simp; omega, by simp; omega⟩
    · exact ⟨by simp, by simp⟩
  · intro t _; unfold mkT; split
    · rename_i h; exact hv t h.1 h.2
    · exact ⟨by simp, hB⟩
  · intro t _; unfold mkT; split <;> exact ⟨by simp, by simp⟩
  · intro g _; exact ⟨by simp [noG], by simp [noG]⟩
  · intro g _; exact ⟨by simp [noG], hB⟩
  · rw [mkT_out (by omega)]
  · intro t _ hr; unfold mkT at *; split at hr
    · rename_i h; rw [if_pos h]; have := hc t h.1 h.2; show c t ≠ 0; omega
    · cases hr
end

/-- One task more, of no time: it is as the others are. -/
theorem mkT_add {m : Nat} {c : Nat → Int} {x : Int} (hm : m < 16) (hx : c (m + 1) = x) : addT (mkT m c (fun _ => 0)) noG (m + 1) x 0 = mkT (m + 1) c (fun _ => 0) ∧ addG (mkT m c (fun _ => 0)) noG (m + 1) x 0 = noG := by
  have h0 : ((upd (mkT m c (fun _ => 0)) (m + 1) ⟨x, 0, 0, false⟩) 0).r = false := by rw [upd_other _ _ (by omega)]; exact mkT_0
  have hs : Solo (upd (mkT m c (fun _ => 0)) (m + 1) ⟨x, 0, 0, false⟩) := by
    intro t ht hr
    unfold upd at *
    split
    · rfl
    · exact mkT_solo t ht (by rw [if_neg (by assumption)] at hr; exact hr)
  have hn : (next (upd (mkT m c (fun _ => 0)) (m + 1) ⟨x, 0, 0, false⟩) noG).2 = 0 := by
    rw [solo_next h0 hs]
    show (if _ then _ else _) = _
    split
    · rfl
    · unfold upd
      split
      · rfl
      · unfold mkT; split <;> rfl
  constructor
  · unfold addT
    rw [wokeT_0 (by rw [upd_same]), hn, upd_upd, upd_same]
    funext t
    unfold upd mkT
    by_cases e : t = m + 1
    · rw [if_pos e, if_pos (by omega)]; subst e; rw [hx]; rfl
    · rw [if_neg e]
      by_cases h : 1 ≤ t ∧ t ≤ m
      · rw [if_pos h, if_pos (by omega)]
      · rw [if_neg h, if_neg (by omega)]
  · unfold addG
    rw [wokeG_0 (by rw [upd_same])]

theorem mkT_none (c v : Nat → Int) : mkT 0 c v = noT := by
  funext t; unfold mkT noT; rw [if_neg (by omega)]
end Go.Proofs.Ytpincdcebhmnhaa.Fr
