/- What a tree tells, of its elements in order: searching, the next one, what is ahead, where a number lies; and how high it may be. No world here. -/
import Derived.Test.YtbfnaejfmpnkbaaTree
namespace Go.Proofs.Ytbfnaejfmpnkbaa
set_option linter.unusedVariables false

/-- The first element behind a place. -/
def nextL (L : List El) (k i : Int) : Option El := L.find? fun x => decide (aft x k i)
/-- The weights ahead of a place. -/
def aheadL : List El → Int → Int → Int
  | [], _, _ => 0
  | x :: l, k, i => (if bef x k i then x.w else 0) + aheadL l k i
/-- The element in which a number from 0 on lies. -/
def liesL : List El → Int → Option El
  | [], _ => none
  | x :: l, n => if n < x.w then some x else liesL l (n - x.w)
/-- The element in which a number lies. -/
def atL (L : List El) (n : Int) : Option El := if n < 0 then none else liesL L n

/-- There is an element with this key and id. -/
def Is (L : List El) (k i : Int) : Prop := ∃ x ∈ L, x.k = k ∧ x.i = i

theorem nextL_app (l m : List El) (k i : Int) : nextL (l ++ m) k i = (nextL l k i).or (nextL m k i) := by simp [nextL, List.find?_append]
theorem nextL_cons_pos {x : El} {l : List El} {k i : Int} (h : aft x k i) : nextL (x :: l) k i = some x := by simp [nextL, h]
theorem nextL_cons_neg {x : El} {l : List El} {k i : Int} (h : ¬ aft x k i) : nextL (x :: l) k i = nextL l k i := by simp [nextL, h]
theorem nextL_none {l : List El} {k i : Int} (h : ∀ y ∈ l, ¬ aft y k i) : nextL l k i = none := by
  simp only [nextL, List.find?_eq_none, decide_eq_true_eq]; exact h
theorem nextL_mem {l : List El} {k i : Int} {x : El} (h : nextL l k i = some x) : x ∈ l ∧ aft x k i := by
  unfold nextL at h
  exact ⟨List.mem_of_find?_eq_some h, by simpa using List.find?_some h⟩

theorem nextL_left {l m : List El} {x : El} {k i : Int} (h : aft x k i) : nextL (l ++ x :: m) k i = (nextL l k i).or (some x) := by
  rw [nextL_app, nextL_cons_pos h]
theorem nextL_right {l m : List El} {x : El} {k i : Int} (hs : Sorted (l ++ x :: m)) (h : ¬ aft x k i) : nextL (l ++ x :: m) k i = nextL m k i := by
  obtain ⟨-, -, h3, -⟩ := sorted_app hs
  rw [nextL_app, nextL_cons_neg h, nextL_none (fun y hy => by have := h3 y hy; unfold lt bef aft at *; omega)]; rfl

theorem aheadL_app (l m : List El) (k i : Int) : aheadL (l ++ m) k i = aheadL l k i + aheadL m k i := by
  induction l with
  | nil => simp [aheadL]
  | cons x l ih => simp only [List.cons_append, aheadL, ih]; omega
theorem aheadL_all {l : List El} {k i : Int} (h : ∀ y ∈ l, bef y k i) : aheadL l k i = wts l := by
  induction l with
  | nil => rfl
  | cons x l ih => simp only [aheadL, wts]; rw [if_pos (h x (by simp)), ih (fun y hy => h y (by simp [hy]))]
theorem aheadL_no {l : List El} {k i : Int} (h : ∀ y ∈ l, ¬ bef y k i) : aheadL l k i = 0 := by
  induction l with
  | nil => rfl
  | cons x l ih => simp only [aheadL]; rw [if_neg (h x (by simp)), ih (fun y hy => h y (by simp [hy]))]; rfl
theorem aheadL_bd {l : List El} (k i : Int) (h : Light l) : 0 ≤ aheadL l k i ∧ aheadL l k i ≤ wts l := by
  induction l with
  | nil => simp [aheadL, wts]
  | cons x l ih =>
    have h1 := ih (light_cons.1 h).2
    have h2 := (light_cons.1 h).1
    simp only [aheadL, wts]; split <;> omega

theorem aheadL_right {l m : List El} {x : El} {k i : Int} (hs : Sorted (l ++ x :: m)) (h : bef x k i) : aheadL (l ++ x :: m) k i = wts l + x.w + aheadL m k i := by
  obtain ⟨-, -, h3, -⟩ := sorted_app hs
  rw [aheadL_app, aheadL_all (l := l) (fun y hy => by have := h3 y hy; unfold lt bef at *; omega)]
  simp only [aheadL]; rw [if_pos h]; omega
theorem aheadL_left {l m : List El} {x : El} {k i : Int} (hs : Sorted (l ++ x :: m)) (h : ¬ bef x k i) : aheadL (l ++ x :: m) k i = aheadL l k i := by
  obtain ⟨-, -, -, h4⟩ := sorted_app hs
  rw [aheadL_app]
  simp only [aheadL]; rw [if_neg h, aheadL_no (l := m) (fun y hy => by have := h4 y hy; unfold lt bef at *; omega)]; omega

theorem liesL_none {l : List El} {n : Int} (h : wts l ≤ n) (hl : Light l) : liesL l n = none := by
  induction l generalizing n with
  | nil => rfl
  | cons x l ih =>
    have h1 := wts_bd (light_cons.1 hl).2
    simp only [wts] at h
    simp only [liesL]
    rw [if_neg (by omega), ih (by omega) (light_cons.1 hl).2]

theorem liesL_some {l m : List El} {n : Int} (hl : Light l) (h0 : 0 ≤ n) (h : n < wts l) : liesL (l ++ m) n = liesL l n := by
  induction l generalizing n with
  | nil => simp [wts] at h; omega
  | cons x l ih =>
    simp only [wts] at h
    simp only [List.cons_append, liesL]
    split
    · rfl
    · exact ih (light_cons.1 hl).2 (by omega) (by omega)
theorem liesL_past {l m : List El} {n : Int} (hl : Light l) (h : wts l ≤ n) : liesL (l ++ m) n = liesL m (n - wts l) := by
  induction l generalizing n with
  | nil => simp [wts]
  | cons x l ih =>
    have h1 := wts_bd (light_cons.1 hl).2
    simp only [wts] at h ⊢
    simp only [List.cons_append, liesL]
    rw [if_neg (by omega), ih (light_cons.1 hl).2 (by omega)]
    congr 1; omega

theorem atL_here {l m : List El} {x : El} {n : Int} (hl : Light l) (h : wts l ≤ n) (g : n < wts l + x.w) : atL (l ++ x :: m) n = some x := by
  have h1 := wts_bd hl
  unfold atL
  rw [if_neg (by omega), liesL_past hl h]
  simp only [liesL]; rw [if_pos (by omega)]
theorem atL_left {l m : List El} {x : El} {n : Int} (hl : Light l) (h : n < wts l) : atL (l ++ x :: m) n = atL l n := by
  unfold atL
  split
  · rfl
  · exact liesL_some hl (by omega) h
theorem atL_right {l m : List El} {x : El} {n : Int} (hl : Light l) (hx : 0 ≤ x.w) (h : wts l + x.w ≤ n) : atL (l ++ x :: m) n = atL m (n - (wts l + x.w)) := by
  have h1 := wts_bd hl
  unfold atL
  rw [if_neg (by omega), if_neg (by omega), liesL_past hl (by omega)]
  simp only [liesL]; rw [if_neg (by omega)]
  congr 1; omega
theorem atL_nil (n : Int) : atL [] n = none := by unfold atL; split <;> rfl

/-- Searching ends at the element that is looked for, or nowhere. -/
theorem is_app {l m : List El} {x : El} {k i : Int} : Is (l ++ x :: m) k i ↔ Is l k i ∨ (x.k = k ∧ x.i = i) ∨ Is m k i := by
  unfold Is
  constructor
  · rintro ⟨y, hy, h⟩
    rcases List.mem_append.1 hy with hy | hy
    · exact Or.inl ⟨y, hy, h⟩
    · rcases List.mem_cons.1 hy with rfl | hy
      · exact Or.inr (Or.inl h)
      · exact Or.inr (Or.inr ⟨y, hy, h⟩)
  · rintro (⟨y, hy, h⟩ | h | ⟨y, hy, h⟩)
    · exact ⟨y, by simp [hy], h⟩
    · exact ⟨x, by simp, h⟩
    · exact ⟨y, by simp [hy], h⟩

/-- How few elements a balanced tree of a height has. -/
def fewest : Nat → Nat
  | 0 => 0
  | 1 => 1
  | n + 2 => fewest (n + 1) + fewest n + 1

theorem fewest_le (t : Tr) (h : Bal t) : fewest t.ht ≤ t.els.length ∧ (∀ n, n ≤ t.ht → fewest n ≤ fewest t.ht) := by
  have mono : ∀ a b, a ≤ b → fewest a ≤ fewest b := by
    have step : ∀ n, fewest n ≤ fewest (n + 1) := by
      intro n
      match n with
      | 0 => decide
      | n + 1 => simp only [fewest]; omega
    intro a b hab
    induction b with
    | zero => rw [Nat.le_zero.1 hab]; exact Nat.le_refl _
    | succ b ih =>
      by_cases e : a = b + 1
      · subst e; exact Nat.le_refl _
      · exact Nat.le_trans (ih (by omega)) (step b)
  refine ⟨?_, fun n hn => mono n _ hn⟩
  induction t with
  | nil => exact Nat.le_refl _
  | node b x l r ihl ihr =>
    obtain ⟨hl, hr, h1, h2⟩ := h
    have il := ihl hl
    have ir := ihr hr
    simp only [Tr.els, List.length_append, List.length_cons, Tr.ht]
    by_cases g : l.ht ≤ r.ht
    · rw [Nat.max_eq_right g]
      rcases Nat.eq_zero_or_pos r.ht with hh | hh
      · rw [hh]; simp only [fewest]; omega
      · obtain ⟨n, hn⟩ : ∃ n, r.ht = n + 1 := ⟨r.ht - 1, by omega⟩
        have := mono n l.ht (by omega)
        rw [hn] at ir ⊢
        have e : fewest (1 + (n + 1)) = fewest (n + 1) + fewest n + 1 := by rw [Nat.add_comm 1]; rfl
        rw [e]; omega
    · rw [Nat.max_eq_left (by omega)]
      obtain ⟨n, hn⟩ : ∃ n, l.ht = n + 1 := ⟨l.ht - 1, by omega⟩
      have := mono n r.ht (by omega)
      rw [hn] at il ⊢
      have e : fewest (1 + (n + 1)) = fewest (n + 1) + fewest n + 1 := by rw [Nat.add_comm 1]; rfl
      rw [e]; omega

theorem fewest_mono {a b : Nat} (h : a ≤ b) : fewest a ≤ fewest b := by
  induction b with
  | zero => rw [Nat.le_zero.1 h]; exact Nat.le_refl _
  | succ b ih =>
    by_cases e : a = b + 1
    · subst e; exact Nat.le_refl _
    · refine Nat.le_trans (ih (by omega)) ?_
      match b with
      | 0 => decide
      | n + 1 => simp only [fewest]; omega

theorem fewest_pow (K : Nat) : ∀ h, 3 * K + 3 ≤ 2 * h → 2 ^ K ≤ fewest h := by
  induction K using Nat.strongRecOn with
  | _ K ih =>
    intro h hh
    match K, ih with
    | 0, _ => exact Nat.le_trans (by decide) (fewest_mono (a := 2) (b := h) (by omega))
    | 1, _ => exact Nat.le_trans (by decide) (fewest_mono (a := 3) (b := h) (by omega))
    | K + 2, ih =>
      obtain ⟨g, rfl⟩ : ∃ g, h = g + 5 := ⟨h - 5, by omega⟩
      have := ih K (by omega) (g + 2) (by omega)
      have e : 2 ^ (K + 2) = 4 * 2 ^ K := by rw [Nat.pow_add]; omega
      rw [e]
      have m := fewest_mono (a := g) (b := g + 1) (by omega)
      simp only [fewest] at this ⊢
      omega

theorem deep_hi {t : Tr} (h : Bal t) {K : Nat} (hk : t.els.length < 2 ^ K) : 2 * t.ht ≤ 3 * K + 2 := by
  have h1 := (fewest_le t h).1
  rcases Nat.lt_or_ge (3 * K + 2) (2 * t.ht) with g | g
  · have := fewest_pow K t.ht (by omega); omega
  · exact g

theorem deep_lo (t : Tr) : t.els.length < 2 ^ t.ht := by
  induction t with
  | nil => decide
  | node b x l r ihl ihr =>
    simp only [Tr.els, List.length_append, List.length_cons, Tr.ht]
    have h1 := Nat.pow_le_pow_right (n := 2) (by omega) (Nat.le_max_left l.ht r.ht)
    have h2 := Nat.pow_le_pow_right (n := 2) (by omega) (Nat.le_max_right l.ht r.ht)
    rw [Nat.pow_add]; omega
end Go.Proofs.Ytbfnaejfmpnkbaa
