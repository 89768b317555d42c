/- A class of fair shares in memory: tasks and groups by their numbers. -/
import Derived.Test.YtpincdcebhmnhaaMem
import Derived.Test.YtpincdcebhmnhaaArgs
import Derived.Test.YtpincdcebhmnhaaWithin
import Derived.IntWalk
import Derived.Laws.Rows
namespace Go.Proofs.Ytpincdcebhmnhaa.Fr
open Go.ChangeShapes Go.WideShapes Go.ChangeAt Go.RowKit Go.Maps
set_option linter.unusedVariables false

/-- A task: what a tick costs it (0: there is none), its time, its group, is it ready? -/
structure Tk where
  c : Int
  v : Int
  g : Int
  r : Bool

/-- A group: what a tick costs it (0: there is none), its time. -/
structure Gr where
  c : Int
  v : Int

abbrev Tks := Nat → Tk
abbrev Grs := Nat → Gr

/-- The cells of a class. -/
structure Cells (o : Nat) (cs : Array Value) (T : Tks) (G : Grs) : Prop where
  size : o + 86 ≤ cs.size
  tc : ∀ t, t < 17 → cs[o + t * 4]? = some (.int .i64 (T t).c)
  tv : ∀ t, t < 17 → cs[o + t * 4 + 1]? = some (.int .i64 (T t).v)
  tg : ∀ t, t < 17 → cs[o + t * 4 + 2]? = some (.int .i64 (T t).g)
  tr : ∀ t, t < 17 → cs[o + t * 4 + 3]? = some (.bool (T t).r)
  gc : ∀ g, g < 9 → cs[o + 68 + g * 2]? = some (.int .i64 (G g).c)
  gv : ∀ g, g < 9 → cs[o + 68 + g * 2 + 1]? = some (.int .i64 (G g).v)

/-- A class in block p. -/
def FairAt (w : World) (p o D : Nat) (T : Tks) (G : Grs) : Prop := ∃ cs, w.heap[p]? = some (.cells cs D (0, 0)) ∧ Cells o cs T G

section
variable {w w' : World} {p o D : Nat} {T : Tks} {G : Grs}
theorem FairAt.keep {S : Nat → Prop} (h : FairAt w p o D T G) (hO : Only S w w') (hS : ¬ S p) : FairAt w' p o D T G := by
  obtain ⟨cs, h1, h2⟩ := h
  exact ⟨cs, by rw [hO.block p (block_there h1) hS]; exact h1, h2⟩
theorem FairAt.later (h : FairAt w p o D T G) (hO : Only (fun _ => False) w w') : FairAt w' p o D T G := h.keep hO id
theorem FairAt.lt (h : FairAt w p o D T G) : p < w.heap.size := by obtain ⟨cs, h1, -⟩ := h; exact block_there h1
theorem FairAt.frozen (h : FairAt w p o D T G) (j : Nat) : w.frozen? ⟨p, j, none⟩ = false := by obtain ⟨cs, h1, -⟩ := h; exact frozen_at h1 j
theorem FairAt.tc (h : FairAt w p o D T G) (t : Nat) (ht : t < 17) : w.cell? ⟨p, o + t * 4, none⟩ = some (.int .i64 (T t).c) := by obtain ⟨cs, h1, h2⟩ := h; rw [cell_at h1]; exact h2.tc t ht
theorem FairAt.tv (h : FairAt w p o D T G) (t : Nat) (ht : t < 17) : w.cell? ⟨p, o + t * 4 + 1, none⟩ = some (.int .i64 (T t).v) := by obtain ⟨cs, h1, h2⟩ := h; rw [cell_at h1]; exact h2.tv t ht
theorem FairAt.tg (h : FairAt w p o D T G) (t : Nat) (ht : t < 17) : w.cell? ⟨p, o + t * 4 + 2, none⟩ = some (.int .i64 (T t).g) := by obtain ⟨cs, h1, h2⟩ := h; rw [cell_at h1]; exact h2.tg t ht
theorem FairAt.tr (h : FairAt w p o D T G) (t : Nat) (ht : t < 17) : w.cell? ⟨p, o + t * 4 + 3, none⟩ = some (.bool (T t).r) := by obtain ⟨cs, h1, h2⟩ := h; rw [cell_at h1]; exact h2.tr t ht
theorem FairAt.gc (h : FairAt w p o D T G) (g : Nat) (hg : g < 9) : w.cell? ⟨p, o + 68 + g * 2, none⟩ = some (.int .i64 (G g).c) := by obtain ⟨cs, h1, h2⟩ := h; rw [cell_at h1]; exact h2.gc g hg
theorem FairAt.gv (h : FairAt w p o D T G) (g : Nat) (hg : g < 9) : w.cell? ⟨p, o + 68 + g * 2 + 1, none⟩ = some (.int .i64 (G g).v) := by obtain ⟨cs, h1, h2⟩ := h; rw [cell_at h1]; exact h2.gv g hg
end

/-- A function with another value at one place. -/
def upd {α : Type} (f : Nat → α) (k : Nat) (x : α) : Nat → α := fun j => if j = k then x else f j
theorem upd_same {α : Type} (f : Nat → α) (k : Nat) (x : α) : upd f k x k = x := by simp [upd]
theorem upd_other {α : Type} (f : Nat → α) {k j : Nat} (x : α) (h : j ≠ k) : upd f k x j = f j := by simp [upd, h]

section
variable {w : World} {p o D : Nat} {T : Tks} {G : Grs}
theorem FairAt.set_tc (h : FairAt w p o D T G) (t : Nat) (ht : t < 17) (x : Int) : FairAt (w.setCell ⟨p, o + t * 4, none⟩ (.int .i64 x)) p o D (upd T t ⟨x, (T t).v, (T t).g, (T t).r⟩) G := by
  obtain ⟨cs, h1, h2⟩ := h
  refine ⟨_, heap_setCell_same w p _ cs _ _ h1, by simpa using h2.size, ?_, ?_, ?_, ?_, ?_, ?_⟩ <;> intro j hj <;> rw [Array.getElem?_setIfInBounds] <;> have hs := h2.size
  · by_cases e : j = t
    · subst e; rw [if_pos rfl, if_pos (by omega), upd_same]
    · rw [if_neg (by omega), upd_other _ _ e]; exact h2.tc j hj
  · rw [if_neg (by omega), h2.tv j hj]; unfold upd; split <;> simp_all
  · rw [if_neg (by omega), h2.tg j hj]; unfold upd; split <;> simp_all
  · rw [if_neg (by omega), h2.tr j hj]; unfold upd; split <;> simp_all
  · rw [if_neg (by omega)]; exact h2.gc j hj
  · rw [if_neg (by omega)]; exact h2.gv j hj
theorem FairAt.set_tv (h : FairAt w p o D T G) (t : Nat) (ht : t < 17) (x : Int) : FairAt (w.setCell ⟨p, o + t * 4 + 1, none⟩ (.int .i64 x)) p o D (upd T t ⟨(T t).c, x, (T t).g, (T t).r⟩) G := by
  obtain ⟨cs, h1, h2⟩ := h
  refine ⟨_, heap_setCell_same w p _ cs _ _ h1, by simpa using h2.size, ?_, ?_, ?_, ?_, ?_, ?_⟩ <;> intro j hj <;> rw [Array.getElem?_setIfInBounds] <;> have hs := h2.size
  · rw [if_neg (by omega), h2.tc j hj]; unfold upd; split <;> simp_all
  · by_cases e : j = t
    · subst e; rw [if_pos rfl, if_pos (by omega), upd_same]
    · rw [if_neg (by omega), upd_other _ _ e]; exact h2.tv j hj
  · rw [if_neg (by omega), h2.tg j hj]; unfold upd; split <;> simp_all
  · rw [if_neg (by omega), h2.tr j hj]; unfold upd; split <;> simp_all
  · rw [if_neg (by omega)]; exact h2.gc j hj
  · rw [if_neg (by omega)]; exact h2.gv j hj
theorem FairAt.set_tg (h : FairAt w p o D T G) (t : Nat) (ht : t < 17) (x : Int) : FairAt (w.setCell ⟨p, o + t * 4 + 2, none⟩ (.int .i64 x)) p o D (upd T t ⟨(T t).c, (T t).v, x, (T t).r⟩) G := by
  obtain ⟨cs, h1, h2⟩ := h
  refine ⟨_, heap_setCell_same w p _ cs _ _ h1, by simpa using h2.size, ?_, ?_, ?_, ?_, ?_, ?_⟩ <;> intro j hj <;> rw [Array.getElem?_setIfInBounds] <;> have hs := h2.size
  · rw [if_neg (by omega), h2.tc j hj]; unfold upd; split <;> simp_all
  · rw [if_neg (by omega), h2.tv j hj]; unfold upd; split <;> simp_all
  · by_cases e : j = t
    · subst e; rw [if_pos rfl, if_pos (by omega), upd_same]
    · rw [if_neg (by omega), upd_other _ _ e]; exact h2.tg j hj
  · rw [if_neg (by omega), h2.tr j hj]; unfold upd; split <;> simp_all
  · rw [if_neg (by omega)]; exact h2.gc j hj
  · rw [if_neg (by omega)]; exact h2.gv j hj
theorem FairAt.set_tr (h : FairAt w p o D T G) (t : Nat) (ht : t < 17) (x : Bool) : FairAt (w.setCell ⟨p, o + t * 4 + 3, none⟩ (.bool x)) p o D (upd T t ⟨(T t).c, (T t).v, (T t).g, x⟩) G := by
  obtain ⟨cs, h1, h2⟩ := h
  refine ⟨_, heap_setCell_same w p _ cs _ _ h1, by simpa using h2.size, ?_, ?_, ?_, ?_, ?_, ?_⟩ <;> intro j hj <;> rw [Array.getElem?_setIfInBounds] <;> have hs := h2.size
  · rw [if_neg (by omega), h2.tc j hj]; unfold upd; split <;> simp_all
  · rw [if_neg (by omega), h2.tv j hj]; unfold upd; split <;> simp_all
  · rw [if_neg (by omega), h2.tg j hj]; unfold upd; split <;> simp_all
  · by_cases e : j = t
    · subst e; rw [if_pos rfl, if_pos (by omega), upd_same]
    · rw [if_neg (by omega), upd_other _ _ e]; exact h2.tr j hj
  · rw [if_neg (by omega)]; exact h2.gc j hj
  · rw [if_neg (by omega)]; exact h2.gv j hj
theorem FairAt.set_gc (h : FairAt w p o D T G) (g : Nat) (hg : g < 9) (x : Int) : FairAt (w.setCell ⟨p, o + 68 + g * 2, none⟩ (.int .i64 x)) p o D T (upd G g ⟨x, (G g).v⟩) := by
  obtain ⟨cs, h1, h2⟩ := h
  refine ⟨_, heap_setCell_same w p _ cs _ _ h1, by simpa using h2.size, ?_, ?_, ?_, ?_, ?_, ?_⟩ <;> intro j hj <;> rw [Array.getElem?_setIfInBounds] <;> have hs := h2.size
  · rw [if_neg (by omega)]; exact h2.tc j hj
  · rw [if_neg (by omega)]; exact h2.tv j hj
  · rw [if_neg (by omega)]; exact h2.tg j hj
  · rw [if_neg (by omega)]; exact h2.tr j hj
  · by_cases e : j = g
    · subst e; rw [if_pos rfl, if_pos (by omega), upd_same]
    · rw [if_neg (by omega), upd_other _ _ e]; exact h2.gc j hj
  · rw [if_neg (by omega), h2.gv j hj]; unfold upd; split <;> simp_all
theorem FairAt.set_gv (h : FairAt w p o D T G) (g : Nat) (hg : g < 9) (x : Int) : FairAt (w.setCell ⟨p, o + 68 + g * 2 + 1, none⟩ (.int .i64 x)) p o D T (upd G g ⟨(G g).c, x⟩) := by
  obtain ⟨cs, h1, h2⟩ := h
  refine ⟨_, heap_setCell_same w p _ cs _ _ h1, by simpa using h2.size, ?_, ?_, ?_, ?_, ?_, ?_⟩ <;> intro j hj <;> rw [Array.getElem?_setIfInBounds] <;> have hs := h2.size
  · rw [if_neg (by omega)]; exact h2.tc j hj
  · rw [if_neg (by omega)]; exact h2.tv j hj
  · rw [if_neg (by omega)]; exact h2.tg j hj
  · rw [if_neg (by omega)]; exact h2.tr j hj
  · rw [if_neg (by omega), h2.gc j hj]; unfold upd; split <;> simp_all
  · by_cases e : j = g
    · subst e; rw [if_pos rfl, if_pos (by omega), upd_same]
    · rw [if_neg (by omega), upd_other _ _ e]; exact h2.gv j hj
end

/-- Who goes first among the ready tasks of a group, as far as k. -/
def firstTo (T : Tks) (g : Int) : Nat → Nat
  | 0 => 0
  | k + 1 => if (T k).r = true ∧ (T k).g = g ∧ (firstTo T g k = 0 ∨ (T k).v < (T (firstTo T g k)).v) then k else firstTo T g k
/-- Who goes first among the ready tasks of a group; 0: nobody. -/
def first (T : Tks) (g : Int) : Nat := firstTo T g 17

theorem firstTo_lt (T : Tks) (g : Int) (k : Nat) : firstTo T g k ≤ k - 1 := by
  induction k with
  | zero => simp [firstTo]
  | succ k ih => unfold firstTo; split <;> omega
theorem first_lt (T : Tks) (g : Int) : first T g < 17 := by have := firstTo_lt T g 17; unfold first; omega

/-- Who goes next, and by what time, groups asked as far as k. -/
def nextTo (T : Tks) (G : Grs) : Nat → Nat × Int
  | 0 => (0, 0)
  | k + 1 => if first T ((k : Int) + 1) ≠ 0 ∧ ((nextTo T G k).1 = 0 ∨ (G (k + 1)).v < (nextTo T G k).2) then (first T ((k : Int) + 1), (G (k + 1)).v) else nextTo T G k
/-- Who goes next, and by what time. -/
def next (T : Tks) (G : Grs) : Nat × Int :=
  if first T 0 ≠ 0 ∧ ((nextTo T G 8).1 = 0 ∨ (T (first T 0)).v < (nextTo T G 8).2) then (first T 0, (T (first T 0)).v) else nextTo T G 8

theorem nextTo_lt (T : Tks) (G : Grs) (k : Nat) : (nextTo T G k).1 < 17 := by
  induction k with
  | zero => simp [nextTo]
  | succ k ih => unfold nextTo; split; exact first_lt _ _; exact ih
theorem next_lt (T : Tks) (G : Grs) : (next T G).1 < 17 := by
  unfold next; split; exact first_lt _ _; exact nextTo_lt _ _ _

/-- All that is in bounds. -/
structure Fit (T : Tks) (G : Grs) (B : Int) : Prop where
  c : ∀ t, t < 17 → 0 ≤ (T t).c ∧ (T t).c ≤ 1048576
  v : ∀ t, t < 17 → 0 ≤ (T t).v ∧ (T t).v ≤ B
  g : ∀ t, t < 17 → 0 ≤ (T t).g ∧ (T t).g ≤ 8
  gc : ∀ g, g < 9 → 0 ≤ (G g).c ∧ (G g).c ≤ 1048576
  gv : ∀ g, g < 9 → 0 ≤ (G g).v ∧ (G g).v ≤ B
  no : (T 0).c = 0
  rc : ∀ t, t < 17 → (T t).r = true → (T t).c ≠ 0

theorem Fit.mono {T : Tks} {G : Grs} {B C : Int} (h : Fit T G B) (hB : B ≤ C) : Fit T G C :=
  ⟨h.c, fun t ht => ⟨(h.v t ht).1, by have := (h.v t ht).2; omega⟩, h.g, h.gc, fun t ht => ⟨(h.gv t ht).1, by have := (h.gv t ht).2; omega⟩, h.no, h.rc⟩
end Go.Proofs.Ytpincdcebhmnhaa.Fr
