/- A class of deadlines in memory: tasks by their numbers, and the time. -/
import Derived.Test.YtpincdcebhmnhaaMem
import Derived.Test.YtpincdcebhmnhaaArgs
import Derived.Test.YtpincdcebhmnhaaWithin
import Derived.IntWalk
import Derived.Laws.Rows
namespace Go.Proofs.Ytpincdcebhmnhaa.De
open Go.ChangeShapes Go.WideShapes Go.ChangeAt Go.RowKit Go.Maps
set_option linter.unusedVariables false

/-- A task: its budget, its period (0: there is none), what is left, when it is due, is it ready, is it out? -/
structure Tk where
  b : Int
  p : Int
  l : Int
  d : Int
  r : Bool
  o : Bool

abbrev Tks := Nat → Tk

/-- The cells of a class. -/
structure Cells (o : Nat) (cs : Array Value) (T : Tks) (n : Int) : Prop where
  size : o + 103 ≤ cs.size
  cb : ∀ t, t < 17 → cs[o + t * 6]? = some (.int .i64 (T t).b)
  cp : ∀ t, t < 17 → cs[o + t * 6 + 1]? = some (.int .i64 (T t).p)
  cl : ∀ t, t < 17 → cs[o + t * 6 + 2]? = some (.int .i64 (T t).l)
  cd : ∀ t, t < 17 → cs[o + t * 6 + 3]? = some (.int .i64 (T t).d)
  cr : ∀ t, t < 17 → cs[o + t * 6 + 5]? = some (.bool (T t).r)
  co : ∀ t, t < 17 → cs[o + t * 6 + 4]? = some (.bool (T t).o)
  now : cs[o + 102]? = some (.int .i64 n)

/-- A class in block p. -/
def DeadAt (w : World) (p o D : Nat) (T : Tks) (n : Int) : Prop := ∃ cs, w.heap[p]? = some (.cells cs D (0, 0)) ∧ Cells o cs T n

section
variable {w w' : World} {p o D : Nat} {T : Tks} {n : Int}
theorem DeadAt.keep {S : Nat → Prop} (h : DeadAt w p o D T n) (hO : Only S w w') (hS : ¬ S p) : DeadAt w' p o D T n := by
  obtain ⟨cs, h1, h2⟩ := h
  exact ⟨cs, by rw [hO.block p (block_there h1) hS]; exact h1, h2⟩
theorem DeadAt.later (h : DeadAt w p o D T n) (hO : Only (fun _ => False) w w') : DeadAt w' p o D T n := h.keep hO id
theorem DeadAt.lt (h : DeadAt w p o D T n) : p < w.heap.size := by obtain ⟨cs, h1, -⟩ := h; exact block_there h1
theorem DeadAt.frozen (h : DeadAt w p o D T n) (j : Nat) : w.frozen? ⟨p, j, none⟩ = false := by obtain ⟨cs, h1, -⟩ := h; exact frozen_at h1 j
theorem DeadAt.cb (h : DeadAt w p o D T n) (t : Nat) (ht : t < 17) : w.cell? ⟨p, o + t * 6, none⟩ = some (.int .i64 (T t).b) := by obtain ⟨cs, h1, h2⟩ := h; rw [cell_at h1]; exact h2.cb t ht
theorem DeadAt.cp (h : DeadAt w p o D T n) (t : Nat) (ht : t < 17) : w.cell? ⟨p, o + t * 6 + 1, none⟩ = some (.int .i64 (T t).p) := by obtain ⟨cs, h1, h2⟩ := h; rw [cell_at h1]; exact h2.cp t ht
theorem DeadAt.cl (h : DeadAt w p o D T n) (t : Nat) (ht : t < 17) : w.cell? ⟨p, o + t * 6 + 2, none⟩ = some (.int .i64 (T t).l) := by obtain ⟨cs, h1, h2⟩ := h; rw [cell_at h1]; exact h2.cl t ht
theorem DeadAt.cd (h : DeadAt w p o D T n) (t : Nat) (ht : t < 17) : w.cell? ⟨p, o + t * 6 + 3, none⟩ = some (.int .i64 (T t).d) := by obtain ⟨cs, h1, h2⟩ := h; rw [cell_at h1]; exact h2.cd t ht
theorem DeadAt.cr (h : DeadAt w p o D T n) (t : Nat) (ht : t < 17) : w.cell? ⟨p, o + t * 6 + 5, none⟩ = some (.bool (T t).r) := by obtain ⟨cs, h1, h2⟩ := h; rw [cell_at h1]; exact h2.cr t ht
theorem DeadAt.co (h : DeadAt w p o D T n) (t : Nat) (ht : t < 17) : w.cell? ⟨p, o + t * 6 + 4, none⟩ = some (.bool (T t).o) := by obtain ⟨cs, h1, h2⟩ := h; rw [cell_at h1]; exact h2.co t ht
theorem DeadAt.now (h : DeadAt w p o D T n) : w.cell? ⟨p, o + 102, none⟩ = some (.int .i64 n) := by obtain ⟨cs, h1, h2⟩ := h; rw [cell_at h1]; exact h2.now
end

/-- A function with another value at one place. -/
def upd {α : Type} (f : Nat → α) (k : Nat) (x : α) : Nat → α := fun j => if j = k then x else f j
theorem upd_same {α : Type} (f : Nat → α) (k : Nat) (x : α) : upd f k x k = x := by simp [upd]
theorem upd_other {α : Type} (f : Nat → α) {k j : Nat} (x : α) (h : j ≠ k) : upd f k x j = f j := by simp [upd, h]
theorem upd_upd {α : Type} (f : Nat → α) (k : Nat) (x y : α) : upd (upd f k x) k y = upd f k y := by
  funext j; unfold upd; split <;> simp_all
theorem upd_self {α : Type} (f : Nat → α) (k : Nat) : upd f k (f k) = f := by
  funext j; unfold upd; split <;> simp_all

section
variable {w : World} {p o D : Nat} {T : Tks} {n : Int}
theorem DeadAt.set_tb (h : DeadAt w p o D T n) (t : Nat) (ht : t < 17) (x : Int) : DeadAt (w.setCell ⟨p, o + t * 6, none⟩ (.int .i64 x)) p o D (upd T t ⟨x, (T t).p, (T t).l, (T t).d, (T t).r, (T t).o⟩) n := by
  obtain ⟨cs, h1, h2⟩ := h
  refine ⟨_, heap_setCell_same w p _ cs _ _ h1, by simpa using h2.size, ?_, ?_, ?_, ?_, ?_, ?_, ?_⟩ <;> (try intro j hj) <;> rw [Array.getElem?_setIfInBounds] <;> have hs := h2.size
  · by_cases e : j = t
    · subst e; rw [if_pos rfl, if_pos (by omega), upd_same]
    · rw [if_neg (by omega), upd_other _ _ e]; exact h2.cb j hj
  · rw [if_neg (by omega), h2.cp j hj]; unfold upd; split <;> simp_all
  · rw [if_neg (by omega), h2.cl j hj]; unfold upd; split <;> simp_all
  · rw [if_neg (by omega), h2.cd j hj]; unfold upd; split <;> simp_all
  · rw [if_neg (by omega), h2.cr j hj]; unfold upd; split <;> simp_all
  · rw [if_neg (by omega), h2.co j hj]; unfold upd; split <;> simp_all
  · rw [if_neg (by omega)]; exact h2.now
theorem DeadAt.set_tp (h : DeadAt w p o D T n) (t : Nat) (ht : t < 17) (x : Int) : DeadAt (w.setCell ⟨p, o + t * 6 + 1, none⟩ (.int .i64 x)) p o D (upd T t ⟨(T t).b, x, (T t).l, (T t).d, (T t).r, (T t).o⟩) n := by
  obtain ⟨cs, h1, h2⟩ := h
  refine ⟨_, heap_setCell_same w p _ cs _ _ h1, by simpa using h2.size, ?_, ?_, ?_, ?_, ?_, ?_, ?_⟩ <;> (try intro j hj) <;> rw [Array.getElem?_setIfInBounds] <;> have hs := h2.size
  · rw [if_neg (by omega), h2.cb j hj]; unfold upd; split <;> simp_all
  · by_cases e : j = t
    · subst e; rw [if_pos rfl, if_pos (by omega), upd_same]
    · rw [if_neg (by omega), upd_other _ _ e]; exact h2.cp j hj
  · rw [if_neg (by omega), h2.cl j hj]; unfold upd; split <;> simp_all
  · rw [if_neg (by omega), h2.cd j hj]; unfold upd; split <;> simp_all
  · rw [if_neg (by omega), h2.cr j hj]; unfold upd; split <;> simp_all
  · rw [if_neg (by omega), h2.co j hj]; unfold upd; split <;> simp_all
  · rw [if_neg (by omega)]; exact h2.now
theorem DeadAt.set_tl (h : DeadAt w p o D T n) (t : Nat) (ht : t < 17) (x : Int) : DeadAt (w.setCell ⟨p, o + t * 6 + 2, none⟩ (.int .i64 x)) p o D (upd T t ⟨(T t).b, (T t).p, x, (T t).d, (T t).r, (T t).o⟩) n := by
  obtain ⟨cs, h1, h2⟩ := h
  refine ⟨_, heap_setCell_same w p _ cs _ _ h1, by simpa using h2.size, ?_, ?_, ?_, ?_, ?_, ?_, ?_⟩ <;> (try intro j hj) <;> rw [Array.getElem?_setIfInBounds] <;> have hs := h2.size
  · rw [if_neg (by omega), h2.cb j hj]; unfold upd; split <;> simp_all
  · rw [if_neg (by omega), h2.cp j hj]; unfold upd; split <;> simp_all
  · by_cases e : j = t
    · subst e; rw [if_pos rfl, if_pos (by omega), upd_same]
    · rw [if_neg (by omega), upd_other _ _ e]; exact h2.cl j hj
  · rw [if_neg (by omega), h2.cd j hj]; unfold upd; split <;> simp_all
  · rw [if_neg (by omega), h2.cr j hj]; unfold upd; split <;> simp_all
  · rw [if_neg (by omega), h2.co j hj]; unfold upd; split <;> simp_all
  · rw [if_neg (by omega)]; exact h2.now
theorem DeadAt.set_td (h : DeadAt w p o D T n) (t : Nat) (ht : t < 17) (x : Int) : DeadAt (w.setCell ⟨p, o + t * 6 + 3, none⟩ (.int .i64 x)) p o D (upd T t ⟨(T t).b, (T t).p, (T t).l, x, (T t).r, (T t).o⟩) n := by
  obtain ⟨cs, h1, h2⟩ := h
  refine ⟨_, heap_setCell_same w p _ cs _ _ h1, by simpa using h2.size, ?_, ?_, ?_, ?_, ?_, ?_, ?_⟩ <;> (try intro j hj) <;> rw [Array.getElem?_setIfInBounds] <;> have hs := h2.size
  · rw [if_neg (by omega), h2.cb j hj]; unfold upd; split <;> simp_all
  · rw [if_neg (by omega), h2.cp j hj]; unfold upd; split <;> simp_all
  · rw [if_neg (by omega), h2.cl j hj]; unfold upd; split <;> simp_all
  · by_cases e : j = t
    · subst e; rw [if_pos rfl, if_pos (by omega), upd_same]
    · rw [if_neg (by omega), upd_other _ _ e]; exact h2.cd j hj
  · rw [if_neg (by omega), h2.cr j hj]; unfold upd; split <;> simp_all
  · rw [if_neg (by omega), h2.co j hj]; unfold upd; split <;> simp_all
  · rw [if_neg (by omega)]; exact h2.now
theorem DeadAt.set_tr (h : DeadAt w p o D T n) (t : Nat) (ht : t < 17) (x : Bool) : DeadAt (w.setCell ⟨p, o + t * 6 + 5, none⟩ (.bool x)) p o D (upd T t ⟨(T t).b, (T t).p, (T t).l, (T t).d, x, (T t).o⟩) n := by
  obtain ⟨cs, h1, h2⟩ := h
  refine ⟨_, heap_setCell_same w p _ cs _ _ h1, by simpa using h2.size, ?_, ?_, ?_, ?_, ?_, ?_, ?_⟩ <;> (try intro j hj) <;> rw [Array.getElem?_setIfInBounds] <;> have hs := h2.size
  · rw [if_neg (by omega), h2.cb j hj]; unfold upd; split <;> simp_all
  · rw [if_neg (by omega), h2.cp j hj]; unfold upd; split <;> simp_all
  · rw [if_neg (by omega), h2.cl j hj]; unfold upd; split <;> simp_all
  · rw [if_neg (by omega), h2.cd j hj]; unfold upd; split <;> simp_all
  · by_cases e : j = t
    · subst e; rw [if_pos rfl, if_pos (by omega), upd_same]
    · rw [if_neg (by omega), upd_other _ _ e]; exact h2.cr j hj
  · rw [if_neg (by omega), h2.co j hj]; unfold upd; split <;> simp_all
  · rw [if_neg (by omega)]; exact h2.now
theorem DeadAt.set_to (h : DeadAt w p o D T n) (t : Nat) (ht : t < 17) (x : Bool) : DeadAt (w.setCell ⟨p, o + t * 6 + 4, none⟩ (.bool x)) p o D (upd T t ⟨(T t).b, (T t).p, (T t).l, (T t).d, (T t).r, x⟩) n := by
  obtain ⟨cs, h1, h2⟩ := h
  refine ⟨_, heap_setCell_same w p _ cs _ _ h1, by simpa using h2.size, ?_, ?_, ?_, ?_, ?_, ?_, ?_⟩ <;> (try intro j hj) <;> rw [Array.getElem?_setIfInBounds] <;> have hs := h2.size
  · rw [if_neg (by omega), h2.cb j hj]; unfold upd; split <;> simp_all
  · rw [if_neg (by omega), h2.cp j hj]; unfold upd; split <;> simp_all
  · rw [if_neg (by omega), h2.cl j hj]; unfold upd; split <;> simp_all
  · rw [if_neg (by omega), h2.cd j hj]; unfold upd; split <;> simp_all
  · rw [if_neg (by omega), h2.cr j hj]; unfold upd; split <;> simp_all
  · by_cases e : j = t
    · subst e; rw [if_pos rfl, if_pos (by omega), upd_same]
    · rw [if_neg (by omega), upd_other _ _ e]; exact h2.co j hj
  · rw [if_neg (by omega)]; exact h2.now
theorem DeadAt.set_now (h : DeadAt w p o D T n) (x : Int) : DeadAt (w.setCell ⟨p, o + 102, none⟩ (.int .i64 x)) p o D T x := by
  obtain ⟨cs, h1, h2⟩ := h
  refine ⟨_, heap_setCell_same w p _ cs _ _ h1, by simpa using h2.size, ?_, ?_, ?_, ?_, ?_, ?_, ?_⟩ <;> (try intro j hj) <;> rw [Array.getElem?_setIfInBounds] <;> have hs := h2.size
  · rw [if_neg (by omega)]; exact h2.cb j hj
  · rw [if_neg (by omega)]; exact h2.cp j hj
  · rw [if_neg (by omega)]; exact h2.cl j hj
  · rw [if_neg (by omega)]; exact h2.cd j hj
  · rw [if_neg (by omega)]; exact h2.cr j hj
  · rw [if_neg (by omega)]; exact h2.co j hj
  · rw [if_pos rfl, if_pos (by omega)]
end

/-- A task whose budget is filled for a period from s on. -/
def fill (x : Tk) (s : Int) : Tk := ⟨x.b, x.p, x.b, s + x.p, x.r, false⟩
/-- A task that used a tick. -/
def use (x : Tk) : Tk := ⟨x.b, x.p, x.l - 1, x.d, x.r, x.l - 1 == 0⟩
/-- May it not keep what it has left? -/
def Stale (x : Tk) (n : Int) : Prop := x.d ≤ n ∨ x.b * (x.d - n) < x.l * x.p
instance (x : Tk) (n : Int) : Decidable (Stale x n) := by unfold Stale; exact inferInstance
/-- A task behind its waking up. -/
def woke (x : Tk) (n : Int) : Tk := if x.o = false ∧ Stale x n then fill ⟨x.b, x.p, x.l, x.d, true, x.o⟩ n else ⟨x.b, x.p, x.l, x.d, true, x.o⟩
/-- A task behind a tick. -/
def again (x : Tk) (n : Int) : Tk := if x.o = true ∧ x.d ≤ n then fill x x.d else x
/-- The tasks behind a tick, as far as k. -/
def pastTo (T : Tks) (n : Int) (k : Nat) : Tks := fun j => if j < k then again (T j) n else T j
/-- Who goes next, as far as k. -/
def pickTo (T : Tks) : Nat → Nat
  | 0 => 0
  | k + 1 => if (T k).r = true ∧ (T k).o = false ∧ (pickTo T k = 0 ∨ (T k).d < (T (pickTo T k)).d) then k else pickTo T k
/-- Who goes next; 0: nobody. -/
def pick (T : Tks) : Nat := pickTo T 17

theorem pickTo_lt (T : Tks) (k : Nat) : pickTo T k ≤ k - 1 := by
  induction k with
  | zero => simp [pickTo]
  | succ k ih => unfold pickTo; split <;> omega
theorem pick_lt (T : Tks) : pick T < 17 := by have := pickTo_lt T 17; unfold pick; omega

/-- The tasks behind a tick that none of them has. -/
def past (T : Tks) (n : Int) : Tks := pastTo T (n + 1) 17
/-- The tasks behind a tick. -/
def tick (T : Tks) (n : Int) : Tks := if pick T = 0 then past T n else past (upd T (pick T) (use (T (pick T)))) n

/-- All that is in bounds. -/
structure Fit (T : Tks) (B : Int) : Prop where
  b : ∀ t, t < 17 → 0 ≤ (T t).b ∧ (T t).b ≤ (T t).p
  p : ∀ t, t < 17 → (T t).p ≤ 30
  l : ∀ t, t < 17 → 0 ≤ (T t).l ∧ (T t).l ≤ (T t).b
  d : ∀ t, t < 17 → 0 ≤ (T t).d ∧ (T t).d ≤ B + 30
  no : (T 0).p = 0
  rp : ∀ t, t < 17 → (T t).r = true → (T t).p ≠ 0
  bp : ∀ t, t < 17 → (T t).p ≠ 0 → 1 ≤ (T t).b
  lo : ∀ t, t < 17 → (T t).p ≠ 0 → ((T t).o = true ↔ (T t).l = 0)

/-- Is this the number of a task that is there? -/
def isTask (T : Tks) (t : Int) : Prop := 1 ≤ t ∧ t ≤ 16 ∧ (T t.toNat).p ≠ 0
instance (T : Tks) (t : Int) : Decidable (isTask T t) := by unfold isTask; exact inferInstance
end Go.Proofs.Ytpincdcebhmnhaa.De
