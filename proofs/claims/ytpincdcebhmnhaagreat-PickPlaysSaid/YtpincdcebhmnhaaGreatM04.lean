/- Texts of this claim, merged: ODe, ODFind. -/
import Derived.Test.YtpincdcebhmnhaaGreatM01
import Derived.IntWalk
import Derived.Laws.Rows
/- A class of deadlines in memory: tasks by their numbers, and the time. -/
namespace Go.Proofs.YtpincdcebhmnhaaGreat.De
open Go.ChangeShapes Go.WideShapes Go.ChangeAt Go.RowKit Go.Maps
set_option linter.unusedVariables false

/-- A task: its budget, its period (0: there is none), what is left, when it is due, is it ready, is it out? -/
structure Tk where
  b : Int
  p : Int
  l : Int
  d : Int
  r : Bool
  o : Bool

abbrev Tks := Nat → Tk

/-- The cells of a class. -/
structure Cells (o : Nat) (cs : Array Value) (T : Tks) (n : Int) : Prop where
  size : o + 103 ≤ cs.size
  cb : ∀ t, t < 17 → cs[o + t * 6]? = some (.int .i64 (T t).b)
  cp : ∀ t, t < 17 → cs[o + t * 6 + 1]? = some (.int .i64 (T t).p)
  cl : ∀ t, t < 17 → cs[o + t * 6 + 2]? = some (.int .i64 (T t).l)
  cd : ∀ t, t < 17 → cs[o + t * 6 + 3]? = some (.int .i64 (T t).d)
  cr : ∀ t, t < 17 → cs[o + t * 6 + 5]? = some (.bool (T t).r)
  co : ∀ t, t < 17 → cs[o + t * 6 + 4]? = some (.bool (T t).o)
  now : cs[o + 102]? = some (.int .i64 n)

/-- A class in block p. -/
def DeadAt (w : World) (p o D : Nat) (T : Tks) (n : Int) : Prop := ∃ cs, w.heap[p]? = some (.cells cs D (0, 0)) ∧ Cells o cs T n

section
variable {w w' : World} {p o D : Nat} {T : Tks} {n : Int}
theorem DeadAt.keep {S : Nat → Prop} (h : DeadAt w p o D T n) (hO : Only S w w') (hS : ¬ S p) : DeadAt w' p o D T n := by
  obtain ⟨cs, h1, h2⟩ := h
  exact ⟨cs, by rw [hO.block p (block_there h1) hS]; exact h1, h2⟩
theorem DeadAt.later (h : DeadAt w p o D T n) (hO : Only (fun _ => False) w w') : DeadAt w' p o D T n := h.keep hO id
theorem DeadAt.lt (h : DeadAt w p o D T n) : p < w.heap.size := by obtain ⟨cs, h1, -⟩ := h; exact block_there h1
theorem DeadAt.frozen (h : DeadAt w p o D T n) (j : Nat) : w.frozen? ⟨p, j, none⟩ = false := by obtain ⟨cs, h1, -⟩ := h; exact frozen_at h1 j
theorem DeadAt.cb (h : DeadAt w p o D T n) (t : Nat) (ht : t < 17) : w.cell? ⟨p, o + t * 6, none⟩ = some (.int .i64 (T t).b) := by obtain ⟨cs, h1, h2⟩ := h; rw [cell_at h1]; exact h2.cb t ht
theorem DeadAt.cp (h : DeadAt w p o D T n) (t : Nat) (ht : t < 17) : w.cell? ⟨p, o + t * 6 + 1, none⟩ = some (.int .i64 (T t).p) := by obtain ⟨cs, h1, h2⟩ := h; rw [cell_at h1]; exact h2.cp t ht
theorem DeadAt.cl (h : DeadAt w p o D T n) (t : Nat) (ht : t < 17) : w.cell? ⟨p, o + t * 6 + 2, none⟩ = some (.int .i64 (T t).l) := by obtain ⟨cs, h1, h2⟩ := h; rw [cell_at h1]; exact h2.cl t ht
theorem DeadAt.cd (h : DeadAt w p o D T n) (t : Nat) (ht : t < 17) : w.cell? ⟨p, o + t * 6 + 3, none⟩ = some (.int .i64 (T t).d) := by obtain ⟨cs, h1, h2⟩ := h; rw [cell_at h1]; exact h2.cd t ht
theorem DeadAt.cr (h : DeadAt w p o D T n) (t : Nat) (ht : t < 17) : w.cell? ⟨p, o + t * 6 + 5, none⟩ = some (.bool (T t).r) := by obtain ⟨cs, h1, h2⟩ := h; rw [cell_at h1]; exact h2.cr t ht
theorem DeadAt.co (h : DeadAt w p o D T n) (t : Nat) (ht : t < 17) : w.cell? ⟨p, o + t * 6 + 4, none⟩ = some (.bool (T t).o) := by obtain ⟨cs, h1, h2⟩ := h; rw [cell_at h1]; exact h2.co t ht
theorem DeadAt.now (h : DeadAt w p o D T n) : w.cell? ⟨p, o + 102, none⟩ = some (.int .i64 n) := by obtain ⟨cs, h1, h2⟩ := h; rw [cell_at h1]; exact h2.now
end

/-- A function with another value at one place. -/
def upd {α : Type} (f : Nat → α) (k : Nat) (x : α) : Nat → α := fun j => if j = k then x else f j
theorem upd_same {α : Type} (f : Nat → α) (k : Nat) (x : α) : upd f k x k = x := by simp [upd]
theorem upd_other {α : Type} (f : Nat → α) {k j : Nat} (x : α) (h : j ≠ k) : upd f k x j = f j := by simp [upd, h]
theorem upd_upd {α : Type} (f : Nat → α) (k : Nat) (x y : α) : upd (upd f k x) k y = upd f k y := by
  funext j; unfold upd; split <;> simp_all
theorem upd_self {α : Type} (f : Nat → α) (k : Nat) : upd f k (f k) = f := by
  funext j; unfold upd; split <;> simp_all

section
variable {w : World} {p o D : Nat} {T : Tks} {n : Int}
theorem DeadAt.set_tb (h : DeadAt w p o D T n) (t : Nat) (ht : t < 17) (x : Int) : DeadAt (w.setCell ⟨p, o + t * 6, none⟩ (.int .i64 x)) p o D (upd T t ⟨x, (T t).p, (T t).l, (T t).d, (T t).r, (T t).o⟩) n := by
  obtain ⟨cs, h1, h2⟩ := h
  refine ⟨_, heap_setCell_same w p _ cs _ _ h1, by simpa using h2.size, ?_, ?_, ?_, ?_, ?_, ?_, ?_⟩ <;> (try intro j hj) <;> rw [Array.getElem?_setIfInBounds] <;> have hs := h2.size
  · by_cases e : j = t
    · subst e; rw [if_pos rfl, if_pos (by omega), upd_same]
    · rw [if_neg (by omega), upd_other _ _ e]; exact h2.cb j hj
  · rw [if_neg (by omega), h2.cp j hj]; unfold upd; split <;> simp_all
  · rw [if_neg (by omega), h2.cl j hj]; unfold upd; split <;> simp_all
  · rw [if_neg (by omega), h2.cd j hj]; unfold upd; split <;> simp_all
  · rw [if_neg (by omega), h2.cr j hj]; unfold upd; split <;> simp_all
  · rw [if_neg (by omega), h2.co j hj]; unfold upd; split <;> simp_all
  · rw [if_neg (by omega)]; exact h2.now
theorem DeadAt.set_tp (h : DeadAt w p o D T n) (t : Nat) (ht : t < 17) (x : Int) : DeadAt (w.setCell ⟨p, o + t * 6 + 1, none⟩ (.int .i64 x)) p o D (upd T t ⟨(T t).b, x, (T t).l, (T t).d, (T t).r, (T t).o⟩) n := by
  obtain ⟨cs, h1, h2⟩ := h
  refine ⟨_, heap_setCell_same w p _ cs _ _ h1, by simpa using h2.size, ?_, ?_, ?_, ?_, ?_, ?_, ?_⟩ <;> (try intro j hj) <;> rw [Array.getElem?_setIfInBounds] <;> have hs := h2.size
  · rw [if_neg (by omega), h2.cb j hj]; unfold upd; split <;> simp_all
  · by_cases e : j = t
    · subst e; rw [if_pos rfl, if_pos (by omega), upd_same]
    · rw [if_neg (by omega), upd_other _ _ e]; exact h2.cp j hj
  · rw [if_neg (by omega), h2.cl j hj]; unfold upd; split <;> simp_all
  · rw [if_neg (by omega), h2.cd j hj]; unfold upd; split <;> simp_all
  · rw [if_neg (by omega), h2.cr j hj]; unfold upd; split <;> simp_all
  · rw [if_neg (by omega), h2.co j hj]; unfold upd; split <;> simp_all
  · rw [if_neg (by omega)]; exact h2.now
theorem DeadAt.set_tl (h : DeadAt w p o D T n) (t : Nat) (ht : t < 17) (x : Int) : DeadAt (w.setCell ⟨p, o + t * 6 + 2, none⟩ (.int .i64 x)) p o D (upd T t ⟨(T t).b, (T t).p, x, (T t).d, (T t).r, (T t).o⟩) n := by
  obtain ⟨cs, h1, h2⟩ := h
  refine ⟨_, heap_setCell_same w p _ cs _ _ h1, by simpa using h2.size, ?_, ?_, ?_, ?_, ?_, ?_, ?_⟩ <;> (try intro j hj) <;> rw [Array.getElem?_setIfInBounds] <;> have hs := h2.size
  · rw [if_neg (by omega), h2.cb j hj]; unfold upd; split <;> simp_all
  · rw [if_neg (by omega), h2.cp j hj]; unfold upd; split <;> simp_all
  · by_cases e : j = t
    · subst e; rw [if_pos rfl, if_pos (by omega), upd_same]
    · rw [if_neg (by omega), upd_other _ _ e]; exact h2.cl j hj
  · rw [if_neg (by omega), h2.cd j hj]; unfold upd; split <;> simp_all
  · rw [if_neg (by omega), h2.cr j hj]; unfold upd; split <;> simp_all
  · rw [if_neg (by omega), h2.co j hj]; unfold upd; split <;> simp_all
  · rw [if_neg (by omega)]; exact h2.now
theorem DeadAt.set_td (h : DeadAt w p o D T n) (t : Nat) (ht : t < 17) (x : Int) : DeadAt (w.setCell ⟨p, o + t * 6 + 3, none⟩ (.int .i64 x)) p o D (upd T t ⟨(T t).b, (T t).p, (T t).l, x, (T t).r, (T t).o⟩) n := by
  obtain ⟨cs, h1, h2⟩ := h
  refine ⟨_, heap_setCell_same w p _ cs _ _ h1, by simpa using h2.size, ?_, ?_, ?_, ?_, ?_, ?_, ?_⟩ <;> (try intro j hj) <;> rw [Array.getElem?_setIfInBounds] <;> have hs := h2.size
  · rw [if_neg (by omega), h2.cb j hj]; unfold upd; split <;> simp_all
  · rw [if_neg (by omega), h2.cp j hj]; unfold upd; split <;> simp_all
  · rw [if_neg (by omega), h2.cl j hj]; unfold upd; split <;> simp_all
  · by_cases e : j = t
    · subst e; rw [if_pos rfl, if_pos (by omega), upd_same]
    · rw [if_neg (by omega), upd_other _ _ e]; exact h2.cd j hj
  · rw [if_neg (by omega), h2.cr j hj]; unfold upd; split <;> simp_all
  · rw [if_neg (by omega), h2.co j hj]; unfold upd; split <;> simp_all
  · rw [if_neg (by omega)]; exact h2.now
theorem DeadAt.set_tr (h : DeadAt w p o D T n) (t : Nat) (ht : t < 17) (x : Bool) : DeadAt (w.setCell ⟨p, o + t * 6 + 5, none⟩ (.bool x)) p o D (upd T t ⟨(T t).b, (T t).p, (T t).l, (T t).d, x, (T t).o⟩) n := by
  obtain ⟨cs, h1, h2⟩ := h
  refine ⟨_, heap_setCell_same w p _ cs _ _ h1, by simpa using h2.size, ?_, ?_, ?_, ?_, ?_, ?_, ?_⟩ <;> (try intro j hj) <;> rw [Array.getElem?_setIfInBounds] <;> have hs := h2.size
  · rw [if_neg (by omega), h2.cb j hj]; unfold upd; split <;> simp_all
  · rw [if_neg (by omega), h2.cp j hj]; unfold upd; split <;> simp_all
  · rw [if_neg (by omega), h2.cl j hj]; unfold upd; split <;> simp_all
  · rw [if_neg (by omega), h2.cd j hj]; unfold upd; split <;> simp_all
  · by_cases e : j = t
    · subst e; rw [if_pos rfl, if_pos (by omega), upd_same]
    · rw [if_neg (by omega), upd_other _ _ e]; exact h2.cr j hj
  · rw [if_neg (by omega), h2.co j hj]; unfold upd; split <;> simp_all
  · rw [if_neg (by omega)]; exact h2.now
theorem DeadAt.set_to (h : DeadAt w p o D T n) (t : Nat) (ht : t < 17) (x : Bool) : DeadAt (w.setCell ⟨p, o + t * 6 + 4, none⟩ (.bool x)) p o D (upd T t ⟨(T t).b, (T t).p, (T t).l, (T t).d, (T t).r, x⟩) n := by
  obtain ⟨cs, h1, h2⟩ := h
  refine ⟨_, heap_setCell_same w p _ cs _ _ h1, by simpa using h2.size, ?_, ?_, ?_, ?_, ?_, ?_, ?_⟩ <;> (try intro j hj) <;> rw [Array.getElem?_setIfInBounds] <;> have hs := h2.size
  · rw [if_neg (by omega), h2.cb j hj]; unfold upd; split <;> simp_all
  · rw [if_neg (by omega), h2.cp j hj]; unfold upd; split <;> simp_all
  · rw [if_neg (by omega), h2.cl j hj]; unfold upd; split <;> simp_all
  · rw [if_neg (by omega), h2.cd j hj]; unfold upd; split <;> simp_all
  · rw [if_neg (by omega), h2.cr j hj]; unfold upd; split <;> simp_all
  · by_cases e : j = t
    · subst e; rw [if_pos rfl, if_pos (by omega), upd_same]
    · rw [if_neg (by omega), upd_other _ _ e]; exact h2.co j hj
  · rw [if_neg (by omega)]; exact h2.now
theorem DeadAt.set_now (h : DeadAt w p o D T n) (x : Int) : DeadAt (w.setCell ⟨p, o + 102, none⟩ (.int .i64 x)) p o D T x := by
  obtain ⟨cs, h1, h2⟩ := h
  refine ⟨_, heap_setCell_same w p _ cs _ _ h1, by simpa using h2.size, ?_, ?_, ?_, ?_, ?_, ?_, ?_⟩ <;> (try intro j hj) <;> rw [Array.getElem?_setIfInBounds] <;> have hs := h2.size
  · rw [if_neg (by omega)]; exact h2.cb j hj
  · rw [if_neg (by omega)]; exact h2.cp j hj
  · rw [if_neg (by omega)]; exact h2.cl j hj
  · rw [if_neg (by omega)]; exact h2.cd j hj
  · rw [if_neg (by omega)]; exact h2.cr j hj
  · rw [if_neg (by omega)]; exact h2.co j hj
  · rw [if_pos rfl, if_pos (by omega)]
end

/-- A task whose budget is filled for a period from s on. -/
def fill (x : Tk) (s : Int) : Tk := ⟨x.b, x.p, x.b, s + x.p, x.r, false⟩
/-- A task that used a tick. -/
def use (x : Tk) : Tk := ⟨x.b, x.p, x.l - 1, x.d, x.r, x.l - 1 == 0⟩
/-- May it not keep what it has left? -/
def Stale (x : Tk) (n : Int) : Prop := x.d ≤ n ∨ x.b * (x.d - n) < x.l * x.p
instance (x : Tk) (n : Int) : Decidable (Stale x n) := by unfold Stale; exact inferInstance
/-- A task behind its waking up. -/
def woke (x : Tk) (n : Int) : Tk := if x.o = false ∧ Stale x n then fill ⟨x.b, x.p, x.l, x.d, true, x.o⟩ n else ⟨x.b, x.p, x.l, x.d, true, x.o⟩
/-- A task behind a tick. -/
def again (x : Tk) (n : Int) : Tk := if x.o = true ∧ x.d ≤ n then fill x x.d else x
/-- The tasks behind a tick, as far as k. -/
def pastTo (T : Tks) (n : Int) (k : Nat) : Tks := fun j => if j < k then again (T j) n else T j
/-- Who goes next, as far as k. -/
def pickTo (T : Tks) : Nat → Nat
  | 0 => 0
  | k + 1 => if (T k).r = true ∧ (T k).o = false ∧ (pickTo T k = 0 ∨ (T k).d < (T (pickTo T k)).d) then k else pickTo T k
/-- Who goes next; 0: nobody. -/
def pick (T : Tks) : Nat := pickTo T 17

theorem pickTo_lt (T : Tks) (k : Nat) : pickTo T k ≤ k - 1 := by
  induction k with
  | zero => simp [pickTo]
  | succ k ih => unfold pickTo; split <;> omega
theorem pick_lt (T : Tks) : pick T < 17 := by have := pickTo_lt T 17; unfold pick; omega

/-- The tasks behind a tick that none of them has. -/
def past (T : Tks) (n : Int) : Tks := pastTo T (n + 1) 17
/-- The tasks behind a tick. -/
def tick (T : Tks) (n : Int) : Tks := if pick T = 0 then past T n else past (upd T (pick T) (use (T (pick T)))) n

/-- All that is in bounds. -/
structure Fit (T : Tks) (B : Int) : Prop where
  b : ∀ t, t < 17 → 0 ≤ (T t).b ∧ (T t).b ≤ (T t).p
  p : ∀ t, t < 17 → (T t).p ≤ 30
  l : ∀ t, t < 17 → 0 ≤ (T t).l ∧ (T t).l ≤ (T t).b
  d : ∀ t, t < 17 → 0 ≤ (T t).d ∧ (T t).d ≤ B + 30
  no : (T 0).p = 0
  rp : ∀ t, t < 17 → (T t).r = true → (T t).p ≠ 0
  bp : ∀ t, t < 17 → (T t).p ≠ 0 → 1 ≤ (T t).b
  lo : ∀ t, t < 17 → (T t).p ≠ 0 → ((T t).o = true ↔ (T t).l = 0)

/-- Is this the number of a task that is there? -/
def isTask (T : Tks) (t : Int) : Prop := 1 ≤ t ∧ t ≤ 16 ∧ (T t.toNat).p ≠ 0
instance (T : Tks) (t : Int) : Decidable (isTask T t) := by unfold isTask; exact inferInstance
end Go.Proofs.YtpincdcebhmnhaaGreat.De
/- Contracts of package dead: find, fill, use, stale. -/
namespace Go.Proofs.YtpincdcebhmnhaaGreat.De
open Go.ChangeShapes Go.WideShapes Go.ChangeAt Go.RowKit Go.Maps
set_option linter.unusedVariables false

section
variable {w : World} {p o D : Nat} {T : Tks} {n : Int}

theorem find_yes (h : DeadAt w p o D T n) (t : Nat) (h1 : 1 ≤ t) (h2 : t ≤ 16) (hc : (T t).p ≠ 0) :
    Calls Tryz.prog 59 #[.pointer (some ⟨p, o, none⟩), .int .i64 t] w fun e w' => e = .returned (.pointer (some ⟨p, o + t * 6, none⟩)) ∧ w = w' := by
  have c0 := h.cp t (by omega)
  have h3 : ¬ (t : Int) < 1 := by omega
  have h4 : ¬ 16 < (t : Int) := by omega
  have h5 : (t : Int) < 17 := by omega
  have hc' : ((T t).p == 0) = false := by simpa using hc
  clear h hc
  go_enter Tryz.func59, Tryz.ntmps59
  go_wp2
  go_ret
  exact ⟨rfl, rfl⟩

theorem find_no (h : DeadAt w p o D T n) (t : Int) (ht : ¬ isTask T t) :
    Calls Tryz.prog 59 #[.pointer (some ⟨p, o, none⟩), .int .i64 t] w fun e w' => e = .returned (.pointer none) ∧ w = w' := by
  by_cases h2 : t < 1
  · clear ht
    go_enter Tryz.func59, Tryz.ntmps59
    go_wp2
    go_ret
    exact ⟨rfl, rfl⟩
  · by_cases h3 : 16 < t
    · clear ht
      go_enter Tryz.func59, Tryz.ntmps59
      go_wp2
      go_ret
      exact ⟨rfl, rfl⟩
    · obtain ⟨t, rfl⟩ : ∃ k : Nat, t = k := ⟨t.toNat, by omega⟩
      have hc : (T t).p = 0 := by
        apply Decidable.byContradiction; intro hc; exact ht ⟨by omega, by omega, by simpa using hc⟩
      have c0 := h.cp t (by omega)
      rw [hc] at c0
      have h5 : (t : Int) < 17 := by omega
      clear h hc ht
      go_enter Tryz.func59, Tryz.ntmps59
      go_wp2
      go_ret
      exact ⟨rfl, rfl⟩

theorem only_set1 {w w2 : World} {p o : Nat} (h : Within p o 103 w w2) (i : Nat) (u : Value) (hi : i < 103 := by omega) : Within p o 103 w (w2.setCell ⟨p, o + i, none⟩ u) := h.setCell (by omega) u
theorem only_set2 {w w2 : World} {p o : Nat} (h : Within p o 103 w w2) (i j : Nat) (u v : Value) (hi : i < 103 := by omega) (hj : j < 103 := by omega) : Within p o 103 w ((w2.setCell ⟨p, o + i, none⟩ u).setCell ⟨p, o + j, none⟩ v) :=
  only_set1 (only_set1 h i u hi) j v hj
theorem only_set3 {w w2 : World} {p o : Nat} (h : Within p o 103 w w2) (i j k : Nat) (u v x : Value) (hi : i < 103 := by omega) (hj : j < 103 := by omega) (hk : k < 103 := by omega) : Within p o 103 w (((w2.setCell ⟨p, o + i, none⟩ u).setCell ⟨p, o + j, none⟩ v).setCell ⟨p, o + k, none⟩ x) :=
  only_set1 (only_set2 h i j u v hi hj) k x hk

/-- What is known behind a call that changes a class. -/
def DKeep (w : World) (p o D : Nat) (v : Value) (T : Tks) (n : Int) (e : Ending) (w' : World) : Prop := e = .returned v ∧ DeadAt w' p o D T n ∧ Within p o 103 w w'

theorem fill_any (h : DeadAt w p o D T n) (t : Nat) (ht : t < 17) (s : Int) (h1 : 0 ≤ s) (h2 : s ≤ 9000000000000000000) (p1 : 0 ≤ (T t).p) (p2 : (T t).p ≤ 30) :
    Calls Tryz.prog 74 #[.pointer (some ⟨p, o + t * 6, none⟩), .int .i64 s] w (DKeep w p o D (.tuple #[]) (upd T t (fill (T t) s)) n) := by
  have H := Lib.hid h
  have cb := h.cb t ht
  have cp := h.cp t ht
  have cl := h.cl t ht
  have cd := h.cd t ht
  have co := h.co t ht
  have fz := h.frozen
  clear h
  go_enter Tryz.func74, Tryz.ntmps74
  go_wp2
  go_end0
  refine ⟨rfl, ?_, only_set3 (Within.refl _ _ _ _) (t * 6 + 2) (t * 6 + 3) (t * 6 + 4) _ _ _⟩
  have := ((H.out.set_tl t ht (T t).b).set_td t ht (s + (T t).p)).set_to t ht false
  simp only [upd_upd, upd_same] at this
  exact this

theorem use_any (h : DeadAt w p o D T n) (t : Nat) (ht : t < 17) (ho : (T t).o = false) (p1 : 0 ≤ (T t).l) (p2 : (T t).l ≤ 30) :
    Calls Tryz.prog 56 #[.pointer (some ⟨p, o + t * 6, none⟩)] w (DKeep w p o D (.tuple #[]) (upd T t (use (T t))) n) := by
  have H := Lib.hid h
  have cl := h.cl t ht
  have co := h.co t ht
  rw [ho] at co
  have fz := h.frozen
  clear h ho
  go_enter Tryz.func56, Tryz.ntmps56
  go_wp2
  go_end0
  refine ⟨rfl, ?_, only_set2 (Within.refl _ _ _ _) (t * 6 + 2) (t * 6 + 4) _ _⟩
  have := (H.out.set_tl t ht ((T t).l - 1)).set_to t ht ((T t).l - 1 == 0)
  simp only [upd_upd, upd_same] at this
  exact this

theorem mul_bd (a b : Int) (h1 : 0 ≤ a) (h2 : a ≤ 30) (h3 : 0 ≤ b) (h4 : b ≤ 9000000000000000) : 0 ≤ a * b ∧ a * b ≤ 300000000000000000 :=
  ⟨Int.mul_nonneg h1 h3, Int.le_trans (Int.mul_le_mul h2 h4 h3 (by omega)) (by omega)⟩

theorem stale_any (h : DeadAt w p o D T n) (t : Nat) (ht : t < 17) (n0 : 0 ≤ n) (d1 : (T t).d ≤ 9000000000000000) (b1 : 0 ≤ (T t).b) (b2 : (T t).b ≤ 30) (l1 : 0 ≤ (T t).l) (l2 : (T t).l ≤ 30) (p1 : 0 ≤ (T t).p) (p2 : (T t).p ≤ 30) :
    Calls Tryz.prog 133 #[.pointer (some ⟨p, o + t * 6, none⟩), .int .i64 n] w fun e w' => e = .returned (.bool (decide (Stale (T t) n))) ∧ Only (fun _ => False) w w' := by
  have cb := h.cb t ht
  have cp := h.cp t ht
  have cl := h.cl t ht
  have cd := h.cd t ht
  have m1 := mul_bd (T t).l (T t).p l1 l2 p1 (by omega)
  have HS : Hid (Stale (T t) n ↔ ((T t).d ≤ n ∨ (T t).b * ((T t).d - n) < (T t).l * (T t).p)) := Lib.hid Iff.rfl
  clear h
  by_cases h1 : (T t).d ≤ n
  · have e : decide (Stale (T t) n) = true := decide_eq_true (HS.out.mpr (Or.inl h1))
    rw [e]
    have hd : decide ((T t).d ≤ n) = true := decide_eq_true h1
    clear HS e
    go_enter Tryz.func133, Tryz.ntmps133
    go_wp2_with fail
    go_quiet (fail)
    go_wp2_with fail
    go_ret
    exact ⟨rfl, only_drewN (Only.refl _ _) _⟩
  · have hd : decide ((T t).d ≤ n) = false := decide_eq_false h1
    have m2 := mul_bd (T t).b ((T t).d - n) b1 b2 (by omega) (by omega)
    have e : decide (Stale (T t) n) = decide ((T t).b * ((T t).d - n) < (T t).l * (T t).p) := decide_eq_decide.mpr ⟨fun q => (HS.out.mp q).resolve_left h1, fun q => HS.out.mpr (Or.inr q)⟩
    rw [e]
    clear HS e
    go_enter Tryz.func133, Tryz.ntmps133
    go_wp2_with fail
    go_quiet (fail)
    go_wp2_with fail
    go_ret
    exact ⟨rfl, only_drewN (Only.refl _ _) _⟩

/-- A task whose time has come on: what Wake leaves of its reservation. -/
def wokeR (x : Tk) (n : Int) : Tk := if x.o = false ∧ Stale x n then fill x n else x
theorem wakeR_any (h : DeadAt w p o D T n) (t : Nat) (ht : t < 17) (n0 : 0 ≤ n) (n1 : n ≤ 9000000000000000) (d1 : (T t).d ≤ 9000000000000000) (b1 : 0 ≤ (T t).b) (b2 : (T t).b ≤ 30) (l1 : 0 ≤ (T t).l) (l2 : (T t).l ≤ 30) (p1 : 0 ≤ (T t).p) (p2 : (T t).p ≤ 30) :
    Calls Tryz.prog 132 #[.pointer (some ⟨p, o + t * 6, none⟩), .int .i64 n] w (DKeep w p o D (.tuple #[]) (upd T t (wokeR (T t) n)) n) := by
  have H := Lib.hid h
  have co := h.co t ht
  have hst := Lib.hid (stale_any h t ht n0 d1 b1 b2 l1 l2 p1 p2)
  have hf := Lib.hid (fun (W : World) (h : DeadAt W p o D T n) => fill_any h t ht n n0 (by omega) p1 p2)
  clear h
  cases ho : (T t).o with
  | true =>
    rw [ho] at co
    have e : wokeR (T t) n = T t := by unfold wokeR; rw [if_neg (by rw [ho]; simp)]
    rw [e, upd_self]
    clear e ho hst hf
    go_enter Tryz.func132, Tryz.ntmps132
    go_wp2
    go_end0
    exact ⟨rfl, H.out, Within.refl _ _ _ _⟩
  | false =>
    rw [ho] at co
    by_cases hs : Stale (T t) n
    · have e : wokeR (T t) n = fill (T t) n := by unfold wokeR; rw [if_pos ⟨ho, hs⟩]
      rw [e]
      rw [decide_eq_true hs] at hst
      clear e ho hs
      go_enter Tryz.func132, Tryz.ntmps132
      go_wp2_with (first
        | (go_at_call 133; (with_reducible refine hst.out.mono ?_); rintro e w1 ⟨rfl, hO⟩; have H1 := Lib.hid (H.out.later hO); have O1 := Lib.hid hO; clear hO)
        | (go_at_call 74; (with_reducible refine (hf.out _ H1.out).mono ?_); rintro e w2 ⟨rfl, hF, hO⟩; have H2 := Lib.hid hF; have O2 := Lib.hid hO; clear hF hO))
      go_end0
      exact ⟨rfl, H2.out, (Within.of H.out.lt O1.out).trans O2.out (fun _ _ h => h)⟩
    · have e : wokeR (T t) n = T t := by unfold wokeR; rw [if_neg (fun q => hs q.2)]
      rw [e, upd_self]
      rw [decide_eq_false hs] at hst
      clear e ho hs hf
      go_enter Tryz.func132, Tryz.ntmps132
      go_wp2_with (go_at_call 133; (with_reducible refine hst.out.mono ?_); rintro e w1 ⟨rfl, hO⟩; have H1 := Lib.hid (H.out.later hO); have O1 := Lib.hid hO; clear hO)
      go_end0
      exact ⟨rfl, H1.out, Within.of H.out.lt O1.out⟩

theorem passR_any (h : DeadAt w p o D T n) (t : Nat) (ht : t < 17) (m : Int) (d0 : 0 ≤ (T t).d) (d1 : (T t).d ≤ 9000000000000000000) (p0 : 0 ≤ (T t).p) (p1 : (T t).p ≤ 30) :
    Calls Tryz.prog 58 #[.pointer (some ⟨p, o + t * 6, none⟩), .int .i64 m] w (DKeep w p o D (.tuple #[]) (upd T t (again (T t) m)) n) := by
  have H := Lib.hid h
  have co := h.co t ht
  have cd := h.cd t ht
  have hf := Lib.hid (fun (W : World) (h : DeadAt W p o D T n) => fill_any h t ht (T t).d d0 d1 p0 p1)
  clear h
  cases ho : (T t).o with
  | false =>
    rw [ho] at co
    have e : again (T t) m = T t := by unfold again; rw [if_neg (by rw [ho]; simp)]
    rw [e, upd_self]
    clear e ho hf
    go_enter Tryz.func58, Tryz.ntmps58
    go_wp2
    go_end0
    exact ⟨rfl, H.out, Within.refl _ _ _ _⟩
  | true =>
    rw [ho] at co
    by_cases hs : (T t).d ≤ m
    · have e : again (T t) m = fill (T t) (T t).d := by unfold again; rw [if_pos ⟨ho, hs⟩]
      rw [e]
      have hd : decide ((T t).d ≤ m) = true := decide_eq_true hs
      clear e ho hs
      go_enter Tryz.func58, Tryz.ntmps58
      go_wp2_with (go_at_call 74; (with_reducible refine (hf.out _ H.out).mono ?_); rintro e w2 ⟨rfl, hF, hO⟩; have H2 := Lib.hid hF; have O2 := Lib.hid hO; clear hF hO)
      go_end0
      exact ⟨rfl, H2.out, O2.out⟩
    · have e : again (T t) m = T t := by unfold again; rw [if_neg (fun q => hs q.2)]
      rw [e, upd_self]
      have hd : decide ((T t).d ≤ m) = false := decide_eq_false hs
      clear e ho hs hf
      go_enter Tryz.func58, Tryz.ntmps58
      go_wp2
      go_end0
      exact ⟨rfl, H.out, Within.refl _ _ _ _⟩
end
end Go.Proofs.YtpincdcebhmnhaaGreat.De
