/- Texts of this claim, merged: ODe, ODFind, ODPick, ODPass, ODPure, ODOps, Ints, Append, One. -/
import Derived.Test.YtckaebpcghaobaaGreatM01
import Derived.IntWalk
import Derived.Laws.Rows
/- A class of deadlines in memory: tasks by their numbers, and the time. -/
namespace Go.Proofs.YtckaebpcghaobaaGreat.De
open Go.ChangeShapes Go.WideShapes Go.ChangeAt Go.RowKit Go.Maps
set_option linter.unusedVariables false

/-- A task: its budget, its period (0: there is none), what is left, when it is due, is it ready, is it out? -/
structure Tk where
  b : Int
  p : Int
  l : Int
  d : Int
  r : Bool
  o : Bool

abbrev Tks := Nat → Tk

/-- The cells of a class. -/
structure Cells (o : Nat) (cs : Array Value) (T : Tks) (n : Int) : Prop where
  size : o + 103 ≤ cs.size
  cb : ∀ t, t < 17 → cs[o + t * 6]? = some (.int .i64 (T t).b)
  cp : ∀ t, t < 17 → cs[o + t * 6 + 1]? = some (.int .i64 (T t).p)
  cl : ∀ t, t < 17 → cs[o + t * 6 + 2]? = some (.int .i64 (T t).l)
  cd : ∀ t, t < 17 → cs[o + t * 6 + 3]? = some (.int .i64 (T t).d)
  cr : ∀ t, t < 17 → cs[o + t * 6 + 4]? = some (.bool (T t).r)
  co : ∀ t, t < 17 → cs[o + t * 6 + 5]? = some (.bool (T t).o)
  now : cs[o + 102]? = some (.int .i64 n)

/-- A class in block p. -/
def DeadAt (w : World) (p o D : Nat) (T : Tks) (n : Int) : Prop := ∃ cs, w.heap[p]? = some (.cells cs D (0, 0)) ∧ Cells o cs T n

section
variable {w w' : World} {p o D : Nat} {T : Tks} {n : Int}
theorem DeadAt.keep {S : Nat → Prop} (h : DeadAt w p o D T n) (hO : Only S w w') (hS : ¬ S p) : DeadAt w' p o D T n := by
  obtain ⟨cs, h1, h2⟩ := h
  exact ⟨cs, by rw [hO.block p (block_there h1) hS]; exact h1, h2⟩
theorem DeadAt.later (h : DeadAt w p o D T n) (hO : Only (fun _ => False) w w') : DeadAt w' p o D T n := h.keep hO id
theorem DeadAt.lt (h : DeadAt w p o D T n) : p < w.heap.size := by obtain ⟨cs, h1, -⟩ := h; exact block_there h1
theorem DeadAt.frozen (h : DeadAt w p o D T n) (j : Nat) : w.frozen? ⟨p, j, none⟩ = false := by obtain ⟨cs, h1, -⟩ := h; exact frozen_at h1 j
theorem DeadAt.cb (h : DeadAt w p o D T n) (t : Nat) (ht : t < 17) : w.cell? ⟨p, o + t * 6, none⟩ = some (.int .i64 (T t).b) := by obtain ⟨cs, h1, h2⟩ := h; rw [cell_at h1]; exact h2.cb t ht
theorem DeadAt.cp (h : DeadAt w p o D T n) (t : Nat) (ht : t < 17) : w.cell? ⟨p, o + t * 6 + 1, none⟩ = some (.int .i64 (T t).p) := by obtain ⟨cs, h1, h2⟩ := h; rw [cell_at h1]; exact h2.cp t ht
theorem DeadAt.cl (h : DeadAt w p o D T n) (t : Nat) (ht : t < 17) : w.cell? ⟨p, o + t * 6 + 2, none⟩ = some (.int .i64 (T t).l) := by obtain ⟨cs, h1, h2⟩ := h; rw [cell_at h1]; exact h2.cl t ht
theorem DeadAt.cd (h : DeadAt w p o D T n) (t : Nat) (ht : t < 17) : w.cell? ⟨p, o + t * 6 + 3, none⟩ = some (.int .i64 (T t).d) := by obtain ⟨cs, h1, h2⟩ := h; rw [cell_at h1]; exact h2.cd t ht
theorem DeadAt.cr (h : DeadAt w p o D T n) (t : Nat) (ht : t < 17) : w.cell? ⟨p, o + t * 6 + 4, none⟩ = some (.bool (T t).r) := by obtain ⟨cs, h1, h2⟩ := h; rw [cell_at h1]; exact h2.cr t ht
theorem DeadAt.co (h : DeadAt w p o D T n) (t : Nat) (ht : t < 17) : w.cell? ⟨p, o + t * 6 + 5, none⟩ = some (.bool (T t).o) := by obtain ⟨cs, h1, h2⟩ := h; rw [cell_at h1]; exact h2.co t ht
theorem DeadAt.now (h : DeadAt w p o D T n) : w.cell? ⟨p, o + 102, none⟩ = some (.int .i64 n) := by obtain ⟨cs, h1, h2⟩ := h; rw [cell_at h1]; exact h2.now
end

/-- A function with another value at one place. -/
def upd {α : Type} (f : Nat → α) (k : Nat) (x : α) : Nat → α := fun j => if j = k then x else f j
theorem upd_same {α : Type} (f : Nat → α) (k : Nat) (x : α) : upd f k x k = x := by simp [upd]
theorem upd_other {α : Type} (f : Nat → α) {k j : Nat} (x : α) (h : j ≠ k) : upd f k x j = f j := by simp [upd, h]
theorem upd_upd {α : Type} (f : Nat → α) (k : Nat) (x y : α) : upd (upd f k x) k y = upd f k y := by
  funext j; unfold upd; split <;> simp_all
theorem upd_self {α : Type} (f : Nat → α) (k : Nat) : upd f k (f k) = f := by
  funext j; unfold upd; split <;> simp_all

section
variable {w : World} {p o D : Nat} {T : Tks} {n : Int}
theorem DeadAt.set_tb (h : DeadAt w p o D T n) (t : Nat) (ht : t < 17) (x : Int) : DeadAt (w.setCell ⟨p, o + t * 6, none⟩ (.int .i64 x)) p o D (upd T t ⟨x, (T t).p, (T t).l, (T t).d, (T t).r, (T t).o⟩) n := by
  obtain ⟨cs, h1, h2⟩ := h
  refine ⟨_, heap_setCell_same w p _ cs _ _ h1, by simpa using h2.size, ?_, ?_, ?_, ?_, ?_, ?_, ?_⟩ <;> (try intro j hj) <;> rw [Array.getElem?_setIfInBounds] <;> have hs := h2.size
  · by_cases e : j = t
    · subst e; rw [if_pos rfl, if_pos (by omega), upd_same]
    · rw [if_neg (by omega), upd_other _ _ e]; exact h2.cb j hj
  · rw [if_neg (by omega), h2.cp j hj]; unfold upd; split <;> simp_all
  · rw [if_neg (by omega), h2.cl j hj]; unfold upd; split <;> simp_all
  · rw [if_neg (by omega), h2.cd j hj]; unfold upd; split <;> simp_all
  · rw [if_neg (by omega), h2.cr j hj]; unfold upd; split <;> simp_all
  · rw [if_neg (by omega), h2.co j hj]; unfold upd; split <;> simp_all
  · rw [if_neg (by omega)]; exact h2.now
theorem DeadAt.set_tp (h : DeadAt w p o D T n) (t : Nat) (ht : t < 17) (x : Int) : DeadAt (w.setCell ⟨p, o + t * 6 + 1, none⟩ (.int .i64 x)) p o D (upd T t ⟨(T t).b, x, (T t).l, (T t).d, (T t).r, (T t).o⟩) n := by
  obtain ⟨cs, h1, h2⟩ := h
  refine ⟨_, heap_setCell_same w p _ cs _ _ h1, by simpa using h2.size, ?_, ?_, ?_, ?_, ?_, ?_, ?_⟩ <;> (try intro j hj) <;> rw [Array.getElem?_setIfInBounds] <;> have hs := h2.size
  · rw [if_neg (by omega), h2.cb j hj]; unfold upd; split <;> simp_all
  · by_cases e : j = t
    · subst e; rw [if_pos rfl, if_pos (by omega), upd_same]
    · rw [if_neg (by omega), upd_other _ _ e]; exact h2.cp j hj
  · rw [if_neg (by omega), h2.cl j hj]; unfold upd; split <;> simp_all
  · rw [if_neg (by omega), h2.cd j hj]; unfold upd; split <;> simp_all
  · rw [if_neg (by omega), h2.cr j hj]; unfold upd; split <;> simp_all
  · rw [if_neg (by omega), h2.co j hj]; unfold upd; split <;> simp_all
  · rw [if_neg (by omega)]; exact h2.now
theorem DeadAt.set_tl (h : DeadAt w p o D T n) (t : Nat) (ht : t < 17) (x : Int) : DeadAt (w.setCell ⟨p, o + t * 6 + 2, none⟩ (.int .i64 x)) p o D (upd T t ⟨(T t).b, (T t).p, x, (T t).d, (T t).r, (T t).o⟩) n := by
  obtain ⟨cs, h1, h2⟩ := h
  refine ⟨_, heap_setCell_same w p _ cs _ _ h1, by simpa using h2.size, ?_, ?_, ?_, ?_, ?_, ?_, ?_⟩ <;> (try intro j hj) <;> rw [Array.getElem?_setIfInBounds] <;> have hs := h2.size
  · rw [if_neg (by omega), h2.cb j hj]; unfold upd; split <;> simp_all
  · rw [if_neg (by omega), h2.cp j hj]; unfold upd; split <;> simp_all
  · by_cases e : j = t
    · subst e; rw [if_pos rfl, if_pos (by omega), upd_same]
    · rw [if_neg (by omega), upd_other _ _ e]; exact h2.cl j hj
  · rw [if_neg (by omega), h2.cd j hj]; unfold upd; split <;> simp_all
  · rw [if_neg (by omega), h2.cr j hj]; unfold upd; split <;> simp_all
  · rw [if_neg (by omega), h2.co j hj]; unfold upd; split <;> simp_all
  · rw [if_neg (by omega)]; exact h2.now
theorem DeadAt.set_td (h : DeadAt w p o D T n) (t : Nat) (ht : t < 17) (x : Int) : DeadAt (w.setCell ⟨p, o + t * 6 + 3, none⟩ (.int .i64 x)) p o D (upd T t ⟨(T t).b, (T t).p, (T t).l, x, (T t).r, (T t).o⟩) n := by
  obtain ⟨cs, h1, h2⟩ := h
  refine ⟨_, heap_setCell_same w p _ cs _ _ h1, by simpa using h2.size, ?_, ?_, ?_, ?_, ?_, ?_, ?_⟩ <;> (try intro j hj) <;> rw [Array.getElem?_setIfInBounds] <;> have hs := h2.size
  · rw [if_neg (by omega), h2.cb j hj]; unfold upd; split <;> simp_all
  · rw [if_neg (by omega), h2.cp j hj]; unfold upd; split <;> simp_all
  · rw [if_neg (by omega), h2.cl j hj]; unfold upd; split <;> simp_all
  · by_cases e : j = t
    · subst e; rw [if_pos rfl, if_pos (by omega), upd_same]
    · rw [if_neg (by omega), upd_other _ _ e]; exact h2.cd j hj
  · rw [if_neg (by omega), h2.cr j hj]; unfold upd; split <;> simp_all
  · rw [if_neg (by omega), h2.co j hj]; unfold upd; split <;> simp_all
  · rw [if_neg (by omega)]; exact h2.now
theorem DeadAt.set_tr (h : DeadAt w p o D T n) (t : Nat) (ht : t < 17) (x : Bool) : DeadAt (w.setCell ⟨p, o + t * 6 + 4, none⟩ (.bool x)) p o D (upd T t ⟨(T t).b, (T t).p, (T t).l, (T t).d, x, (T t).o⟩) n := by
  obtain ⟨cs, h1, h2⟩ := h
  refine ⟨_, heap_setCell_same w p _ cs _ _ h1, by simpa using h2.size, ?_, ?_, ?_, ?_, ?_, ?_, ?_⟩ <;> (try intro j hj) <;> rw [Array.getElem?_setIfInBounds] <;> have hs := h2.size
  · rw [if_neg (by omega), h2.cb j hj]; unfold upd; split <;> simp_all
  · rw [if_neg (by omega), h2.cp j hj]; unfold upd; split <;> simp_all
  · rw [if_neg (by omega), h2.cl j hj]; unfold upd; split <;> simp_all
  · rw [if_neg (by omega), h2.cd j hj]; unfold upd; split <;> simp_all
  · by_cases e : j = t
    · subst e; rw [if_pos rfl, if_pos (by omega), upd_same]
    · rw [if_neg (by omega), upd_other _ _ e]; exact h2.cr j hj
  · rw [if_neg (by omega), h2.co j hj]; unfold upd; split <;> simp_all
  · rw [if_neg (by omega)]; exact h2.now
theorem DeadAt.set_to (h : DeadAt w p o D T n) (t : Nat) (ht : t < 17) (x : Bool) : DeadAt (w.setCell ⟨p, o + t * 6 + 5, none⟩ (.bool x)) p o D (upd T t ⟨(T t).b, (T t).p, (T t).l, (T t).d, (T t).r, x⟩) n := by
  obtain ⟨cs, h1, h2⟩ := h
  refine ⟨_, heap_setCell_same w p _ cs _ _ h1, by simpa using h2.size, ?_, ?_, ?_, ?_, ?_, ?_, ?_⟩ <;> (try intro j hj) <;> rw [Array.getElem?_setIfInBounds] <;> have hs := h2.size
  · rw [if_neg (by omega), h2.cb j hj]; unfold upd; split <;> simp_all
  · rw [if_neg (by omega), h2.cp j hj]; unfold upd; split <;> simp_all
  · rw [if_neg (by omega), h2.cl j hj]; unfold upd; split <;> simp_all
  · rw [if_neg (by omega), h2.cd j hj]; unfold upd; split <;> simp_all
  · rw [if_neg (by omega), h2.cr j hj]; unfold upd; split <;> simp_all
  · by_cases e : j = t
    · subst e; rw [if_pos rfl, if_pos (by omega), upd_same]
    · rw [if_neg (by omega), upd_other _ _ e]; exact h2.co j hj
  · rw [if_neg (by omega)]; exact h2.now
theorem DeadAt.set_now (h : DeadAt w p o D T n) (x : Int) : DeadAt (w.setCell ⟨p, o + 102, none⟩ (.int .i64 x)) p o D T x := by
  obtain ⟨cs, h1, h2⟩ := h
  refine ⟨_, heap_setCell_same w p _ cs _ _ h1, by simpa using h2.size, ?_, ?_, ?_, ?_, ?_, ?_, ?_⟩ <;> (try intro j hj) <;> rw [Array.getElem?_setIfInBounds] <;> have hs := h2.size
  · rw [if_neg (by omega)]; exact h2.cb j hj
  · rw [if_neg (by omega)]; exact h2.cp j hj
  · rw [if_neg (by omega)]; exact h2.cl j hj
  · rw [if_neg (by omega)]; exact h2.cd j hj
  · rw [if_neg (by omega)]; exact h2.cr j hj
  · rw [if_neg (by omega)]; exact h2.co j hj
  · rw [if_pos rfl, if_pos (by omega)]
end

/-- A task whose budget is filled for a period from s on. -/
def fill (x : Tk) (s : Int) : Tk := ⟨x.b, x.p, x.b, s + x.p, x.r, false⟩
/-- A task that used a tick. -/
def use (x : Tk) : Tk := ⟨x.b, x.p, x.l - 1, x.d, x.r, x.l - 1 == 0⟩
/-- May it not keep what it has left? -/
def Stale (x : Tk) (n : Int) : Prop := x.d ≤ n ∨ x.b * (x.d - n) < x.l * x.p
instance (x : Tk) (n : Int) : Decidable (Stale x n) := by unfold Stale; exact inferInstance
/-- A task behind its waking up. -/
def woke (x : Tk) (n : Int) : Tk := if x.o = false ∧ Stale x n then fill ⟨x.b, x.p, x.l, x.d, true, x.o⟩ n else ⟨x.b, x.p, x.l, x.d, true, x.o⟩
/-- A task behind a tick. -/
def again (x : Tk) (n : Int) : Tk := if x.o = true ∧ x.d ≤ n then fill x x.d else x
/-- The tasks behind a tick, as far as k. -/
def pastTo (T : Tks) (n : Int) (k : Nat) : Tks := fun j => if j < k then again (T j) n else T j
/-- Who goes next, as far as k. -/
def pickTo (T : Tks) : Nat → Nat
  | 0 => 0
  | k + 1 => if (T k).r = true ∧ (T k).o = false ∧ (pickTo T k = 0 ∨ (T k).d < (T (pickTo T k)).d) then k else pickTo T k
/-- Who goes next; 0: nobody. -/
def pick (T : Tks) : Nat := pickTo T 17

theorem pickTo_lt (T : Tks) (k : Nat) : pickTo T k ≤ k - 1 := by
  induction k with
  | zero => simp [pickTo]
  | succ k ih => unfold pickTo; split <;> omega
theorem pick_lt (T : Tks) : pick T < 17 := by have := pickTo_lt T 17; unfold pick; omega

/-- The tasks behind a tick that none of them has. -/
def past (T : Tks) (n : Int) : Tks := pastTo T (n + 1) 17
/-- The tasks behind a tick. -/
def tick (T : Tks) (n : Int) : Tks := if pick T = 0 then past T n else past (upd T (pick T) (use (T (pick T)))) n

/-- All that is in bounds. -/
structure Fit (T : Tks) (B : Int) : Prop where
  b : ∀ t, t < 17 → 0 ≤ (T t).b ∧ (T t).b ≤ (T t).p
  p : ∀ t, t < 17 → (T t).p ≤ 30
  l : ∀ t, t < 17 → 0 ≤ (T t).l ∧ (T t).l ≤ (T t).b
  d : ∀ t, t < 17 → 0 ≤ (T t).d ∧ (T t).d ≤ B + 30
  no : (T 0).p = 0
  rp : ∀ t, t < 17 → (T t).r = true → (T t).p ≠ 0
  bp : ∀ t, t < 17 → (T t).p ≠ 0 → 1 ≤ (T t).b
  lo : ∀ t, t < 17 → (T t).p ≠ 0 → ((T t).o = true ↔ (T t).l = 0)

/-- Is this the number of a task that is there? -/
def isTask (T : Tks) (t : Int) : Prop := 1 ≤ t ∧ t ≤ 16 ∧ (T t.toNat).p ≠ 0
instance (T : Tks) (t : Int) : Decidable (isTask T t) := by unfold isTask; exact inferInstance
end Go.Proofs.YtckaebpcghaobaaGreat.De
/- Contracts of package dead: find, fill, use, stale. -/
namespace Go.Proofs.YtckaebpcghaobaaGreat.De
open Go.ChangeShapes Go.WideShapes Go.ChangeAt Go.RowKit Go.Maps
set_option linter.unusedVariables false

section
variable {w : World} {p o D : Nat} {T : Tks} {n : Int}

theorem find_yes (h : DeadAt w p o D T n) (t : Nat) (h1 : 1 ≤ t) (h2 : t ≤ 16) (hc : (T t).p ≠ 0) :
    Calls Tryz.prog 59 #[.pointer (some ⟨p, o, none⟩), .int .i64 t] w fun e w' => e = .returned (.pointer (some ⟨p, o + t * 6, none⟩)) ∧ w = w' := by
  have c0 := h.cp t (by omega)
  have h3 : ¬ (t : Int) < 1 := by omega
  have h4 : ¬ 16 < (t : Int) := by omega
  have h5 : (t : Int) < 17 := by omega
  have hc' : ((T t).p == 0) = false := by simpa using hc
  clear h hc
  go_enter Tryz.func59, Tryz.ntmps59
  go_wp2
  go_ret
  exact ⟨rfl, rfl⟩

theorem find_no (h : DeadAt w p o D T n) (t : Int) (ht : ¬ isTask T t) :
    Calls Tryz.prog 59 #[.pointer (some ⟨p, o, none⟩), .int .i64 t] w fun e w' => e = .returned (.pointer none) ∧ w = w' := by
  by_cases h2 : t < 1
  · clear ht
    go_enter Tryz.func59, Tryz.ntmps59
    go_wp2
    go_ret
    exact ⟨rfl, rfl⟩
  · by_cases h3 : 16 < t
    · clear ht
      go_enter Tryz.func59, Tryz.ntmps59
      go_wp2
      go_ret
      exact ⟨rfl, rfl⟩
    · obtain ⟨t, rfl⟩ : ∃ k : Nat, t = k := ⟨t.toNat, by omega⟩
      have hc : (T t).p = 0 := by
        apply Decidable.byContradiction; intro hc; exact ht ⟨by omega, by omega, by simpa using hc⟩
      have c0 := h.cp t (by omega)
      rw [hc] at c0
      have h5 : (t : Int) < 17 := by omega
      clear h hc ht
      go_enter Tryz.func59, Tryz.ntmps59
      go_wp2
      go_ret
      exact ⟨rfl, rfl⟩

theorem only_set1 {w w2 : World} {p o : Nat} (h : Within p o 103 w w2) (i : Nat) (u : Value) (hi : i < 103 := by omega) : Within p o 103 w (w2.setCell ⟨p, o + i, none⟩ u) := h.setCell (by omega) u
theorem only_set2 {w w2 : World} {p o : Nat} (h : Within p o 103 w w2) (i j : Nat) (u v : Value) (hi : i < 103 := by omega) (hj : j < 103 := by omega) : Within p o 103 w ((w2.setCell ⟨p, o + i, none⟩ u).setCell ⟨p, o + j, none⟩ v) :=
  only_set1 (only_set1 h i u hi) j v hj
theorem only_set3 {w w2 : World} {p o : Nat} (h : Within p o 103 w w2) (i j k : Nat) (u v x : Value) (hi : i < 103 := by omega) (hj : j < 103 := by omega) (hk : k < 103 := by omega) : Within p o 103 w (((w2.setCell ⟨p, o + i, none⟩ u).setCell ⟨p, o + j, none⟩ v).setCell ⟨p, o + k, none⟩ x) :=
  only_set1 (only_set2 h i j u v hi hj) k x hk

/-- What is known behind a call that changes a class. -/
def DKeep (w : World) (p o D : Nat) (v : Value) (T : Tks) (n : Int) (e : Ending) (w' : World) : Prop := e = .returned v ∧ DeadAt w' p o D T n ∧ Within p o 103 w w'

theorem fill_any (h : DeadAt w p o D T n) (t : Nat) (ht : t < 17) (s : Int) (h1 : 0 ≤ s) (h2 : s ≤ 9000000000000000000) (p1 : 0 ≤ (T t).p) (p2 : (T t).p ≤ 30) :
    Calls Tryz.prog 58 #[.pointer (some ⟨p, o + t * 6, none⟩), .int .i64 s] w (DKeep w p o D (.tuple #[]) (upd T t (fill (T t) s)) n) := by
  have H := Lib.hid h
  have cb := h.cb t ht
  have cp := h.cp t ht
  have cl := h.cl t ht
  have cd := h.cd t ht
  have co := h.co t ht
  have fz := h.frozen
  clear h
  go_enter Tryz.func58, Tryz.ntmps58
  go_wp2
  go_end0
  refine ⟨rfl, ?_, only_set3 (Within.refl _ _ _ _) (t * 6 + 2) (t * 6 + 3) (t * 6 + 5) _ _ _⟩
  have := ((H.out.set_tl t ht (T t).b).set_td t ht (s + (T t).p)).set_to t ht false
  simp only [upd_upd, upd_same] at this
  exact this

theorem use_any (h : DeadAt w p o D T n) (t : Nat) (ht : t < 17) (p1 : 0 ≤ (T t).l) (p2 : (T t).l ≤ 30) :
    Calls Tryz.prog 56 #[.pointer (some ⟨p, o + t * 6, none⟩)] w (DKeep w p o D (.tuple #[]) (upd T t (use (T t))) n) := by
  have H := Lib.hid h
  have cl := h.cl t ht
  have co := h.co t ht
  have fz := h.frozen
  clear h
  go_enter Tryz.func56, Tryz.ntmps56
  go_wp2
  go_end0
  refine ⟨rfl, ?_, only_set2 (Within.refl _ _ _ _) (t * 6 + 2) (t * 6 + 5) _ _⟩
  have := (H.out.set_tl t ht ((T t).l - 1)).set_to t ht ((T t).l - 1 == 0)
  simp only [upd_upd, upd_same] at this
  exact this

theorem mul_bd (a b : Int) (h1 : 0 ≤ a) (h2 : a ≤ 30) (h3 : 0 ≤ b) (h4 : b ≤ 9000000000000000) : 0 ≤ a * b ∧ a * b ≤ 300000000000000000 :=
  ⟨Int.mul_nonneg h1 h3, Int.le_trans (Int.mul_le_mul h2 h4 h3 (by omega)) (by omega)⟩

theorem stale_any (h : DeadAt w p o D T n) (t : Nat) (ht : t < 17) (n0 : 0 ≤ n) (d1 : (T t).d ≤ 9000000000000000) (b1 : 0 ≤ (T t).b) (b2 : (T t).b ≤ 30) (l1 : 0 ≤ (T t).l) (l2 : (T t).l ≤ 30) (p1 : 0 ≤ (T t).p) (p2 : (T t).p ≤ 30) :
    Calls Tryz.prog 130 #[.pointer (some ⟨p, o + t * 6, none⟩), .int .i64 n] w fun e w' => e = .returned (.bool (decide (Stale (T t) n))) ∧ Only (fun _ => False) w w' := by
  have cb := h.cb t ht
  have cp := h.cp t ht
  have cl := h.cl t ht
  have cd := h.cd t ht
  have m1 := mul_bd (T t).l (T t).p l1 l2 p1 (by omega)
  have HS : Hid (Stale (T t) n ↔ ((T t).d ≤ n ∨ (T t).b * ((T t).d - n) < (T t).l * (T t).p)) := Lib.hid Iff.rfl
  clear h
  by_cases h1 : (T t).d ≤ n
  · have e : decide (Stale (T t) n) = true := decide_eq_true (HS.out.mpr (Or.inl h1))
    rw [e]
    have hd : decide ((T t).d ≤ n) = true := decide_eq_true h1
    clear HS e
    go_enter Tryz.func130, Tryz.ntmps130
    go_wp2_with fail
    go_quiet (fail)
    go_wp2_with fail
    go_ret
    exact ⟨rfl, only_drewN (Only.refl _ _) _⟩
  · have hd : decide ((T t).d ≤ n) = false := decide_eq_false h1
    have m2 := mul_bd (T t).b ((T t).d - n) b1 b2 (by omega) (by omega)
    have e : decide (Stale (T t) n) = decide ((T t).b * ((T t).d - n) < (T t).l * (T t).p) := decide_eq_decide.mpr ⟨fun q => (HS.out.mp q).resolve_left h1, fun q => HS.out.mpr (Or.inr q)⟩
    rw [e]
    clear HS e
    go_enter Tryz.func130, Tryz.ntmps130
    go_wp2_with fail
    go_quiet (fail)
    go_wp2_with fail
    go_ret
    exact ⟨rfl, only_drewN (Only.refl _ _) _⟩
end
end Go.Proofs.YtckaebpcghaobaaGreat.De
/- Contract of package dead's Pick: who goes next. -/
namespace Go.Proofs.YtckaebpcghaobaaGreat.De
open Go.ChangeShapes Go.WideShapes Go.ChangeAt Go.RowKit Go.Maps
set_option linter.unusedVariables false

/-- The tasks' cells. -/
def arrOf (o : Nat) (cs : Array Value) : Array Value := ((List.range 102).map fun j => cs.getD (o + j) undef).toArray

theorem arrOf_get (o : Nat) (cs : Array Value) (j : Nat) (h : j < 102) : (arrOf o cs)[j]? = some (cs.getD (o + j) undef) := by
  simp [arrOf, h]

theorem arrOf_size (o : Nat) (cs : Array Value) : (arrOf o cs).size = 102 := by simp [arrOf]

theorem load_arr {w : World} {p o D : Nat} {cs : Array Value} (h : w.heap[p]? = some (.cells cs D (0, 0))) (hs : o + 103 ≤ cs.size) :
    (loadVar 68 ⟨p, o, none⟩).run Tryz.prog w = .ok (.agg (arrOf o cs)) w := by
  have hl : (loadCells ⟨p, o, none⟩ 102).run Tryz.prog w = .ok (arrOf o cs) w :=
    run_loadCells w ⟨p, o, none⟩ 102 (fun j => cs.getD (o + j) undef) (fun j hj => by
      have hadd : (⟨p, o, none⟩ : Addr).add j = ⟨p, o + j, none⟩ := by rw [add_plain]
      rw [hadd, cell_at h]
      simp [show o + j < cs.size by omega])
  have hagg : (isAgg 68).run Tryz.prog w = .ok true w := by kernel_rfl
  simp [loadVar, Sem.run_bind, hagg, hl]

theorem index_arr {o : Nat} {cs : Array Value} {T : Tks} {n : Int} (h : Cells o cs T n) (k : Nat) (hk : k < 17) (w : World) :
    (Instr.index 68 (.agg (arrOf o cs)) (.int .i64 k)).run Tryz.prog w = .ok (.agg #[.int .i64 (T k).b, .int .i64 (T k).p, .int .i64 (T k).l, .int .i64 (T k).d, .bool (T k).r, .bool (T k).o]) w := by
  have hsz : (sizeOf 67).run Tryz.prog w = .ok 6 w := by kernel_rfl
  have hx : (arrOf o cs).extract (k * 6) (k * 6 + 6) = #[.int .i64 (T k).b, .int .i64 (T k).p, .int .i64 (T k).l, .int .i64 (T k).d, .bool (T k).r, .bool (T k).o] := by
    apply Array.ext
    · simp [arrOf_size]; omega
    · intro i h1 h2
      have hi : i < 6 := by simpa using h2
      have e : ∀ j, j < 102 → (arrOf o cs)[j]? = cs[o + j]? := fun j hj => by
        rw [arrOf_get o cs j hj]; have := h.size; simp [show o + j < cs.size by omega]
      have e1 := e (k * 6) (by omega)
      have e2 := e (k * 6 + 1) (by omega)
      rw [← Nat.add_assoc] at e2
      have e3 := e (k * 6 + 2) (by omega)
      rw [← Nat.add_assoc] at e3
      have e4 := e (k * 6 + 3) (by omega)
      rw [← Nat.add_assoc] at e4
      have e5 := e (k * 6 + 4) (by omega)
      rw [← Nat.add_assoc] at e5
      have e6 := e (k * 6 + 5) (by omega)
      rw [← Nat.add_assoc] at e6
      rw [h.cb k hk] at e1
      rw [h.cp k hk] at e2
      rw [h.cl k hk] at e3
      rw [h.cd k hk] at e4
      rw [h.cr k hk] at e5
      rw [h.co k hk] at e6
      apply Option.some.inj
      rw [← Array.getElem?_eq_getElem h1, ← Array.getElem?_eq_getElem h2, Array.getElem?_extract]
      rw [arrOf_size, if_pos (by omega)]
      match i, hi with
      | 0, _ => simpa using e1
      | 1, _ => simpa using e2
      | 2, _ => simpa using e3
      | 3, _ => simpa using e4
      | 4, _ => simpa using e5
      | 5, _ => simpa using e6
  unfold Instr.index
  rw [Sem.run_bind]
  simp only [asIntOf, Sem.run_pure, Result.andThen_ok, Sem.run_bind, run_underlying Tryz.underlying68]
  have h1 : (0 : Int) ≤ k ∧ (k : Int) < ((17 : Nat) : Int) := by omega
  rw [if_pos h1]
  simp [Sem.run_bind, hsz, part, hx]

section
variable {P : Program}
/-- A load whose run is known. -/
theorem wpList_load_known {ops : Array Oper} {rest : List Oper} {o : Oper} {a : Act} {w : World} {Q : Exit → Act → World → Prop} (hgd : o.guard = none) (ty : TypeId) (x : Operand) (ho : o.op = .load ty x)
    (ad : Addr) (hx : a.eval x = .pointer (some ad)) (v : Value) (hl : (loadVar ty ad).run P w = .ok v w)
    (h : wpList P ops Q rest (a.put o.dst v) w) : wpList P ops Q (o :: rest) a w := by
  refine wpList_plain hgd fun _ hK => ?_
  unfold Oper.wp execOp
  simp only [ho, hx, Instr.loadAt, Instr.sureAddr, Sem.run_bind, Sem.run_pure, Result.andThen_ok, hl]
  exact hK _ _ h
end

/-- What Pick answers. -/
def pickErr (T : Tks) : Int := if pick T = 0 then 4 else 0
theorem pickErr_yes {T : Tks} (h : pick T ≠ 0) : pickErr T = 0 := by unfold pickErr; rw [if_neg h]
theorem pickErr_no {T : Tks} (h : pick T = 0) : pickErr T = 4 := by unfold pickErr; rw [if_pos h]

theorem pick_any {w : World} {p o D : Nat} {T : Tks} {n : Int} (h : DeadAt w p o D T n) :
    Calls Tryz.prog 44 #[.pointer (some ⟨p, o, none⟩)] w fun e w' => e = .returned (.tuple #[.int .i64 (pick T : Nat), .int .i64 (pickErr T)]) ∧ Only (fun _ => False) w w' := by
  obtain ⟨cs, h1, h2⟩ := h
  have HF := Lib.hid (show DeadAt w p o D T n from ⟨cs, h1, h2⟩)
  have HX := Lib.hid (index_arr h2)
  have HL := Lib.hid (load_arr h1 h2.size)
  clear h1 h2
  generalize arrOf o cs = arr at *
  go_enter Tryz.func44, Tryz.ntmps44
  go_wp2_with (refine wpList_load_known rfl 68 _ rfl ⟨p, o, none⟩ rfl (.agg arr) HL.out ?_)
  go_loopw [4, 11] (fun m i wr => ∃ k : Nat, k ≤ 17 ∧ i = .int .i64 k ∧ m = .int .i64 (pickTo T k : Nat) ∧ Only (fun _ => False) w wr) (fun _ i _ => 17 - (intOf i).toNat)
  case atStart => exact ⟨0, by omega, rfl, rfl, Only.refl _ w⟩
  case round =>
    obtain ⟨k, hk, rfl, rfl, hO⟩ := hrel
    have HO := Lib.hid hO
    by_cases hlt : k < 17
    · have ix := HX.out k hlt
      have HS := Lib.hid (show pickTo T (k + 1) = if (T k).r = true ∧ (T k).o = false ∧ (pickTo T k = 0 ∨ (T k).d < (T (pickTo T k)).d) then k else pickTo T k from rfl)
      have hml := pickTo_lt T k
      generalize pickTo T k = m at *
      have cv := (HF.out.later hO).cd m (by omega)
      have hp := (HF.out.later hO).lt
      clear hO
      have g1 : (k : Int) < 17 := by omega
      have g2 : (m : Int) < 17 := by omega
      cases hr : (T k).r with
      | false =>
        rw [hr] at ix
        have HE : Hid (pickTo T (k + 1) = m) := by have := HS.out; rw [hr] at this; simp at this; exact this
        clear hr HS
        go_wp2_with fail
        go_quiet (fail)
        go_wp2_with fail
        go_roundw
        case rel => exact ⟨k + 1, by omega, by go_num, by rw [HE.out], ((HO.out.alloc _).trans (only_drewN (Only.refl _ _) _) (fun _ _ h => h))⟩
        case measure => simp [intOf]; omega
      | true =>
        rw [hr] at ix
        cases hg : (T k).o with
        | false =>
          rw [hg] at ix
          by_cases hm : m = 0
          · subst hm
            have HE : Hid (pickTo T (k + 1) = k) := by have := HS.out; rw [hr, if_pos ⟨rfl, hg, Or.inl rfl⟩] at this; exact this
            clear hr hg HS
            go_wp2_with fail
            go_quiet (fail)
            go_wp2_with fail
            go_roundw
            case rel => exact ⟨k + 1, by omega, by go_num, by rw [HE.out], ((HO.out.alloc _).trans (only_drewN (Only.refl _ _) _) (fun _ _ h => h))⟩
            case measure => simp [intOf]; omega
          · have hm0 : ((m : Int) == 0) = false := by simp; omega
            by_cases hv : (T k).d < (T m).d
            · have HE : Hid (pickTo T (k + 1) = k) := by have := HS.out; rw [hr, if_pos ⟨rfl, hg, Or.inr hv⟩] at this; exact this
              have hd : decide ((T k).d < (T m).d) = true := decide_eq_true hv
              clear hr hg HS hm hv
              go_wp2_with fail
              go_quiet (fail)
              go_wp2_with fail
              go_roundw
              case rel => exact ⟨k + 1, by omega, by go_num, by rw [HE.out], ((HO.out.alloc _).trans (only_drewN (Only.refl _ _) _) (fun _ _ h => h))⟩
              case measure => simp [intOf]; omega
            · have HE : Hid (pickTo T (k + 1) = m) := by have := HS.out; rw [if_neg (by rintro ⟨_, _, h | h⟩; exact hm h; exact hv h)] at this; exact this
              have hd : decide ((T k).d < (T m).d) = false := decide_eq_false hv
              clear hr hg HS hm hv
              go_wp2_with fail
              go_quiet (fail)
              go_wp2_with fail
              go_roundw
              case rel => exact ⟨k + 1, by omega, by go_num, by rw [HE.out], ((HO.out.alloc _).trans (only_drewN (Only.refl _ _) _) (fun _ _ h => h))⟩
              case measure => simp [intOf]; omega
        | true =>
          rw [hg] at ix
          have HE : Hid (pickTo T (k + 1) = m) := by have := HS.out; rw [if_neg (by rintro ⟨_, h, _⟩; rw [hg] at h; cases h)] at this; exact this
          clear hr HS hg
          go_wp2_with fail
          go_quiet (fail)
          go_wp2_with fail
          go_roundw
          case rel => exact ⟨k + 1, by omega, by go_num, by rw [HE.out], ((HO.out.alloc _).trans (only_drewN (Only.refl _ _) _) (fun _ _ h => h))⟩
          case measure => simp [intOf]; omega
    · obtain rfl : k = 17 := by omega
      have HP : Hid (pickTo T 17 = pick T) := Lib.hid rfl
      have e1 := pickErr_yes (T := T)
      have e2 := pickErr_no (T := T)
      have HM := Lib.hid (show pick T = pickTo T 17 from rfl)
      clear HP
      generalize pickTo T 17 = m at *
      by_cases hm : m = 0
      · have hm0 : ((m : Int) == 0) = true := by simp [hm]
        have HE := Lib.hid (e2 (HM.out.trans hm))
        have HM0 := Lib.hid (HM.out.trans hm)
        clear e1 e2
        go_wp2_with fail
        go_ret2
        exact ⟨by rw [HE.out, HM0.out]; rfl, HO.out⟩
      · have hm0 : ((m : Int) == 0) = false := by simp [hm]
        have HE := Lib.hid (e1 (fun q => hm (HM.out.symm.trans q)))
        clear e1 e2
        go_wp2_with fail
        go_ret2
        exact ⟨by rw [HE.out, HM.out]; rfl, HO.out⟩
end Go.Proofs.YtckaebpcghaobaaGreat.De
/- Contract of package dead's Pass: a tick that none of them has. -/
namespace Go.Proofs.YtckaebpcghaobaaGreat.De
open Go.ChangeShapes Go.WideShapes Go.ChangeAt Go.RowKit Go.Maps
set_option linter.unusedVariables false

theorem pastTo_zero (T : Tks) (n : Int) : pastTo T n 0 = T := by funext j; unfold pastTo; rw [if_neg (by omega)]
theorem pastTo_at (T : Tks) (n : Int) (k : Nat) : pastTo T n k k = T k := by unfold pastTo; rw [if_neg (by omega)]
theorem pastTo_keep (T : Tks) (n : Int) (k : Nat) (h : ¬ ((T k).o = true ∧ (T k).d ≤ n)) : pastTo T n (k + 1) = pastTo T n k := by
  funext j
  unfold pastTo
  by_cases e : j = k
  · subst e; rw [if_pos (by omega), if_neg (by omega)]; unfold again; rw [if_neg h]
  · by_cases h2 : j < k
    · rw [if_pos (by omega), if_pos h2]
    · rw [if_neg (by omega), if_neg h2]
theorem pastTo_fill (T : Tks) (n : Int) (k : Nat) (h : (T k).o = true ∧ (T k).d ≤ n) : pastTo T n (k + 1) = upd (pastTo T n k) k (fill (T k) (T k).d) := by
  funext j
  by_cases e : j = k
  · subst e; rw [upd_same]; unfold pastTo; rw [if_pos (by omega)]; unfold again; rw [if_pos h]
  · rw [upd_other _ _ e]
    unfold pastTo
    by_cases h2 : j < k
    · rw [if_pos (by omega), if_pos h2]
    · rw [if_neg (by omega), if_neg h2]

theorem pass_any {w : World} {p o D : Nat} {T : Tks} {n B : Int} (h : DeadAt w p o D T n) (hb : Fit T B) (hB : B ≤ 8000000000000000000) (n0 : 0 ≤ n) (nB : n ≤ 8000000000000000000) :
    Calls Tryz.prog 28 #[.pointer (some ⟨p, o, none⟩)] w (DKeep w p o D (.tuple #[]) (past T n) (n + 1)) := by
  have H := Lib.hid h
  have HB := Lib.hid hb
  have cn := h.now
  have fz := h.frozen
  clear h hb
  go_enter Tryz.func28, Tryz.ntmps28
  go_wp2_with fail
  clear fz cn
  have H1 := Lib.hid (H.out.set_now (n + 1))
  have O1 := Lib.hid (only_set1 (Within.refl p o 103 w) 102 (.int .i64 (n + 1)))
  generalize w.setCell ⟨p, o + 102, none⟩ (.int .i64 (n + 1)) = w1 at *
  go_loopw [11] (fun i wr => ∃ k : Nat, k ≤ 17 ∧ i = .int .i64 k ∧ DeadAt wr p o D (pastTo T (n + 1) k) (n + 1) ∧ Within p o 103 w wr) (fun i _ => 17 - (intOf i).toNat)
  case atStart => exact ⟨0, by omega, rfl, by rw [pastTo_zero]; exact H1.out, O1.out⟩
  case round =>
    obtain ⟨k, hk, rfl, hD, hO⟩ := hrel
    have HO := Lib.hid hO
    have HD := Lib.hid hD
    clear hO hD H1 O1
    by_cases hlt : k < 17
    · have g1 : (k : Int) < 17 := by omega
      have cn := HD.out.now
      have cd := HD.out.cd k hlt
      have co := HD.out.co k hlt
      rw [pastTo_at] at cd co
      have p0 := HB.out.b k hlt
      have p1 := HB.out.p k hlt
      have d0 := HB.out.d k hlt
      have c1 := Lib.hid (fun wx (hx : DeadAt wx p o D (pastTo T (n + 1) k) (n + 1)) => fill_any hx k hlt (T k).d (by omega) (by omega) (by rw [pastTo_at]; omega) (by rw [pastTo_at]; omega))
      have HF := Lib.hid (pastTo_fill T (n + 1) k)
      have HK := Lib.hid (pastTo_keep T (n + 1) k)
      rw [pastTo_at] at c1
      have HU := Lib.hid (pastTo_at T (n + 1) k)
      generalize pastTo T (n + 1) k = U at *
      cases ho : (T k).o with
      | false =>
        rw [ho] at co
        have HE := Lib.hid (HK.out (by rw [ho]; simp))
        clear ho HF HK c1
        go_wp2_with fail
        go_quiet (fail)
        go_wp2_with fail
        go_roundw
        case rel => exact ⟨k + 1, by omega, by go_num, by rw [HE.out]; exact HD.out.later (only_drewN (Only.refl _ _) _), Within.drewN HO.out _⟩
        case measure => simp [intOf]; omega
      | true =>
        rw [ho] at co
        by_cases hd : (T k).d ≤ n + 1
        · have HE := Lib.hid (HF.out ⟨ho, hd⟩)
          have hdd : decide ((T k).d ≤ n + 1) = true := decide_eq_true hd
          clear ho HF HK hd
          go_wp2_with fail
          go_quiet (fail)
          have HD2 : Hid (DeadAt (wr.drewN nq) p o D U (n + 1)) := Lib.hid (HD.out.later (only_drewN (Only.refl _ _) _))
          have HO2 := Lib.hid (Within.drewN HO.out nq)
          have cd2 := HD2.out.cd k hlt
          rw [HU.out] at cd2
          generalize wr.drewN nq = w2 at *
          go_wp2_with (go_at_call 58; (with_reducible refine (c1.out _ HD2.out).mono ?_); rintro e w3 ⟨rfl, hF3, hO3⟩; have HF3 := Lib.hid hF3; have HO3 := Lib.hid hO3; clear hF3 hO3)
          go_roundw
          case rel => exact ⟨k + 1, by omega, by go_num, by rw [HE.out]; exact HF3.out, HO2.out.trans HO3.out (fun _ _ h => h)⟩
          case measure => simp [intOf]; omega
        · have HE := Lib.hid (HK.out (fun q => hd q.2))
          have hdd : decide ((T k).d ≤ n + 1) = false := decide_eq_false hd
          clear ho HF HK hd c1
          go_wp2_with fail
          go_quiet (fail)
          go_wp2_with fail
          go_roundw
          case rel => exact ⟨k + 1, by omega, by go_num, by rw [HE.out]; exact HD.out.later (only_drewN (Only.refl _ _) _), Within.drewN HO.out _⟩
          case measure => simp [intOf]; omega
    · obtain rfl : k = 17 := by omega
      go_wp2_with fail
      go_end0
      exact ⟨rfl, HD.out, HO.out⟩
end Go.Proofs.YtckaebpcghaobaaGreat.De
/- Package dead without memory: who goes next, and what stays in bounds. -/
namespace Go.Proofs.YtckaebpcghaobaaGreat.De
set_option linter.unusedVariables false

/-- May it go? -/
def Can (x : Tk) : Prop := x.r = true ∧ x.o = false
instance (x : Tk) : Decidable (Can x) := by unfold Can; exact inferInstance

theorem pickTo_can (T : Tks) (k : Nat) (h : pickTo T k ≠ 0) : Can (T (pickTo T k)) ∧ pickTo T k < k := by
  induction k with
  | zero => exact absurd rfl h
  | succ k ih =>
    unfold pickTo at h ⊢
    split
    · rename_i c; exact ⟨⟨c.1, c.2.1⟩, by omega⟩
    · rename_i c; rw [if_neg c] at h; have := ih h; exact ⟨this.1, by omega⟩

theorem pickTo_first (T : Tks) (h0 : ¬ Can (T 0)) (k j : Nat) (hj : j < k) (hc : Can (T j)) :
    pickTo T k ≠ 0 ∧ ((T (pickTo T k)).d < (T j).d ∨ (T (pickTo T k)).d = (T j).d ∧ pickTo T k ≤ j) := by
  induction k with
  | zero => omega
  | succ k ih =>
    by_cases e : j = k
    · subst e
      have hj0 : j ≠ 0 := by rintro rfl; exact h0 hc
      by_cases h1 : pickTo T j = 0 ∨ (T j).d < (T (pickTo T j)).d
      · have : pickTo T (j + 1) = j := if_pos ⟨hc.1, hc.2, h1⟩
        rw [this]; exact ⟨hj0, Or.inr ⟨rfl, Nat.le_refl _⟩⟩
      · have : pickTo T (j + 1) = pickTo T j := if_neg (fun q => h1 q.2.2)
        rw [this]
        have h2 : pickTo T j ≠ 0 := fun q => h1 (Or.inl q)
        have h3 : ¬ (T j).d < (T (pickTo T j)).d := fun q => h1 (Or.inr q)
        have := (pickTo_can T j h2).2
        exact ⟨h2, by omega⟩
    · obtain ⟨i1, i2⟩ := ih (by omega)
      by_cases h1 : (T k).r = true ∧ (T k).o = false ∧ (pickTo T k = 0 ∨ (T k).d < (T (pickTo T k)).d)
      · have : pickTo T (k + 1) = k := if_pos h1
        rw [this]
        have h3 := h1.2.2.resolve_left i1
        exact ⟨by omega, by omega⟩
      · have : pickTo T (k + 1) = pickTo T k := if_neg h1
        rw [this]; exact ⟨i1, i2⟩

theorem pick_can {T : Tks} (h : pick T ≠ 0) : Can (T (pick T)) := (pickTo_can T 17 h).1
theorem pick_first {T : Tks} (h0 : ¬ Can (T 0)) {j : Nat} (hj : j < 17) (hc : Can (T j)) :
    pick T ≠ 0 ∧ ((T (pick T)).d < (T j).d ∨ (T (pick T)).d = (T j).d ∧ pick T ≤ j) := pickTo_first T h0 17 j hj hc
theorem pick_none {T : Tks} (h0 : ¬ Can (T 0)) (h : pick T = 0) {j : Nat} (hj : j < 17) : ¬ Can (T j) := fun hc => (pick_first h0 hj hc).1 h

theorem Fit.zero {T : Tks} {n : Int} (h : Fit T n) : ¬ Can (T 0) := fun c => h.rp 0 (by omega) c.1 h.no

theorem Fit.mono {T : Tks} {B C : Int} (h : Fit T B) (hB : B ≤ C) : Fit T C :=
  ⟨h.b, h.p, h.l, fun t ht => ⟨(h.d t ht).1, by have := (h.d t ht).2; omega⟩, h.no, h.rp, h.bp, h.lo⟩

/-- A task that is in bounds. -/
structure Ok (x : Tk) (n : Int) : Prop where
  b : 0 ≤ x.b ∧ x.b ≤ x.p
  p : x.p ≤ 30
  l : 0 ≤ x.l ∧ x.l ≤ x.b
  d : 0 ≤ x.d ∧ x.d ≤ n + 30
  rp : x.r = true → x.p ≠ 0
  bp : x.p ≠ 0 → 1 ≤ x.b
  lo : x.p ≠ 0 → (x.o = true ↔ x.l = 0)

theorem Fit.at {T : Tks} {n : Int} (h : Fit T n) {t : Nat} (ht : t < 17) : Ok (T t) n := ⟨h.b t ht, h.p t ht, h.l t ht, h.d t ht, h.rp t ht, h.bp t ht, h.lo t ht⟩
theorem Fit.of {T : Tks} {n : Int} (h : ∀ t, t < 17 → Ok (T t) n) (h0 : (T 0).p = 0) : Fit T n :=
  ⟨fun t ht => (h t ht).b, fun t ht => (h t ht).p, fun t ht => (h t ht).l, fun t ht => (h t ht).d, h0, fun t ht => (h t ht).rp, fun t ht => (h t ht).bp, fun t ht => (h t ht).lo⟩
theorem Fit.upd {T : Tks} {n : Int} (h : Fit T n) {t : Nat} {x : Tk} (hx : Ok x n) (h0 : t = 0 → x.p = 0) : Fit (upd T t x) n := by
  refine Fit.of (fun j hj => ?_) ?_
  · unfold De.upd; split
    · exact hx
    · exact h.at hj
  · unfold De.upd; split
    · rename_i e; exact h0 e.symm
    · exact h.no

theorem ok_no {n : Int} (hn : 0 ≤ n) : Ok ⟨0, 0, 0, 0, false, false⟩ n := ⟨by simp, by simp, by simp, ⟨by simp, show (0 : Int) ≤ n + 30 by omega⟩, by simp, by simp, by simp⟩
theorem Ok.fill {x : Tk} {m n s : Int} (h : Ok x m) (hp : x.p ≠ 0) (s0 : 0 ≤ s) (s1 : s ≤ n) : Ok (fill x s) n := by
  have := h.b; have := h.p; have := h.bp hp
  unfold De.fill
  refine ⟨h.b, h.p, ⟨by dsimp; omega, by dsimp; omega⟩, ⟨by dsimp; omega, by dsimp; omega⟩, fun _ => hp, h.bp, fun _ => ?_⟩
  dsimp
  constructor
  · intro q; cases q
  · intro q; omega
theorem Ok.use {x : Tk} {n : Int} (h : Ok x n) (hc : Can x) : Ok (use x) n := by
  have hp := h.rp hc.1
  have hl : x.l ≠ 0 := fun q => by have := (h.lo hp).mpr q; rw [hc.2] at this; cases this
  have := h.l
  unfold De.use
  refine ⟨h.b, h.p, ⟨by dsimp; omega, by dsimp; omega⟩, h.d, h.rp, h.bp, fun _ => ?_⟩
  simp
theorem Ok.again {x : Tk} {n : Int} (h : Ok x n) (hn : 0 ≤ n) (hp : x.p ≠ 0) : Ok (again x (n + 1)) (n + 1) := by
  unfold De.again
  split
  · rename_i c; exact h.fill hp h.d.1 c.2
  · exact ⟨h.b, h.p, h.l, ⟨h.d.1, by have := h.d.2; omega⟩, h.rp, h.bp, h.lo⟩
theorem Ok.woke {x : Tk} {n : Int} (h : Ok x n) (hn : 0 ≤ n) (hp : x.p ≠ 0) : Ok (woke x n) n := by
  have h2 : Ok ⟨x.b, x.p, x.l, x.d, true, x.o⟩ n := ⟨h.b, h.p, h.l, h.d, fun _ => hp, h.bp, h.lo⟩
  unfold De.woke
  split
  · exact h2.fill hp hn (Int.le_refl _)
  · exact h2
theorem Ok.slept {x : Tk} {n : Int} (h : Ok x n) : Ok ⟨x.b, x.p, x.l, x.d, false, x.o⟩ n := ⟨h.b, h.p, h.l, h.d, (by intro q; cases q), h.bp, h.lo⟩
theorem ok_came {b q n : Int} (b1 : 1 ≤ b) (b2 : b ≤ q) (q2 : q ≤ 30) (n0 : 0 ≤ n) : Ok ⟨b, q, b, n + q, true, false⟩ n := by
  refine ⟨⟨by dsimp; omega, b2⟩, q2, ⟨by dsimp; omega, by dsimp; omega⟩, ⟨by dsimp; omega, by dsimp; omega⟩, fun _ => by dsimp; omega, fun _ => b1, fun _ => ?_⟩
  dsimp
  constructor
  · intro q; cases q
  · intro q; omega

/-- Is a task without a period empty? -/
def Bare (T : Tks) : Prop := ∀ t, t < 17 → (T t).p = 0 → (T t).o = false

theorem again_p (x : Tk) (n : Int) : (again x n).p = x.p := by unfold again fill; split <;> rfl
theorem past_at (T : Tks) (n : Int) {t : Nat} (ht : t < 17) : past T n t = again (T t) (n + 1) := by unfold past pastTo; rw [if_pos ht]

theorem Fit.past {T : Tks} {n : Int} (h : Fit T n) (hB : Bare T) (hn : 0 ≤ n) : Fit (past T n) (n + 1) := by
  refine Fit.of (fun t ht => ?_) ?_
  · rw [past_at T n ht]
    by_cases hp : (T t).p = 0
    · have : again (T t) (n + 1) = T t := by unfold again; rw [if_neg (by rw [hB t ht hp]; simp)]
      rw [this]
      exact (h.mono (show n ≤ n + 1 by omega)).at ht
    · exact (h.at ht).again hn hp
  · rw [past_at T n (by omega), again_p]; exact h.no
theorem Bare.past {T : Tks} {n : Int} (hB : Bare T) : Bare (past T n) := by
  intro t ht hp
  rw [past_at T n ht] at hp ⊢
  rw [again_p] at hp
  have : again (T t) (n + 1) = T t := by unfold again; rw [if_neg (by rw [hB t ht hp]; simp)]
  rw [this]; exact hB t ht hp
theorem Bare.upd {T : Tks} (hB : Bare T) {t : Nat} {x : Tk} (hx : x.p = 0 → x.o = false) : Bare (upd T t x) := by
  intro j hj hp
  unfold De.upd at hp ⊢
  split
  · rename_i e; rw [if_pos e] at hp; exact hx hp
  · rename_i e; rw [if_neg e] at hp; exact hB j hj hp

theorem Fit.used {T : Tks} {n : Int} (h : Fit T n) (hm : pick T ≠ 0) : Fit (De.upd T (pick T) (use (T (pick T)))) n :=
  h.upd ((h.at (pick_lt T)).use (pick_can hm)) (fun e => absurd e hm)
theorem Bare.used {T : Tks} {n : Int} (hB : Bare T) (h : Fit T n) (hm : pick T ≠ 0) : Bare (De.upd T (pick T) (use (T (pick T)))) :=
  hB.upd (fun e => absurd e (h.rp _ (pick_lt T) (pick_can hm).1))
theorem Fit.tick {T : Tks} {n : Int} (h : Fit T n) (hB : Bare T) (hn : 0 ≤ n) : Fit (tick T n) (n + 1) := by
  unfold De.tick
  split
  · exact h.past hB hn
  · rename_i hm; exact (h.used hm).past (hB.used h hm) hn
theorem Bare.tick {T : Tks} {n : Int} (hB : Bare T) (h : Fit T n) : Bare (tick T n) := by
  unfold De.tick
  split
  · exact hB.past
  · rename_i hm; exact (hB.used h hm).past
end Go.Proofs.YtckaebpcghaobaaGreat.De
/- Contracts of package dead: New, At, Now, Block, Wake, Leave, Add, Tick. -/
namespace Go.Proofs.YtckaebpcghaobaaGreat.De
open Go.ChangeShapes Go.WideShapes Go.ChangeAt Go.RowKit Go.Maps
set_option linter.unusedVariables false

def noTk : Tk := ⟨0, 0, 0, 0, false, false⟩
def noT : Tks := fun _ => noTk

theorem lt17 {P : Nat → Prop} (h : P 0 ∧ P 1 ∧ P 2 ∧ P 3 ∧ P 4 ∧ P 5 ∧ P 6 ∧ P 7 ∧ P 8 ∧ P 9 ∧ P 10 ∧ P 11 ∧ P 12 ∧ P 13 ∧ P 14 ∧ P 15 ∧ P 16) (t : Nat) (ht : t < 17) : P t := by
  obtain ⟨h0, h1, h2, h3, h4, h5, h6, h7, h8, h9, h10, h11, h12, h13, h14, h15, h16⟩ := h
  rcases (show t = 0 ∨ t = 1 ∨ t = 2 ∨ t = 3 ∨ t = 4 ∨ t = 5 ∨ t = 6 ∨ t = 7 ∨ t = 8 ∨ t = 9 ∨ t = 10 ∨ t = 11 ∨ t = 12 ∨ t = 13 ∨ t = 14 ∨ t = 15 ∨ t = 16 by omega) with rfl | rfl | rfl | rfl | rfl | rfl | rfl | rfl | rfl | rfl | rfl | rfl | rfl | rfl | rfl | rfl | rfl <;> assumption

theorem cells_zero : Cells 0 Tryz.zeroCells70 noT 0 :=
  ⟨by decide, lt17 (by repeat' constructor), lt17 (by repeat' constructor), lt17 (by repeat' constructor), lt17 (by repeat' constructor), lt17 (by repeat' constructor), lt17 (by repeat' constructor), rfl⟩


theorem results_tmp4 {fn : Func} {t u v x : Tmp} (h : fn.results = #[.tmp t, .tmp u, .tmp v, .tmp x]) (tmps : Array Value) (P : Program) (w : World) :
    (results fn tmps).run P w = .ok (.tuple #[tmps.getD t undef, tmps.getD u undef, tmps.getD v undef, tmps.getD x undef]) w := by
  simp [results, h]

section
variable {w : World} {p o D : Nat} {T : Tks} {n : Int}

theorem DeadAt.set_task (h : DeadAt w p o D T n) (t : Nat) (ht : t < 17) (b q l d : Int) (r x : Bool) :
    DeadAt ((((((w.setCell ⟨p, o + t * 6, none⟩ (.int .i64 b)).setCell ⟨p, o + t * 6 + 1, none⟩ (.int .i64 q)).setCell ⟨p, o + t * 6 + 2, none⟩ (.int .i64 l)).setCell ⟨p, o + t * 6 + 3, none⟩ (.int .i64 d)).setCell ⟨p, o + t * 6 + 4, none⟩ (.bool r)).setCell ⟨p, o + t * 6 + 5, none⟩ (.bool x)) p o D (upd T t ⟨b, q, l, d, r, x⟩) n := by
  have := (((((h.set_tb t ht b).set_tp t ht q).set_tl t ht l).set_td t ht d).set_tr t ht r).set_to t ht x
  simp only [upd_upd, upd_same] at this
  exact this
theorem only_set6 (w : World) (p o i j k l m q : Nat) (a b c d e f : Value) (h1 : i < 103) (h2 : j < 103) (h3 : k < 103) (h4 : l < 103) (h5 : m < 103) (h6 : q < 103) :
    Within p o 103 w ((((((w.setCell ⟨p, o + i, none⟩ a).setCell ⟨p, o + j, none⟩ b).setCell ⟨p, o + k, none⟩ c).setCell ⟨p, o + l, none⟩ d).setCell ⟨p, o + m, none⟩ e).setCell ⟨p, o + q, none⟩ f) :=
  only_set3 (only_set3 (Within.refl p o 103 w) i j k a b c h1 h2 h3) l m q d e f h4 h5 h6

theorem block_no (h : DeadAt w p o D T n) (t : Int) (ht : ¬ isTask T t) :
    Calls Tryz.prog 127 #[.pointer (some ⟨p, o, none⟩), .int .i64 t] w fun e w' => e = .returned (.int .i64 4) ∧ w = w' := by
  have c := Lib.hid (find_no h t ht)
  clear h ht
  go_enter Tryz.func127, Tryz.ntmps127
  go_wp2_with (go_at_call 59; (with_reducible refine c.out.mono ?_); rintro e w' ⟨rfl, rfl⟩)
  go_ret
  exact ⟨rfl, rfl⟩

theorem block_state (h : DeadAt w p o D T n) (t : Nat) (h1 : 1 ≤ t) (h2 : t ≤ 16) (hc : (T t).p ≠ 0) (hr : (T t).r = false) :
    Calls Tryz.prog 127 #[.pointer (some ⟨p, o, none⟩), .int .i64 t] w fun e w' => e = .returned (.int .i64 8) ∧ w = w' := by
  have c := Lib.hid (find_yes h t h1 h2 hc)
  have cr := h.cr t (by omega)
  rw [hr] at cr
  clear h hc hr
  go_enter Tryz.func127, Tryz.ntmps127
  go_wp2_with (go_at_call 59; (with_reducible refine c.out.mono ?_); rintro e w' ⟨rfl, rfl⟩)
  go_ret
  exact ⟨rfl, rfl⟩

/-- A task that waits. -/
def slept (x : Tk) : Tk := ⟨x.b, x.p, x.l, x.d, false, x.o⟩
theorem block_yes (h : DeadAt w p o D T n) (t : Nat) (h1 : 1 ≤ t) (h2 : t ≤ 16) (hc : (T t).p ≠ 0) (hr : (T t).r = true) :
    Calls Tryz.prog 127 #[.pointer (some ⟨p, o, none⟩), .int .i64 t] w (DKeep w p o D (.int .i64 0) (upd T t (slept (T t))) n) := by
  have c := Lib.hid (find_yes h t h1 h2 hc)
  have H := Lib.hid h
  have cr := h.cr t (by omega)
  have fz := h.frozen
  rw [hr] at cr
  clear h hc hr
  go_enter Tryz.func127, Tryz.ntmps127
  go_wp2_with (go_at_call 59; (with_reducible refine c.out.mono ?_); rintro e w' ⟨rfl, rfl⟩)
  go_ret
  exact ⟨rfl, H.out.set_tr t (by omega) false, only_set1 (Within.refl p o 103 w) (t * 6 + 4) _⟩

theorem wk_no (h : DeadAt w p o D T n) (t : Int) (ht : ¬ isTask T t) :
    Calls Tryz.prog 129 #[.pointer (some ⟨p, o, none⟩), .int .i64 t] w fun e w' => e = .returned (.int .i64 4) ∧ w = w' := by
  have c := Lib.hid (find_no h t ht)
  clear h ht
  go_enter Tryz.func129, Tryz.ntmps129
  go_wp2_with (go_at_call 59; (with_reducible refine c.out.mono ?_); rintro e w' ⟨rfl, rfl⟩)
  go_ret
  exact ⟨rfl, rfl⟩

theorem wk_state (h : DeadAt w p o D T n) (t : Nat) (h1 : 1 ≤ t) (h2 : t ≤ 16) (hc : (T t).p ≠ 0) (hr : (T t).r = true) :
    Calls Tryz.prog 129 #[.pointer (some ⟨p, o, none⟩), .int .i64 t] w fun e w' => e = .returned (.int .i64 8) ∧ w = w' := by
  have c := Lib.hid (find_yes h t h1 h2 hc)
  have cr := h.cr t (by omega)
  rw [hr] at cr
  clear h hc hr
  go_enter Tryz.func129, Tryz.ntmps129
  go_wp2_with (go_at_call 59; (with_reducible refine c.out.mono ?_); rintro e w' ⟨rfl, rfl⟩)
  go_ret
  exact ⟨rfl, rfl⟩

theorem wk_yes {B : Int} (h : DeadAt w p o D T n) (hb : Fit T B) (hB : B ≤ 8000000000000000) (n0 : 0 ≤ n) (nB : n ≤ 8000000000000000) (t : Nat) (h1 : 1 ≤ t) (h2 : t ≤ 16) (hc : (T t).p ≠ 0) (hr : (T t).r = false) :
    Calls Tryz.prog 129 #[.pointer (some ⟨p, o, none⟩), .int .i64 t] w (DKeep w p o D (.int .i64 0) (upd T t (woke (T t) n)) n) := by
  have c := Lib.hid (find_yes h t h1 h2 hc)
  have b0 := hb.b t (by omega)
  have p0 := hb.p t (by omega)
  have l0 := hb.l t (by omega)
  have d0 := hb.d t (by omega)
  have H := Lib.hid h
  have cr := h.cr t (by omega)
  have fz := h.frozen
  have co := h.co t (by omega)
  have cn := h.now
  have HO1 := Lib.hid (only_set1 (Within.refl p o 103 w) (t * 6 + 4) (.bool true))
  rw [hr] at cr
  have H2 := Lib.hid (h.set_tr t (by omega) true)
  have c2 := Lib.hid (stale_any H2.out t (by omega) n0 (by rw [upd_same]; show (T t).d ≤ _; omega) (by rw [upd_same]; exact b0.1) (by rw [upd_same]; show (T t).b ≤ 30; omega) (by rw [upd_same]; exact l0.1) (by rw [upd_same]; show (T t).l ≤ 30; omega) (by rw [upd_same]; show 0 ≤ (T t).p; omega) (by rw [upd_same]; exact p0))
  have c3 := Lib.hid (fun wx (hx : DeadAt wx p o D (upd T t ⟨(T t).b, (T t).p, (T t).l, (T t).d, true, (T t).o⟩) n) => fill_any hx t (by omega) n n0 (by omega) (by rw [upd_same]; show 0 ≤ (T t).p; omega) (by rw [upd_same]; exact p0))
  rw [upd_same] at c2
  simp only [upd_same, upd_upd] at c3
  have HW : Hid (woke (T t) n = if (T t).o = false ∧ Stale (T t) n then fill ⟨(T t).b, (T t).p, (T t).l, (T t).d, true, (T t).o⟩ n else ⟨(T t).b, (T t).p, (T t).l, (T t).d, true, (T t).o⟩) := Lib.hid rfl
  have HS : Hid (Stale ⟨(T t).b, (T t).p, (T t).l, (T t).d, true, (T t).o⟩ n ↔ Stale (T t) n) := Lib.hid Iff.rfl
  clear h hc hr hb
  by_cases hs : Stale ⟨(T t).b, (T t).p, (T t).l, (T t).d, true, (T t).o⟩ n
  · rw [decide_eq_true hs] at c2
    cases ho : (T t).o with
    | false =>
      have HE := Lib.hid (HW.out.trans (if_pos ⟨ho, HS.out.mp hs⟩))
      rw [ho] at co
      clear HW HS hs ho
      go_enter Tryz.func129, Tryz.ntmps129
      go_wp2_with (first
        | (go_at_call 59; (with_reducible refine c.out.mono ?_); rintro e w' ⟨rfl, rfl⟩)
        | (go_at_call 130; (with_reducible refine c2.out.mono ?_); rintro e w2 ⟨rfl, hO⟩; have HO2 := Lib.hid hO; have H3 := Lib.hid (H2.out.later hO); clear hO; have cn := H3.out.now)
        | (go_at_call 58; (with_reducible refine (c3.out _ H3.out).mono ?_); rintro e w3 ⟨rfl, hF, hO⟩; have HO3 := Lib.hid hO; have HF := Lib.hid hF; clear hO hF))
      go_ret
      refine ⟨rfl, by rw [HE.out]; exact HF.out, ((HO1.out.then H.out.lt HO2.out).trans HO3.out (fun _ _ h => h))⟩
    | true =>
      have HE := Lib.hid (HW.out.trans (if_neg (by rw [ho]; simp)))
      rw [ho] at co
      clear HW HS hs ho
      go_enter Tryz.func129, Tryz.ntmps129
      go_wp2_with (go_at_call 59; (with_reducible refine c.out.mono ?_); rintro e w' ⟨rfl, rfl⟩)
      go_ret
      refine ⟨rfl, by rw [HE.out]; exact H2.out, HO1.out⟩
  · rw [decide_eq_false hs] at c2
    have HE := Lib.hid (HW.out.trans (if_neg (fun q => hs (HS.out.mpr q.2))))
    cases ho : (T t).o with
    | false =>
      rw [ho] at co
      clear HW HS hs ho
      go_enter Tryz.func129, Tryz.ntmps129
      go_wp2_with (first
        | (go_at_call 59; (with_reducible refine c.out.mono ?_); rintro e w' ⟨rfl, rfl⟩)
        | (go_at_call 130; (with_reducible refine c2.out.mono ?_); rintro e w2 ⟨rfl, hO⟩; have HO2 := Lib.hid hO; have H3 := Lib.hid (H2.out.later hO); clear hO; have cn := H3.out.now))
      go_ret
      refine ⟨rfl, by rw [HE.out]; exact H3.out, (HO1.out.then H.out.lt HO2.out)⟩
    | true =>
      rw [ho] at co
      clear HW HS hs ho
      go_enter Tryz.func129, Tryz.ntmps129
      go_wp2_with (go_at_call 59; (with_reducible refine c.out.mono ?_); rintro e w' ⟨rfl, rfl⟩)
      go_ret
      refine ⟨rfl, by rw [HE.out]; exact H2.out, HO1.out⟩

theorem leave_no (h : DeadAt w p o D T n) (t : Int) (ht : ¬ isTask T t) :
    Calls Tryz.prog 128 #[.pointer (some ⟨p, o, none⟩), .int .i64 t] w fun e w' => e = .returned (.int .i64 4) ∧ w = w' := by
  have c := Lib.hid (find_no h t ht)
  clear h ht
  go_enter Tryz.func128, Tryz.ntmps128
  go_wp2_with (go_at_call 59; (with_reducible refine c.out.mono ?_); rintro e w' ⟨rfl, rfl⟩)
  go_ret
  exact ⟨rfl, rfl⟩

theorem leave_yes (h : DeadAt w p o D T n) (t : Nat) (h1 : 1 ≤ t) (h2 : t ≤ 16) (hc : (T t).p ≠ 0) :
    Calls Tryz.prog 128 #[.pointer (some ⟨p, o, none⟩), .int .i64 t] w (DKeep w p o D (.int .i64 0) (upd T t noTk) n) := by
  have c := Lib.hid (find_yes h t h1 h2 hc)
  have H := Lib.hid h
  have cb := h.cb t (by omega)
  have cp := h.cp t (by omega)
  have cl := h.cl t (by omega)
  have cd := h.cd t (by omega)
  have cr := h.cr t (by omega)
  have co := h.co t (by omega)
  have fz := h.frozen
  clear h hc
  go_enter Tryz.func128, Tryz.ntmps128
  go_wp2_with (go_at_call 59; (with_reducible refine c.out.mono ?_); rintro e w' ⟨rfl, rfl⟩)
  go_ret
  exact ⟨rfl, H.out.set_task t (by omega) 0 0 0 0 false false, only_set6 w p o (t * 6) (t * 6 + 1) (t * 6 + 2) (t * 6 + 3) (t * 6 + 4) (t * 6 + 5) _ _ _ _ _ _ (by omega) (by omega) (by omega) (by omega) (by omega) (by omega)⟩

/-- May a task reserve this? -/
def Good (t b q : Int) : Prop := 1 ≤ t ∧ t ≤ 16 ∧ 1 ≤ q ∧ q ≤ 30 ∧ 1 ≤ b ∧ b ≤ q
instance (t b q : Int) : Decidable (Good t b q) := by unfold Good; exact inferInstance

theorem add_bad (h : DeadAt w p o D T n) (t b q : Int) (hb : ¬ Good t b q) :
    Calls Tryz.prog 29 #[.pointer (some ⟨p, o, none⟩), .int .i64 t, .int .i64 b, .int .i64 q] w fun e w' => e = .returned (.int .i64 1) ∧ w = w' := by
  clear h
  have hb' : t < 1 ∨ 16 < t ∨ q < 1 ∨ 30 < q ∨ b < 1 ∨ q < b := by
    apply Decidable.byContradiction; intro hh; exact hb ⟨by omega, by omega, by omega, by omega, by omega, by omega⟩
  clear hb
  by_cases h1 : t < 1
  · clear hb'
    go_enter Tryz.func29, Tryz.ntmps29
    go_wp2
    go_ret
    exact ⟨rfl, rfl⟩
  by_cases h2 : 16 < t
  · clear hb'
    go_enter Tryz.func29, Tryz.ntmps29
    go_wp2
    go_ret
    exact ⟨rfl, rfl⟩
  by_cases h3 : q < 1
  · clear hb'
    go_enter Tryz.func29, Tryz.ntmps29
    go_wp2
    go_ret
    exact ⟨rfl, rfl⟩
  by_cases h4 : 30 < q
  · clear hb'
    go_enter Tryz.func29, Tryz.ntmps29
    go_wp2
    go_ret
    exact ⟨rfl, rfl⟩
  by_cases h5 : b < 1
  · clear hb'
    go_enter Tryz.func29, Tryz.ntmps29
    go_wp2
    go_ret
    exact ⟨rfl, rfl⟩
  have h6 : q < b := by omega
  clear hb'
  go_enter Tryz.func29, Tryz.ntmps29
  go_wp2
  go_ret
  exact ⟨rfl, rfl⟩

theorem add_there (h : DeadAt w p o D T n) (t : Nat) (b q : Int) (hb : Good t b q) (hc : (T t).p ≠ 0) :
    Calls Tryz.prog 29 #[.pointer (some ⟨p, o, none⟩), .int .i64 t, .int .i64 b, .int .i64 q] w fun e w' => e = .returned (.int .i64 5) ∧ w = w' := by
  obtain ⟨b1, b2, b3, b4, b5, b6⟩ := hb
  have c := Lib.hid (find_yes h t (by omega) (by omega) hc)
  have q1 : ¬ (t : Int) < 1 := by omega
  have q2 : ¬ 16 < (t : Int) := by omega
  have q3 : ¬ q < 1 := by omega
  have q4 : ¬ 30 < q := by omega
  have q5 : ¬ b < 1 := by omega
  have q6 : ¬ q < b := by omega
  clear h hc
  go_enter Tryz.func29, Tryz.ntmps29
  go_wp2_with (go_at_call 59; (with_reducible refine c.out.mono ?_); rintro e w' ⟨rfl, rfl⟩)
  go_ret
  exact ⟨rfl, rfl⟩

/-- A task that comes. -/
def came (b q n : Int) : Tk := ⟨b, q, b, n + q, true, false⟩
set_option maxRecDepth 100000 in
theorem add_yes (h : DeadAt w p o D T n) (t : Nat) (b q : Int) (hb : Good t b q) (hc : (T t).p = 0) (n0 : 0 ≤ n) (nB : n ≤ 8000000000000000000) :
    Calls Tryz.prog 29 #[.pointer (some ⟨p, o, none⟩), .int .i64 t, .int .i64 b, .int .i64 q] w (DKeep w p o D (.int .i64 0) (upd T t (came b q n)) n) := by
  obtain ⟨b1, b2, b3, b4, b5, b6⟩ := hb
  have H := Lib.hid h
  have c := Lib.hid (find_no h (t : Int) (fun hh => hh.2.2 (by simpa using hc)))
  have q1 : ¬ (t : Int) < 1 := by omega
  have q2 : ¬ 16 < (t : Int) := by omega
  have q3 : ¬ q < 1 := by omega
  have q4 : ¬ 30 < q := by omega
  have q5 : ¬ b < 1 := by omega
  have q6 : ¬ q < b := by omega
  have q7 : (t : Int) < 17 := by omega
  have fz := h.frozen
  have cb := h.cb t (by omega)
  have cp := h.cp t (by omega)
  have cl := h.cl t (by omega)
  have cd := h.cd t (by omega)
  have cr := h.cr t (by omega)
  have co := h.co t (by omega)
  have H2 := Lib.hid (h.set_task t (by omega) b q 0 0 true false)
  have O2 := Lib.hid (only_set6 w p o (t * 6) (t * 6 + 1) (t * 6 + 2) (t * 6 + 3) (t * 6 + 4) (t * 6 + 5) (.int .i64 b) (.int .i64 q) (.int .i64 0) (.int .i64 0) (.bool true) (.bool false) (by omega) (by omega) (by omega) (by omega) (by omega) (by omega))
  have c3 := Lib.hid (fun wx (hx : DeadAt wx p o D (upd T t ⟨b, q, 0, 0, true, false⟩) n) => fill_any hx t (by omega) n n0 (by omega) (by rw [upd_same]; show 0 ≤ q; omega) (by rw [upd_same]; exact b4))
  simp only [upd_same, upd_upd, fill] at c3
  clear h hc
  go_enter Tryz.func29, Tryz.ntmps29
  go_wp2_with (go_at_call 59; (with_reducible refine c.out.mono ?_); rintro e w' ⟨rfl, rfl⟩)
  clear fz cb cp cl cd cr co
  have cn := H2.out.now
  generalize ((((((w.setCell ⟨p, o + t * 6, none⟩ (.int .i64 b)).setCell ⟨p, o + t * 6 + 1, none⟩ (.int .i64 q)).setCell ⟨p, o + t * 6 + 2, none⟩ (.int .i64 0)).setCell ⟨p, o + t * 6 + 3, none⟩ (.int .i64 0)).setCell ⟨p, o + t * 6 + 4, none⟩ (.bool true)).setCell ⟨p, o + t * 6 + 5, none⟩ (.bool false)) = w2 at *
  refine wp_region_still_tail 9 (by kernel_rfl) (by kernel_rfl) ?_
  have H3 : Hid (DeadAt w2.drew p o D (upd T t ⟨b, q, 0, 0, true, false⟩) n) := Lib.hid (H2.out.later (Only.refl _ _).drew)
  have O3 : Hid (Within p o 103 w w2.drew) := Lib.hid O2.out.drew
  clear cn
  have cn := H3.out.now
  show wpStill _ _ w2.drew (fun a' => wpList _ _ _ _ a' w2.drew) _ _
  generalize w2.drew = w3 at *
  simp only [List.take_succ_cons, List.take_zero, List.drop_succ_cons, List.drop_zero]
  repeat still_step
  refine wpStill_nil ?_
  go_wp2_with (go_at_call 58; (with_reducible refine (c3.out _ H3.out).mono ?_); rintro e w4 ⟨rfl, hF, hO⟩; have HO4 := Lib.hid hO; have HF := Lib.hid hF; clear hO hF)
  go_ret
  exact ⟨rfl, HF.out, O3.out.trans HO4.out (fun _ _ h => h)⟩

theorem tick_any {B : Int} (h : DeadAt w p o D T n) (hb : Fit T B) (hB : B ≤ 8000000000000000) (n0 : 0 ≤ n) (nB : n ≤ 8000000000000000) :
    Calls Tryz.prog 25 #[.pointer (some ⟨p, o, none⟩)] w (DKeep w p o D (.int .i64 (pick T : Nat)) (tick T n) (n + 1)) := by
  have H := Lib.hid h
  have k := Lib.hid (pick_any h)
  have hl := pick_lt T
  have HB := Lib.hid hb
  have e1 := pickErr_yes (T := T)
  have e2 := pickErr_no (T := T)
  have HT : Hid (tick T n = if pick T = 0 then past T n else past (upd T (pick T) (use (T (pick T)))) n) := Lib.hid rfl
  generalize pickErr T = er at *
  clear h hb
  by_cases hm : pick T = 0
  · have e := e2 hm
    subst e
    have HE := Lib.hid (HT.out.trans (if_pos hm))
    have HM := Lib.hid hm
    rw [hm] at k
    have c3 := Lib.hid (fun wx (hx : DeadAt wx p o D T n) => pass_any hx HB.out (by omega) n0 (by omega))
    clear e1 e2 HT
    go_enter Tryz.func25, Tryz.ntmps25
    go_wp2_with (first
      | (go_at_call 44; (with_reducible refine k.out.mono ?_); rintro e w1 ⟨rfl, hO⟩; have HO := Lib.hid hO; have H2 := Lib.hid (H.out.later hO); clear hO)
      | (go_at_call 28; (with_reducible refine (c3.out _ H2.out).mono ?_); rintro e w4 ⟨rfl, hF, hO⟩; have HO4 := Lib.hid hO; have HF := Lib.hid hF; clear hO hF))
    go_ret
    exact ⟨by rw [HM.out]; rfl, by rw [HE.out]; exact HF.out, (Within.of H.out.lt HO.out).trans HO4.out (fun _ _ h => h)⟩
  · have e := e1 hm
    subst e
    have HE := Lib.hid (HT.out.trans (if_neg hm))
    obtain ⟨m, hmm⟩ : ∃ m, pick T = m := ⟨_, rfl⟩
    have HM := Lib.hid hmm
    have HU := Lib.hid (HB.out.used hm)
    rw [hmm] at k HE hl hm HU
    have l0 := HB.out.l m hl
    have b0 := HB.out.b m hl
    have p0 := HB.out.p m hl
    have g1 : (m : Int) < 17 := by omega
    have c2 := Lib.hid (fun wx (hx : DeadAt wx p o D T n) => use_any hx m hl l0.1 (by omega))
    have c3 := Lib.hid (fun wx (hx : DeadAt wx p o D (upd T m (use (T m))) n) => pass_any hx HU.out (by omega) n0 (by omega))
    clear e1 e2 HT hmm
    go_enter Tryz.func25, Tryz.ntmps25
    go_wp2_with (first
      | (go_at_call 44; (with_reducible refine k.out.mono ?_); rintro e w1 ⟨rfl, hO⟩; have HO := Lib.hid hO; have H2 := Lib.hid (H.out.later hO); clear hO)
      | (go_at_call 56; (with_reducible refine (c2.out _ H2.out).mono ?_); rintro e w3 ⟨rfl, hF, hO⟩; have HO3 := Lib.hid hO; have HF3 := Lib.hid hF; clear hO hF)
      | (go_at_call 28; (with_reducible refine (c3.out _ HF3.out).mono ?_); rintro e w4 ⟨rfl, hF, hO⟩; have HO4 := Lib.hid hO; have HF := Lib.hid hF; clear hO hF))
    go_ret
    exact ⟨by rw [HM.out]; rfl, by rw [HE.out]; exact HF.out, ((Within.of H.out.lt HO.out).trans HO3.out (fun _ _ h => h)).trans HO4.out (fun _ _ h => h)⟩
end
end Go.Proofs.YtckaebpcghaobaaGreat.De
/- Rows of integers that a call makes: the numbers of a slice, its cells, one more appended. -/
namespace Go.Proofs.YtckaebpcghaobaaGreat
open Go.ChangeShapes Go.WideShapes Go.ChangeAt Go.RowKit
set_option linter.unusedVariables false

theorem Tryz.infoInt : (Tryz.prog.info? 3).map (fun i => (i.zero, i.size, i.bytes)) = some (some (.int .i64 0), 1, 8) := by kernel_rfl

/-- The cells of a row of numbers. -/
def numCells (xs : List Int) : List Value := xs.map (Value.int .i64)

theorem numCells_len (xs : List Int) : (numCells xs).length = xs.length := by simp [numCells]
theorem numCells_snoc (xs : List Int) (x : Int) : numCells (xs ++ [x]) = numCells xs ++ [.int .i64 x] := by simp [numCells]

/-- A slice of the call's own: its numbers are xs, its row lies from block base on. -/
def Ints (w : World) (base : Nat) (v : Value) (xs : List Int) : Prop := w.ownsRow base 3 1 v xs.length (numCells xs)

theorem ints_nil (w : World) (base : Nat) : Ints w base (.slice none 0 0) [] := World.ownsRow_nil w base 3 1

theorem Ints.shape {w : World} {base : Nat} {v : Value} {xs : List Int} (h : Ints w base v xs) : ∃ a c, v = .slice a xs.length c ∧ (a = none → xs = []) ∧ ∀ ad, a = some ad → ∃ g, ad = ⟨g, 0, none⟩ ∧ base ≤ g ∧ g < w.heap.size := by
  rcases h.2 with ⟨rfl, h0⟩ | ⟨g, cap, cur, rfl, hb, hg, _⟩
  · exact ⟨none, 0, by rw [h0], fun _ => List.length_eq_zero_iff.1 h0, (fun _ e => by cases e)⟩
  · exact ⟨some ⟨g, 0, none⟩, cap, rfl, (fun e => by cases e), (fun ad e => by cases e; exact ⟨g, rfl, hb, block_there hg⟩)⟩

theorem Ints.cell {w : World} {base : Nat} {v : Value} {xs : List Int} (h : Ints w base v xs) {j : Nat} (hj : j < xs.length) : ∃ g, v.ownBlock = some g ∧ w.cell? ⟨g, j, none⟩ = some (.int .i64 (xs.getD j 0)) := by
  rcases h.2 with ⟨rfl, h0⟩ | ⟨g, cap, cur, rfl, hb, hg, h1, h2, h3, h4⟩
  · omega
  · refine ⟨g, rfl, ?_⟩
    rw [cell_at hg]
    have : cur.toList[j]? = (numCells xs)[j]? := by
      rw [← h4, List.getElem?_take_of_lt (by omega)]
    rw [← Array.getElem?_toList, this]
    simp [numCells, List.getD, hj]

theorem Ints.at_block {w : World} {base : Nat} {v : Value} {xs : List Int} (h : Ints w base v xs) {n : Nat} (hn : xs.length = n) (hx : 0 < n) : ∃ g c, v = .slice (some ⟨g, 0, none⟩) n c ∧ base ≤ g ∧ g < w.heap.size ∧ Ints w base (.slice (some ⟨g, 0, none⟩) n c) xs := by
  subst hn
  obtain ⟨a, c, rfl, h1, h2⟩ := h.shape
  cases a with
  | none => rw [h1 rfl] at hx; simp at hx
  | some ad =>
    obtain ⟨g, rfl, hb, hg⟩ := h2 ad rfl
    exact ⟨g, c, rfl, hb, hg, h⟩

theorem Ints.keep {S : Nat → Prop} {w w' : World} {base : Nat} {v : Value} {xs : List Int} (h : Ints w base v xs) (hO : Only S w w') (hS : ∀ g, v.ownBlock = some g → ¬ S g) : Ints w' base v xs := owns_kept h hO hS

theorem Ints.later {w w' : World} {base : Nat} {v : Value} {xs : List Int} (h : Ints w base v xs) (hO : Only (fun _ => False) w w') : Ints w' base v xs := h.keep hO (fun _ _ e => e)

theorem Ints.base {w : World} {b b' : Nat} {v : Value} {xs : List Int} (h : Ints w b v xs) (hb : b' ≤ b) : Ints w b' v xs := owns_base h hb

theorem Ints.block {w : World} {base : Nat} {v : Value} {xs : List Int} (h : Ints w base v xs) {g : Nat} (hg : v.ownBlock = some g) : base ≤ g ∧ g < w.heap.size := h.lt g hg

/-- A slice whose numbers are xs, wherever they lie. -/
def Nums (w : World) (v : Value) (xs : List Int) : Prop :=
  ∃ a c, v = .slice a xs.length c ∧ ∀ j, j < xs.length → ∃ b off, a = some ⟨b, off, none⟩ ∧ w.cell? ⟨b, off + j, none⟩ = some (.int .i64 (xs.getD j 0))

theorem Ints.nums {w : World} {base : Nat} {v : Value} {xs : List Int} (h : Ints w base v xs) : Nums w v xs := by
  obtain ⟨a, c, rfl, h1, h2⟩ := h.shape
  refine ⟨a, c, rfl, fun j hj => ?_⟩
  obtain ⟨g, hg, hc⟩ := h.cell hj
  cases a with
  | none => cases hg
  | some ad =>
    obtain ⟨g', rfl, -⟩ := h2 ad rfl
    cases hg
    exact ⟨g', 0, rfl, by rw [Nat.zero_add]; exact hc⟩

theorem Nums.at {w : World} {a : Option Addr} {n c : Nat} {xs : List Int} (h : Nums w (.slice a n c) xs) {j : Nat} (hj : j < xs.length) : ∃ b off, a = some ⟨b, off, none⟩ ∧ b < w.heap.size ∧ w.cell? ⟨b, off + j, none⟩ = some (.int .i64 (xs.getD j 0)) := by
  obtain ⟨a', c', e, h1⟩ := h
  cases e
  obtain ⟨b, off, rfl, hc⟩ := h1 j hj
  exact ⟨b, off, rfl, block_lt hc, hc⟩

theorem Nums.keep {S : Nat → Prop} {w w' : World} {v : Value} {xs : List Int} (h : Nums w v xs) (hO : Only S w w') (hS : ∀ a l c, v = .slice (some a) l c → ¬ S a.block) : Nums w' v xs := by
  obtain ⟨a, c, rfl, h1⟩ := h
  refine ⟨a, c, rfl, fun j hj => ?_⟩
  obtain ⟨b, off, rfl, hc⟩ := h1 j hj
  have hb : b < w.heap.size := block_lt hc
  refine ⟨b, off, rfl, ?_⟩
  have := hO.block b hb (hS _ _ _ rfl)
  rw [← hc]
  unfold World.cell?
  rw [this]

theorem Nums.later {w w' : World} {v : Value} {xs : List Int} (h : Nums w v xs) (hO : Only (fun _ => False) w w') : Nums w' v xs := h.keep hO (fun _ _ _ _ e => e)

/-- A slice of numbers that came in, cut at its first m. -/
theorem nums_cut {w : World} {a : Option Addr} {len cap : Nat} {zs : List Int} (h : IsRow .i64 w a len cap zs) (m : Nat) :
    ∃ xs : List Int, xs.length = min len m ∧ Nums w (.slice a xs.length cap) xs ∧ len ≤ cap ∧ cap ≤ 9223372036854775807 := by
  have hcap : len ≤ cap ∧ cap ≤ maxLen := by
    rcases h with ⟨h1, h2, h3, h4⟩ | ⟨x, rfl, h1, h2, h3, h4, h5⟩
    · subst h2 h3; exact ⟨Nat.le_refl _, by unfold maxLen; omega⟩
    · exact ⟨h1, h2⟩
  rcases row_cases h with h0 | ⟨b, off, ys, e, hl, hne, hc, hb, hm, hw, hcell⟩
  · subst h0
    exact ⟨[], by simp, ⟨a, cap, rfl, fun j hj => absurd hj (Nat.not_lt_zero _)⟩, hcap.1, hcap.2⟩
  · refine ⟨ys.take m, by rw [List.length_take, hl]; omega, ⟨a, cap, rfl, fun j hj => ⟨b, off, e, ?_⟩⟩, hcap.1, hcap.2⟩
    rw [List.length_take] at hj
    rw [hcell j (by omega)]
    congr 2
    simp [List.getD, show j < m by omega]

theorem Nums.nil (w : World) : Nums w (.slice none 0 0) [] := ⟨none, 0, rfl, fun j hj => absurd hj (Nat.not_lt_zero _)⟩

/-- A slice of numbers laid by the call in a block of its own. -/
theorem nums_block {w : World} {b : Nat} {cs : Array Value} {t : TypeId} {fr : Nat × Nat} {xs : List Int} {c : Nat} (h : w.heap[b]? = some (.cells cs t fr)) (hc : cs.toList = numCells xs) : Nums w (.slice (some ⟨b, 0, none⟩) xs.length c) xs := by
  refine ⟨_, c, rfl, fun j hj => ⟨b, 0, rfl, ?_⟩⟩
  rw [cell_at h, Nat.zero_add, ← Array.getElem?_toList, hc]
  simp [numCells, List.getD, hj]

theorem one_num (x : Int) : ∀ u ∈ ([.int .i64 x] : List Value), u.oneCell' = true := by intro u hu; simp at hu; subst hu; rfl

theorem max_of {n : Nat} (h : n ≤ 17000000000000) : n ≤ maxLen ∧ n * 8 ≤ 140737488355328 := by unfold maxLen; omega
end Go.Proofs.YtckaebpcghaobaaGreat
/- append(a, b...) of slices of numbers, the first of the call's own. -/
namespace Go.Proofs.YtckaebpcghaobaaGreat
open Go.ChangeShapes Go.WideShapes Go.ChangeAt Go.RowKit
set_option linter.unusedVariables false

theorem append_nums {w : World} {ops : Array Oper} {rest : List Oper} {o : Oper} {a : Act} {Q : Exit → Act → World → Prop} (hgd : o.guard = none) (s x : Operand)
    (ho : o.op = .call { callee := .builtin .append, args := #[s, x], argTypes := #[37, 37] })
    (base : Nat) (v vx : Value) (xs zs : List Int) (hs : a.eval s = v) (hx : a.eval x = vx) (hown : Ints w base v xs) (hr : Nums w vx zs) (hnil : ∀ l c, vx = .slice none l c → c = 0)
    (hn : xs.length + zs.length ≤ 17000000000000) (hbase : base ≤ w.heap.size)
    (h : ∀ v' w', Ints w' base v' (xs ++ zs) → Only (fun k => v.ownBlock = some k) w w' → wpList Tryz.prog ops Q rest (a.put o.dst v') w') : wpList Tryz.prog ops Q (o :: rest) a w := by
  obtain ⟨i0, hi, hz0, hz1, hz2⟩ := info_parts Tryz.infoInt
  obtain ⟨ad, cap, rfl, h2⟩ := hr
  cases ad with
  | none =>
    have hz : zs = [] := by
      by_cases e : zs = []
      · exact e
      · obtain ⟨b, off, hh, _⟩ := h2 0 (List.length_pos_iff.2 e); cases hh
    subst hz
    have := hnil _ _ rfl; subst this
    refine wpList_append_own_none hgd s x 37 ho base 3 i0 1 Tryz.underlying37 hi v xs.length (numCells xs) hs hown hx ?_
    exact h v w (by rw [List.append_nil]; exact hown) (Only.refl _ w)
  | some ad =>
    have hlen : (numCells zs).length = zs.length := numCells_len zs
    refine wpList_append_own w hgd s x 37 ho base 3 i0 (.int .i64 0) 1 8 Tryz.underlying37 hi hz0 hz1 hz2 rfl (by decide) v xs.length (numCells xs) hs hown ad zs.length cap (numCells zs) hx (by simp [numCells]) ?_ (by simp [numCells]; intro z _; rfl) (max_of hn).1 (max_of hn).2 hbase ?_
    · intro j u hj
      have hlt : j < zs.length := by
        by_cases hlt : j < zs.length
        · exact hlt
        · rw [List.getElem?_eq_none (by omega)] at hj; cases hj
      obtain ⟨b, off, hh, hc⟩ := h2 j hlt
      cases hh
      rw [add_plain, hc]
      simp [numCells, List.getElem?_eq_getElem hlt] at hj
      simp [List.getD, List.getElem?_eq_getElem hlt, hj]
    · intro v' w' hown' hg _
      refine h v' w' ?_ (Only.of_grown hg (fun k hk => hk))
      unfold Ints
      rw [List.length_append, show numCells (xs ++ zs) = numCells xs ++ numCells zs by simp [numCells]]
      exact hown'

theorem Ints.nil_cap {w : World} {base : Nat} {v : Value} {xs : List Int} (h : Ints w base v xs) : ∀ l c, v = .slice none l c → c = 0 := by
  intro l c e
  rcases h.2 with ⟨rfl, h0⟩ | ⟨g, cap, cur, rfl, _⟩
  · cases e; rfl
  · cases e
end Go.Proofs.YtckaebpcghaobaaGreat
/- append(a, x) of one number; a number of one's own row set, read. -/
namespace Go.Proofs.YtckaebpcghaobaaGreat
open Go.ChangeShapes Go.WideShapes Go.ChangeAt Go.RowKit Go.Maps
set_option linter.unusedVariables false

/-- append(a, x): one number more, which lies in a block of its own. -/
theorem append_one {w : World} {ops : Array Oper} {rest : List Oper} {o : Oper} {a : Act} {Q : Exit → Act → World → Prop} (hgd : o.guard = none) (s x : Operand)
    (ho : o.op = .call { callee := .builtin .append, args := #[s, x], argTypes := #[37, 37] })
    (base b c : Nat) (v : Value) (S : List Int) (y : Int) (hs : a.eval s = v) (hx : a.eval x = .slice (some ⟨b, 0, none⟩) 1 c) (hown : Ints w base v S) (hb : w.heap[b]? = some (.cells #[.int .i64 y] 3 (0, 0)))
    (hn : S.length + 1 ≤ 17000000000000) (hbase : base ≤ w.heap.size)
    (h : ∀ v' w', Ints w' base v' (S ++ [y]) → Only (fun k => v.ownBlock = some k) w w' → (∀ k, v'.ownBlock = some k → v.ownBlock = some k ∨ w.heap.size ≤ k) → wpList Tryz.prog ops Q rest (a.put o.dst v') w') : wpList Tryz.prog ops Q (o :: rest) a w := by
  obtain ⟨i0, hi, hz0, hz1, hz2⟩ := info_parts Tryz.infoInt
  refine wpList_append_lies w hgd s x 37 ho base 3 i0 (.int .i64 0) 1 8 Tryz.underlying37 hi hz0 hz1 hz2 rfl (by decide) v S.length (numCells S) hs hown ⟨b, 0, none⟩ 1 c [.int .i64 y] hx rfl ?_ (one_num y) Nat.one_pos (max_of hn).1 (max_of hn).2 hbase _ rfl ?_
  · intro j u hj
    rw [add_plain, cell_at hb, Nat.zero_add, ← Array.getElem?_toList]
    exact hj
  · intro g' cap' w' hown' hg hat _
    refine h _ w' ?_ (Only.of_grown hg (fun k hk => hk)) (fun k hk => by cases hk; exact hat.imp_right (fun e => by rw [e]; exact Nat.le_refl _))
    unfold Ints
    rw [List.length_append, numCells_snoc]
    exact hown'

theorem ints_set {w : World} {base g n c : Nat} {xs : List Int} (h : Ints w base (.slice (some ⟨g, 0, none⟩) n c) xs) (j : Nat) (x : Int) : Ints (w.setCell ⟨g, j, none⟩ (.int .i64 x)) base (.slice (some ⟨g, 0, none⟩) n c) (xs.set j x) := by
  obtain ⟨h1, h2⟩ := h
  refine ⟨by rw [numCells_len, List.length_set, Nat.mul_one], ?_⟩
  rcases h2 with ⟨e, _⟩ | ⟨g', cap, cur, e, hb, hg, r1, r2, r3, r4⟩
  · cases e
  · cases e
    right
    refine ⟨g, c, _, by rw [List.length_set], hb, heap_setCell_same w g j cur _ _ hg, by rw [List.length_set]; exact r1, r2, by simpa using r3, ?_⟩
    rw [Array.toList_setIfInBounds, List.take_set, List.length_set, r4]
    unfold numCells
    rw [List.map_set]

theorem ints_frozen {w : World} {base g n c : Nat} {xs : List Int} (h : Ints w base (.slice (some ⟨g, 0, none⟩) n c) xs) (j : Nat) : w.frozen? ⟨g, j, none⟩ = false := by
  obtain ⟨cur, hg⟩ := owns_type h rfl
  exact frozen_at hg j

theorem ints_cell {w : World} {base g n c : Nat} {xs : List Int} (h : Ints w base (.slice (some ⟨g, 0, none⟩) n c) xs) {j : Nat} (hj : j < xs.length) : w.cell? ⟨g, j, none⟩ = some (.int .i64 (xs.getD j 0)) := by
  obtain ⟨g', e, hc⟩ := h.cell hj
  cases e
  exact hc
end Go.Proofs.YtckaebpcghaobaaGreat
