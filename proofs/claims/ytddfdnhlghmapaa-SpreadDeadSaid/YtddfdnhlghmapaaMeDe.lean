/- Tasks with budgets and deadlines, without memory (of package dead, of package spread). -/
import Derived.Test.YtddfdnhlghmapaaMem
namespace Go.Proofs.Ytddfdnhlghmapaa.De
set_option linter.unusedVariables false

/-- A task: its budget, its period (0: there is none), what is left, when it is due, is it ready, is it out? -/
structure Tk where
  b : Int
  p : Int
  l : Int
  d : Int
  r : Bool
  o : Bool

abbrev Tks := Nat → Tk

/-- A function with another value at one place. -/
def upd {α : Type} (f : Nat → α) (k : Nat) (x : α) : Nat → α := fun j => if j = k then x else f j
theorem upd_same {α : Type} (f : Nat → α) (k : Nat) (x : α) : upd f k x k = x := by simp [upd]
theorem upd_other {α : Type} (f : Nat → α) {k j : Nat} (x : α) (h : j ≠ k) : upd f k x j = f j := by simp [upd, h]
theorem upd_upd {α : Type} (f : Nat → α) (k : Nat) (x y : α) : upd (upd f k x) k y = upd f k y := by
  funext j; unfold upd; split <;> simp_all
theorem upd_self {α : Type} (f : Nat → α) (k : Nat) : upd f k (f k) = f := by
  funext j; unfold upd; split <;> simp_all

/-- A task whose budget is filled for a period from s on. -/
def fill (x : Tk) (s : Int) : Tk := ⟨x.b, x.p, x.b, s + x.p, x.r, false⟩
/-- A task that used a tick. -/
def use (x : Tk) : Tk := ⟨x.b, x.p, x.l - 1, x.d, x.r, x.l - 1 == 0⟩
/-- May it not keep what it has left? -/
def Stale (x : Tk) (n : Int) : Prop := x.d ≤ n ∨ x.b * (x.d - n) < x.l * x.p
instance (x : Tk) (n : Int) : Decidable (Stale x n) := by unfold Stale; exact inferInstance
/-- A task behind its waking up. -/
def woke (x : Tk) (n : Int) : Tk := if x.o = false ∧ Stale x n then fill ⟨x.b, x.p, x.l, x.d, true, x.o⟩ n else ⟨x.b, x.p, x.l, x.d, true, x.o⟩
/-- A task behind a tick. -/
def again (x : Tk) (n : Int) : Tk := if x.o = true ∧ x.d ≤ n then fill x x.d else x
/-- The tasks behind a tick, as far as k. -/
def pastTo (T : Tks) (n : Int) (k : Nat) : Tks := fun j => if j < k then again (T j) n else T j
/-- Who goes next, as far as k. -/
def pickTo (T : Tks) : Nat → Nat
  | 0 => 0
  | k + 1 => if (T k).r = true ∧ (T k).o = false ∧ (pickTo T k = 0 ∨ (T k).d < (T (pickTo T k)).d) then k else pickTo T k
/-- Who goes next; 0: nobody. -/
def pick (T : Tks) : Nat := pickTo T 17

theorem pickTo_lt (T : Tks) (k : Nat) : pickTo T k ≤ k - 1 := by
  induction k with
  | zero => simp [pickTo]
  | succ k ih => unfold pickTo; split <;> omega
theorem pick_lt (T : Tks) : pick T < 17 := by have := pickTo_lt T 17; unfold pick; omega

/-- The tasks behind a tick that none of them has. -/
def past (T : Tks) (n : Int) : Tks := pastTo T (n + 1) 17
/-- The tasks behind a tick. -/
def tick (T : Tks) (n : Int) : Tks := if pick T = 0 then past T n else past (upd T (pick T) (use (T (pick T)))) n

/-- All that is in bounds. -/
structure Fit (T : Tks) (B : Int) : Prop where
  b : ∀ t, t < 17 → 0 ≤ (T t).b ∧ (T t).b ≤ (T t).p
  p : ∀ t, t < 17 → (T t).p ≤ 30
  l : ∀ t, t < 17 → 0 ≤ (T t).l ∧ (T t).l ≤ (T t).b
  d : ∀ t, t < 17 → 0 ≤ (T t).d ∧ (T t).d ≤ B + 30
  no : (T 0).p = 0
  rp : ∀ t, t < 17 → (T t).r = true → (T t).p ≠ 0
  bp : ∀ t, t < 17 → (T t).p ≠ 0 → 1 ≤ (T t).b
  lo : ∀ t, t < 17 → (T t).p ≠ 0 → ((T t).o = true ↔ (T t).l = 0)

/-- Is this the number of a task that is there? -/
def isTask (T : Tks) (t : Int) : Prop := 1 ≤ t ∧ t ≤ 16 ∧ (T t.toNat).p ≠ 0
instance (T : Tks) (t : Int) : Decidable (isTask T t) := by unfold isTask; exact inferInstance
end Go.Proofs.Ytddfdnhlghmapaa.De
