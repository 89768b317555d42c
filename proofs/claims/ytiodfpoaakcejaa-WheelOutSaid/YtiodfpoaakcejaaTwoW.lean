/- Two wheels side by side, each in blocks of its own. -/
import Derived.Test.YtiodfpoaakcejaaTimers
namespace Go.Proofs.Ytiodfpoaakcejaa.Wh
open Go.ChangeShapes Go.WideShapes Go.ChangeAt Go.RowKit Go.Maps
open Go.Proofs.Ytiodfpoaakcejaa.Hp
set_option linter.unusedVariables false

structure TwoW (B C D p q : Nat) (t u : Int) (R U : Timers) (w : World) : Prop where
  one : WheelAt (fun k => B ≤ k ∧ k < C) w p t R
  two : WheelAt (fun k => C ≤ k ∧ k < D) w q u U
  bc : B ≤ C
  cd : C ≤ D
  size : D ≤ w.heap.size

section
variable {B C D p q : Nat} {t u : Int} {R U : Timers} {w w' : World}
theorem TwoW.later (h : TwoW B C D p q t u R U w) (hO : Only (fun _ => False) w w') : TwoW B C D p q t u R U w' :=
  ⟨h.one.later hO, h.two.later hO, h.bc, h.cd, Nat.le_trans h.size hO.size⟩
theorem TwoW.stepOne {t' : Int} {R' : Timers} (h : TwoW B C D p q t u R U w) (hw : WheelAt (fun k => B ≤ k ∧ k < C) w' p t' R') (hO : Only (fun k => B ≤ k ∧ k < C) w w') : TwoW B C D p q t' u R' U w' :=
  ⟨hw, h.two.keep hO (fun k _ e f => by omega), h.bc, h.cd, Nat.le_trans h.size hO.size⟩
theorem TwoW.stepTwo {u' : Int} {U' : Timers} (h : TwoW B C D p q t u R U w) (hw : WheelAt (fun k => C ≤ k ∧ k < D) w' q u' U') (hO : Only (fun k => C ≤ k ∧ k < D) w w') : TwoW B C D p q t u' R U' w' :=
  ⟨h.one.keep hO (fun k _ e f => by omega), hw, h.bc, h.cd, Nat.le_trans h.size hO.size⟩
theorem TwoW.thereOne (h : TwoW B C D p q t u R U w) : ∀ k, B ≤ k ∧ k < C → k < w.heap.size := fun k hk => by have := h.size; have := h.cd; omega
theorem TwoW.thereTwo (h : TwoW B C D p q t u R U w) : ∀ k, C ≤ k ∧ k < D → k < w.heap.size := fun k hk => by have := h.size; omega
/-- A row of the call's own that lies behind both wheels stays. -/
theorem TwoW.rowOne {b : Nat} {v : Value} {xs : List Int} (h : TwoW B C D p q t u R U w) (hr : Ints w b v xs) (hb : D ≤ b) (hO : Only (fun k => B ≤ k ∧ k < C) w w') : Ints w' b v xs :=
  hr.keep hO (fun g hg e => by have := (hr.block hg).1; have := h.cd; omega)
theorem TwoW.rowTwo {b : Nat} {v : Value} {xs : List Int} (h : TwoW B C D p q t u R U w) (hr : Ints w b v xs) (hb : D ≤ b) (hO : Only (fun k => C ≤ k ∧ k < D) w w') : Ints w' b v xs :=
  hr.keep hO (fun g hg e => by have := (hr.block hg).1; omega)
theorem TwoW.onlyOne {w0 : World} (h : TwoW B C D p q t u R U w) (hB : w0.heap.size ≤ B) (h0 : Only (fun _ => False) w0 w) (hO : Only (fun k => B ≤ k ∧ k < C) w w') : Only (fun _ => False) w0 w' := only_above h0 hO (fun _ e => Nat.le_trans hB e.1)
theorem TwoW.onlyTwo {w0 : World} (h : TwoW B C D p q t u R U w) (hB : w0.heap.size ≤ B) (h0 : Only (fun _ => False) w0 w) (hO : Only (fun k => C ≤ k ∧ k < D) w w') : Only (fun _ => False) w0 w' := only_above h0 hO (fun _ e => by have := h.bc; omega)
end

/-- Two wheels that have just been made, one behind the other. -/
theorem twoW_made {w w1 w2 : World} {p q : Nat} {a b : Int} {R U : Timers} (h1 : WheelAt (fun k => w.heap.size ≤ k ∧ k < w1.heap.size) w1 p a R) (hO1 : w.heap.size ≤ w1.heap.size)
    (h2 : WheelAt (fun k => w1.heap.size ≤ k ∧ k < w2.heap.size) w2 q b U) (hO2 : Only (fun _ => False) w1 w2) : TwoW w.heap.size w1.heap.size w2.heap.size p q a b R U w2 :=
  ⟨h1.later hO2, h2, hO1, hO2.size, Nat.le_refl _⟩
end Go.Proofs.Ytiodfpoaakcejaa.Wh
