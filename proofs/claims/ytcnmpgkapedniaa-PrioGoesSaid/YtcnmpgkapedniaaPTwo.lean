/- Two classes of queues side by side in memory. -/
import Derived.Test.YtcnmpgkapedniaaPLaw
import Derived.Test.YtcnmpgkapedniaaPGo
namespace Go.Proofs.Ytcnmpgkapedniaa.Pr
open Go.ChangeShapes Go.WideShapes Go.ChangeAt Go.RowKit Go.Maps
set_option linter.unusedVariables false

/-- Queues Q in block p and queues R in block b, both of the call's own. -/
structure Two (w0 w : World) (p T : Nat) (V : Nat → Value) (Q : Qs) (b T' : Nat) (U : Nat → Value) (R : Qs) : Prop where
  one : QAt w p 0 T V Q
  two : QAt w b 0 T' U R
  apart : ∀ x, Foot p V x → ¬ Foot b U x
  own1 : ∀ x, Foot p V x → w0.heap.size ≤ x
  own2 : ∀ x, Foot b U x → w0.heap.size ≤ x
  only : Only (fun _ => False) w0 w

section
variable {w0 w w' : World} {p T b T' : Nat} {V U V' U' : Nat → Value} {Q R Q' R' : Qs}

theorem Two.quiet (h : Two w0 w p T V Q b T' U R) (hO : Only (fun _ => False) w w') : Two w0 w' p T V Q b T' U R :=
  ⟨h.one.later hO, h.two.later hO, h.apart, h.own1, h.own2, only_trans h.only hO⟩
theorem Two.swap (h : Two w0 w p T V Q b T' U R) : Two w0 w b T' U R p T V Q := ⟨h.two, h.one, fun x h1 h2 => h.apart x h2 h1, h.own2, h.own1, h.only⟩
theorem Two.step1 (h : Two w0 w p T V Q b T' U R) (hq : QAt w' p 0 T V' Q') (hs : Step p 0 V V' w w') : Two w0 w' p T V' Q' b T' U R := by
  refine ⟨hq, h.two.keep hs.only (fun k hk e => h.apart k e hk), fun x h1 h2 => ?_, fun x hx => ?_, h.own2, h.only.trans hs.only (fun x hx e => by have := h.own1 x e; omega)⟩
  · rcases hs.grow x h1 with e | e
    · exact h.apart x e h2
    · have := h.two.foot_lt h2; omega
  · rcases hs.grow x hx with e | e
    · exact h.own1 x e
    · exact Nat.le_trans h.only.size e
theorem Two.step2 (h : Two w0 w p T V Q b T' U R) (hq : QAt w' b 0 T' U' R') (hs : Step b 0 U U' w w') : Two w0 w' p T V Q b T' U' R' := (h.swap.step1 hq hs).swap
theorem Two.moved1 {e : Ending} {x : Value} (h : Two w0 w p T V Q b T' U R) (hm : Moved p 0 T V Q' x w e w') : e = .returned x ∧ ∃ V', Two w0 w' p T V' Q' b T' U R := by
  obtain ⟨h1, V', h2, h3⟩ := hm
  exact ⟨h1, V', h.step1 h2 h3⟩
theorem Two.moved2 {e : Ending} {x : Value} (h : Two w0 w p T V Q b T' U R) (hm : Moved b 0 T' U R' x w e w') : e = .returned x ∧ ∃ U', Two w0 w' p T V Q b T' U' R' := by
  obtain ⟨h1, V', h2, h3⟩ := hm
  exact ⟨h1, V', h.step2 h2 h3⟩

/-- Beside queues of one's own, a fresh block of eight empty slices. -/
theorem Two.beside (h : Mine w0 w p 0 T V Q) (hT : T' ≠ 3) (cs : Array Value) (hc : ∀ i, i < 8 → cs[i]? = some (.slice none 0 0)) : Two w0 (w.alloc (.cells cs T')) p T V Q w.heap.size T' noV noQ := by
  have hO : Only (fun _ => False) w (w.alloc (.cells cs T')) := (Only.refl _ w).alloc _
  refine ⟨h.at_.later hO, fresh_at w T' hT cs hc, fun x h1 h2 => ?_, h.own, fun x hx => ?_, only_trans h.only hO⟩
  · rw [no_foot h2] at h1
    have := h.at_.foot_lt h1; omega
  · rw [no_foot hx]; exact h.only.size

/-- A row of numbers that lies in neither. -/
structure Third (w : World) (p : Nat) (V : Nat → Value) (b : Nat) (U : Nat → Value) (base : Nat) (v : Value) (xs : List Int) : Prop where
  row : Ints w base v xs
  off1 : ∀ g, v.ownBlock = some g → ¬ Foot p V g
  off2 : ∀ g, v.ownBlock = some g → ¬ Foot b U g
theorem Third.nil (w : World) (p : Nat) (V : Nat → Value) (b : Nat) (U : Nat → Value) (base : Nat) : Third w p V b U base (.slice none 0 0) [] := ⟨ints_nil _ _, (fun g e => by cases e), (fun g e => by cases e)⟩
theorem Third.quiet {base : Nat} {v : Value} {xs : List Int} (h : Third w p V b U base v xs) (hO : Only (fun _ => False) w w') : Third w' p V b U base v xs := ⟨h.row.later hO, h.off1, h.off2⟩
theorem Third.step1 {base : Nat} {v : Value} {xs : List Int} (h : Third w p V b U base v xs) (hs : Step p 0 V V' w w') : Third w' p V' b U base v xs := by
  refine ⟨h.row.keep hs.only (fun g hg => h.off1 g hg), fun g hg e => ?_, h.off2⟩
  rcases hs.grow g e with e | e
  · exact h.off1 g hg e
  · have := (h.row.block hg).2; omega
/-- One number more behind it, in its block or a new one. -/
theorem Third.more {base : Nat} {v v' : Value} {xs ys : List Int} (h : Third w p V b U base v xs) (h2 : Two w0 w p T V Q b T' U R) (hr : Ints w' base v' ys) (hO : Only (fun k => v.ownBlock = some k) w w') (hb : ∀ k, v'.ownBlock = some k → v.ownBlock = some k ∨ w.heap.size ≤ k)
    (hB : w0.heap.size ≤ base) : Third w' p V b U base v' ys ∧ Two w0 w' p T V Q b T' U R := by
  refine ⟨⟨hr, fun g hg e => ?_, fun g hg e => ?_⟩, ⟨h2.one.keep hO (fun k hk e => h.off1 k e hk), h2.two.keep hO (fun k hk e => h.off2 k e hk), h2.apart, h2.own1, h2.own2, h2.only.trans hO (fun x hx e => by have := (h.row.block e).1; omega)⟩⟩
  · rcases hb g hg with e2 | e2
    · exact h.off1 g e2 e
    · have := h2.one.foot_lt e; omega
  · rcases hb g hg with e2 | e2
    · exact h.off2 g e2 e
    · have := h2.two.foot_lt e; omega
end
end Go.Proofs.Ytcnmpgkapedniaa.Pr
