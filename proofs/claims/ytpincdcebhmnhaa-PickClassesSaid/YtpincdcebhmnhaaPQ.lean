/- Queues of numbers side by side in memory: eight slices as cells o .. o + 7 of a block; and what is to be said of such queues. -/
import Derived.Test.YtpincdcebhmnhaaOne
import Derived.Test.YtpincdcebhmnhaaEq
import Derived.Test.YtpincdcebhmnhaaClone
import Derived.IntWalk
namespace Go.Proofs.Ytpincdcebhmnhaa.Pr
open Go.ChangeShapes Go.WideShapes Go.ChangeAt Go.RowKit Go.Maps
set_option linter.unusedVariables false

abbrev Qs := Nat → List Int

/-- A function with another value at one place. -/
def upd {α : Type} (f : Nat → α) (k : Nat) (x : α) : Nat → α := fun j => if j = k then x else f j
theorem upd_same {α : Type} (f : Nat → α) (k : Nat) (x : α) : upd f k x k = x := by simp [upd]
theorem upd_other {α : Type} (f : Nat → α) {k j : Nat} (x : α) (h : j ≠ k) : upd f k x j = f j := by simp [upd, h]
theorem upd_upd {α : Type} (f : Nat → α) (k : Nat) (x y : α) : upd (upd f k x) k y = upd f k y := by
  funext j; unfold upd; split <;> simp_all
theorem upd_self {α : Type} (f : Nat → α) (k : Nat) : upd f k (f k) = f := by
  funext j; unfold upd; split <;> simp_all

/-- Eight queues: cells o .. o + 7 of block p (whose type is T) hold the slices V, and these the numbers Q. -/
structure QAt (w : World) (p o T : Nat) (V : Nat → Value) (Q : Qs) : Prop where
  block : ∃ cs, w.heap[p]? = some (.cells cs T (0, 0)) ∧ ∀ i, i < 8 → cs[o + i]? = some (V i)
  type : T ≠ 3
  row : ∀ i, i < 8 → Ints w 0 (V i) (Q i)
  apart : ∀ i j k, i < 8 → j < 8 → i ≠ j → (V i).ownBlock = some k → (V j).ownBlock ≠ some k

/-- The blocks of such queues. -/
def Foot (p : Nat) (V : Nat → Value) (k : Nat) : Prop := k = p ∨ ∃ i, i < 8 ∧ (V i).ownBlock = some k

/-- What a call that changes queues leaves: nothing else changes, and their blocks are the old ones or new ones. -/
structure Step (p o : Nat) (V V' : Nat → Value) (w w' : World) : Prop where
  only : Only (Foot p V) w w'
  still : ∀ j, j < o ∨ o + 8 ≤ j → w'.cell? ⟨p, j, none⟩ = w.cell? ⟨p, j, none⟩
  grow : ∀ k, Foot p V' k → Foot p V k ∨ w.heap.size ≤ k

theorem cell_kept {S : Nat → Prop} {w w' : World} (h : Only S w w') {p j : Nat} (hp : p < w.heap.size) (hS : ¬ S p) : w'.cell? ⟨p, j, none⟩ = w.cell? ⟨p, j, none⟩ := by
  unfold World.cell?
  rw [h.block p hp hS]

section
variable {w w' : World} {p o T : Nat} {V : Nat → Value} {Q : Qs}

theorem QAt.lt (h : QAt w p o T V Q) : p < w.heap.size := by obtain ⟨cs, h1, -⟩ := h.block; exact block_there h1
theorem QAt.cell (h : QAt w p o T V Q) {i : Nat} (hi : i < 8) : w.cell? ⟨p, o + i, none⟩ = some (V i) := by
  obtain ⟨cs, h1, h2⟩ := h.block
  rw [cell_at h1]; exact h2 i hi
theorem QAt.frozen (h : QAt w p o T V Q) (j : Nat) : w.frozen? ⟨p, j, none⟩ = false := by obtain ⟨cs, h1, -⟩ := h.block; exact frozen_at h1 j
theorem QAt.not_row (h : QAt w p o T V Q) {i : Nat} (hi : i < 8) : (V i).ownBlock ≠ some p := by
  intro e
  obtain ⟨cs, h1, -⟩ := h.block
  obtain ⟨cur, h2⟩ := owns_type (h.row i hi) e
  rw [h1] at h2
  cases h2
  exact h.type rfl
theorem QAt.foot_lt (h : QAt w p o T V Q) {k : Nat} (hk : Foot p V k) : k < w.heap.size := by
  rcases hk with rfl | ⟨i, hi, e⟩
  · exact h.lt
  · exact ((h.row i hi).block e).2
theorem QAt.keep {S : Nat → Prop} (h : QAt w p o T V Q) (hO : Only S w w') (hS : ∀ k, Foot p V k → ¬ S k) : QAt w' p o T V Q := by
  obtain ⟨cs, h1, h2⟩ := h.block
  exact ⟨⟨cs, by rw [hO.block p h.lt (hS p (Or.inl rfl))]; exact h1, h2⟩, h.type, fun i hi => (h.row i hi).keep hO (fun g hg => hS g (Or.inr ⟨i, hi, hg⟩)), h.apart⟩
theorem QAt.later (h : QAt w p o T V Q) (hO : Only (fun _ => False) w w') : QAt w' p o T V Q := h.keep hO (fun _ _ e => e)

theorem Step.refl (p o : Nat) (V : Nat → Value) (w : World) : Step p o V V w w := ⟨Only.refl _ w, fun _ _ => rfl, fun _ h => Or.inl h⟩
theorem Step.later (h : QAt w p o T V Q) (hO : Only (fun _ => False) w w') : Step p o V V w w' :=
  ⟨hO.mono (fun _ _ e => e.elim), fun j _ => cell_kept hO h.lt id, fun _ h => Or.inl h⟩
theorem Step.trans {V' V'' : Nat → Value} {a b c : World} (h : Step p o V V' a b) (k : Step p o V' V'' b c) : Step p o V V'' a c := by
  refine ⟨h.only.trans k.only (fun x hx e => ?_), fun j hj => (k.still j hj).trans (h.still j hj), fun x hx => ?_⟩
  · rcases h.grow x e with e | e
    · exact e
    · omega
  · rcases k.grow x hx with e | e
    · exact h.grow x e
    · exact Or.inr (Nat.le_trans h.only.size e)

/-- One queue's row has changed in its own block. -/
theorem QAt.row_in (h : QAt w p o T V Q) {i : Nat} (hi : i < 8) {S' : List Int} (hr : Ints w' 0 (V i) S') (hO : Only (fun k => (V i).ownBlock = some k) w w') :
    QAt w' p o T V (upd Q i S') ∧ Step p o V V w w' := by
  obtain ⟨cs, h1, h2⟩ := h.block
  have hp : w'.heap[p]? = w.heap[p]? := hO.block p h.lt (h.not_row hi)
  refine ⟨⟨⟨cs, hp.trans h1, h2⟩, h.type, fun j hj => ?_, h.apart⟩, hO.mono (fun k _ e => Or.inr ⟨i, hi, e⟩), fun j _ => cell_kept hO h.lt (h.not_row hi), fun k e => Or.inl e⟩
  by_cases e : j = i
  · subst e; rw [upd_same]; exact hr
  · rw [upd_other _ _ e]
    exact (h.row j hj).keep hO (fun g hg e2 => h.apart j i g hj hi e hg e2)

/-- One queue has got another row, in its own block or in a new one, and this is stored. -/
theorem QAt.row_set (h : QAt w p o T V Q) {i : Nat} (hi : i < 8) {v' : Value} {S' : List Int} (hr : Ints w' 0 v' S') (hO : Only (fun k => (V i).ownBlock = some k) w w')
    (hb : ∀ k, v'.ownBlock = some k → (V i).ownBlock = some k ∨ w.heap.size ≤ k) :
    QAt (w'.setCell ⟨p, o + i, none⟩ v') p o T (upd V i v') (upd Q i S') ∧ Step p o V (upd V i v') w (w'.setCell ⟨p, o + i, none⟩ v') := by
  obtain ⟨cs, h1, h2⟩ := h.block
  have hp : w'.heap[p]? = w.heap[p]? := hO.block p h.lt (h.not_row hi)
  have hlt := h.lt
  have hw := hO.size
  have hO2 : Only (fun k => k = p) w' (w'.setCell ⟨p, o + i, none⟩ v') := Only.setCell (S := fun x => x = p) (Only.refl _ w') (p := ⟨p, o + i, none⟩) rfl _
  have hnp : ∀ k, v'.ownBlock = some k → k ≠ p := by
    rintro k hk rfl
    rcases hb _ hk with e | e
    · exact h.not_row hi e
    · omega
  refine ⟨⟨⟨_, heap_setCell_same w' p (o + i) cs T v' (hp.trans h1), fun j hj => ?_⟩, h.type, fun j hj => ?_, fun a b k ha hb' hab ea eb => ?_⟩, ?_, fun j hj => ?_, fun k hk => ?_⟩
  · rw [Array.getElem?_setIfInBounds]
    by_cases e : j = i
    · subst e
      have : o + j < cs.size := by
        have := h2 j hi
        exact (Array.getElem?_eq_some_iff.1 this).1
      rw [if_pos rfl, if_pos this, upd_same]
    · rw [if_neg (by omega), upd_other _ _ e]; exact h2 j hj
  · by_cases e : j = i
    · subst e
      rw [upd_same, upd_same]
      exact hr.keep hO2 (fun g hg e => hnp g hg e)
    · rw [upd_other _ _ e, upd_other _ _ e]
      refine ((h.row j hj).keep hO (fun g hg e2 => h.apart j i g hj hi e hg e2)).keep hO2 (fun g hg e2 => ?_)
      subst e2; exact h.not_row hj hg
  · by_cases e1 : a = i
    · subst e1
      rw [upd_same] at ea
      rw [upd_other _ _ (Ne.symm hab)] at eb
      rcases hb k ea with e | e
      · exact h.apart a b k ha hb' hab e eb
      · have := ((h.row b hb').block eb).2; omega
    · rw [upd_other _ _ e1] at ea
      by_cases e2 : b = i
      · subst e2
        rw [upd_same] at eb
        rcases hb k eb with e | e
        · exact h.apart a b k ha hb' hab ea e
        · have := ((h.row a ha).block ea).2; omega
      · rw [upd_other _ _ e2] at eb
        exact h.apart a b k ha hb' hab ea eb
  · exact (hO.mono (T := Foot p V) (fun k _ e => Or.inr ⟨i, hi, e⟩)).trans hO2 (fun _ _ e => Or.inl e)
  · rw [show (w'.setCell ⟨p, o + i, none⟩ v').cell? ⟨p, j, none⟩ = w'.cell? ⟨p, j, none⟩ from by
      rw [cell_at (heap_setCell_same w' p (o + i) cs T v' (hp.trans h1)), cell_at (hp.trans h1), Array.getElem?_setIfInBounds, if_neg (by omega)]]
    exact cell_kept hO hlt (h.not_row hi)
  · rcases hk with rfl | ⟨j, hj, e⟩
    · exact Or.inl (Or.inl rfl)
    · by_cases e1 : j = i
      · subst e1
        rw [upd_same] at e
        rcases hb k e with e | e
        · exact Or.inl (Or.inr ⟨j, hj, e⟩)
        · exact Or.inr e
      · rw [upd_other _ _ e1] at e
        exact Or.inl (Or.inr ⟨j, hj, e⟩)
end

/-- The array's cells as one value. -/
def arrOf (V : Nat → Value) : Array Value := #[V 0, V 1, V 2, V 3, V 4, V 5, V 6, V 7]

theorem arrOf_get (V : Nat → Value) (k : Nat) (h : k < 8) : (arrOf V)[k]? = some (V k) := by
  rcases (show k = 0 ∨ k = 1 ∨ k = 2 ∨ k = 3 ∨ k = 4 ∨ k = 5 ∨ k = 6 ∨ k = 7 by omega) with rfl | rfl | rfl | rfl | rfl | rfl | rfl | rfl <;> rfl

theorem load_arr {w : World} {p o T : Nat} {V : Nat → Value} {Q : Qs} (h : QAt w p o T V Q) :
    (loadVar 50 ⟨p, o, none⟩).run Try.prog w = .ok (.agg (arrOf V)) w := by
  have hl : (loadCells ⟨p, o, none⟩ 8).run Try.prog w = .ok ((List.range 8).map V).toArray w :=
    run_loadCells w ⟨p, o, none⟩ 8 V (fun j hj => by rw [add_plain]; exact h.cell hj)
  have hagg : (isAgg 50).run Try.prog w = .ok true w := by kernel_rfl
  rw [show ((List.range 8).map V).toArray = arrOf V from rfl] at hl
  simp [loadVar, Sem.run_bind, hagg, hl]

theorem index_arr (V : Nat → Value) (k : Nat) (hk : k < 8) (w : World) :
    (Instr.index 50 (.agg (arrOf V)) (.int .i64 k)).run Try.prog w = .ok (V k) w := by
  have hsz : (sizeOf 30).run Try.prog w = .ok 1 w := by kernel_rfl
  unfold Instr.index
  rw [Sem.run_bind]
  simp only [asIntOf, Sem.run_pure, Result.andThen_ok, Sem.run_bind, run_underlying Try.underlying50]
  have h1 : (0 : Int) ≤ k ∧ (k : Int) < ((8 : Nat) : Int) := by omega
  rw [if_pos h1]
  rcases (show k = 0 ∨ k = 1 ∨ k = 2 ∨ k = 3 ∨ k = 4 ∨ k = 5 ∨ k = 6 ∨ k = 7 by omega) with rfl | rfl | rfl | rfl | rfl | rfl | rfl | rfl <;> simp [Sem.run_bind, hsz, part, arrOf]

section
variable {P : Program}
/-- A load whose run is known. -/
theorem wpList_load_known {ops : Array Oper} {rest : List Oper} {o : Oper} {a : Act} {w : World} {Q : Exit → Act → World → Prop} (hgd : o.guard = none) (ty : TypeId) (x : Operand) (ho : o.op = .load ty x)
    (ad : Addr) (hx : a.eval x = .pointer (some ad)) (v : Value) (hl : (loadVar ty ad).run P w = .ok v w)
    (h : wpList P ops Q rest (a.put o.dst v) w) : wpList P ops Q (o :: rest) a w := by
  refine wpList_plain hgd fun _ hK => ?_
  unfold Oper.wp execOp
  simp only [ho, hx, Instr.loadAt, Instr.sureAddr, Sem.run_bind, Sem.run_pure, Result.andThen_ok, hl]
  exact hK _ _ h
end

theorem results_tmp3 {fn : Func} {t u v : Tmp} (h : fn.results = #[.tmp t, .tmp u, .tmp v]) (tmps : Array Value) (P : Program) (w : World) :
    (results fn tmps).run P w = .ok (.tuple #[tmps.getD t undef, tmps.getD u undef, tmps.getD v undef]) w := by
  simp [results, h]
end Go.Proofs.Ytpincdcebhmnhaa.Pr
