/- A map from numbers to bools of a call's own. -/
import Derived.Test.YtpincdcebhmnhaaMem
import Derived.Maps.OwnOps
import Derived.Deep.CutBlock
namespace Go.Proofs.Ytpincdcebhmnhaa.Of
open Go.ChangeShapes Go.WideShapes Go.ChangeAt Go.RowKit Go.Maps
set_option linter.unusedVariables false
set_option maxRecDepth 100000

def bkey (t : Int) : Lit := .int .i64 t
theorem bkey_ne {a b : Int} (h : a ≠ b) : bkey a ≠ bkey b := by intro e; cases e; exact h rfl
theorem bkey_lit (a : Int) : WideAt.IsKeyLit (bkey a) := by simp [WideAt.IsKeyLit, bkey]
def bval (b : Bool) : DataW Unit := .lit (.bool b)

theorem keyed_int : Keyed Try.prog 3 := int_keyed Try.underlying3
theorem zero_bool (w : World) : (zeroValue 4).run Try.prog w = .ok (.bool false) w := by kernel_rfl

theorem plain_bool_inv {v : Value} {z : DataW Unit × List MemPlace} (h : plainElem Try.prog 4 v = some z) : ∃ b, v = .bool b ∧ z = (bval b, []) := by
  unfold plainElem at h
  rw [Try.underlying4] at h
  cases v <;> simp at h
  exact ⟨_, rfl, h.symm⟩

/-- A map in block b, of at most n entries, that tells f. -/
def OffAt (w : World) (b n : Nat) (f : Int → Bool) : Prop := ∃ D : DataW Unit, w.ownsMap Try.prog 3 (plainElem Try.prog 4) b n D ∧ IsMap D ∧ ∀ t, D.atKey (bkey t) (bval false) = bval (f t)

section
variable {w w' : World} {b n : Nat} {f : Int → Bool}
theorem OffAt.keep {S : Nat → Prop} (h : OffAt w b n f) (hO : Only S w w') (hS : ¬ S b) : OffAt w' b n f := by
  obtain ⟨D, ⟨es, clock, h1, h2⟩, h3⟩ := h
  exact ⟨D, ⟨es, clock, (hO.block _ (block_there h1) hS).trans h1, h2⟩, h3⟩
theorem OffAt.later (h : OffAt w b n f) (hO : Only (fun _ => False) w w') : OffAt w' b n f := h.keep hO id
theorem OffAt.lt (h : OffAt w b n f) : b < w.heap.size := by obtain ⟨D, ⟨es, clock, h1, h2⟩, h3⟩ := h; exact block_there h1
theorem OffAt.made (w : World) : OffAt (w.alloc (.map #[] 0)) w.heap.size 0 (fun _ => false) := ⟨_, World.ownsMap_made w _ _ _, isMap_empty, fun t => rfl⟩
theorem OffAt.mono (h : OffAt w b n f) {m : Nat} (hm : n ≤ m) : OffAt w b m f := by obtain ⟨D, h1, h2⟩ := h; exact ⟨D, h1.mono hm, h2⟩

theorem OffAt.look (h : OffAt w b n f) (t : Int) (ht : (Lit.int .i64 t).wf = true) : (Instr.lookup 26 (.map (some b)) (.int .i64 t) false).run Try.prog w = .ok (.bool (f t)) w := by
  obtain ⟨D, h1, h2, h3⟩ := h
  obtain ⟨v, ps, hrun, hv⟩ := h1.lookup keyed_int Try.underlying26 (zero_bool w) (plainElem_bool Try.underlying4 false) (keyOf_int_mk Try.underlying3 ht)
  obtain ⟨c, rfl, hc⟩ := plain_bool_inv hv
  have := h3 t
  unfold bkey bval at *
  rw [Prod.mk.injEq] at hc
  rw [this] at hc
  have e : f t = c := by have := hc.1; cases this; rfl
  rw [e]
  exact hrun
end

/-- A number's bool told anew. -/
def updI (f : Int → Bool) (t : Int) (c : Bool) : Int → Bool := fun x => if x = t then c else f x

theorem only_turned {w w' : World} {b : Nat} (h : w.mapTurned w' b) : Only (· = b) w w' :=
  Only.of_grown (S := fun k => k = b) h.grown (fun k hk => by cases hk; rfl)

theorem wpList_off {w : World} {ops : Array Oper} {rest : List Oper} {o : Oper} {a : Act} {Q : Exit → Act → World → Prop} (hg : o.guard = none) (m x v : Operand) (hop : o.op = Op.mapUpdate 26 m x v)
    (b n : Nat) (f : Int → Bool) (hm : a.eval m = .map (some b)) (h : OffAt w b n f) (hn : n < 1000) (t : Int) (c : Bool) (hx : a.eval x = .int .i64 t) (hv : a.eval v = .bool c) (ht : (Lit.int .i64 t).wf = true)
    (hK : ∀ w', OffAt w' b (n + 1) (updI f t c) → Only (· = b) w w' → wpList Try.prog ops Q rest (a.put o.dst undef) w') : wpList Try.prog ops Q (o :: rest) a w := by
  obtain ⟨D, h1, h2, h3⟩ := h
  refine wpList_mapUpdate_in w hg m x v 26 hop 3 4 keyed_int Try.underlying26 _ b n D hm h1 (by unfold maxLen; omega) _ _ _ hx hv (keyOf_int_mk Try.underlying3 ht) _ [] (plainElem_bool Try.underlying4 c) ?_
  intro w' hown hturn
  refine hK w' ⟨_, hown, h2.put _ _, fun y => ?_⟩ (only_turned hturn)
  unfold updI
  by_cases e : y = t
  · subst e; rw [if_pos rfl]; exact atKey_put_same h2 (bkey_lit y) _ _
  · rw [if_neg e, ← h3 y]; exact atKey_put_other (bkey_ne e) _ _
end Go.Proofs.Ytpincdcebhmnhaa.Of
