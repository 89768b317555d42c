/- One number more behind one of the queues: at an append in a walk, and at one in a region that draws its order. -/
import Derived.Test.YtpincdcebhmnhaaPIdx
import Derived.Test.YtpincdcebhmnhaaPDel
namespace Go.Proofs.Ytpincdcebhmnhaa.Pr
open Go.ChangeShapes Go.WideShapes Go.ChangeAt Go.RowKit Go.Maps
set_option linter.unusedVariables false

/-- What is known behind the append, ahead of the store. -/
structure Added (p o T : Nat) (V : Nat → Value) (Q : Qs) (i : Nat) (x : Int) (w : World) (v' : Value) (w' : World) : Prop where
  at_ : QAt (w'.setCell ⟨p, o + i, none⟩ v') p o T (upd V i v') (upd Q i (Q i ++ [x]))
  step : Step p o V (upd V i v') w (w'.setCell ⟨p, o + i, none⟩ v')

theorem added_of {p o T : Nat} {V : Nat → Value} {Q : Qs} {i : Nat} {x : Int} {wr w w' : World} {g c : Nat} (hq : QAt wr p o T V Q) (hi : i < 8) (hO : Only (fun _ => False) wr w)
    (hown : w'.ownsRow 0 3 1 (.slice (some ⟨g, 0, none⟩) ((Q i).length + 1) c) ((Q i).length + 1) (numCells (Q i) ++ [.int .i64 x])) (hg : w.grownBy w' (V i).ownBlock) (hat : (V i).ownBlock = some g ∨ g = w.heap.size) :
    w'.cell? ⟨p, o + i, none⟩ = some (V i) ∧ w'.frozen? ⟨p, o + i, none⟩ = false ∧ Added p o T V Q i x wr (.slice (some ⟨g, 0, none⟩) ((Q i).length + 1) c) w' := by
  have hO2 : Only (fun k => (V i).ownBlock = some k) w w' := Only.of_grown hg (fun k hk => hk)
  have hO3 : Only (fun k => (V i).ownBlock = some k) wr w' := (hO.mono (T := fun k => (V i).ownBlock = some k) (fun _ _ e => e.elim)).trans hO2 (fun _ _ e => e)
  have hr : Ints w' 0 (.slice (some ⟨g, 0, none⟩) ((Q i).length + 1) c) (Q i ++ [x]) := by
    unfold Ints
    rw [List.length_append, show numCells (Q i ++ [x]) = numCells (Q i) ++ [.int .i64 x] from numCells_snoc _ x]
    exact hown
  obtain ⟨h1, h2⟩ := hq.row_set hi hr hO3 (fun k hk => by
    have e : g = k := Option.some.inj hk
    subst e
    rcases hat with e | e
    · exact Or.inl e
    · exact Or.inr (by rw [e]; exact hO.size))
  refine ⟨(cell_kept hO3 hq.lt (hq.not_row hi)).trans (hq.cell hi), ?_, ⟨h1, h2⟩⟩
  obtain ⟨cs, q1, -⟩ := hq.block
  exact frozen_at ((hO3.block p hq.lt (hq.not_row hi)).trans q1) _

theorem step_add {w : World} {ops : Array Oper} {oo : Oper} {a : Act} {K : Act → World → Prop} {R : Exit → Act → World → Prop} {E : Prop} (hgd : oo.guard = none) (s y : Operand)
    (ho : oo.op = .call { callee := .builtin .append, args := #[s, y], argTypes := #[30, 30] })
    (wr : World) (p o T b : Nat) (V : Nat → Value) (Q : Qs) (i : Nat) (x : Int) (hq : QAt wr p o T V Q) (hi : i < 8) (hO : Only (fun _ => False) wr w) (hs : a.eval s = V i) (hy : a.eval y = .slice (some ⟨b, 0, none⟩) 1 1)
    (hb : w.heap[b]? = some (.cells #[.int .i64 x] 3 (0, 0))) (hl : (Q i).length + 1 ≤ 17000000000000)
    (h : ∀ g c w', w'.cell? ⟨p, o + i, none⟩ = some (V i) → w'.frozen? ⟨p, o + i, none⟩ = false → Hid (Added p o T V Q i x wr (.slice (some ⟨g, 0, none⟩) ((Q i).length + 1) c) w') → K (a.put oo.dst (.slice (some ⟨g, 0, none⟩) ((Q i).length + 1) c)) w') :
    if Region.wanted oo (yielded ops a.tmps) = true then Oper.wp Try.prog oo a w K R else E := by
  obtain ⟨i0, hi0, hz0, hz1, hz2⟩ := info_parts Try.infoInt
  refine step_append_lies w hgd s y 30 ho 0 3 i0 (.int .i64 0) 1 8 Try.underlying30 hi0 hz0 hz1 hz2 rfl (by decide) (V i) (Q i).length (numCells (Q i)) hs ((hq.later hO).row i hi) ⟨b, 0, none⟩ 1 1 [.int .i64 x] hy rfl
    (World.news_of_block (cs := #[.int .i64 x]) hb) (one_num x) (by omega) (by unfold maxLen; omega) (by omega) (Nat.zero_le _) w.heap.size rfl ?_
  intro g c w' hown hg hat hlt
  obtain ⟨q1, q2, q3⟩ := added_of hq hi hO hown hg hat
  exact h g c w' q1 q2 q3

theorem append_add {w : World} {ops : Array Oper} {rest : List Oper} {oo : Oper} {a : Act} {R : Exit → Act → World → Prop} (hgd : oo.guard = none) (s y : Operand)
    (ho : oo.op = .call { callee := .builtin .append, args := #[s, y], argTypes := #[30, 30] })
    (wr : World) (p o T b : Nat) (V : Nat → Value) (Q : Qs) (i : Nat) (x : Int) (hq : QAt wr p o T V Q) (hi : i < 8) (hO : Only (fun _ => False) wr w) (hs : a.eval s = V i) (hy : a.eval y = .slice (some ⟨b, 0, none⟩) 1 1)
    (hb : w.heap[b]? = some (.cells #[.int .i64 x] 3 (0, 0))) (hl : (Q i).length + 1 ≤ 17000000000000)
    (h : ∀ g c w', w'.cell? ⟨p, o + i, none⟩ = some (V i) → w'.frozen? ⟨p, o + i, none⟩ = false → Hid (Added p o T V Q i x wr (.slice (some ⟨g, 0, none⟩) ((Q i).length + 1) c) w') → wpList Try.prog ops R rest (a.put oo.dst (.slice (some ⟨g, 0, none⟩) ((Q i).length + 1) c)) w') :
    wpList Try.prog ops R (oo :: rest) a w := by
  obtain ⟨i0, hi0, hz0, hz1, hz2⟩ := info_parts Try.infoInt
  refine wpList_append_lies w hgd s y 30 ho 0 3 i0 (.int .i64 0) 1 8 Try.underlying30 hi0 hz0 hz1 hz2 rfl (by decide) (V i) (Q i).length (numCells (Q i)) hs ((hq.later hO).row i hi) ⟨b, 0, none⟩ 1 1 [.int .i64 x] hy rfl
    (World.news_of_block (cs := #[.int .i64 x]) hb) (one_num x) (by omega) (by unfold maxLen; omega) (by omega) (Nat.zero_le _) w.heap.size rfl ?_
  intro g c w' hown hg hat hlt
  obtain ⟨q1, q2, q3⟩ := added_of hq hi hO hown hg hat
  exact h g c w' q1 q2 q3
end Go.Proofs.Ytpincdcebhmnhaa.Pr
