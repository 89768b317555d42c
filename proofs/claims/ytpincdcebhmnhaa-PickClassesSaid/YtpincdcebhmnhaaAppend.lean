/- append(a, b...) of slices of numbers, the first of the call's own. -/
import Derived.Test.YtpincdcebhmnhaaInts
namespace Go.Proofs.Ytpincdcebhmnhaa
open Go.ChangeShapes Go.WideShapes Go.ChangeAt Go.RowKit
set_option linter.unusedVariables false

theorem append_nums {w : World} {ops : Array Oper} {rest : List Oper} {o : Oper} {a : Act} {Q : Exit → Act → World → Prop} (hgd : o.guard = none) (s x : Operand)
    (ho : o.op = .call { callee := .builtin .append, args := #[s, x], argTypes := #[30, 30] })
    (base : Nat) (v vx : Value) (xs zs : List Int) (hs : a.eval s = v) (hx : a.eval x = vx) (hown : Ints w base v xs) (hr : Nums w vx zs) (hnil : ∀ l c, vx = .slice none l c → c = 0)
    (hn : xs.length + zs.length ≤ 17000000000000) (hbase : base ≤ w.heap.size)
    (h : ∀ v' w', Ints w' base v' (xs ++ zs) → Only (fun k => v.ownBlock = some k) w w' → wpList Try.prog ops Q rest (a.put o.dst v') w') : wpList Try.prog ops Q (o :: rest) a w := by
  obtain ⟨i0, hi, hz0, hz1, hz2⟩ := info_parts Try.infoInt
  obtain ⟨ad, cap, rfl, h2⟩ := hr
  cases ad with
  | none =>
    have hz : zs = [] := by
      by_cases e : zs = []
      · exact e
      · obtain ⟨b, off, hh, _⟩ := h2 0 (List.length_pos_iff.2 e); cases hh
    subst hz
    have := hnil _ _ rfl; subst this
    refine wpList_append_own_none hgd s x 30 ho base 3 i0 1 Try.underlying30 hi v xs.length (numCells xs) hs hown hx ?_
    exact h v w (by rw [List.append_nil]; exact hown) (Only.refl _ w)
  | some ad =>
    have hlen : (numCells zs).length = zs.length := numCells_len zs
    refine wpList_append_own w hgd s x 30 ho base 3 i0 (.int .i64 0) 1 8 Try.underlying30 hi hz0 hz1 hz2 rfl (by decide) v xs.length (numCells xs) hs hown ad zs.length cap (numCells zs) hx (by simp [numCells]) ?_ (by simp [numCells]; intro z _; rfl) (max_of hn).1 (max_of hn).2 hbase ?_
    · intro j u hj
      have hlt : j < zs.length := by
        by_cases hlt : j < zs.length
        · exact hlt
        · rw [List.getElem?_eq_none (by omega)] at hj; cases hj
      obtain ⟨b, off, hh, hc⟩ := h2 j hlt
      cases hh
      rw [add_plain, hc]
      simp [numCells, List.getElem?_eq_getElem hlt] at hj
      simp [List.getD, List.getElem?_eq_getElem hlt, hj]
    · intro v' w' hown' hg _
      refine h v' w' ?_ (Only.of_grown hg (fun k hk => hk))
      unfold Ints
      rw [List.length_append, show numCells (xs ++ zs) = numCells xs ++ numCells zs by simp [numCells]]
      exact hown'

theorem Ints.nil_cap {w : World} {base : Nat} {v : Value} {xs : List Int} (h : Ints w base v xs) : ∀ l c, v = .slice none l c → c = 0 := by
  intro l c e
  rcases h.2 with ⟨rfl, h0⟩ | ⟨g, cap, cur, rfl, _⟩
  · cases e; rfl
  · cases e
end Go.Proofs.Ytpincdcebhmnhaa
