/- What a walk is told of a slice of slices of numbers that came in. -/
import Derived.Test.YtpincdcebhmnhaaRow
import Derived.Deep.Matrix
namespace Go.Proofs.Ytpincdcebhmnhaa
open Go.ChangeShapes Go.WideShapes Go.ChangeAt Go.RowKit
set_option linter.unusedVariables false

/-- A slice of numbers that came in: its numbers are 'xs'. -/
def NumRow (w : World) (v : Value) (xs : List Int) : Prop :=
  ∃ a c, v = .slice a xs.length c ∧ xs.length ≤ c ∧ c ≤ maxLen ∧ (∀ j, j < xs.length → ∃ ad, a = some ad ∧ ad.block < w.heap.size ∧ w.cell? (ad.add j) = some (.int .i64 (xs.getD j 0))) ∧ ∀ x ∈ xs, (Lit.int .i64 x).wf = true

/-- A slice of such slices. -/
def ArgRows (w : World) (a : Option Addr) (len cap : Nat) (recs : List (List Int)) : Prop :=
  len = recs.length ∧ len ≤ cap ∧ cap ≤ maxLen ∧ (a = none → cap = 0) ∧ ∀ j, j < recs.length → ∃ b off v, a = some ⟨b, off, none⟩ ∧ b < w.heap.size ∧ w.cell? ⟨b, off + j, none⟩ = some v ∧ NumRow w v (recs.getD j [])

theorem add_block (a : Addr) (k : Nat) : (a.add k).block = a.block := by unfold Addr.add; split <;> rfl

theorem open_rows {H : Type} {enc : TypeId × Value → H} {w : World} {base fuel : Nat} {held : Bool} {a0 : Option Addr} {len cap : Nat} {x : DataW H × List MemPlace}
    (h : DataW.trod enc Try.prog w base (fun _ => true) held fuel 22 [.slice a0 len cap] = some x) : ∃ recs, ArgRows w a0 len cap recs := by
  rcases Deep.open_int_rows Try.underlying22 Try.underlying30 Try.underlying3 (by kernel_rfl) (by kernel_rfl) h with ⟨hcs, _⟩ | ⟨a, l, c, A, L, C, Z, hcs, _, hl, hm, _, hr⟩
  · cases hcs
    exact ⟨[], rfl, Nat.le_refl _, by unfold maxLen; omega, fun _ => rfl, fun j hj => by cases hj⟩
  · cases hcs
    refine ⟨(List.range len).map fun r => (Z r).take (L r), by simp, hl, hm, (fun e => by cases e), fun j hj => ?_⟩
    simp only [List.length_map, List.length_range] at hj
    obtain ⟨h1, h2, h3, h4, h5, h6, h7⟩ := hr j (by omega)
    have hsp : a.spot = none := by
      have := World.cell?_spot (hr 0 (by omega)).1
      simpa [Addr.add] using this
    have hbl := block_lt (hr 0 (by omega)).1
    obtain ⟨b, off, sp⟩ := a
    have hbl2 : b < w.heap.size := hbl
    simp only at hsp
    subst hsp
    have e : ((List.range len).map fun r => (Z r).take (L r)).getD j [] = (Z j).take (L j) := by simp [List.getD, hj]
    have el : ((Z j).take (L j)).length = L j := by rw [List.length_take]; omega
    rw [add_plain] at h1
    rw [e]
    refine ⟨b, off, _, rfl, hbl2, h1, A j, C j, by rw [el], by rw [el]; exact h2, h3, fun k hk => ?_, fun x hx => h5 x (List.mem_of_mem_take hx)⟩
    rw [el] at hk
    cases hA : A j with
    | none => have := h6 hA; omega
    | some a' =>
      have hc := (h7 a' hA).2 k (by omega)
      refine ⟨a', rfl, add_block a' k ▸ block_lt hc, ?_⟩
      rw [hc]
      congr 2
      simp [List.getD, hk]

theorem NumRow.later {w w' : World} {v : Value} {xs : List Int} (h : NumRow w v xs) (hb : Below w.heap.size w w') : NumRow w' v xs := by
  obtain ⟨a, c, rfl, h1, h2, h3, h4⟩ := h
  refine ⟨a, c, rfl, h1, h2, fun j hj => ?_, h4⟩
  obtain ⟨ad, rfl, hl, hc⟩ := h3 j hj
  have hsz := hb.size
  refine ⟨ad, rfl, by omega, ?_⟩
  have hlt := block_lt hc
  rw [hb.cell (p := ad.add j) hlt]
  exact hc

theorem NumRow.wf {w : World} {v : Value} {xs : List Int} (h : NumRow w v xs) (j : Nat) : (Lit.int .i64 (xs.getD j 0)).wf = true := by
  obtain ⟨a, c, rfl, h1, h2, h3, h4⟩ := h
  by_cases hj : j < xs.length
  · have : xs.getD j 0 = xs[j] := by simp [List.getD, hj]
    rw [this]; exact h4 _ (List.getElem_mem hj)
  · have : xs.getD j 0 = 0 := by simp [List.getD, List.getElem?_eq_none (show xs.length ≤ j by omega)]
    rw [this]; rfl
end Go.Proofs.Ytpincdcebhmnhaa
