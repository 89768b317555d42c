/- What a walk is told of a slice of numbers that came in: it is empty, or its numbers lie in cells of a block that is there. -/
import Derived.Test.YtpincdcebhmnhaaMem
import Derived.ShutString
import Derived.ChangeOld
import Derived.Below
namespace Go.Proofs.Ytpincdcebhmnhaa
open Go.ChangeShapes Go.WideShapes Go.ChangeAt Go.RowKit
set_option linter.unusedVariables false

theorem add_plain (b off j : Nat) : (⟨b, off, none⟩ : Addr).add j = ⟨b, off + j, none⟩ := by unfold Addr.add; split <;> simp_all

theorem block_lt {w : World} {a : Addr} {v : Value} (h : w.cell? a = some v) : a.block < w.heap.size := by
  by_cases hlt : a.block < w.heap.size
  · exact hlt
  · exfalso
    have : w.heap[a.block]? = none := by simp; omega
    simp [World.cell?, this] at h

/-- A slice of integers that came in: nil; or it leads to a row of 'cap' cells, the numbers 'zs', the first 'len' its elements. -/
def IsRow (k : IntKind) (w : World) (a : Option Addr) (len cap : Nat) (zs : List Int) : Prop :=
  (a = none ∧ len = 0 ∧ cap = 0 ∧ zs = []) ∨
  ∃ x, a = some x ∧ len ≤ cap ∧ cap ≤ maxLen ∧ zs.length = cap ∧ (∀ i, i < zs.length → w.cell? (x.add i) = some (.int k (zs.getD i 0))) ∧ ∀ n ∈ zs, (Lit.int k n).wf = true

/-- The cells of a row of numbers of a kind. -/
def CellsOf (k : IntKind) (w : World) (b off : Nat) (zs : List Int) : Prop := ∀ j, j < zs.length → w.cell? ⟨b, off + j, none⟩ = some (.int k (zs.getD j 0))

/-- An empty slice, or one whose numbers 'ys' lie in cells. -/
theorem row_cases {k : IntKind} {w : World} {a : Option Addr} {len cap : Nat} {zs : List Int} (h : IsRow k w a len cap zs) :
    len = 0 ∨ ∃ b off ys, a = some ⟨b, off, none⟩ ∧ len = ys.length ∧ ys ≠ [] ∧ ys.length ≤ cap ∧ b < w.heap.size ∧ ys.length ≤ 9223372036854775807 ∧ (∀ n ∈ ys, (Lit.int k n).wf = true) ∧ CellsOf k w b off ys := by
  rcases h with ⟨h1, h2, h3, h4⟩ | ⟨x, rfl, h1, h2, h3, h4, h5⟩
  · exact Or.inl h2
  · by_cases h0 : len = 0
    · exact Or.inl h0
    · right
      have hc0 := h4 0 (by omega)
      have hsp : x.spot = none := by
        have := World.cell?_spot hc0
        simpa [Addr.add] using this
      have hbl := block_lt hc0
      obtain ⟨b, off, sp⟩ := x
      have hbl2 : b < w.heap.size := hbl
      simp only at hsp
      subst hsp
      unfold maxLen at h2
      refine ⟨b, off, zs.take len, rfl, by simp; omega, ?_, by simp; omega, hbl2, by simp; omega, fun n hn => h5 n (List.mem_of_mem_take hn), ?_⟩
      · intro e
        have : (zs.take len).length = 0 := by rw [e]; rfl
        rw [List.length_take] at this; omega
      · intro j hj
        simp at hj
        have := h4 j (by omega)
        rw [add_plain] at this
        rw [this]
        congr 2
        simp [List.getD, show j < len by omega]

/-- The remainder that Rest answers: of k as a number of 64 bits without a sign. -/
def restOf (k n : Int) : Int := (k % 18446744073709551616) % n

theorem restOf_lo (k n : Int) (h : 0 < n) : 0 ≤ restOf k n := Int.emod_nonneg _ (by omega)
theorem restOf_hi (k n : Int) (h : 0 < n) : restOf k n < n := Int.emod_lt_of_pos _ h
end Go.Proofs.Ytpincdcebhmnhaa
