/- The walk of AdmitFits. -/
import Derived.Test.YtijpiloljgpnkaaAdEdf
import Derived.Test.YtijpiloljgpnkaaAdLateC
import Derived.Test.YtijpiloljgpnkaaAdSets
namespace Go.Proofs.Ytijpiloljgpnkaa.Ad
open Go.ChangeShapes Go.WideShapes Go.ChangeAt Go.RowKit
set_option linter.unusedVariables false

def tab2 (r : Nat) : Nat := [1, 2, 3, 4, 5, 6, 8, 10].getD r 0
theorem tab2_in {r : Nat} (h : r < 8) : 1 ≤ tab2 r ∧ tab2 r ≤ 10 ∧ tab2 r ∣ 120 := by
  have : ∀ q : Fin 8, 1 ≤ tab2 q.val ∧ tab2 q.val ≤ 10 ∧ tab2 q.val ∣ 120 := by decide
  exact this ⟨r, h⟩
theorem tab2_cell {r : Nat} (h : r < 8) (w : World) (t : TypeId) : (w.alloc (.cells #[.int .i64 1, .int .i64 2, .int .i64 3, .int .i64 4, .int .i64 5, .int .i64 6, .int .i64 8, .int .i64 10] t)).cell? ⟨w.heap.size, r, none⟩ = some (.int .i64 (tab2 r)) := by
  rw [cell_at (heap_alloc_new w _)]
  have : ∀ q : Fin 8, (#[.int .i64 1, .int .i64 2, .int .i64 3, .int .i64 4, .int .i64 5, .int .i64 6, .int .i64 8, .int .i64 10] : Array Value)[q.val]? = some (.int .i64 (tab2 q.val)) := by
    intro q; rcases q with ⟨q, hq⟩
    rcases (show q = 0 ∨ q = 1 ∨ q = 2 ∨ q = 3 ∨ q = 4 ∨ q = 5 ∨ q = 6 ∨ q = 7 by omega) with rfl | rfl | rfl | rfl | rfl | rfl | rfl | rfl <;> rfl
  exact this ⟨r, h⟩

/-- Tasks whose periods divide 120. -/
def FitOk (S : List Use) : Prop := ∀ u ∈ S, okU u = true ∧ per u ∣ 120
theorem FitOk.snoc {S : List Use} {u : Use} (h : FitOk S) (hu : okU u = true ∧ per u ∣ 120) : FitOk (S ++ [u]) := by
  intro x hx
  rcases List.mem_append.1 hx with hx | hx
  · exact h x hx
  · simp at hx; subst hx; exact hu
theorem FitOk.chk {S : List Use} (h : FitOk S) (hl : S.length ≤ 16) : Ad.chk S = 0 := chk_of hl (fun x hx => (h x hx).1)
theorem FitOk.ok {S : List Use} (h : FitOk S) : allOk S := allOk_mem.2 fun x hx => (h x hx).1
theorem FitOk.rnd {S : List Use} (h : FitOk S) : 1 ≤ Ad.rnd S ∧ Ad.rnd S ≤ 120 :=
  ⟨rndTo_pos h.ok (Nat.le_refl _), Nat.le_of_dvd (by omega) (rndTo_least (fun j hj => (h _ (nthU_mem hj)).2))⟩

theorem row_keep2 {w : World} {a : Option Addr} {len cap : Nat} {zs : List Int} (h : IsRow .i64 w a len cap zs) {w' : World} (hO : Only (fun _ => False) w w') : IsRow .i64 w' a len cap zs := by
  rcases h with h | ⟨x, h1, h2, h3, h4, h5, h6⟩
  · exact .inl h
  · refine .inr ⟨x, h1, h2, h3, h4, fun i hi => ?_, h6⟩
    have := h5 i hi
    rw [← this]
    unfold World.cell?
    rw [hO.block _ (block_lt this) id]

theorem rest_300 (k : Int) (w : World) :
    Calls Try.prog 27 #[.int .i64 k, .int .i64 300] w fun e w' => ∃ c : Nat, c < 300 ∧ e = .returned (.int .i64 c) ∧ w = w' := rest_nat k 300 (by omega) (by omega) w

end Go.Proofs.Ytijpiloljgpnkaa.Ad
