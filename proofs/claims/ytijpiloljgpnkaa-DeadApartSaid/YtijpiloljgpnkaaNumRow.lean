/- A row of numbers that fills a block: made, stored into, read. -/
import Derived.Test.YtijpiloljgpnkaaInts
import Derived.Laws.MakeOwn
namespace Go.Proofs.Ytijpiloljgpnkaa
open Go.ChangeShapes Go.WideShapes Go.ChangeAt Go.RowKit
set_option linter.unusedVariables false

/-- Block g holds the numbers xs, and nothing else. -/
def BlockOf (w : World) (g : Nat) (xs : List Int) : Prop := w.heap[g]? = some (.cells (numCells xs).toArray 3 (0, 0))

theorem made_block (n : Nat) : Obj.cells (madeCells #[.int .i64 0] n) 3 = Obj.cells (numCells (List.replicate n 0)).toArray 3 := by
  congr 1
  apply Array.ext
  · simp [madeCells, numCells]
  · intro i h1 h2
    simp [madeCells, numCells, Nat.mod_one]

theorem run_mk (k : Nat) (hk : k ≤ 1000000) (w : World) : (Instr.makeSlice 32 (.int .i64 k) (.int .i64 k)).run Try.prog w = .ok (.slice (some ⟨w.heap.size, 0, none⟩) k k) (w.alloc (.cells (numCells (List.replicate k 0)).toArray 3)) := by
  obtain ⟨i0, hi, hz0, hz1, hz2⟩ := info_parts Try.infoInt
  have h := run_make (P := Try.prog) w 32 3 i0 (.int .i64 0) Try.underlying32 hi hz0 .i64 .i64 k k (by omega) (Int.le_refl _) (by rw [hz2]; omega) (by omega)
  rw [Int.toNat_natCast, hz1, Nat.mul_one] at h
  rw [h, show (Value.int IntKind.i64 0).cells = #[Value.int IntKind.i64 0] from rfl, made_block k]

section
variable {w w' : World} {g : Nat} {xs : List Int}
theorem BlockOf.new (w : World) (xs : List Int) : BlockOf (w.alloc (.cells (numCells xs).toArray 3)) w.heap.size xs := heap_alloc_new w _
theorem BlockOf.keep {S : Nat → Prop} (h : BlockOf w g xs) (hO : Only S w w') (hS : ¬ S g) : BlockOf w' g xs := by unfold BlockOf; rw [hO.block g (block_there h) hS]; exact h
theorem BlockOf.later (h : BlockOf w g xs) (hO : Only (fun _ => False) w w') : BlockOf w' g xs := h.keep hO id
theorem BlockOf.lt (h : BlockOf w g xs) : g < w.heap.size := block_there h
theorem BlockOf.cell (h : BlockOf w g xs) {j : Nat} (hj : j < xs.length) : w.cell? ⟨g, j, none⟩ = some (.int .i64 (xs.getD j 0)) := by
  rw [cell_at h]; simp [numCells, List.getD, hj]
theorem BlockOf.frozen (h : BlockOf w g xs) (j : Nat) : w.frozen? ⟨g, j, none⟩ = false := frozen_at h j
theorem BlockOf.set (h : BlockOf w g xs) (j : Nat) (x : Int) : BlockOf (w.setCell ⟨g, j, none⟩ (.int .i64 x)) g (xs.set j x) := by
  have := heap_setCell_same w g j _ _ (.int .i64 x) h
  unfold BlockOf
  rw [this]
  congr 2
  simp [numCells, List.map_set]
theorem BlockOf.nums (h : BlockOf w g xs) (c : Nat) : Nums w (.slice (some ⟨g, 0, none⟩) xs.length c) xs := nums_block h (by simp) (c := c)
end
end Go.Proofs.Ytijpiloljgpnkaa
