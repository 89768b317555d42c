/- A row of bools that fills a block: made, stored into, read. -/
import Derived.Test.YtddfdnhlghmapaaRow
import Derived.Laws.MakeOwn
namespace Go.Proofs.Ytddfdnhlghmapaa
open Go.ChangeShapes Go.WideShapes Go.ChangeAt Go.RowKit
set_option linter.unusedVariables false

theorem Try.infoBool : (Try.prog.info? 4).map (fun i => (i.zero, i.size, i.bytes)) = some (some (.bool false), 1, 1) := by kernel_rfl
def boolCells (bs : List Bool) : List Value := bs.map Value.bool
/-- Block g holds the bools bs, and nothing else. -/
def BoolsOf (w : World) (g : Nat) (bs : List Bool) : Prop := w.heap[g]? = some (.cells (boolCells bs).toArray 4 (0, 0))

theorem made_bools (n : Nat) : Obj.cells (madeCells #[.bool false] n) 4 = Obj.cells (boolCells (List.replicate n false)).toArray 4 := by
  congr 1
  apply Array.ext
  · simp [madeCells, boolCells]
  · intro i h1 h2
    simp [madeCells, boolCells, Nat.mod_one]

theorem run_mkb (k : Nat) (hk : k ≤ 1000000) (w : World) : (Instr.makeSlice 65 (.int .i64 k) (.int .i64 k)).run Try.prog w = .ok (.slice (some ⟨w.heap.size, 0, none⟩) k k) (w.alloc (.cells (boolCells (List.replicate k false)).toArray 4)) := by
  obtain ⟨i0, hi, hz0, hz1, hz2⟩ := info_parts Try.infoBool
  have h := run_make (P := Try.prog) w 65 4 i0 (.bool false) Try.underlying65 hi hz0 .i64 .i64 k k (by omega) (Int.le_refl _) (by rw [hz2]; omega) (by omega)
  rw [Int.toNat_natCast, hz1, Nat.mul_one] at h
  rw [h, show (Value.bool false).cells = #[Value.bool false] from rfl, made_bools k]

section
variable {w w' : World} {g : Nat} {bs : List Bool}
theorem BoolsOf.new (w : World) (bs : List Bool) : BoolsOf (w.alloc (.cells (boolCells bs).toArray 4)) w.heap.size bs := heap_alloc_new w _
theorem BoolsOf.keep {S : Nat → Prop} (h : BoolsOf w g bs) (hO : Only S w w') (hS : ¬ S g) : BoolsOf w' g bs := by unfold BoolsOf; rw [hO.block g (block_there h) hS]; exact h
theorem BoolsOf.later (h : BoolsOf w g bs) (hO : Only (fun _ => False) w w') : BoolsOf w' g bs := h.keep hO id
theorem BoolsOf.lt (h : BoolsOf w g bs) : g < w.heap.size := block_there h
theorem BoolsOf.cell (h : BoolsOf w g bs) {j : Nat} (hj : j < bs.length) : w.cell? ⟨g, j, none⟩ = some (.bool (bs.getD j false)) := by
  rw [cell_at h]; simp [boolCells, List.getD, hj]
theorem BoolsOf.frozen (h : BoolsOf w g bs) (j : Nat) : w.frozen? ⟨g, j, none⟩ = false := frozen_at h j
theorem BoolsOf.set (h : BoolsOf w g bs) (j : Nat) (x : Bool) : BoolsOf (w.setCell ⟨g, j, none⟩ (.bool x)) g (bs.set j x) := by
  have := heap_setCell_same w g j _ _ (.bool x) h
  unfold BoolsOf
  rw [this]
  congr 2
  simp [boolCells, List.map_set]
end
end Go.Proofs.Ytddfdnhlghmapaa
