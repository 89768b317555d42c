/- Contract of package reserve's New. -/
import Derived.Test.YtpincdcebhmnhaaODFind
import Derived.Deep.RegionHeld3
namespace Go.Proofs.Ytpincdcebhmnhaa.De
open Go.ChangeShapes Go.WideShapes Go.ChangeAt Go.RowKit Go.Maps
set_option linter.unusedVariables false

theorem only1 {w w' : World} {p : Nat} (i : Nat) (u : Value) (h : Only (fun k => k = p) w w') : Only (fun k => k = p) w (w'.setCell ⟨p, i, none⟩ u) := h.setCell (p := ⟨p, i, none⟩) rfl u
theorem fill_blk {w : World} {g T : Nat} {b q l d : Int} {o : Bool} (hg : w.heap[g]? = some (.cells #[.int .i64 b, .int .i64 q, .int .i64 l, .int .i64 d, .bool o] T (0, 0))) (s : Int) (h1 : 0 ≤ s) (h2 : s ≤ 9000000000000000000) (p1 : 0 ≤ q) (p2 : q ≤ 30) :
    Calls Try.prog 49 #[.pointer (some ⟨g, 0, none⟩), .int .i64 s] w fun e w' => e = .returned (.tuple #[]) ∧ w'.heap[g]? = some (.cells #[.int .i64 b, .int .i64 q, .int .i64 b, .int .i64 (s + q), .bool false] T (0, 0)) ∧ Only (fun k => k = g) w w' := by
  have HG := Lib.hid hg
  have cb : w.cell? ⟨g, 0, none⟩ = some (.int .i64 b) := by rw [cell_at hg]; rfl
  have cp : w.cell? ⟨g, 1, none⟩ = some (.int .i64 q) := by rw [cell_at hg]; rfl
  have cl : w.cell? ⟨g, 2, none⟩ = some (.int .i64 l) := by rw [cell_at hg]; rfl
  have cd : w.cell? ⟨g, 3, none⟩ = some (.int .i64 d) := by rw [cell_at hg]; rfl
  have co : w.cell? ⟨g, 4, none⟩ = some (.bool o) := by rw [cell_at hg]; rfl
  have fz : ∀ j, w.frozen? ⟨g, j, none⟩ = false := frozen_at hg
  clear hg
  go_enter Try.func49, Try.ntmps49
  go_wp2
  go_end0
  refine ⟨rfl, ?_, only1 _ _ (only1 _ _ (only1 _ _ (Only.refl _ _)))⟩
  have h3 := heap_setCell_same _ g 2 _ _ (.int .i64 b) HG.out
  have h4 := heap_setCell_same _ g 3 _ _ (.int .i64 (s + q)) h3
  have h5 := heap_setCell_same _ g 4 _ _ (.bool false) h4
  exact h5

theorem resnew_any (b q s : Int) (h1 : 0 ≤ s) (h2 : s ≤ 9000000000000000000) (p1 : 0 ≤ q) (p2 : q ≤ 30) (w : World) :
    Calls Try.prog 39 #[.int .i64 b, .int .i64 q, .int .i64 s] w fun e w' => e = .returned (.agg #[.int .i64 b, .int .i64 q, .int .i64 b, .int .i64 (s + q), .bool false]) ∧ Only (fun _ => False) w w' := by
  go_enter Try.func39, Try.ntmps39
  go_upto_region 2 with fail
  obtain ⟨W, hW⟩ : ∃ W, (w.alloc (.cells #[.int .i64 0, .int .i64 0, .int .i64 0, .int .i64 0, .bool false] 57)).alloc (.cells #[.int .i64 b, .int .i64 q, .int .i64 0, .int .i64 0, .bool false] 57) = W := ⟨_, rfl⟩
  have ba : W.heap[w.heap.size]? = some (.cells #[.int .i64 0, .int .i64 0, .int .i64 0, .int .i64 0, .bool false] 57 (0, 0)) := by rw [← hW]; exact heap_alloc2_old w _ _
  have bb : W.heap[w.heap.size + 1]? = some (.cells #[.int .i64 b, .int .i64 q, .int .i64 0, .int .i64 0, .bool false] 57 (0, 0)) := by rw [← hW]; exact heap_alloc2_new w _ _
  have HO : Hid (Only (fun _ => False) w W) := Lib.hid (by rw [← hW]; exact ((Only.refl _ w).alloc _).alloc _)
  have hlt := block_there ba
  have HC := Lib.hid (fill_blk bb s h1 h2 p1 p2)
  rw [hW]
  have HBA := Lib.hid ba
  clear hW ba bb
  go_upto_region 3 with (go_at_call 49; (with_reducible refine HC.out.mono ?_); rintro e w2 ⟨rfl, hg, hO⟩; have HG := Lib.hid hg; have HO2 := Lib.hid hO; clear hg hO)
  have ba2 : w2.heap[w.heap.size]? = some (.cells #[.int .i64 0, .int .i64 0, .int .i64 0, .int .i64 0, .bool false] 57 (0, 0)) := (HO2.out.block _ hlt (by omega)).trans HBA.out
  have c0 : w2.cell? ⟨w.heap.size + 1, 0, none⟩ = some (.int .i64 b) := by rw [cell_at HG.out]; rfl
  have c1 : w2.cell? ⟨w.heap.size + 1, 1, none⟩ = some (.int .i64 q) := by rw [cell_at HG.out]; rfl
  have c2 : w2.cell? ⟨w.heap.size + 1, 2, none⟩ = some (.int .i64 b) := by rw [cell_at HG.out]; rfl
  have c3 : w2.cell? ⟨w.heap.size + 1, 3, none⟩ = some (.int .i64 (s + q)) := by rw [cell_at HG.out]; rfl
  have c4 : w2.cell? ⟨w.heap.size + 1, 4, none⟩ = some (.bool false) := by rw [cell_at HG.out]; rfl
  have d0 : w2.cell? ⟨w.heap.size, 0, none⟩ = some (.int .i64 0) := by rw [cell_at ba2]; rfl
  have d1 : w2.cell? ⟨w.heap.size, 1, none⟩ = some (.int .i64 0) := by rw [cell_at ba2]; rfl
  have d2 : w2.cell? ⟨w.heap.size, 2, none⟩ = some (.int .i64 0) := by rw [cell_at ba2]; rfl
  have d3 : w2.cell? ⟨w.heap.size, 3, none⟩ = some (.int .i64 0) := by rw [cell_at ba2]; rfl
  have d4 : w2.cell? ⟨w.heap.size, 4, none⟩ = some (.bool false) := by rw [cell_at ba2]; rfl
  have fz : ∀ j, w2.frozen? ⟨w.heap.size, j, none⟩ = false := frozen_at ba2
  have HB2 := Lib.hid ba2
  clear ba2
  go_wp2_with fail
  have e5 := heap_setCell_same _ w.heap.size 4 _ _ (.bool false) (heap_setCell_same _ w.heap.size 3 _ _ (.int .i64 (s + q)) (heap_setCell_same _ w.heap.size 2 _ _ (.int .i64 b) (heap_setCell_same _ w.heap.size 1 _ _ (.int .i64 q) (heap_setCell_same _ w.heap.size 0 _ _ (.int .i64 b) HB2.out))))
  refine bodyPost_ret (results_cell_row rfl _ _ w.heap.size _ #[.int .i64 b, .int .i64 q, .int .i64 b, .int .i64 (s + q), .bool false] _ _ (by rfl) (by simpa using e5) Try.underlying57 rfl (by kernel_rfl)) rfl ?_
  refine ⟨rfl, ?_⟩
  have hA := HO.out.trans HO2.out (T := fun k => k = w.heap.size + 1) (fun x hx e => by omega)
  exact (hA.mono (T := fun k => w.heap.size ≤ k) (fun _ _ e => e.elim)).setCell (p := ⟨w.heap.size, 0, none⟩) (Nat.le_refl _) _ |>.setCell (p := ⟨w.heap.size, 1, none⟩) (Nat.le_refl _) _ |>.setCell (p := ⟨w.heap.size, 2, none⟩) (Nat.le_refl _) _ |>.setCell (p := ⟨w.heap.size, 3, none⟩) (Nat.le_refl _) _ |>.setCell (p := ⟨w.heap.size, 4, none⟩) (Nat.le_refl _) _ |>.mono (fun x hx e => by omega)

end Go.Proofs.Ytpincdcebhmnhaa.De
