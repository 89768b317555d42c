/- The walk of HeapSorts at no number. -/
import Derived.Test.YtonlhcebnbdjjaaSortw
namespace Go.Proofs.Ytonlhcebnbdjjaa
open Go.ChangeShapes Go.WideShapes Go.ChangeAt Go.RowKit Go.Maps
set_option linter.unusedVariables false

set_option maxRecDepth 100000 in
set_option maxHeartbeats 4000000 in
theorem sorts_empty (a1 : Int) (a : Addr) (cap : Nat) (w : World) :
    Calls Try.prog 5 #[.slice (some a) 0 cap, .int .i64 a1] w fun e w' => e = .returned (.bool true) ∧ Below w.heap.size w w' := by
  obtain ⟨i0, hi0, hz0, hz1, hz2⟩ := info_parts Try.info3'
  go_enter Try.func5, Try.ntmps5
  go_upto_region 7 with (first
    | (go_at_call 8; refine (hnew _).mono ?_; rintro e w1 ⟨p0, rfl, ha, ho⟩; have HA := Lib.hid (ha.mono (N := fun k => w.heap.size + 1 ≤ k) (fun k e => alloc_le e)); have HO := Lib.hid (ho.below (B := w.heap.size + 1) (alloc_le (Nat.le_refl _)) (fun _ e => e.elim)); clear ha ho)
    | (go_at_call 9; refine (hpush (id := 2) HA2.out 3 (by decide) (by simp) (by simp)).mono ?_; rintro e w3 ⟨rfl, ha, ho⟩; have HA3 := Lib.hid (ha.mono (N := fun k => w.heap.size + 1 ≤ k) (fun k e => e.elim (fun e => e) (fun e => alloc_le (Nat.le_trans HO2.out.size e)))); have HO3 := Lib.hid (HO2.out.trans (ho.below (B := w.heap.size + 1) (alloc_le HO2.out.size) (fun _ e => e))); clear ha ho)
    | (go_at_call 9; refine (hpush (id := 1) HA.out 7 (by decide) (by simp) (by simp)).mono ?_; rintro e w2 ⟨rfl, ha, ho⟩; have HA2 := Lib.hid (ha.mono (N := fun k => w.heap.size + 1 ≤ k) (fun k e => e.elim (fun e => e) (fun e => alloc_le (Nat.le_trans HO.out.size e)))); have HO2 := Lib.hid (HO.out.trans (ho.below (B := w.heap.size + 1) (alloc_le HO.out.size) (fun _ e => e))); clear ha ho)
    | (go_at_call 18; refine (hpop HA3.out least_23).mono ?_; rintro e w5 ⟨rfl, ha, ho⟩; have HA5 := Lib.hid (ha.mono (N := fun k => w.heap.size + 1 ≤ k) (fun k e => e.elim (fun e => e) (fun e => alloc_le (Nat.le_trans HO3.out.size e)))); have HO5 := Lib.hid (HO3.out.trans (ho.below (B := w.heap.size + 1) (alloc_le HO3.out.size) (fun _ e => e))); clear ha ho))
  have hbox : w5.heap[w.heap.size]? = some (.cells #[.slice (some a) 0 cap] 39 (0, 0)) := (HO5.out.block _ (Nat.lt_succ_self _)).trans (heap_alloc_new w _)
  have hw5 : Below w.heap.size w w5 := ((Below.refl _ w).alloc (Nat.le_refl _) _).trans (HO5.out.mono (Nat.le_succ _))
  have HW5 := Lib.hid hw5
  have c0 : w5.cell? ⟨w.heap.size, 0, none⟩ = some (.slice (some a) 0 cap) := by rw [cell_at hbox]; rfl
  have f0 := frozen_at hbox 0
  have hO6 : Only (fun k => k = w.heap.size) w5 (w5.setCell ⟨w.heap.size, 0, none⟩ (.slice (some a) 0 cap)) := Only.setCell (S := fun x => x = w.heap.size) (Only.refl _ w5) (p := ⟨w.heap.size, 0, none⟩) rfl _
  have hb6 : (w5.setCell ⟨w.heap.size, 0, none⟩ (.slice (some a) 0 cap)).heap[w.heap.size]? = some (.cells #[.slice (some a) 0 cap] 39 (0, 0)) := by rw [heap_setCell_same w5 _ 0 _ 39 _ hbox]; rfl
  have HB6 := Lib.hid hb6
  have HW6 := Lib.hid (hw5.trans (hO6.below hw5.size (fun k e => by omega)))
  have hsn := fun (g : Nat) W => AnyF.slices_SortFunc_none (P := Try.prog) (ρ := sortL_ren) { sortL with } (some ⟨g, 0, none⟩) 0 (.func (.func 21) #[] #[.pointer (some ⟨w.heap.size, 0, none⟩)]) W
  change ∀ (g : Nat) W, Calls Try.prog 20 _ _ _ at hsn
  have HSN := Lib.hid hsn
  have CM := Lib.hid (show i0.bytes * 0 ≤ 281474976710656 from by omega)
  have CN := Lib.hid (show 0 ≤ 9223372036854775807 from by omega)
  clear hbox hw5 hO6 hb6 hsn HA HO HA2 HO2 HA3 HO3 HA5 HO5
  go_upto_region 8 with fail
  rw [show (min (0 : Int) 200).toNat = 0 from by decide]
  generalize hWe : w5.setCell ⟨w.heap.size, 0, none⟩ (.slice (some a) 0 cap) = W at *
  have c6 : W.cell? ⟨w.heap.size, 0, none⟩ = some (.slice (some a) 0 cap) := by rw [cell_at HB6.out]; rfl
  clear c0 f0
  go_wp2_with (first
    | (go_at_call 19; (refine (rest_any _ 1 (by decide) (by decide) _).mono ?_); rintro e w6 ⟨rfl, rfl⟩)
    | (go_at_call 8; refine (hnew _).mono ?_; rintro e w8 ⟨p, rfl, ha, ho⟩; have HA8 := Lib.hid (ha.later ((Only.refl (fun _ => False) w8).alloc (.cells (madeCells #[.int .i64 0] 0) 3))); have c8 : w8.cell? ⟨w.heap.size, 0, none⟩ = some (.slice (some a) 0 cap) := (by rw [cell_at ((ho.block _ (block_there HB6.out) (fun e => e)).trans HB6.out)]; rfl); have hlt8 := Nat.lt_of_lt_of_le (block_there HB6.out) ho.size; have HW9 := Lib.hid ((HW6.out.trans (ho.below (B := w.heap.size) HW6.out.size (fun _ e => e.elim))).alloc (Nat.le_trans HW6.out.size ho.size) (.cells (madeCells #[.int .i64 0] 0) 3)); clear ha ho c6)
    | (refine wpList_make_row _ rfl _ _ 39 rfl 3 i0 (.int .i64 0) Try.underlying39 hi0 hz0 hz1 rfl .i64 .i64 0 rfl rfl CM.out CN.out ?_)
    | (go_at_call 20; (refine (HSN.out _ _).mono ?_); rintro e w9 ⟨rfl, rfl⟩)
    | (go_at_call 10; (refine (hlen HA8.out).mono ?_); rintro e w9 ⟨rfl, rfl⟩))
  refine wp_loop_rounds 1 ?_
  rw [rounds_succ]
  go_wp2_with (first
    | (go_at_call 19; (refine (rest_any _ 1 (by decide) (by decide) _).mono ?_); rintro e w6 ⟨rfl, rfl⟩)
    | (go_at_call 8; refine (hnew _).mono ?_; rintro e w8 ⟨p, rfl, ha, ho⟩; have HA8 := Lib.hid (ha.later ((Only.refl (fun _ => False) w8).alloc (.cells (madeCells #[.int .i64 0] 0) 3))); have c8 : w8.cell? ⟨w.heap.size, 0, none⟩ = some (.slice (some a) 0 cap) := (by rw [cell_at ((ho.block _ (block_there HB6.out) (fun e => e)).trans HB6.out)]; rfl); have hlt8 := Nat.lt_of_lt_of_le (block_there HB6.out) ho.size; have HW9 := Lib.hid ((HW6.out.trans (ho.below (B := w.heap.size) HW6.out.size (fun _ e => e.elim))).alloc (Nat.le_trans HW6.out.size ho.size) (.cells (madeCells #[.int .i64 0] 0) 3)); clear ha ho c6)
    | (refine wpList_make_row _ rfl _ _ 39 rfl 3 i0 (.int .i64 0) Try.underlying39 hi0 hz0 hz1 rfl .i64 .i64 0 rfl rfl CM.out CN.out ?_)
    | (go_at_call 20; (refine (HSN.out _ _).mono ?_); rintro e w9 ⟨rfl, rfl⟩)
    | (go_at_call 10; (refine (hlen HA8.out).mono ?_); rintro e w9 ⟨rfl, rfl⟩))
  refine wp_loop_rounds 1 ?_
  rw [rounds_succ]
  go_wp2_with (first
    | (go_at_call 19; (refine (rest_any _ 1 (by decide) (by decide) _).mono ?_); rintro e w6 ⟨rfl, rfl⟩)
    | (go_at_call 8; refine (hnew _).mono ?_; rintro e w8 ⟨p, rfl, ha, ho⟩; have HA8 := Lib.hid (ha.later ((Only.refl (fun _ => False) w8).alloc (.cells (madeCells #[.int .i64 0] 0) 3))); have c8 : w8.cell? ⟨w.heap.size, 0, none⟩ = some (.slice (some a) 0 cap) := (by rw [cell_at ((ho.block _ (block_there HB6.out) (fun e => e)).trans HB6.out)]; rfl); have hlt8 := Nat.lt_of_lt_of_le (block_there HB6.out) ho.size; have HW9 := Lib.hid ((HW6.out.trans (ho.below (B := w.heap.size) HW6.out.size (fun _ e => e.elim))).alloc (Nat.le_trans HW6.out.size ho.size) (.cells (madeCells #[.int .i64 0] 0) 3)); clear ha ho c6)
    | (refine wpList_make_row _ rfl _ _ 39 rfl 3 i0 (.int .i64 0) Try.underlying39 hi0 hz0 hz1 rfl .i64 .i64 0 rfl rfl CM.out CN.out ?_)
    | (go_at_call 20; (refine (HSN.out _ _).mono ?_); rintro e w9 ⟨rfl, rfl⟩)
    | (go_at_call 10; (refine (hlen HA8.out).mono ?_); rintro e w9 ⟨rfl, rfl⟩))
  go_ret
  exact ⟨rfl, HW9.out⟩

set_option maxRecDepth 100000 in
set_option maxHeartbeats 4000000 in
theorem sorts_nil (a1 : Int) (w : World) :
    Calls Try.prog 5 #[.slice none 0 0, .int .i64 a1] w fun e w' => e = .returned (.bool true) ∧ Below w.heap.size w w' := by
  obtain ⟨i0, hi0, hz0, hz1, hz2⟩ := info_parts Try.info3'
  go_enter Try.func5, Try.ntmps5
  go_upto_region 7 with (first
    | (go_at_call 8; refine (hnew _).mono ?_; rintro e w1 ⟨p0, rfl, ha, ho⟩; have HA := Lib.hid (ha.mono (N := fun k => w.heap.size + 1 ≤ k) (fun k e => alloc_le e)); have HO := Lib.hid (ho.below (B := w.heap.size + 1) (alloc_le (Nat.le_refl _)) (fun _ e => e.elim)); clear ha ho)
    | (go_at_call 9; refine (hpush (id := 2) HA2.out 3 (by decide) (by simp) (by simp)).mono ?_; rintro e w3 ⟨rfl, ha, ho⟩; have HA3 := Lib.hid (ha.mono (N := fun k => w.heap.size + 1 ≤ k) (fun k e => e.elim (fun e => e) (fun e => alloc_le (Nat.le_trans HO2.out.size e)))); have HO3 := Lib.hid (HO2.out.trans (ho.below (B := w.heap.size + 1) (alloc_le HO2.out.size) (fun _ e => e))); clear ha ho)
    | (go_at_call 9; refine (hpush (id := 1) HA.out 7 (by decide) (by simp) (by simp)).mono ?_; rintro e w2 ⟨rfl, ha, ho⟩; have HA2 := Lib.hid (ha.mono (N := fun k => w.heap.size + 1 ≤ k) (fun k e => e.elim (fun e => e) (fun e => alloc_le (Nat.le_trans HO.out.size e)))); have HO2 := Lib.hid (HO.out.trans (ho.below (B := w.heap.size + 1) (alloc_le HO.out.size) (fun _ e => e))); clear ha ho)
    | (go_at_call 18; refine (hpop HA3.out least_23).mono ?_; rintro e w5 ⟨rfl, ha, ho⟩; have HA5 := Lib.hid (ha.mono (N := fun k => w.heap.size + 1 ≤ k) (fun k e => e.elim (fun e => e) (fun e => alloc_le (Nat.le_trans HO3.out.size e)))); have HO5 := Lib.hid (HO3.out.trans (ho.below (B := w.heap.size + 1) (alloc_le HO3.out.size) (fun _ e => e))); clear ha ho))
  have hbox : w5.heap[w.heap.size]? = some (.cells #[.slice none 0 0] 39 (0, 0)) := (HO5.out.block _ (Nat.lt_succ_self _)).trans (heap_alloc_new w _)
  have hw5 : Below w.heap.size w w5 := ((Below.refl _ w).alloc (Nat.le_refl _) _).trans (HO5.out.mono (Nat.le_succ _))
  have HW5 := Lib.hid hw5
  have c0 : w5.cell? ⟨w.heap.size, 0, none⟩ = some (.slice none 0 0) := by rw [cell_at hbox]; rfl
  have f0 := frozen_at hbox 0
  have hO6 : Only (fun k => k = w.heap.size) w5 (w5.setCell ⟨w.heap.size, 0, none⟩ (.slice none 0 0)) := Only.setCell (S := fun x => x = w.heap.size) (Only.refl _ w5) (p := ⟨w.heap.size, 0, none⟩) rfl _
  have hb6 : (w5.setCell ⟨w.heap.size, 0, none⟩ (.slice none 0 0)).heap[w.heap.size]? = some (.cells #[.slice none 0 0] 39 (0, 0)) := by rw [heap_setCell_same w5 _ 0 _ 39 _ hbox]; rfl
  have HB6 := Lib.hid hb6
  have HW6 := Lib.hid (hw5.trans (hO6.below hw5.size (fun k e => by omega)))
  have hsn := fun (g : Nat) W => AnyF.slices_SortFunc_none (P := Try.prog) (ρ := sortL_ren) { sortL with } (some ⟨g, 0, none⟩) 0 (.func (.func 21) #[] #[.pointer (some ⟨w.heap.size, 0, none⟩)]) W
  change ∀ (g : Nat) W, Calls Try.prog 20 _ _ _ at hsn
  have HSN := Lib.hid hsn
  have CM := Lib.hid (show i0.bytes * 0 ≤ 281474976710656 from by omega)
  have CN := Lib.hid (show 0 ≤ 9223372036854775807 from by omega)
  clear hbox hw5 hO6 hb6 hsn HA HO HA2 HO2 HA3 HO3 HA5 HO5
  go_upto_region 8 with fail
  rw [show (min (0 : Int) 200).toNat = 0 from by decide]
  generalize hWe : w5.setCell ⟨w.heap.size, 0, none⟩ (.slice none 0 0) = W at *
  have c6 : W.cell? ⟨w.heap.size, 0, none⟩ = some (.slice none 0 0) := by rw [cell_at HB6.out]; rfl
  clear c0 f0
  go_wp2_with (first
    | (go_at_call 19; (refine (rest_any _ 1 (by decide) (by decide) _).mono ?_); rintro e w6 ⟨rfl, rfl⟩)
    | (go_at_call 8; refine (hnew _).mono ?_; rintro e w8 ⟨p, rfl, ha, ho⟩; have HA8 := Lib.hid (ha.later ((Only.refl (fun _ => False) w8).alloc (.cells (madeCells #[.int .i64 0] 0) 3))); have c8 : w8.cell? ⟨w.heap.size, 0, none⟩ = some (.slice none 0 0) := (by rw [cell_at ((ho.block _ (block_there HB6.out) (fun e => e)).trans HB6.out)]; rfl); have hlt8 := Nat.lt_of_lt_of_le (block_there HB6.out) ho.size; have HW9 := Lib.hid ((HW6.out.trans (ho.below (B := w.heap.size) HW6.out.size (fun _ e => e.elim))).alloc (Nat.le_trans HW6.out.size ho.size) (.cells (madeCells #[.int .i64 0] 0) 3)); clear ha ho c6)
    | (refine wpList_make_row _ rfl _ _ 39 rfl 3 i0 (.int .i64 0) Try.underlying39 hi0 hz0 hz1 rfl .i64 .i64 0 rfl rfl CM.out CN.out ?_)
    | (go_at_call 20; (refine (HSN.out _ _).mono ?_); rintro e w9 ⟨rfl, rfl⟩)
    | (go_at_call 10; (refine (hlen HA8.out).mono ?_); rintro e w9 ⟨rfl, rfl⟩))
  refine wp_loop_rounds 1 ?_
  rw [rounds_succ]
  go_wp2_with (first
    | (go_at_call 19; (refine (rest_any _ 1 (by decide) (by decide) _).mono ?_); rintro e w6 ⟨rfl, rfl⟩)
    | (go_at_call 8; refine (hnew _).mono ?_; rintro e w8 ⟨p, rfl, ha, ho⟩; have HA8 := Lib.hid (ha.later ((Only.refl (fun _ => False) w8).alloc (.cells (madeCells #[.int .i64 0] 0) 3))); have c8 : w8.cell? ⟨w.heap.size, 0, none⟩ = some (.slice none 0 0) := (by rw [cell_at ((ho.block _ (block_there HB6.out) (fun e => e)).trans HB6.out)]; rfl); have hlt8 := Nat.lt_of_lt_of_le (block_there HB6.out) ho.size; have HW9 := Lib.hid ((HW6.out.trans (ho.below (B := w.heap.size) HW6.out.size (fun _ e => e.elim))).alloc (Nat.le_trans HW6.out.size ho.size) (.cells (madeCells #[.int .i64 0] 0) 3)); clear ha ho c6)
    | (refine wpList_make_row _ rfl _ _ 39 rfl 3 i0 (.int .i64 0) Try.underlying39 hi0 hz0 hz1 rfl .i64 .i64 0 rfl rfl CM.out CN.out ?_)
    | (go_at_call 20; (refine (HSN.out _ _).mono ?_); rintro e w9 ⟨rfl, rfl⟩)
    | (go_at_call 10; (refine (hlen HA8.out).mono ?_); rintro e w9 ⟨rfl, rfl⟩))
  refine wp_loop_rounds 1 ?_
  rw [rounds_succ]
  go_wp2_with (first
    | (go_at_call 19; (refine (rest_any _ 1 (by decide) (by decide) _).mono ?_); rintro e w6 ⟨rfl, rfl⟩)
    | (go_at_call 8; refine (hnew _).mono ?_; rintro e w8 ⟨p, rfl, ha, ho⟩; have HA8 := Lib.hid (ha.later ((Only.refl (fun _ => False) w8).alloc (.cells (madeCells #[.int .i64 0] 0) 3))); have c8 : w8.cell? ⟨w.heap.size, 0, none⟩ = some (.slice none 0 0) := (by rw [cell_at ((ho.block _ (block_there HB6.out) (fun e => e)).trans HB6.out)]; rfl); have hlt8 := Nat.lt_of_lt_of_le (block_there HB6.out) ho.size; have HW9 := Lib.hid ((HW6.out.trans (ho.below (B := w.heap.size) HW6.out.size (fun _ e => e.elim))).alloc (Nat.le_trans HW6.out.size ho.size) (.cells (madeCells #[.int .i64 0] 0) 3)); clear ha ho c6)
    | (refine wpList_make_row _ rfl _ _ 39 rfl 3 i0 (.int .i64 0) Try.underlying39 hi0 hz0 hz1 rfl .i64 .i64 0 rfl rfl CM.out CN.out ?_)
    | (go_at_call 20; (refine (HSN.out _ _).mono ?_); rintro e w9 ⟨rfl, rfl⟩)
    | (go_at_call 10; (refine (hlen HA8.out).mono ?_); rintro e w9 ⟨rfl, rfl⟩))
  go_ret
  exact ⟨rfl, HW9.out⟩

end Go.Proofs.Ytonlhcebnbdjjaa
