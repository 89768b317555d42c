/- slices.Delete of the last item of a row. -/
import Derived.Test.YtiodfpoaakcejaaHSink
import Derived.Deep.RegionLaw
import Derived.Lib.SliceRun
namespace Go.Proofs.Ytiodfpoaakcejaa.Hp
open Go.ChangeShapes Go.WideShapes Go.ChangeAt Go.RowKit Go.Maps
set_option linter.unusedVariables false

theorem Try.info79 : (Try.prog.info? 79).map (fun i => (i.zero, i.size, i.bytes)) = some (some (.agg #[.int .i64 0, .int .i64 0]), 2, 16) := by kernel_rfl
theorem zero79 (w : World) : (zeroValue 79).run Try.prog w = .ok (.agg #[.int .i64 0, .int .i64 0]) w := by
  obtain ⟨i0, hi, hz0, hz1, hz2⟩ := info_parts Try.info79
  simp [zeroValue, typeInfo, hi, hz0]

theorem run_clear_item (w : World) (ty : TypeId) (b o c : Nat) (hc : ∀ j, j < 2 → (w.cell? ⟨b, o + j, none⟩).isSome = true) (hf : ∀ j, j < 2 → w.frozen? ⟨b, o + j, none⟩ = false) :
    (Builtin.clear_ #[58] ty #[.slice (some ⟨b, o, none⟩) 1 c]).run Try.prog w = .ok (.tuple #[]) (w.setCells b o [.int .i64 0, .int .i64 0]) := by
  have hst := run_storeCells_cells (P := Try.prog) b o [.int .i64 0, .int .i64 0] 0 w (by simpa using hc) (by simpa using hf) (by intro v hv'; simp at hv'; subst hv'; rfl)
  simp only [Nat.add_zero] at hst
  have hzc : (Builtin.zeroCells (Value.agg #[.int .i64 0, .int .i64 0]).cells 1).toList = [.int .i64 0, .int .i64 0] := by
    simp [Builtin.zeroCells, Value.cells]
    rfl
  simp [Builtin.clear_, run_underlying Try.underlying58, hzc, hst]

/-- What is known behind Delete. -/
def DelAnswer (g n cap : Nat) (xs : List Value) (w : World) (e : Ending) (w' : World) : Prop :=
  e = .returned (.slice (some ⟨g, 0, none⟩) n cap) ∧ w'.ownsRow 0 79 2 (.slice (some ⟨g, 0, none⟩) n cap) n (xs.take (n * 2)) ∧ Only (· = g) w w'

set_option maxRecDepth 100000 in
theorem delete_last (g n cap : Nat) (xs : List Value) (w : World) (hown : w.ownsRow 0 79 2 (.slice (some ⟨g, 0, none⟩) (n + 1) cap) (n + 1) xs) (hb : n ≤ 6000000000000) :
    Calls Try.prog 49 #[.slice (some ⟨g, 0, none⟩) (n + 1) cap, .int .i64 n, .int .i64 ((n : Int) + 1)] w (DelAnswer g n cap xs w) := by
  obtain ⟨i0, hi, hz0, hz1, hz2⟩ := info_parts Try.info79
  rcases hown with ⟨hlen, ⟨h1, _⟩ | ⟨g', cap', cur, h1, -, hg, hnc, hcm, hcs, htake⟩⟩
  · cases h1
  · cases h1
    have hcapm : cap ≤ 9223372036854775807 := by unfold maxLen at hcm; omega
    have hself : w.drew.heap[g]? = some (.cells cur 79 (0, 0)) := hg
    have hcl : ∀ ty, (Builtin.clear_ #[58] ty #[.slice (some ⟨g, n * 2, none⟩) 1 (cap - n)]).run Try.prog w.drew = .ok (.tuple #[]) (w.drew.setCells g (n * 2) [.int .i64 0, .int .i64 0]) := by
      intro ty
      refine run_clear_item _ ty g _ _ (fun j hj => ?_) (fun j hj => frozen_at hself _)
      rw [cell_at hself]
      simp; omega
    have HF := Lib.hid (show DelAnswer g n cap xs w (.returned (.slice (some ⟨g, 0, none⟩) n cap)) (w.drew.setCells g (n * 2) [.int .i64 0, .int .i64 0]) from by
      refine ⟨rfl, ⟨by simp; omega, Or.inr ⟨g, cap, _, rfl, Nat.zero_le _, heap_setCell_same _ g _ _ 79 _ (heap_setCell_same _ g _ _ 79 _ hself), by omega, hcm, by simpa using hcs, ?_⟩⟩, ?_⟩
      · rw [Array.toList_setIfInBounds, Array.toList_setIfInBounds, List.take_set_of_le (by omega), List.take_set_of_le (by omega), ← htake, List.take_take]
        congr 1; omega
      · exact ((Only.refl (S := fun k => k = g) w).drew.setCell (p := ⟨g, n * 2, none⟩) rfl _).setCell (p := ⟨g, n * 2 + 1, none⟩) rfl _)
    have hcl2 : ∀ ty, (Builtin.clear_ #[58] ty #[.slice (some ⟨g, n * 2, none⟩) 1 (cap - n)]).run Try.prog (w.drew.setCells g (n * 2) []) = .ok (.tuple #[]) (w.drew.setCells g (n * 2) [.int .i64 0, .int .i64 0]) := hcl
    clear hlen hg hcs htake hcm hself hcl
    go_enter Try.func49, Try.ntmps49
    go_wp2_with fail
    obtain ⟨A, hA⟩ : ∃ A : Addr, (if cap = n + 1 then some (⟨g, 0, none⟩ : Addr) else some ⟨g, (n + 1) * 2, none⟩) = some A := by
      by_cases h : cap = n + 1
      · exact ⟨_, by rw [if_pos h]⟩
      · exact ⟨_, by rw [if_neg h]⟩
    have hnc2 : n ≤ cap := by omega
    have hle : (0 : Int) ≤ (n : Int) + 1 := by omega
    have hle2 : ((n : Int) + 1).toNat = n + 1 := by omega
    go_region_law (refine step_append_room rfl (.tmp 22) (.tmp 25) 58 rfl 79 i0 2 Try.underlying58 hi hz1 g 0 n cap (by simp [Act.eval, Act.put]) A 0 (cap - (n + 1)) [] (by simp [Act.eval, Act.put]) (by rfl) (by simp) (by simp) (by omega) (by simp) ?_)
    go_wp2
    go_ret
    exact HF.out
end Go.Proofs.Ytiodfpoaakcejaa.Hp
