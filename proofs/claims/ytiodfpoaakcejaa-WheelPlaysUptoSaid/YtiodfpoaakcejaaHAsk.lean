/- The contracts of New, Len, Peek and Key: they only read a heap. -/
import Derived.Test.YtiodfpoaakcejaaHRemove
namespace Go.Proofs.Ytiodfpoaakcejaa.Hp
open Go.ChangeShapes Go.WideShapes Go.ChangeAt Go.RowKit Go.Maps
set_option linter.unusedVariables false

/-- A heap as New makes it. -/
def Fresh (p o T : Nat) (F : Nat → Option Value) (w : World) : Prop := Host w p o T F (.slice none 0 0) (.map none)

theorem peek_none (p o : Nat) (cap : Nat) (a : Option Addr) (w : World) (c0 : w.cell? ⟨p, o, none⟩ = some (.slice a 0 cap)) :
    Calls Try.prog 32 #[.pointer (some ⟨p, o, none⟩)] w fun e w' => e = .returned (.tuple #[.int .i64 0, .int .i64 0, .int .i64 4]) ∧ w = w' := by
  go_enter Try.func32, Try.ntmps32
  go_wp2
  go_ret3
  exact ⟨rfl, rfl⟩

theorem peek_some (p o T : Nat) (F : Nat → Option Value) (g b cap n : Nat) (L : List (Int × Int)) (w : World) (h : Rep p o T F g b cap w L) (hn : L.length = n + 1) :
    Calls Try.prog 32 #[.pointer (some ⟨p, o, none⟩)] w fun e w' => e = .returned (.tuple #[.int .i64 (it L 0).1, .int .i64 (it L 0).2, .int .i64 0]) ∧ Only (fun _ => False) w w' := by
  have hln := h.len
  obtain ⟨c0, -⟩ := h.cells
  obtain ⟨x0, x1, -⟩ := row_cell h.items (i := 0) (by omega)
  rw [hn] at c0 hln
  clear h hn
  have e1 : (0 : Int) < (n : Int) + 1 := by omega
  go_enter Try.func32, Try.ntmps32
  go_wp2_with fail
  go_region
  all_goals (go_wp2; go_ret3; exact ⟨rfl, (Only.refl _ w).drew⟩)

theorem key_none (p o T : Nat) (F : Nat → Option Value) (g b cap : Nat) (id : Int) (L : List (Int × Int)) (w : World) (h : Rep p o T F g b cap w L) (hw : (Lit.int .i64 id).wf = true) (hno : ∀ i, i < L.length → (it L i).1 ≠ id) :
    Calls Try.prog 28 #[.pointer (some ⟨p, o, none⟩), .int .i64 id] w fun e w' => e = .returned (.tuple #[.int .i64 0, .int .i64 4]) ∧ w = w' := by
  obtain ⟨-, c1⟩ := h.cells
  obtain ⟨D, hD, hP⟩ := h.map
  have hh : Maps.has D (.int .i64 id) = false := by
    rcases Bool.eq_false_or_eq_true (Maps.has D (key id)) with hx | hx
    · obtain ⟨i, hi, he⟩ := hP.only id hx
      exact absurd he (hno i hi)
    · exact hx
  have hkey := keyOf_int_mk Try.underlying3 hw
  clear h hP
  go_enter Try.func28, Try.ntmps28
  go_wp2_with (at_lookup; refine wpList_lookup_own_ok_int _ rfl _ _ 59 rfl 3 3 .i64 law3 Try.underlying59 Try.underlying3 (zero3 _) b L.length D rfl hD _ _ rfl hkey ?_; intro c hat hwc)
  go_ret2
  exact ⟨rfl, rfl⟩

theorem key_fresh (p o T : Nat) (F : Nat → Option Value) (id : Int) (w : World) (h : Fresh p o T F w) (hw : (Lit.int .i64 id).wf = true) :
    Calls Try.prog 28 #[.pointer (some ⟨p, o, none⟩), .int .i64 id] w fun e w' => e = .returned (.tuple #[.int .i64 0, .int .i64 4]) ∧ w = w' := by
  have c1 : w.cell? ⟨p, o + 1, none⟩ = some (.map none) := Host.c1 h
  have hrun := look_nil (w := w) true law3 Try.underlying59 (zero3 _) (keyOf_int_mk Try.underlying3 hw)
  clear h
  go_enter Try.func28, Try.ntmps28
  go_wp2
  go_ret2
  exact ⟨rfl, rfl⟩

theorem spot_int {D : DataW Unit} {L : List (Int × Int)} {i : Nat} {c : Int} (hP : Placed D L) (hi : i < L.length) (h : D.atKey (.int .i64 (it L i).1) (.lit (.int .i64 0)) = .lit (.int .i64 c)) : c = i := by
  rw [(hP.there i hi).2] at h
  cases h; rfl

theorem key_some (p o T : Nat) (F : Nat → Option Value) (g b cap i : Nat) (L : List (Int × Int)) (w : World) (h : Rep p o T F g b cap w L) (hi : i < L.length) :
    Calls Try.prog 28 #[.pointer (some ⟨p, o, none⟩), .int .i64 (it L i).1] w fun e w' => e = .returned (.tuple #[.int .i64 (it L i).2, .int .i64 0]) ∧ Only (fun _ => False) w w' := by
  have hln := h.len
  obtain ⟨c0, c1⟩ := h.cells
  obtain ⟨D, hD, hP⟩ := h.map
  have hh : Maps.has D (.int .i64 (it L i).1) = true := (hP.there i hi).1
  have hkey := keyOf_int_mk Try.underlying3 (h.wf i hi)
  obtain ⟨x0, x1, -⟩ := row_cell h.items hi
  have HP := Lib.hid hP
  clear h hP
  have e1 : (i : Int) < L.length := by omega
  have e2 : (0 : Int) ≤ i := by omega
  go_enter Try.func28, Try.ntmps28
  go_wp2_with (at_lookup; refine wpList_lookup_own_ok_int _ rfl _ _ 59 rfl 3 3 .i64 law3 Try.underlying59 Try.underlying3 (zero3 _) b L.length D rfl hD _ _ rfl hkey ?_; intro c hat hwc; obtain rfl := spot_int HP.out hi hat)
  go_ret2
  exact ⟨rfl, Only.refl _ w⟩
end Go.Proofs.Ytiodfpoaakcejaa.Hp
