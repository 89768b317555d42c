/- The contract of slices.Equal at numbers. -/
import Derived.Test.YtddfdnhlghmapaaInts
import Derived.Deep.QuietTactic
import Derived.BigQuiet
namespace Go.Proofs.Ytddfdnhlghmapaa
open Go.ChangeShapes Go.WideShapes Go.ChangeAt Go.RowKit
set_option linter.unusedVariables false

theorem take_more {xs ys : List Int} {k : Nat} (h : xs.take k = ys.take k) (hx : k < xs.length) (hy : k < ys.length) (he : xs.getD k 0 = ys.getD k 0) : xs.take (k + 1) = ys.take (k + 1) := by
  rw [List.take_succ_eq_append_getElem hx, List.take_succ_eq_append_getElem hy, h]
  have : xs[k] = ys[k] := by simpa [List.getD, hx, hy] using he
  rw [this]

/-- A bool was answered, and memory is as it was. -/
def BoolOnly (b : Bool) (w : World) (e : Ending) (w' : World) : Prop := e = .returned (.bool b) ∧ Only (fun _ => False) w w'

theorem bool_is {b c : Bool} {w w' : World} (h : c = b) (hO : Only (fun _ => False) w w') : BoolOnly c w (.returned (.bool b)) w' := by subst h; exact ⟨rfl, hO⟩

set_option maxHeartbeats 1000000 in
theorem eq_any (v v' : Value) (xs ys : List Int) (w : World) (h : Nums w v xs) (h' : Nums w v' ys) (hl : xs.length ≤ 9223372036854775807) (hl' : ys.length ≤ 9223372036854775807) :
    Calls Try.prog 13 #[v, v'] w (BoolOnly (decide (xs = ys)) w) := by
  obtain ⟨a, c, rfl, hr⟩ := h
  obtain ⟨a', c', rfl, hr'⟩ := h'
  by_cases hle : xs.length = ys.length
  · have HR := Lib.hid hr
    have HR' := Lib.hid hr'
    have HLE := Lib.hid hle
    rw [← hle]
    clear hr hr' hle hl'
    go_enter Try.func13, Try.ntmps13
    go_wp2_with fail
    go_loopw [5, 13, 15, 16, 17, 18, 19, 20, 21, 22, 23, 24, 25] (fun _ i _ _ _ _ _ _ _ _ _ _ _ wr => ∃ k : Nat, k ≤ xs.length ∧ i = .int .i64 k ∧ xs.take k = ys.take k ∧ Only (fun _ => False) w wr) (fun _ i _ _ _ _ _ _ _ _ _ _ _ _ => xs.length - (intOf i).toNat)
    case atStart => exact ⟨0, Nat.zero_le _, rfl, rfl, Only.refl _ w⟩
    case round =>
      obtain ⟨k, hk, rfl, ht, hO⟩ := hrel
      have HT := Lib.hid ht
      have HO := Lib.hid hO
      clear ht hO
      by_cases hlt : k < xs.length
      · obtain ⟨b, off, rfl, hc⟩ := HR.out k hlt
        obtain ⟨b', off', rfl, hc'⟩ := HR'.out k (by rw [← HLE.out]; exact hlt)
        have d0 : wr.cell? ⟨b, off + k, none⟩ = some (.int .i64 (xs.getD k 0)) := by
          rw [← hc]; unfold World.cell?; rw [HO.out.block b (block_lt hc) (fun e => e)]
        have d1 : wr.cell? ⟨b', off' + k, none⟩ = some (.int .i64 (ys.getD k 0)) := by
          rw [← hc']; unfold World.cell?; rw [HO.out.block b' (block_lt hc') (fun e => e)]
        clear hc hc'
        have g1 : (k : Int) < xs.length := by omega
        have g2 : (0 : Int) ≤ k := by omega
        have HX := Lib.hid (show ys.getD k 0 = ys.getD k 0 from rfl)
        generalize hx : xs.getD k 0 = x at *
        generalize hy : ys.getD k 0 = y at *
        have EX := Lib.hid hx
        have EY := Lib.hid hy
        clear hx hy HX
        go_wp2_with fail
        go_quiet (fail)
        by_cases hxy : x = y
        · subst hxy
          go_wp2_with fail
          go_roundw
          case rel => exact ⟨k + 1, by omega, by go_num, take_more HT.out hlt (by rw [← HLE.out]; exact hlt) (EX.out.trans EY.out.symm), only_drewN HO.out _⟩
          case measure => simp [intOf]; omega
        · go_wp2_with fail
          go_ret
          have hne : xs ≠ ys := by
            rintro rfl
            exact hxy (EX.out.symm.trans EY.out)
          exact bool_is (b := false) (decide_eq_false hne) (only_drewN HO.out _)
      · have he : k = xs.length := by omega
        have HE := Lib.hid (show xs = ys from by
          have := HT.out
          rw [List.take_of_length_le (by omega), List.take_of_length_le (by rw [← HLE.out]; omega)] at this
          exact this)
        go_wp2_with fail
        go_ret
        exact bool_is (b := true) (decide_eq_true HE.out) HO.out
  · have hne : xs ≠ ys := fun e => hle (by rw [e])
    have e1 : ¬ ((xs.length : Int) = ys.length) := by omega
    have HNE := Lib.hid hne
    clear hr hr' hne
    go_enter Try.func13, Try.ntmps13
    go_wp2_with fail
    go_ret
    exact bool_is (b := false) (decide_eq_false HNE.out) (Only.refl _ w)

theorem eq_same (v v' : Value) (xs : List Int) (w : World) (h : Nums w v xs) (h' : Nums w v' xs) (hl : xs.length ≤ 9223372036854775807) :
    Calls Try.prog 13 #[v, v'] w (BoolOnly true w) := by
  have := eq_any v v' xs xs w h h' hl hl
  simpa using this
end Go.Proofs.Ytddfdnhlghmapaa
