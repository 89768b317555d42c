/- Quiet contracts of slices.Index and slices.Contains: the world is as it was but for draws. -/
import Derived.Test.YtddmdkchlpehpaaSpIdx
import Derived.Deep.QuietTactic
import Derived.BigQuiet
namespace Go.Proofs.Ytddmdkchlpehpaa.Sp
open Go.ChangeShapes Go.WideShapes Go.ChangeAt Go.RowKit Go.Maps
set_option linter.unusedVariables false

set_option maxHeartbeats 1000000 in
theorem index_q (v : Value) (xs : List Int) (t : Int) (w : World) (h : Nums w v xs) (hl : xs.length ≤ 9223372036854775807) :
    Calls Try.prog 83 #[v, .int .i64 t] w (fun e w' => e = .returned (.int .i64 (idx xs t)) ∧ ∃ m, w' = w.drewN m) := by
  obtain ⟨a, c, rfl, hr⟩ := h
  have HR := Lib.hid hr
  clear hr
  go_enter Try.func83, Try.ntmps83
  go_wp2_with fail
  go_loopw [5, 8] (fun _ i wr => ∃ k : Nat, k ≤ xs.length ∧ i = .int .i64 k ∧ (∀ j, j < k → xs.getD j 0 ≠ t) ∧ ∃ m, wr = w.drewN m) (fun _ i _ => xs.length - (intOf i).toNat)
  case atStart => exact ⟨0, Nat.zero_le _, rfl, fun j hj => absurd hj (Nat.not_lt_zero _), ⟨0, rfl⟩⟩
  case round =>
    obtain ⟨k, hk, rfl, ht, m, rfl⟩ := hrel
    have HT := Lib.hid ht
    clear ht
    by_cases hlt : k < xs.length
    · obtain ⟨b, off, rfl, hc⟩ := HR.out k hlt
      have d0 : (w.drewN m).cell? ⟨b, off + k, none⟩ = some (.int .i64 (xs.getD k 0)) := by
        rw [← hc]; simp
      clear hc
      have g1 : (k : Int) < xs.length := by omega
      have g2 : (0 : Int) ≤ k := by omega
      generalize hx : xs.getD k 0 = x at *
      have EX := Lib.hid hx
      clear hx
      by_cases hxt : t = x
      · subst hxt
        go_wp2_with fail
        go_ret
        exact ⟨by rw [idx_hit hlt EX.out HT.out]; rfl, m, rfl⟩
      · have hne : (t == x) = false := by simpa using hxt
        have HN := Lib.hid hxt
        clear hxt
        go_wp2_with fail
        go_roundw
        case rel => exact ⟨k + 1, by omega, by go_num, fun j hj => by
          by_cases e : j = k
          · subst e; rw [EX.out]; exact fun e => HN.out e.symm
          · exact HT.out j (by omega), ⟨m, rfl⟩⟩
        case measure => simp [intOf]; omega
    · obtain rfl : k = xs.length := by omega
      go_wp2_with fail
      go_ret
      exact ⟨by rw [idx_miss HT.out]; rfl, m, rfl⟩

theorem contains_q (v : Value) (xs : List Int) (t : Int) (w : World) (h : Nums w v xs) (hl : xs.length ≤ 9223372036854775807) :
    Calls Try.prog 39 #[v, .int .i64 t] w (fun e w' => e = .returned (.bool (decide (t ∈ xs))) ∧ ∃ m, w' = w.drewN m) := by
  have C := Lib.hid (index_q v xs t w h hl)
  obtain ⟨a, c, rfl, hr⟩ := h
  clear hr
  by_cases ht : t ∈ xs
  · have E := Lib.hid (decide_eq_true ht)
    have e := (idx_nonneg ht).1
    have h0 : 0 ≤ idx xs t := by omega
    clear e
    generalize idx xs t = x at *
    go_enter Try.func39, Try.ntmps39
    go_wp2_with (go_at_call 83; (with_reducible refine C.out.mono ?_); rintro e w1 ⟨rfl, m, rfl⟩)
    go_ret
    exact ⟨by rw [E.out]; first | rfl | simp [*], m, rfl⟩
  · have E := Lib.hid (decide_eq_false ht)
    have e := idx_neg ht
    have h0 : ¬ 0 ≤ idx xs t := by omega
    clear e
    generalize idx xs t = x at *
    go_enter Try.func39, Try.ntmps39
    go_wp2_with (go_at_call 83; (with_reducible refine C.out.mono ?_); rintro e w1 ⟨rfl, m, rfl⟩)
    go_ret
    exact ⟨by rw [E.out]; exact congrArg (fun x => Ending.returned (.bool x)) (decide_eq_false (by omega)).symm.symm, m, rfl⟩


end Go.Proofs.Ytddmdkchlpehpaa.Sp
