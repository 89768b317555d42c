/- Contracts of slices.Contains and slices.IsSorted at numbers, and of package spread's Tasks. -/
import Derived.Test.YtddmdkchlpehpaaSpPlay
import Derived.Test.YtddmdkchlpehpaaOne
namespace Go.Proofs.Ytddmdkchlpehpaa.Sp
open Go.ChangeShapes Go.WideShapes Go.ChangeAt Go.RowKit Go.Maps
open Go.Proofs.Ytddmdkchlpehpaa.Vt
set_option linter.unusedVariables false

/-- A bool was answered, and memory is as it was. -/
def BoolOnly (b : Bool) (w : World) (e : Ending) (w' : World) : Prop := e = .returned (.bool b) ∧ Only (fun _ => False) w w'
theorem bool_is {b c : Bool} {w w' : World} (h : c = b) (hO : Only (fun _ => False) w w') : BoolOnly c w (.returned (.bool b)) w' := by subst h; exact ⟨rfl, hO⟩

/-- Where a list has a number; -1: nowhere. -/
def idx (xs : List Int) (t : Int) : Int := if t ∈ xs then (xs.idxOf t : Nat) else -1

theorem idx_hit {xs : List Int} {t : Int} {k : Nat} (hk : k < xs.length) (hx : xs.getD k 0 = t) (hn : ∀ j, j < k → xs.getD j 0 ≠ t) : idx xs t = k := by
  have hx' : xs[k] = t := by simpa [List.getD, hk] using hx
  have hm : t ∈ xs := by rw [← hx']; exact List.getElem_mem hk
  unfold idx
  rw [if_pos hm]
  congr 1
  unfold List.idxOf
  rw [List.findIdx_eq hk]
  refine ⟨by simp [hx'], fun j hj => ?_⟩
  have := hn j hj
  simpa [List.getD, show j < xs.length by omega] using this

theorem idx_miss {xs : List Int} {t : Int} (hn : ∀ j, j < xs.length → xs.getD j 0 ≠ t) : idx xs t = -1 := by
  unfold idx
  rw [if_neg]
  intro hm
  obtain ⟨j, hj, e⟩ := List.getElem_of_mem hm
  exact hn j hj (by simpa [List.getD, hj] using e)

theorem idx_nonneg {xs : List Int} {t : Int} (h : t ∈ xs) : idx xs t = (xs.idxOf t : Nat) ∧ xs.idxOf t < xs.length := by
  unfold idx; rw [if_pos h]; exact ⟨rfl, List.idxOf_lt_length_iff.2 h⟩
theorem idx_neg {xs : List Int} {t : Int} (h : t ∉ xs) : idx xs t = -1 := by unfold idx; rw [if_neg h]

/-- A number was answered, and memory is as it was. -/
def IntOnly (x : Int) (w : World) (e : Ending) (w' : World) : Prop := e = .returned (.int .i64 x) ∧ Only (fun _ => False) w w'
theorem int_is {b c : Int} {w w' : World} (h : c = b) (hO : Only (fun _ => False) w w') : IntOnly c w (.returned (.int .i64 b)) w' := by subst h; exact ⟨rfl, hO⟩
set_option maxHeartbeats 1000000 in
theorem index_any (v : Value) (xs : List Int) (t : Int) (w : World) (h : Nums w v xs) (hl : xs.length ≤ 9223372036854775807) :
    Calls Try.prog 83 #[v, .int .i64 t] w (IntOnly (idx xs t) w) := by
  obtain ⟨a, c, rfl, hr⟩ := h
  have HR := Lib.hid hr
  clear hr
  go_enter Try.func83, Try.ntmps83
  go_wp2_with fail
  go_loopw [5, 8] (fun _ i wr => ∃ k : Nat, k ≤ xs.length ∧ i = .int .i64 k ∧ (∀ j, j < k → xs.getD j 0 ≠ t) ∧ Only (fun _ => False) w wr) (fun _ i _ => xs.length - (intOf i).toNat)
  case atStart => exact ⟨0, Nat.zero_le _, rfl, fun j hj => absurd hj (Nat.not_lt_zero _), Only.refl _ w⟩
  case round =>
    obtain ⟨k, hk, rfl, ht, hO⟩ := hrel
    have HT := Lib.hid ht
    have HO := Lib.hid hO
    clear ht hO
    by_cases hlt : k < xs.length
    · obtain ⟨b, off, rfl, hc⟩ := HR.out k hlt
      have d0 : wr.cell? ⟨b, off + k, none⟩ = some (.int .i64 (xs.getD k 0)) := by
        rw [← hc]; unfold World.cell?; rw [HO.out.block b (block_lt hc) (fun e => e)]
      clear hc
      have g1 : (k : Int) < xs.length := by omega
      have g2 : (0 : Int) ≤ k := by omega
      generalize hx : xs.getD k 0 = x at *
      have EX := Lib.hid hx
      clear hx
      by_cases hxt : t = x
      · subst hxt
        go_wp2_with fail
        go_ret
        exact int_is (idx_hit hlt EX.out HT.out) HO.out
      · have hne : (t == x) = false := by simpa using hxt
        have HN := Lib.hid hxt
        clear hxt
        go_wp2_with fail
        go_roundw
        case rel => exact ⟨k + 1, by omega, by go_num, fun j hj => by
          by_cases e : j = k
          · subst e; rw [EX.out]; exact fun e => HN.out e.symm
          · exact HT.out j (by omega), HO.out⟩
        case measure => simp [intOf]; omega
    · obtain rfl : k = xs.length := by omega
      go_wp2_with fail
      go_ret
      exact int_is (idx_miss HT.out) HO.out

theorem contains_any (v : Value) (xs : List Int) (t : Int) (w : World) (h : Nums w v xs) (hl : xs.length ≤ 9223372036854775807) :
    Calls Try.prog 39 #[v, .int .i64 t] w (BoolOnly (decide (t ∈ xs)) w) := by
  have C := Lib.hid (index_any v xs t w h hl)
  obtain ⟨a, c, rfl, hr⟩ := h
  clear hr
  by_cases ht : t ∈ xs
  · have E := Lib.hid (decide_eq_true ht)
    have e := (idx_nonneg ht).1
    have h0 : 0 ≤ idx xs t := by omega
    clear e
    generalize idx xs t = x at *
    go_enter Try.func39, Try.ntmps39
    go_wp2_with (go_at_call 83; (with_reducible refine C.out.mono ?_); rintro e w1 ⟨rfl, hO⟩; have HO := Lib.hid hO; clear hO)
    go_ret
    exact bool_is E.out HO.out
  · have E := Lib.hid (decide_eq_false ht)
    have e := idx_neg ht
    have h0 : ¬ 0 ≤ idx xs t := by omega
    clear e
    generalize idx xs t = x at *
    go_enter Try.func39, Try.ntmps39
    go_wp2_with (go_at_call 83; (with_reducible refine C.out.mono ?_); rintro e w1 ⟨rfl, hO⟩; have HO := Lib.hid hO; clear hO)
    go_ret
    exact bool_is (E.out.trans (decide_eq_false (by omega)).symm) HO.out


theorem nan_none (a : Int) (w : World) : Calls Try.prog 103 #[.int .i64 a] w fun e w' => e = .returned (.bool false) ∧ w = w' := by
  go_enter Try.func103, Try.ntmps103
  go_wp2
  go_ret
  simp
theorem less_not (a b : Int) (h : ¬ a < b) (w : World) : Calls Try.prog 84 #[.int .i64 a, .int .i64 b] w fun e w' => e = .returned (.bool false) ∧ w = w' := by
  go_enter Try.func84, Try.ntmps84
  go_wp2_with (go_at_call 103; refine (nan_none _ _).mono ?_; rintro e w' ⟨rfl, rfl⟩)
  go_ret
  exact ⟨by show Ending.returned (.bool (decide (a < b))) = _; rw [decide_eq_false (by omega)], rfl⟩
theorem sorted_any (v : Value) (xs : List Int) (w : World) (h : Nums w v xs) (hl : xs.length ≤ 9223372036854775807) (hs : ∀ m, m + 1 < xs.length → xs.getD m 0 ≤ xs.getD (m + 1) 0) :
    Calls Try.prog 40 #[v] w (BoolOnly true w) := by
  obtain ⟨a, c, rfl, hr⟩ := h
  have HR := Lib.hid hr
  have HS := Lib.hid hs
  clear hr hs
  go_enter Try.func40, Try.ntmps40
  go_wp2_with fail
  go_loopw [3] (fun i wr => ∃ k : Int, k < xs.length ∧ i = .int .i64 k ∧ -1 ≤ k ∧ Only (fun _ => False) w wr) (fun i _ => (intOf i).toNat)
  case atStart => exact ⟨_, by omega, rfl, by omega, Only.refl _ w⟩
  case round =>
    obtain ⟨k, hk, rfl, hk2, hO⟩ := hrel
    have HO := Lib.hid hO
    clear hO
    by_cases hlt : 0 < k
    · obtain ⟨m, hm⟩ : ∃ m : Nat, k = (m : Int) + 1 := ⟨(k - 1).toNat, by omega⟩
      obtain ⟨j, hj⟩ : ∃ j : Nat, m + 1 = j := ⟨_, rfl⟩
      obtain rfl : k = (j : Int) := by omega
      have ek : (j : Int) - 1 = (m : Int) := by omega
      obtain ⟨b, off, rfl, hc⟩ := HR.out j (by omega)
      obtain ⟨b', off', e2, hc'⟩ := HR.out m (by omega)
      cases e2
      have le := HS.out m (by omega)
      rw [hj] at le
      have d0 : wr.cell? ⟨b, off + j, none⟩ = some (.int .i64 (xs.getD j 0)) := by
        rw [← hc]; unfold World.cell?; rw [HO.out.block b (block_lt hc) (fun e => e)]
      have d1 : wr.cell? ⟨b, off + m, none⟩ = some (.int .i64 (xs.getD m 0)) := by
        rw [← hc']; unfold World.cell?; rw [HO.out.block b (block_lt hc) (fun e => e)]
      clear hc hc'
      have g1 : (j : Int) < xs.length := by omega
      have g2 : (0 : Int) ≤ j := by omega
      have g3 : (m : Int) < xs.length := by omega
      have g4 : (0 : Int) ≤ m := by omega
      generalize xs.getD j 0 = x at *
      generalize xs.getD m 0 = y at *
      have KL := Lib.hid (fun w => less_not x y (by omega) w)
      have wk : IntKind.i64.wrap ((j : Int) - 1) = (m : Int) := by rw [ek]; exact IntWalk.i64_in _ (by omega)
      have EK := Lib.hid ek
      clear hm hj ek
      go_wp2_with fail
      go_region_held3 (fun W => W.cell? ⟨b, off + j, none⟩ = some (.int .i64 x) ∧ W.cell? ⟨b, off + m, none⟩ = some (.int .i64 y)) (first | exact ⟨d0, d1⟩ | go_keep)
        (first
          | (go_at_call 84; (with_reducible refine (KL.out _).mono ?_); rintro e w' ⟨rfl, rfl⟩))
      all_goals (
        (try go_wp2_with fail)
        go_roundw
        case rel => exact ⟨m, by omega, by first | rfl | rw [EK.out] | go_num, by omega, by first | exact HO.out | exact HO.out.drew⟩
        case measure => have := EK.out; simp [intOf]; omega)
    · go_wp2_with fail
      go_ret
      exact ⟨rfl, HO.out⟩
end Go.Proofs.Ytddmdkchlpehpaa.Sp
