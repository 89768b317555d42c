/- Contracts of slices.Index and slices.Contains at numbers: plain, and quiet (the world is as it was but for draws). -/
import Derived.Test.YtddfdnhlghmapaaEq
import Derived.Test.YtddfdnhlghmapaaOne
namespace Go.Proofs.Ytddfdnhlghmapaa
open Go.ChangeShapes Go.WideShapes Go.ChangeAt Go.RowKit Go.Maps
set_option linter.unusedVariables false

/-- Where a list has a number; -1: nowhere. -/
def idx (xs : List Int) (t : Int) : Int := if t ∈ xs then (xs.idxOf t : Nat) else -1

theorem idx_hit {xs : List Int} {t : Int} {k : Nat} (hk : k < xs.length) (hx : xs.getD k 0 = t) (hn : ∀ j, j < k → xs.getD j 0 ≠ t) : idx xs t = k := by
  have hx' : xs[k] = t := by simpa [List.getD, hk] using hx
  have hm : t ∈ xs := by rw [← hx']; exact List.getElem_mem hk
  unfold idx
  rw [if_pos hm]
  congr 1
  unfold List.idxOf
  rw [List.findIdx_eq hk]
  refine ⟨by simp [hx'], fun j hj => ?_⟩
  have := hn j hj
  simpa [List.getD, show j < xs.length by omega] using this

theorem idx_miss {xs : List Int} {t : Int} (hn : ∀ j, j < xs.length → xs.getD j 0 ≠ t) : idx xs t = -1 := by
  unfold idx
  rw [if_neg]
  intro hm
  obtain ⟨j, hj, e⟩ := List.getElem_of_mem hm
  exact hn j hj (by simpa [List.getD, hj] using e)

theorem idx_nonneg {xs : List Int} {t : Int} (h : t ∈ xs) : idx xs t = (xs.idxOf t : Nat) ∧ xs.idxOf t < xs.length := by
  unfold idx; rw [if_pos h]; exact ⟨rfl, List.idxOf_lt_length_iff.2 h⟩
theorem idx_neg {xs : List Int} {t : Int} (h : t ∉ xs) : idx xs t = -1 := by unfold idx; rw [if_neg h]

/-- A number was answered, and memory is as it was. -/
def IntOnly (x : Int) (w : World) (e : Ending) (w' : World) : Prop := e = .returned (.int .i64 x) ∧ Only (fun _ => False) w w'
theorem int_is {b c : Int} {w w' : World} (h : c = b) (hO : Only (fun _ => False) w w') : IntOnly c w (.returned (.int .i64 b)) w' := by subst h; exact ⟨rfl, hO⟩
set_option maxHeartbeats 1000000 in
theorem index_any (v : Value) (xs : List Int) (t : Int) (w : World) (h : Nums w v xs) (hl : xs.length ≤ 9223372036854775807) :
    Calls Try.prog 58 #[v, .int .i64 t] w (IntOnly (idx xs t) w) := by
  obtain ⟨a, c, rfl, hr⟩ := h
  have HR := Lib.hid hr
  clear hr
  go_enter Try.func58, Try.ntmps58
  go_wp2_with fail
  go_loopw [5, 8] (fun _ i wr => ∃ k : Nat, k ≤ xs.length ∧ i = .int .i64 k ∧ (∀ j, j < k → xs.getD j 0 ≠ t) ∧ Only (fun _ => False) w wr) (fun _ i _ => xs.length - (intOf i).toNat)
  case atStart => exact ⟨0, Nat.zero_le _, rfl, fun j hj => absurd hj (Nat.not_lt_zero _), Only.refl _ w⟩
  case round =>
    obtain ⟨k, hk, rfl, ht, hO⟩ := hrel
    have HT := Lib.hid ht
    have HO := Lib.hid hO
    clear ht hO
    by_cases hlt : k < xs.length
    · obtain ⟨b, off, rfl, hc⟩ := HR.out k hlt
      have d0 : wr.cell? ⟨b, off + k, none⟩ = some (.int .i64 (xs.getD k 0)) := by
        rw [← hc]; unfold World.cell?; rw [HO.out.block b (block_lt hc) (fun e => e)]
      clear hc
      have g1 : (k : Int) < xs.length := by omega
      have g2 : (0 : Int) ≤ k := by omega
      generalize hx : xs.getD k 0 = x at *
      have EX := Lib.hid hx
      clear hx
      by_cases hxt : t = x
      · subst hxt
        go_wp2_with fail
        go_ret
        exact int_is (idx_hit hlt EX.out HT.out) HO.out
      · have hne : (t == x) = false := by simpa using hxt
        have HN := Lib.hid hxt
        clear hxt
        go_wp2_with fail
        go_roundw
        case rel => exact ⟨k + 1, by omega, by go_num, fun j hj => by
          by_cases e : j = k
          · subst e; rw [EX.out]; exact fun e => HN.out e.symm
          · exact HT.out j (by omega), HO.out⟩
        case measure => simp [intOf]; omega
    · obtain rfl : k = xs.length := by omega
      go_wp2_with fail
      go_ret
      exact int_is (idx_miss HT.out) HO.out

theorem contains_any (v : Value) (xs : List Int) (t : Int) (w : World) (h : Nums w v xs) (hl : xs.length ≤ 9223372036854775807) :
    Calls Try.prog 16 #[v, .int .i64 t] w (BoolOnly (decide (t ∈ xs)) w) := by
  have C := Lib.hid (index_any v xs t w h hl)
  obtain ⟨a, c, rfl, hr⟩ := h
  clear hr
  by_cases ht : t ∈ xs
  · have E := Lib.hid (decide_eq_true ht)
    have e := (idx_nonneg ht).1
    have h0 : 0 ≤ idx xs t := by omega
    clear e
    generalize idx xs t = x at *
    go_enter Try.func16, Try.ntmps16
    go_wp2_with (go_at_call 58; (with_reducible refine C.out.mono ?_); rintro e w1 ⟨rfl, hO⟩; have HO := Lib.hid hO; clear hO)
    go_ret
    exact bool_is E.out HO.out
  · have E := Lib.hid (decide_eq_false ht)
    have e := idx_neg ht
    have h0 : ¬ 0 ≤ idx xs t := by omega
    clear e
    generalize idx xs t = x at *
    go_enter Try.func16, Try.ntmps16
    go_wp2_with (go_at_call 58; (with_reducible refine C.out.mono ?_); rintro e w1 ⟨rfl, hO⟩; have HO := Lib.hid hO; clear hO)
    go_ret
    exact bool_is (E.out.trans (decide_eq_false (by omega)).symm) HO.out

set_option maxHeartbeats 1000000 in
theorem index_q (v : Value) (xs : List Int) (t : Int) (w : World) (h : Nums w v xs) (hl : xs.length ≤ 9223372036854775807) :
    Calls Try.prog 58 #[v, .int .i64 t] w (fun e w' => e = .returned (.int .i64 (idx xs t)) ∧ ∃ m, w' = w.drewN m) := by
  obtain ⟨a, c, rfl, hr⟩ := h
  have HR := Lib.hid hr
  clear hr
  go_enter Try.func58, Try.ntmps58
  go_wp2_with fail
  go_loopw [5, 8] (fun _ i wr => ∃ k : Nat, k ≤ xs.length ∧ i = .int .i64 k ∧ (∀ j, j < k → xs.getD j 0 ≠ t) ∧ ∃ m, wr = w.drewN m) (fun _ i _ => xs.length - (intOf i).toNat)
  case atStart => exact ⟨0, Nat.zero_le _, rfl, fun j hj => absurd hj (Nat.not_lt_zero _), ⟨0, rfl⟩⟩
  case round =>
    obtain ⟨k, hk, rfl, ht, m, rfl⟩ := hrel
    have HT := Lib.hid ht
    clear ht
    by_cases hlt : k < xs.length
    · obtain ⟨b, off, rfl, hc⟩ := HR.out k hlt
      have d0 : (w.drewN m).cell? ⟨b, off + k, none⟩ = some (.int .i64 (xs.getD k 0)) := by
        rw [← hc]; simp
      clear hc
      have g1 : (k : Int) < xs.length := by omega
      have g2 : (0 : Int) ≤ k := by omega
      generalize hx : xs.getD k 0 = x at *
      have EX := Lib.hid hx
      clear hx
      by_cases hxt : t = x
      · subst hxt
        go_wp2_with fail
        go_ret
        exact ⟨by rw [idx_hit hlt EX.out HT.out]; rfl, m, rfl⟩
      · have hne : (t == x) = false := by simpa using hxt
        have HN := Lib.hid hxt
        clear hxt
        go_wp2_with fail
        go_roundw
        case rel => exact ⟨k + 1, by omega, by go_num, fun j hj => by
          by_cases e : j = k
          · subst e; rw [EX.out]; exact fun e => HN.out e.symm
          · exact HT.out j (by omega), ⟨m, rfl⟩⟩
        case measure => simp [intOf]; omega
    · obtain rfl : k = xs.length := by omega
      go_wp2_with fail
      go_ret
      exact ⟨by rw [idx_miss HT.out]; rfl, m, rfl⟩

theorem contains_q (v : Value) (xs : List Int) (t : Int) (w : World) (h : Nums w v xs) (hl : xs.length ≤ 9223372036854775807) :
    Calls Try.prog 16 #[v, .int .i64 t] w (fun e w' => e = .returned (.bool (decide (t ∈ xs))) ∧ ∃ m, w' = w.drewN m) := by
  have C := Lib.hid (index_q v xs t w h hl)
  obtain ⟨a, c, rfl, hr⟩ := h
  clear hr
  by_cases ht : t ∈ xs
  · have E := Lib.hid (decide_eq_true ht)
    have e := (idx_nonneg ht).1
    have h0 : 0 ≤ idx xs t := by omega
    clear e
    generalize idx xs t = x at *
    go_enter Try.func16, Try.ntmps16
    go_wp2_with (go_at_call 58; (with_reducible refine C.out.mono ?_); rintro e w1 ⟨rfl, m, rfl⟩)
    go_ret
    exact ⟨by rw [E.out]; first | rfl | simp [*], m, rfl⟩
  · have E := Lib.hid (decide_eq_false ht)
    have e := idx_neg ht
    have h0 : ¬ 0 ≤ idx xs t := by omega
    clear e
    generalize idx xs t = x at *
    go_enter Try.func16, Try.ntmps16
    go_wp2_with (go_at_call 58; (with_reducible refine C.out.mono ?_); rintro e w1 ⟨rfl, m, rfl⟩)
    go_ret
    exact ⟨by rw [E.out]; exact congrArg (fun x => Ending.returned (.bool x)) (decide_eq_false (by omega)).symm.symm, m, rfl⟩


end Go.Proofs.Ytddfdnhlghmapaa
