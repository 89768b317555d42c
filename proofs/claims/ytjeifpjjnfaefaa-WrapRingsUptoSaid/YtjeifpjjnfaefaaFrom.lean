/- The contract of From: copies of all records from one on. -/
import Derived.Test.YtjeifpjjnfaefaaGet
namespace Go.Proofs.Ytjeifpjjnfaefaa
open Go.ChangeShapes Go.WideShapes Go.ChangeAt Go.RowKit
set_option linter.unusedVariables false

/-- A slice of rows of bytes of the call's own. -/
def RowsAt (w : World) (base : Nat) (V : Value) (recs : List (List Int)) : Prop :=
  ∃ vals : List Value, vals.length = recs.length ∧ w.ownsRow base 35 1 V recs.length vals ∧ ∀ j, j < recs.length → OwnBytes w base (vals.getD j (.slice none 0 0)) (recs.getD j [])

/-- Copies of the records were answered, in memory of the call's own. -/
def FromAnswer (recs : List (List Int)) (w : World) (e : Ending) (w' : World) : Prop :=
  ∃ v, e = .returned (.tuple #[v, .int .i64 0]) ∧ RowsAt w' w.heap.size v recs ∧ Below w.heap.size w w'

theorem rows_nil (w : World) (base : Nat) : RowsAt w base (.slice none 0 0) [] := ⟨[], rfl, World.ownsRow_nil _ _ _ _, fun j hj => by cases hj⟩

theorem rows_snoc {w w1 w3 : World} {base : Nat} {v v1 v3 : Value} {rs : List (List Int)} {xs : List Int} {vals : List Value} (hb1 : Below w.heap.size w w1) (hv1 : OwnBytes w1 w.heap.size v1 xs) (hbase : base ≤ w.heap.size)
    (hvl : vals.length = rs.length) (ho : w.ownsRow base 35 1 v rs.length vals) (hr : ∀ j, j < rs.length → OwnBytes w base (vals.getD j (.slice none 0 0)) (rs.getD j []))
    (ho3 : w3.ownsRow base 35 1 v3 (rs.length + 1) (vals ++ [v1])) (hg : (w1.alloc (.cells #[v1] 35)).grownBy w3 v.ownBlock) : RowsAt w3 base v3 (rs ++ [xs]) ∧ Below base w w3 := by
  have hV : ∀ k, v.ownBlock = some k → base ≤ k ∧ k < w.heap.size := ho.lt
  have hO1 : Only (fun _ => False) w (w1.alloc (.cells #[v1] 35)) := (Only.of_below hb1).alloc _
  have hO3 : Only (fun k => v.ownBlock = some k) w w3 := (hO1.mono (T := fun k => v.ownBlock = some k) (fun _ _ h => h.elim)).trans (Only.of_grown (S := fun k => v.ownBlock = some k) hg (fun k hk => hk)) (fun _ _ h => h)
  have hnew : OwnBytes w3 base v1 xs := by
    have h1 : OwnBytes (w1.alloc (.cells #[v1] 35)) w.heap.size v1 xs := owns_kept hv1 ((Only.refl (fun _ => False) w1).alloc _) (fun _ _ h => h)
    have h2 : OwnBytes w3 w.heap.size v1 xs := owns_kept h1 (Only.of_grown (S := fun k => v.ownBlock = some k) hg (fun k hk => hk)) (fun k hk e => by
      have := (hv1.lt k hk).1
      have := (hV k e).2
      omega)
    exact owns_base h2 hbase
  refine ⟨⟨vals ++ [v1], by simp [hvl], by rw [List.length_append]; exact ho3, fun j hj => ?_⟩, hO3.below hbase (fun k hk => (hV k hk).1)⟩
  simp only [List.length_append, List.length_singleton] at hj
  by_cases hj2 : j < rs.length
  · have e1 : (vals ++ [v1]).getD j (.slice none 0 0) = vals.getD j (.slice none 0 0) := by simp [List.getD, List.getElem?_append_left (show j < vals.length by omega)]
    have e2 : (rs ++ [xs]).getD j [] = rs.getD j [] := by simp [List.getD, List.getElem?_append_left hj2]
    rw [e1, e2]
    exact owns_kept (hr j hj2) hO3 (fun k hk e => by
      obtain ⟨cur, hc⟩ := owns_type (hr j hj2) hk
      obtain ⟨cur2, hc2⟩ := owns_type ho e
      rw [hc] at hc2; cases hc2)
  · have e0 : j = rs.length := by omega
    have e1 : (vals ++ [v1]).getD j (.slice none 0 0) = v1 := by subst e0; simp [List.getD, ← hvl]
    have e2 : (rs ++ [xs]).getD j [] = xs := by subst e0; simp [List.getD]
    rw [e1, e2]
    exact hnew

theorem from_none (M : Nat → Prop) (B p : Nat) (V : Value) (size : Nat) (next n : Int) (recs : List (List Int)) (w : World) (hR : RingAt M B w p V size next recs) (hl : recs.length ≤ 1000) (hnx : 0 ≤ next ∧ next < 4294967296)
    (h : (recs.length : Int) < placeOf next recs.length n) :
    Calls Try.prog 20 #[.pointer (some ⟨p, 0, none⟩), .int .u32 n] w fun e w' => e = .returned (.tuple #[.slice none 0 0, .int .i64 4]) ∧ ∃ k, w' = w.drewN k := by
  obtain ⟨a, c, rfl, ha, hc, hm⟩ := hR.shape
  have c2 : w.cell? ⟨p, 2, none⟩ = some (.slice a recs.length c) := by rw [cell_at hR.self]; rfl
  have C := Lib.hid (place_any p size next n a recs.length c w hl hnx hR.self)
  clear hR ha hc hm
  go_enter Try.func20, Try.ntmps20
  go_wp2_with (go_at_call 31; refine C.out.mono ?_; rintro e w' ⟨rfl, k, rfl⟩)
  go_ret2
  exact ⟨rfl, _, rfl⟩

theorem from_empty (M : Nat → Prop) (B p : Nat) (c : Nat) (size : Nat) (next n : Int) (w : World) (hR : RingAt M B w p (.slice none 0 c) size next []) (hnx : 0 ≤ next ∧ next < 4294967296)
    (h : placeOf next 0 n = 0) :
    Calls Try.prog 20 #[.pointer (some ⟨p, 0, none⟩), .int .u32 n] w (FromAnswer [] w) := by
  have c2 : w.cell? ⟨p, 2, none⟩ = some (.slice none 0 c) := by rw [cell_at hR.self]; rfl
  have C' := place_any p size next n none 0 c w (by omega) hnx hR.self
  rw [h] at C'
  have C := Lib.hid C'
  clear hR C' h
  go_enter Try.func20, Try.ntmps20
  go_wp2_with (go_at_call 31; refine C.out.mono ?_; rintro e w' ⟨rfl, k, rfl⟩)
  go_loopw [7, 27] (fun v i wr => v = .slice none 0 0 ∧ i = .int .i64 0 ∧ Below w.heap.size w wr) (fun _ _ _ => 0)
  case atStart => exact ⟨rfl, rfl, drewN_below (Below.refl _ _) _⟩
  case round =>
    obtain ⟨rfl, rfl, hb⟩ := hrel
    go_wp2_with fail
    go_ret2
    exact ⟨_, rfl, rows_nil _ _, hb⟩

theorem take_drop_snoc (recs : List (List Int)) (j m : Nat) (h : j + m < recs.length) : (recs.drop j).take (m + 1) = (recs.drop j).take m ++ [recs.getD (j + m) []] := by
  rw [List.take_add_one]
  simp [List.getD, List.getElem?_eq_getElem h]

set_option maxHeartbeats 1000000 in
theorem from_some (M : Nat → Prop) (B p g : Nat) (c : Nat) (size : Nat) (next n : Int) (recs : List (List Int)) (j : Nat) (w : World) (hR : RingAt M B w p (.slice (some ⟨g, 0, none⟩) recs.length c) size next recs) (hl : recs.length ≤ 1000)
    (hnx : 0 ≤ next ∧ next < 4294967296) (hj : j ≤ recs.length) (h : placeOf next recs.length n = j) (hx : ∀ xs ∈ recs, xs.length ≤ 140737488355328) :
    Calls Try.prog 20 #[.pointer (some ⟨p, 0, none⟩), .int .u32 n] w (FromAnswer (recs.drop j) w) := by
  have c2 : w.cell? ⟨p, 2, none⟩ = some (.slice (some ⟨g, 0, none⟩) recs.length c) := by rw [cell_at hR.self]; rfl
  have C' := place_any p size next n (some ⟨g, 0, none⟩) recs.length c w hl hnx hR.self
  rw [h] at C'
  have C := Lib.hid C'
  obtain ⟨i0, hi, hz0, hz1, hz2⟩ := info_parts Try.info35
  obtain ⟨ad, had⟩ : ∃ ad : Option Addr, (if c = j then some ⟨g, 0, none⟩ else some ⟨g, j, none⟩) = ad := ⟨_, rfl⟩
  have hcap : recs.length ≤ c := by obtain ⟨a, c', he, _, hc, _⟩ := hR.shape; cases he; exact hc
  have HR := Lib.hid hR
  have HX := Lib.hid hx
  have hjl : (j : Int) ≤ recs.length := by omega
  have hdl : decide (recs.length < j) = false := decide_eq_false (by omega)
  clear hR C' h hx
  go_enter Try.func20, Try.ntmps20
  go_wp2_with (go_at_call 31; refine C.out.mono ?_; rintro e w' ⟨rfl, k, rfl⟩)
  clear C c2 hdl
  go_loopw [7, 9, 27, 29, 30, 31, 32, 33, 34, 35] (fun v _ i _ _ _ _ _ _ _ wr => ∃ m : Nat, m ≤ recs.length - j ∧ i = .int .i64 m ∧ RowsAt wr w.heap.size v ((recs.drop j).take m) ∧ Below w.heap.size w wr) (fun _ _ i _ _ _ _ _ _ _ _ => (recs.length - j) - (intOf i).toNat)
  case atStart => exact ⟨0, Nat.zero_le _, rfl, rows_nil _ _, drewN_below (Below.refl _ _) _⟩
  case round =>
    obtain ⟨m, hm, rfl, hrow, hb⟩ := hrel
    by_cases hlt : m < recs.length - j
    · rw [if_neg (by omega)] at had
      subst had
      obtain ⟨g', v, hg', hg, hcell, hown⟩ := (HR.out.later hb).record (j + m) (by omega)
      cases hg'
      have CL := Lib.hid (clone_any v (recs.getD (j + m) []) wr hown.bytes (HX.out _ (by simp [List.getD, List.getElem?_eq_getElem (show j + m < recs.length by omega)])))
      have HT := Lib.hid (take_drop_snoc recs j m (by omega))
      obtain ⟨av, cv, rfl⟩ := slice_of_bytes hown
      obtain ⟨vals, hvl, ho, hr⟩ := hrow
      have hlen : ((recs.drop j).take m).length = m := by simp; omega
      have HVL := Lib.hid hvl
      have HO := Lib.hid ho
      have HRW := Lib.hid hr
      have HLEN := Lib.hid hlen
      have hsz := hb.size
      clear hvl ho hr hown hlen
      generalize recs.getD (j + m) [] = xs at *
      generalize (recs.drop j).take m = rs at *
      go_wp2_with (first
        | (go_at_call 29; refine CL.out.mono ?_; rintro e w1 ⟨v1, rfl, ho1, hb1⟩; obtain ⟨a1, k1, rfl⟩ := slice_of_bytes ho1; have hs1 := hb1.size; have HV1 := Lib.hid ho1; have HB1 := Lib.hid hb1; have HO1 := Lib.hid (owns_kept HO.out (Only.of_below (S := fun _ => False) hb1) (fun _ _ h => h)); clear ho1 hb1)
        | (at_builtin; go_must (refine wpList_append_own _ rfl _ _ 30 rfl w.heap.size 35 i0 (.slice none 0 0) 1 24 Try.underlying30 hi hz0 hz1 hz2 rfl (by decide) _ rs.length vals rfl (HO1.out.alloc _) ⟨w1.heap.size, 0, none⟩ 1 1 [.slice a1 xs.length k1] rfl rfl (World.news_of_block (cs := #[.slice a1 xs.length k1]) (t := 35) (fr := (0, 0)) (heap_alloc_new w1 _)) (by simp [Value.oneCell']) (by have := HLEN.out; unfold maxLen; omega) (by have := HLEN.out; omega) (by simp; omega) ?_); intro v3 w3 ho3 hg3 _; have HF := Lib.hid (rows_snoc HB1.out HV1.out hsz HVL.out HO.out HRW.out ho3 hg3); clear ho3 hg3))
      go_roundw
      case rel => exact ⟨m + 1, by omega, by go_num, by rw [HT.out]; exact HF.out.1, hb.trans HF.out.2⟩
      case measure => simp [intOf]; omega
    · have HW := Lib.hid (show (recs.drop j).take m = recs.drop j from List.take_of_length_le (by simp; omega))
      go_wp2_with fail
      go_ret2
      exact ⟨_, rfl, by rw [← HW.out]; exact hrow, hb⟩
end Go.Proofs.Ytjeifpjjnfaefaa
