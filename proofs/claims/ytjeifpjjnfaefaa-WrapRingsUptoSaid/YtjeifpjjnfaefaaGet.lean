/- The contracts of New, Get and From. -/
import Derived.Test.YtjeifpjjnfaefaaPut
namespace Go.Proofs.Ytjeifpjjnfaefaa
open Go.ChangeShapes Go.WideShapes Go.ChangeAt Go.RowKit
set_option linter.unusedVariables false

/-- A new, empty ring. -/
def NewAnswer (size : Nat) (next : Int) (w : World) (e : Ending) (w' : World) : Prop :=
  ∃ p, e = .returned (.tuple #[.pointer (some ⟨p, 0, none⟩), .int .i64 0]) ∧ RingAt (fun _ => False) w.heap.size w' p (.slice none 0 0) size next [] ∧ Below w.heap.size w w' ∧ p = w.heap.size

theorem new_bad (size : Int) (next : Int) (h : size < 1 ∨ 64 < size) (w : World) :
    Calls Try.prog 15 #[.int .i64 size, .int .u32 next] w fun e w' => e = .returned (.tuple #[.pointer none, .int .i64 1]) ∧ w = w' := by
  by_cases h1 : size < 1
  · go_enter Try.func15, Try.ntmps15
    go_wp2
    go_ret2
    exact ⟨rfl, rfl⟩
  · have h2 : 64 < size := by omega
    go_enter Try.func15, Try.ntmps15
    go_wp2
    go_ret2
    exact ⟨rfl, rfl⟩

theorem new_any (size : Nat) (next : Int) (h1 : 1 ≤ size) (h2 : size ≤ 64) (w : World) : Calls Try.prog 15 #[.int .i64 size, .int .u32 next] w (NewAnswer size next w) := by
  have g1 : (1 : Int) ≤ size := by omega
  have g2 : (size : Int) ≤ 64 := by omega
  go_enter Try.func15, Try.ntmps15
  go_wp2
  go_ret2
  refine ⟨w.heap.size, rfl, ⟨Nat.le_refl _, ?_, [], rfl, World.ownsRow_nil _ _ _ _, fun j hj => by cases hj⟩, (Below.refl _ _).alloc (Nat.le_refl _) _, rfl⟩
  exact (heap_alloc_new w _)

theorem get_none (M : Nat → Prop) (B p : Nat) (V : Value) (size : Nat) (next n : Int) (recs : List (List Int)) (w : World) (hR : RingAt M B w p V size next recs) (hl : recs.length ≤ 1000) (hnx : 0 ≤ next ∧ next < 4294967296)
    (h : (recs.length : Int) ≤ placeOf next recs.length n) :
    Calls Try.prog 18 #[.pointer (some ⟨p, 0, none⟩), .int .u32 n] w fun e w' => e = .returned (.tuple #[.slice none 0 0, .int .i64 4]) ∧ ∃ k, w' = w.drewN k := by
  obtain ⟨a, c, rfl, ha, hc, hm⟩ := hR.shape
  have c2 : w.cell? ⟨p, 2, none⟩ = some (.slice a recs.length c) := by rw [cell_at hR.self]; rfl
  have C := Lib.hid (place_any p size next n a recs.length c w hl hnx hR.self)
  clear hR ha hc hm
  go_enter Try.func18, Try.ntmps18
  go_wp2_with (go_at_call 31; refine C.out.mono ?_; rintro e w' ⟨rfl, k, rfl⟩)
  go_ret2
  exact ⟨rfl, _, rfl⟩

/-- A row of the record's bytes was answered. -/
def GotAnswer (xs : List Int) (w : World) (e : Ending) (w' : World) : Prop :=
  ∃ v, e = .returned (.tuple #[v, .int .i64 0]) ∧ OwnBytes w' w.heap.size v xs ∧ Below w.heap.size w w'

theorem RingAt.record {M : Nat → Prop} {B : Nat} {w : World} {p : Nat} {a : Option Addr} {c : Nat} {size : Nat} {next : Int} {recs : List (List Int)} (h : RingAt M B w p (.slice a recs.length c) size next recs) (j : Nat) (hj : j < recs.length) :
    ∃ g v, a = some ⟨g, 0, none⟩ ∧ g < w.heap.size ∧ w.cell? ⟨g, j, none⟩ = some v ∧ OwnBytes w B v (recs.getD j []) := by
  obtain ⟨vals, hv, ho, hr⟩ := h.rows
  rcases ho.2 with ⟨_, h0⟩ | ⟨g, cap, cur, he, _, hg, h1, h2, _⟩
  · omega
  · cases he
    refine ⟨g, vals.getD j (.slice none 0 0), rfl, block_there hg, ?_, (hr j hj).1⟩
    rw [ho.cellAt j (by omega)]
    simp [List.getD, List.getElem?_eq_getElem (show j < vals.length by omega)]

theorem drewN_below {B : Nat} {a w : World} (h : Below B a w) (n : Nat) : Below B a (w.drewN n) := ⟨h.os, h.tape, h.output, h.size, h.block⟩

set_option maxHeartbeats 400000 in
theorem get_some (M : Nat → Prop) (B p : Nat) (V : Value) (size : Nat) (next n : Int) (recs : List (List Int)) (j : Nat) (w : World) (hR : RingAt M B w p V size next recs) (hl : recs.length ≤ 1000) (hnx : 0 ≤ next ∧ next < 4294967296)
    (hj : j < recs.length) (h : placeOf next recs.length n = j) (hx : (recs.getD j []).length ≤ 140737488355328) :
    Calls Try.prog 18 #[.pointer (some ⟨p, 0, none⟩), .int .u32 n] w (GotAnswer (recs.getD j []) w) := by
  obtain ⟨a, c, rfl, ha, hc, hm⟩ := hR.shape
  have c2 : w.cell? ⟨p, 2, none⟩ = some (.slice a recs.length c) := by rw [cell_at hR.self]; rfl
  have C' := place_any p size next n a recs.length c w hl hnx hR.self
  rw [h] at C'
  have C := Lib.hid C'
  obtain ⟨g, v, rfl, hg, hcell, hown⟩ := hR.record j hj
  have CL := Lib.hid (fun k => (clone_any v (recs.getD j []) (w.drewN k) (show Bytes (w.drewN k) v _ from hown.bytes) hx))
  clear hR ha hc hm C' h hown hx
  have hjl : (j : Int) < recs.length := by omega
  generalize recs.getD j [] = xs at *
  go_enter Try.func18, Try.ntmps18
  go_wp2_with (first | (go_at_call 31; refine C.out.mono ?_; rintro e w' ⟨rfl, k, rfl⟩) | (go_at_call 29; refine (CL.out _).mono ?_; rintro e w1 ⟨v1, rfl, ho1, hb1⟩; have HO1 := Lib.hid ho1; have HB1 := Lib.hid hb1; clear ho1 hb1))
  go_ret2
  exact ⟨_, rfl, HO1.out, (drewN_below (Below.refl _ _) _).trans HB1.out⟩
end Go.Proofs.Ytjeifpjjnfaefaa
