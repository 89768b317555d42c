/- Rest, and the tree that the laws begin with: keys and weights out of a list of numbers, ids by their places. -/
import Derived.Test.YtbfnaejfmpnkbaaFout
import Derived.Test.YtbfnaejfmpnkbaaRow
import Derived.Deep.DeepCutAuto
namespace Go.Proofs.Ytbfnaejfmpnkbaa
open Go.ChangeShapes Go.WideShapes Go.ChangeAt Go.RowKit
set_option linter.unusedVariables false

theorem u64_is (k : Int) : IntKind.u64.wrap k = k % 18446744073709551616 := by
  simp [IntKind.wrap, IntKind.signed, IntKind.bits]

theorem rest_any (k n : Int) (h : 0 < n) (h2 : n ≤ 9223372036854775807) (w : World) :
    Calls Try.prog 21 #[.int .i64 k, .int .i64 n] w fun e w' => e = .returned (.int .i64 (restOf k n)) ∧ w = w' := by
  have hn : ¬ IntKind.u64.wrap n = 0 := by rw [u64_is]; omega
  go_enter Try.func21, Try.ntmps21
  go_wp2
  go_ret
  refine ⟨ret_int ?_, rfl⟩
  have e2 := restOf_lo k n h
  have e3 := restOf_hi k n h
  rw [u64_is, Int.tmod_eq_emod_of_nonneg (by omega)]
  show wrap64 (restOf k n) = _
  exact IntWalk.wrap64_in _ (by omega)

theorem rest_is (k : Int) {n : Int} (h : 0 < n) (h2 : n ≤ 9000000000000000000) (w : World) : Calls Try.prog 21 #[.int .i64 k, .int .i64 n] w fun e w' => e = .returned (.int .i64 (restOf k n)) ∧ w = w' := rest_any k n h (by omega) w

/-- The number at a place of a list. -/
def num (xs : List Int) (j : Nat) : Int := xs.getD j 0

/-- The j-th element that the laws put into their tree. -/
def elAt (xs : List Int) (j : Nat) : El := ⟨restOf (num xs j) 20, j, restOf (num xs j) 100⟩

/-- The tree after k numbers. -/
def treeTo (xs : List Int) : Nat → List El
  | 0 => []
  | k + 1 => put (elAt xs k) (treeTo xs k)

theorem treeTo_mem {xs : List Int} {k : Nat} {y : El} : y ∈ treeTo xs k ↔ ∃ j, j < k ∧ y = elAt xs j := by
  induction k with
  | zero => simp [treeTo]
  | succ k ih =>
    simp only [treeTo]
    rw [put_mem, ih]
    constructor
    · rintro (h | ⟨j, hj, h⟩)
      · exact ⟨k, by omega, h⟩
      · exact ⟨j, by omega, h⟩
    · rintro ⟨j, hj, h⟩
      by_cases e : j = k
      · subst e; exact Or.inl h
      · exact Or.inr ⟨j, by omega, h⟩

theorem treeTo_new {xs : List Int} {k : Nat} (key : Int) {i : Int} (h : (k : Int) ≤ i ∨ i < 0) : ¬ Is (treeTo xs k) key i := by
  rintro ⟨y, hy, h1, h2⟩
  obtain ⟨j, hj, rfl⟩ := treeTo_mem.1 hy
  simp only [elAt] at h2
  omega

theorem put_len (z : El) (l : List El) : (put z l).length = l.length + 1 := by
  induction l with
  | nil => rfl
  | cons x l ih => simp only [put]; split <;> simp [ih]

theorem treeTo_len (xs : List Int) (k : Nat) : (treeTo xs k).length = k := by
  induction k with
  | zero => rfl
  | succ k ih => simp only [treeTo]; rw [put_len, ih]

/-- A slice of numbers for the laws: empty, or its numbers lie in cells. -/
def Nums (w : World) (a : Option Addr) (n : Nat) (xs : List Int) : Prop := n = xs.length ∧ (n = 0 ∨ ∃ b off, a = some ⟨b, off, none⟩ ∧ b < w.heap.size ∧ CellsOf .i64 w b off xs)

theorem Nums.later {w w' : World} {a : Option Addr} {n : Nat} {xs : List Int} (h : Nums w a n xs) (hb : Below w.heap.size w w') : Nums w' a n xs := by
  obtain ⟨h1, h2⟩ := h
  refine ⟨h1, ?_⟩
  rcases h2 with h2 | ⟨b, off, rfl, hlt, hc⟩
  · exact Or.inl h2
  · refine Or.inr ⟨b, off, rfl, Nat.lt_of_lt_of_le hlt hb.size, fun j hj => ?_⟩
    rw [hb.cell (p := ⟨b, off + j, none⟩) hlt]
    exact hc j hj

/-- What is known behind a walk of tree. -/
def Made (xs : List Int) (w : World) (e : Ending) (w' : World) : Prop :=
  ∃ q, e = .returned (.tuple #[.pointer (some ⟨q, 0, none⟩), .bool true]) ∧ TreeAt (fun k => w.heap.size ≤ k) w' q (treeTo xs xs.length) ∧ Below w.heap.size w w'

set_option maxRecDepth 100000 in
set_option maxHeartbeats 1000000 in
theorem tree_nil (a : Option Addr) (cap : Nat) (w : World) : Calls Try.prog 18 #[.slice a 0 cap] w (Made [] w) := by
  go_enter Try.func18, Try.ntmps18
  go_wp2_with (go_at_call 9; refine (tnew _).mono ?_; rintro e w1 ⟨q, rfl, ht, ho⟩; have HT := Lib.hid ht; have HO := Lib.hid (ho.below (B := w.heap.size) (Nat.le_refl _) (fun _ e => e.elim)); clear ht ho)
  refine wp_loop_rounds 1 ?_
  rw [rounds_succ]
  go_wp2
  go_ret2
  exact ⟨q, rfl, HT.out, HO.out⟩

theorem num_eq {xs : List Int} {k : Nat} : num xs k = xs.getD k 0 := rfl

set_option maxRecDepth 100000 in
set_option maxHeartbeats 1000000 in
theorem tree_some (b off cap : Nat) (xs : List Int) (w : World) (hlt : b < w.heap.size) (hc : CellsOf .i64 w b off xs) (hl : xs.length ≤ 1000000) :
    Calls Try.prog 18 #[.slice (some ⟨b, off, none⟩) xs.length cap] w (Made xs w) := by
  have HC := Lib.hid hc
  clear hc
  go_enter Try.func18, Try.ntmps18
  go_wp2_with (go_at_call 9; refine (tnew _).mono ?_; rintro e w1 ⟨q, rfl, ht, ho⟩; have HT := Lib.hid ht; have HO := Lib.hid (ho.below (B := w.heap.size) (Nat.le_refl _) (fun _ e => e.elim)); clear ht ho)
  go_loopw [10] (fun s wr => ∃ k : Nat, s = .int .i64 k ∧ k ≤ xs.length ∧ TreeAt (fun k => w.heap.size ≤ k) wr q (treeTo xs k) ∧ Below w.heap.size w wr) (fun s _ => xs.length - (intOf s).toNat)
  case atStart => exact ⟨0, rfl, Nat.zero_le _, HT.out, HO.out⟩
  case round =>
    obtain ⟨k, rfl, hk, ht, hb⟩ := hrel
    have HT2 := Lib.hid ht
    have HB2 := Lib.hid hb
    by_cases hlt2 : k < xs.length
    · have hcell : wr.cell? ⟨b, off + k, none⟩ = some (.int .i64 (num xs k)) := by rw [hb.cell (p := ⟨b, off + k, none⟩) hlt]; exact HC.out k hlt2
      generalize hv : num xs k = v at *
      have HV := Lib.hid hv
      clear ht hb hv
      have q0 := restOf_lo v 100 (by omega)
      have q1 := restOf_hi v 100 (by omega)
      go_wp2_with (first
        | (go_at_call 21; refine (rest_is _ (by decide) (by decide) _).mono ?_; rintro e w2 ⟨rfl, rfl⟩)
        | (go_at_call 10; go_must (refine (tput HT2.out (k := restOf v 20) (i := k) (v := restOf v 100) (treeTo_new _ (Or.inl (by omega))) (by omega) (by omega) (by rw [treeTo_len]; omega)).mono ?_); rintro e w3 ⟨rfl, ht, ho⟩; have HT3 := Lib.hid (ht.mono (N := fun j => w.heap.size ≤ j) (fun j hj => by rcases hj with hj | hj; exact hj; exact Nat.le_trans HB2.out.size hj)); have HB3 := Lib.hid (HB2.out.trans (ho.below HB2.out.size (fun _ e => e))); clear ht ho))
      go_roundw
      case rel => exact ⟨k + 1, by go_num, by omega, by simp only [treeTo, elAt]; rw [HV.out]; exact HT3.out, HB3.out⟩
      case measure => simp [intOf]; omega
    · have e : k = xs.length := by omega
      subst e
      clear ht hb
      go_wp2
      go_ret2
      exact ⟨q, rfl, HT2.out, HB2.out⟩

theorem tree_any (a : Option Addr) (n cap : Nat) (xs : List Int) (w : World) (h : Nums w a n xs) (hl : xs.length ≤ 1000000) : Calls Try.prog 18 #[.slice a n cap] w (Made xs w) := by
  obtain ⟨h1, h2⟩ := h
  rcases h2 with h2 | ⟨b, off, rfl, hlt, hc⟩
  · have : xs = [] := List.length_eq_zero_iff.1 (by omega)
    subst this h2
    exact tree_nil a cap w
  · subst h1
    exact tree_some b off cap xs w hlt hc hl
end Go.Proofs.Ytbfnaejfmpnkbaa
