/- Contracts of slices.Max and slices.Min at numbers. -/
import Derived.Test.YtddfdnhlghmapaaInts
import Derived.Test.YtddfdnhlghmapaaMin2
namespace Go.Proofs.Ytddfdnhlghmapaa
open Go.ChangeShapes Go.WideShapes Go.ChangeAt Go.RowKit Go.Maps
set_option linter.unusedVariables false

/-- The least, the greatest, of the numbers 0 to k of a list. -/
def lowOf (U : List Int) : Nat → Int
  | 0 => U.getD 0 0
  | j + 1 => min (lowOf U j) (U.getD (j + 1) 0)
def highOf (U : List Int) : Nat → Int
  | 0 => U.getD 0 0
  | j + 1 => max (highOf U j) (U.getD (j + 1) 0)
theorem lowOf_is (U : List Int) (k : Nat) : (∃ j, j ≤ k ∧ lowOf U k = U.getD j 0) ∧ ∀ j, j ≤ k → lowOf U k ≤ U.getD j 0 := by
  induction k with
  | zero => exact ⟨⟨0, Nat.le_refl _, rfl⟩, fun j hj => by rw [show j = 0 by omega]; exact Int.le_refl _⟩
  | succ k ih =>
    obtain ⟨⟨j, hj, e⟩, h2⟩ := ih
    refine ⟨?_, fun i hi => ?_⟩
    · show ∃ j, j ≤ k + 1 ∧ min (lowOf U k) (U.getD (k + 1) 0) = U.getD j 0
      by_cases h : lowOf U k ≤ U.getD (k + 1) 0
      · exact ⟨j, by omega, by rw [Int.min_eq_left h, e]⟩
      · exact ⟨k + 1, Nat.le_refl _, Int.min_eq_right (by omega)⟩
    · show min (lowOf U k) (U.getD (k + 1) 0) ≤ _
      by_cases h : i = k + 1
      · subst h; omega
      · have := h2 i (by omega); omega
theorem highOf_is (U : List Int) (k : Nat) : (∃ j, j ≤ k ∧ highOf U k = U.getD j 0) ∧ ∀ j, j ≤ k → U.getD j 0 ≤ highOf U k := by
  induction k with
  | zero => exact ⟨⟨0, Nat.le_refl _, rfl⟩, fun j hj => by rw [show j = 0 by omega]; exact Int.le_refl _⟩
  | succ k ih =>
    obtain ⟨⟨j, hj, e⟩, h2⟩ := ih
    refine ⟨?_, fun i hi => ?_⟩
    · show ∃ j, j ≤ k + 1 ∧ max (highOf U k) (U.getD (k + 1) 0) = U.getD j 0
      by_cases h : U.getD (k + 1) 0 ≤ highOf U k
      · exact ⟨j, by omega, by rw [Int.max_eq_left h, e]⟩
      · exact ⟨k + 1, Nat.le_refl _, Int.max_eq_right (by omega)⟩
    · show _ ≤ max (highOf U k) (U.getD (k + 1) 0)
      by_cases h : i = k + 1
      · subst h; omega
      · have := h2 i (by omega); omega

theorem min_any (a : Option Addr) (n c : Nat) (U : List Int) (w : World) (h : Nums w (.slice a n c) U) (hn : U.length = n) (h1 : 1 ≤ n) (hm : n ≤ 100) :
    Calls Try.prog 51 #[.slice a n c] w fun e w' => e = .returned (.int .i64 (lowOf U (n - 1))) ∧ w' = w := by
  have H := Lib.hid h
  have HN := Lib.hid hn
  obtain ⟨b, off, rfl, -, d0⟩ := h.at (j := 0) (by omega)
  clear h hn
  have e1 : ¬ (n : Int) < 1 := by omega
  have L0 : Hid (lowOf U 0 = U.getD 0 0) := Lib.hid rfl
  have g0 : (0 : Int) < n := by omega
  simp only [Nat.add_zero] at d0
  go_enter Try.func51, Try.ntmps51
  go_wp2_with fail
  go_loopw [3, 4] (fun m i wr => ∃ j : Nat, j < n ∧ i = .int .i64 ((j : Int) + 1) ∧ m = .int .i64 (lowOf U j) ∧ wr = w) (fun _ i _ => n + 1 - (intOf i).toNat)
  case atStart => exact ⟨0, by omega, rfl, rfl, rfl⟩
  case round =>
    obtain ⟨j, hj, rfl, rfl, rfl⟩ := hrel
    by_cases hlt : j + 1 < n
    · obtain ⟨b', off', e, -, d⟩ := H.out.at (j := j + 1) (by rw [HN.out]; exact hlt)
      cases e
      have LS : Hid (lowOf U (j + 1) = min (lowOf U j) (U.getD (j + 1) 0)) := Lib.hid rfl
      obtain ⟨m, hm⟩ : ∃ m, min (lowOf U j) (U.getD (j + 1) 0) = m := ⟨_, rfl⟩
      rw [hm] at LS
      have q := run_min2 _ _ _ hm
      clear hm
      generalize lowOf U j = x at *
      generalize U.getD (j + 1) 0 = y at *
      have g1 : (j : Int) + 1 < n := by omega
      have g2 : (0 : Int) ≤ (j : Int) + 1 := by omega
      go_wp2_with fail
      go_roundw
      case rel => exact ⟨j + 1, by omega, by go_num, by rw [LS.out], trivial⟩
      case measure => simp [intOf]; omega
    · obtain rfl : n = j + 1 := by omega
      have g1 : ¬ (j : Int) + 1 < ((j + 1 : Nat) : Int) := by omega
      go_wp2_with fail
      go_ret
      exact ⟨rfl, rfl⟩

theorem max_any (a : Option Addr) (n c : Nat) (U : List Int) (w : World) (h : Nums w (.slice a n c) U) (hn : U.length = n) (h1 : 1 ≤ n) (hm : n ≤ 100) :
    Calls Try.prog 50 #[.slice a n c] w fun e w' => e = .returned (.int .i64 (highOf U (n - 1))) ∧ w' = w := by
  have H := Lib.hid h
  have HN := Lib.hid hn
  obtain ⟨b, off, rfl, -, d0⟩ := h.at (j := 0) (by omega)
  clear h hn
  have e1 : ¬ (n : Int) < 1 := by omega
  have L0 : Hid (highOf U 0 = U.getD 0 0) := Lib.hid rfl
  have g0 : (0 : Int) < n := by omega
  simp only [Nat.add_zero] at d0
  go_enter Try.func50, Try.ntmps50
  go_wp2_with fail
  go_loopw [3, 4] (fun m i wr => ∃ j : Nat, j < n ∧ i = .int .i64 ((j : Int) + 1) ∧ m = .int .i64 (highOf U j) ∧ wr = w) (fun _ i _ => n + 1 - (intOf i).toNat)
  case atStart => exact ⟨0, by omega, rfl, rfl, rfl⟩
  case round =>
    obtain ⟨j, hj, rfl, rfl, rfl⟩ := hrel
    by_cases hlt : j + 1 < n
    · obtain ⟨b', off', e, -, d⟩ := H.out.at (j := j + 1) (by rw [HN.out]; exact hlt)
      cases e
      have LS : Hid (highOf U (j + 1) = max (highOf U j) (U.getD (j + 1) 0)) := Lib.hid rfl
      obtain ⟨m, hm⟩ : ∃ m, max (highOf U j) (U.getD (j + 1) 0) = m := ⟨_, rfl⟩
      rw [hm] at LS
      have q := run_max2 _ _ _ hm
      clear hm
      generalize highOf U j = x at *
      generalize U.getD (j + 1) 0 = y at *
      have g1 : (j : Int) + 1 < n := by omega
      have g2 : (0 : Int) ≤ (j : Int) + 1 := by omega
      go_wp2_with fail
      go_roundw
      case rel => exact ⟨j + 1, by omega, by go_num, by rw [LS.out], trivial⟩
      case measure => simp [intOf]; omega
    · obtain rfl : n = j + 1 := by omega
      have g1 : ¬ (j : Int) + 1 < ((j + 1 : Nat) : Int) := by omega
      go_wp2_with fail
      go_ret
      exact ⟨rfl, rfl⟩
end Go.Proofs.Ytddfdnhlghmapaa
