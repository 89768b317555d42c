/- Contracts of the reference: within, Uses, Round, Share. And of the statements' uses. -/
import Derived.Test.YtlohjlhopbhnoaaAdPrime
import Derived.Test.YtlohjlhopbhnoaaAdOps
import Derived.Test.YtlohjlhopbhnoaaNumRow
namespace Go.Proofs.Ytlohjlhopbhnoaa.Ad
open Go.ChangeShapes Go.WideShapes Go.ChangeAt Go.RowKit
set_option linter.unusedVariables false

theorem within_any (x a b : Int) (w : World) :
    Calls Try.prog 47 #[.int .i64 x, .int .i64 a, .int .i64 b] w fun e w' => e = .returned (.bool (decide (a ≤ x ∧ x ≤ b))) ∧ w = w' := by
  by_cases h1 : a ≤ x
  · by_cases h2 : x ≤ b
    · rw [decide_eq_true (p := a ≤ x ∧ x ≤ b) ⟨h1, h2⟩]
      go_enter Try.func47, Try.ntmps47
      go_wp2
      go_ret
      exact ⟨rfl, rfl⟩
    · rw [decide_eq_false (p := a ≤ x ∧ x ≤ b) (by omega)]
      go_enter Try.func47, Try.ntmps47
      go_wp2
      go_ret
      exact ⟨rfl, rfl⟩
  · rw [decide_eq_false (p := a ≤ x ∧ x ≤ b) (by omega)]
    go_enter Try.func47, Try.ntmps47
    go_wp2
    go_ret
    exact ⟨rfl, rfl⟩

set_option maxHeartbeats 1000000 in
theorem ref_uses (v : Value) (S : List Use) (w : World) (h : UV w v S) :
    Calls Try.prog 17 #[v] w (Num (chk S) w) := by
  have H := Lib.hid h
  obtain ⟨a, c, rfl, h0, h1, h2⟩ := h
  clear h2
  obtain ⟨n, hn⟩ : ∃ n, S.length = n := ⟨_, rfl⟩
  have HN := Lib.hid hn
  rw [hn] at H h0 ⊢
  clear hn
  by_cases hl : 16 < n
  · have hl2 : (16 : Int) < n := by omega
    have HC := Lib.hid (chk_large (S := S) (by rw [HN.out]; exact hl))
    go_enter Try.func17, Try.ntmps17
    go_wp2
    go_ret
    exact num_is HC.out (Only.refl _ w)
  · have hl2 : ¬ (16 : Int) < n := by omega
    go_enter Try.func17, Try.ntmps17
    go_wp2_with fail
    go_loopw [10] (fun i wr => ∃ k : Nat, k ≤ n ∧ i = .int .i64 k ∧ (∀ j, j < k → okU (nthU S j) = true) ∧ Only (fun _ => False) w wr) (fun i _ => n - (intOf i).toNat)
    case atStart => exact ⟨0, Nat.zero_le _, rfl, (fun j hj => absurd hj (Nat.not_lt_zero _)), Only.refl _ w⟩
    case round =>
      obtain ⟨k, hk, rfl, hok, hO⟩ := hrel
      have HK := Lib.hid hok
      have HO := Lib.hid hO
      clear hok hO
      by_cases hlt : k < n
      · obtain ⟨b, off, rfl, hb, c1, c2⟩ : ∃ b off, a = some ⟨b, off, none⟩ ∧ b < wr.heap.size ∧ wr.cell? ⟨b, off + k * 2, none⟩ = some (.int .i64 (nthU S k).1) ∧ wr.cell? ⟨b, off + k * 2 + 1, none⟩ = some (.int .i64 (nthU S k).2) := by
          obtain ⟨a', c', e, -, -, h3⟩ := H.out.later HO.out
          cases e
          exact h3 k (by rw [HN.out]; exact hlt)
        have g1 : (k : Int) < n := by omega
        have HKL := Lib.hid (show k < S.length by rw [HN.out]; exact hlt)
        have HSL := Lib.hid (show S.length ≤ 16 by rw [HN.out]; omega)
        have W1 := Lib.hid (fun w => within_any (nthU S k).2 1 30 w)
        have W2 := Lib.hid (fun w => within_any (nthU S k).1 1 (nthU S k).2 w)
        cases hu : okU (nthU S k) with
        | false =>
          have HC := Lib.hid (chk_bad HSL.out HKL.out hu)
          have hno := okU_no hu
          clear hu
          generalize nthU S k = u at *
          obtain ⟨x, y⟩ := u
          simp only at hno c1 c2 W1 W2
          by_cases q1 : 1 ≤ y ∧ y ≤ 30
          · rw [decide_eq_true q1] at W1
            rw [decide_eq_false (by omega)] at W2
            clear hno
            go_wp2_with (first
              | (go_at_call 47; (with_reducible refine (W1.out _).mono ?_); rintro e w' ⟨rfl, rfl⟩)
              | (go_at_call 47; (with_reducible refine (W2.out _).mono ?_); rintro e w' ⟨rfl, rfl⟩))
            go_ret
            exact num_is HC.out (HO.out.alloc _)
          · rw [decide_eq_false q1] at W1
            clear hno
            go_wp2_with (go_at_call 47; (with_reducible refine (W1.out _).mono ?_); rintro e w' ⟨rfl, rfl⟩)
            go_ret
            exact num_is HC.out (HO.out.alloc _)
        | true =>
          have HB := Lib.hid hu
          obtain ⟨q1, q2, q3, q4⟩ := okU_bd hu
          have HK2 : Hid (∀ j, j < k + 1 → okU (nthU S j) = true) := Lib.hid (fun j hj => by
            by_cases e : j = k
            · subst e; exact HB.out
            · exact HK.out j (by omega))
          clear hu HB
          generalize nthU S k = u at *
          obtain ⟨x, y⟩ := u
          simp only at q1 q2 q3 q4 c1 c2 W1 W2
          rw [decide_eq_true ⟨q1, q2⟩] at W1
          rw [decide_eq_true ⟨q3, q4⟩] at W2
          go_wp2_with (first
            | (go_at_call 47; (with_reducible refine (W1.out _).mono ?_); rintro e w' ⟨rfl, rfl⟩)
            | (go_at_call 47; (with_reducible refine (W2.out _).mono ?_); rintro e w' ⟨rfl, rfl⟩))
          go_roundw
          case rel => exact ⟨k + 1, by omega, by go_num, HK2.out, HO.out.alloc _⟩
          case measure => simp [intOf]; omega
      · obtain rfl : k = n := by omega
        have HC := Lib.hid (chk_ok (S := S) (by rw [HN.out]; omega) (fun j hj => HK.out j (by rw [HN.out] at hj; exact hj)))
        go_wp2_with fail
        go_ret
        exact num_is HC.out HO.out

theorem only_cell1 {w w' : World} (hO : Only (fun _ => False) w w') {b o : Nat} {v : Value} (hc : w.cell? ⟨b, o, none⟩ = some v) : w'.cell? ⟨b, o, none⟩ = some v := by
  rw [← hc]
  unfold World.cell?
  rw [hO.block b (block_lt hc) id]

/-- The tasks were answered in a row of the call's own. -/
def UsesAns (S : List Use) (w : World) (e : Ending) (w' : World) : Prop := ∃ v, e = .returned v ∧ Us.RowAt w' w.heap.size v S ∧ Only (fun _ => False) w w'

theorem only_row1 {a w w' : World} {B : Nat} {v : Value} {S : List Use} (h : Only (fun _ => False) a w) {w0 : World} (hr : Us.RowAt w0 B v S) (hO : Only (fun k => v.ownBlock = some k) w w') (hB : a.heap.size ≤ B := by first | exact Nat.le_refl _ | simp [World.drew]) : Only (fun _ => False) a w' :=
  h.trans hO (fun k hk e => by have := (hr.block e).1; omega)

set_option maxHeartbeats 1000000 in
theorem uses_any (v : Value) (S : List Use) (w : World) (h : UV w v S) (hl : S.length ≤ 8796093022000) :
    Calls Try.prog 12 #[v] w (UsesAns S w) := by
  have H := Lib.hid h
  obtain ⟨a, c, rfl, h0, h1, h2⟩ := h
  clear h2
  obtain ⟨n, hn⟩ : ∃ n, S.length = n := ⟨_, rfl⟩
  have HN := Lib.hid hn
  rw [hn] at H h0 hl ⊢
  clear hn
  go_enter Try.func12, Try.ntmps12
  go_wp2_with fail
  go_loopw [3, 8] (fun v i wr => ∃ k : Nat, k ≤ n ∧ i = .int .i64 k ∧ Us.RowAt wr w.heap.size v (S.take k) ∧ Only (fun _ => False) w wr) (fun _ i _ => n - (intOf i).toNat)
  case atStart => exact ⟨0, Nat.zero_le _, rfl, by simpa using Us.row_nil w _, Only.refl _ w⟩
  case round =>
    obtain ⟨k, hk, rfl, hr, hO⟩ := hrel
    have HR := Lib.hid hr
    have HO := Lib.hid hO
    have hkl : (S.take k).length = k := by rw [List.length_take, HN.out]; omega
    obtain ⟨a3, c3, hv3, hc31, hc32, -⟩ := hr.shape hkl
    subst hv3
    clear hr hO
    by_cases hlt : k < n
    · obtain ⟨b, off, rfl, hb, c1, c2⟩ : ∃ b off, a = some ⟨b, off, none⟩ ∧ b < wr.heap.size ∧ wr.cell? ⟨b, off + k * 2, none⟩ = some (.int .i64 (nthU S k).1) ∧ wr.cell? ⟨b, off + k * 2 + 1, none⟩ = some (.int .i64 (nthU S k).2) := by
        obtain ⟨a', c', e, -, -, h3⟩ := H.out.later HO.out
        cases e
        exact h3 k (by rw [HN.out]; exact hlt)
      have g1 : (k : Int) < n := by omega
      have HT : Hid (S.take (k + 1) = S.take k ++ [nthU S k]) := Lib.hid (by
        rw [List.take_succ_eq_append_getElem (by rw [HN.out]; exact hlt)]
        simp [nthU, List.getD, HN.out, hlt])
      have HLn : Hid ((S.take k).length + 1 ≤ 8796093022144) := Lib.hid (by omega)
      generalize nthU S k = u at *
      obtain ⟨x, y⟩ := u
      simp only at c1 c2
      have HA := Lib.hid (HO.out.alloc (.cells #[.int .i64 x, .int .i64 y] 40))
      have HRB := Lib.hid (HR.out.later (((Only.refl (fun _ => False) wr).alloc (.cells #[.int .i64 x, .int .i64 y] 40)).alloc (.cells #[.int .i64 x, .int .i64 y] 36)))
      have hbk := heap_alloc_new (wr.alloc (.cells #[.int .i64 x, .int .i64 y] 40)) (.cells #[.int .i64 x, .int .i64 y] 36)
      rw [World.size_alloc] at hbk
      have HBK := Lib.hid hbk
      clear hbk
      have HZ : Hid (w.heap.size ≤ ((wr.alloc (.cells #[.int .i64 x, .int .i64 y] 40)).alloc (.cells #[.int .i64 x, .int .i64 y] 36)).heap.size) := Lib.hid (HA.out.alloc _).size
      go_wp2_with (at_builtin; go_must (refine Us.append_row rfl _ _ rfl w.heap.size (wr.heap.size + 1) 1 (.slice a3 k c3) (S.take k) (x, y) rfl (by first | rfl | simp [Act.eval]) HRB.out HBK.out HLn.out HZ.out ?_); go_must (intro v7 w7 hr7 hO7 hb7); have HR7 := Lib.hid hr7; have HO7 := Lib.hid (only_row1 (HA.out.alloc _) HRB.out hO7); clear hr7 hO7 hb7)
      go_roundw
      case rel => exact ⟨k + 1, by omega, by go_num, by rw [HT.out]; exact HR7.out, HO7.out⟩
      case measure => simp [intOf]; omega
    · obtain rfl : k = n := by omega
      have HE : Hid (S.take k = S) := Lib.hid (List.take_of_length_le (by rw [HN.out]; exact Nat.le_refl _))
      go_wp2_with fail
      go_ret
      exact ⟨_, rfl, by have := HR.out; rw [HE.out] at this; exact this, HO.out⟩
end Go.Proofs.Ytlohjlhopbhnoaa.Ad
