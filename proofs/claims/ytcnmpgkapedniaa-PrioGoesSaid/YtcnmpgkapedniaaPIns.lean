/- Insertion sort, as slices.SortStableFunc does it for at most 20 numbers, at the closure of PrioGoes. -/
import Derived.Test.YtcnmpgkapedniaaPSort
namespace Go.Proofs.Ytcnmpgkapedniaa.Pr
open Go.ChangeShapes Go.WideShapes Go.ChangeAt Go.RowKit Go.Maps
set_option linter.unusedVariables false

section
variable {w : World} {B c g n cap : Nat} {a : Option Addr} {xs S0 : List Int}

/-- Two neighbours exchanged. -/
theorem srt_swap {w1 : World} {S : List Int} {j m x y : Nat} (h : Srt w w1 B a c xs g n cap S0 S) (hj : j = m + 1) (hx : S.getD m 0 = x) (hy : S.getD (m + 1) 0 = y) (hk : keyOf xs (S.getD m 0) < keyOf xs (S.getD (m + 1) 0)) (hl : m + 1 < S.length) (hgB : g ≠ B) (hga : ∀ x, a = some x → x.block ≠ g) :
    Srt w ((w1.setCell ⟨g, j, none⟩ (.int .i64 x)).setCell ⟨g, m, none⟩ (.int .i64 y)).drew B a c xs g n cap S0 (swapAt S m) := by
  have h1 := (swap_mem h.row m).1
  rw [hx, hy] at h1
  subst hj
  have hO := only_two w1 g (m + 1) m (.int .i64 x) (.int .i64 y)
  exact ⟨h1.later (Only.refl _ _).drew, (h.cau.keep hO (fun e => hgB e.symm) hga).later (Only.refl _ _).drew, h.same.swap hl hk, (h.only.trans hO (fun _ _ e => e)).drew⟩

/-- The places in order were sorted. -/
def Sorted (w : World) (B : Nat) (a : Option Addr) (c : Nat) (xs : List Int) (g n cap : Nat) (S0 : List Int) (e : Ending) (w' : World) : Prop :=
  e = .returned (.tuple #[]) ∧ ∃ S, Srt w w' B a c xs g n cap S0 S ∧ SortedTo (keyOf xs) S n

set_option maxRecDepth 100000 in
set_option maxHeartbeats 1000000 in
theorem ins_any (h : Srt w w B a c xs g n cap S0 S0) (hS0 : S0 = (List.range n).map Int.ofNat) (hn : n = xs.length) (h1 : 1 ≤ n) (h16 : n ≤ 16) (hgB : g ≠ B) (hga : ∀ x, a = some x → x.block ≠ g) :
    Calls Try.prog 33 #[.slice (some ⟨g, 0, none⟩) n cap, .int .i64 0, .int .i64 n, .func (.func 24) #[] #[.pointer (some ⟨B, 0, none⟩)]] w (Sorted w B a c xs g n cap S0) := by
  have H := Lib.hid h
  have HS0 := Lib.hid hS0
  have HN := Lib.hid hn
  clear h hS0 hn
  go_enter Try.func33, Try.ntmps33
  go_wp2_with fail
  go_loopw [8, 9] (fun i _ wr => ∃ (m : Nat) (S : List Int), 1 ≤ m ∧ m ≤ n ∧ i = .int .i64 m ∧ Srt w wr B a c xs g n cap S0 S ∧ SortedTo (keyOf xs) S m) (fun i _ _ => n - (intOf i).toNat)
  case atStart => exact ⟨1, S0, Nat.le_refl _, h1, rfl, H.out, fun a b hab hb => by omega⟩
  case round =>
    obtain ⟨i, S, hi1, hin, rfl, hs, ho⟩ := hrel
    have HS := Lib.hid hs
    have HO := Lib.hid ho
    clear hs ho
    by_cases hlt : i < n
    · have g1 : (i : Int) < n := by omega
      generalize hwq : wr = wq at *
      clear hwq
      go_wp2_with fail
      go_loopw [9] (fun z wr => ∃ (j : Nat) (S : List Int), j ≤ i ∧ z = .int .i64 j ∧ Srt w wr B a c xs g n cap S0 S ∧ Ord (keyOf xs) S i j) (fun z _ => (intOf z).toNat)
      case atStart => exact ⟨i, S, Nat.le_refl _, rfl, HS.out, Ord.start HO.out⟩
      case round =>
        obtain ⟨j, S, hj, rfl, hs, ho⟩ := hrel
        have HS1 := Lib.hid hs
        have HO1 := Lib.hid ho
        clear hs ho
        by_cases hj0 : j = 0
        · have d0 : decide (0 < j) = false := decide_eq_false (by omega)
          have HF := Lib.hid (Ord.done HO1.out (Or.inl hj0))
          clear hj0
          go_wp2_with fail
          go_quiet (fail)
          go_wp2_with fail
          go_roundw
          case rel => exact ⟨i + 1, S, by omega, by omega, by go_num, HS1.out.draw _, HF.out⟩
          case measure => simp [intOf]; omega
        · obtain ⟨m, hm⟩ : ∃ m, j = m + 1 := ⟨j - 1, by omega⟩
          obtain ⟨x, hx, x1, cx⟩ := HS1.out.val HS0.out HN.out (j := m) (by omega)
          obtain ⟨y, hy, y1, cy⟩ := HS1.out.val HS0.out HN.out (j := m + 1) (by omega)
          have HX := Lib.hid hx
          have HY := Lib.hid hy
          have KC := Lib.hid (fun q => cmp_any (HS1.out.draw q).cau y x y1 x1 (by have := HN.out; omega))
          have g2 : (0 : Int) < (j : Int) := by omega
          have d1 : decide (0 < j) = true := decide_eq_true (by omega)
          have g3 : (j : Int) < n := by omega
          have g4 : IntKind.i64.wrap ((j : Int) - 1) = (m : Int) := by rw [hm, show ((m + 1 : Nat) : Int) - 1 = m by omega]; exact IntWalk.i64_in _ (by omega)
          have g5 : (m : Int) < n := by omega
          rw [← hm] at cy
          have k1 := keyOf_lo xs x
          have k2 := keyOf_hi xs x
          have k3 := keyOf_lo xs y
          have k4 := keyOf_hi xs y
          have HM := Lib.hid hm
          clear hm hx hy x1 y1
          generalize hkx : keyOf xs x = kx at *
          generalize hky : keyOf xs y = ky at *
          have HKX := Lib.hid hkx
          have HKY := Lib.hid hky
          clear hkx hky
          by_cases hlt2 : kx < ky
          · have d0 : decide (kx - ky < 0) = true := decide_eq_true (by omega)
            go_wp2_with fail
            go_quiet ((go_at_call 24; (with_reducible exact Calls.quiet_of (KC.out _))))
            go_wp2_with fail
            have HS2 := Lib.hid (HS1.out.draw nq)
            obtain ⟨x', hx', -, cx'⟩ := HS2.out.val HS0.out HN.out (j := m) (by omega)
            obtain ⟨y', hy', -, cy'⟩ := HS2.out.val HS0.out HN.out (j := m + 1) (by have := HM.out; omega)
            obtain rfl : x' = x := by have := HX.out.symm.trans hx'; omega
            obtain rfl : y' = y := by have := HY.out.symm.trans hy'; omega
            rw [← HM.out] at cy'
            have fz := fun k => ints_frozen HS2.out.row k
            have hne : ¬ j = m := by have := HM.out; omega
            have hne' : ¬ m = j := by omega
            clear cx cy hx' hy' KC HS1
            generalize wr.drewN nq = w1 at *
            have HK : Hid (keyOf xs (S.getD m 0) < keyOf xs (S.getD (m + 1) 0)) := Lib.hid (by rw [HX.out, HY.out, HKX.out, HKY.out]; exact hlt2)
            have HSW := Lib.hid (srt_swap HS2.out HM.out HX.out HY.out HK.out (by have := HM.out; rw [HS2.out.same.len, HS0.out]; simp; omega) hgB hga)
            have HOW := Lib.hid (Ord.swap (HM.out ▸ HO1.out) (by have := HM.out; omega) (by rw [HS2.out.same.len, HS0.out]; simp; omega) HK.out)
            go_region
            all_goals (
              (try go_wp2_with fail)
              go_roundw
              case rel => exact ⟨m, _, by have := HM.out; omega, by go_num, HSW.out, HOW.out⟩
              case measure => simp [intOf]; have := HM.out; omega)
          · have d0 : decide (kx - ky < 0) = false := decide_eq_false (by omega)
            have HF := Lib.hid (Ord.done HO1.out (Or.inr ⟨m, HM.out, by rw [HX.out, HM.out, HY.out, HKX.out, HKY.out]; omega⟩))
            go_wp2_with fail
            go_quiet ((go_at_call 24; (with_reducible exact Calls.quiet_of (KC.out _))))
            go_wp2_with fail
            go_roundw
            case rel => exact ⟨i + 1, S, by omega, by omega, by go_num, HS1.out.draw _, HF.out⟩
            case measure => simp [intOf]; omega
    · obtain rfl : i = n := by omega
      go_wp2_with fail
      go_end0
      exact ⟨rfl, S, HS.out, HO.out⟩

theorem stable_any (h : Srt w w B a c xs g n cap S0 S0) (hS0 : S0 = (List.range n).map Int.ofNat) (hn : n = xs.length) (h1 : 1 ≤ n) (h16 : n ≤ 16) (hgB : g ≠ B) (hga : ∀ x, a = some x → x.block ≠ g) :
    Calls Try.prog 31 #[.slice (some ⟨g, 0, none⟩) n cap, .int .i64 n, .func (.func 24) #[] #[.pointer (some ⟨B, 0, none⟩)]] w (Sorted w B a c xs g n cap S0) := by
  have K := Lib.hid (ins_any h hS0 hn h1 h16 hgB hga)
  clear h hS0 hn
  have g1 : ¬ (20 : Int) ≤ n := by omega
  have g2 : ¬ (20 : Int) < n := by omega
  go_enter Try.func31, Try.ntmps31
  go_wp2_with fail
  refine wp_loop_rounds 1 ?_
  rw [rounds_succ]
  go_wp2_with (go_at_call 33; (with_reducible refine K.out.mono ?_); rintro e w2 ⟨rfl, S, hs, ho⟩; have HS := Lib.hid hs; have HO := Lib.hid ho; clear hs ho)
  refine wp_loop_rounds 1 ?_
  rw [rounds_succ]
  go_wp2_with fail
  go_end0
  exact ⟨rfl, S, HS.out, HO.out⟩

theorem sort_any (h : Srt w w B a c xs g n cap S0 S0) (hS0 : S0 = (List.range n).map Int.ofNat) (hn : n = xs.length) (h1 : 1 ≤ n) (h16 : n ≤ 16) (hgB : g ≠ B) (hga : ∀ x, a = some x → x.block ≠ g) :
    Calls Try.prog 23 #[.slice (some ⟨g, 0, none⟩) n cap, .func (.func 24) #[] #[.pointer (some ⟨B, 0, none⟩)]] w (Sorted w B a c xs g n cap S0) := by
  have K := Lib.hid (stable_any h hS0 hn h1 h16 hgB hga)
  clear h hS0 hn
  go_enter Try.func23, Try.ntmps23
  go_wp2_with (go_at_call 31; (with_reducible refine K.out.mono ?_); rintro e w2 ⟨rfl, S, hs, ho⟩; have HS := Lib.hid hs; have HO := Lib.hid ho; clear hs ho)
  go_end0
  exact ⟨rfl, S, HS.out, HO.out⟩

theorem ins_nil (f : Value) (w : World) : Calls Try.prog 33 #[.slice none 0 0, .int .i64 0, .int .i64 0, f] w fun e w' => e = .returned (.tuple #[]) ∧ w = w' := by
  go_enter Try.func33, Try.ntmps33
  go_wp2_with fail
  refine wp_loop_rounds 1 ?_
  rw [rounds_succ]
  go_wp2_with fail
  go_end0
  exact ⟨rfl, rfl⟩
theorem stable_nil (f : Value) (w : World) : Calls Try.prog 31 #[.slice none 0 0, .int .i64 0, f] w fun e w' => e = .returned (.tuple #[]) ∧ w = w' := by
  go_enter Try.func31, Try.ntmps31
  go_wp2_with fail
  refine wp_loop_rounds 1 ?_
  rw [rounds_succ]
  go_wp2_with (go_at_call 33; (with_reducible refine (ins_nil _ _).mono ?_); rintro e w2 ⟨rfl, rfl⟩)
  refine wp_loop_rounds 1 ?_
  rw [rounds_succ]
  go_wp2_with fail
  go_end0
  exact ⟨rfl, rfl⟩
theorem sort_nil (f : Value) (w : World) : Calls Try.prog 23 #[.slice none 0 0, f] w fun e w' => e = .returned (.tuple #[]) ∧ w = w' := by
  go_enter Try.func23, Try.ntmps23
  go_wp2_with (go_at_call 31; (with_reducible refine (stable_nil _ _).mono ?_); rintro e w2 ⟨rfl, rfl⟩)
  go_end0
  exact ⟨rfl, rfl⟩
end
end Go.Proofs.Ytcnmpgkapedniaa.Pr
