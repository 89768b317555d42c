/- The walk of AdmitFits. -/
import Derived.Test.YtlohjlhopbhnoaaAdEdf
import Derived.Test.YtlohjlhopbhnoaaAdLateC
import Derived.Test.YtlohjlhopbhnoaaAdSets
namespace Go.Proofs.Ytlohjlhopbhnoaa.Ad
open Go.ChangeShapes Go.WideShapes Go.ChangeAt Go.RowKit
set_option linter.unusedVariables false

def tab2 (r : Nat) : Nat := [1, 2, 3, 4, 5, 6, 8, 10].getD r 0
theorem tab2_in {r : Nat} (h : r < 8) : 1 ≤ tab2 r ∧ tab2 r ≤ 10 ∧ tab2 r ∣ 120 := by
  have : ∀ q : Fin 8, 1 ≤ tab2 q.val ∧ tab2 q.val ≤ 10 ∧ tab2 q.val ∣ 120 := by decide
  exact this ⟨r, h⟩
theorem tab2_cell {r : Nat} (h : r < 8) (w : World) (t : TypeId) : (w.alloc (.cells #[.int .i64 1, .int .i64 2, .int .i64 3, .int .i64 4, .int .i64 5, .int .i64 6, .int .i64 8, .int .i64 10] t)).cell? ⟨w.heap.size, r, none⟩ = some (.int .i64 (tab2 r)) := by
  rw [cell_at (heap_alloc_new w _)]
  have : ∀ q : Fin 8, (#[.int .i64 1, .int .i64 2, .int .i64 3, .int .i64 4, .int .i64 5, .int .i64 6, .int .i64 8, .int .i64 10] : Array Value)[q.val]? = some (.int .i64 (tab2 q.val)) := by
    intro q; rcases q with ⟨q, hq⟩
    rcases (show q = 0 ∨ q = 1 ∨ q = 2 ∨ q = 3 ∨ q = 4 ∨ q = 5 ∨ q = 6 ∨ q = 7 by omega) with rfl | rfl | rfl | rfl | rfl | rfl | rfl | rfl <;> rfl
  exact this ⟨r, h⟩

/-- Tasks whose periods divide 120. -/
def FitOk (S : List Use) : Prop := ∀ u ∈ S, okU u = true ∧ per u ∣ 120
theorem FitOk.snoc {S : List Use} {u : Use} (h : FitOk S) (hu : okU u = true ∧ per u ∣ 120) : FitOk (S ++ [u]) := by
  intro x hx
  rcases List.mem_append.1 hx with hx | hx
  · exact h x hx
  · simp at hx; subst hx; exact hu
theorem FitOk.chk {S : List Use} (h : FitOk S) (hl : S.length ≤ 16) : Ad.chk S = 0 := chk_of hl (fun x hx => (h x hx).1)
theorem FitOk.ok {S : List Use} (h : FitOk S) : allOk S := allOk_mem.2 fun x hx => (h x hx).1
theorem FitOk.rnd {S : List Use} (h : FitOk S) : 1 ≤ Ad.rnd S ∧ Ad.rnd S ≤ 120 :=
  ⟨rndTo_pos h.ok (Nat.le_refl _), Nat.le_of_dvd (by omega) (rndTo_least (fun j hj => (h _ (nthU_mem hj)).2))⟩

theorem row_keep2 {w : World} {a : Option Addr} {len cap : Nat} {zs : List Int} (h : IsRow .i64 w a len cap zs) {w' : World} (hO : Only (fun _ => False) w w') : IsRow .i64 w' a len cap zs := by
  rcases h with h | ⟨x, h1, h2, h3, h4, h5, h6⟩
  · exact .inl h
  · refine .inr ⟨x, h1, h2, h3, h4, fun i hi => ?_, h6⟩
    have := h5 i hi
    rw [← this]
    unfold World.cell?
    rw [hO.block _ (block_lt this) id]

theorem rest_300 (k : Int) (w : World) :
    Calls Try.prog 28 #[.int .i64 k, .int .i64 300] w fun e w' => ∃ c : Nat, c < 300 ∧ e = .returned (.int .i64 c) ∧ w = w' := rest_nat k 300 (by omega) (by omega) w

set_option maxRecDepth 100000 in
set_option maxHeartbeats 4000000 in
theorem fits_walk (a : Option Addr) (len cap : Nat) (zs : List Int) (ticks : Int) (w : World) (h : IsRow .i64 w a len cap zs) :
    Calls Try.prog 7 #[.slice a len cap, .int .i64 ticks] w fun e w' => e = .returned (.bool true) ∧ Below w.heap.size w w' := by
  obtain ⟨xs, hx, hN, hc1, hc2⟩ := nums_cut h 5
  obtain ⟨m, hm⟩ : ∃ m, xs.length = m := ⟨_, rfl⟩
  have HM := Lib.hid hm
  rw [hm] at hN
  have H := Lib.hid hN
  clear h hN
  have hm8 : m ≤ 5 := by omega
  have hmin : (min len 5 : Nat) = m := by omega
  clear hm
  go_enter Try.func7, Try.ntmps7
  go_upto_region 4 with (go_at_call 24; (with_reducible refine (begun_any _).mono ?_); rintro e w1 ⟨rfl, hO⟩; have HO1 := Lib.hid hO; clear hO)
  go_cut [19, 20, 21, 22, 23, 24, 25] (fun _ _ _ _ s14 s15 s16 wx => s14 = .slice a m cap ∧ s15 = .int .i64 m ∧ s16 = .int .i64 0 ∧ wx = w1)
  case first =>
    by_cases hl : (len : Int) ≤ 5
    · obtain rfl : len = m := by omega
      go_wp2_with fail
      go_meet
      exact ⟨rfl, rfl, rfl, rfl⟩
    · obtain rfl : m = 5 := by omega
      have hl2 : (5 : Int) < len := by omega
      go_wp2_with fail
      go_meet
      exact ⟨rfl, rfl, rfl, rfl⟩
  case rest =>
    obtain ⟨rfl, rfl, rfl, hw⟩ := hcut
    obtain rfl : w1 = wc := hw.symm
    go_wp2_with fail
    go_loopw [5, 25] (fun v i wr => ∃ (j : Nat) (S : List Use), j ≤ m ∧ i = .int .i64 j ∧ S.length = j ∧ FitOk S ∧ Us.RowAt wr w1.heap.size v S ∧ Only (fun _ => False) w1 wr) (fun _ i _ => m - (intOf i).toNat)
    case atStart => exact ⟨0, [], Nat.zero_le _, rfl, rfl, (fun _ h => absurd h (by simp)), Us.row_nil _ _, Only.refl _ _⟩
    case round =>
      obtain ⟨j, S, hj, rfl, hSj, hSok, hrow, hO⟩ := hrel
      have HOK := Lib.hid hSok
      have HR := Lib.hid hrow
      have HO := Lib.hid hO
      clear hSok hrow hO
      obtain ⟨a3, c3, hv3, hc31, hc32, -⟩ := HR.out.shape hSj
      subst hv3
      by_cases hlt : j < m
      · obtain ⟨b, off, rfl, hb, hc⟩ := (H.out.later (trans_quiet HO1.out HO.out)).at (show j < xs.length by rw [HM.out]; exact hlt)
        have g1 : (j : Int) < m := by omega
        generalize xs.getD j 0 = z at *
        have HA := Lib.hid (HO.out.alloc (.cells #[.int .i64 1, .int .i64 2, .int .i64 3, .int .i64 4, .int .i64 5, .int .i64 6, .int .i64 8, .int .i64 10] 3))
        have HRA := Lib.hid (HR.out.later ((Only.refl (fun _ => False) wr).alloc (.cells #[.int .i64 1, .int .i64 2, .int .i64 3, .int .i64 4, .int .i64 5, .int .i64 6, .int .i64 8, .int .i64 10] 3)))
        go_upto_region 8 with (go_at_call 28; (with_reducible refine (rest_8 _ _).mono ?_); rintro e w' ⟨r, hr, rfl, rfl⟩; have ht := tab2_cell hr wr 3; have hr2 : (r : Int) < 8 := (by omega); obtain ⟨hp1, hp2, hp3⟩ := tab2_in hr; generalize tab2 r = p at *)
        have HP3 := Lib.hid hp3
        clear ht hc hb hp3
        generalize wr.alloc (.cells #[.int .i64 1, .int .i64 2, .int .i64 3, .int .i64 4, .int .i64 5, .int .i64 6, .int .i64 8, .int .i64 10] 3) = W1 at *
        have HL7 : Hid (S.length + 1 ≤ 8796093022144) := Lib.hid (by omega)
        have HSZ := Lib.hid HA.out.size
        have HSJ := Lib.hid hSj
        go_wp2_with (first
          | (go_at_call 28; (with_reducible refine (rest_nat _ p (by omega) (by omega) _).mono ?_); rintro e w' ⟨x, hx, rfl, rfl⟩; have HXX := Lib.hid hx; have HRB := Lib.hid (HRA.out.later ((Only.refl (fun _ => False) W1).alloc (.cells #[.int .i64 (1 + (x : Int)), .int .i64 (p : Int)] 36))); have HZ4 : Hid (w1.heap.size ≤ (W1.alloc (.cells #[.int .i64 (1 + (x : Int)), .int .i64 (p : Int)] 36)).heap.size) := Lib.hid (Nat.le_trans HSZ.out (by simp)))
          | (at_builtin; go_must (refine Us.append_row rfl _ _ rfl w1.heap.size W1.heap.size 1 (.slice a3 j c3) S (1 + (x : Int), (p : Int)) rfl rfl HRB.out (heap_alloc_new W1 _) HL7.out HZ4.out ?_); go_must (intro v7 w7 hr7 hO7 hb7); have HR7 := Lib.hid hr7; have HO7 := Lib.hid (only_row (HA.out.alloc _) HRB.out hO7); clear hr7 hO7 hb7))
        go_roundw
        case rel => exact ⟨j + 1, _, by omega, by go_num, by simp; omega, HOK.out.snoc ⟨okU_of (by have := HXX.out; simp only; omega), by show ((p : Int)).toNat ∣ 120; rw [Int.toNat_natCast]; exact HP3.out⟩, HR7.out, HO7.out⟩
        case measure => simp [intOf]; omega
      · obtain rfl : j = m := by omega
        clear hlt hj H
        have HV := Lib.hid (fun (wx : World) (hO : Only (fun _ => False) wr wx) => row_view (HR.out.later hO))
        have hck := HOK.out.chk (by omega)
        obtain ⟨hr1, hr2⟩ := HOK.out.rnd
        have K1 := Lib.hid (fun (wx : World) (hO : Only (fun _ => False) wr wx) => fits_one _ S wx (HV.out wx hO) hck)
        have K2 := Lib.hid (fun (wx : World) (hO : Only (fun _ => False) wr wx) => round_good _ S wx (HV.out wx hO) hck)
        have K3 := Lib.hid (fun (wx : World) (hO : Only (fun _ => False) wr wx) (t : Nat) (ht : t ≤ 2000) => late_good _ S t wx (HV.out wx hO) hck ht)
        have K4 := Lib.hid (fun (wx : World) (hO : Only (fun _ => False) wr wx) => K3.out wx hO (rnd S) (by omega))
        have hle := share_le HOK.out.ok 1
        rw [Nat.one_mul (rnd S)] at hle
        by_cases hf : used S ≤ rnd S
        · have hz := fits_never HOK.out.ok hf
          rw [decide_eq_true (hle.2 hf)] at K1
          rw [hz] at K4
          have K5 := Lib.hid (fun (wx : World) (hO : Only (fun _ => False) wr wx) (t : Nat) (ht : t ≤ 2000) => (by have := K3.out wx hO t ht; rw [hz] at this; exact this : Calls Try.prog 21 #[.slice a3 j c3, .int .i64 t] wx (Pair ((0 : Nat) : Int) 0 wx)))
          generalize rnd S = rr at *
          clear hle hz hf K3
          have e1 : ¬ (rr : Int) < 1 := by omega
          have e2 : ¬ (2000 : Int) < rr := by omega
          go_wp2_with (first
            | (go_at_call 15; (with_reducible refine (K1.out _ (Only.refl _ wr)).mono ?_); rintro e w4 ⟨rfl, hO⟩; have HO4 := Lib.hid hO; clear hO)
            | (go_at_call 13; (with_reducible refine (K2.out _ HO4.out).mono ?_); rintro e w5 ⟨rfl, hO⟩; have HO5 := Lib.hid (trans_quiet HO4.out hO); clear hO)
            | (go_at_call 28; (with_reducible refine (rest_300 _ _).mono ?_); rintro e w' ⟨t, ht, rfl, rfl⟩)
            | (go_at_call 21; (with_reducible refine (K5.out _ HO5.out t (by omega)).mono ?_); rintro e w6 ⟨rfl, hO⟩; have HO6 := Lib.hid (trans_quiet HO5.out hO); clear hO)
            | (go_at_call 21; (with_reducible refine (K4.out _ HO6.out).mono ?_); rintro e w7 ⟨rfl, hO⟩; have HO7 := Lib.hid (trans_quiet HO6.out hO); clear hO))
          go_ret
          exact ⟨rfl, Only.below (trans_quiet HO1.out (trans_quiet HO.out HO7.out)) (Nat.le_refl _) (fun _ e => e.elim)⟩
        · have hz := over_late HOK.out.ok (by omega)
          rw [decide_eq_false (fun q => hf (hle.1 q))] at K1
          generalize rnd S = rr at *
          have e1 : ¬ (rr : Int) < 1 := by omega
          have e2 : ¬ (2000 : Int) < rr := by omega
          clear hle hf
          have HZ := Lib.hid hz
          generalize lateAt S rr = lz at *
          have e3 : (0 : Int) < lz := by omega
          go_wp2_with (first
            | (go_at_call 15; (with_reducible refine (K1.out _ (Only.refl _ wr)).mono ?_); rintro e w4 ⟨rfl, hO⟩; have HO4 := Lib.hid hO; clear hO)
            | (go_at_call 13; (with_reducible refine (K2.out _ HO4.out).mono ?_); rintro e w5 ⟨rfl, hO⟩; have HO5 := Lib.hid (trans_quiet HO4.out hO); clear hO)
            | (go_at_call 28; (with_reducible refine (rest_300 _ _).mono ?_); rintro e w' ⟨t, ht, rfl, rfl⟩)
            | (go_at_call 21; (with_reducible refine (K3.out _ HO5.out t (by omega)).mono ?_); rintro e w6 ⟨rfl, hO⟩; have HO6 := Lib.hid (trans_quiet HO5.out hO); clear hO)
            | (go_at_call 21; (with_reducible refine (K4.out _ HO6.out).mono ?_); rintro e w7 ⟨rfl, hO⟩; have HO7 := Lib.hid (trans_quiet HO6.out hO); clear hO))
          go_ret
          exact ⟨rfl, Only.below (trans_quiet HO1.out (trans_quiet HO.out HO7.out)) (Nat.le_refl _) (fun _ e => e.elim)⟩
end Go.Proofs.Ytlohjlhopbhnoaa.Ad
