/- The walk of AdmitLess. -/
import Derived.Test.YtlohjlhopbhnoaaAdConcat
import Derived.Test.YtlohjlhopbhnoaaAdSetP
namespace Go.Proofs.Ytlohjlhopbhnoaa.Ad
open Go.ChangeShapes Go.WideShapes Go.ChangeAt Go.RowKit
set_option linter.unusedVariables false

theorem UV.lit1 (w : World) (x y : Int) (t : TypeId) : UV (w.alloc (.cells #[.int .i64 x, .int .i64 y] t)) (.slice (some ⟨w.heap.size, 0, none⟩) 1 1) [(x, y)] := by
  refine ⟨_, 1, rfl, Nat.le_refl _, by omega, fun j hj => ⟨w.heap.size, 0, rfl, by simp, ?_⟩⟩
  rw [cell_at (heap_alloc_new w _), cell_at (heap_alloc_new w _)]
  have : j = 0 := by simp at hj; omega
  subst this
  exact ⟨rfl, rfl⟩

theorem UV.head {w : World} {b off n c : Nat} {S : List Use} (h : UV w (.slice (some ⟨b, off, none⟩) n c) S) {i : Nat} (hi : i ≤ n) : UV w (.slice (some ⟨b, off, none⟩) i c) (S.take i) := by
  have hc : n ≤ c ∧ c ≤ 9223372036854775807 := by obtain ⟨a, c', e, h1, h2, -⟩ := h; cases e; exact ⟨h1, h2⟩
  have := h.cut 0 i (by omega) rfl (c' := c) (by omega) hc.2
  simpa using this

/-- Where a slice begins that is cut at i. -/
def cutAt (b c i : Nat) : Option Addr := if c = i then some ⟨b, 0, none⟩ else some ⟨b, i * 2, none⟩

theorem UV.tail {w : World} {b n c : Nat} {S : List Use} (h : UV w (.slice (some ⟨b, 0, none⟩) n c) S) {i : Nat} (hi : i ≤ n) : UV w (.slice (cutAt b c i) (n - i) (c - i)) (S.drop i) ∧ ∀ l k, (Value.slice (cutAt b c i) (n - i) (c - i)) = .slice none l k → k = 0 := by
  obtain ⟨a, c', e, h1, h2, h3⟩ := h
  cases e
  have hl : (S.drop i).length = S.length - i := List.length_drop
  refine ⟨⟨_, c - i, by rw [hl], by rw [hl]; omega, by omega, fun j hj => ?_⟩, fun l k e => ?_⟩
  · rw [hl] at hj
    obtain ⟨b', off', e', hb, q1, q2⟩ := h3 (i + j) (by omega)
    cases e'
    have hn : nthU (S.drop i) j = nthU S (i + j) := by unfold nthU; simp only [List.getD, List.getElem?_drop]
    refine ⟨b, i * 2, by unfold cutAt; rw [if_neg (by omega)], hb, ?_, ?_⟩
    · rw [hn, ← q1]; congr 2; omega
    · rw [hn, ← q2]; congr 2; omega
  · unfold cutAt at e; split at e <;> cases e

/-- Tasks of small periods. -/
def LessOk (S : List Use) : Prop := ∀ u ∈ S, okU u = true ∧ per u ∣ 27720
theorem LessOk.snoc {S : List Use} {u : Use} (h : LessOk S) (hu : okU u = true ∧ per u ∣ 27720) : LessOk (S ++ [u]) := by
  intro x hx
  rcases List.mem_append.1 hx with hx | hx
  · exact h x hx
  · simp at hx; subst hx; exact hu
theorem LessOk.chk {S : List Use} (h : LessOk S) (hl : S.length ≤ 16) : Ad.chk S = 0 := chk_of hl (fun x hx => (h x hx).1)
theorem LessOk.fits {S : List Use} (h : LessOk S) (k : Nat) : shareN S ≤ k * shareD S ↔ shares 27720 S ≤ k * 27720 :=
  share_le_of (allOk_mem.2 fun x hx => (h x hx).1) (by omega) (fun j hj => (h _ (nthU_mem hj)).2) k
theorem LessOk.one {u : Use} (h : okU u = true ∧ per u ∣ 27720) : shareN [u] ≤ 1 * shareD [u] := by
  refine ((show LessOk [u] from fun x hx => by simp at hx; subst hx; exact h).fits 1).2 ?_
  rw [shares_one]
  have hu := okU_nat h.1
  have h1 : 27720 / per u * cst u ≤ 27720 / per u * per u := Nat.mul_le_mul_left _ hu.2.2.2.2.2
  have h2 := Nat.div_mul_le_self 27720 (per u)
  omega
theorem small_dvd {p : Nat} (h1 : 1 ≤ p) (h2 : p ≤ 12) : p ∣ 27720 := by
  have : ∀ q : Fin 13, 1 ≤ q.val → q.val ∣ 27720 := by decide
  exact this ⟨p, by omega⟩ h1
theorem LessOk.erase {S : List Use} (h : LessOk S) (i k : Nat) (hf : shareN S ≤ k * shareD S) : shareN (S.take i ++ S.drop (i + 1)) ≤ k * shareD (S.take i ++ S.drop (i + 1)) := by
  have h2 : LessOk (S.take i ++ S.drop (i + 1)) := fun x hx => by
    rcases List.mem_append.1 hx with hx | hx
    · exact h x (List.mem_of_mem_take hx)
    · exact h x (List.mem_of_mem_drop hx)
  refine (h2.fits k).2 ?_
  have h3 := (h.fits k).1 hf
  have e1 : shares 27720 S = shares 27720 (S.take i) + shares 27720 (S.drop i) := by rw [← shares_append, List.take_append_drop]
  have e2 : shares 27720 (S.drop (i + 1)) ≤ shares 27720 (S.drop i) := by
    by_cases hi : i < S.length
    · rw [List.drop_eq_getElem_cons hi, show S[i] :: S.drop (i + 1) = [S[i]] ++ S.drop (i + 1) from rfl, shares_append]; omega
    · rw [List.drop_eq_nil_of_le (by omega)]; exact Nat.zero_le _
  rw [shares_append]; omega
theorem LessOk.erase_chk {S : List Use} (h : LessOk S) (hl : S.length ≤ 16) (i : Nat) : Ad.chk (S.take i ++ S.drop (i + 1)) = 0 :=
  chk_of (S := S.take i ++ S.drop (i + 1)) (by rw [List.length_append, List.length_take, List.length_drop]; omega) (fun x hx => by
    rcases List.mem_append.1 hx with hx | hx
    · exact (h x (List.mem_of_mem_take hx)).1
    · exact (h x (List.mem_of_mem_drop hx)).1)

theorem row_keep {w : World} {a : Option Addr} {len cap : Nat} {zs : List Int} (h : IsRow .i64 w a len cap zs) {w' : World} (hO : Only (fun _ => False) w w') : IsRow .i64 w' a len cap zs := by
  rcases h with h | ⟨x, h1, h2, h3, h4, h5, h6⟩
  · exact .inl h
  · refine .inr ⟨x, h1, h2, h3, h4, fun i hi => ?_, h6⟩
    have := h5 i hi
    rw [← this]
    unfold World.cell?
    rw [hO.block _ (block_lt this) id]

theorem rest_12 (k : Int) (w : World) :
    Calls Try.prog 28 #[.int .i64 k, .int .i64 12] w fun e w' => ∃ c : Nat, c < 12 ∧ e = .returned (.int .i64 c) ∧ w = w' := rest_nat k 12 (by omega) (by omega) w
theorem rest_3 (k : Int) (w : World) :
    Calls Try.prog 28 #[.int .i64 k, .int .i64 3] w fun e w' => ∃ c : Nat, c < 3 ∧ e = .returned (.int .i64 c) ∧ w = w' := rest_nat k 3 (by omega) (by omega) w
theorem rest_plus (k : Int) (p : Nat) (h2 : p ≤ 1000) (w : World) :
    Calls Try.prog 28 #[.int .i64 k, .int .i64 (1 + (p : Int))] w fun e w' => ∃ c : Nat, c < p + 1 ∧ e = .returned (.int .i64 c) ∧ w = w' := by
  have := rest_nat k (p + 1) (Nat.succ_pos p) (by omega) w
  rw [show ((p + 1 : Nat) : Int) = 1 + (p : Int) by omega] at this
  exact this

set_option maxRecDepth 100000 in
set_option maxHeartbeats 4000000 in
theorem less_walk (a : Option Addr) (len cap : Nat) (zs : List Int) (i0 cpus : Int) (w : World) (h : IsRow .i64 w a len cap zs) :
    Calls Try.prog 10 #[.slice a len cap, .int .i64 i0, .int .i64 cpus] w fun e w' => e = .returned (.bool true) ∧ Below w.heap.size w w' := by
  obtain ⟨xs, hx, hN, hc1, hc2⟩ := nums_cut h 16
  obtain ⟨m, hm⟩ : ∃ m, xs.length = m := ⟨_, rfl⟩
  have HM := Lib.hid hm
  rw [hm] at hN
  have H := Lib.hid hN
  clear h hN
  have hm8 : m ≤ 16 := by omega
  have hmin : (min len 16 : Nat) = m := by omega
  clear hm
  go_enter Try.func10, Try.ntmps10
  go_upto_region 4 with (go_at_call 24; (with_reducible refine (begun_any _).mono ?_); rintro e w1 ⟨rfl, hO⟩; have HO1 := Lib.hid hO; clear hO)
  go_cut [22, 23, 24, 25, 26, 27, 28] (fun _ _ _ _ s14 s15 s16 wx => s14 = .slice a m cap ∧ s15 = .int .i64 m ∧ s16 = .int .i64 0 ∧ wx = w1)
  case first =>
    by_cases hl : (len : Int) ≤ 16
    · obtain rfl : len = m := by omega
      go_wp2_with fail
      go_meet
      exact ⟨rfl, rfl, rfl, rfl⟩
    · obtain rfl : m = 16 := by omega
      have hl2 : (16 : Int) < len := by omega
      go_wp2_with fail
      go_meet
      exact ⟨rfl, rfl, rfl, rfl⟩
  case rest =>
    obtain ⟨rfl, rfl, rfl, hw⟩ := hcut
    obtain rfl : w1 = wc := hw.symm
    go_wp2_with fail
    go_loopw [7, 28] (fun v i wr => ∃ (j : Nat) (S : List Use), j ≤ m ∧ i = .int .i64 j ∧ S.length = j ∧ LessOk S ∧ Us.RowAt wr w1.heap.size v S ∧ Only (fun _ => False) w1 wr) (fun _ i _ => m - (intOf i).toNat)
    case atStart => exact ⟨0, [], Nat.zero_le _, rfl, rfl, (fun _ h => absurd h (by simp)), Us.row_nil _ _, Only.refl _ _⟩
    case round =>
      obtain ⟨j, S, hj, rfl, hSj, hSok, hrow, hO⟩ := hrel
      have HOK := Lib.hid hSok
      have HR := Lib.hid hrow
      have HO := Lib.hid hO
      clear hSok hrow hO
      by_cases hlt : j < m
      · obtain ⟨b, off, rfl, hb, hc⟩ := (H.out.later (trans_quiet HO1.out HO.out)).at (show j < xs.length by rw [HM.out]; exact hlt)
        have g1 : (j : Int) < m := by omega
        generalize xs.getD j 0 = z at *
        go_upto_region 9 with (first
          | (go_at_call 28; (with_reducible refine (rest_12 _ _).mono ?_); rintro e w' ⟨p, hp, rfl, rfl⟩)
          | (go_at_call 28; (with_reducible refine (rest_plus _ p (by omega) _).mono ?_); rintro e w' ⟨x, hx, rfl, rfl⟩))
        have HX : Hid (okU (1 + (x : Int), 1 + (p : Int)) = true ∧ per (1 + (x : Int), 1 + (p : Int)) ∣ 27720) := Lib.hid ⟨okU_of (by simp only; omega), by
          show (1 + (p : Int)).toNat ∣ 27720
          rw [show (1 + (p : Int)).toNat = p + 1 by omega]
          exact small_dvd (by omega) (by omega)⟩
        have HF := Lib.hid (LessOk.one HX.out)
        have HCK : Hid (chk [(1 + (x : Int), 1 + (p : Int))] = 0) := Lib.hid (chk_of (by simp) (fun y hy => by simp at hy; subst hy; exact HX.out.1))
        have KF := Lib.hid (fun (W : World) => fits_one _ _ _ (UV.lit1 W (1 + (x : Int)) (1 + (p : Int)) 36) HCK.out)
        rw [decide_eq_true HF.out] at KF
        obtain ⟨a3, c3, hv3, hc31, hc32, -⟩ := HR.out.shape hSj
        subst hv3
        have HL7 : Hid (S.length + 1 ≤ 8796093022144) := Lib.hid (by omega)
        have HA := Lib.hid (HO.out.alloc (.cells #[.int .i64 (1 + (x : Int)), .int .i64 (1 + (p : Int))] 36))
        have HRA := Lib.hid (HR.out.later ((Only.refl (fun _ => False) wr).alloc (.cells #[.int .i64 (1 + (x : Int)), .int .i64 (1 + (p : Int))] 36)))
        have hbk := heap_alloc_new wr (.cells #[.int .i64 (1 + (x : Int)), .int .i64 (1 + (p : Int))] 36)
        have HBK := Lib.hid hbk
        clear hbk hb hc
        generalize wr.alloc (.cells #[.int .i64 (1 + (x : Int)), .int .i64 (1 + (p : Int))] 36) = W1 at *
        generalize wr.heap.size = B1 at *
        have d1 : W1.cell? ⟨B1, 0, none⟩ = some (.int .i64 (1 + (x : Int))) := by rw [cell_at HBK.out]; rfl
        have d2 : W1.cell? ⟨B1, 1, none⟩ = some (.int .i64 (1 + (p : Int))) := by rw [cell_at HBK.out]; rfl
        go_wp2_with (first
          | (go_at_call 15; (with_reducible refine (KF.out _).mono ?_); rintro e w4 ⟨rfl, hO4⟩; have hO5 := trans_quiet ((Only.refl (fun _ => False) W1).alloc _) hO4; have HO4 := Lib.hid (trans_quiet HA.out hO5); have HR4 := Lib.hid (HRA.out.later hO5); have d3 := only_cell0 hO5 d1; have d4 := only_cell0 hO5 d2; have hz := HO4.out.size; have HZ4 : Hid (w1.heap.size ≤ (w4.alloc (.cells #[.int .i64 (1 + (x : Int)), .int .i64 (1 + (p : Int))] 36)).heap.size) := Lib.hid (Nat.le_trans hz (by simp)); have HRB := Lib.hid (HR4.out.later ((Only.refl (fun _ => False) w4).alloc (.cells #[.int .i64 (1 + (x : Int)), .int .i64 (1 + (p : Int))] 36))); clear hO4 hO5 hz d1 d2)
          | (at_builtin; go_must (refine Us.append_row rfl _ _ rfl w1.heap.size w4.heap.size 1 (.slice a3 j c3) S (1 + (x : Int), 1 + (p : Int)) rfl rfl HRB.out (heap_alloc_new w4 _) HL7.out HZ4.out ?_); go_must (intro v7 w7 hr7 hO7 hb7); have HR7 := Lib.hid hr7; have HO7 := Lib.hid (only_row (HO4.out.alloc _) HRB.out hO7); clear hr7 hO7 hb7))
        go_roundw
        case rel => exact ⟨j + 1, _, by omega, by go_num, by simp; omega, HOK.out.snoc HX.out, HR7.out, HO7.out⟩
        case measure => simp [intOf]; omega
      · obtain rfl : j = m := by omega
        clear hlt hj H
        go_upto_region 15 with (go_at_call 28; (with_reducible refine (rest_3 _ _).mono ?_); rintro e w' ⟨k, hk, rfl, rfl⟩)
        have HV := Lib.hid (fun (wx : World) (hO : Only (fun _ => False) wr wx) => row_view (HR.out.later hO))
        have hsl : S.length ≤ 16 := by omega
        have K1 := Lib.hid (fun (wx : World) (hO : Only (fun _ => False) wr wx) (kk : Int) (hk : kk = ((1 + k : Nat) : Int)) => show Calls _ _ #[_, .int .i64 kk] _ _ from hk ▸ fits_good u7 S (1 + k) wx (HV.out wx hO) (HOK.out.chk hsl) (by omega))
        have K2 := Lib.hid (fun (wx : World) (hO : Only (fun _ => False) wr wx) (kk : Int) (hk : kk = ((2 + k : Nat) : Int)) => show Calls _ _ #[_, .int .i64 kk] _ _ from hk ▸ fits_good u7 S (2 + k) wx (HV.out wx hO) (HOK.out.chk hsl) (by omega))
        obtain ⟨a3, c3, hv3, hc31, hc32, -⟩ := HR.out.shape hSj
        subst hv3
        have hmono : shareN S ≤ (1 + k) * shareD S → shareN S ≤ (2 + k) * shareD S := fun h => by
          have : (1 + k) * shareD S ≤ (2 + k) * shareD S := Nat.mul_le_mul_right _ (by omega)
          omega
        have HE := Lib.hid (fun i => HOK.out.erase i (1 + k))
        have HEC := Lib.hid (HOK.out.erase_chk hsl)
        clear hsl
        by_cases f1 : shareN S ≤ (1 + k) * shareD S
        · have f2 := hmono f1
          have HF1 := Lib.hid f1
          rw [decide_eq_true f1] at K1
          rw [decide_eq_true f2] at K2
          clear f1 f2 hmono
          go_upto_region 19 with (first
            | (go_at_call 15; (with_reducible refine (K1.out _ (Only.refl _ wr) _ (by omega)).mono ?_); rintro e w4 ⟨rfl, hO4⟩; have HO4 := Lib.hid hO4; clear hO4)
            | (go_at_call 15; (with_reducible refine (K2.out _ HO4.out _ (by omega)).mono ?_); rintro e w5 ⟨rfl, hO5⟩; have HO5 := Lib.hid (trans_quiet HO4.out hO5); clear hO5))
          by_cases hj0 : j = 0
          · have e0 : ((j : Int) == 0) = true := by simp [hj0]
            go_wp2_with fail
            go_ret
            exact ⟨rfl, Only.below (trans_quiet HO1.out (trans_quiet HO.out HO5.out)) (Nat.le_refl _) (fun _ e => e.elim)⟩
          · have e0 : ((j : Int) == 0) = false := by simp [hj0]
            obtain ⟨g, c4, hv4, hg1, hg2, hc4, hc5, hrow4⟩ := HR.out.at_block hSj (by omega)
            injection hv4 with hv5 hv6 hv7
            subst hv5
            subst hv7
            go_upto_region 22 with (go_at_call 28; (with_reducible refine (rest_nat _ j (by omega) (by omega) _).mono ?_); rintro e w' ⟨i, hi, rfl, rfl⟩)
            have HU := Lib.hid ((HV.out w5 HO5.out).head (i := i) (by omega))
            have HT := Lib.hid ((HV.out w5 HO5.out).tail (i := i + 1) (by omega))
            obtain ⟨A, hA⟩ : ∃ A, cutAt g c3 (i + 1) = A := ⟨_, rfl⟩
            rw [hA] at HT
            unfold cutAt at hA
            have r1 : (i : Int) ≤ j := by omega
            have r2 : (i : Int) + 1 ≤ j := by omega
            have r3 : (0 : Int) ≤ i := by omega
            have r4 : (0 : Int) ≤ (i : Int) + 1 := by omega
            have r5 : ((i : Int) + 1).toNat = i + 1 := by omega
            have r6 : i ≤ c3 := by omega
            have r12 : IntKind.i64.wrap ((i : Int) + 1) = (i : Int) + 1 := IntWalk.i64_in _ (by omega)
            have r7 : i + 1 ≤ c3 := by omega
            have r8 : i ≤ j := by omega
            have r9 : i + 1 ≤ j := by omega
            have HKF := Lib.hid (fun (wx : World) (v : Value) (hv : UV wx v (S.take i ++ S.drop (i + 1))) (kk : Int) (hk : kk = ((1 + k : Nat) : Int)) => show Calls _ _ #[_, .int .i64 kk] _ _ from hk ▸ fits_good v _ (1 + k) wx hv (HEC.out i) (by omega))
            have HW := Lib.hid (((Only.refl (fun _ => False) w5).alloc (.cells #[.slice (some ⟨g, 0, none⟩) i c3, .slice A (j - (i + 1)) (c3 - (i + 1))] 23)).drew)
            have KC := Lib.hid (concat_two w5.heap.size 2 (.slice (some ⟨g, 0, none⟩) i c3) (.slice A (j - (i + 1)) (c3 - (i + 1))) (S.take i) (S.drop (i + 1)) ((w5.alloc (.cells #[.slice (some ⟨g, 0, none⟩) i c3, .slice A (j - (i + 1)) (c3 - (i + 1))] 23)).drew)
              (by have := cell_at (heap_alloc_new w5 (.cells #[.slice (some ⟨g, 0, none⟩) i c3, .slice A (j - (i + 1)) (c3 - (i + 1))] 23)) 0; exact this)
              (by have := cell_at (heap_alloc_new w5 (.cells #[.slice (some ⟨g, 0, none⟩) i c3, .slice A (j - (i + 1)) (c3 - (i + 1))] 23)) 1; exact this)
              (HU.out.later HW.out) (HT.out.1.later HW.out) (fun l c e => by cases e) HT.out.2 (by rw [List.length_take, List.length_drop]; omega))
            clear K1 K2 HV hrow4
            go_cut [18, 19] (fun s8 s9 wx => s8 = .bool (decide (shareN (S.take i ++ S.drop (i + 1)) ≤ (1 + k) * shareD (S.take i ++ S.drop (i + 1)))) ∧ s9 = .int .i64 0 ∧ Only (fun _ => False) w5 wx)
            case first =>
              go_region_held3 (fun _ => True) (trivial)
                (first
                  | (go_at_call 32; (with_reducible refine KC.out.mono ?_); rintro e w6 ⟨v6, rfl, hr6, hO6⟩; have HR6 := Lib.hid hr6; have HO6 := Lib.hid (trans_quiet HW.out hO6); clear hr6 hO6)
                  | (go_at_call 15; (with_reducible refine (HKF.out _ _ (row_view HR6.out) _ (by omega)).mono ?_); rintro e w7 ⟨rfl, hO7⟩; have HO7 := Lib.hid (trans_quiet HO6.out hO7); clear hO7))
              all_goals (
                go_wp2_with fail
                go_meet
                exact ⟨rfl, rfl, HO7.out⟩)
            case rest =>
              obtain ⟨rfl, rfl, hOc⟩ := hcut
              have HOC := Lib.hid (trans_quiet HO5.out hOc)
              clear hOc
              rw [decide_eq_true (HE.out i HF1.out)]
              go_wp2_with fail
              go_ret
              exact ⟨rfl, Only.below (trans_quiet HO1.out (trans_quiet HO.out HOC.out)) (Nat.le_refl _) (fun _ e => e.elim)⟩
        · rw [decide_eq_false f1] at K1
          generalize decide (shareN S ≤ (2 + k) * shareD S) = bb at *
          have HNF := Lib.hid f1
          clear f1 hmono HE
          go_upto_region 19 with (first
            | (go_at_call 15; (with_reducible refine (K1.out _ (Only.refl _ wr) _ (by omega)).mono ?_); rintro e w4 ⟨rfl, hO4⟩; have HO4 := Lib.hid hO4; clear hO4)
            | (go_at_call 15; (with_reducible refine (K2.out _ HO4.out _ (by omega)).mono ?_); rintro e w5 ⟨rfl, hO5⟩; have HO5 := Lib.hid (trans_quiet HO4.out hO5); clear hO5))
          by_cases hj0 : j = 0
          · have e0 : ((j : Int) == 0) = true := by simp [hj0]
            exfalso
            have hS0 : S = [] := List.eq_nil_of_length_eq_zero (by omega)
            exact HNF.out (by rw [hS0, show shareN [] = 0 by decide]; exact Nat.zero_le _)
          · have e0 : ((j : Int) == 0) = false := by simp [hj0]
            obtain ⟨g, c4, hv4, hg1, hg2, hc4, hc5, hrow4⟩ := HR.out.at_block hSj (by omega)
            injection hv4 with hv5 hv6 hv7
            subst hv5
            subst hv7
            go_upto_region 22 with (go_at_call 28; (with_reducible refine (rest_nat _ j (by omega) (by omega) _).mono ?_); rintro e w' ⟨i, hi, rfl, rfl⟩)
            have HU := Lib.hid ((HV.out w5 HO5.out).head (i := i) (by omega))
            have HT := Lib.hid ((HV.out w5 HO5.out).tail (i := i + 1) (by omega))
            obtain ⟨A, hA⟩ : ∃ A, cutAt g c3 (i + 1) = A := ⟨_, rfl⟩
            rw [hA] at HT
            unfold cutAt at hA
            have r1 : (i : Int) ≤ j := by omega
            have r2 : (i : Int) + 1 ≤ j := by omega
            have r3 : (0 : Int) ≤ i := by omega
            have r4 : (0 : Int) ≤ (i : Int) + 1 := by omega
            have r5 : ((i : Int) + 1).toNat = i + 1 := by omega
            have r6 : i ≤ c3 := by omega
            have r12 : IntKind.i64.wrap ((i : Int) + 1) = (i : Int) + 1 := IntWalk.i64_in _ (by omega)
            have r7 : i + 1 ≤ c3 := by omega
            have r8 : i ≤ j := by omega
            have r9 : i + 1 ≤ j := by omega
            have HKF := Lib.hid (fun (wx : World) (v : Value) (hv : UV wx v (S.take i ++ S.drop (i + 1))) (kk : Int) (hk : kk = ((1 + k : Nat) : Int)) => show Calls _ _ #[_, .int .i64 kk] _ _ from hk ▸ fits_good v _ (1 + k) wx hv (HEC.out i) (by omega))
            have HW := Lib.hid (((Only.refl (fun _ => False) w5).alloc (.cells #[.slice (some ⟨g, 0, none⟩) i c3, .slice A (j - (i + 1)) (c3 - (i + 1))] 23)).drew)
            have KC := Lib.hid (concat_two w5.heap.size 2 (.slice (some ⟨g, 0, none⟩) i c3) (.slice A (j - (i + 1)) (c3 - (i + 1))) (S.take i) (S.drop (i + 1)) ((w5.alloc (.cells #[.slice (some ⟨g, 0, none⟩) i c3, .slice A (j - (i + 1)) (c3 - (i + 1))] 23)).drew)
              (by have := cell_at (heap_alloc_new w5 (.cells #[.slice (some ⟨g, 0, none⟩) i c3, .slice A (j - (i + 1)) (c3 - (i + 1))] 23)) 0; exact this)
              (by have := cell_at (heap_alloc_new w5 (.cells #[.slice (some ⟨g, 0, none⟩) i c3, .slice A (j - (i + 1)) (c3 - (i + 1))] 23)) 1; exact this)
              (HU.out.later HW.out) (HT.out.1.later HW.out) (fun l c e => by cases e) HT.out.2 (by rw [List.length_take, List.length_drop]; omega))
            clear K1 K2 HV hrow4
            go_cut [18, 19] (fun s8 s9 wx => s8 = .bool (decide (shareN (S.take i ++ S.drop (i + 1)) ≤ (1 + k) * shareD (S.take i ++ S.drop (i + 1)))) ∧ s9 = .int .i64 0 ∧ Only (fun _ => False) w5 wx)
            case first =>
              go_region_held3 (fun _ => True) (trivial)
                (first
                  | (go_at_call 32; (with_reducible refine KC.out.mono ?_); rintro e w6 ⟨v6, rfl, hr6, hO6⟩; have HR6 := Lib.hid hr6; have HO6 := Lib.hid (trans_quiet HW.out hO6); clear hr6 hO6)
                  | (go_at_call 15; (with_reducible refine (HKF.out _ _ (row_view HR6.out) _ (by omega)).mono ?_); rintro e w7 ⟨rfl, hO7⟩; have HO7 := Lib.hid (trans_quiet HO6.out hO7); clear hO7))
              all_goals (
                go_wp2_with fail
                go_meet
                exact ⟨rfl, rfl, HO7.out⟩)
            case rest =>
              obtain ⟨rfl, rfl, hOc⟩ := hcut
              have HOC := Lib.hid (trans_quiet HO5.out hOc)
              clear hOc
              generalize decide (shareN (S.take i ++ S.drop (i + 1)) ≤ (1 + k) * shareD (S.take i ++ S.drop (i + 1))) = b3 at *
              go_wp2_with fail
              go_ret
              exact ⟨rfl, Only.below (trans_quiet HO1.out (trans_quiet HO.out HOC.out)) (Nat.le_refl _) (fun _ e => e.elim)⟩
end Go.Proofs.Ytlohjlhopbhnoaa.Ad
