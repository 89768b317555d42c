/- The law SpreadShares: its walk. -/
import Derived.Test.YtddfdnhlghmapaaSpShares
import Derived.Test.YtddfdnhlghmapaaSpFullW
import Derived.Test.YtddfdnhlghmapaaNumRow
import Derived.Test.YtddfdnhlghmapaaMaxMin
import Derived.BigRegion
namespace Go.Proofs.Ytddfdnhlghmapaa.Sp
open Go.ChangeShapes Go.WideShapes Go.ChangeAt Go.RowKit Go.Maps
open Go.Proofs.Ytddfdnhlghmapaa.Vt
set_option linter.unusedVariables false

/-- A run, and a row of numbers beside it. -/
structure RunNums (w0 w : World) (p g : Nat) (S : St) (B : Int) (xs : List Int) : Prop where
  own : Own w0 w p S B
  nums : BlockOf w g xs
  go : w0.heap.size ≤ g
section
variable {w0 w w' : World} {p g : Nat} {S S' : St} {B B' : Int} {xs : List Int}
theorem RunNums.ne (h : RunNums w0 w p g S B xs) : p ≠ g := by
  rintro rfl
  obtain ⟨cs, h1, -⟩ := h.own.at_
  have h2 := h.nums
  unfold BlockOf at h2
  rw [h1] at h2
  cases h2
theorem RunNums.call (h : RunNums w0 w p g S B xs) (ho : Own w0 w' p S' B') (hO : Only (· = p) w w') : RunNums w0 w' p g S' B' xs := ⟨ho, h.nums.keep hO (fun e => h.ne e.symm), h.go⟩
theorem RunNums.set (h : RunNums w0 w p g S B xs) (j : Nat) (x : Int) : RunNums w0 (w.setCell ⟨g, j, none⟩ (.int .i64 x)) p g S B (xs.set j x) :=
  ⟨h.own.beside (R := (· = g)) (Only.setCell (S := fun x => x = g) (Only.refl _ w) (p := ⟨g, j, none⟩) rfl _) h.ne (fun k e => by rw [e]; exact h.go), h.nums.set j x, h.go⟩
theorem RunNums.quiet (h : RunNums w0 w p g S B xs) (hO : Only (fun _ => False) w w') : RunNums w0 w' p g S B xs := ⟨h.own.quiet hO, h.nums.later hO, h.go⟩
theorem RunNums.mono (h : RunNums w0 w p g S B xs) (hB : B ≤ B') : RunNums w0 w p g S B' xs := ⟨h.own.mono hB, h.nums, h.go⟩
end

theorem nums_ne {w : World} {p g : Nat} {S : St} {xs : List Int} (h : RunAt w p S) (h2 : BlockOf w g xs) : p ≠ g := by
  rintro rfl
  obtain ⟨cs, h1, -⟩ := h
  unfold BlockOf at h2
  rw [h1] at h2
  cases h2
/-- The greatest cost, as far as j. -/
def mostOf (W : Nat → Int) : Nat → Int
  | 0 => 0
  | j + 1 => max (mostOf W j) (costOf (W (j + 1)))
theorem mostOf_bd {W : Nat → Int} (hw : ∀ t, isW (W t) = true) (j : Nat) : 0 ≤ mostOf W j ∧ mostOf W j ≤ 1048576 := by
  induction j with
  | zero => exact ⟨Int.le_refl _, show (0 : Int) ≤ 1048576 by omega⟩
  | succ j ih => have := costOf_bd (hw (j + 1)); unfold mostOf; omega
theorem mostOf_ge {W : Nat → Int} (j t : Nat) (h1 : 1 ≤ t) (h2 : t ≤ j) : costOf (W t) ≤ mostOf W j := by
  induction j with
  | zero => omega
  | succ j ih =>
    unfold mostOf
    by_cases e : t = j + 1
    · subst e; omega
    · have := ih (by omega); omega
theorem getD_set {xs : List Int} {j : Nat} (hj : j < xs.length) (x : Int) (t : Nat) : (xs.set j x).getD t 0 = if t = j then x else xs.getD t 0 := by
  by_cases e : t = j
  · subst e; rw [if_pos rfl]; simp [List.getD, hj]
  · rw [if_neg e]; simp [List.getD, List.getElem?_set_ne (fun h => e h.symm)]

set_option maxRecDepth 100000 in
set_option maxHeartbeats 4000000 in
theorem shares_walk (a : Option Addr) (len cap : Nat) (zs : List Int) (a1 : Int) (w : World) (h : IsRow .i64 w a len cap zs) :
    Calls Try.prog 7 #[.slice a len cap, .int .i64 a1] w fun e w' => e = .returned (.bool true) ∧ Below w.heap.size w w' := by
  obtain ⟨ys, hy1, hy2, hy3, hy4⟩ := nums_cut h 16
  obtain ⟨m, hm⟩ : ∃ m, min len 16 = m := ⟨_, rfl⟩
  rw [hm] at hy1
  rw [hy1] at hy2
  have hm1 : m ≤ 16 := by omega
  have hm2 : m ≤ len := by omega
  have q2 := run_min2 (len : Int) 16 m (by omega)
  have HY := Lib.hid hy2
  have HYL := Lib.hid hy1
  clear h hy1 hy2 hm
  have K0 := Lib.hid (begun_any w)
  have R1 := Lib.hid (fun w => rest_any a1 400 (by omega) (by omega) w)
  have b1 := restOf_lo a1 400 (by omega)
  have b2 := restOf_hi a1 400 (by omega)
  obtain ⟨r, hr⟩ : ∃ r : Nat, restOf a1 400 = r := ⟨(restOf a1 400).toNat, by omega⟩
  rw [hr] at R1 b2
  have RK := Lib.hid (fun x w => rest_any x 100 (by omega) (by omega) w)
  have NW : Hid (∀ W, Only (fun _ => False) w W → Calls Try.prog 27 #[.int .i64 1] W fun e w' => ∃ p, e = .returned (.tuple #[.pointer (some ⟨p, 0, none⟩), .int .i64 0]) ∧ p = W.heap.size ∧ Own w w' p (noS 1) 0) := Lib.hid (fun W hO => own_new 1 (by omega) (by omega) hO)
  have hmk := run_mk m (by omega)
  obtain ⟨W, hW⟩ : ∃ W : Nat → Int, W = fun t => 1 + restOf (ys.getD (t - 1) 0) 100 := ⟨_, rfl⟩
  have hWo : ∀ t, isW (W t) = true := fun t => by
    rw [hW]
    have := restOf_lo (ys.getD (t - 1) 0) 100 (by omega)
    have := restOf_hi (ys.getD (t - 1) 0) 100 (by omega)
    exact decide_eq_true (p := 1 ≤ 1 + restOf (ys.getD (t - 1) 0) 100 ∧ 1 + restOf (ys.getD (t - 1) 0) 100 ≤ 100) (by omega)
  have HWO := Lib.hid hWo
  have HWE := Lib.hid (fun k => show 1 + restOf (ys.getD k 0) 100 = W (k + 1) by rw [hW]; rfl)
  clear b1 hr hWo hW
  go_enter Try.func7, Try.ntmps7
  go_upto_region 8 with (first
    | (go_at_call 48; (with_reducible refine K0.out.mono ?_); rintro e w1 ⟨rfl, hO⟩; have O1 := Lib.hid hO; clear hO)
    | (go_at_call 27; (with_reducible refine (NW.out _ O1.out).mono ?_); rintro e w2 ⟨p, rfl, -, hM⟩; have H0 := Lib.hid hM; clear hM))
  clear K0 O1 NW
  have HB0 : Hid (RunNums w (w2.alloc (.cells (numCells (List.replicate m 0)).toArray 3)) p w2.heap.size (noS 1) 0 (List.replicate m 0)) :=
    Lib.hid ⟨H0.out.quiet ((Only.refl _ _).alloc _), BlockOf.new _ _, H0.out.only.size⟩
  go_wp2_with fail
  obtain ⟨g, hg⟩ : ∃ g, w2.heap.size = g := ⟨_, rfl⟩
  rw [hg] at HB0
  rw [hg]
  clear hg H0
  generalize w2.alloc _ = w3 at *
  have hl0 : (List.replicate m (0 : Int)).length = m := by simp
  have hz0 : ∀ t, (List.replicate m (0 : Int)).getD t 0 = 0 := fun t => by
    by_cases h : t < m <;> simp [List.getD, h]
  generalize List.replicate m (0 : Int) = cs0 at *
  have HL0 := Lib.hid hl0
  have HZ0 := Lib.hid hz0
  go_loopw [7, 9, 10, 32] (fun mo _ _ i wr => ∃ (k : Nat) (S : St) (cs : List Int), k ≤ m ∧ i = .int .i64 k ∧ mo = .int .i64 (mostOf W k) ∧ RunNums w wr p g S k cs ∧ cs.length = m ∧ (∀ t, t < k → cs.getD t 0 = costOf (W (t + 1))) ∧ Shares S k W (fun _ => 0)) (fun _ _ _ i _ => m - (intOf i).toNat)
  case atStart => exact ⟨0, _, cs0, by omega, rfl, rfl, HB0.out, hl0, fun t ht => by omega, Shares.start W⟩
  case round =>
    clear HB0 hl0 hz0
    obtain ⟨k, S, cs, hk, rfl, rfl, hB, hl, hc, hF⟩ := hrel
    have HB := Lib.hid hB
    have HL := Lib.hid hl
    have HC := Lib.hid hc
    have HF := Lib.hid hF
    clear hB hl hc hF
    by_cases hlt : k < m
    · have g1 : (k : Int) < m := by omega
      have g2 : (0 : Int) ≤ k := by omega
      obtain ⟨ya, yc, hye, hyc⟩ := HY.out
      rw [Value.slice.injEq] at hye
      obtain ⟨rfl, -, rfl⟩ := hye
      obtain ⟨b, off, rfl, hcell⟩ := hyc k (by rw [HYL.out]; exact hlt)
      have hcx := (HB.out.own.below.cell (p := ⟨b, off + k, none⟩) (block_lt hcell)).trans hcell
      have hwe := HWE.out k
      generalize ys.getD k 0 = x at *
      have RX := Lib.hid (RK.out x)
      have rx1 := restOf_lo x 100 (by omega)
      have rx2 := restOf_hi x 100 (by omega)
      generalize restOf x 100 = rx at *
      have hmore := HF.out.more (by omega) (HWO.out (k + 1))
      have KC := Lib.hid (fun w => cost_yes (W (k + 1)) w (HWO.out (k + 1)))
      have KA := Lib.hid (fun (W' : World) (h : Own w W' p S k) => own2_add h (by omega) ((k : Int) + 1) 1 (W (k + 1)))
      rw [hmore.1] at KA
      have HM := Lib.hid hmore.2
      have hcb := costOf_bd (HWO.out (k + 1))
      have hmb := mostOf_bd HWO.out k
      have hkl : k < cs.length := by rw [HL.out]; exact hlt
      have HKL := Lib.hid hkl
      have HMO := Lib.hid (show mostOf W (k + 1) = max (mostOf W k) (costOf (W (k + 1))) from rfl)
      have qx := run_max2 (mostOf W k) (costOf (W (k + 1))) (mostOf W (k + 1)) HMO.out.symm
      have f3 := HB.out.nums.frozen k
      have c3 := HB.out.nums.cell hkl
      clear hmore hcell hyc hkl
      generalize hmv : mostOf W (k + 1) = mv at *
      generalize hcv : costOf (W (k + 1)) = cv at *
      have HCV := Lib.hid hcv
      have HMV := Lib.hid hmv
      clear hcv hmv
      generalize hwv : W (k + 1) = wv at *
      have HWV := Lib.hid hwv
      clear hwv
      generalize mostOf W k = mo at *
      have HB2 := Lib.hid (HB.out.set k cv)
      go_wp2_with (first
        | (go_at_call 24; (with_reducible refine (RX.out _).mono ?_); rintro e w' ⟨rfl, rfl⟩)
        | (go_at_call 49; (with_reducible refine (KC.out _).mono ?_); rintro e w' ⟨rfl, rfl⟩)
        | (go_at_call 28; (with_reducible refine (KA.out _ HB2.out.own).mono ?_); rintro e w4 ⟨rfl, ho, hO⟩; have HB3 := Lib.hid (HB2.out.call ho hO); clear ho hO))
      go_roundw
      case rel => exact ⟨k + 1, _, cs.set k cv, by omega, by go_num, by rw [HMV.out], HB3.out, by rw [List.length_set]; exact HL.out, fun t ht => by
        rw [getD_set HKL.out]
        by_cases e : t = k
        · rw [if_pos e, e, HWV.out, HCV.out]
        · rw [if_neg e]; exact HC.out t (by omega), HM.out⟩
      case measure => simp [intOf]; omega
    · obtain rfl : k = m := by omega
      have hmb := mostOf_bd HWO.out k
      have HMG := Lib.hid (mostOf_ge (W := W) k)
      obtain ⟨mo, hmo⟩ : ∃ mo, mostOf W k = mo := ⟨_, rfl⟩
      rw [hmo] at hmb HMG
      rw [hmo]
      have HG0 : Hid (RunNums w (wr.alloc (.cells (numCells cs0).toArray 3)) p wr.heap.size S k cs0) :=
        Lib.hid ⟨HB.out.own.quiet ((Only.refl _ _).alloc _), BlockOf.new _ _, HB.out.own.only.size⟩
      have HN0 := Lib.hid (HB.out.nums.later ((Only.refl (fun _ => False) wr).alloc (.cells (numCells cs0).toArray 3)))
      have hgl := HB.out.nums.lt
      clear hmo
      go_wp2_with (go_at_call 24; (with_reducible refine (R1.out _).mono ?_); rintro e w' ⟨rfl, rfl⟩)
      obtain ⟨g2, hg2⟩ : ∃ g2, wr.heap.size = g2 := ⟨_, rfl⟩
      rw [hg2] at HG0 hgl
      rw [hg2]
      clear hg2 HB
      generalize wr.alloc _ = w3 at *
      go_loopw [12, 13, 66] (fun _ _ i wr => ∃ (q : Nat) (S : St) (V : Nat → Int) (gs : List Int), q ≤ r ∧ i = .int .i64 q ∧ RunNums w wr p g2 S (k + 2 * q) gs ∧ BlockOf wr g cs ∧ gs.length = k ∧ (∀ t, t < k → gs.getD t 0 = V (t + 1)) ∧ Shares S k W V ∧ (∀ i j, 1 ≤ i → i ≤ k → 1 ≤ j → j ≤ k → V i - V j ≤ mo) ∧ (∀ t, 1 ≤ t → t ≤ k → 0 ≤ V t ∧ V t ≤ q * 1048576)) (fun _ _ i _ => r - (intOf i).toNat)
      case atStart => exact ⟨0, S, fun _ => 0, cs0, by omega, rfl, HG0.out.mono (by omega), HN0.out, HL0.out, fun t _ => HZ0.out t, HF.out, fun i j _ _ _ _ => by show (0 : Int) - 0 ≤ mo; omega, fun t _ _ => by show (0 : Int) ≤ 0 ∧ (0 : Int) ≤ _; omega⟩
      case round =>
        clear HG0 HN0
        obtain ⟨q, S, V, gs, hq, rfl, hB, hN, hl, hv, hF, hnr, hbd⟩ := hrel
        have HB := Lib.hid hB
        have HN := Lib.hid hN
        have HGL := Lib.hid hl
        have HV := Lib.hid hv
        have HF := Lib.hid hF
        have HNR := Lib.hid hnr
        have HBD := Lib.hid hbd
        clear hB hN hl hv hF hnr hbd
        by_cases hlt2 : q < r
        · have g3 : (q : Int) < r := by omega
          have KP := Lib.hid (own_pick HB.out.own 0)
          have hpi : isCpu S 0 = true := decide_eq_true (by rw [HF.out.n]; omega)
          unfold pickN pickE at KP
          rw [if_pos hpi, if_pos hpi, Int.toNat_zero] at KP
          by_cases hk0 : k = 0
          · have hon : S.on 0 = 0 := by
              apply Decidable.byContradiction
              intro e
              have hl := HF.out.g.runs.live 0 (by omega) e
              have h17 := HF.out.g.runs.on 0 (by omega)
              rw [HF.out.g.new (S.on 0) (by omega) (by omega)] at hl
              exact hl.2.1 rfl
            rw [if_pos hon] at KP
            have hkz : ((k : Int) == 0) = true := by simp; omega
            clear hpi hon
            go_wp2_with (go_at_call 29; (with_reducible refine KP.out.mono ?_); rintro e w' ⟨rfl, rfl⟩)
            go_ret
            exact ⟨rfl, HB.out.own.below⟩
          · have hkz : ((k : Int) == 0) = false := by simp; omega
            obtain ⟨o1, o2⟩ := share_on HF.out.g HF.out.full HF.out.n (by omega) hm1
            have HSH := Lib.hid (HF.out.tick (by omega) hm1)
            have HNE := Lib.hid (HF.out.near (by omega) hm1 (fun t h1 h2 => ⟨(costOf_bd (HWO.out t)).1, HMG.out t h1 h2⟩) HNR.out)
            have KT := Lib.hid (own2_tick HB.out.own (by omega) 0)
            have htk : tickE S 0 = 0 ∧ tickS S 0 = tick S 0 := by unfold tickE tickS; rw [if_pos hpi, if_pos hpi]; exact ⟨rfl, rfl⟩
            rw [htk.1, htk.2] at KT
            rw [if_neg (by omega)] at KP
            obtain ⟨u, hu⟩ : ∃ u, S.on 0 = u := ⟨_, rfl⟩
            rw [hu] at KP o1 o2 HSH HNE
            obtain ⟨j, rfl⟩ : ∃ j, u = j + 1 := ⟨u - 1, by omega⟩
            have hjk : j < k := by omega
            have hgl2 : j < gs.length := by rw [HGL.out]; exact hjk
            have hcl2 : j < cs.length := by rw [HL.out]; exact hjk
            have hvb := HBD.out (j + 1) o1 o2
            have hcb := costOf_bd (HWO.out (j + 1))
            clear hpi htk hu
            go_upto_region 26 with (first
              | (go_at_call 29; (with_reducible refine KP.out.mono ?_); rintro e w' ⟨rfl, rfl⟩)
              | (go_at_call 39; (with_reducible refine KT.out.mono ?_); rintro e w5 ⟨rfl, ho, hO⟩; have HB2 := Lib.hid (HB.out.call ho hO); have HN2 := Lib.hid (HN.out.keep hO (fun e => nums_ne HB.out.own.at_ HN.out e.symm)); clear ho hO))
            have c3 := HB2.out.nums.cell hgl2
            have c4 := HN2.out.cell hcl2
            have f3 := HB2.out.nums.frozen j
            rw [HV.out j hjk] at c3
            rw [HC.out j hjk] at c4
            obtain ⟨v0, hv0⟩ : ∃ v0, V (j + 1) = v0 := ⟨_, rfl⟩
            obtain ⟨cv, hcv⟩ : ∃ cv, costOf (W (j + 1)) = cv := ⟨_, rfl⟩
            have HV0 := Lib.hid hv0
            have HCV := Lib.hid hcv
            rw [hv0] at c3 hvb
            rw [hcv] at c4 hcb
            rw [hv0, hcv] at HSH HNE
            have HGL2 := Lib.hid hgl2
            have qj : (j : Int) < k := by omega
            have hvq : v0 ≤ 400000000000 := by omega
            clear hv0 hcv KP KT hgl2 hcl2
            go_cut [12] (fun u wx => u = .int .i64 ((j : Int) + 1) ∧ RunNums w wx p g2 (tick S 0) (k + 2 * q + 2) (gs.set j (v0 + cv)) ∧ BlockOf wx g cs)
            case first =>
              go_region
              all_goals (
                go_wp2_with fail
                go_meet
                exact ⟨rfl, (HB2.out.set j (v0 + cv)).quiet (Only.refl _ _).drew, (HN2.out.keep (S := fun x => x = g2) (Only.setCell (S := fun x => x = g2) (Only.refl _ w5) (p := ⟨g2, j, none⟩) rfl _) (by omega)).later (Only.refl _ _).drew⟩)
            case rest =>
              obtain ⟨rfl, hB3, hN3⟩ := hcut
              have HB3 := Lib.hid hB3
              have HN3 := Lib.hid hN3
              clear hB3 hN3 HB2 HN2 HB HN c3 c4 f3
              have HGN : Hid (∀ t, t < k → (gs.set j (v0 + cv)).getD t 0 = upd V (j + 1) (v0 + cv) (t + 1)) := Lib.hid (fun t ht => by
                rw [getD_set HGL2.out]
                unfold upd
                by_cases e : t = j
                · rw [if_pos e, if_pos (by omega)]
                · rw [if_neg e, if_neg (by omega)]; exact HV.out t ht)
              have HGB : Hid (∀ t, 1 ≤ t → t ≤ k → 0 ≤ upd V (j + 1) (v0 + cv) t ∧ upd V (j + 1) (v0 + cv) t ≤ ((q + 1 : Nat) : Int) * 1048576) := Lib.hid (fun t t1 t2 => by
                have := HBD.out t t1 t2
                unfold upd
                split <;> omega)
              have HSL : Hid ((gs.set j (v0 + cv)).length = k) := Lib.hid (by rw [List.length_set]; exact HGL.out)
              generalize gs.set j (v0 + cv) = xs at *
              generalize upd V (j + 1) (v0 + cv) = V2 at *
              have KX := Lib.hid (max_any (some ⟨g2, 0, none⟩) k k xs wc (by have := HB3.out.nums.nums k; rwa [HSL.out] at this) HSL.out (by omega) (by omega))
              have KN := Lib.hid (min_any (some ⟨g2, 0, none⟩) k k xs wc (by have := HB3.out.nums.nums k; rwa [HSL.out] at this) HSL.out (by omega) (by omega))
              obtain ⟨⟨ia, ha1, ha2⟩, -⟩ := highOf_is xs (k - 1)
              obtain ⟨⟨ib, hb1, hb2⟩, -⟩ := lowOf_is xs (k - 1)
              rw [HGN.out ia (by omega)] at ha2
              rw [HGN.out ib (by omega)] at hb2
              have hab := HNE.out (ia + 1) (ib + 1) (by omega) (by omega) (by omega) (by omega)
              have hba := HGB.out (ia + 1) (by omega) (by omega)
              have hbb := HGB.out (ib + 1) (by omega) (by omega)
              rw [← ha2] at hab hba
              rw [← hb2] at hab hbb
              generalize highOf xs (k - 1) = hi at *
              generalize lowOf xs (k - 1) = lo at *
              clear ha2 hb2
              go_wp2_with (first
                | (go_at_call 50; (with_reducible refine KX.out.mono ?_); rintro e w' ⟨rfl, rfl⟩)
                | (go_at_call 51; (with_reducible refine KN.out.mono ?_); rintro e w' ⟨rfl, rfl⟩))
              go_roundw
              case rel => exact ⟨q + 1, _, V2, xs, by omega, by go_num, HB3.out.mono (by omega), HN3.out, HSL.out, HGN.out, HSH.out, HNE.out, HGB.out⟩
              case measure => simp [intOf]; omega
        · obtain rfl : q = r := by omega
          go_wp2_with fail
          go_ret
          exact ⟨rfl, HB.out.own.below⟩
end Go.Proofs.Ytddfdnhlghmapaa.Sp
