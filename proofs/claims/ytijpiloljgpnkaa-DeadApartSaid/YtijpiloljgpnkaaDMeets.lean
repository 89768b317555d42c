/- The walk of DeadMeets. -/
import Derived.Test.YtijpiloljgpnkaaDSets
import Derived.Test.YtijpiloljgpnkaaNumRow
import Derived.Test.YtijpiloljgpnkaaAdFits
namespace Go.Proofs.Ytijpiloljgpnkaa.De
open Go.ChangeShapes Go.WideShapes Go.ChangeAt Go.RowKit Go.Maps
open Go.Proofs.Ytijpiloljgpnkaa.Ad (Use nthU okU SetOk shr sumK cst per UV fl fl_len fl_get fl_set updN updN_same updN_other rest_nat row_view Off)
set_option linter.unusedVariables false

theorem both_begun {b : Bool} (h : b = true) : b = true := h

theorem fl_zero (n : Nat) : List.replicate n (0 : Int) = fl n (fun _ => 0) := by
  apply List.ext_getElem
  · simp [fl]
  · intro i h1 h2; simp [fl]

theorem tick_at {w : World} {p : Nat} {S : List Use} {T : Tks} {j : Nat} (hD : DeadAt w p T j) (hg : Going S T j) (hj : j ≤ 1000) {m : Nat} (hm : pick T = m) :
    Calls Try.prog 10 #[.pointer (some ⟨p, 0, none⟩)] w (DKeep w p (.int .i64 (m : Int)) (tick T j) ((j + 1 : Nat) : Int)) :=
  tick_is hD hg.fit (by omega) (by omega) hm rfl (by omega)

/-- What is in memory behind the adds. -/
theorem add_next {w : World} {p : Nat} {S : List Use} (h : SetOk S) {k : Nat} (hk : k < S.length) (hD : DeadAt w p (addTo S k) 0) (x : Int) (hx : x = ((k + 1 : Nat) : Int)) :
    Calls Try.prog 9 #[.pointer (some ⟨p, 0, none⟩), .int .i64 x, .int .i64 (cst (nthU S k)), .int .i64 (per (nthU S k))] w (DKeep w p (.int .i64 0) (addTo S (k + 1)) 0) := by
  subst hx
  have hl := h.len
  have hb := SetOk.bd h hk
  have hn := Ad.okU_nat (h.each _ (Ad.nthU_mem hk)).1
  have := add_yes hD (k + 1) (cst (nthU S k)) (per (nthU S k)) ⟨by omega, by omega, by omega, by omega, by omega, by omega⟩ (by rw [addTo_at, if_neg (by omega)]; rfl) (Int.le_refl _) (by omega)
  rw [← hn.1, ← hn.2.1] at this
  rw [← hn.1, ← hn.2.1]
  exact this

theorem pick_le {S : List Use} {T : Tks} {t : Nat} (h : Going S T t) : pick T ≤ S.length := by
  by_cases h0 : pick T = 0
  · omega
  · exact (h.meets.pick_in h0).2.1

set_option maxRecDepth 100000 in
set_option maxHeartbeats 4000000 in
theorem meets_walk (a : Option Addr) (len cap : Nat) (zs : List Int) (n0 : Int) (w : World) (h : IsRow .i64 w a len cap zs) :
    Calls Try.prog 6 #[.slice a len cap, .int .i64 n0] w fun e w' => e = .returned (.bool true) ∧ Below w.heap.size w w' := by
  have HI := Lib.hid h
  clear h
  have hr0 := restOf_lo n0 150 (by omega)
  have hr1 := restOf_hi n0 150 (by omega)
  have hrest := fun (wx : World) => rest_any n0 150 (by omega) (by omega) wx
  obtain ⟨q, hq⟩ : ∃ q : Nat, restOf n0 150 = q := ⟨(restOf n0 150).toNat, by omega⟩
  rw [hq] at hrest hr1
  have KR := Lib.hid hrest
  clear hrest hq hr0
  go_enter Try.func6, Try.ntmps6
  go_wp2_with (first
    | (go_at_call 26; (with_reducible refine (begun_any _).mono ?_); rintro e w1 ⟨rfl, hO⟩; have HO1 := Lib.hid hO; clear hO)
    | (go_at_call 28; (with_reducible refine (Ad.begun_any _).mono ?_); rintro e w2 ⟨rfl, hO⟩; have HO2 := Lib.hid (only_trans HO1.out hO); clear hO)
    | (go_at_call 29; (with_reducible refine (Ad.sets_any _ _ _ _ _ (Ad.row_keep2 HI.out HO2.out)).mono ?_); rintro e w3 ⟨V, S, rfl, hS, hr, hO⟩; obtain ⟨n, hn⟩ : ∃ n, S.length = n := ⟨_, rfl⟩; obtain ⟨a3, c3, rfl, hc31, hc32, -⟩ := hr.shape hn; have HN := Lib.hid hn; clear hn; have HS := Lib.hid hS; have HR := Lib.hid hr; have HO3 := Lib.hid (only_trans HO2.out hO); clear hS hr hO)
    | (go_at_call 8; (with_reducible refine (new_any _).mono ?_); rintro e w4 ⟨p, rfl, hp, hD, hO⟩; have HP := Lib.hid hp; have HD := Lib.hid hD; have HO4 := Lib.hid hO; clear hp hD hO))
  have hn8 : n ≤ 8 := by have := HS.out.len; have := HN.out; omega
  have HSZ := Lib.hid HR.out
  have HV := Lib.hid (fun (wx : World) (hO : Only (fun _ => False) w3 wx) => row_view (HR.out.later hO))
  go_loopw [25] (fun i wr => ∃ k : Nat, k ≤ n ∧ i = .int .i64 k ∧ DeadAt wr p (addTo S k) 0 ∧ Only (fun _ => False) w3 wr) (fun i _ => n - (intOf i).toNat)
  case atStart => exact ⟨0, Nat.zero_le _, rfl, HD.out, HO4.out⟩
  case round =>
    obtain ⟨k, hk, rfl, hDr, hOr⟩ := hrel
    have HDR := Lib.hid hDr
    have HOR := Lib.hid hOr
    clear hDr hOr
    by_cases hlt : k < n
    · obtain ⟨b, off, rfl, hb, c1, c2⟩ : ∃ b off, a3 = some ⟨b, off, none⟩ ∧ b < wr.heap.size ∧ wr.cell? ⟨b, off + k * 2, none⟩ = some (.int .i64 (nthU S k).1) ∧ wr.cell? ⟨b, off + k * 2 + 1, none⟩ = some (.int .i64 (nthU S k).2) := by
        obtain ⟨a', c', e, -, -, h3⟩ := HV.out wr HOR.out
        cases e
        exact h3 k (by rw [HN.out]; exact hlt)
      have g1 : (k : Int) < n := by omega
      have hu := Ad.okU_nat (HS.out.each _ (Ad.nthU_mem (show k < S.length by rw [HN.out]; exact hlt))).1
      have KA := Lib.hid (fun (wx : World) (hO : Only (fun _ => False) wr wx) => add_next HS.out (by rw [HN.out]; exact hlt) (HDR.out.later hO))
      obtain ⟨u1, u2, u3, u4, u5, u6⟩ := hu
      rw [u1] at c1
      rw [u2] at c2
      clear u1 u2
      generalize cst (nthU S k) = x at *
      generalize per (nthU S k) = y at *
      go_wp2_with (go_at_call 9; (with_reducible refine (KA.out _ ((Only.refl _ wr).alloc _) _ (by omega)).mono ?_); rintro e w5 ⟨rfl, hF, hO⟩; have HF := Lib.hid hF; have HO5 := Lib.hid (only_new (HOR.out.alloc _) hO HP.out); clear hF hO)
      go_roundw
      case rel => exact ⟨k + 1, by omega, by go_num, HF.out, HO5.out⟩
      case measure => simp [intOf]; omega
    · obtain rfl : k = n := by omega
      have mk := run_mk k (by omega)
      go_wp2_with fail
      have HB5 : Hid (BlockOf (wr.alloc (.cells (numCells (List.replicate k 0)).toArray 3)) wr.heap.size (fl k (fun _ => 0))) := Lib.hid (by rw [← fl_zero]; exact BlockOf.new wr _)
      have HO5 := Lib.hid (HOR.out.alloc (.cells (numCells (List.replicate k 0)).toArray 3))
      have HD5 := Lib.hid (HDR.out.later ((Only.refl (fun _ => False) wr).alloc (.cells (numCells (List.replicate k 0)).toArray 3)))
      have HG := Lib.hid HOR.out.size
      have HPG := Lib.hid (Nat.ne_of_lt HDR.out.lt)
      clear mk
      generalize wr.alloc (.cells (numCells (List.replicate k 0)).toArray 3) = w5 at *
      generalize wr.heap.size = g at *
      have HST := Lib.hid (Going.start HS.out)
      have HHS := Lib.hid (Had.start HS.out)
      rw [HN.out] at HST HHS
      go_loopw [10] (fun i wr => ∃ (j : Nat) (T : Tks) (gv : Nat → Nat), j ≤ q ∧ i = .int .i64 ((j : Int) + 1) ∧ DeadAt wr p T j ∧ Going S T j ∧ Had S T j gv ∧ BlockOf wr g (fl k gv) ∧ Only (fun _ => False) w3 wr) (fun i _ => q + 1 - (intOf i).toNat)
      case atStart => exact ⟨0, _, _, Nat.zero_le _, rfl, HD5.out, HST.out, HHS.out, HB5.out, HO5.out⟩
      case round =>
        obtain ⟨j, T, gv, hj, rfl, hDj, hGj, hHj, hBj, hOj⟩ := hrel
        have HDJ := Lib.hid hDj
        have HGJ := Lib.hid hGj
        have HHJ := Lib.hid hHj
        have HBJ := Lib.hid hBj
        have HOJ := Lib.hid hOj
        clear hDj hGj hHj hBj hOj
        by_cases hlt2 : j < q
        · have g1 : (j : Int) + 1 ≤ q := by omega
          have hG2 := HGJ.out.tick
          have hH2 := HHJ.out.tick HGJ.out
          have hpl := pick_le HGJ.out
          rw [HN.out] at hpl
          by_cases h0 : pick T = 0
          · have KT := Lib.hid (fun (wx : World) (hO : Only (fun _ => False) wr wx) => tick_at (HDJ.out.later hO) HGJ.out (by omega) h0)
            rw [if_pos h0] at hH2
            have HG7 := Lib.hid hG2
            have HH7 := Lib.hid hH2
            clear hG2 hH2
            go_wp2_with (first
              | (go_at_call 27; (with_reducible refine (KR.out _).mono ?_); rintro e w' ⟨rfl, rfl⟩)
              | (go_at_call 10; (with_reducible refine (KT.out _ (Only.refl _ _)).mono ?_); rintro e w7 ⟨rfl, hF, hO⟩; have HD7 := Lib.hid hF; have HB7 := Lib.hid (HBJ.out.keep hO (fun e => HPG.out e.symm)); have HO7 := Lib.hid (only_new HOJ.out hO HP.out); clear hF hO))
            go_loopw [70] (fun i wr => ∃ x : Nat, x ≤ k ∧ i = .int .i64 x ∧ Only (fun _ => False) w7 wr) (fun i _ => k - (intOf i).toNat)
            case atStart => exact ⟨0, Nat.zero_le _, rfl, Only.refl _ _⟩
            case round =>
              obtain ⟨x, hx, rfl, hOx⟩ := hrel
              have HOX := Lib.hid hOx
              clear hOx
              by_cases hxk : x < k
              · obtain ⟨b, off, rfl, hb, c1, c2⟩ : ∃ b off, a3 = some ⟨b, off, none⟩ ∧ b < wr.heap.size ∧ wr.cell? ⟨b, off + x * 2, none⟩ = some (.int .i64 (nthU S x).1) ∧ wr.cell? ⟨b, off + x * 2 + 1, none⟩ = some (.int .i64 (nthU S x).2) := by
                  obtain ⟨a', c', e, -, -, h3⟩ := HV.out wr (only_trans HO7.out HOX.out)
                  cases e
                  exact h3 x (by rw [HN.out]; exact hxk)
                have c3 := (HB7.out.later HOX.out).cell (j := x) (by rw [fl_len]; exact hxk)
                have hgl := (HB7.out.later HOX.out).lt
                rw [fl_get _ hxk] at c3
                have g1 : (x : Int) < k := by omega
                have hu := Ad.okU_nat (HS.out.each _ (Ad.nthU_mem (show x < S.length by rw [HN.out]; exact hxk))).1
                have hdone := HH7.out.done HG7.out HS.out (show x < S.length by rw [HN.out]; exact hxk)
                have hgb := (HH7.out x (by rw [HN.out]; exact hxk)).2
                obtain ⟨u1, u2, u3, u4, u5, u6⟩ := hu
                rw [u1] at c1
                rw [u2] at c2
                clear u1 u2
                generalize cst (nthU S x) = c at *
                generalize per (nthU S x) = y at *
                generalize gv x = gx at *
                obtain ⟨m, hm⟩ : ∃ m, (j + 1) % y = m := ⟨_, rfl⟩
                have qm : ((j : Int) + 1) % y = (m : Int) := by rw [← hm, show (j : Int) + 1 = ((j + 1 : Nat) : Int) by omega]; rfl
                rw [hm] at hdone
                obtain ⟨z, hz⟩ : ∃ z, (j + 1) / y = z := ⟨_, rfl⟩
                have qz : ((j : Int) + 1) / y = (z : Int) := by rw [← hz, show (j : Int) + 1 = ((j + 1 : Nat) : Int) by omega]; rfl
                rw [hz] at hdone
                have hzb : z ≤ j + 1 := hz ▸ Nat.div_le_self _ _
                clear hm hz
                have e1 : ¬ (y : Int) = 0 := by omega
                have e2 : (0 : Int) ≤ (j : Int) + 1 := by omega
                by_cases m0 : m = 0
                · have e4 : ((m : Int) == 0) = true := by simp [m0]
                  have hgx := hdone m0
                  have q2 : wrap64 ((z : Int) * c) = (gx : Int) := by rw [← Int.natCast_mul, hgx]; exact IntWalk.wrap64_in _ (by omega)
                  clear hdone hgx
                  go_wp2_with fail
                  go_quiet (fail)
                  go_wp2_with fail
                  go_roundw
                  case rel => exact ⟨x + 1, by omega, by go_num, only_drewN (HOX.out.alloc _) _⟩
                  case measure => simp [intOf]; omega
                · have e4 : ((m : Int) == 0) = false := by simp [m0]
                  clear hdone
                  go_wp2_with fail
                  go_quiet (fail)
                  go_wp2_with fail
                  go_roundw
                  case rel => exact ⟨x + 1, by omega, by go_num, only_drewN (HOX.out.alloc _) _⟩
                  case measure => simp [intOf]; omega
              · obtain rfl : x = k := by omega
                go_wp2_with fail
                go_roundw
                case rel => exact ⟨j + 1, _, _, by omega, by go_num, HD7.out.later HOX.out, HG7.out, HH7.out, HB7.out.later HOX.out, only_trans HO7.out HOX.out⟩
                case measure => simp [intOf]; omega
          · obtain ⟨i, hi⟩ : ∃ i, pick T = i + 1 := ⟨pick T - 1, by omega⟩
            have KT0 := fun (wx : World) (hO : Only (fun _ => False) wr wx) => tick_at (HDJ.out.later hO) HGJ.out (by omega) hi
            rw [if_neg h0, show pick T - 1 = i by omega] at hH2
            have e9 : ((i + 1 : Nat) : Int) = (i : Int) + 1 := by omega
            rw [e9] at KT0
            have KT := Lib.hid KT0
            have hik : i < k := by omega
            have hgi := (HHJ.out i (by rw [HN.out]; exact hik)).2
            have HG7 := Lib.hid hG2
            have HH7 := Lib.hid hH2
            have C3 := Lib.hid (fun (wx : World) (hB : BlockOf wx g (fl k gv)) => (by have := hB.cell (j := i) (by rw [fl_len]; exact hik); rw [fl_get _ hik] at this; exact this : wx.cell? ⟨g, i, none⟩ = some (.int .i64 (gv i : Int))))
            have HSET := Lib.hid (fun (wx : World) (hB : BlockOf wx g (fl k gv)) => (by have := hB.set i ((gv i + 1 : Nat) : Int); rw [fl_set] at this; exact this : BlockOf (wx.setCell ⟨g, i, none⟩ (.int .i64 ((gv i + 1 : Nat) : Int))) g (fl k (updN gv i (gv i + 1)))))
            have e8 : ((gv i + 1 : Nat) : Int) = (gv i : Int) + 1 := by omega
            rw [e8] at HSET
            clear hG2 hH2 hpl h0 KT0 e9 e8
            obtain ⟨gw, hgw⟩ : ∃ gw, updN gv i (gv i + 1) = gw := ⟨_, rfl⟩
            rw [hgw] at HSET HH7
            clear hgw
            generalize gv i = y at *
            have i1 : (i : Int) < k := by omega
            have i2 : (0 : Int) ≤ i := by omega
            have i3 : (i : Int) + 1 - 1 = i := by omega
            have i4 : (i : Int) + 1 ≤ k := by omega
            go_upto_region 20 with (first
              | (go_at_call 27; (with_reducible refine (KR.out _).mono ?_); rintro e w' ⟨rfl, rfl⟩)
              | (go_at_call 10; (with_reducible refine (KT.out _ (Only.refl _ _)).mono ?_); rintro e w6 ⟨rfl, hF, hO⟩; have HD6 := Lib.hid hF; have hB6 := HBJ.out.keep hO (fun e => HPG.out e.symm); have c3 := C3.out _ hB6; have fz := hB6.frozen i; have HB6 := Lib.hid hB6; have HO6 := Lib.hid (only_new HOJ.out hO HP.out); clear hF hO hB6))
            have HB7 := Lib.hid (HSET.out w6 HB6.out)
            have hO7 : Only (fun k => k = g) w6 (w6.setCell ⟨g, i, none⟩ (.int .i64 ((y : Int) + 1))) := (Only.refl (fun k => k = g) w6).setCell (p := ⟨g, i, none⟩) rfl _
            have HD7 := Lib.hid (HD6.out.keep hO7 HPG.out)
            have HO7 := Lib.hid (only_new HO6.out hO7 HG.out)
            clear hO7 c3 fz
            generalize w6.setCell ⟨g, i, none⟩ (.int .i64 ((y : Int) + 1)) = w7 at *
            go_wp2_with fail
            go_loopw [70] (fun i wr => ∃ x : Nat, x ≤ k ∧ i = .int .i64 x ∧ Only (fun _ => False) w7 wr) (fun i _ => k - (intOf i).toNat)
            case atStart => exact ⟨0, Nat.zero_le _, rfl, Only.refl _ _⟩
            case round =>
              obtain ⟨x, hx, rfl, hOx⟩ := hrel
              have HOX := Lib.hid hOx
              clear hOx
              by_cases hxk : x < k
              · obtain ⟨b, off, rfl, hb, c1, c2⟩ : ∃ b off, a3 = some ⟨b, off, none⟩ ∧ b < wr.heap.size ∧ wr.cell? ⟨b, off + x * 2, none⟩ = some (.int .i64 (nthU S x).1) ∧ wr.cell? ⟨b, off + x * 2 + 1, none⟩ = some (.int .i64 (nthU S x).2) := by
                  obtain ⟨a', c', e, -, -, h3⟩ := HV.out wr (only_trans HO7.out HOX.out)
                  cases e
                  exact h3 x (by rw [HN.out]; exact hxk)
                have c3 := (HB7.out.later HOX.out).cell (j := x) (by rw [fl_len]; exact hxk)
                have hgl := (HB7.out.later HOX.out).lt
                rw [fl_get _ hxk] at c3
                have g1 : (x : Int) < k := by omega
                have hu := Ad.okU_nat (HS.out.each _ (Ad.nthU_mem (show x < S.length by rw [HN.out]; exact hxk))).1
                have hdone := HH7.out.done HG7.out HS.out (show x < S.length by rw [HN.out]; exact hxk)
                have hgb := (HH7.out x (by rw [HN.out]; exact hxk)).2
                obtain ⟨u1, u2, u3, u4, u5, u6⟩ := hu
                rw [u1] at c1
                rw [u2] at c2
                clear u1 u2
                generalize cst (nthU S x) = c at *
                generalize per (nthU S x) = y at *
                generalize gw x = gx at *
                obtain ⟨m, hm⟩ : ∃ m, (j + 1) % y = m := ⟨_, rfl⟩
                have qm : ((j : Int) + 1) % y = (m : Int) := by rw [← hm, show (j : Int) + 1 = ((j + 1 : Nat) : Int) by omega]; rfl
                rw [hm] at hdone
                obtain ⟨z, hz⟩ : ∃ z, (j + 1) / y = z := ⟨_, rfl⟩
                have qz : ((j : Int) + 1) / y = (z : Int) := by rw [← hz, show (j : Int) + 1 = ((j + 1 : Nat) : Int) by omega]; rfl
                rw [hz] at hdone
                have hzb : z ≤ j + 1 := hz ▸ Nat.div_le_self _ _
                clear hm hz
                have e1 : ¬ (y : Int) = 0 := by omega
                have e2 : (0 : Int) ≤ (j : Int) + 1 := by omega
                by_cases m0 : m = 0
                · have e4 : ((m : Int) == 0) = true := by simp [m0]
                  have hgx := hdone m0
                  have q2 : wrap64 ((z : Int) * c) = (gx : Int) := by rw [← Int.natCast_mul, hgx]; exact IntWalk.wrap64_in _ (by omega)
                  clear hdone hgx
                  go_wp2_with fail
                  go_quiet (fail)
                  go_wp2_with fail
                  go_roundw
                  case rel => exact ⟨x + 1, by omega, by go_num, only_drewN (HOX.out.alloc _) _⟩
                  case measure => simp [intOf]; omega
                · have e4 : ((m : Int) == 0) = false := by simp [m0]
                  clear hdone
                  go_wp2_with fail
                  go_quiet (fail)
                  go_wp2_with fail
                  go_roundw
                  case rel => exact ⟨x + 1, by omega, by go_num, only_drewN (HOX.out.alloc _) _⟩
                  case measure => simp [intOf]; omega
              · obtain rfl : x = k := by omega
                go_wp2_with fail
                go_roundw
                case rel => exact ⟨j + 1, _, _, by omega, by go_num, HD7.out.later HOX.out, HG7.out, HH7.out, HB7.out.later HOX.out, only_trans HO7.out HOX.out⟩
                case measure => simp [intOf]; omega
        · obtain rfl : j = q := by omega
          have g1 : ¬ (j : Int) + 1 ≤ j := by omega
          go_wp2_with (go_at_call 27; (with_reducible refine (KR.out _).mono ?_); rintro e w' ⟨rfl, rfl⟩)
          go_ret
          exact ⟨rfl, Only.below (only_trans HO3.out HOJ.out) (Nat.le_refl _) (fun _ e => e.elim)⟩
end Go.Proofs.Ytijpiloljgpnkaa.De
