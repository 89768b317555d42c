/- The walk of FairShares. -/
import Derived.Test.YtkjcaainbomemaaFWeights
namespace Go.Proofs.Ytkjcaainbomemaa.Fr
open Go.ChangeShapes Go.WideShapes Go.ChangeAt Go.RowKit Go.Maps
open Go.Proofs.Ytkjcaainbomemaa.Vt
set_option linter.unusedVariables false

theorem run_min2 (x y m : Int) (h : min x y = m) (w : World) (ts : Array TypeId) (t : TypeId) : (Builtin.min_ ts t #[.int .i64 x, .int .i64 y]).run Try.prog w = .ok (.int .i64 m) w := by
  subst h
  have e : (if y < x then y else x) = min x y := by rw [Int.min_def]; split <;> split <;> omega
  simp [Builtin.min_, Builtin.min2, e]

/-- The greatest cost, as far as j. -/
def mostTo (xs : List Int) : Nat → Int
  | 0 => 0
  | j + 1 => max (mostTo xs j) (cw xs (j + 1))
theorem mostTo_bd (xs : List Int) (j : Nat) : 0 ≤ mostTo xs j ∧ mostTo xs j ≤ 1048576 := by
  induction j with
  | zero => exact ⟨Int.le_refl _, show (0 : Int) ≤ 1048576 by omega⟩
  | succ j ih => have := cw_bd xs (j + 1); unfold mostTo; omega
theorem mostTo_ge (xs : List Int) (j t : Nat) (h1 : 1 ≤ t) (h2 : t ≤ j) : cw xs t ≤ mostTo xs j := by
  induction j with
  | zero => omega
  | succ j ih =>
    unfold mostTo
    by_cases e : t = j + 1
    · subst e; omega
    · have := ih (by omega); omega

/-- The least and the greatest of the times, as far as j. -/
def lowTo (v : Nat → Int) : Nat → Int
  | 0 => 4611686018427387904
  | j + 1 => min (lowTo v j) (v (j + 1))
def highTo (v : Nat → Int) : Nat → Int
  | 0 => 0
  | j + 1 => max (highTo v j) (v (j + 1))

theorem lowHigh {v : Nat → Int} {most : Int} {m : Nat} (hv : ∀ t, 1 ≤ t → t ≤ m → 0 ≤ v t ∧ v t ≤ 2097152000) (hc : ∀ i j, 1 ≤ i → i ≤ m → 1 ≤ j → j ≤ m → v i - v j ≤ most) (hm : 1 ≤ m) :
    highTo v m - lowTo v m ≤ most ∧ (0 ≤ highTo v m ∧ highTo v m ≤ 2097152000) ∧ 0 ≤ lowTo v m ∧ lowTo v m ≤ 2097152000 := by
  have key : ∀ j, j ≤ m → (j = 0 ∧ lowTo v j = 4611686018427387904 ∧ highTo v j = 0) ∨ (∃ a b, (1 ≤ a ∧ a ≤ m) ∧ (1 ≤ b ∧ b ≤ m) ∧ lowTo v j = v a ∧ highTo v j = v b) := by
    intro j
    induction j with
    | zero => exact fun _ => Or.inl ⟨rfl, rfl, rfl⟩
    | succ j ih =>
      intro hj
      right
      have h1 := hv (j + 1) (by omega) hj
      rcases ih (by omega) with ⟨_, e1, e2⟩ | ⟨a, b, ha, hb, e1, e2⟩
      · exact ⟨j + 1, j + 1, ⟨by omega, hj⟩, ⟨by omega, hj⟩, by unfold lowTo; rw [e1]; omega, by unfold highTo; rw [e2]; omega⟩
      · unfold lowTo highTo
        rw [e1, e2]
        by_cases q : v (j + 1) ≤ v a
        · by_cases r : v b ≤ v (j + 1)
          · exact ⟨j + 1, j + 1, ⟨by omega, hj⟩, ⟨by omega, hj⟩, by omega, by omega⟩
          · exact ⟨j + 1, b, ⟨by omega, hj⟩, hb, by omega, by omega⟩
        · by_cases r : v b ≤ v (j + 1)
          · exact ⟨a, j + 1, ha, ⟨by omega, hj⟩, by omega, by omega⟩
          · exact ⟨a, b, ha, hb, by omega, by omega⟩
  rcases key m (Nat.le_refl _) with ⟨h, _⟩ | ⟨a, b, ha, hb, e1, e2⟩
  · omega
  · rw [e1, e2]
    have h1 := hv a ha.1 ha.2
    have h2 := hv b hb.1 hb.2
    have h3 := hc b a hb.1 hb.2 ha.1 ha.2
    exact ⟨h3, h2, h1⟩

/-- The ticks of a task, by a list. -/
def kf (gs : List Int) : Nat → Int := fun t => gs.getD (t - 1) 0

theorem kf_set {gs : List Int} {q : Nat} (hq : q < gs.length) (x : Int) (t : Nat) (h1 : 1 ≤ t) : kf (gs.set q x) t = upd (kf gs) (q + 1) x t := by
  unfold kf upd
  by_cases e : t = q + 1
  · subst e; simp [List.getD, hq]
  · rw [if_neg e]; simp [List.getD, List.getElem?_set_ne (show q ≠ t - 1 by omega)]

theorem at_next {w : World} {p : Nat} {T : Tks} {G : Grs} (h : FairAt w p T G) (k : Nat) (x : Int) (h2 : k + 1 ≤ 16) (hc : (T (k + 1)).c ≠ 0) (hx : (T (k + 1)).v = x) :
    Calls Try.prog 31 #[.pointer (some ⟨p, 0, none⟩), .int .i64 ((k : Int) + 1)] w fun e w' => e = .returned (.tuple #[.int .i64 x, .int .i64 0]) ∧ w = w' := by
  subst hx
  exact at_yes h (k + 1) (by omega) h2 hc

/-- What is known of the tasks, ere each tick. -/
structure Shared (m : Nat) (xs gs : List Int) (h : Nat) : Prop where
  len : gs.length = m
  close : Close m (cw xs) (kf gs) (mostTo xs m)
  bd : ∀ t, 1 ≤ t → t ≤ m → 0 ≤ kf gs t ∧ kf gs t ≤ h

theorem Shared.tick {m : Nat} {xs gs : List Int} {h n : Nat} (hS : Shared m xs gs h) (hm : 1 ≤ m) (hm16 : m ≤ 16) (hn : first (mkT m (cw xs) (vk (cw xs) (kf gs))) 0 = n) :
    ∃ q, n = q + 1 ∧ q < m ∧ Shared m xs (gs.set q (gs.getD q 0 + 1)) (h + 1) ∧ mkT m (cw xs) (vk (cw xs) (upd (kf gs) n (kf gs n + 1))) = mkT m (cw xs) (vk (cw xs) (kf (gs.set q (gs.getD q 0 + 1)))) := by
  obtain ⟨h1, h2, h3⟩ := close_tick hS.close hm hm16 hn (fun t t1 t2 => ⟨by have := cw_bd xs t; omega, mostTo_ge xs m t t1 t2⟩)
  refine ⟨n - 1, by omega, by omega, ?_, ?_⟩
  · have hq : n - 1 < gs.length := by rw [hS.len]; omega
    have e : ∀ t, 1 ≤ t → kf (gs.set (n - 1) (gs.getD (n - 1) 0 + 1)) t = upd (kf gs) n (kf gs n + 1) t := by
      intro t ht
      rw [kf_set hq _ t ht, Nat.sub_add_cancel h1]
      rfl
    refine ⟨by rw [List.length_set]; exact hS.len, fun i j i1 i2 j1 j2 => ?_, fun t t1 t2 => ?_⟩
    · rw [e i i1, e j j1]; exact h3 i j i1 i2 j1 j2
    · rw [e t t1]
      have := hS.bd t t1 t2
      have := hS.bd n h1 h2
      unfold upd; split <;> omega
  · have hq : n - 1 < gs.length := by rw [hS.len]; omega
    refine mkT_congr (fun t h1' h2' => ⟨rfl, ?_⟩)
    unfold vk
    rw [kf_set hq _ t h1', Nat.sub_add_cancel h1]
    rfl

set_option maxRecDepth 100000 in
theorem shares_any (a : Option Addr) (len cap : Nat) (zs : List Int) (a1 : Int) (w : World) (hr : IsRow .i64 w a len cap zs) :
    Calls Try.prog 4 #[.slice a len cap, .int .i64 a1] w (fun e w' => e = .returned (.bool true) ∧ Below w.heap.size w w') := by
  obtain ⟨xs, hx1, hx2, hc1, hc2⟩ := nums_cut hr 16
  obtain ⟨m, hm⟩ : ∃ m, min len 16 = m := ⟨_, rfl⟩
  rw [hm] at hx1
  rw [hx1] at hx2
  have hm1 : m ≤ 16 := by omega
  have hm2 : m ≤ len := by omega
  have q1 := run_min2 (len : Int) 16 m (by omega)
  obtain ⟨n, hn⟩ : ∃ n : Nat, restOf a1 500 = n := ⟨(restOf a1 500).toNat, by have := restOf_lo a1 500 (by omega); omega⟩
  have hn1 : n < 500 := by have := restOf_hi a1 500 (by omega); omega
  have c2 := fun w => rest_any a1 500 (by omega) (by omega) w
  rw [hn] at c2
  have C2 := Lib.hid c2
  have HX := Lib.hid hx2
  have HL := Lib.hid hx1
  have HM := Lib.hid hm1
  clear hr hx1 hx2 hm hn c2
  by_cases h0 : m = 0
  · have e0 : ((m : Int) == 0) = true := by simp [h0]
    have HN : Hid ((next (bareT xs m) noG).1 = 0) := Lib.hid (by unfold bareT; rw [h0, mkT_next0])
    clear h0
    go_enter Try.func4, Try.ntmps4
    go_wp2_with (first
      | (go_at_call 27; (with_reducible refine (begun_any _).mono ?_); rintro e w1 ⟨rfl, hO⟩; have HO := Lib.hid hO; have CF := Lib.hid (fairs_any a m cap xs _ (HX.out.later hO) HL.out hm1); clear hO)
      | (go_at_call 28; (with_reducible refine CF.out.mono ?_); rintro e w4 ⟨p, rfl, hp, hF, hO⟩; have HF := Lib.hid hF; have HO4 := Lib.hid (only_trans HO.out hO); have HP := Lib.hid (Nat.le_trans HO.out.size hp); clear hF hO hp)
      | (go_at_call 23; (with_reducible refine (tick_none HF.out HN.out).mono ?_); rintro e w5 ⟨rfl, hO⟩; have HO5 := Lib.hid (only_trans HO4.out hO); clear hO))
    go_ret
    exact ⟨rfl, Only.below HO5.out (Nat.le_refl _) (fun _ e => e.elim)⟩
  · have e0 : ((m : Int) == 0) = false := by simp [h0]
    have H0 := Lib.hid h0
    have mk := Lib.hid (run_mk m (by omega))
    clear h0
    go_enter Try.func4, Try.ntmps4
    go_wp2_with (first
      | (go_at_call 27; (with_reducible refine (begun_any _).mono ?_); rintro e w1 ⟨rfl, hO⟩; have HO := Lib.hid hO; have CF := Lib.hid (fairs_any a m cap xs _ (HX.out.later hO) HL.out hm1); clear hO)
      | (go_at_call 28; (with_reducible refine CF.out.mono ?_); rintro e w4 ⟨p, rfl, hp, hF, hO⟩; have HF := Lib.hid hF; have HO4 := Lib.hid (only_trans HO.out hO); have HP := Lib.hid (Nat.le_trans HO.out.size hp); clear hF hO hp))
    clear CF
    go_loopw [9, 51] (fun mo i wr => ∃ j : Nat, j ≤ m ∧ i = .int .i64 j ∧ mo = .int .i64 (mostTo xs j) ∧ wr = w4) (fun _ i _ => m - (intOf i).toNat)
    case atStart => exact ⟨0, by omega, rfl, rfl, rfl⟩
    case round =>
      obtain ⟨j, hj, rfl, rfl, rfl⟩ := hrel
      by_cases hlt : j < m
      · obtain ⟨b, off, rfl, hb, hc⟩ := (HX.out.later HO4.out).at (j := j) (by rw [HL.out]; exact hlt)
        obtain ⟨x, hx⟩ : ∃ x, xs.getD j 0 = x := ⟨_, rfl⟩
        rw [hx] at hc
        have HMT : Hid (mostTo xs (j + 1) = max (mostTo xs j) (costOf (wOf x))) := Lib.hid (by rw [← hx]; rfl)
        obtain ⟨mx, hmx⟩ : ∃ mx, max (mostTo xs j) (costOf (wOf x)) = mx := ⟨_, rfl⟩
        rw [hmx] at HMT
        have q := run_max2 _ _ _ hmx
        have kc := Lib.hid (cost_yes (wOf x) wr (wOf_ok x))
        have kr := Lib.hid (rest_any x 100 (by omega) (by omega) wr)
        have r1 := restOf_lo x 100 (by omega)
        have r2 := restOf_hi x 100 (by omega)
        unfold wOf at *
        generalize restOf x 100 = r at *
        generalize costOf (1 + r) = cr at *
        have g1 : (j : Int) < m := by omega
        have g2 : (0 : Int) ≤ j := by omega
        clear hx hmx
        generalize mostTo xs j = mo at *
        go_wp2_with (first
          | (go_at_call 30; (with_reducible refine kr.out.mono ?_); rintro e w' ⟨rfl, rfl⟩)
          | (go_at_call 29; (with_reducible refine kc.out.mono ?_); rintro e w' ⟨rfl, rfl⟩))
        go_roundw
        case rel => exact ⟨j + 1, by omega, by go_num, by rw [HMT.out], trivial⟩
        case measure => simp [intOf]; omega
      · obtain rfl : j = m := by omega
        have mk2 := mk.out
        go_wp2_with (first
          | (go_at_call 30; (with_reducible refine (C2.out _).mono ?_); rintro e w5 ⟨rfl, rfl⟩))
        have HB := Lib.hid (BlockOf.new wr (List.replicate j 0))
        have HO5 := Lib.hid (HO4.out.alloc (.cells (numCells (List.replicate j 0)).toArray 3))
        have HG := Lib.hid HO4.out.size
        have HF5 := Lib.hid (HF.out.later ((Only.refl (fun _ => False) wr).alloc (.cells (numCells (List.replicate j 0)).toArray 3)))
        have HPG : Hid (p < wr.heap.size) := Lib.hid HF.out.lt
        clear mk mk2 hlt q1
        generalize wr.alloc (.cells (numCells (List.replicate j 0)).toArray 3) = w5 at *
        generalize wr.heap.size = g at *
        have hmb := mostTo_bd xs j
        obtain ⟨mo, hmo⟩ : ∃ mo, mostTo xs j = mo := ⟨_, rfl⟩
        rw [hmo] at hmb
        have HMO := Lib.hid hmo
        rw [hmo]
        clear hmo
        go_loopw [71] (fun i wr => ∃ (h : Nat) (gs : List Int), h ≤ n ∧ i = .int .i64 h ∧ Shared j xs gs h ∧ BlockOf wr g gs ∧ FairAt wr p (mkT j (cw xs) (vk (cw xs) (kf gs))) noG ∧ Only (fun _ => False) w wr) (fun i _ => n - (intOf i).toNat)
        case atStart =>
          have hk : ∀ t, kf (List.replicate j 0) t = 0 := fun t => by
            unfold kf
            simp only [List.getD, List.getElem?_replicate]
            split <;> rfl
          refine ⟨0, _, by omega, rfl, ⟨by simp, fun i j' i1 i2 j1 j2 => ?_, fun t t1 t2 => ?_⟩, HB.out, ?_, HO5.out⟩
          · rw [hk, hk]; have := mostTo_bd xs j; simp; omega
          · rw [hk]; simp
          · have := HF5.out
            unfold bareT at this
            rwa [mkT_congr (c' := cw xs) (v' := vk (cw xs) (kf (List.replicate j 0))) (fun t _ _ => ⟨rfl, by unfold vk; rw [hk]; simp⟩)] at this
        case round =>
          obtain ⟨h, gs, hh, rfl, hS, hB, hF, hO⟩ := hrel
          have HS := Lib.hid hS
          have HB2 := Lib.hid hB
          have HF2 := Lib.hid hF
          have HO6 := Lib.hid hO
          clear hS hB hF hO
          by_cases hlt : h < n
          · have h1 : (h : Int) < n := by omega
            have hj1 : 1 ≤ j := by have := H0.out; omega
            obtain ⟨n0, hn0⟩ : ∃ n0, first (mkT j (cw xs) (vk (cw xs) (kf gs))) 0 = n0 := ⟨_, rfl⟩
            obtain ⟨q, hq, hqj, hS2, hT⟩ := HS.out.tick hj1 hm1 hn0
            have ct := run_tick (x := (q : Int) + 1) HF2.out hj1 hm1 (fun t _ _ => by have := cw_bd xs t; omega) HS.out.bd (by omega) (by omega) hn0 (by rw [hq]; rfl)
            rw [hT] at ct
            have CT := Lib.hid ct
            have HS2 := Lib.hid hS2
            obtain ⟨x, hx⟩ : ∃ x, gs.getD q 0 = x := ⟨_, rfl⟩
            have hxb : 0 ≤ x ∧ x ≤ h := by rw [← hx]; exact HS.out.bd (q + 1) (by omega) (by omega)
            have hql : q < gs.length := by rw [HS.out.len]; exact hqj
            rw [hx] at CT HS2
            have HXG := Lib.hid hx
            have HQL := Lib.hid hql
            have g1 : (q : Int) < j := by omega
            have g2 : (0 : Int) ≤ q := by omega
            have g3 : (j : Int) ≤ 16 := by omega
            clear hn0 hq hT ct hS2 hx hql
            go_upto_region 23 with (go_at_call 23; (with_reducible refine CT.out.mono ?_); rintro e w6 ⟨rfl, hF3, hO6⟩; have HF3 := Lib.hid hF3; have HB3 := Lib.hid (HB2.out.keep hO6 (fun e => by have := HPG.out; omega)); have HO7 := Lib.hid (only_new HO6.out hO6 HP.out); have ce := HB3.out.cell HQL.out; rw [HXG.out] at ce; have fz := HB3.out.frozen q; clear hF3 hO6)
            have hmd := lowHigh (v := vk (cw xs) (kf (gs.set q (x + 1)))) (most := mostTo xs j) (m := j) (fun t t1 t2 => by
              have a := cw_bd xs t
              have b := HS2.out.bd t t1 t2
              have h3 : 0 ≤ cw xs t * kf (gs.set q (x + 1)) t := Int.mul_nonneg (by omega) (by omega)
              have h4 : cw xs t * kf (gs.set q (x + 1)) t ≤ 1048576 * 2000 := Int.mul_le_mul a.2 (by omega) (by omega) (by omega)
              unfold vk
              omega) HS2.out.close hj1
            rw [HMO.out] at hmd
            have HMD := Lib.hid hmd
            clear hmd
            go_upto_region 24 with (fail)
            have HB4 := Lib.hid (HB3.out.set q (x + 1))
            have HF4 := Lib.hid (HF3.out.keep (only_set1 (p := g) (Only.refl (fun _ => False) w6) q (.int .i64 (x + 1))) (fun e => by have := HPG.out; omega))
            have HO8 := Lib.hid (only_new HO7.out (only_set1 (p := g) (Only.refl (fun _ => False) w6) q (.int .i64 (x + 1))) HG.out)
            clear ce fz CT
            generalize w6.setCell ⟨g, q, none⟩ (.int .i64 (x + 1)) = w7 at *
            generalize gs.set q (x + 1) = ks at *
            go_wp2_with fail
            go_loopw [17, 18, 99] (fun lo hi i wx => ∃ l : Nat, l ≤ j ∧ i = .int .i64 l ∧ lo = .int .i64 (lowTo (vk (cw xs) (kf ks)) l) ∧ hi = .int .i64 (highTo (vk (cw xs) (kf ks)) l) ∧ wx = w7) (fun _ _ i _ => j - (intOf i).toNat)
            case atStart => exact ⟨0, by omega, rfl, rfl, rfl, rfl⟩
            case round =>
              obtain ⟨l, hl, rfl, rfl, rfl, rfl⟩ := hrel
              by_cases hlt2 : l < j
              · obtain ⟨b, off, rfl, hb, hc⟩ := (HX.out.later HO8.out).at (j := l) (by rw [HL.out]; exact hlt2)
                have hk := HB4.out.cell (j := l) (by rw [HS2.out.len]; exact hlt2)
                obtain ⟨V, hV⟩ : ∃ V, vk (cw xs) (kf ks) (l + 1) = V := ⟨_, rfl⟩
                have ca := Lib.hid (at_next HF4.out l V (by omega) (by rw [mkT_in (by omega) (by omega)]; have := cw_bd xs (l + 1); show cw xs (l + 1) ≠ 0; omega) (by rw [mkT_in (by omega) (by omega)]; exact hV))
                have hvb := vk_fit (c := cw xs) (k := kf ks) (K := h + 1) hm1 (fun t _ _ => by have := cw_bd xs t; omega) (fun t t1 t2 => by have := HS2.out.bd t t1 t2; omega) (by omega) (by omega)
                have hv2 := hvb.v (l + 1) (by omega)
                rw [mkT_in (by omega) (by omega)] at hv2
                have hv3 : 0 ≤ V ∧ V ≤ 2097152000 := by rw [← hV]; exact hv2
                obtain ⟨y, hy⟩ : ∃ y, xs.getD l 0 = y := ⟨_, rfl⟩
                obtain ⟨z, hz⟩ : ∃ z, ks.getD l 0 = z := ⟨_, rfl⟩
                have e1 : costOf (wOf y) * z = V := by rw [← hV, ← hy, ← hz]; rfl
                rw [hy] at hc
                rw [hz] at hk
                have qw : IntKind.i64.wrap (costOf (wOf y) * z) = V := by rw [e1]; exact IntWalk.i64_in _ (by omega)
                have qw2 : wrap64 (costOf (wOf y) * z) = V := by rw [e1]; exact IntWalk.wrap64_in _ (by omega)
                have HLO : Hid (lowTo (vk (cw xs) (kf ks)) (l + 1) = min (lowTo (vk (cw xs) (kf ks)) l) V) := Lib.hid (by rw [← hV]; rfl)
                have HHI : Hid (highTo (vk (cw xs) (kf ks)) (l + 1) = max (highTo (vk (cw xs) (kf ks)) l) V) := Lib.hid (by rw [← hV]; rfl)
                obtain ⟨mi, hmi⟩ : ∃ mi, min (lowTo (vk (cw xs) (kf ks)) l) V = mi := ⟨_, rfl⟩
                obtain ⟨mx, hmx⟩ : ∃ mx, max (highTo (vk (cw xs) (kf ks)) l) V = mx := ⟨_, rfl⟩
                have qi := run_min2 _ _ _ hmi
                have qx := run_max2 _ _ _ hmx
                rw [hmi] at HLO
                rw [hmx] at HHI
                have kc := Lib.hid (cost_yes (wOf y) wr (wOf_ok y))
                have kr := Lib.hid (rest_any y 100 (by omega) (by omega) wr)
                have r1 := restOf_lo y 100 (by omega)
                have r2 := restOf_hi y 100 (by omega)
                unfold wOf at *
                generalize restOf y 100 = r at *
                generalize costOf (1 + r) = cr at *
                have l1 : (l : Int) < j := by omega
                have l2 : (0 : Int) ≤ l := by omega
                clear hV hvb hv2 hy hz e1 hmi hmx
                generalize lowTo (vk (cw xs) (kf ks)) l = lo at *
                generalize highTo (vk (cw xs) (kf ks)) l = hi at *
                go_wp2_with (first
                  | (go_at_call 31; (with_reducible refine ca.out.mono ?_); rintro e w' ⟨rfl, rfl⟩)
                  | (go_at_call 30; (with_reducible refine kr.out.mono ?_); rintro e w' ⟨rfl, rfl⟩)
                  | (go_at_call 29; (with_reducible refine kc.out.mono ?_); rintro e w' ⟨rfl, rfl⟩))
                go_roundw
                case rel => exact ⟨l + 1, by omega, by go_num, by rw [HLO.out], by rw [HHI.out], trivial⟩
                case measure => simp [intOf]; omega
              · obtain rfl : l = j := by omega
                have hmd := HMD.out
                generalize lowTo (vk (cw xs) (kf ks)) l = lo at *
                generalize highTo (vk (cw xs) (kf ks)) l = hi at *
                obtain ⟨hd1, ⟨hd2, hd3⟩, hd4, hd5⟩ := hmd
                have hd6 : ¬ mo < hi - lo := by omega
                go_wp2_with fail
                go_roundw
                case rel => exact ⟨h + 1, ks, by omega, by go_num, HS2.out, HB4.out, HF4.out, HO8.out⟩
                case measure => simp [intOf]; omega
          · go_wp2_with fail
            go_ret
            exact ⟨rfl, Only.below HO6.out (Nat.le_refl _) (fun _ e => e.elim)⟩
end Go.Proofs.Ytkjcaainbomemaa.Fr
