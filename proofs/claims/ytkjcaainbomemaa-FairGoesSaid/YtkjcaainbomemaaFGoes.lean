/- The walk of FairGoes. -/
import Derived.Test.YtkjcaainbomemaaFShares
import Derived.Test.YtkjcaainbomemaaFFlat
import Derived.Laws.Bits128
namespace Go.Proofs.Ytkjcaainbomemaa.Fr
open Go.ChangeShapes Go.WideShapes Go.ChangeAt Go.RowKit Go.Maps
open Go.Proofs.Ytkjcaainbomemaa.Vt
set_option linter.unusedVariables false

theorem i64_and3 (n : Int) : bits .and .i64 n 3 = n % 4 := by
  have h3 : (BitVec.ofInt 64 3).toNat = 2 ^ 2 - 1 := by decide
  have key : (BitVec.ofInt 64 n &&& BitVec.ofInt 64 3).toNat = (n % ((2 ^ 64 : Nat) : Int)).toNat % 2 ^ 2 := by
    rw [BitVec.toNat_and, BitVec.toNat_ofInt, h3, Nat.and_two_pow_sub_one_eq_mod]
  show IntKind.i64.wrap ((BitVec.ofInt 64 n &&& BitVec.ofInt 64 3).toNat : Nat) = n % 4
  rw [key, IntKind.wrap_i64]
  omega

/-- What becomes of task j + 1. -/
def sel (a : Int) (j : Nat) : Int := (a / 2 ^ (2 * j)) % 4
theorem sel_bd (a : Int) (j : Nat) : 0 ≤ sel a j ∧ sel a j ≤ 3 := by unfold sel; omega
theorem sel_is (a : Int) (j : Nat) : bits .and .i64 (a / 2 ^ (2 * j)) 3 = sel a j := i64_and3 _

/-- Who is left of tasks 1 to m when it is done as far as j. -/
structure Left (a : Int) (m j : Nat) (c : Nat → Int) (b : Nat → Bool) (r : Nat) : Prop where
  few : ∀ t, b t = true → 1 ≤ t ∧ t ≤ m ∧ c t ≠ 0 ∧ (t ≤ j → 2 ≤ sel a (t - 1))
  later : ∀ t, j < t → t ≤ m → b t = true ∧ c t ≠ 0
  cb : ∀ t, 0 ≤ c t ∧ c t ≤ 1048576
  c0 : c 0 = 0
  nobody : r = 0 → ∀ t, t ≤ j → b t = false
  who : r ≠ 0 → ∃ t, t ≤ j ∧ b t = true
  r : r ≤ j

section
variable {a : Int} {m j r : Nat} {c : Nat → Int} {b : Nat → Bool}
theorem Left.start (xs : List Int) (a : Int) (m : Nat) : Left a m 0 (fun t => if 1 ≤ t ∧ t ≤ m then cw xs t else 0) (fun t => decide (1 ≤ t ∧ t ≤ m)) 0 := by
  refine ⟨fun t ht => ?_, fun t h1 h2 => ?_, fun t => ?_, by simp, fun _ t ht => ?_, fun h => absurd rfl h, Nat.le_refl _⟩
  · have h := of_decide_eq_true ht
    have := cw_bd xs t
    exact ⟨h.1, h.2, by simp only [if_pos h]; omega, fun h0 => by omega⟩
  · have h : 1 ≤ t ∧ t ≤ m := ⟨by omega, h2⟩
    have := cw_bd xs t
    exact ⟨decide_eq_true h, by simp only [if_pos h]; omega⟩
  · have := cw_bd xs t
    by_cases h : 1 ≤ t ∧ t ≤ m
    · simp only [if_pos h]; omega
    · simp only [if_neg h]; omega
  · exact decide_eq_false (fun h => by omega)

theorem Left.block (h : Left a m j c b r) (hj : j < m) : Left a m (j + 1) c (upd b (j + 1) false) r := by
  refine ⟨fun t ht => ?_, fun t h1 h2 => ?_, h.cb, h.c0, fun hr t ht => ?_, fun hr => ?_, by have := h.r; omega⟩
  · by_cases e : t = j + 1
    · subst e; rw [upd_same] at ht; cases ht
    · rw [upd_other _ _ e] at ht
      have := h.few t ht
      exact ⟨this.1, this.2.1, this.2.2.1, fun h1 => this.2.2.2 (by omega)⟩
  · rw [upd_other _ _ (by omega)]; exact h.later t (by omega) h2
  · by_cases e : t = j + 1
    · subst e; rw [upd_same]
    · rw [upd_other _ _ e]; exact h.nobody hr t (by omega)
  · obtain ⟨t, h1, h2⟩ := h.who hr
    exact ⟨t, by omega, by rw [upd_other _ _ (by omega)]; exact h2⟩

theorem Left.leave (h : Left a m j c b r) (hj : j < m) : Left a m (j + 1) (upd c (j + 1) 0) (upd b (j + 1) false) r := by
  have k := h.block hj
  refine ⟨fun t ht => ?_, fun t h1 h2 => ?_, fun t => ?_, by rw [upd_other _ _ (by omega)]; exact h.c0, k.nobody, k.who, k.r⟩
  · by_cases e : t = j + 1
    · subst e; rw [upd_same] at ht; cases ht
    · rw [upd_other _ _ e]; exact k.few t ht
  · rw [upd_other c _ (by omega)]; exact k.later t h1 h2
  · unfold upd; split
    · omega
    · exact h.cb t

theorem Left.stay (h : Left a m j c b r) (hj : j < m) (hs : 2 ≤ sel a j) : Left a m (j + 1) c b (r + 1) := by
  refine ⟨fun t ht => ?_, fun t h1 h2 => h.later t (by omega) h2, h.cb, h.c0, fun hr => by omega, fun _ => ⟨j + 1, Nat.le_refl _, (h.later (j + 1) (by omega) hj).1⟩, by have := h.r; omega⟩
  have := h.few t ht
  refine ⟨this.1, this.2.1, this.2.2.1, fun h1 => ?_⟩
  by_cases e : t = j + 1
  · subst e; exact hs
  · exact this.2.2.2 (by omega)

theorem Left.fit {v : Nat → Int} {B : Int} (h : Left a m j c b r) (hm : m ≤ 16) (hv : ∀ t, 0 ≤ v t ∧ v t ≤ B) : Fit (flat c v b) noG B :=
  flat_fit (fun t ht => by have := h.few t ht; omega) h.cb h.c0 (fun t ht => (h.few t ht).2.2.1) hv (by have := hv 0; omega)
end

theorem upd_zero (n : Nat) : upd (fun _ => (0 : Int)) n 0 = fun _ => 0 := by funext t; unfold upd; split <;> rfl

section
variable {w : World} {p : Nat} {c v : Nat → Int} {b : Nat → Bool}
theorem block_next (h : FairAt w p (flat c v b) noG) (j : Nat) (h2 : j + 1 ≤ 16) (hc : c (j + 1) ≠ 0) (hr : b (j + 1) = true) :
    Calls Try.prog 21 #[.pointer (some ⟨p, 0, none⟩), .int .i64 ((j : Int) + 1)] w (FKeep w p (.int .i64 0) (flat c v (upd b (j + 1) false)) noG) := block_flat h (j + 1) (by omega) h2 hc hr
theorem block_again (h : FairAt w p (flat c v b) noG) (j : Nat) (h2 : j + 1 ≤ 16) (hc : c (j + 1) ≠ 0) (hr : b (j + 1) = false) :
    Calls Try.prog 21 #[.pointer (some ⟨p, 0, none⟩), .int .i64 ((j : Int) + 1)] w fun e w' => e = .returned (.int .i64 8) ∧ w = w' := block_state h (j + 1) (by omega) h2 hc hr
theorem leave_next (h : FairAt w p (flat c (fun _ => 0) b) noG) (j : Nat) (h2 : j + 1 ≤ 16) (hc : c (j + 1) ≠ 0) :
    Calls Try.prog 18 #[.pointer (some ⟨p, 0, none⟩), .int .i64 ((j : Int) + 1)] w (FKeep w p (.int .i64 0) (flat (upd c (j + 1) 0) (fun _ => 0) (upd b (j + 1) false)) noG) := by
  have := leave_flat h (j + 1) (by omega) h2 hc
  rw [upd_zero] at this
  exact this
theorem leave_again (h : FairAt w p (flat c v b) noG) (j : Nat) (hc : c (j + 1) = 0) :
    Calls Try.prog 18 #[.pointer (some ⟨p, 0, none⟩), .int .i64 ((j : Int) + 1)] w fun e w' => e = .returned (.int .i64 4) ∧ w = w' :=
  leave_no h _ (fun q => q.2.2 (by rw [show ((j : Int) + 1).toNat = j + 1 by omega]; exact hc))
end

set_option maxRecDepth 100000 in
theorem goes_any (a : Option Addr) (len cap : Nat) (zs : List Int) (a1 a2 : Int) (w : World) (hr : IsRow .i64 w a len cap zs) :
    Calls Try.prog 9 #[.slice a len cap, .int .i64 a1, .int .i64 a2] w (fun e w' => e = .returned (.bool true) ∧ Below w.heap.size w w') := by
  obtain ⟨xs, hx1, hx2, hc1, hc2⟩ := nums_cut hr 16
  obtain ⟨m, hm⟩ : ∃ m, min len 16 = m := ⟨_, rfl⟩
  rw [hm] at hx1
  rw [hx1] at hx2
  have hm1 : m ≤ 16 := by omega
  have hm2 : m ≤ len := by omega
  have q1 := run_min2 (len : Int) 16 m (by omega)
  obtain ⟨n, hn⟩ : ∃ n : Nat, restOf a2 100 = n := ⟨(restOf a2 100).toNat, by have := restOf_lo a2 100 (by omega); omega⟩
  have hn1 : n < 100 := by have := restOf_hi a2 100 (by omega); omega
  have c2 := fun w => rest_any a2 100 (by omega) (by omega) w
  rw [hn] at c2
  have C2 := Lib.hid c2
  have HX := Lib.hid hx2
  have HL := Lib.hid hx1
  clear hr hx1 hx2 hm hn c2
  go_enter Try.func9, Try.ntmps9
  go_wp2_with (first
    | (go_at_call 27; (with_reducible refine (begun_any _).mono ?_); rintro e w1 ⟨rfl, hO⟩; have HO := Lib.hid hO; have CF := Lib.hid (fairs_any a m cap xs _ (HX.out.later hO) HL.out hm1); clear hO)
    | (go_at_call 28; (with_reducible refine CF.out.mono ?_); rintro e w4 ⟨p, rfl, hp, hF, hO⟩; have HF := Lib.hid hF; have HO4 := Lib.hid (only_trans HO.out hO); have HP := Lib.hid (Nat.le_trans HO.out.size hp); clear hF hO hp))
  clear CF q1
  have HF0 : Hid (FairAt w4 p (flat (fun t => if 1 ≤ t ∧ t ≤ m then cw xs t else 0) (fun _ => 0) (fun t => decide (1 ≤ t ∧ t ≤ m))) noG) := by
    have := HF.out
    unfold bareT at this
    rw [mkT_flat] at this
    simp only [ite_self] at this
    exact Lib.hid this
  clear HF
  go_loopw [9, 29] (fun rd i wr => ∃ (j r : Nat) (c : Nat → Int) (b : Nat → Bool), j ≤ m ∧ i = .int .i64 j ∧ rd = .int .i64 r ∧ Left a1 m j c b r ∧ FairAt wr p (flat c (fun _ => 0) b) noG ∧ Only (fun _ => False) w wr) (fun _ i _ => m - (intOf i).toNat)
  case atStart => exact ⟨0, 0, _, _, by omega, rfl, rfl, Left.start xs a1 m, HF0.out, HO4.out⟩
  case round =>
    obtain ⟨j, r, c, b, hj, rfl, rfl, hLf, hF, hO⟩ := hrel
    have HLF := Lib.hid hLf
    have HF2 := Lib.hid hF
    have HO5 := Lib.hid hO
    clear hF hO hLf
    by_cases hlt : j < m
    · have g1 : (j : Int) < m := by omega
      have g2 : (0 : Int) ≤ j := by omega
      have g3 : (m : Int) ≤ 16 := by omega
      have g4 : (r : Int) ≤ 16 := by have := HLF.out.r; omega
      have hla := HLF.out.later (j + 1) (by omega) hlt
      have hsb := sel_bd a1 j
      have qs := sel_is a1 j
      have HSB := Lib.hid hsb
      obtain ⟨S, hS⟩ : ∃ S, sel a1 j = S := ⟨_, rfl⟩
      rw [hS] at qs hsb
      by_cases s0 : S = 0
      · rw [s0] at qs
        have cb := Lib.hid (block_next HF2.out j (by omega) hla.2 hla.1)
        have HL2 := Lib.hid (HLF.out.block hlt)
        have hc := Lib.hid hla.2
        clear hS s0 hsb hla
        go_wp2_with (first
          | (go_at_call 21; (with_reducible refine cb2.out.mono ?_); rintro e w' ⟨rfl, rfl⟩)
          | (go_at_call 21; (with_reducible refine cb.out.mono ?_); rintro e w6 ⟨rfl, hF3, hO6⟩; have HF3 := Lib.hid hF3; have HO6 := Lib.hid (only_new HO5.out hO6 HP.out); have cb2 := Lib.hid (block_again HF3.out j (by omega) hc.out (by rw [upd_same])); clear hF3 hO6))
        go_roundw
        case rel => exact ⟨j + 1, r, _, _, by omega, by go_num, rfl, HL2.out, HF3.out, HO6.out⟩
        case measure => simp [intOf]; omega
      · by_cases s1 : S = 1
        · rw [s1] at qs
          have cb := Lib.hid (leave_next HF2.out j (by omega) hla.2)
          have HL2 := Lib.hid (HLF.out.leave hlt)
          clear hS s0 s1 hsb hla
          go_wp2_with (first
            | (go_at_call 18; (with_reducible refine cb2.out.mono ?_); rintro e w' ⟨rfl, rfl⟩)
            | (go_at_call 18; (with_reducible refine cb.out.mono ?_); rintro e w6 ⟨rfl, hF3, hO6⟩; have HF3 := Lib.hid hF3; have HO6 := Lib.hid (only_new HO5.out hO6 HP.out); have cb2 := Lib.hid (leave_again HF3.out j (by rw [upd_same])); clear hF3 hO6))
          go_roundw
          case rel => exact ⟨j + 1, r, _, _, by omega, by go_num, rfl, HL2.out, HF3.out, HO6.out⟩
          case measure => simp [intOf]; omega
        · have HL2 := Lib.hid (HLF.out.stay hlt (by rw [hS]; omega))
          have s2 : (S == 0) = false := by simp [s0]
          have s3 : (S == 1) = false := by simp [s1]
          clear hS s0 s1 hsb hla
          go_wp2_with fail
          go_roundw
          case rel => exact ⟨j + 1, r + 1, _, _, by omega, by go_num, by go_num, HL2.out, HF2.out, HO5.out⟩
          case measure => simp [intOf]; omega
    · obtain rfl : j = m := by omega
      go_wp2_with (first
        | (go_at_call 30; (with_reducible refine (C2.out _).mono ?_); rintro e w5 ⟨rfl, rfl⟩))
      go_loopw [70] (fun i wr => ∃ (h : Nat) (v : Nat → Int), h ≤ n ∧ i = .int .i64 h ∧ (∀ t, 0 ≤ v t ∧ v t ≤ 1048576 * h) ∧ FairAt wr p (flat c v b) noG ∧ Only (fun _ => False) w wr) (fun i _ => n - (intOf i).toNat)
      case atStart => exact ⟨0, _, by omega, rfl, fun t => by simp, HF2.out, HO5.out⟩
      case round =>
        obtain ⟨h, v, hh, rfl, hv, hF, hO⟩ := hrel
        have HV := Lib.hid hv
        have HF3 := Lib.hid hF
        have HO6 := Lib.hid hO
        clear hv hF hO
        by_cases hlt2 : h < n
        · have h1 : (h : Int) < n := by omega
          by_cases hr0 : r = 0
          · have e0 : ((r : Int) == 0) = true := by simp [hr0]
            have HN : Hid ((next (flat c v b) noG).1 = 0) := Lib.hid (by
              rw [flat_next0 (fun t => by
                cases hb : b t with
                | false => rfl
                | true => have := HLF.out.few t hb; rw [HLF.out.nobody hr0 t this.2.1] at hb; cases hb)])
            clear hr0
            go_wp2_with (first
              | (go_at_call 23; (with_reducible refine (tick_none HF3.out HN.out).mono ?_); rintro e w5 ⟨rfl, hO⟩; have HO7 := Lib.hid (only_trans HO6.out hO); clear hO))
            go_ret
            exact ⟨rfl, Only.below HO7.out (Nat.le_refl _) (fun _ e => e.elim)⟩
          · have e0 : ((r : Int) == 0) = false := by simp [hr0]
            obtain ⟨t0, ht0, hb0⟩ := HLF.out.who hr0
            have hfew : Few b := fun t ht => by have := HLF.out.few t ht; omega
            obtain ⟨f1, f2, f3, -⟩ := flat_first (c := c) (v := v) hfew hb0
            obtain ⟨q, hq⟩ : ∃ q, first (flat c v b) 0 = q + 1 := ⟨first (flat c v b) 0 - 1, by omega⟩
            rw [hq] at f1 f2 f3
            have ct := Lib.hid (tick_flat HF3.out (HLF.out.fit hm1 HV.out) (by omega) hfew hb0 hq (x := (q : Int) + 1) rfl)
            have hqf := HLF.out.few _ f1
            have hs2 := hqf.2.2.2 hqf.2.1
            rw [Nat.add_sub_cancel] at hs2
            have qs := sel_is a1 q
            obtain ⟨S, hS⟩ : ∃ S, sel a1 q = S := ⟨_, rfl⟩
            rw [hS] at qs hs2
            have g1 : (q : Int) < j := by omega
            have g2 : (0 : Int) ≤ q := by omega
            have g3 : (j : Int) ≤ 16 := by omega
            have HCQ := Lib.hid (HLF.out.cb (q + 1))
            clear hr0 hb0 hq f1 hqf hS hfew
            go_wp2_with (first
              | (go_at_call 23; (with_reducible refine ct.out.mono ?_); rintro e w6 ⟨rfl, hF4, hO7⟩; have HF4 := Lib.hid hF4; have HO7 := Lib.hid (only_new HO6.out hO7 HP.out); clear hF4 hO7))
            go_roundw
            case rel =>
              refine ⟨h + 1, _, by omega, by go_num, fun t => ?_, HF4.out, HO7.out⟩
              have := HV.out t
              have := HV.out (q + 1)
              have := HCQ.out
              unfold upd; split <;> omega
            case measure => simp [intOf]; omega
        · go_wp2_with fail
          go_ret
          exact ⟨rfl, Only.below HO6.out (Nat.le_refl _) (fun _ e => e.elim)⟩
end Go.Proofs.Ytkjcaainbomemaa.Fr
