/- The law PrioBits. -/
import Derived.Test.YtcnmpgkapedniaaPLaw
namespace Go.Proofs.Ytcnmpgkapedniaa.Pr
open Go.ChangeShapes Go.WideShapes Go.ChangeAt Go.RowKit Go.Maps
set_option linter.unusedVariables false

theorem run_min2 (x y m : Int) (h : min x y = m) (w : World) (ts : Array TypeId) (t : TypeId) : (Builtin.min_ ts t #[.int .i64 x, .int .i64 y]).run Try.prog w = .ok (.int .i64 m) w := by
  subst h
  have e : (if y < x then y else x) = min x y := by rw [Int.min_def]; split <;> split <;> omega
  simp [Builtin.min_, Builtin.min2, e]

/-- One remainder, as a number. -/
theorem rest_nat (k : Int) (p : Nat) (h : 0 < p) (h2 : p ≤ 1000000) (w : World) :
    Calls Try.prog 22 #[.int .i64 k, .int .i64 p] w fun e w' => ∃ c : Nat, c < p ∧ e = .returned (.int .i64 c) ∧ w = w' :=
  (rest_any k p (by omega) (by omega) w).mono fun e w' ⟨he, hw⟩ => by
    have h1 := restOf_lo k p (by omega)
    have h2 := restOf_hi k p (by omega)
    exact ⟨(restOf k p).toNat, by omega, by rw [he, show ((restOf k p).toNat : Int) = restOf k p by omega], hw⟩

theorem rest_2 (k : Int) (w : World) : Calls Try.prog 22 #[.int .i64 k, .int .i64 2] w fun e w' => ∃ c : Nat, c < 2 ∧ e = .returned (.int .i64 c) ∧ w = w' := rest_nat k 2 (by omega) (by omega) w
theorem rest_4 (k : Int) (w : World) : Calls Try.prog 22 #[.int .i64 k, .int .i64 4] w fun e w' => ∃ c : Nat, c < 4 ∧ e = .returned (.int .i64 c) ∧ w = w' := rest_nat k 4 (by omega) (by omega) w
theorem rest_8 (k : Int) (w : World) : Calls Try.prog 22 #[.int .i64 k, .int .i64 8] w fun e w' => ∃ c : Nat, c < 8 ∧ e = .returned (.int .i64 c) ∧ w = w' := rest_nat k 8 (by omega) (by omega) w
theorem rest_16 (k : Int) (w : World) : Calls Try.prog 22 #[.int .i64 k, .int .i64 16] w fun e w' => ∃ c : Nat, c < 16 ∧ e = .returned (.int .i64 c) ∧ w = w' := rest_nat k 16 (by omega) (by omega) w

section
variable {w : World} {p o T : Nat} {V : Nat → Value} {Q : Qs}

/-- Put of a task and a priority that there are, whatever it answers. -/
theorem put_some (h : QAt w p o T V Q) {n : Nat} (hl : Len Q n) (hn : n ≤ 1000000) (t : Int) (v : Nat) (ht : 1 ≤ t ∧ t ≤ 16) (hv : v < 8) :
    Calls Try.prog 8 #[.pointer (some ⟨p, o, none⟩), .int .i64 t, .int .i64 v] w fun e w' => ∃ x V' Q', e = .returned (.int .i64 x) ∧ QAt w' p o T V' Q' ∧ Step p o V V' w w' ∧ Len Q' (n + 1) := by
  cases hs : seek Q t with
  | some i =>
    exact (put_there h (fun i hi => by have := hl i hi; omega) t v ht (decide_eq_true (by omega)) hs).mono fun e w' ⟨he, V', h1, h2⟩ => ⟨_, V', Q, he, h1, h2, hl.mono (by omega)⟩
  | none =>
    exact (put_new h (fun i hi => by have := hl i hi; omega) t v ht hv hs).mono fun e w' ⟨he, V', h1, h2⟩ => ⟨_, V', _, he, h1, h2, (hl.mono (by omega)).upd (by have := hl v hv; simp; omega)⟩

/-- Out, whatever it answers. -/
theorem out_some (h : QAt w p o T V Q) {n : Nat} (hl : Len Q n) (hn : n ≤ 1000000) (t : Int) :
    Calls Try.prog 13 #[.pointer (some ⟨p, o, none⟩), .int .i64 t] w fun e w' => ∃ x y V' Q', e = .returned (.tuple #[.int .i64 x, .int .i64 y]) ∧ QAt w' p o T V' Q' ∧ Step p o V V' w w' ∧ Len Q' (n + 1) := by
  cases hs : seek Q t with
  | some i =>
    have hi := (seek_is hs).1
    exact (out_yes h (fun i hi => by have := hl i hi; omega) t hs).mono fun e w' ⟨he, V', h1, h2⟩ => ⟨_, _, V', _, he, h1, h2, (hl.mono (by omega)).upd (by have := hl i hi; have := List.length_erase_le (a := t) (l := Q i); omega)⟩
  | none =>
    exact (out_no h (fun i hi => by have := hl i hi; omega) t hs).mono fun e w' ⟨he, V', h1, h2⟩ => ⟨_, _, V', Q, he, h1, h2, hl.mono (by omega)⟩
end

theorem bitsTo_succ (f : Nat → Bool) (k : Nat) : bitsTo f (k + 1) = bitsTo f k + if f k = true then 2 ^ k else 0 := rfl
theorem bitsTo_top {f : Nat → Bool} {n k : Nat} (hn : n < k) (h : f n = true) (he : ∀ j, n < j → j < k → f j = false) : bitsTo f k = bitsTo f n + 2 ^ n := by
  induction k with
  | zero => omega
  | succ k ih =>
    rw [bitsTo_succ]
    by_cases e : n = k
    · subst e; rw [if_pos h]
    · rw [ih (by omega) (fun j h1 h2 => he j h1 (by omega)), he k (by omega) (by omega)]; simp
theorem bitsTo_none {f : Nat → Bool} {k : Nat} (he : ∀ j, j < k → f j = false) : bitsTo f k = 0 := by
  induction k with
  | zero => rfl
  | succ k ih => rw [bitsTo_succ]; rw [ih (fun j h => he j (by omega)), he k (by omega)]; simp
theorem bitsTo_bit (f : Nat → Bool) {k i : Nat} (hi : i < k) : bitsTo f k / 2 ^ i % 2 = if f i = true then 1 else 0 := by
  induction k with
  | zero => omega
  | succ k ih =>
    rw [bitsTo_succ]
    by_cases e : i = k
    · subst e
      have := bitsTo_lt f i
      by_cases h : f i = true
      · rw [if_pos h, if_pos h, Nat.add_div_right _ (Nat.two_pow_pos i), Nat.div_eq_of_lt this]
      · rw [if_neg h, if_neg h, Nat.add_zero, Nat.div_eq_of_lt this]
    · rw [← ih (by omega)]
      by_cases h : f k = true
      · rw [if_pos h]
        obtain ⟨d, rfl⟩ : ∃ d, k = i + 1 + d := ⟨k - (i + 1), by omega⟩
        rw [show 2 ^ (i + 1 + d) = 2 ^ i * (2 * 2 ^ d) by rw [Nat.pow_add, Nat.pow_succ]; rw [Nat.mul_assoc]]
        rw [Nat.add_mul_div_left _ _ (Nat.two_pow_pos i)]
        omega
      · rw [if_neg h, Nat.add_zero]

theorem bits_lt (Q : Qs) : bits Q < 256 := bitsTo_lt _ 8
theorem bits_none {Q : Qs} (h : top Q = none) : bits Q = 0 := bitsTo_none (fun j hj => by simp [some?, topTo_no h j hj])
theorem bits_top {Q : Qs} {n : Nat} (h : top Q = some n) : n < 8 ∧ 0 < bits Q ∧ bits Q / 2 ^ n = 1 := by
  obtain ⟨h1, h2, h3⟩ := topTo_is h
  have e : bits Q = bitsTo (some? Q) n + 2 ^ n := bitsTo_top h1 (by simp [some?, List.length_pos_iff, h2]) (fun j hj hk => by simp [some?, h3 j hj hk])
  have := bitsTo_lt (some? Q) n
  have := Nat.two_pow_pos n
  refine ⟨h1, by omega, ?_⟩
  rw [e, Nat.add_div_right _ (Nat.two_pow_pos n), Nat.div_eq_of_lt (by assumption)]

theorem and_all : ∀ b, b < 256 → ∀ j, j < 8 → (Go.bits BinOp.and IntKind.i64 (((b : Nat) : Int) / 2 ^ j) 1 == 1) = decide (b / 2 ^ j % 2 = 1) := by decide +kernel
theorem and_bit {b j : Nat} (hb : b < 256) (hj : j < 8) {c : Bool} (h : b / 2 ^ j % 2 = if c = true then 1 else 0) : (Go.bits BinOp.and IntKind.i64 ((b : Int) / 2 ^ j) 1 == 1) = c := by
  rw [and_all b hb j hj, h]
  cases c <;> rfl

/-- The rest of a round: each queue's bit. -/
theorem same_bit {Q : Qs} {b j : Nat} (hb : b < 256) (hj : j < 8) (h : b / 2 ^ j % 2 = if some? Q j = true then 1 else 0) : (!(decide (0 < (Q j).length) == (Go.bits BinOp.and IntKind.i64 ((b : Int) / 2 ^ j) 1 == 1))) = false := by
  rw [and_bit hb hj h]
  unfold some?
  simp

set_option maxRecDepth 100000 in
set_option maxHeartbeats 1000000 in
theorem bits_walk (a : Option Addr) (len cap : Nat) (zs : List Int) (w : World) (h : IsRow .i64 w a len cap zs) :
    Calls Try.prog 6 #[.slice a len cap] w fun e w' => e = .returned (.bool true) ∧ Below w.heap.size w w' := by
  obtain ⟨xs, hx1, hx2, hc1, hc2⟩ := nums_cut h 100
  obtain ⟨m, hm⟩ : ∃ m, min len 100 = m := ⟨_, rfl⟩
  rw [hm] at hx1
  rw [hx1] at hx2
  have hm1 : m ≤ 100 := by omega
  have hm2 : m ≤ len := by omega
  have qm := run_min2 (len : Int) 100 m (by omega)
  have HX := Lib.hid hx2
  have HL := Lib.hid hx1
  have R2 := Lib.hid (fun k w => rest_2 k w)
  have R16 := Lib.hid (fun k w => rest_16 k w)
  have R8 := Lib.hid (fun k w => rest_8 k w)
  clear h hx1 hx2 hm
  go_enter Try.func6, Try.ntmps6
  go_wp2_with (first
    | (go_at_call 21; (with_reducible refine (begun_any _).mono ?_); rintro e w1 ⟨rfl, hO⟩; have HO := Lib.hid hO; clear hO)
    | (go_at_call 7; (with_reducible refine (new_mine HO.out).mono ?_); rintro e w4 ⟨p, rfl, -, hM⟩; have HM := Lib.hid hM; clear hM))
  clear qm
  go_loopw [5, 6, 7, 8, 9, 10, 11, 12, 13, 23] (fun _ _ _ _ _ _ _ _ _ i wr => ∃ (k : Nat) (V : Nat → Value) (Q : Qs), k ≤ m ∧ i = .int .i64 k ∧ Mine w wr p 0 52 V Q ∧ Len Q k) (fun _ _ _ _ _ _ _ _ _ i _ => m - (intOf i).toNat)
  case atStart => exact ⟨0, _, _, by omega, rfl, HM.out, len_no⟩
  case round =>
    obtain ⟨k, V, Q, hk, rfl, hM, hL⟩ := hrel
    have HM1 := Lib.hid hM
    have HL1 := Lib.hid hL
    clear hM hL
    by_cases hlt : k < m
    · obtain ⟨b, off, rfl, hb, hc⟩ := (HX.out.later HM1.out.only).at (j := k) (by rw [HL.out]; exact hlt)
      obtain ⟨x, hx⟩ : ∃ x, xs.getD k 0 = x := ⟨_, rfl⟩
      rw [hx] at hc
      have g1 : (k : Int) < m := by omega
      have g2 : (0 : Int) ≤ k := by omega
      have g3 : (m : Int) ≤ 100 := by omega
      clear hx
      go_wp2_with (first
        | (go_at_call 22; (with_reducible refine (R16.out _ _).mono ?_); rintro e w' ⟨t, ht, rfl, rfl⟩; have HT := Lib.hid ht)
        | (go_at_call 22; (with_reducible refine (R2.out _ _).mono ?_); rintro e w' ⟨c, hc, rfl, rfl⟩)
        | (go_at_call 22; (with_reducible refine (R8.out _ _).mono ?_); rintro e w' ⟨v, hv, rfl, rfl⟩; have HV := Lib.hid hv)
        | (go_at_call 8; (with_reducible refine (put_some HM1.out.at_ HL1.out (by omega) _ v (by omega) HV.out).mono ?_); rintro e w2 ⟨z1, V2, Q2, rfl, hq, hs, hl⟩; have HM2 := Lib.hid (HM1.out.step hq hs); have HL2 := Lib.hid hl; have HLL := Lib.hid (show ∀ i, i < 8 → (Q2 i).length ≤ 17000000000000 from fun i hi => by have := hl i hi; omega); clear hq hs hl)
        | (go_at_call 13; (with_reducible refine (out_some HM1.out.at_ HL1.out (by omega) _).mono ?_); rintro e w2 ⟨z1, z2, V2, Q2, rfl, hq, hs, hl⟩; have HM2 := Lib.hid (HM1.out.step hq hs); have HL2 := Lib.hid hl; have HLL := Lib.hid (show ∀ i, i < 8 → (Q2 i).length ≤ 17000000000000 from fun i hi => by have := hl i hi; omega); clear hq hs hl)
        | (go_at_call 9; (with_reducible refine (bits_any HM2.out.at_ HLL.out).mono ?_); rintro e w3 ⟨rfl, hO⟩; have HM3 := Lib.hid (HM2.out.quiet hO); clear hO))
      all_goals (
        have HF := Lib.hid (first_any HM3.out.at_ HLL.out)
        have HB := Lib.hid (fun i (hi : i < 8) => bitsTo_bit (some? Q2) hi)
        have hb8 := bits_lt Q2
        cases htop : top Q2 with
        | none =>
          have HF1 := Lib.hid (first_not HF.out htop)
          have b0 := bits_none htop
          have hbit : Hid (∀ i, i < 8 → bits Q2 / 2 ^ i % 2 = if some? Q2 i = true then 1 else 0) := HB
          clear HF HB htop
          generalize bits Q2 = bb at *
          subst b0
          go_wp2_with (go_at_call 18; (with_reducible refine HF1.out.mono ?_); rintro e w4 ⟨rfl, hO⟩; have HM4 := Lib.hid (HM3.out.quiet hO); clear hO)
          clear HM1 HM2 HL1 HF1 HX
          go_loopw [11, 12, 13, 74] (fun _ _ _ i wr => ∃ j : Nat, j ≤ 8 ∧ i = .int .i64 j ∧ Mine w wr p 0 52 V2 Q2) (fun _ _ _ i _ => 8 - (intOf i).toNat)
          case atStart => exact ⟨0, by omega, rfl, HM4.out⟩
          case round =>
            obtain ⟨j, hj, rfl, hM⟩ := hrel
            have HM5 := Lib.hid hM
            clear hM
            by_cases hj8 : j < 8
            · have g5 : (j : Int) < 8 := by omega
              have HLs := Lib.hid (list_yes HM5.out.at_ j hj8 (HLL.out j hj8))
              have hq := same_bit hb8 hj8 (hbit.out j hj8)
              rw [show ((0 : Nat) : Int) / 2 ^ j = 0 from by simp] at hq
              have HLj := HLL.out j hj8
              go_wp2_with (go_at_call 19; (with_reducible refine HLs.out.mono ?_); rintro e w5 ⟨lv, rfl, hr, hO⟩; have HM6 := Lib.hid (HM5.out.quiet hO); obtain ⟨la, lc, rfl, -, -⟩ := hr.shape; clear hO hr)
              go_roundw
              case rel => exact ⟨j + 1, by omega, by go_num, HM6.out⟩
              case measure => simp [intOf]; omega
            · obtain rfl : j = 8 := by omega
              go_wp2_with fail
              go_roundw
              case rel => exact ⟨k + 1, V2, Q2, by omega, by go_num, HM5.out, HL2.out⟩
              case measure => simp [intOf]; omega
        | some n =>
          have HF1 := Lib.hid (first_is HF.out htop)
          obtain ⟨hn8, b0, b1⟩ := bits_top htop
          have hbit : Hid (∀ i, i < 8 → bits Q2 / 2 ^ i % 2 = if some? Q2 i = true then 1 else 0) := HB
          clear HF HB htop
          generalize bits Q2 = bb at *
          have c0 : ((bb : Int) == 0) = false := by rw [beq_eq_false_iff_ne]; omega
          have c1 : ((bb : Int) / 2 ^ n != 1) = false := by
            have : (bb : Int) / 2 ^ n = 1 := by have := congrArg (Nat.cast : Nat → Int) b1; simpa using this
            rw [this]; rfl
          have g4 : (n : Int) < 8 := by omega
          go_wp2_with (go_at_call 18; (with_reducible refine HF1.out.mono ?_); rintro e w4 ⟨rfl, hO⟩; have HM4 := Lib.hid (HM3.out.quiet hO); clear hO)
          clear c0 c1 HM1 HM2 HL1 HF1 HX
          go_loopw [11, 12, 13, 74] (fun _ _ _ i wr => ∃ j : Nat, j ≤ 8 ∧ i = .int .i64 j ∧ Mine w wr p 0 52 V2 Q2) (fun _ _ _ i _ => 8 - (intOf i).toNat)
          case atStart => exact ⟨0, by omega, rfl, HM4.out⟩
          case round =>
            obtain ⟨j, hj, rfl, hM⟩ := hrel
            have HM5 := Lib.hid hM
            clear hM
            by_cases hj8 : j < 8
            · have g5 : (j : Int) < 8 := by omega
              have HLs := Lib.hid (list_yes HM5.out.at_ j hj8 (HLL.out j hj8))
              have hq := same_bit hb8 hj8 (hbit.out j hj8)
              have HLj := HLL.out j hj8
              go_wp2_with (go_at_call 19; (with_reducible refine HLs.out.mono ?_); rintro e w5 ⟨lv, rfl, hr, hO⟩; have HM6 := Lib.hid (HM5.out.quiet hO); obtain ⟨la, lc, rfl, -, -⟩ := hr.shape; clear hO hr)
              go_roundw
              case rel => exact ⟨j + 1, by omega, by go_num, HM6.out⟩
              case measure => simp [intOf]; omega
            · obtain rfl : j = 8 := by omega
              go_wp2_with fail
              go_roundw
              case rel => exact ⟨k + 1, V2, Q2, by omega, by go_num, HM5.out, HL2.out⟩
              case measure => simp [intOf]; omega)
    · obtain rfl : k = m := by omega
      go_wp2_with fail
      go_ret
      exact ⟨rfl, HM1.out.only.below (Nat.le_refl _) (fun _ h => h.elim)⟩
end Go.Proofs.Ytcnmpgkapedniaa.Pr
