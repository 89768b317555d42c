/- The contract of package vtime's Lag. -/
import Derived.Test.YtbdkibigcjpkbaaVt
import Derived.Test.YtbdkibigcjpkbaaInts
namespace Go.Proofs.Ytbdkibigcjpkbaa.Vt
open Go.ChangeShapes Go.WideShapes Go.ChangeAt Go.RowKit
set_option linter.unusedVariables false

/-- May element k be? -/
def okAt (ws ts : List Int) (k : Nat) : Bool := isW (ws.getD k 0) && isT (ts.getD k 0)
/-- The sum of the first k. -/
def sumTo (xs : List Int) (k : Nat) : Int := (xs.take k).sum

theorem sumTo_zero (xs : List Int) : sumTo xs 0 = 0 := rfl
theorem sumTo_succ (xs : List Int) (k : Nat) (h : k < xs.length) : sumTo xs (k + 1) = sumTo xs k + xs.getD k 0 := by
  unfold sumTo
  rw [List.take_succ_eq_append_getElem h, List.sum_append]
  simp [List.getD, h]

/-- Are the first k as they may be? -/
def okTo (ws ts : List Int) (k : Nat) : Prop := ∀ j, j < k → okAt ws ts j = true

theorem okTo_succ {ws ts : List Int} {k : Nat} (h : okTo ws ts k) (hk : okAt ws ts k = true) : okTo ws ts (k + 1) := by
  intro j hj
  by_cases e : j = k
  · subst e; exact hk
  · exact h j (by omega)

theorem okAt_bd {ws ts : List Int} {k : Nat} (h : okAt ws ts k = true) : (1 ≤ ws.getD k 0 ∧ ws.getD k 0 ≤ 100) ∧ 0 ≤ ts.getD k 0 ∧ ts.getD k 0 ≤ 1073741824 := by
  unfold okAt at h
  rw [Bool.and_eq_true] at h
  exact ⟨isW_yes h.1, isT_yes h.2⟩

theorem sumTo_bd {ws ts : List Int} {k : Nat} (h : okTo ws ts k) (h1 : k ≤ ws.length) (h2 : k ≤ ts.length) :
    ((k : Int) ≤ sumTo ws k ∧ sumTo ws k ≤ 100 * k) ∧ 0 ≤ sumTo ts k ∧ sumTo ts k ≤ 1073741824 * k := by
  induction k with
  | zero => simp [sumTo]
  | succ k ih =>
    have h3 := ih (fun j hj => h j (by omega)) (by omega) (by omega)
    have h4 := okAt_bd (h k (by omega))
    rw [sumTo_succ ws k (by omega), sumTo_succ ts k (by omega)]
    omega

/-- The lag of one. -/
def lagOf (ws ts : List Int) (i : Nat) : Int := sumTo ts ws.length * ws.getD i 0 - ts.getD i 0 * sumTo ws ws.length

/-- What Lag answers for lists of one length that is not too large. -/
def lagAns (ws ts : List Int) (i : Int) : Int × Int :=
  if ¬ (∀ j, j < ws.length → okAt ws ts j = true) then (0, 1) else if i < 0 ∨ (ws.length : Int) ≤ i then (0, 4) else (lagOf ws ts i.toNat, 0)

/-- A number and an error were answered, and memory is as it was. -/
def PairOnly (x : Int × Int) (w : World) (e : Ending) (w' : World) : Prop := e = .returned (.tuple #[.int .i64 x.1, .int .i64 x.2]) ∧ Only (fun _ => False) w w'

theorem pair_is {x y : Int × Int} {w w' : World} (h : x = y) (hO : Only (fun _ => False) w w') : PairOnly x w (.returned (.tuple #[.int .i64 y.1, .int .i64 y.2])) w' := by subst h; exact ⟨rfl, hO⟩

theorem lag_large (v v' : Value) (ws ts : List Int) (i : Int) (w : World) (h : Nums w v ws) (h' : Nums w v' ts) (hl : ws.length ≤ 9223372036854775807) (hl' : ts.length ≤ 9223372036854775807) (hL : 16 < ws.length ∨ 16 < ts.length) :
    Calls Try.prog 8 #[v, v', .int .i64 i] w (PairOnly (0, 2) w) := by
  obtain ⟨a, c, rfl, hr⟩ := h
  obtain ⟨a', c', rfl, hr'⟩ := h'
  clear hr hr'
  by_cases h1 : 16 < ws.length
  · have g1 : (16 : Int) < ws.length := by omega
    go_enter Try.func8, Try.ntmps8
    go_wp2_with fail
    go_ret2
    exact pair_is rfl (Only.refl _ w)
  · have g1 : ¬ (16 : Int) < ws.length := by omega
    have g2 : (16 : Int) < ts.length := by omega
    clear hL
    go_enter Try.func8, Try.ntmps8
    go_wp2_with fail
    go_ret2
    exact pair_is rfl (Only.refl _ w)

theorem lag_form (v v' : Value) (ws ts : List Int) (i : Int) (w : World) (h : Nums w v ws) (h' : Nums w v' ts) (hl : ws.length ≤ 16) (hl' : ts.length ≤ 16) (hF : ws.length ≠ ts.length) :
    Calls Try.prog 8 #[v, v', .int .i64 i] w (PairOnly (0, 3) w) := by
  obtain ⟨a, c, rfl, hr⟩ := h
  obtain ⟨a', c', rfl, hr'⟩ := h'
  clear hr hr'
  have g1 : ¬ (16 : Int) < ws.length := by omega
  have g2 : ¬ (16 : Int) < ts.length := by omega
  have g3 : ¬ (ws.length : Int) = ts.length := by omega
  clear hF
  go_enter Try.func8, Try.ntmps8
  go_wp2_with fail
  go_ret2
  exact pair_is rfl (Only.refl _ w)

theorem lag_prod {s x t u : Int} (h1 : 0 ≤ s ∧ s ≤ 17179869184) (h2 : 1 ≤ x ∧ x ≤ 100) (h3 : 0 ≤ t ∧ t ≤ 1073741824) (h4 : 0 ≤ u ∧ u ≤ 1600) :
    (0 ≤ s * x ∧ s * x ≤ 1717986918400) ∧ 0 ≤ t * u ∧ t * u ≤ 1717986918400 :=
  ⟨⟨Int.mul_nonneg h1.1 (by omega), Int.le_trans (Int.mul_le_mul h1.2 h2.2 (by omega) (by omega)) (by omega)⟩, Int.mul_nonneg h3.1 h4.1, Int.le_trans (Int.mul_le_mul h3.2 h4.2 h4.1 (by omega)) (by omega)⟩

set_option maxHeartbeats 1000000 in
theorem lag_any (v v' : Value) (ws ts : List Int) (i : Int) (n : Nat) (w : World) (h : Nums w v ws) (h' : Nums w v' ts) (hn : ws.length = n) (hn' : ts.length = n) (hl : n ≤ 16) :
    Calls Try.prog 8 #[v, v', .int .i64 i] w (PairOnly (lagAns ws ts i) w) := by
  obtain ⟨a, c, rfl, hr⟩ := h
  obtain ⟨a', c', rfl, hr'⟩ := h'
  have HR := Lib.hid hr
  have HR' := Lib.hid hr'
  have HN := Lib.hid hn
  have HN' := Lib.hid hn'
  rw [hn, hn']
  clear hr hr' hn hn'
  go_enter Try.func8, Try.ntmps8
  go_wp2_with fail
  go_loop [8, 9, 10, 11, 27] (fun s t _ _ i => ∃ k : Nat, k ≤ n ∧ i = .int .i64 k ∧ s = .int .i64 (sumTo ws k) ∧ t = .int .i64 (sumTo ts k) ∧ okTo ws ts k) (fun _ _ _ _ i => n - (intOf i).toNat)
  case atStart => exact ⟨0, Nat.zero_le _, rfl, rfl, rfl, fun j hj => absurd hj (Nat.not_lt_zero _)⟩
  case round =>
    obtain ⟨k, hk, rfl, rfl, rfl, hok⟩ := hrel
    have hb := sumTo_bd hok (by rw [HN.out]; exact hk) (by rw [HN'.out]; exact hk)
    have HK := Lib.hid hok
    clear hok
    by_cases hlt : k < n
    · obtain ⟨b, off, rfl, hc⟩ := HR.out k (by rw [HN.out]; exact hlt)
      obtain ⟨b', off', rfl, hc'⟩ := HR'.out k (by rw [HN'.out]; exact hlt)
      have S1 := Lib.hid (sumTo_succ ws k (by rw [HN.out]; exact hlt))
      have S2 := Lib.hid (sumTo_succ ts k (by rw [HN'.out]; exact hlt))
      have W1 := Lib.hid (weight_any (ws.getD k 0) w)
      have T1 := Lib.hid (ticks_any (ts.getD k 0) w)
      have hA : Hid (okAt ws ts k = (isW (ws.getD k 0) && isT (ts.getD k 0))) := Lib.hid rfl
      generalize ws.getD k 0 = x at *
      generalize ts.getD k 0 = t at *
      generalize sumTo ws k = s1 at *
      generalize sumTo ts k = s2 at *
      have g1 : (k : Int) < n := by omega
      cases hx : isW x with
      | false =>
        rw [hx] at W1 hA
        have HB : Hid (lagAns ws ts i = (0, 1)) := Lib.hid (by unfold lagAns; rw [if_pos (fun hh => by have := hh k (by rw [HN.out]; exact hlt); rw [hA.out] at this; simp at this)])
        clear hx
        go_wp2_with (go_at_call 13; (with_reducible refine W1.out.mono ?_); rintro e w' ⟨rfl, rfl⟩)
        go_ret2
        exact pair_is HB.out (Only.refl _ w)
      | true =>
        rw [hx] at W1 hA
        cases ht : isT t with
        | false =>
          rw [ht] at T1 hA
          have HB : Hid (lagAns ws ts i = (0, 1)) := Lib.hid (by unfold lagAns; rw [if_pos (fun hh => by have := hh k (by rw [HN.out]; exact hlt); rw [hA.out] at this; simp at this)])
          clear hx ht
          go_wp2_with (first
            | (go_at_call 13; (with_reducible refine W1.out.mono ?_); rintro e w' ⟨rfl, rfl⟩)
            | (go_at_call 14; (with_reducible refine T1.out.mono ?_); rintro e w' ⟨rfl, rfl⟩))
          go_ret2
          exact pair_is HB.out (Only.refl _ w)
        | true =>
          rw [ht] at T1 hA
          have b1 := isW_yes hx
          have b2 := isT_yes ht
          have HK2 := Lib.hid (okTo_succ HK.out hA.out)
          clear hx ht
          go_wp2_with (first
            | (go_at_call 13; (with_reducible refine W1.out.mono ?_); rintro e w' ⟨rfl, rfl⟩)
            | (go_at_call 14; (with_reducible refine T1.out.mono ?_); rintro e w' ⟨rfl, rfl⟩))
          go_round
          case rel => exact ⟨k + 1, by omega, by go_num, by rw [S1.out], by rw [S2.out], HK2.out⟩
          case measure => simp [intOf]; omega
    · obtain rfl : k = n := by omega
      have e1 : ¬ ¬ (∀ j, j < ws.length → okAt ws ts j = true) := fun hh => hh (by rw [HN.out]; exact HK.out)
      by_cases hi : i < 0
      · have HB : Hid (lagAns ws ts i = (0, 4)) := Lib.hid (by unfold lagAns; rw [if_neg e1, if_pos (Or.inl hi)])
        clear e1
        go_wp2_with fail
        go_ret2
        exact pair_is HB.out (Only.refl _ w)
      · by_cases hi2 : (k : Int) ≤ i
        · have HB : Hid (lagAns ws ts i = (0, 4)) := Lib.hid (by unfold lagAns; rw [if_neg e1, if_pos (Or.inr (by rw [HN.out]; exact hi2))])
          clear e1
          go_wp2_with fail
          go_ret2
          exact pair_is HB.out (Only.refl _ w)
        · obtain ⟨m, rfl⟩ : ∃ m : Nat, i = m := ⟨i.toNat, by omega⟩
          have HB : Hid (lagAns ws ts m = (lagOf ws ts m, 0)) := Lib.hid (by unfold lagAns; rw [if_neg e1, if_neg (by rw [HN.out]; omega)]; rfl)
          have hm : m < k := by omega
          obtain ⟨b, off, rfl, hc⟩ := HR.out m (by rw [HN.out]; exact hm)
          obtain ⟨b', off', rfl, hc'⟩ := HR'.out m (by rw [HN'.out]; exact hm)
          have hbd := okAt_bd (HK.out m hm)
          have HP := lag_prod (s := sumTo ts k) (x := ws.getD m 0) (t := ts.getD m 0) (u := sumTo ws k) (by omega) hbd.1 hbd.2 (by omega)
          have HL : Hid (lagOf ws ts m = sumTo ts k * ws.getD m 0 - ts.getD m 0 * sumTo ws k) := Lib.hid (by unfold lagOf; rw [HN.out])
          generalize ws.getD m 0 = x at *
          generalize ts.getD m 0 = t at *
          generalize sumTo ws k = s1 at *
          generalize sumTo ts k = s2 at *
          have g1 : (m : Int) < k := by omega
          have HZ : Hid (lagAns ws ts m = (s2 * x - t * s1, 0)) := Lib.hid (by rw [HB.out, HL.out])
          have E1 : IntKind.i64.wrap (s2 * x) = s2 * x := IntWalk.i64_in _ (by omega)
          have E2 : IntKind.i64.wrap (t * s1) = t * s1 := IntWalk.i64_in _ (by omega)
          have E3 : IntKind.i64.wrap (s2 * x - t * s1) = s2 * x - t * s1 := IntWalk.i64_in _ (by omega)
          clear e1
          go_wp2_with fail
          go_quiet (fail)
          go_wp2_with fail
          go_ret2
          exact pair_is HZ.out (only_drewN (Only.refl _ w) _)
end Go.Proofs.Ytbdkibigcjpkbaa.Vt
