/- The walk of SpanGrows. -/
import Derived.Test.YtbfnaejfmpnkbaaLies
namespace Go.Proofs.Ytbfnaejfmpnkbaa
open Go.ChangeShapes Go.WideShapes Go.ChangeAt Go.RowKit
set_option linter.unusedVariables false

theorem wts_put (z : El) (l : List El) : wts (put z l) = wts l + z.w := by
  induction l with
  | nil => simp [put, wts]
  | cons x l ih =>
    simp only [put]
    split
    · simp only [wts]; omega
    · simp only [wts, ih]; omega

theorem aheadL_put (z : El) (l : List El) (k i : Int) : aheadL (put z l) k i = aheadL l k i + if bef z k i then z.w else 0 := by
  induction l with
  | nil => simp [put, aheadL]
  | cons x l ih =>
    simp only [put]
    split
    · simp only [aheadL]; omega
    · simp only [aheadL, ih]; omega

theorem cut_put {z : El} {l : List El} (h : ¬ Is l z.k z.i) : cut z.k z.i (put z l) = l := by
  induction l with
  | nil => simp [put, cut]
  | cons x l ih =>
    simp only [put]
    split
    · simp [cut]
    · simp only [cut]
      rw [if_neg (fun e => h ⟨x, by simp, e⟩), ih (fun ⟨y, hy, e⟩ => h ⟨y, by simp [hy], e⟩)]

theorem ahead_two : aheadL (treeTo [5, 3] [5, 3].length) 4 0 = 3 := by decide

set_option maxRecDepth 100000 in
set_option maxHeartbeats 2000000 in
theorem grows_walk (a : Option Addr) (len cap : Nat) (zs : List Int) (key id k v : Int) (w : World) (h : IsRow .i64 w a len cap zs) :
    Calls Try.prog 8 #[.slice a len cap, .int .i64 key, .int .i64 id, .int .i64 k, .int .i64 v] w fun e w' => e = .returned (.bool true) ∧ Below w.heap.size w w' := by
  obtain ⟨xs, hxl, hx, -, hc1, hc2, hc3, hc4, hc5⟩ := nums_cut h 100
  have HX := Lib.hid hx
  have HXL := Lib.hid hxl
  unfold maxLen at hc3
  clear h hx hc4 hxl
  go_enter Try.func8, Try.ntmps8
  go_upto_region 4 with (first
    | (go_at_call 18; (with_reducible refine (tree_any _ 2 2 [5, 3] _ (nums_two w) (by decide)).mono ?_); rintro e w1 ⟨q, rfl, ht, hb⟩; have HT := Lib.hid ht; have HB := Lib.hid ((below_two w).trans (hb.mono (by simp))); clear ht hb)
    | (go_at_call 22; go_must (refine (tahead_is HT.out ahead_two).mono ?_); rintro e w2 ⟨rfl, ho⟩; have HB2 := Lib.hid (HB.out.trans (ho.below HB.out.size (fun _ e => e.elim))); clear ho))
  go_cut [1, 2, 3, 4, 13, 14] (fun s1 s2 s3 s4 s13 s14 wx => s1 = .int .i64 key ∧ s2 = .int .i64 id ∧ s3 = .int .i64 k ∧ s4 = .int .i64 v ∧ s14 = .bool true ∧ ∃ q, s13 = .pointer (some ⟨q, 0, none⟩) ∧ TreeAt (fun k => w.heap.size ≤ k) wx q (treeTo xs xs.length) ∧ Below w.heap.size w wx)
  case first =>
    rcases Nat.lt_or_ge 100 len with h200 | h200
    rotate_left
    · have h201 : (len : Int) ≤ 100 := by omega
      rw [Nat.min_eq_left (by omega)] at HX
      go_wp2_with (go_at_call 18; go_must (have hc := tree_any _ _ cap xs _ (HX.out.later HB2.out) (by have := HXL.out; omega)); (with_reducible refine hc.mono ?_); clear hc; rintro e w3 ⟨q3, rfl, ht, hb⟩; have HT3 := Lib.hid (ht.mono (N := fun k => w.heap.size ≤ k) (fun k hk => Nat.le_trans HB2.out.size hk)); have HB3 := Lib.hid (HB2.out.trans (hb.mono HB2.out.size)); clear ht hb)
      go_meet
      exact ⟨rfl, rfl, rfl, rfl, rfl, q3, rfl, HT3.out, HB3.out⟩
    · have h201 : (100 : Int) < len := by omega
      rw [Nat.min_eq_right (by omega)] at HX
      go_wp2_with (go_at_call 18; go_must (have hc := tree_any _ _ cap xs _ (HX.out.later HB2.out) (by have := HXL.out; omega)); (with_reducible refine hc.mono ?_); clear hc; rintro e w3 ⟨q3, rfl, ht, hb⟩; have HT3 := Lib.hid (ht.mono (N := fun k => w.heap.size ≤ k) (fun k hk => Nat.le_trans HB2.out.size hk)); have HB3 := Lib.hid (HB2.out.trans (hb.mono HB2.out.size)); clear ht hb)
      go_meet
      exact ⟨rfl, rfl, rfl, rfl, rfl, q3, rfl, HT3.out, HB3.out⟩
  case rest =>
    obtain ⟨rfl, rfl, rfl, rfl, rfl, q3, rfl, ht, hb⟩ := hcut
    obtain ⟨L, hL⟩ : ∃ L, L = treeTo xs xs.length := ⟨_, rfl⟩
    have hnew : ∀ kk : Int, ¬ Is L kk (-5) := fun kk => by rw [hL]; exact treeTo_new kk (Or.inr (by decide))
    rw [← hL] at ht
    have hlen : L.length ≤ 100 := by rw [hL, treeTo_len]; have := HXL.out; omega
    have bs := wts_bd ht.light
    have HT3 := Lib.hid ht
    have HB3 := Lib.hid hb
    have r0 := restOf_lo key 25 (by decide)
    have r1 := restOf_hi key 25 (by decide)
    have r2 := restOf_lo k 25 (by decide)
    have r3 := restOf_hi k 25 (by decide)
    have r4 := restOf_lo v 1000001 (by decide)
    have r5 := restOf_hi v 1000001 (by decide)
    generalize hk0 : restOf key 25 = key2 at *
    generalize hk1 : restOf k 25 = k2 at *
    generalize hk2 : restOf v 1000001 = v2 at *
    have K0 := Lib.hid hk0
    have K1 := Lib.hid hk1
    have K2 := Lib.hid hk2
    have hab := aheadL_bd key2 id ht.light
    obtain ⟨s, hs⟩ : ∃ s, wts L = s := ⟨_, rfl⟩
    obtain ⟨av, ha⟩ : ∃ av, aheadL L key2 id = av := ⟨_, rfl⟩
    have HS := Lib.hid hs
    have HA := Lib.hid ha
    have b0 : 0 ≤ s := by omega
    have b1 : s ≤ 100000000 := by omega
    have b2 : 0 ≤ av := by omega
    have b3 : av ≤ 100000000 := by omega
    have HNO := Lib.hid (hnew k2)
    have HLEN := Lib.hid hlen
    have HPUT : Hid (∀ m, (if bef ⟨k2, -5, v2⟩ key2 id then v2 else 0) = m → aheadL (put ⟨k2, -5, v2⟩ L) key2 id = av + m) := Lib.hid (by
      intro m hm; rw [aheadL_put, ha, ← hm])
    have HSUM : Hid (wts (put ⟨k2, -5, v2⟩ L) = s + v2) := Lib.hid (by rw [wts_put, hs])
    clear ht hb hL hlen bs hs ha hk0 hk1 hk2 hab hnew
    rcases Int.lt_trichotomy k2 key2 with hk | hk | hk
    · have HM : Hid ((if bef ⟨k2, -5, v2⟩ key2 id then v2 else 0) = v2) := Lib.hid (if_pos (Or.inl hk))
      go_wp2_with (first
        | (go_at_call 21; go_must (refine (rest_is _ (by decide) (by decide) _).mono ?_); rintro e w4 ⟨rfl, rfl⟩; (first | rw [K0.out] | rw [K1.out] | rw [K2.out]))
        | (go_at_call 22; (with_reducible refine (tahead_is HT3.out HA.out).mono ?_); rintro e w4 ⟨rfl, ho⟩; have HT4 := Lib.hid (HT3.out.later ho); have HB4 := Lib.hid (HB3.out.trans (ho.below HB3.out.size (fun _ e => e.elim))); clear ho)
        | (go_at_call 11; (with_reducible refine (tsum_is HT4.out HS.out).mono ?_); rintro e w5 ⟨rfl, rfl⟩)
        | (go_at_call 10; go_must (have hc := tput HT4.out (v := v2) HNO.out r4 (by omega) (by have := HLEN.out; omega)); (with_reducible refine hc.mono ?_); clear hc; rintro e w5 ⟨rfl, ht, ho⟩; have HT5 := Lib.hid (ht.mono (N := fun k => w.heap.size ≤ k) (fun k hk => by rcases hk with hk | hk; exact hk; exact Nat.le_trans HB4.out.size hk)); have HB5 := Lib.hid (HB4.out.trans (ho.below HB4.out.size (fun _ e => e))); clear ht ho)
        | (go_at_call 22; (with_reducible refine (tahead_is HT5.out (HPUT.out _ HM.out)).mono ?_); rintro e w6 ⟨rfl, ho⟩; have HT6 := Lib.hid (HT5.out.later ho); have HB6 := Lib.hid (HB5.out.trans (ho.below HB5.out.size (fun _ e => e.elim))); clear ho)
        | (go_at_call 11; (with_reducible refine (tsum_is HT6.out HSUM.out).mono ?_); rintro e w7 ⟨rfl, rfl⟩)
        | (go_at_call 15; go_must (have hc := tout HT6.out (x := ⟨k2, -5, v2⟩) (put_mem.2 (Or.inl rfl))); (with_reducible refine hc.mono ?_); clear hc; rintro e w7 ⟨rfl, ht, ho⟩; rw [cut_put HNO.out] at ht; have HT7 := Lib.hid (ht.mono (N := fun k => w.heap.size ≤ k) (fun k hk => by rcases hk with hk | hk; exact hk; exact Nat.le_trans HB6.out.size hk)); have HB7 := Lib.hid (HB6.out.trans (ho.below HB6.out.size (fun _ e => e))); clear ht ho)
        | (go_at_call 22; (with_reducible refine (tahead_is HT7.out HA.out).mono ?_); rintro e w8 ⟨rfl, ho⟩; have HT8 := Lib.hid (HT7.out.later ho); have HB8 := Lib.hid (HB7.out.trans (ho.below HB7.out.size (fun _ e => e.elim))); clear ho)
        | (go_at_call 11; (with_reducible refine (tsum_is HT8.out HS.out).mono ?_); rintro e w9 ⟨rfl, rfl⟩))
      go_ret
      exact ⟨rfl, HB8.out⟩
    · subst hk
      by_cases hi : -5 < id
      · have HM : Hid ((if bef ⟨k2, -5, v2⟩ k2 id then v2 else 0) = v2) := Lib.hid (if_pos (Or.inr ⟨rfl, hi⟩))
        go_wp2_with (first
          | (go_at_call 21; go_must (refine (rest_is _ (by decide) (by decide) _).mono ?_); rintro e w4 ⟨rfl, rfl⟩; (first | rw [K0.out] | rw [K1.out] | rw [K2.out]))
          | (go_at_call 22; (with_reducible refine (tahead_is HT3.out HA.out).mono ?_); rintro e w4 ⟨rfl, ho⟩; have HT4 := Lib.hid (HT3.out.later ho); have HB4 := Lib.hid (HB3.out.trans (ho.below HB3.out.size (fun _ e => e.elim))); clear ho)
          | (go_at_call 11; (with_reducible refine (tsum_is HT4.out HS.out).mono ?_); rintro e w5 ⟨rfl, rfl⟩)
          | (go_at_call 10; go_must (have hc := tput HT4.out (v := v2) HNO.out r4 (by omega) (by have := HLEN.out; omega)); (with_reducible refine hc.mono ?_); clear hc; rintro e w5 ⟨rfl, ht, ho⟩; have HT5 := Lib.hid (ht.mono (N := fun k => w.heap.size ≤ k) (fun k hk => by rcases hk with hk | hk; exact hk; exact Nat.le_trans HB4.out.size hk)); have HB5 := Lib.hid (HB4.out.trans (ho.below HB4.out.size (fun _ e => e))); clear ht ho)
          | (go_at_call 22; (with_reducible refine (tahead_is HT5.out (HPUT.out _ HM.out)).mono ?_); rintro e w6 ⟨rfl, ho⟩; have HT6 := Lib.hid (HT5.out.later ho); have HB6 := Lib.hid (HB5.out.trans (ho.below HB5.out.size (fun _ e => e.elim))); clear ho)
          | (go_at_call 11; (with_reducible refine (tsum_is HT6.out HSUM.out).mono ?_); rintro e w7 ⟨rfl, rfl⟩)
          | (go_at_call 15; go_must (have hc := tout HT6.out (x := ⟨k2, -5, v2⟩) (put_mem.2 (Or.inl rfl))); (with_reducible refine hc.mono ?_); clear hc; rintro e w7 ⟨rfl, ht, ho⟩; rw [cut_put HNO.out] at ht; have HT7 := Lib.hid (ht.mono (N := fun k => w.heap.size ≤ k) (fun k hk => by rcases hk with hk | hk; exact hk; exact Nat.le_trans HB6.out.size hk)); have HB7 := Lib.hid (HB6.out.trans (ho.below HB6.out.size (fun _ e => e))); clear ht ho)
          | (go_at_call 22; (with_reducible refine (tahead_is HT7.out HA.out).mono ?_); rintro e w8 ⟨rfl, ho⟩; have HT8 := Lib.hid (HT7.out.later ho); have HB8 := Lib.hid (HB7.out.trans (ho.below HB7.out.size (fun _ e => e.elim))); clear ho)
          | (go_at_call 11; (with_reducible refine (tsum_is HT8.out HS.out).mono ?_); rintro e w9 ⟨rfl, rfl⟩))
        go_ret
        exact ⟨rfl, HB8.out⟩
      · have HM : Hid ((if bef ⟨k2, -5, v2⟩ k2 id then v2 else 0) = 0) := Lib.hid (if_neg (fun h => by simp only [bef] at h; omega))
        have hi2 : id ≤ -5 := by omega
        go_wp2_with (first
          | (go_at_call 21; go_must (refine (rest_is _ (by decide) (by decide) _).mono ?_); rintro e w4 ⟨rfl, rfl⟩; (first | rw [K0.out] | rw [K1.out] | rw [K2.out]))
          | (go_at_call 22; (with_reducible refine (tahead_is HT3.out HA.out).mono ?_); rintro e w4 ⟨rfl, ho⟩; have HT4 := Lib.hid (HT3.out.later ho); have HB4 := Lib.hid (HB3.out.trans (ho.below HB3.out.size (fun _ e => e.elim))); clear ho)
          | (go_at_call 11; (with_reducible refine (tsum_is HT4.out HS.out).mono ?_); rintro e w5 ⟨rfl, rfl⟩)
          | (go_at_call 10; go_must (have hc := tput HT4.out (v := v2) HNO.out r4 (by omega) (by have := HLEN.out; omega)); (with_reducible refine hc.mono ?_); clear hc; rintro e w5 ⟨rfl, ht, ho⟩; have HT5 := Lib.hid (ht.mono (N := fun k => w.heap.size ≤ k) (fun k hk => by rcases hk with hk | hk; exact hk; exact Nat.le_trans HB4.out.size hk)); have HB5 := Lib.hid (HB4.out.trans (ho.below HB4.out.size (fun _ e => e))); clear ht ho)
          | (go_at_call 22; (with_reducible refine (tahead_is HT5.out (HPUT.out _ HM.out)).mono ?_); rintro e w6 ⟨rfl, ho⟩; have HT6 := Lib.hid (HT5.out.later ho); have HB6 := Lib.hid (HB5.out.trans (ho.below HB5.out.size (fun _ e => e.elim))); clear ho)
          | (go_at_call 11; (with_reducible refine (tsum_is HT6.out HSUM.out).mono ?_); rintro e w7 ⟨rfl, rfl⟩)
          | (go_at_call 15; go_must (have hc := tout HT6.out (x := ⟨k2, -5, v2⟩) (put_mem.2 (Or.inl rfl))); (with_reducible refine hc.mono ?_); clear hc; rintro e w7 ⟨rfl, ht, ho⟩; rw [cut_put HNO.out] at ht; have HT7 := Lib.hid (ht.mono (N := fun k => w.heap.size ≤ k) (fun k hk => by rcases hk with hk | hk; exact hk; exact Nat.le_trans HB6.out.size hk)); have HB7 := Lib.hid (HB6.out.trans (ho.below HB6.out.size (fun _ e => e))); clear ht ho)
          | (go_at_call 22; (with_reducible refine (tahead_is HT7.out HA.out).mono ?_); rintro e w8 ⟨rfl, ho⟩; have HT8 := Lib.hid (HT7.out.later ho); have HB8 := Lib.hid (HB7.out.trans (ho.below HB7.out.size (fun _ e => e.elim))); clear ho)
          | (go_at_call 11; (with_reducible refine (tsum_is HT8.out HS.out).mono ?_); rintro e w9 ⟨rfl, rfl⟩))
        go_ret
        exact ⟨rfl, HB8.out⟩
    · have HM : Hid ((if bef ⟨k2, -5, v2⟩ key2 id then v2 else 0) = 0) := Lib.hid (if_neg (fun h => by simp only [bef] at h; omega))
      have hk2 : (k2 == key2) = false := by simp; omega
      have hk3 : ¬ k2 < key2 := by omega
      go_wp2_with (first
        | (go_at_call 21; go_must (refine (rest_is _ (by decide) (by decide) _).mono ?_); rintro e w4 ⟨rfl, rfl⟩; (first | rw [K0.out] | rw [K1.out] | rw [K2.out]))
        | (go_at_call 22; (with_reducible refine (tahead_is HT3.out HA.out).mono ?_); rintro e w4 ⟨rfl, ho⟩; have HT4 := Lib.hid (HT3.out.later ho); have HB4 := Lib.hid (HB3.out.trans (ho.below HB3.out.size (fun _ e => e.elim))); clear ho)
        | (go_at_call 11; (with_reducible refine (tsum_is HT4.out HS.out).mono ?_); rintro e w5 ⟨rfl, rfl⟩)
        | (go_at_call 10; go_must (have hc := tput HT4.out (v := v2) HNO.out r4 (by omega) (by have := HLEN.out; omega)); (with_reducible refine hc.mono ?_); clear hc; rintro e w5 ⟨rfl, ht, ho⟩; have HT5 := Lib.hid (ht.mono (N := fun k => w.heap.size ≤ k) (fun k hk => by rcases hk with hk | hk; exact hk; exact Nat.le_trans HB4.out.size hk)); have HB5 := Lib.hid (HB4.out.trans (ho.below HB4.out.size (fun _ e => e))); clear ht ho)
        | (go_at_call 22; (with_reducible refine (tahead_is HT5.out (HPUT.out _ HM.out)).mono ?_); rintro e w6 ⟨rfl, ho⟩; have HT6 := Lib.hid (HT5.out.later ho); have HB6 := Lib.hid (HB5.out.trans (ho.below HB5.out.size (fun _ e => e.elim))); clear ho)
        | (go_at_call 11; (with_reducible refine (tsum_is HT6.out HSUM.out).mono ?_); rintro e w7 ⟨rfl, rfl⟩)
        | (go_at_call 15; go_must (have hc := tout HT6.out (x := ⟨k2, -5, v2⟩) (put_mem.2 (Or.inl rfl))); (with_reducible refine hc.mono ?_); clear hc; rintro e w7 ⟨rfl, ht, ho⟩; rw [cut_put HNO.out] at ht; have HT7 := Lib.hid (ht.mono (N := fun k => w.heap.size ≤ k) (fun k hk => by rcases hk with hk | hk; exact hk; exact Nat.le_trans HB6.out.size hk)); have HB7 := Lib.hid (HB6.out.trans (ho.below HB6.out.size (fun _ e => e))); clear ht ho)
        | (go_at_call 22; (with_reducible refine (tahead_is HT7.out HA.out).mono ?_); rintro e w8 ⟨rfl, ho⟩; have HT8 := Lib.hid (HT7.out.later ho); have HB8 := Lib.hid (HB7.out.trans (ho.below HB7.out.size (fun _ e => e.elim))); clear ho)
        | (go_at_call 11; (with_reducible refine (tsum_is HT8.out HS.out).mono ?_); rintro e w9 ⟨rfl, rfl⟩))
      go_ret
      exact ⟨rfl, HB8.out⟩
end Go.Proofs.Ytbfnaejfmpnkbaa
