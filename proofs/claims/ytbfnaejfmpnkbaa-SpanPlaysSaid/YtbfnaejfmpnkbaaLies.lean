/- The walk of SpanLies; and what the laws of trees share. -/
import Derived.Test.YtbfnaejfmpnkbaaGrow
namespace Go.Proofs.Ytbfnaejfmpnkbaa
open Go.ChangeShapes Go.WideShapes Go.ChangeAt Go.RowKit
set_option linter.unusedVariables false

theorem below_two (u : World) : Below u.heap.size u (u.alloc (.cells #[.int .i64 5, .int .i64 3] 3)) := (Below.refl _ u).alloc (Nat.le_refl _) _

theorem nums_two (u : World) : Nums (u.alloc (.cells #[.int .i64 5, .int .i64 3] 3)) (some ⟨u.heap.size, 0, none⟩) 2 [5, 3] := by
  refine ⟨rfl, Or.inr ⟨u.heap.size, 0, rfl, by simp, fun j hj => ?_⟩⟩
  have hh : (u.alloc (.cells #[.int .i64 5, .int .i64 3] 3)).heap[u.heap.size]? = some (.cells #[.int .i64 5, .int .i64 3] 3) := heap_alloc_new u _
  rw [cell_at hh]
  match j, hj with
  | 0, _ => rfl
  | 1, _ => rfl

/-- The law's slice, cut at its first numbers. -/
theorem nums_cut {w : World} {a : Option Addr} {len cap : Nat} {zs : List Int} (h : IsRow .i64 w a len cap zs) (m : Nat) : ∃ xs : List Int, xs.length = min len m ∧ Nums w a (min len m) xs ∧ (∀ n ∈ xs, (Lit.int .i64 n).wf = true) ∧ min len m ≤ cap ∧ len ≤ cap ∧ cap ≤ maxLen ∧ (len ≤ m → len = xs.length) ∧ (a = none → cap = 0) := by
  rcases h with ⟨h1, h2, h3, h4⟩ | ⟨x, rfl, h1, h2, h3, h4, h5⟩
  · subst h2 h3
    refine ⟨[], by simp, ⟨by simp, Or.inl (by simp)⟩, (fun n hn => by cases hn), by simp, by simp, by unfold maxLen; omega, fun _ => rfl, fun _ => rfl⟩
  · rcases row_cases (Or.inr ⟨x, rfl, h1, h2, h3, h4, h5⟩ : IsRow .i64 w (some x) len cap zs) with h0 | ⟨b, off, ys, e, hl, hne, hc, hb, hm, hw, hcell⟩
    · subst h0
      exact ⟨[], by simp, ⟨by simp, Or.inl (by simp)⟩, (fun n hn => by cases hn), by simp, h1, h2, fun _ => rfl, fun e => by cases e⟩
    · refine ⟨ys.take m, by rw [List.length_take, hl]; omega, ⟨by rw [List.length_take, hl]; omega, Or.inr ⟨b, off, e, hb, fun j hj => ?_⟩⟩, fun n hn => hw n (List.mem_of_mem_take hn), by omega, h1, h2, (fun g => by rw [List.length_take, hl]; omega), fun e => by cases e⟩
      rw [List.length_take] at hj
      rw [hcell j (by omega)]
      congr 2
      simp [List.getD, show j < m by omega]

theorem lies_split {L : List El} {n : Int} (hL : Light L) (h0 : 0 ≤ n) (h : n < wts L) : ∃ l x m, L = l ++ x :: m ∧ wts l ≤ n ∧ n < wts l + x.w := by
  induction L generalizing n with
  | nil => simp [wts] at h; omega
  | cons y L ih =>
    by_cases g : n < y.w
    · exact ⟨[], y, L, rfl, by simpa [wts] using h0, by simpa [wts] using g⟩
    · simp only [wts] at h
      obtain ⟨l, x, m, rfl, h1, h2⟩ := ih (light_cons.1 hL).2 (n := n - y.w) (by omega) (by omega)
      exact ⟨y :: l, x, m, rfl, by simp only [wts]; omega, by simp only [wts]; omega⟩

/-- Where a number lies, and what is ahead of that. -/
theorem lies_in {L : List El} {n : Int} (hs : Sorted L) (hL : Light L) (h0 : 0 ≤ n) (h : n < wts L) : ∃ x, x ∈ L ∧ atL L n = some x ∧ aheadL L x.k x.i ≤ n ∧ n < aheadL L x.k x.i + x.w := by
  obtain ⟨l, x, m, rfl, h1, h2⟩ := lies_split hL h0 h
  refine ⟨x, by simp, atL_here (light_app.1 hL).1 h1 h2, ?_⟩
  obtain ⟨-, -, h3, h4⟩ := sorted_app hs
  have : aheadL (l ++ x :: m) x.k x.i = wts l := by
    rw [aheadL_left hs (by unfold bef; omega), aheadL_all (fun y hy => h3 y hy)]
  rw [this]; exact ⟨h1, h2⟩

theorem tsum_is {M : Nat → Prop} {w : World} {p : Nat} {L : List El} {v : Int} (h : TreeAt M w p L) (hv : wts L = v) : Calls Try.prog 11 #[.pointer (some ⟨p, 0, none⟩)] w fun e w' => e = .returned (.int .i64 v) ∧ w = w' := by
  subst hv; exact tsum h

theorem wts_two : wts (treeTo [5, 3] [5, 3].length) = 8 := by decide

theorem tat_is {M : Nat → Prop} {w : World} {p : Nat} {L : List El} {n : Int} {o : Option El} (h : TreeAt M w p L) (hn : (Lit.int .i64 n).wf = true) (ho : atL L n = o) :
    Calls Try.prog 24 #[.pointer (some ⟨p, 0, none⟩), .int .i64 n] w fun e w' => e = .returned (told o) ∧ Only (fun _ => False) w w' := by
  subst ho; exact tat h hn
theorem tahead_is {M : Nat → Prop} {w : World} {p : Nat} {L : List El} {k i v : Int} (h : TreeAt M w p L) (hv : aheadL L k i = v) : Calls Try.prog 22 #[.pointer (some ⟨p, 0, none⟩), .int .i64 k, .int .i64 i] w fun e w' => e = .returned (.int .i64 v) ∧ Only (fun _ => False) w w' := by
  subst hv; exact tahead h k i

set_option maxRecDepth 100000 in
set_option maxHeartbeats 1000000 in
theorem lies_walk (a : Option Addr) (len cap : Nat) (zs : List Int) (n : Int) (w : World) (h : IsRow .i64 w a len cap zs) :
    Calls Try.prog 5 #[.slice a len cap, .int .i64 n] w fun e w' => e = .returned (.bool true) ∧ Below w.heap.size w w' := by
  obtain ⟨xs, hxl, hx, -, hc1, hc2, hc3, hc4, hc5⟩ := nums_cut h 200
  have HX := Lib.hid hx
  have HXL := Lib.hid hxl
  unfold maxLen at hc3
  clear h hx hc4 hxl
  go_enter Try.func5, Try.ntmps5
  go_upto_region 4 with (first
    | (go_at_call 18; (with_reducible refine (tree_any _ 2 2 [5, 3] _ (nums_two w) (by decide)).mono ?_); rintro e w1 ⟨q, rfl, ht, hb⟩; have HT := Lib.hid ht; have HB := Lib.hid ((below_two w).trans (hb.mono (by simp))); clear ht hb)
    | (go_at_call 11; go_must (refine (tsum_is HT.out wts_two).mono ?_); rintro e w2 ⟨rfl, rfl⟩))
  go_cut [1, 7, 8] (fun s1 s7 s8 wx => s1 = .int .i64 n ∧ s8 = .bool true ∧ ∃ q, s7 = .pointer (some ⟨q, 0, none⟩) ∧ TreeAt (fun k => w.heap.size ≤ k) wx q (treeTo xs xs.length) ∧ Below w.heap.size w wx)
  case first =>
    rcases Nat.lt_or_ge 200 len with h200 | h200
    rotate_left
    · have h201 : (len : Int) ≤ 200 := by omega
      rw [Nat.min_eq_left (by omega)] at HX
      go_wp2_with (go_at_call 18; go_must (have hc := tree_any _ _ cap xs _ (HX.out.later HB.out) (by have := HXL.out; omega)); (with_reducible refine hc.mono ?_); clear hc; rintro e w3 ⟨q3, rfl, ht, hb⟩; have HT3 := Lib.hid (ht.mono (N := fun k => w.heap.size ≤ k) (fun k hk => Nat.le_trans HB.out.size hk)); have HB3 := Lib.hid (HB.out.trans (hb.mono HB.out.size)); clear ht hb)
      go_meet
      exact ⟨rfl, rfl, q3, rfl, HT3.out, HB3.out⟩
    · have h201 : (200 : Int) < len := by omega
      rw [Nat.min_eq_right (by omega)] at HX
      go_wp2_with (go_at_call 18; go_must (have hc := tree_any _ _ cap xs _ (HX.out.later HB.out) (by have := HXL.out; omega)); (with_reducible refine hc.mono ?_); clear hc; rintro e w3 ⟨q3, rfl, ht, hb⟩; have HT3 := Lib.hid (ht.mono (N := fun k => w.heap.size ≤ k) (fun k hk => Nat.le_trans HB.out.size hk)); have HB3 := Lib.hid (HB.out.trans (hb.mono HB.out.size)); clear ht hb)
      go_meet
      exact ⟨rfl, rfl, q3, rfl, HT3.out, HB3.out⟩
  case rest =>
    obtain ⟨rfl, rfl, q3, rfl, ht, hb⟩ := hcut
    obtain ⟨L, hL⟩ : ∃ L, L = treeTo xs xs.length := ⟨_, rfl⟩
    rw [← hL] at ht
    have hlen : L.length ≤ 200 := by rw [hL, treeTo_len]; have := HXL.out; omega
    have bs := wts_bd ht.light
    have HT3 := Lib.hid ht
    have HB3 := Lib.hid hb
    obtain ⟨s, hs⟩ : ∃ s, wts L = s := ⟨_, rfl⟩
    have HS := Lib.hid hs
    have b0 : 0 ≤ s := by omega
    have b1 : s ≤ 200000000 := by omega
    clear ht hb hL hlen bs hs
    by_cases hz : s = 0
    · subst hz
      have HO : Hid (atL L 0 = none) := Lib.hid (by
        unfold atL; rw [if_neg (by omega)]; exact liesL_none (by rw [HS.out]; omega) HT3.out.light)
      go_wp2_with (first
        | (go_at_call 11; go_must (refine (tsum_is HT3.out HS.out).mono ?_); rintro e w4 ⟨rfl, rfl⟩)
        | (go_at_call 24; go_must (refine (tat_is HT3.out (by decide) HO.out).mono ?_); rintro e w5 ⟨rfl, ho⟩; simp only [told]; have HO5 := Lib.hid ho; clear ho))
      go_ret
      exact ⟨rfl, HB3.out.trans (HO5.out.below HB3.out.size (fun _ e => e.elim))⟩
    · have hz2 : 0 < s := by omega
      have r0 := restOf_lo n s hz2
      have r1 := restOf_hi n s hz2
      obtain ⟨x, hxm, hx1, hx2, hx3⟩ := lies_in (n := restOf n s) HT3.out.sorted HT3.out.light r0 (by rw [HS.out]; exact r1)
      obtain ⟨v, hv⟩ : ∃ v, aheadL L x.k x.i = v := ⟨_, rfl⟩
      rw [hv] at hx2 hx3
      have HX1 := Lib.hid hx1
      have HV := Lib.hid hv
      have hze : (s == 0) = false := by simpa using hz
      have a0 : 0 ≤ v := by rw [← hv]; exact (aheadL_bd _ _ HT3.out.light).1
      have xw : x.w ≤ 1000000 := (HT3.out.light x hxm).2
      clear hx1 hv hz hxm
      generalize hr : restOf n s = r at *
      have HR := Lib.hid hr
      clear hr
      go_wp2_with (first
        | (go_at_call 11; go_must (refine (tsum_is HT3.out HS.out).mono ?_); rintro e w4 ⟨rfl, rfl⟩)
        | (go_at_call 21; go_must (refine (rest_is n hz2 (by omega) _).mono ?_); rintro e w4 ⟨rfl, rfl⟩; rw [HR.out])
        | (go_at_call 24; go_must (refine (tat_is HT3.out (i64_wf (by omega)) HX1.out).mono ?_); rintro e w5 ⟨rfl, ho⟩; simp only [told]; have HT5 := Lib.hid (HT3.out.later ho); have HO5 := Lib.hid ho; clear ho)
        | (go_at_call 22; go_must (refine (tahead_is HT5.out HV.out).mono ?_); rintro e w6 ⟨rfl, ho⟩; have HO6 := Lib.hid ho; clear ho))
      go_ret
      exact ⟨rfl, HB3.out.trans ((HO5.out.trans HO6.out (fun _ _ e => e)).below HB3.out.size (fun _ e => e.elim))⟩
end Go.Proofs.Ytbfnaejfmpnkbaa
