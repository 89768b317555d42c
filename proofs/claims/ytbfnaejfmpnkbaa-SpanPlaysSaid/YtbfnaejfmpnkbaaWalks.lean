/- The walk of SpanWalks. (Named by the law.) -/
import Derived.Test.YtbfnaejfmpnkbaaLies
namespace Go.Proofs.Ytbfnaejfmpnkbaa
open Go.ChangeShapes Go.WideShapes Go.ChangeAt Go.RowKit
set_option linter.unusedVariables false

/-- Four values that tell of an element, or of none. -/
def Tells (o : Option El) (s8 s9 s10 s11 : Value) : Prop :=
  (o = none ∧ s8 = .int .i64 0 ∧ s9 = .int .i64 0 ∧ s10 = .int .i64 0 ∧ s11 = .int .i64 4) ∨
  ∃ x, o = some x ∧ s8 = .int .i64 x.k ∧ s9 = .int .i64 x.i ∧ s10 = .int .i64 x.w ∧ s11 = .int .i64 0

theorem tells_of (o : Option El) : ∃ t1 t2 t3 t4, told o = .tuple #[.int .i64 t1, .int .i64 t2, .int .i64 t3, .int .i64 t4] ∧ Tells o (.int .i64 t1) (.int .i64 t2) (.int .i64 t3) (.int .i64 t4) := by
  cases o with
  | none => exact ⟨_, _, _, _, rfl, Or.inl ⟨rfl, rfl, rfl, rfl, rfl⟩⟩
  | some x => exact ⟨_, _, _, _, rfl, Or.inr ⟨x, rfl, rfl, rfl, rfl, rfl⟩⟩

/-- What a walk from the first element on has come to. -/
structure Along (L : List El) (i : Nat) (sum : Int) (A B : List El) : Prop where
  parts : A ++ B = L
  count : A.length = i
  sum : sum = wts A

theorem next_along {L A B : List El} {x : El} (hs : Sorted L) (h : A ++ x :: B = L) : nextL L x.k x.i = B.head? ∧ aheadL L x.k x.i = wts A := by
  subst h
  obtain ⟨-, h2, h3, h4⟩ := sorted_app hs
  constructor
  · rw [nextL_right hs (by unfold aft; omega)]
    cases B with
    | nil => rfl
    | cons y B => exact nextL_cons_pos (lt_aft.1 (h4 y (by simp)))
  · rw [aheadL_left hs (by unfold bef; omega), aheadL_all (fun y hy => h3 y hy)]

theorem tleast_is {M : Nat → Prop} {w : World} {p : Nat} {L : List El} {o : Option El} (h : TreeAt M w p L) (ho : L.head? = o) : Calls Try.prog 20 #[.pointer (some ⟨p, 0, none⟩)] w fun e w' => e = .returned (told o) ∧ Only (fun _ => False) w w' := by
  subst ho; exact tleast h
theorem tnext_is {M : Nat → Prop} {w : World} {p : Nat} {L : List El} {k i : Int} {o : Option El} (h : TreeAt M w p L) (ho : nextL L k i = o) : Calls Try.prog 23 #[.pointer (some ⟨p, 0, none⟩), .int .i64 k, .int .i64 i] w fun e w' => e = .returned (told o) ∧ Only (fun _ => False) w w' := by
  subst ho; exact tnext h k i
theorem tlen_is {M : Nat → Prop} {w : World} {p : Nat} {L : List El} {n : Nat} (h : TreeAt M w p L) (hn : L.length = n) : Calls Try.prog 19 #[.pointer (some ⟨p, 0, none⟩)] w fun e w' => e = .returned (.int .i64 n) ∧ w = w' := by
  subst hn; exact tlen h

theorem len_two : (treeTo [5, 3] [5, 3].length).length = 2 := rfl

set_option maxRecDepth 100000 in
set_option maxHeartbeats 2000000 in
theorem walks_walk (a : Option Addr) (len cap : Nat) (zs : List Int) (w : World) (h : IsRow .i64 w a len cap zs) :
    Calls Try.prog 4 #[.slice a len cap] w fun e w' => e = .returned (.bool true) ∧ Below w.heap.size w w' := by
  obtain ⟨xs, hxl, hx, -, hc1, hc2, hc3, hc4, hc5⟩ := nums_cut h 200
  have HX := Lib.hid hx
  have HXL := Lib.hid hxl
  unfold maxLen at hc3
  have hx2 : xs.length ≤ 200 := by omega
  clear h hx hc4 hxl
  go_enter Try.func4, Try.ntmps4
  go_upto_region 4 with (first
    | (go_at_call 18; (with_reducible refine (tree_any _ 2 2 [5, 3] _ (nums_two w) (by decide)).mono ?_); rintro e w1 ⟨q, rfl, ht, hb⟩; have HT := Lib.hid ht; have HB := Lib.hid ((below_two w).trans (hb.mono (by simp))); clear ht hb)
    | (go_at_call 19; go_must (refine (tlen_is HT.out len_two).mono ?_); rintro e w2 ⟨rfl, rfl⟩))
  go_cut [0] (fun s0 wx => s0 = .slice a xs.length cap ∧ wx = w1)
  case first =>
    have HE := HXL.out
    rcases Nat.lt_or_ge 200 len with h200 | h200
    rotate_left
    · have h201 : (len : Int) ≤ 200 := by omega
      rw [Nat.min_eq_left (by omega)] at HE
      clear HX HXL
      have HE := Lib.hid HE
      go_wp2
      go_meet
      exact ⟨by rw [HE.out], rfl⟩
    · have h201 : (200 : Int) < len := by omega
      rw [Nat.min_eq_right (by omega)] at HE
      clear HX HXL
      have HE := Lib.hid HE
      go_wp2
      go_meet
      exact ⟨by rw [HE.out], rfl⟩
  case rest =>
    obtain ⟨rfl, rfl⟩ := hcut
    have HN : Hid (Nums wc a xs.length xs) := Lib.hid (by have := HX.out.later HB.out; rwa [this.1] at this)
    clear HX HXL hc1 hc2
    obtain ⟨L, hL⟩ : ∃ L, treeTo xs xs.length = L := ⟨_, rfl⟩
    obtain ⟨t1, t2, t3, t4, htt, htl⟩ := tells_of L.head?
    have HTT := Lib.hid htt
    have HTL := Lib.hid htl
    have HL := Lib.hid hL
    clear htt htl hL
    go_wp2_with (first
      | (go_at_call 18; go_must (have hc := tree_any _ _ cap xs _ HN.out (by omega)); (with_reducible refine hc.mono ?_); clear hc; rintro e w3 ⟨q3, rfl, ht, hb⟩; rw [HL.out] at ht; have HT3 := Lib.hid (ht.mono (N := fun k => w.heap.size ≤ k) (fun k hk => Nat.le_trans HB.out.size hk)); have HN3 := Lib.hid (HN.out.later hb); have HB3 := Lib.hid (HB.out.trans (hb.mono HB.out.size)); clear ht hb)
      | (go_at_call 20; go_must (refine (tleast HT3.out).mono ?_); rintro e w4 ⟨rfl, ho⟩; rw [HTT.out]; have HT4 := Lib.hid (HT3.out.later ho); have HN4 := Lib.hid (HN3.out.later (ho.below (Nat.le_refl _) (fun _ e => e.elim))); have HB4 := Lib.hid (HB3.out.trans (ho.below HB3.out.size (fun _ e => e.elim))); clear ho))
    go_loopw [7, 8, 9, 10, 11, 48] (fun s7 s8 s9 s10 s11 s48 wr => ∃ (i : Nat) (sum : Int) (A B : List El), s48 = .int .i64 i ∧ s7 = .int .i64 sum ∧ Along L i sum A B ∧ Tells B.head? s8 s9 s10 s11 ∧ TreeAt (fun k => w.heap.size ≤ k) wr q3 L ∧ Nums wr a xs.length xs ∧ Below w.heap.size w wr) (fun _ _ _ _ _ s48 _ => xs.length - (intOf s48).toNat)
    case atStart => exact ⟨0, 0, [], L, rfl, rfl, ⟨rfl, rfl, rfl⟩, HTL.out, HT4.out, HN4.out, HB4.out⟩
    case round =>
      obtain ⟨i, sum, A, B, rfl, rfl, hal, htl, ht, hn, hb⟩ := hrel
      have HLEN : L.length = xs.length := by rw [← HL.out, treeTo_len]
      have hi : i ≤ xs.length := by have := hal.parts; rw [← HLEN, ← this, List.length_append, hal.count]; omega
      have bs := wts_bd (light_app.1 (hal.parts ▸ ht.light)).1
      have hs0 : 0 ≤ sum := by rw [hal.sum]; exact bs.1
      have hs1 : sum ≤ 200000000 := by rw [hal.sum]; have := bs.2; rw [hal.count] at this; omega
      have HAL := Lib.hid hal
      have HT5 := Lib.hid ht
      have HB5 := Lib.hid hb
      have HN5 := Lib.hid hn
      have HLEN2 := Lib.hid HLEN
      by_cases hlt : i < xs.length
      · cases B with
        | nil => exfalso; have := hal.parts; rw [List.append_nil] at this; rw [← HLEN, ← this, hal.count] at hlt; omega
        | cons x B =>
          rcases htl with ⟨h, -⟩ | ⟨x', h, rfl, rfl, rfl, rfl⟩
          · cases h
          · cases h
            obtain ⟨hnx, hah⟩ := next_along ht.sorted hal.parts
            obtain ⟨j, hj, hxj⟩ := treeTo_mem.1 (show x ∈ treeTo xs xs.length by rw [HL.out, ← hal.parts]; simp)
            obtain ⟨b, off, rfl, hbl, hcell⟩ := hn.2.resolve_left (by omega)
            have hc := hcell j hj
            obtain ⟨kx, ix, wx⟩ := x
            simp only [elAt, El.mk.injEq] at hxj
            obtain ⟨rfl, rfl, rfl⟩ := hxj
            simp only [] at hnx hah
            have hbd := ht.light ⟨restOf (num xs j) 20, j, restOf (num xs j) 100⟩ (by rw [← hal.parts]; simp)
            have wb0 : 0 ≤ restOf (num xs j) 100 := hbd.1
            have wb1 : restOf (num xs j) 100 ≤ 1000000 := hbd.2
            have hsw : sum + restOf (num xs j) 100 = wts (A ++ [⟨restOf (num xs j) 20, j, restOf (num xs j) 100⟩]) := by rw [wts_append, hal.sum]; simp [wts]
            have hal2 : Along L (i + 1) (sum + restOf (num xs j) 100) (A ++ [⟨restOf (num xs j) 20, j, restOf (num xs j) 100⟩]) B := ⟨by rw [List.append_assoc]; exact hal.parts, by simp [hal.count], hsw⟩
            have hso : ∀ y ∈ B, lt ⟨restOf (num xs j) 20, j, restOf (num xs j) 100⟩ y := by
              have := ht.sorted; rw [← hal.parts] at this; exact (sorted_app this).2.2.2
            rw [← hal.sum] at hah
            have HAH := Lib.hid hah
            have HAL2 := Lib.hid hal2
            have hcount : i + 1 + B.length = xs.length := by rw [← HLEN, ← hal.parts]; simp [hal.count]; omega
            have e1 : (j : Int) < xs.length := by omega
            have e2 : (0 : Int) ≤ j := by omega
            have hc2 : wr.cell? ⟨b, off + j, none⟩ = some (.int .i64 (num xs j)) := hc
            clear hc hcell hah hal2 hbd hal ht hn hb HLEN bs hsw
            generalize num xs j = v at *
            cases B with
            | nil =>
              have HNX := Lib.hid hnx
              simp only [List.length_nil] at hcount
              have e3 : ¬ (i : Int) < xs.length - 1 := by omega
              clear hnx hso
              go_wp2_with (first
                | (go_at_call 21; go_must (refine (rest_is _ (by decide) (by decide) _).mono ?_); rintro e w6 ⟨rfl, rfl⟩)
                | (go_at_call 22; go_must (refine (tahead_is HT5.out HAH.out).mono ?_); rintro e w6 ⟨rfl, ho⟩; have HT6 := Lib.hid (HT5.out.later ho); have HN6 := Lib.hid (HN5.out.later (ho.below (Nat.le_refl _) (fun _ e => e.elim))); have HB6 := Lib.hid (HB5.out.trans (ho.below HB5.out.size (fun _ e => e.elim))); clear ho)
                | (go_at_call 23; go_must (refine (tnext_is HT6.out HNX.out).mono ?_); rintro e w7 ⟨rfl, ho⟩; simp only [told]; have HT7 := Lib.hid (HT6.out.later ho); have HN7 := Lib.hid (HN6.out.later (ho.below (Nat.le_refl _) (fun _ e => e.elim))); have HB7 := Lib.hid (HB6.out.trans (ho.below HB6.out.size (fun _ e => e.elim))); clear ho))
              go_roundw
              case rel => exact ⟨i + 1, _, _, [], by go_num, rfl, HAL2.out, Or.inl ⟨rfl, rfl, rfl, rfl, rfl⟩, HT7.out, HN7.out, HB7.out⟩
              case measure => simp [intOf]; omega
            | cons y B =>
              have HNX : Hid (nextL L (restOf v 20) j = some y) := Lib.hid hnx
              simp only [List.length_cons] at hcount
              have e3 : (i : Int) < xs.length - 1 := by omega
              have hly := hso y (by simp)
              simp only [lt, bef] at hly
              clear hnx hso
              rcases hly with hly | ⟨hly, hli⟩
              · have e4 : ¬ y.k < restOf v 20 := by omega
                have e5 : (y.k == restOf v 20) = false := by simp; omega
                go_wp2_with (first
                  | (go_at_call 21; go_must (refine (rest_is _ (by decide) (by decide) _).mono ?_); rintro e w6 ⟨rfl, rfl⟩)
                  | (go_at_call 22; go_must (refine (tahead_is HT5.out HAH.out).mono ?_); rintro e w6 ⟨rfl, ho⟩; have HT6 := Lib.hid (HT5.out.later ho); have HN6 := Lib.hid (HN5.out.later (ho.below (Nat.le_refl _) (fun _ e => e.elim))); have HB6 := Lib.hid (HB5.out.trans (ho.below HB5.out.size (fun _ e => e.elim))); clear ho)
                  | (go_at_call 23; go_must (refine (tnext_is HT6.out HNX.out).mono ?_); rintro e w7 ⟨rfl, ho⟩; simp only [told]; have HT7 := Lib.hid (HT6.out.later ho); have HN7 := Lib.hid (HN6.out.later (ho.below (Nat.le_refl _) (fun _ e => e.elim))); have HB7 := Lib.hid (HB6.out.trans (ho.below HB6.out.size (fun _ e => e.elim))); clear ho))
                go_roundw
                case rel => exact ⟨i + 1, _, _, y :: B, by go_num, rfl, HAL2.out, Or.inr ⟨y, rfl, rfl, rfl, rfl, rfl⟩, HT7.out, HN7.out, HB7.out⟩
                case measure => simp [intOf]; omega
              · obtain ⟨yk, yi, yw⟩ := y
                simp only [] at hly hli
                subst hly
                have e6 : ¬ yi ≤ j := by omega
                go_wp2_with (first
                  | (go_at_call 21; go_must (refine (rest_is _ (by decide) (by decide) _).mono ?_); rintro e w6 ⟨rfl, rfl⟩)
                  | (go_at_call 22; go_must (refine (tahead_is HT5.out HAH.out).mono ?_); rintro e w6 ⟨rfl, ho⟩; have HT6 := Lib.hid (HT5.out.later ho); have HN6 := Lib.hid (HN5.out.later (ho.below (Nat.le_refl _) (fun _ e => e.elim))); have HB6 := Lib.hid (HB5.out.trans (ho.below HB5.out.size (fun _ e => e.elim))); clear ho)
                  | (go_at_call 23; go_must (refine (tnext_is HT6.out HNX.out).mono ?_); rintro e w7 ⟨rfl, ho⟩; simp only [told]; have HT7 := Lib.hid (HT6.out.later ho); have HN7 := Lib.hid (HN6.out.later (ho.below (Nat.le_refl _) (fun _ e => e.elim))); have HB7 := Lib.hid (HB6.out.trans (ho.below HB6.out.size (fun _ e => e.elim))); clear ho))
                go_roundw
                case rel => exact ⟨i + 1, _, _, ⟨restOf v 20, yi, yw⟩ :: B, by go_num, rfl, HAL2.out, Or.inr ⟨_, rfl, rfl, rfl, rfl, rfl⟩, HT7.out, HN7.out, HB7.out⟩
                case measure => simp [intOf]; omega
      · have e : i = xs.length := by omega
        subst e
        cases B with
        | cons x B => exfalso; have := HLEN; rw [← hal.parts] at this; simp [hal.count] at this
        | nil =>
          rcases htl with ⟨h, rfl, rfl, rfl, rfl⟩ | ⟨x', h, -⟩
          · have HW : Hid (wts L = sum) := Lib.hid (by rw [hal.sum, ← hal.parts, List.append_nil])
            clear hal ht hn hb HLEN bs h
            go_wp2_with (first
              | (go_at_call 11; go_must (refine (tsum_is HT5.out HW.out).mono ?_); rintro e w7 ⟨rfl, rfl⟩)
              | (go_at_call 19; go_must (refine (tlen_is HT5.out HLEN2.out).mono ?_); rintro e w2 ⟨rfl, rfl⟩))
            go_ret
            exact ⟨rfl, HB5.out⟩
          · cases h
end Go.Proofs.Ytbfnaejfmpnkbaa
