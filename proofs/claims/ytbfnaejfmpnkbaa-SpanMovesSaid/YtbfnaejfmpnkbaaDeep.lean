/- The walk of SpanDeep. -/
import Derived.Test.YtbfnaejfmpnkbaaLies
namespace Go.Proofs.Ytbfnaejfmpnkbaa
open Go.ChangeShapes Go.WideShapes Go.ChangeAt Go.RowKit
set_option linter.unusedVariables false

/-- The element that the law puts in at its j-th round. -/
def step (d : Int) (j : Nat) : El := ⟨(j : Int) * d, 0, 1⟩

/-- The tree of the first k. -/
def Steps (d : Int) (k : Nat) (L : List El) : Prop := L.length = k ∧ ∀ x, x ∈ L ↔ ∃ j : Nat, j < k ∧ x = step d j

/-- The tree of some of them, from k on all. -/
def Rests (d : Int) (n k : Nat) (L : List El) : Prop := L.length ≤ n ∧ (∀ x ∈ L, x.w = 1) ∧ ∀ j : Nat, k ≤ j → j < n → step d j ∈ L

theorem step_inj {d : Int} (h : 0 < d) {a b : Nat} (e : (a : Int) * d = (b : Int) * d) : a = b := by
  have := Int.eq_of_mul_eq_mul_right (by omega) e
  omega

theorem steps_new {d : Int} {k : Nat} {L : List El} (h : 0 < d) (hs : Steps d k L) : ¬ Is L ((k : Int) * d) 0 := by
  rintro ⟨x, hx, h1, h2⟩
  obtain ⟨j, hj, rfl⟩ := (hs.2 x).1 hx
  have := step_inj h h1
  omega

theorem steps_next {d : Int} {k : Nat} {L : List El} (hs : Steps d k L) : Steps d (k + 1) (put (step d k) L) := by
  refine ⟨by rw [put_len, hs.1], fun x => ?_⟩
  rw [put_mem, hs.2 x]
  constructor
  · rintro (rfl | ⟨j, hj, rfl⟩)
    · exact ⟨k, by omega, rfl⟩
    · exact ⟨j, by omega, rfl⟩
  · rintro ⟨j, hj, rfl⟩
    by_cases e : j = k
    · subst e; exact Or.inl rfl
    · exact Or.inr ⟨j, by omega, rfl⟩

theorem rests_of {d : Int} {n : Nat} {L : List El} (hs : Steps d n L) : Rests d n 0 L := by
  refine ⟨by rw [hs.1]; exact Nat.le_refl _, fun x hx => ?_, fun j _ hj => (hs.2 _).2 ⟨j, hj, rfl⟩⟩
  obtain ⟨j, _, rfl⟩ := (hs.2 x).1 hx
  rfl

theorem cut_keep {k i : Int} {l : List El} {y : El} (h : y ∈ l) (hn : ¬ (y.k = k ∧ y.i = i)) : y ∈ cut k i l := by
  induction l with
  | nil => cases h
  | cons x l ih =>
    simp only [cut]
    split
    · rename_i g
      rcases List.mem_cons.1 h with e | h
      · subst e; exact absurd g hn
      · exact h
    · rcases List.mem_cons.1 h with e | h
      · subst e; exact List.mem_cons_self
      · exact List.mem_cons_of_mem _ (ih h)

theorem rests_cut {d : Int} {n k : Nat} {L : List El} (h : 0 < d) (hs : Rests d n k L) : Rests d n (k + 1) (cut ((k : Int) * d) 0 L) :=
  ⟨Nat.le_trans (cut_sub _ _ L).length_le hs.1, fun x hx => hs.2.1 x (cut_mem hx), fun j h1 h2 => cut_keep (hs.2.2 j (by omega) h2) (fun e => by have := step_inj h e.1; omega)⟩
theorem rests_on {d : Int} {n k : Nat} {L : List El} (hs : Rests d n k L) : Rests d n (k + 1) L := ⟨hs.1, hs.2.1, fun j h1 h2 => hs.2.2 j (by omega) h2⟩

theorem wts_ones {L : List El} (h : ∀ x ∈ L, x.w = 1) : wts L = L.length := by
  induction L with
  | nil => rfl
  | cons x L ih =>
    simp only [wts, List.length_cons]
    rw [h x (by simp), ih (fun y hy => h y (by simp [hy]))]
    push_cast; omega

theorem low_one {d : Nat} (h : Low 1 d) : d = 1 := by
  obtain ⟨h1, h2, -⟩ := h
  match d, h1, h2 with
  | 0, _, h2 => exact absurd h2 (by decide)
  | 1, _, _ => rfl
theorem low_thousand {n d : Nat} (h : Low n d) (hn : n < 1024) : d ≤ 16 := by
  have := h.2.2 10 hn; omega

theorem prod_bd {d : Int} {k : Nat} (h1 : 0 < d) (h2 : d ≤ 7) (h3 : k < 1000) : 0 ≤ (k : Int) * d ∧ (k : Int) * d ≤ 7000 := by
  constructor
  · exact Int.mul_nonneg (by omega) (by omega)
  · calc (k : Int) * d ≤ 1000 * 7 := Int.mul_le_mul (by omega) h2 (by omega) (by omega)
      _ = 7000 := rfl

set_option maxRecDepth 100000 in
set_option maxHeartbeats 2000000 in
theorem deep_walk (f n b : Int) (w : World) : Calls Try.prog 7 #[.int .i64 f, .int .i64 n, .int .i64 b] w fun e w' => e = .returned (.bool true) ∧ Below w.heap.size w w' := by
  have n0 := restOf_lo n 1000 (by decide)
  have n1 := restOf_hi n 1000 (by decide)
  have d0 := restOf_lo b 7 (by decide)
  have d1 := restOf_hi b 7 (by decide)
  have f0 := restOf_lo f 3 (by decide)
  have f1 := restOf_hi f 3 (by decide)
  generalize hn : restOf n 1000 = m at *
  generalize hb : restOf b 7 = b2 at *
  generalize hf : restOf f 3 = f2 at *
  have HN := Lib.hid hn
  have HB0 := Lib.hid hb
  have HF := Lib.hid hf
  obtain ⟨m, rfl⟩ := Int.eq_ofNat_of_zero_le n0
  obtain ⟨d, hd⟩ : ∃ d, 1 + b2 = d := ⟨_, rfl⟩
  have HD := Lib.hid hd
  have d2 : 0 < d := by omega
  have d3 : d ≤ 7 := by omega
  clear hn hb hf hd
  go_enter Try.func7, Try.ntmps7
  have tok1 : True := trivial
  go_upto_region 6 with (first
    | (go_at_call 9; have _t := tok1; go_must (refine (tnew w).mono ?_); rintro e w1 ⟨q, rfl, ht, ho⟩; have HT := Lib.hid ht; have HO := Lib.hid (ho.below (B := w.heap.size) (Nat.le_refl _) (fun _ e => e.elim)); clear ht ho tok1)
    | (go_at_call 10; go_must (have hc := tput HT.out (k := 1) (i := 1) (v := 1) (by rintro ⟨x, hx, -⟩; cases hx) (by decide) (by decide) (by decide)); (with_reducible refine hc.mono ?_); clear hc; rintro e w2 ⟨rfl, ht, ho⟩; have HT2 := Lib.hid ht; have HO2 := Lib.hid (HO.out.trans (ho.below HO.out.size (fun _ e => e))); clear ht ho)
    | (go_at_call 25; go_must (refine (tdeep HT2.out).mono ?_); rintro e w3 ⟨dd, hl, rfl, rfl⟩; obtain rfl := low_one hl; clear hl)
    | (go_at_call 9; go_must (refine (tnew _).mono ?_); rintro e w4 ⟨q4, rfl, ht, ho⟩; have HT4 := Lib.hid (ht.mono (N := fun k => w.heap.size ≤ k) (fun k hk => Nat.le_trans HO2.out.size hk)); have HO4 := Lib.hid (HO2.out.trans (ho.below HO2.out.size (fun _ e => e.elim))); clear ht ho)
    | (go_at_call 21; go_must (refine (rest_is _ (by decide) (by decide) _).mono ?_); rintro e w5 ⟨rfl, rfl⟩; (first | rw [HN.out] | rw [HB0.out])))
  rw [HD.out]
  clear d0 d1 n0
  go_wp2_with fail
  go_loopw [32] (fun s wr => ∃ (k : Nat) (L : List El), s = .int .i64 k ∧ k ≤ m ∧ TreeAt (fun k => w.heap.size ≤ k) wr q4 L ∧ Steps d k L ∧ Below w.heap.size w wr) (fun s _ => m - (intOf s).toNat)
  case atStart => exact ⟨0, [], rfl, Nat.zero_le _, HT4.out, ⟨rfl, fun x => by simp⟩, HO4.out⟩
  case round =>
    obtain ⟨k, L, rfl, hk, ht, hs, hb⟩ := hrel
    have HT5 := Lib.hid ht
    have HS5 := Lib.hid hs
    have HB5 := Lib.hid hb
    clear ht hs hb
    by_cases hlt : k < m
    · obtain ⟨p0, p1⟩ := prod_bd d2 d3 (show k < 1000 by omega)
      go_wp2_with (go_at_call 10; go_must (have hc := tput HT5.out (k := (k : Int) * d) (i := 0) (v := 1) (steps_new d2 HS5.out) (by decide) (by decide) (by rw [HS5.out.1]; omega)); (with_reducible refine hc.mono ?_); clear hc; rintro e w6 ⟨rfl, ht, ho⟩; have HT6 := Lib.hid (ht.mono (N := fun k => w.heap.size ≤ k) (fun k hk => by rcases hk with hk | hk; exact hk; exact Nat.le_trans HB5.out.size hk)); have HB6 := Lib.hid (HB5.out.trans (ho.below HB5.out.size (fun _ e => e))); clear ht ho)
      go_roundw
      case rel => exact ⟨k + 1, _, by go_num, by omega, HT6.out, steps_next HS5.out, HB6.out⟩
      case measure => simp [intOf]; omega
    · have e : k = m := by omega
      subst e
      go_wp2_with fail
      go_loopw [43] (fun s wr => ∃ (j : Nat) (L : List El), s = .int .i64 j ∧ j ≤ k ∧ TreeAt (fun k => w.heap.size ≤ k) wr q4 L ∧ Rests d k j L ∧ Below w.heap.size w wr) (fun s _ => k - (intOf s).toNat)
      case atStart => exact ⟨0, L, rfl, Nat.zero_le _, HT5.out, rests_of HS5.out, HB5.out⟩
      case round =>
        obtain ⟨j, L2, rfl, hj, ht, hs, hb⟩ := hrel
        have HT7 := Lib.hid ht
        have HS7 := Lib.hid hs
        have HB7 := Lib.hid hb
        clear ht hs hb
        by_cases hlt2 : j < k
        · obtain ⟨p0, p1⟩ := prod_bd d2 d3 (show j < 1000 by omega)
          go_wp2_with (first
            | (go_at_call 21; go_must (refine (rest_is _ (by decide) (by decide) _).mono ?_); rintro e w8 ⟨rfl, rfl⟩; rw [HF.out])
            | (go_at_call 15; go_must (have hc : Calls Try.prog 15 #[.pointer (some ⟨q4, 0, none⟩), .int .i64 ((j : Int) * d), .int .i64 0] wr (TAns (fun k => w.heap.size ≤ k) wr q4 (.tuple #[.int .i64 1, .int .i64 0]) (cut ((j : Int) * d) 0 L2)) := tout HT7.out (x := step d j) (HS7.out.2.2 j (Nat.le_refl _) hlt2)); (with_reducible refine hc.mono ?_); clear hc; rintro e w8 ⟨rfl, ht, ho⟩; have HT8 := Lib.hid (ht.mono (N := fun k => w.heap.size ≤ k) (fun k hk => by rcases hk with hk | hk; exact hk; exact Nat.le_trans HB7.out.size hk)); have HB8 := Lib.hid (HB7.out.trans (ho.below HB7.out.size (fun _ e => e))); clear ht ho))
          · go_roundw
            case rel => exact ⟨j + 1, _, by go_num, by omega, HT8.out, rests_cut d2 HS7.out, HB8.out⟩
            case measure => simp [intOf]; omega
          · go_roundw
            case rel => exact ⟨j + 1, _, by go_num, by omega, HT7.out, rests_on HS7.out, HB7.out⟩
            case measure => simp [intOf]; omega
        · have e : j = k := by omega
          subst e
          have HW : Hid (wts L2 = L2.length) := Lib.hid (wts_ones HS7.out.2.1)
          have hlen : L2.length ≤ 1000 := by have := HS7.out.1; omega
          obtain ⟨s, hs⟩ : ∃ s, L2.length = s := ⟨_, rfl⟩
          have HS := Lib.hid hs
          rw [hs] at HW hlen
          clear hs
          go_wp2_with (first
            | (go_at_call 25; go_must (refine (tdeep HT7.out).mono ?_); rintro e w3 ⟨dd, hl, rfl, rfl⟩; have hl2 := low_thousand hl (by rw [HS.out]; omega); have hl3 : (dd : Int) ≤ 16 := (by omega); clear hl)
            | (go_at_call 19; go_must (refine (tlen HT7.out).mono ?_); rintro e w3 ⟨rfl, rfl⟩; rw [HS.out])
            | (go_at_call 11; go_must (refine (tsum_is HT7.out HW.out).mono ?_); rintro e w3 ⟨rfl, rfl⟩))
          go_ret
          exact ⟨rfl, HB7.out⟩
end Go.Proofs.Ytbfnaejfmpnkbaa
