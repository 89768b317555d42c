/- A class without groups: what its tasks cost, their times, who is ready. -/
import Derived.Test.YtkjcaainbomemaaFAlike
namespace Go.Proofs.Ytkjcaainbomemaa.Fr
open Go.ChangeShapes Go.WideShapes Go.ChangeAt Go.RowKit Go.Maps
open Go.Proofs.Ytkjcaainbomemaa.Vt
set_option linter.unusedVariables false

/-- Tasks without groups. -/
def flat (c v : Nat → Int) (b : Nat → Bool) : Tks := fun t => ⟨c t, v t, 0, b t⟩

/-- Only tasks are ready. -/
def Few (b : Nat → Bool) : Prop := ∀ t, b t = true → 1 ≤ t ∧ t ≤ 16

section
variable {c v : Nat → Int} {b : Nat → Bool} {G : Grs}
theorem flat_solo : Solo (flat c v b) := fun t _ _ => rfl
theorem flat_0 (hb : Few b) : ((flat c v b) 0).r = false := by
  show b 0 = false
  cases h : b 0 with
  | false => rfl
  | true => have := hb 0 h; omega
theorem flat_of {t : Nat} : isOf (flat c v b) 0 t ↔ b t = true := ⟨fun h => h.1, fun h => ⟨h, rfl⟩⟩
theorem flat_first (hb : Few b) {i : Nat} (hi : b i = true) : b (first (flat c v b) 0) = true ∧ 1 ≤ first (flat c v b) 0 ∧ first (flat c v b) 0 ≤ 16 ∧ ∀ t, b t = true → v (first (flat c v b) 0) ≤ v t := by
  have hn : first (flat c v b) 0 ≠ 0 := fun e => first_zero (flat_0 hb) e i (by have := hb i hi; omega) (flat_of.2 hi)
  have ho := flat_of.1 (first_of (flat_0 hb) hn)
  have h1 := hb _ ho
  exact ⟨ho, h1.1, h1.2, fun t ht => first_le (flat_0 hb) hn t (by have := hb t ht; omega) (flat_of.2 ht)⟩
theorem flat_next (hb : Few b) {i : Nat} (hi : b i = true) : next (flat c v b) G = (first (flat c v b) 0, v (first (flat c v b) 0)) := by
  obtain ⟨-, h1, -, -⟩ := flat_first (c := c) (v := v) hb hi
  rw [solo_next (flat_0 hb) flat_solo, if_neg (by omega)]
  rfl
theorem flat_next0 (hb : ∀ t, b t = false) : next (flat c v b) G = (0, 0) := by
  have h0 : ((flat c v b) 0).r = false := hb 0
  have : first (flat c v b) 0 = 0 := first_none h0 (fun t ht ho => by have := flat_of.1 ho; rw [hb t] at this; cases this)
  rw [solo_next h0 flat_solo, this]; rfl
theorem flat_tick {n : Nat} : tickT (flat c v b) n = flat c (upd v n (v n + c n)) b := by
  funext t
  unfold tickT flat upd
  by_cases e : t = n
  · subst e; simp
  · simp [e]
theorem flat_tickG {n : Nat} : tickG (flat c v b) G n = G := by unfold tickG; rw [if_pos (show (flat c v b n).g = 0 from rfl)]
theorem flat_block {n : Nat} : upd (flat c v b) n ⟨c n, v n, 0, false⟩ = flat c v (upd b n false) := by
  funext t
  unfold flat upd
  by_cases e : t = n
  · subst e; simp
  · simp [e]
theorem flat_leave {n : Nat} : upd (flat c v b) n ⟨0, 0, 0, false⟩ = flat (upd c n 0) (upd v n 0) (upd b n false) := by
  funext t
  unfold flat upd
  by_cases e : t = n
  · subst e; simp
  · simp [e]
theorem flat_wake {n : Nat} : wokeT (flat c v b) G n = flat c (upd v n (max (v n) (next (flat c v b) G).2)) (upd b n true) := by
  rw [wokeT_0 rfl]
  funext t
  show upd (flat c v b) n ⟨c n, max (v n) (next (flat c v b) G).2, 0, true⟩ t = _
  generalize (next (flat c v b) G).2 = x
  unfold flat upd
  by_cases e : t = n
  · subst e; simp
  · simp [e]
theorem flat_wakeG {n : Nat} : wokeG (flat c v b) G n = G := wokeG_0 rfl
theorem flat_fit {B : Int} (hb : Few b) (hc : ∀ t, 0 ≤ c t ∧ c t ≤ 1048576) (hc0 : c 0 = 0) (hcb : ∀ t, b t = true → c t ≠ 0) (hv : ∀ t, 0 ≤ v t ∧ v t ≤ B) (hB : 0 ≤ B) : Fit (flat c v b) noG B :=
  ⟨fun t _ => hc t, fun t _ => hv t, fun t _ => ⟨by simp [flat], by simp [flat]⟩, fun g _ => ⟨by simp [noG], by simp [noG]⟩, fun g _ => ⟨by simp [noG], hB⟩, hc0, fun t _ h => hcb t h⟩

/-- No two ready tasks are further apart than most. -/
def Near (v : Nat → Int) (b : Nat → Bool) (most : Int) : Prop := ∀ i j, b i = true → b j = true → v i - v j ≤ most

theorem near_tick {most : Int} (h : Near v b most) (hb : Few b) {i : Nat} (hi : b i = true) (hc : ∀ t, b t = true → 0 ≤ c t ∧ c t ≤ most) : Near (upd v (first (flat c v b) 0) (v (first (flat c v b) 0) + c (first (flat c v b) 0))) b most := by
  obtain ⟨h1, -, -, h2⟩ := flat_first (c := c) (v := v) hb hi
  generalize first (flat c v b) 0 = n at *
  intro i j hi hj
  have h3 := hc n h1
  have h4 := h i j hi hj
  have h5 := h2 i hi
  have h6 := h2 j hj
  unfold upd
  by_cases ei : i = n
  · by_cases ej : j = n
    · rw [if_pos ei, if_pos ej]; omega
    · rw [if_pos ei, if_neg ej]; subst ei; omega
  · by_cases ej : j = n
    · rw [if_neg ei, if_pos ej]; subst ej; omega
    · rw [if_neg ei, if_neg ej]; omega

theorem mkT_flat (m : Nat) (c v : Nat → Int) : mkT m c v = flat (fun t => if 1 ≤ t ∧ t ≤ m then c t else 0) (fun t => if 1 ≤ t ∧ t ≤ m then v t else 0) (fun t => decide (1 ≤ t ∧ t ≤ m)) := by
  funext t
  unfold mkT flat
  by_cases h : 1 ≤ t ∧ t ≤ m
  · simp [h]
  · simp [h]
end

section
variable {w : World} {p : Nat} {c v : Nat → Int} {b : Nat → Bool} {B x : Int} {n : Nat}
/-- A tick of a class without groups. -/
theorem tick_flat (h : FairAt w p (flat c v b) noG) (hF : Fit (flat c v b) noG B) (hB : B ≤ 9000000000000000000) (hb : Few b) {i : Nat} (hi : b i = true) (hn : first (flat c v b) 0 = n) (hx : (n : Int) = x) :
    Calls Try.prog 23 #[.pointer (some ⟨p, 0, none⟩)] w (FKeep w p (.tuple #[.int .i64 x, .int .i64 0]) (flat c (upd v n (v n + c n)) b) noG) := by
  have h1 := (flat_first (c := c) (v := v) hb hi).2.1
  rw [hn] at h1
  exact tick_is h hF hB (by rw [flat_next hb hi, hn]) (by omega) hx flat_tick flat_tickG
end

section
variable {w : World} {p : Nat} {c v : Nat → Int} {b : Nat → Bool}
theorem block_flat (h : FairAt w p (flat c v b) noG) (t : Nat) (h1 : 1 ≤ t) (h2 : t ≤ 16) (hc : c t ≠ 0) (hr : b t = true) :
    Calls Try.prog 21 #[.pointer (some ⟨p, 0, none⟩), .int .i64 t] w (FKeep w p (.int .i64 0) (flat c v (upd b t false)) noG) := by
  have := block_yes h t h1 h2 hc hr
  rw [← flat_block]
  exact this
theorem leave_flat (h : FairAt w p (flat c v b) noG) (t : Nat) (h1 : 1 ≤ t) (h2 : t ≤ 16) (hc : c t ≠ 0) :
    Calls Try.prog 18 #[.pointer (some ⟨p, 0, none⟩), .int .i64 t] w (FKeep w p (.int .i64 0) (flat (upd c t 0) (upd v t 0) (upd b t false)) noG) := by
  have := leave_yes h t h1 h2 hc
  rw [← flat_leave]
  exact this
theorem wake_flat (h : FairAt w p (flat c v b) noG) (t : Nat) (h1 : 1 ≤ t) (h2 : t ≤ 16) (hc : c t ≠ 0) (hr : b t = false) :
    Calls Try.prog 22 #[.pointer (some ⟨p, 0, none⟩), .int .i64 t] w (FKeep w p (.int .i64 0) (wokeT (flat c v b) noG t) noG) := by
  have := wk_yes h t h1 h2 hc hr (Int.le_refl 0) (show (0 : Int) ≤ 8 by omega)
  rwa [flat_wakeG] at this
end

/-- The sum of 1 to m. -/
def sumF (f : Nat → Int) : Nat → Int
  | 0 => 0
  | k + 1 => sumF f k + f (k + 1)

theorem sumF_upd (f : Nat → Int) (n : Nat) (x : Int) (m : Nat) : sumF (upd f n x) m = sumF f m + if 1 ≤ n ∧ n ≤ m then x - f n else 0 := by
  induction m with
  | zero => rw [if_neg (by omega)]; rfl
  | succ m ih =>
    unfold sumF
    rw [ih]
    by_cases e : m + 1 = n
    · subst e
      rw [upd_same, if_neg (by omega), if_pos (by omega)]; omega
    · rw [upd_other _ _ e]
      by_cases h : 1 ≤ n ∧ n ≤ m
      · rw [if_pos h, if_pos (by omega)]; omega
      · rw [if_neg h, if_neg (by omega)]; omega

theorem sumF_le {f g : Nat → Int} {m : Nat} (h : ∀ t, 1 ≤ t → t ≤ m → f t ≤ g t) : sumF f m ≤ sumF g m := by
  induction m with
  | zero => exact Int.le_refl _
  | succ m ih =>
    have h1 := ih (fun t h1 h2 => h t h1 (by omega))
    have h2 := h (m + 1) (by omega) (by omega)
    unfold sumF; omega

theorem sumF_more (f : Nat → Int) (x : Int) (m : Nat) : sumF (fun t => f t + x) m = sumF f m + x * m := by
  induction m with
  | zero => simp [sumF]
  | succ m ih =>
    unfold sumF
    rw [ih, Int.natCast_add, Int.mul_add]
    simp
    omega
end Go.Proofs.Ytkjcaainbomemaa.Fr
