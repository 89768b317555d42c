/- Whoever is ready all the time has just its budget in each of its periods. Without memory. -/
import Derived.Test.YtijpiloljgpnkaaDMeet
namespace Go.Proofs.Ytijpiloljgpnkaa.De
set_option linter.unusedVariables false

section
variable {T : Tks} {k : Nat} {U : Nat → Int} {N n : Int}

/-- One task has turned, and wants no more. -/
theorem Meets.turn (h : Meets T k U N n) {i : Nat} (h1 : 1 ≤ i) (h2 : i ≤ k) {x : Tk} (hx : Has (U i) N x n) (hs : Can x → n < x.d) (hw : ∀ D, n ≤ D → want (U i) N x D n ≤ want (U i) N (T i) D n) : Meets (upd T i x) k U N n := by
  have hk := h.k16
  refine ⟨fun j q1 q2 => ?_, fun j q1 q2 => ?_, ?_, hk, h.all, fun j q1 q2 hc => ?_, fun D hD => ?_, h.n0⟩
  · unfold upd; split
    · rename_i e; subst e; exact hx
    · exact h.has j q1 q2
  · rw [upd_other _ _ (by omega)]; exact h.none j q1 q2
  · rw [upd_other _ _ (by omega)]; exact h.zero
  · unfold upd at hc ⊢; split at hc
    · rename_i e; rw [if_pos e]; exact hs hc
    · rename_i e; rw [if_neg e]; exact h.soon j q1 q2 hc
  · refine Int.le_trans (sumT_le (fun j q1 q2 => ?_)) (h.sum D hD)
    unfold upd; split
    · rename_i e; subst e; exact hw D hD
    · exact Int.le_refl _

theorem Meets.block (h : Meets T k U N n) {i : Nat} (h1 : 1 ≤ i) (h2 : i ≤ k) : Meets (upd T i ⟨(T i).b, (T i).p, (T i).l, (T i).d, false, (T i).o⟩) k U N n :=
  h.turn h1 h2 (h.has i h1 h2).slept (fun c => by cases c.1) (fun D _ => (h.has i h1 h2).want_slept)

theorem woke_soon {x : Tk} (hp : 1 ≤ x.p) (hc : Can (woke x n)) : n < (woke x n).d := by
  unfold woke at hc ⊢
  by_cases hs : x.o = false ∧ Stale x n
  · rw [if_pos hs]; show n < n + x.p; omega
  · rw [if_neg hs] at hc ⊢
    have ho : x.o = false := hc.2
    have : ¬ (x.d ≤ n ∨ x.b * (x.d - n) < x.l * x.p) := fun q => hs ⟨ho, q⟩
    show n < x.d
    omega
theorem Meets.wake (h : Meets T k U N n) {i : Nat} (h1 : 1 ≤ i) (h2 : i ≤ k) (hr : (T i).r = false) : Meets (upd T i (woke (T i) n)) k U N n :=
  h.turn h1 h2 ((h.has i h1 h2).woke h.n0) (woke_soon (h.has i h1 h2).p) (fun D hD => (h.has i h1 h2).want_woke hr hD)

/-- All come at time 0. -/
theorem Meets.start {b p : Nat → Int} (hk : k ≤ 16) (hN : 0 < N) (hT : ∀ i, 1 ≤ i → i ≤ k → T i = ⟨b i, p i, b i, 0 + p i, true, false⟩ ∧ 1 ≤ b i ∧ b i ≤ p i ∧ p i ≤ 30 ∧ U i * p i = b i * N) (h0 : (T 0).r = false) (hno : ∀ i, k < i → i < 17 → (T i).r = false) (hU : sumT U k ≤ N) : Meets T k U N 0 := by
  have hh : ∀ i, 1 ≤ i → i ≤ k → Has (U i) N (T i) 0 := by
    intro i h1 h2
    obtain ⟨e, b1, b2, b3, b4⟩ := hT i h1 h2
    rw [e]
    exact ⟨ok_came b1 b2 b3 (Int.le_refl _), (by show 1 ≤ p i; omega), b4, hN, (fun q => by cases q), Int.le_refl _⟩
  refine ⟨hh, hno, h0, hk, hU, fun i h1 h2 _ => ?_, fun D hD => ?_, Int.le_refl _⟩
  · obtain ⟨e, b1, b2, b3, b4⟩ := hT i h1 h2
    rw [e]; show 0 < 0 + p i; omega
  · have hl := sumT_le (f := fun i => want (U i) N (T i) D 0) (g := fun i => U i * D) (k := k) (fun i h1 h2 => by
      have hu := (hh i h1 h2).u0
      obtain ⟨e, b1, b2, b3, b4⟩ := hT i h1 h2
      rw [e]
      by_cases hd : D < 0 + p i
      · rw [want_far (x := ⟨b i, p i, b i, 0 + p i, true, false⟩) hd]; exact mul_nn hu hD
      · rw [want_r (x := ⟨b i, p i, b i, 0 + p i, true, false⟩) (show 0 + p i ≤ D by omega) rfl]
        show N * b i + U i * (D - (0 + p i)) ≤ _
        rw [Int.zero_add, Int.mul_sub, b4, Int.mul_comm N]; omega)
    rw [sumT_mul] at hl
    rw [Int.sub_zero]
    exact Int.le_trans hl (Int.mul_le_mul_of_nonneg_right hU hD)

/-- What a task that is ready all the time has had. -/
structure Even (x : Tk) (n given q : Int) : Prop where
  r : x.r = true
  d : x.d = x.p * q
  lo : x.p * (q - 1) ≤ n
  hi : n < x.d
  had : given = x.b * (q - 1) + (x.b - x.l)
  full : n = x.p * (q - 1) → x.l = x.b

theorem Even.start (b p : Int) (hp : 1 ≤ p) : Even ⟨b, p, b, 0 + p, true, false⟩ 0 0 1 :=
  ⟨rfl, by show 0 + p = p * 1; omega, by show p * (1 - 1) ≤ 0; simp, by show 0 < 0 + p; omega, by show 0 = b * (1 - 1) + (b - b); simp, fun _ => rfl⟩

/-- Its tick, or another's. -/
theorem Even.tick (h : Meets T k U N n) {i : Nat} (h1 : 1 ≤ i) (h2 : i ≤ k) {given q : Int} (he : Even (T i) n given q) :
    ∃ q', Even (De.tick T n i) (n + 1) (given + if pick T = i then 1 else 0) q' := by
  have hk := h.k16
  have hi := h.has i h1 h2
  have hp := hi.p
  have hn := h.n0
  have hr := he.r
  have hhi := he.hi
  have hlo := he.lo
  -- the task itself behind the use
  have key : ∃ V : Tks, De.tick T n i = again (V i) (n + 1) ∧ ((pick T = i ∧ Can (T i) ∧ V i = use (T i)) ∨ (pick T ≠ i ∧ V i = T i)) := by
    unfold De.tick
    by_cases h0 : pick T = 0
    · rw [if_pos h0]
      exact ⟨T, past_at T n (by omega), Or.inr ⟨by omega, rfl⟩⟩
    · rw [if_neg h0]
      refine ⟨_, past_at _ n (by omega), ?_⟩
      by_cases e : pick T = i
      · left
        have := (h.pick_in h0).2.2
        rw [e] at this ⊢
        exact ⟨rfl, this, upd_same _ _ _⟩
      · exact Or.inr ⟨e, upd_other _ _ (Ne.symm e)⟩
  obtain ⟨V, eV, hV⟩ := key
  rw [eV]
  by_cases hd : n + 1 < (T i).d
  · -- no refill
    rcases hV with ⟨e, hc, ev⟩ | ⟨e, ev⟩
    · have hnf : again (V i) (n + 1) = V i := by rw [ev]; exact if_neg (by rintro ⟨-, q2⟩; have q3 : (T i).d ≤ n + 1 := q2; omega)
      rw [hnf, ev, if_pos e]
      refine ⟨q, hr, he.d, by show (T i).p * (q - 1) ≤ n + 1; omega, hd, ?_, fun hh => ?_⟩
      · show given + 1 = (T i).b * (q - 1) + ((T i).b - ((T i).l - 1))
        have := he.had; omega
      · have hh2 : n + 1 = (T i).p * (q - 1) := hh
        omega
    · have hnf : again (V i) (n + 1) = V i := by rw [ev]; exact if_neg (by rintro ⟨-, q2⟩; omega)
      rw [hnf, ev, if_neg e]
      exact ⟨q, hr, he.d, by omega, hd, by have := he.had; omega, fun hh => by omega⟩
  · have hd1 : (T i).d = n + 1 := by omega
    have hq : (T i).p * (q + 1 - 1) = n + 1 := by rw [show q + 1 - 1 = q by omega, ← he.d]; exact hd1
    have e2 : (T i).b * (q + 1 - 1) = (T i).b * (q - 1) + (T i).b := by
      rw [show q + 1 - 1 = (q - 1) + 1 by omega, Int.mul_add, Int.mul_one]
    have e3 : (T i).d + (T i).p = (T i).p * (q + 1) := by rw [Int.mul_add, Int.mul_one, ← he.d]
    by_cases hc : Can (T i)
    · obtain ⟨l1, l2⟩ := h.last h1 h2 hc hd1
      rcases hV with ⟨e, -, ev⟩ | ⟨e, -⟩
      · have hf : again (V i) (n + 1) = fill (use (T i)) (T i).d := by
          rw [ev]; exact if_pos ⟨by show ((T i).l - 1 == 0) = true; rw [l2]; rfl, by show (T i).d ≤ n + 1; omega⟩
        rw [hf, if_pos e]
        refine ⟨q + 1, hr, e3, by show (T i).p * (q + 1 - 1) ≤ n + 1; omega, by show n + 1 < (T i).d + (T i).p; omega, ?_, fun _ => rfl⟩
        show given + 1 = (T i).b * (q + 1 - 1) + ((T i).b - (T i).b)
        have := he.had; rw [e2]; omega
      · exact absurd l1 e
    · have ho : (T i).o = true := by
        cases h : (T i).o with
        | true => rfl
        | false => exact absurd ⟨hr, h⟩ hc
      have hl : (T i).l = 0 := (hi.ok.lo (by omega)).1 ho
      rcases hV with ⟨-, hcc, -⟩ | ⟨e, ev⟩
      · exact absurd hcc hc
      · have hf : again (V i) (n + 1) = fill (T i) (T i).d := by rw [ev]; exact if_pos ⟨ho, by omega⟩
        rw [hf, if_neg e]
        refine ⟨q + 1, hr, e3, by show (T i).p * (q + 1 - 1) ≤ n + 1; omega, by show n + 1 < (T i).d + (T i).p; omega, ?_, fun _ => rfl⟩
        show given + 0 = (T i).b * (q + 1 - 1) + ((T i).b - (T i).b)
        have := he.had; rw [e2]; omega

/-- At the end of a period it has had just what it reserved. -/
theorem Even.done {x : Tk} {given q m : Int} (h : Even x n given q) (hp : 1 ≤ x.p) (hm : n = x.p * m) : given = x.b * m := by
  have h1 := h.lo
  have h2 := h.hi
  rw [h.d] at h2
  have e : q - 1 = m := by
    have a1 : x.p * (q - 1) < x.p * (m + 1) := by rw [Int.mul_add, Int.mul_one]; omega
    have a2 : x.p * m < x.p * q := by omega
    have b1 := Int.lt_of_mul_lt_mul_left a1 (by omega)
    have b2 := Int.lt_of_mul_lt_mul_left a2 (by omega)
    omega
  have := h.full (by rw [e]; exact hm)
  have := h.had
  rw [e] at this
  omega
end
end Go.Proofs.Ytijpiloljgpnkaa.De
