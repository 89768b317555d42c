/- Sets that fit, in a class of deadlines: who is ready all the time has just its budget. Without memory, but for the contract of Add. -/
import Derived.Test.YtijpiloljgpnkaaDEven
import Derived.Test.YtijpiloljgpnkaaDOps
import Derived.Test.YtijpiloljgpnkaaDBegun
import Derived.Test.YtijpiloljgpnkaaAdSets
import Derived.Test.YtijpiloljgpnkaaAdEdf
namespace Go.Proofs.Ytijpiloljgpnkaa.De
open Go.ChangeShapes Go.WideShapes Go.ChangeAt Go.RowKit Go.Maps
open Go.Proofs.Ytijpiloljgpnkaa.Ad (Use nthU okU SetOk shr sumK cst per UV)
set_option linter.unusedVariables false

/-- The tasks when the first k have come. -/
def addTo (S : List Use) : Nat → Tks
  | 0 => noT
  | k + 1 => upd (addTo S k) (k + 1) (came (nthU S k).1 (nthU S k).2 0)

theorem addTo_at (S : List Use) : ∀ (k i : Nat), addTo S k i = if 1 ≤ i ∧ i ≤ k then came (nthU S (i - 1)).1 (nthU S (i - 1)).2 0 else noTk
  | 0, i => by rw [if_neg (by omega)]; rfl
  | k + 1, i => by
    show upd (addTo S k) (k + 1) (came (nthU S k).1 (nthU S k).2 0) i = _
    by_cases e : i = k + 1
    · subst e; rw [upd_same, if_pos (by omega)]; rfl
    · rw [upd_other _ _ e, addTo_at S k i]
      by_cases h : 1 ≤ i ∧ i ≤ k
      · rw [if_pos h, if_pos (by omega)]
      · rw [if_neg h, if_neg (by omega)]

/-- The tasks have these budgets and periods. -/
def Fixed (S : List Use) (n : Nat) (T : Tks) : Prop := ∀ i, i < n → (T (i + 1)).b = (nthU S i).1 ∧ (T (i + 1)).p = (nthU S i).2

theorem again_b (x : Tk) (n : Int) : (again x n).b = x.b := by unfold again fill; split <;> rfl
theorem woke_bp (x : Tk) (n : Int) : (woke x n).b = x.b ∧ (woke x n).p = x.p := by unfold woke fill; split <;> exact ⟨rfl, rfl⟩
theorem tick_bp (T : Tks) (n : Int) {i : Nat} (hi : i < 17) : (tick T n i).b = (T i).b ∧ (tick T n i).p = (T i).p := by
  unfold tick
  split
  · rw [past_at T n hi]; exact ⟨again_b _ _, again_p _ _⟩
  · rw [past_at _ n hi, again_b, again_p]
    by_cases e : i = pick T
    · rw [e, upd_same]; exact ⟨rfl, rfl⟩
    · rw [upd_other _ _ e]; exact ⟨rfl, rfl⟩
theorem Fixed.tick {S : List Use} {n : Nat} {T : Tks} (h : Fixed S n T) (hn : n ≤ 16) (m : Int) : Fixed S n (tick T m) := fun i hi => by
  obtain ⟨h1, h2⟩ := tick_bp T m (i := i + 1) (by omega)
  rw [h1, h2]; exact h i hi
theorem Fixed.upd {S : List Use} {n : Nat} {T : Tks} (h : Fixed S n T) {k : Nat} {x : Tk} (hb : x.b = (T k).b) (hp : x.p = (T k).p) : Fixed S n (upd T k x) := fun i hi => by
  by_cases e : i + 1 = k
  · subst e; rw [upd_same, hb, hp]; exact h i hi
  · rw [upd_other _ _ e]; exact h i hi

theorem add_fit {S : List Use} (h : ∀ u ∈ S, okU u = true) : ∀ k, k ≤ S.length → Fit (addTo S k) 0 ∧ Bare (addTo S k)
  | 0, _ => ⟨fit_noT, bare_noT⟩
  | k + 1, hk => by
    obtain ⟨h1, h2⟩ := add_fit h k (by omega)
    have hu := Ad.okU_bd (h _ (Ad.nthU_mem (show k < S.length by omega)))
    exact ⟨h1.upd (ok_came (by omega) (by omega) (by omega) (Int.le_refl _)) (by omega), h2.upd (fun e => by have e2 : (nthU S k).2 = 0 := e; omega)⟩

/-- The shares, as they are wanted. -/
def shU (S : List Use) (i : Nat) : Int := shr 120 S (i - 1)
theorem sum_shU (S : List Use) : ∀ k, sumT (shU S) k = (sumK (shr 120 S) k : Nat)
  | 0 => rfl
  | k + 1 => by
    show sumT (shU S) k + shU S (k + 1) = ((sumK (shr 120 S) k + shr 120 S k : Nat) : Int)
    rw [sum_shU S k]; rfl

theorem SetOk.bd {S : List Use} (h : SetOk S) {i : Nat} (hi : i < S.length) : 1 ≤ (nthU S i).2 ∧ (nthU S i).2 ≤ 30 ∧ 1 ≤ (nthU S i).1 ∧ (nthU S i).1 ≤ (nthU S i).2 := Ad.okU_bd (h.each _ (Ad.nthU_mem hi)).1

theorem add_meets {S : List Use} (h : SetOk S) : Meets (addTo S S.length) S.length (shU S) 120 0 := by
  have hl := h.len
  refine Meets.start (b := fun i => (nthU S (i - 1)).1) (p := fun i => (nthU S (i - 1)).2) (by omega) (by omega) (fun i h1 h2 => ?_) ?_ (fun i h1 h2 => ?_) ?_
  · have hu := SetOk.bd h (show i - 1 < S.length by omega)
    have hn := Ad.okU_nat (h.each _ (Ad.nthU_mem (show i - 1 < S.length by omega))).1
    rw [addTo_at, if_pos ⟨h1, h2⟩]
    refine ⟨rfl, hu.2.2.1, hu.2.2.2, hu.2.1, ?_⟩
    show (shr 120 S (i - 1) : Int) * (nthU S (i - 1)).2 = (nthU S (i - 1)).1 * 120
    have := Ad.shr_per (N := 120) (S := S) (i := i - 1) (h.each _ (Ad.nthU_mem (show i - 1 < S.length by omega))).2
    rw [hn.1, hn.2.1, ← Int.natCast_mul, this]
    omega
  · rw [addTo_at, if_neg (by omega)]; rfl
  · rw [addTo_at, if_neg (by omega)]; rfl
  · rw [sum_shU]
    have := h.fits
    unfold Ad.shares at this
    rw [Ad.used_sum] at this
    exact Int.ofNat_le.2 this

theorem add_fixed (S : List Use) : Fixed S S.length (addTo S S.length) := fun i hi => by
  rw [addTo_at, if_pos (by omega)]; exact ⟨rfl, rfl⟩

/-- All that is so of the tasks at a time. -/
structure Going (S : List Use) (T : Tks) (t : Nat) : Prop where
  fit : Fit T t
  bare : Bare T
  meets : Meets T S.length (shU S) 120 t
  fixed : Fixed S S.length T

theorem Going.start {S : List Use} (h : SetOk S) : Going S (addTo S S.length) 0 := by
  obtain ⟨h1, h2⟩ := add_fit (fun u hu => (h.each u hu).1) S.length (Nat.le_refl _)
  exact ⟨h1, h2, add_meets h, add_fixed S⟩
theorem Going.tick {S : List Use} {T : Tks} {t : Nat} (h : Going S T t) : Going S (tick T t) (t + 1 : Nat) := by
  have e : (t : Int) + 1 = ((t + 1 : Nat) : Int) := by omega
  refine ⟨?_, h.bare.tick h.fit, ?_, h.fixed.tick h.meets.k16 _⟩
  · have := h.fit.tick h.bare (by omega); rwa [e] at this
  · have := h.meets.tick; rwa [e] at this

/-- Each has had what it should. -/
def Had (S : List Use) (T : Tks) (t : Nat) (gv : Nat → Nat) : Prop := ∀ i, i < S.length → (∃ q, Even (T (i + 1)) t (gv i) q) ∧ gv i ≤ t

theorem Had.start {S : List Use} (h : SetOk S) : Had S (addTo S S.length) 0 (fun _ => 0) := fun i hi => by
  have hu := SetOk.bd h hi
  refine ⟨⟨1, ?_⟩, Nat.le_refl _⟩
  rw [addTo_at, if_pos (by omega)]
  exact Even.start _ _ hu.1
theorem Had.tick {S : List Use} {T : Tks} {t : Nat} {gv : Nat → Nat} (h : Had S T t gv) (hg : Going S T t) : Had S (De.tick T t) (t + 1) (if pick T = 0 then gv else Ad.updN gv (pick T - 1) (gv (pick T - 1) + 1)) := fun i hi => by
  obtain ⟨⟨q, he⟩, hb⟩ := h i hi
  obtain ⟨q', he'⟩ := Even.tick hg.meets (i := i + 1) (by omega) (by omega) he
  have e : (t : Int) + 1 = ((t + 1 : Nat) : Int) := by omega
  rw [e] at he'
  by_cases h0 : pick T = 0
  · rw [if_pos h0]
    rw [if_neg (by omega), Int.add_zero] at he'
    exact ⟨⟨q', he'⟩, by omega⟩
  · rw [if_neg h0]
    by_cases hp : pick T = i + 1
    · rw [if_pos hp] at he'
      have e2 : pick T - 1 = i := by omega
      rw [e2, Ad.updN_same]
      exact ⟨⟨q', by rw [show ((gv i + 1 : Nat) : Int) = (gv i : Int) + 1 by omega]; exact he'⟩, by omega⟩
    · rw [if_neg hp, Int.add_zero] at he'
      rw [Ad.updN_other _ _ (show i ≠ pick T - 1 by omega)]
      exact ⟨⟨q', he'⟩, by omega⟩

/-- At the end of a period. -/
theorem Had.done {S : List Use} {T : Tks} {t : Nat} {gv : Nat → Nat} (h : Had S T t gv) (hg : Going S T t) (hs : SetOk S) {i : Nat} (hi : i < S.length) (hm : t % per (nthU S i) = 0) : t / per (nthU S i) * cst (nthU S i) = gv i := by
  obtain ⟨⟨q, he⟩, -⟩ := h i hi
  have hn := Ad.okU_nat (hs.each _ (Ad.nthU_mem hi)).1
  obtain ⟨hb, hp⟩ := hg.fixed i hi
  have hd := Nat.div_add_mod t (per (nthU S i))
  rw [hm, Nat.add_zero] at hd
  have := he.done (m := ((t / per (nthU S i) : Nat) : Int)) (by rw [hp]; omega) (by rw [hp, hn.2.1, ← Int.natCast_mul, hd])
  rw [hb, hn.1, ← Int.natCast_mul] at this
  have := Int.ofNat.inj this
  rw [this, Nat.mul_comm]
end Go.Proofs.Ytijpiloljgpnkaa.De
