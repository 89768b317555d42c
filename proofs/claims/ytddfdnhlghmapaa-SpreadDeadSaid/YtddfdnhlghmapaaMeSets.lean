/- Sets that fit, in a class of deadlines: who is ready all the time has just its budget. Without memory. -/
import Derived.Test.YtddfdnhlghmapaaMeEven
import Derived.Test.YtddfdnhlghmapaaAdSets
import Derived.Test.YtddfdnhlghmapaaAdEdf
namespace Go.Proofs.Ytddfdnhlghmapaa.De
open Go.Proofs.Ytddfdnhlghmapaa.Ad (Use nthU okU SetOk shr sumK cst per)
set_option linter.unusedVariables false

/-- The tasks have these budgets and periods. -/
def Fixed (S : List Use) (n : Nat) (T : Tks) : Prop := ∀ i, i < n → (T (i + 1)).b = (nthU S i).1 ∧ (T (i + 1)).p = (nthU S i).2

theorem again_b (x : Tk) (n : Int) : (again x n).b = x.b := by unfold again fill; split <;> rfl
theorem tick_bp (T : Tks) (n : Int) {i : Nat} (hi : i < 17) : (tick T n i).b = (T i).b ∧ (tick T n i).p = (T i).p := by
  unfold tick
  split
  · rw [past_at T n hi]; exact ⟨again_b _ _, again_p _ _⟩
  · rw [past_at _ n hi, again_b, again_p]
    by_cases e : i = pick T
    · rw [e, upd_same]; exact ⟨rfl, rfl⟩
    · rw [upd_other _ _ e]; exact ⟨rfl, rfl⟩
theorem Fixed.tick {S : List Use} {n : Nat} {T : Tks} (h : Fixed S n T) (hn : n ≤ 16) (m : Int) : Fixed S n (tick T m) := fun i hi => by
  obtain ⟨h1, h2⟩ := tick_bp T m (i := i + 1) (by omega)
  rw [h1, h2]; exact h i hi

/-- The shares, as they are wanted. -/
def shU (S : List Use) (i : Nat) : Int := shr 120 S (i - 1)
theorem sum_shU (S : List Use) : ∀ k, sumT (shU S) k = (sumK (shr 120 S) k : Nat)
  | 0 => rfl
  | k + 1 => by
    show sumT (shU S) k + shU S (k + 1) = ((sumK (shr 120 S) k + shr 120 S k : Nat) : Int)
    rw [sum_shU S k]; rfl

theorem SetOk.bd {S : List Use} (h : SetOk S) {i : Nat} (hi : i < S.length) : 1 ≤ (nthU S i).2 ∧ (nthU S i).2 ≤ 30 ∧ 1 ≤ (nthU S i).1 ∧ (nthU S i).1 ≤ (nthU S i).2 := Ad.okU_bd (h.each _ (Ad.nthU_mem hi)).1

/-- A task that has come just now. -/
def came0 (u : Use) : Tk := ⟨u.1, u.2, u.1, 0 + u.2, true, false⟩
theorem set_meets {S : List Use} (h : SetOk S) {T : Tks} (hT : ∀ i, 1 ≤ i → i ≤ S.length → T i = came0 (nthU S (i - 1))) (h0 : (T 0).r = false) (hno : ∀ i, S.length < i → i < 17 → (T i).r = false) : Meets T S.length (shU S) 120 0 := by
  have hl := h.len
  refine Meets.start (b := fun i => (nthU S (i - 1)).1) (p := fun i => (nthU S (i - 1)).2) (by omega) (by omega) (fun i h1 h2 => ?_) h0 hno ?_
  · have hu := SetOk.bd h (show i - 1 < S.length by omega)
    have hn := Ad.okU_nat (h.each _ (Ad.nthU_mem (show i - 1 < S.length by omega))).1
    rw [hT i h1 h2]
    refine ⟨rfl, hu.2.2.1, hu.2.2.2, hu.2.1, ?_⟩
    show (shr 120 S (i - 1) : Int) * (nthU S (i - 1)).2 = (nthU S (i - 1)).1 * 120
    have := Ad.shr_per (N := 120) (S := S) (i := i - 1) (h.each _ (Ad.nthU_mem (show i - 1 < S.length by omega))).2
    rw [hn.1, hn.2.1, ← Int.natCast_mul, this]
    omega
  · rw [sum_shU]
    have := h.fits
    unfold Ad.shares at this
    rw [Ad.used_sum] at this
    exact Int.ofNat_le.2 this

/-- All that is so of the tasks at a time. -/
structure Going (S : List Use) (T : Tks) (t : Nat) : Prop where
  meets : Meets T S.length (shU S) 120 t
  fixed : Fixed S S.length T
theorem Going.tick {S : List Use} {T : Tks} {t : Nat} (h : Going S T t) : Going S (tick T t) (t + 1 : Nat) := by
  have e : (t : Int) + 1 = ((t + 1 : Nat) : Int) := by omega
  refine ⟨?_, h.fixed.tick h.meets.k16 _⟩
  have := h.meets.tick; rwa [e] at this

/-- Each has had what it should. -/
def Had (S : List Use) (T : Tks) (t : Nat) (gv : Nat → Nat) : Prop := ∀ i, i < S.length → (∃ q, Even (T (i + 1)) t (gv i) q) ∧ gv i ≤ t

theorem Had.start {S : List Use} (h : SetOk S) {T : Tks} (hT : ∀ i, 1 ≤ i → i ≤ S.length → T i = came0 (nthU S (i - 1))) : Had S T 0 (fun _ => 0) := fun i hi => by
  have hu := SetOk.bd h hi
  refine ⟨⟨1, ?_⟩, Nat.le_refl _⟩
  rw [hT (i + 1) (by omega) (by omega)]
  exact Even.start _ _ hu.1
theorem Had.tick {S : List Use} {T : Tks} {t : Nat} {gv : Nat → Nat} (h : Had S T t gv) (hg : Going S T t) : Had S (De.tick T t) (t + 1) (if pick T = 0 then gv else Ad.updN gv (pick T - 1) (gv (pick T - 1) + 1)) := fun i hi => by
  obtain ⟨⟨q, he⟩, hb⟩ := h i hi
  obtain ⟨q', he'⟩ := Even.tick hg.meets (i := i + 1) (by omega) (by omega) he
  have e : (t : Int) + 1 = ((t + 1 : Nat) : Int) := by omega
  rw [e] at he'
  by_cases h0 : pick T = 0
  · rw [if_pos h0]
    rw [if_neg (by omega), Int.add_zero] at he'
    exact ⟨⟨q', he'⟩, by omega⟩
  · rw [if_neg h0]
    by_cases hp : pick T = i + 1
    · rw [if_pos hp] at he'
      have e2 : pick T - 1 = i := by omega
      rw [e2, Ad.updN_same]
      exact ⟨⟨q', by rw [show ((gv i + 1 : Nat) : Int) = (gv i : Int) + 1 by omega]; exact he'⟩, by omega⟩
    · rw [if_neg hp, Int.add_zero] at he'
      rw [Ad.updN_other _ _ (show i ≠ pick T - 1 by omega)]
      exact ⟨⟨q', he'⟩, by omega⟩

/-- At the end of a period. -/
theorem Had.done {S : List Use} {T : Tks} {t : Nat} {gv : Nat → Nat} (h : Had S T t gv) (hg : Going S T t) (hs : SetOk S) {i : Nat} (hi : i < S.length) (hm : t % per (nthU S i) = 0) : t / per (nthU S i) * cst (nthU S i) = gv i := by
  obtain ⟨⟨q, he⟩, -⟩ := h i hi
  have hn := Ad.okU_nat (hs.each _ (Ad.nthU_mem hi)).1
  obtain ⟨hb, hp⟩ := hg.fixed i hi
  have hd := Nat.div_add_mod t (per (nthU S i))
  rw [hm, Nat.add_zero] at hd
  have := he.done (m := ((t / per (nthU S i) : Nat) : Int)) (by rw [hp]; omega) (by rw [hp, hn.2.1, ← Int.natCast_mul, hd])
  rw [hb, hn.1, ← Int.natCast_mul] at this
  have := Int.ofNat.inj this
  rw [this, Nat.mul_comm]

theorem shares_cons (N : Nat) (x : Use) (l : List Use) : Ad.shares N (x :: l) = Ad.shares N [x] + Ad.shares N l := Ad.shares_append N [x] l
theorem shares_perm {N : Nat} {S T : List Use} (h : S.Perm T) : Ad.shares N S = Ad.shares N T := by
  induction h with
  | nil => rfl
  | @cons x l1 l2 _ ih => rw [shares_cons N x l1, shares_cons N x l2, ih]
  | swap x y l => rw [shares_cons N y (x :: l), shares_cons N x l, shares_cons N x (y :: l), shares_cons N y l]; omega
  | trans _ _ h1 h2 => rw [h1, h2]
theorem SetOk.perm {S T : List Use} (h : SetOk S) (p : T.Perm S) : SetOk T :=
  ⟨by rw [p.length_eq]; exact h.len, fun u hu => h.each u (p.mem_iff.1 hu), by rw [shares_perm p]; exact h.fits⟩
theorem nthU_get {S : List Use} {k : Nat} (hk : k < S.length) : nthU S k = S[k] := by
  unfold Ad.nthU; simp [List.getD, hk]
/-- The next one of a set fits with those ahead of it. -/
theorem SetOk.next {S : List Use} (h : SetOk S) {k : Nat} (hk : k < S.length) : Ad.chk (nthU S k :: S.take k) = 0 ∧ Ad.shareN (nthU S k :: S.take k) ≤ 1 * Ad.shareD (nthU S k :: S.take k) := by
  have hl := h.len
  have hmem : ∀ x ∈ nthU S k :: S.take k, okU x = true ∧ per x ∣ 120 := by
    intro x hx
    rcases List.mem_cons.1 hx with e | e
    · subst e; exact h.each _ (Ad.nthU_mem hk)
    · exact h.each x (List.mem_of_mem_take e)
  refine ⟨Ad.chk_of (by simp; omega) fun x hx => (hmem x hx).1, ?_⟩
  refine (Ad.share_le_of (S := nthU S k :: S.take k) (Ad.allOk_mem.2 fun x hx => (hmem x hx).1) (N := 120) (by omega) (fun j hj => (hmem _ (Ad.nthU_mem hj)).2) 1).2 ?_
  have e : S = S.take k ++ (nthU S k :: S.drop (k + 1)) := by
    rw [nthU_get hk, ← List.drop_eq_getElem_cons hk, List.take_append_drop]
  have e1 : Ad.shares 120 S = Ad.shares 120 (S.take k) + (Ad.shares 120 [nthU S k] + Ad.shares 120 (S.drop (k + 1))) := by
    rw [← shares_cons, ← Ad.shares_append]; exact congrArg _ e
  have e2 := shares_cons 120 (nthU S k) (S.take k)
  have e3 := h.fits
  show Ad.shares 120 (nthU S k :: S.take k) ≤ 1 * 120
  omega
end Go.Proofs.Ytddfdnhlghmapaa.De
