/- Texts of this claim, merged: OFPure, OFFit, PkInv, PkPres, PkReady, PkNew, Rest, PkMine, OFNextp. -/
import Derived.Test.YtpincdcebhmnhaaGreatM03
import Derived.Test.YtpincdcebhmnhaaGreatM12
import Derived.Test.YtpincdcebhmnhaaGreatM11
import Derived.Test.YtpincdcebhmnhaaGreatM01
import Derived.IntWalk
/- Who goes first, and who goes next, without memory: what first and next answer; a class of ready tasks without groups. -/
namespace Go.Proofs.YtpincdcebhmnhaaGreat.Fr
open Go.Proofs.YtpincdcebhmnhaaGreat.Vt
set_option linter.unusedVariables false

/-- Is t ready, and of group g? -/
def isOf (T : Tks) (g : Int) (t : Nat) : Prop := (T t).r = true ∧ (T t).g = g

theorem firstTo_spec (T : Tks) (g : Int) (k : Nat) (h0 : (T 0).r = false) :
    (firstTo T g k = 0 → ∀ t, t < k → ¬ isOf T g t) ∧
    (firstTo T g k ≠ 0 → isOf T g (firstTo T g k) ∧ ∀ t, t < k → isOf T g t → (T (firstTo T g k)).v ≤ (T t).v ∧ ((T (firstTo T g k)).v = (T t).v → firstTo T g k ≤ t)) := by
  induction k with
  | zero => exact ⟨fun _ t ht => absurd ht (Nat.not_lt_zero _), fun h => absurd rfl h⟩
  | succ k ih =>
    obtain ⟨i1, i2⟩ := ih
    have hl := firstTo_lt T g k
    have hk0 : (T k).r = true → k ≠ 0 := by rintro h rfl; rw [h0] at h; cases h
    unfold firstTo
    by_cases hc : (T k).r = true ∧ (T k).g = g ∧ (firstTo T g k = 0 ∨ (T k).v < (T (firstTo T g k)).v)
    · rw [if_pos hc]
      refine ⟨fun e => absurd e (hk0 hc.1), fun _ => ⟨⟨hc.1, hc.2.1⟩, fun t ht hof => ?_⟩⟩
      by_cases e : t = k
      · subst e; exact ⟨Int.le_refl _, fun _ => Nat.le_refl _⟩
      · by_cases z : firstTo T g k = 0
        · exact absurd hof (i1 z t (by omega))
        · have h1 := (i2 z).2 t (by omega) hof
          rcases hc.2.2 with h2 | h2
          · exact absurd h2 z
          · exact ⟨by omega, fun h => by omega⟩
    · rw [if_neg hc]
      refine ⟨fun z t ht hof => ?_, fun z => ⟨(i2 z).1, fun t ht hof => ?_⟩⟩
      · by_cases e : t = k
        · subst e; exact hc ⟨hof.1, hof.2, Or.inl z⟩
        · exact i1 z t (by omega) hof
      · by_cases e : t = k
        · subst e
          have : ¬ (T t).v < (T (firstTo T g t)).v := fun h => hc ⟨hof.1, hof.2, Or.inr h⟩
          exact ⟨by omega, fun _ => by omega⟩
        · exact (i2 z).2 t (by omega) hof

section
variable {T : Tks} {G : Grs} {g : Int}
theorem first_zero (h0 : (T 0).r = false) (h : first T g = 0) (t : Nat) (ht : t < 17) : ¬ isOf T g t := (firstTo_spec T g 17 h0).1 h t ht
theorem first_of (h0 : (T 0).r = false) (h : first T g ≠ 0) : isOf T g (first T g) := ((firstTo_spec T g 17 h0).2 h).1
theorem first_le (h0 : (T 0).r = false) (h : first T g ≠ 0) (t : Nat) (ht : t < 17) (ho : isOf T g t) : (T (first T g)).v ≤ (T t).v := (((firstTo_spec T g 17 h0).2 h).2 t ht ho).1
theorem first_num (h0 : (T 0).r = false) (h : first T g ≠ 0) (t : Nat) (ht : t < 17) (ho : isOf T g t) (e : (T (first T g)).v = (T t).v) : first T g ≤ t := (((firstTo_spec T g 17 h0).2 h).2 t ht ho).2 e

theorem first_none (h0 : (T 0).r = false) (h : ∀ t, t < 17 → ¬ isOf T g t) : first T g = 0 := by
  apply Decidable.byContradiction
  intro hn
  exact h _ (first_lt T g) (first_of h0 hn)

theorem first_is (h0 : (T 0).r = false) (m : Nat) (hm : m < 17) (ho : isOf T g m) (h : ∀ t, t < 17 → isOf T g t → (T m).v < (T t).v ∨ ((T m).v = (T t).v ∧ m ≤ t)) : first T g = m := by
  have hn : first T g ≠ 0 := fun e => first_zero h0 e m hm ho
  have h1 := first_le h0 hn m hm ho
  rcases h _ (first_lt T g) (first_of h0 hn) with h2 | ⟨h2, h3⟩
  · omega
  · have := first_num h0 hn m hm ho (by omega)
    omega

/-- No ready task has a group. -/
def Solo (T : Tks) : Prop := ∀ t, t < 17 → (T t).r = true → (T t).g = 0

theorem solo_first (h0 : (T 0).r = false) (hs : Solo T) (hg : g ≠ 0) : first T g = 0 := first_none h0 (fun t ht ho => hg (ho.2.symm.trans (hs t ht ho.1)))

theorem solo_nextTo (h0 : (T 0).r = false) (hs : Solo T) (k : Nat) : nextTo T G k = (0, 0) := by
  induction k with
  | zero => rfl
  | succ k ih =>
    unfold nextTo
    rw [if_neg (fun h => h.1 (solo_first h0 hs (by omega))), ih]

theorem solo_next (h0 : (T 0).r = false) (hs : Solo T) : next T G = (first T 0, if first T 0 = 0 then 0 else (T (first T 0)).v) := by
  unfold next
  rw [solo_nextTo h0 hs]
  by_cases h : first T 0 = 0
  · rw [if_neg (fun q => q.1 h), if_pos h, h]
  · rw [if_pos ⟨h, Or.inl rfl⟩, if_neg h]
end

/-- Tasks 1 to m, ready, without groups: what a tick costs them, and their times. -/
def mkT (m : Nat) (c v : Nat → Int) : Tks := fun t => if 1 ≤ t ∧ t ≤ m then ⟨c t, v t, 0, true⟩ else ⟨0, 0, 0, false⟩

section
variable {m : Nat} {c v : Nat → Int} {G : Grs}
theorem mkT_in {t : Nat} (h1 : 1 ≤ t) (h2 : t ≤ m) : mkT m c v t = ⟨c t, v t, 0, true⟩ := by unfold mkT; rw [if_pos ⟨h1, h2⟩]
theorem mkT_out {t : Nat} (h : t < 1 ∨ m < t) : mkT m c v t = ⟨0, 0, 0, false⟩ := by unfold mkT; rw [if_neg (by omega)]
theorem mkT_0 : (mkT m c v 0).r = false := by rw [mkT_out (by omega)]
theorem mkT_solo : Solo (mkT m c v) := by
  intro t _ _; unfold mkT; split <;> rfl
theorem mkT_of {t : Nat} : isOf (mkT m c v) 0 t ↔ 1 ≤ t ∧ t ≤ m := by
  unfold isOf mkT; split <;> simp_all
theorem mkT_first (hm : 1 ≤ m) (hm16 : m ≤ 16) : 1 ≤ first (mkT m c v) 0 ∧ first (mkT m c v) 0 ≤ m ∧ ∀ t, 1 ≤ t → t ≤ m → v (first (mkT m c v) 0) ≤ v t := by
  have hn : first (mkT m c v) 0 ≠ 0 := fun e => first_zero mkT_0 e 1 (by omega) (mkT_of.2 ⟨by omega, hm⟩)
  have ho := mkT_of.1 (first_of mkT_0 hn)
  refine ⟨ho.1, ho.2, fun t h1 h2 => ?_⟩
  have := first_le mkT_0 hn t (by omega) (mkT_of.2 ⟨h1, h2⟩)
  rwa [mkT_in ho.1 ho.2, mkT_in h1 h2] at this
theorem mkT_first_is (n : Nat) (h1 : 1 ≤ n) (h2 : n ≤ m) (hm : m ≤ 16) (h : ∀ t, 1 ≤ t → t ≤ m → v n < v t ∨ (v n = v t ∧ n ≤ t)) : first (mkT m c v) 0 = n := by
  refine first_is mkT_0 n (by omega) (mkT_of.2 ⟨h1, h2⟩) (fun t ht ho => ?_)
  obtain ⟨h3, h4⟩ := mkT_of.1 ho
  rw [mkT_in h1 h2, mkT_in h3 h4]
  exact h t h3 h4
theorem mkT_next (hm : 1 ≤ m) (hm16 : m ≤ 16) : next (mkT m c v) G = (first (mkT m c v) 0, v (first (mkT m c v) 0)) := by
  obtain ⟨h1, h2, -⟩ := mkT_first (c := c) (v := v) hm hm16
  rw [solo_next mkT_0 mkT_solo, if_neg (by omega), mkT_in h1 h2]
theorem mkT_next0 : next (mkT 0 c v) G = (0, 0) := by
  have : first (mkT 0 c v) 0 = 0 := first_none mkT_0 (fun t ht ho => by have := mkT_of.1 ho; omega)
  rw [solo_next mkT_0 mkT_solo, this]; rfl
theorem mkT_tick {n : Nat} (h1 : 1 ≤ n) (h2 : n ≤ m) : tickT (mkT m c v) n = mkT m c (upd v n (v n + c n)) := by
  funext t
  unfold tickT upd
  by_cases e : t = n
  · subst e; rw [if_pos rfl, mkT_in h1 h2, mkT_in h1 h2, if_pos rfl]
  · rw [if_neg e]
    unfold mkT
    split
    · simp [e]
    · rfl
theorem mkT_tickG {n : Nat} (h1 : 1 ≤ n) (h2 : n ≤ m) : tickG (mkT m c v) G n = G := by
  unfold tickG; rw [mkT_in h1 h2, if_pos rfl]
theorem mkT_fit {B : Int} (hm : m ≤ 16) (hc : ∀ t, 1 ≤ t → t ≤ m → 1 ≤ c t ∧ c t ≤ 1048576) (hv : ∀ t, 1 ≤ t → t ≤ m → 0 ≤ v t ∧ v t ≤ B) (hB : 0 ≤ B) : Fit (mkT m c v) noG B := by
  refine ⟨?_, ?_, ?_, ?_, ?_, ?_, ?_⟩
  · intro t _; unfold mkT; split
    · rename_i h; have := hc t h.1 h.2; exact ⟨by simp; omega, by simp; omega⟩
    · exact ⟨by simp, by simp⟩
  · intro t _; unfold mkT; split
    · rename_i h; exact hv t h.1 h.2
    · exact ⟨by simp, hB⟩
  · intro t _; unfold mkT; split <;> exact ⟨by simp, by simp⟩
  · intro g _; exact ⟨by simp [noG], by simp [noG]⟩
  · intro g _; exact ⟨by simp [noG], hB⟩
  · rw [mkT_out (by omega)]
  · intro t _ hr; unfold mkT at *; split at hr
    · rename_i h; rw [if_pos h]; have := hc t h.1 h.2; show c t ≠ 0; omega
    · cases hr
end

/-- One task more, of no time: it is as the others are. -/
theorem mkT_add {m : Nat} {c : Nat → Int} {x : Int} (hm : m < 16) (hx : c (m + 1) = x) : addT (mkT m c (fun _ => 0)) noG (m + 1) x 0 = mkT (m + 1) c (fun _ => 0) ∧ addG (mkT m c (fun _ => 0)) noG (m + 1) x 0 = noG := by
  have h0 : ((upd (mkT m c (fun _ => 0)) (m + 1) ⟨x, 0, 0, false⟩) 0).r = false := by rw [upd_other _ _ (by omega)]; exact mkT_0
  have hs : Solo (upd (mkT m c (fun _ => 0)) (m + 1) ⟨x, 0, 0, false⟩) := by
    intro t ht hr
    unfold upd at *
    split
    · rfl
    · exact mkT_solo t ht (by rw [if_neg (by assumption)] at hr; exact hr)
  have hn : (next (upd (mkT m c (fun _ => 0)) (m + 1) ⟨x, 0, 0, false⟩) noG).2 = 0 := by
    rw [solo_next h0 hs]
    show (if _ then _ else _) = _
    split
    · rfl
    · unfold upd
      split
      · rfl
      · unfold mkT; split <;> rfl
  constructor
  · unfold addT
    rw [wokeT_0 (by rw [upd_same]), hn, upd_upd, upd_same]
    funext t
    unfold upd mkT
    by_cases e : t = m + 1
    · rw [if_pos e, if_pos (by omega)]; subst e; rw [hx]; rfl
    · rw [if_neg e]
      by_cases h : 1 ≤ t ∧ t ≤ m
      · rw [if_pos h, if_pos (by omega)]
      · rw [if_neg h, if_neg (by omega)]
  · unfold addG
    rw [wokeG_0 (by rw [upd_same])]

theorem mkT_none (c v : Nat → Int) : mkT 0 c v = noT := by
  funext t; unfold mkT noT; rw [if_neg (by omega)]
end Go.Proofs.YtpincdcebhmnhaaGreat.Fr
/- What is in bounds stays in bounds: of tasks and groups with fair shares. -/
namespace Go.Proofs.YtpincdcebhmnhaaGreat.Fr
open Go.ChangeShapes Go.WideShapes Go.ChangeAt Go.RowKit Go.Maps
open Go.Proofs.YtpincdcebhmnhaaGreat.Vt
set_option linter.unusedVariables false

section
variable {T T' : Tks} {G G' : Grs} {M : Int}
theorem Fit.upd_t (h : Fit T G M) {t : Nat} (h1 : 1 ≤ t) (x : Tk) (hc : 0 ≤ x.c ∧ x.c ≤ 1048576) (hv : 0 ≤ x.v ∧ x.v ≤ M) (hg : 0 ≤ x.g ∧ x.g ≤ 8) (hr : x.r = true → x.c ≠ 0) : Fit (upd T t x) G M := by
  refine ⟨fun k hk => ?_, fun k hk => ?_, fun k hk => ?_, h.gc, h.gv, by rw [upd_other _ _ (by omega)]; exact h.no, fun k hk => ?_⟩
  all_goals unfold upd; split
  · exact hc
  · exact h.c k hk
  · exact hv
  · exact h.v k hk
  · exact hg
  · exact h.g k hk
  · exact hr
  · exact h.rc k hk
theorem Fit.upd_g (h : Fit T G M) {g : Nat} (x : Gr) (hc : 0 ≤ x.c ∧ x.c ≤ 1048576) (hv : 0 ≤ x.v ∧ x.v ≤ M) : Fit T (upd G g x) M := by
  refine ⟨h.c, h.v, h.g, fun k hk => ?_, fun k hk => ?_, h.no, h.rc⟩
  all_goals unfold upd; split
  · exact hc
  · exact h.gc k hk
  · exact hv
  · exact h.gv k hk
theorem Fit.pos (h : Fit T G M) : 0 ≤ M := by have := h.v 0 (by omega); omega
theorem Fit.nextTo (h : Fit T G M) (k : Nat) (hk : k ≤ 8) : 0 ≤ (nextTo T G k).2 ∧ (nextTo T G k).2 ≤ M := by
  induction k with
  | zero => exact ⟨Int.le_refl _, h.pos⟩
  | succ k ih =>
    unfold Fr.nextTo
    split
    · exact h.gv (k + 1) (by omega)
    · exact ih (by omega)
theorem Fit.next (h : Fit T G M) : 0 ≤ (next T G).2 ∧ (next T G).2 ≤ M := by
  unfold Fr.next
  split
  · exact h.v _ (first_lt T 0)
  · exact h.nextTo 8 (Nat.le_refl _)
theorem Fit.woke (h : Fit T G M) {t : Nat} (h1 : 1 ≤ t) (h2 : t ≤ 16) (hc : (T t).c ≠ 0) : Fit (wokeT T G t) (wokeG T G t) M := by
  have hn := h.next
  have a1 := h.c t (by omega)
  have a2 := h.v t (by omega)
  have a3 := h.g t (by omega)
  by_cases e : (T t).g = 0
  · rw [wokeT_0 e, wokeG_0 e]
    exact h.upd_t h1 ⟨(T t).c, max (T t).v (Fr.next T G).2, (T t).g, true⟩ a1 (by first | omega | (simp only; omega)) a3 (fun _ => hc)
  · by_cases f : first T (T t).g = 0
    · rw [wokeT_1 e f, wokeG_1 e f]
      have b1 := h.gc (T t).g.toNat (by omega)
      have b2 := h.gv (T t).g.toNat (by omega)
      exact (h.upd_t h1 ⟨(T t).c, (T t).v, (T t).g, true⟩ a1 a2 a3 (fun _ => hc)).upd_g ⟨(G (T t).g.toNat).c, max (G (T t).g.toNat).v (Fr.next T G).2⟩ b1 (by first | omega | (simp only; omega))
    · rw [wokeT_2 e f, wokeG_2 f]
      have b2 := h.v _ (first_lt T (T t).g)
      exact h.upd_t h1 ⟨(T t).c, max (T t).v (T (first T (T t).g)).v, (T t).g, true⟩ a1 (by first | omega | (simp only; omega)) a3 (fun _ => hc)
theorem Fit.tick (h : Fit T G M) {n : Nat} (h1 : 1 ≤ n) (h2 : n ≤ 16) : Fit (tickT T n) (tickG T G n) (M + 1048576) := by
  have a1 := h.c n (by omega)
  have a2 := h.v n (by omega)
  have a3 := h.g n (by omega)
  have hh := h.mono (show M ≤ M + 1048576 by omega)
  have ht := hh.upd_t h1 ⟨(T n).c, (T n).v + (T n).c, (T n).g, (T n).r⟩ a1 (by first | omega | (simp only; omega)) a3 (h.rc n (by omega))
  unfold tickG tickT
  split
  · exact ht
  · have b1 := h.gc (T n).g.toNat (by omega)
    have b2 := h.gv (T n).g.toNat (by omega)
    exact ht.upd_g ⟨(G (T n).g.toNat).c, (G (T n).g.toNat).v + (G (T n).g.toNat).c⟩ b1 (by first | omega | (simp only; omega))
end

section
variable {L : List (Nat × Nat)} {T T' : Tks} {G G' : Grs} {W GW : Nat → Int}
theorem woke_cg (T : Tks) (G : Grs) (t : Nat) : (∀ k, (wokeT T G t k).c = (T k).c ∧ (wokeT T G t k).g = (T k).g) ∧ ∀ g, (wokeG T G t g).c = (G g).c := by
  constructor
  · intro k
    unfold wokeT
    split
    · unfold upd; split
      · rename_i e; subst e; exact ⟨rfl, rfl⟩
      · exact ⟨rfl, rfl⟩
    · split
      · unfold upd; split
        · rename_i e; subst e; exact ⟨rfl, rfl⟩
        · exact ⟨rfl, rfl⟩
      · unfold upd; split
        · rename_i e; subst e; exact ⟨rfl, rfl⟩
        · exact ⟨rfl, rfl⟩
  · intro g
    unfold wokeG
    split
    · unfold upd; split
      · rename_i e; subst e; rfl
      · rfl
    · rfl
theorem Fit.add {T : Tks} {G : Grs} {M a : Int} (h : Fit T G M) {t : Nat} (h1 : 1 ≤ t) (ha : isW a = true) {m : Int} (h0 : 0 ≤ m) (h8 : m ≤ 8) : Fit (upd T t ⟨costOf a, 0, m, false⟩) G M :=
  h.upd_t h1 _ (costOf_bd ha) ⟨by simp, by have := h.pos; simp only; omega⟩ ⟨h0, h8⟩ (fun e => by cases e)
end
end Go.Proofs.YtpincdcebhmnhaaGreat.Fr
/- One processor's scheduler: what is always so of what it knows, and each method by what it knows. -/
namespace Go.Proofs.YtpincdcebhmnhaaGreat.Pk
open Go.ChangeShapes Go.WideShapes Go.ChangeAt Go.RowKit Go.Maps
open Go.Proofs.YtpincdcebhmnhaaGreat.Vt
set_option linter.unusedVariables false

/-- What is always so; B: no more ticks than that. -/
structure Inv (S : St) (B : Int) : Prop where
  fit : Fr.Fit S.T S.G (B * 1048576)
  grp : ∀ t, t < 17 → (S.T t).g = 0
  gno : S.G = Fr.noG
  dfit : De.Fit S.d S.n
  bare : De.Bare S.d
  n0 : 0 ≤ S.n
  nB : S.n ≤ B
  r0 : 0 ≤ S.row
  rB : S.row ≤ B
  cls : ∀ t, t < 17 → S.C t = 0 ∨ S.C t = 1 ∨ S.C t = 2 ∨ S.C t = 3
  c0 : S.C 0 = 0
  cf : ∀ t, t < 17 → (S.C t = 1 ↔ (S.T t).c ≠ 0)
  cd : ∀ t, t < 17 → (S.C t = 3 ↔ (S.d t).p ≠ 0)
  uniq : Pr.Uniq S.Q
  cq : ∀ i, i < 8 → ∀ x ∈ S.Q i, S.C x.toNat = 2
  av : ∀ t, t < 17 → 0 ≤ S.A t ∧ S.A t < 8

theorem inv_no : Inv noS 0 :=
  ⟨⟨fun t _ => by simp [noS, Fr.noT], fun t _ => by simp [noS, Fr.noT], fun t _ => by simp [noS, Fr.noT], fun g _ => by simp [noS, Fr.noG], fun g _ => by simp [noS, Fr.noG], rfl, fun t _ e => by cases e⟩,
    fun t _ => rfl, rfl, De.Fit.of (fun t _ => De.ok_no (Int.le_refl 0)) rfl, fun t _ _ => rfl, Int.le_refl _, Int.le_refl _, Int.le_refl _, Int.le_refl _, fun t _ => Or.inl rfl, rfl, fun t _ => by simp [noS, Fr.noT], fun t _ => by simp [noS, De.noT, De.noTk],
    Pr.uniq_no, (fun i _ x hx => by cases hx), fun t _ => by simp [noS]⟩

section
variable {S : St} {B : Int}

theorem Inv.mono {B' : Int} (h : Inv S B) (hB : B ≤ B') : Inv S B' :=
  { h with fit := h.fit.mono (by omega), nB := by have := h.nB; omega, rB := by have := h.rB; omega }
theorem Inv.tr0 (h : Inv S B) : (S.T 0).r = false := by
  cases e : (S.T 0).r with
  | false => rfl
  | true => exact absurd h.fit.no (h.fit.rc 0 (by omega) e)
theorem Inv.solo (h : Inv S B) : Fr.Solo S.T := fun t ht _ => h.grp t ht
theorem Inv.first_next (h : Inv S B) : (Fr.next S.T S.G).1 = Fr.first S.T 0 := by rw [Fr.solo_next h.tr0 h.solo]
theorem Inv.next_ready (h : Inv S B) (hn : (Fr.next S.T S.G).1 ≠ 0) : (S.T (Fr.next S.T S.G).1).r = true := by
  rw [h.first_next] at *
  exact (Fr.first_of h.tr0 hn).1
theorem Inv.next_none (h : Inv S B) (hn : (Fr.next S.T S.G).1 = 0) {t : Nat} (ht : t < 17) : (S.T t).r = false := by
  rw [h.first_next] at hn
  cases e : (S.T t).r with
  | false => rfl
  | true => exact absurd ⟨e, h.grp t ht⟩ (Fr.first_zero h.tr0 hn t ht)
theorem Inv.free_none (h : Inv S B) {t : Nat} (ht : t < 17) (hc : S.C t = 0) : (S.T t).c = 0 ∧ (S.d t).p = 0 ∧ Pr.seek S.Q t = none := by
  have h1 := h.cf t ht
  have h2 := h.cd t ht
  refine ⟨?_, ?_, ?_⟩
  · apply Decidable.byContradiction; intro q; have := h1.2 q; omega
  · apply Decidable.byContradiction; intro q; have := h2.2 q; omega
  · exact Pr.seek_none (fun i hi hm => by have := h.cq i hi _ hm; simp at this; omega)
theorem Inv.in_queue (h : Inv S B) {i : Nat} (hi : i < 8) {x : Int} (hx : x ∈ S.Q i) : ∃ m : Nat, x = m ∧ 1 ≤ m ∧ m ≤ 16 ∧ S.C m = 2 := by
  have := h.uniq.task i x hi hx
  have h2 := h.cq i hi x hx
  exact ⟨x.toNat, by omega, by omega, by omega, h2⟩

/-- Who should go, and of which class. -/
inductive Goes (S : St) : Nat → Prop where
  | dead (h : De.pick S.d ≠ 0) (hr : De.Can (S.d (De.pick S.d))) (hc : S.C (De.pick S.d) = 3) : Goes S (De.pick S.d)
  | prio (h : De.pick S.d = 0) (v m : Nat) (xs : List Int) (ht : Pr.top S.Q = some v) (hv : v < 8) (hq : S.Q v = (m : Int) :: xs) (h1 : 1 ≤ m) (h2 : m ≤ 16) (hc : S.C m = 2) : Goes S m
  | fair (h : De.pick S.d = 0) (ht : Pr.top S.Q = none) (hn : (Fr.next S.T S.G).1 ≠ 0) (hr : (S.T (Fr.next S.T S.G).1).r = true) (hc : S.C (Fr.next S.T S.G).1 = 1) : Goes S (Fr.next S.T S.G).1
  | none (h : De.pick S.d = 0) (ht : Pr.top S.Q = none) (hn : (Fr.next S.T S.G).1 = 0) : Goes S 0

theorem Inv.goes (h : Inv S B) : ∃ m : Nat, best S = m ∧ m ≤ 16 ∧ Goes S m := by
  by_cases h1 : De.pick S.d = 0
  · cases ht : Pr.top S.Q with
    | some v =>
      obtain ⟨hv, hne, -⟩ := Pr.topTo_is ht
      cases hq : S.Q v with
      | nil => exact absurd hq hne
      | cons x xs =>
        obtain ⟨m, rfl, m1, m2, mc⟩ := h.in_queue hv (x := x) (by rw [hq]; simp)
        exact ⟨m, by rw [best_2 h1 ht, hq]; rfl, m2, .prio h1 v m xs ht hv hq m1 m2 mc⟩
    | none =>
      by_cases hn : (Fr.next S.T S.G).1 = 0
      · exact ⟨0, by rw [best_3 h1 ht, hn], by omega, .none h1 ht hn⟩
      · have hl := Fr.next_lt S.T S.G
        have hr := h.next_ready hn
        exact ⟨_, best_3 h1 ht, by omega, .fair h1 ht hn hr ((h.cf _ hl).2 (h.fit.rc _ hl hr))⟩
  · have hl := De.pick_lt S.d
    have hr := De.pick_can h1
    exact ⟨_, best_1 h1, by omega, .dead h1 hr ((h.cd _ hl).2 (h.dfit.rp _ hl hr.1))⟩

/-- Is a task ready? -/
def ready (S : St) (k : Nat) : Bool := if S.C k = 1 then (S.T k).r else if S.C k = 2 then (Pr.seek S.Q k).isSome else if S.C k = 3 then (S.d k).r else false
instance (S : St) (t : Int) : Decidable (Free S t) := by unfold Free; exact inferInstance
theorem not_free {S : St} {t : Int} (h : ¬ Free S t) : ∃ k : Nat, t = k ∧ 1 ≤ k ∧ k ≤ 16 ∧ S.C k ≠ 0 := by
  unfold Free at h
  exact ⟨t.toNat, by omega, by omega, by omega, by omega⟩
theorem free_not {S : St} {k : Nat} (h1 : 1 ≤ k) (h2 : k ≤ 16) (hc : S.C k ≠ 0) : ¬ Free S (k : Int) := by
  unfold Free
  simp
  omega

/-- What Block answers, and what it leaves. -/
def blockE (S : St) (t : Int) : Int := if Free S t then 4 else if ready S t.toNat then 0 else 8
def slept (S : St) (k : Nat) : St :=
  if S.C k = 1 then { S with T := Fr.upd S.T k ⟨(S.T k).c, (S.T k).v, (S.T k).g, false⟩ }
  else if S.C k = 2 then match Pr.seek S.Q k with
    | some i => { S with Q := upd S.Q i ((S.Q i).erase k), A := upd S.A k i }
    | none => S
  else { S with d := De.upd S.d k (De.slept (S.d k)) }
def blockS (S : St) (t : Int) : St := if Free S t then S else if ready S t.toNat then slept S t.toNat else S
/-- What Wake answers, and what it leaves. -/
def wakeE (S : St) (t : Int) : Int := if Free S t then 4 else if ready S t.toNat then 8 else 0
def woken (S : St) (k : Nat) : St :=
  if S.C k = 1 then { S with T := Fr.wokeT S.T S.G k, G := Fr.wokeG S.T S.G k }
  else if S.C k = 2 then { S with Q := upd S.Q (S.A k).toNat (S.Q (S.A k).toNat ++ [(k : Int)]) }
  else { S with d := De.upd S.d k (De.woke (S.d k) S.n) }
def wakeS (S : St) (t : Int) : St := if Free S t then S else if ready S t.toNat then S else woken S t.toNat
end

section
variable {w w' : World} {p D : Nat} {V V' V'' : Nat → Value} {S S' : St} {B : Int}

theorem did_is {x y : Value} {S1 S2 : St} {f : Nat} {args : Array Value} (h : Calls Tryz.prog f args w (Did p D V S1 x w)) (hS : S1 = S2) (hx : x = y) : Calls Tryz.prog f args w (Did p D V S2 y w) := by subst hS hx; exact h

theorem block_any (h : PickAt w p D V S) (hI : Inv S B) (t : Int) :
    Calls Tryz.prog 13 #[.pointer (some ⟨p, 0, none⟩), .int .i64 t] w (Did p D V (blockS S t) (.int .i64 (blockE S t)) w) := by
  by_cases hf : Free S t
  · exact did_is (block_free h t hf) (by unfold blockS; rw [if_pos hf]) (by unfold blockE; rw [if_pos hf])
  · obtain ⟨k, rfl, k1, k2, kc⟩ := not_free hf
    have eS : blockS S (k : Int) = if ready S k then slept S k else S := by unfold blockS; rw [if_neg hf]; rfl
    have eE : blockE S (k : Int) = if ready S k then 0 else 8 := by unfold blockE; rw [if_neg hf]; rfl
    rw [eS, eE]
    rcases hI.cls k (by omega) with c | c | c | c
    · exact absurd c kc
    · have hc := (hI.cf k (by omega)).1 c
      have er : ready S k = (S.T k).r := by unfold ready; rw [if_pos c]
      have es : slept S k = { S with T := Fr.upd S.T k ⟨(S.T k).c, (S.T k).v, (S.T k).g, false⟩ } := by unfold slept; rw [if_pos c]
      rw [er, es]
      cases hr : (S.T k).r with
      | true => exact did_is (block_fair h k k1 k2 c (Fr.block_yes h.fair k k1 k2 hc hr)) (by simp) (by simp)
      | false =>
        have hk := Fr.block_state h.fair k k1 k2 hc hr
        exact did_is (block_fair h k k1 k2 c (T' := S.T) (x := 8) (hk.mono fun e w' ⟨h1, h2⟩ => ⟨h1, h2 ▸ h.fair, h2 ▸ Within.refl _ _ _ _⟩)) (by simp) (by simp)
    · have c1 : S.C k ≠ 1 := by omega
      have er : ready S k = (Pr.seek S.Q k).isSome := by unfold ready; rw [if_neg c1, if_pos c]
      have es : slept S k = match Pr.seek S.Q k with
          | some i => { S with Q := upd S.Q i ((S.Q i).erase k), A := upd S.A k i }
          | none => S := by unfold slept; rw [if_neg c1, if_pos c]
      rw [er, es]
      cases hs : Pr.seek S.Q (k : Int) with
      | some i => exact did_is (block_fixed h k k1 k2 c (fblock_yes h hI.uniq k k2 hs)) (by simp) (by simp)
      | none => exact did_is (block_fixed h k k1 k2 c (fblock_no h hI.uniq k hs)) (by simp) (by simp)
    · have c1 : S.C k ≠ 1 := by omega
      have c2 : S.C k ≠ 2 := by omega
      have hc := (hI.cd k (by omega)).1 c
      have er : ready S k = (S.d k).r := by unfold ready; rw [if_neg c1, if_neg c2, if_pos c]
      have es : slept S k = { S with d := De.upd S.d k (De.slept (S.d k)) } := by unfold slept; rw [if_neg c1, if_neg c2]
      rw [er, es]
      cases hr : (S.d k).r with
      | true => exact did_is (block_dead h k k1 k2 c (De.block_yes h.dead k k1 k2 hc hr)) (by simp) (by simp)
      | false =>
        have hk := De.block_state h.dead k k1 k2 hc hr
        exact did_is (block_dead h k k1 k2 c (d' := S.d) (x := 8) (hk.mono fun e w' ⟨h1, h2⟩ => ⟨h1, h2 ▸ h.dead, h2 ▸ Within.refl _ _ _ _⟩)) (by simp) (by simp)

theorem wake_any (h : PickAt w p D V S) (hI : Inv S B) (hB : B ≤ 8000000000000000) (t : Int) :
    Calls Tryz.prog 14 #[.pointer (some ⟨p, 0, none⟩), .int .i64 t] w (Did p D V (wakeS S t) (.int .i64 (wakeE S t)) w) := by
  have nB := hI.nB
  by_cases hf : Free S t
  · exact did_is (wake_free h t hf) (by unfold wakeS; rw [if_pos hf]) (by unfold wakeE; rw [if_pos hf])
  · obtain ⟨k, rfl, k1, k2, kc⟩ := not_free hf
    have eS : wakeS S (k : Int) = if ready S k then S else woken S k := by unfold wakeS; rw [if_neg hf]; rfl
    have eE : wakeE S (k : Int) = if ready S k then 8 else 0 := by unfold wakeE; rw [if_neg hf]; rfl
    rw [eS, eE]
    rcases hI.cls k (by omega) with c | c | c | c
    · exact absurd c kc
    · have hc := (hI.cf k (by omega)).1 c
      have hg := hI.grp k (by omega)
      have er : ready S k = (S.T k).r := by unfold ready; rw [if_pos c]
      have es : woken S k = { S with T := Fr.wokeT S.T S.G k, G := Fr.wokeG S.T S.G k } := by unfold woken; rw [if_pos c]
      rw [er, es]
      cases hr : (S.T k).r with
      | false =>
        have e : Fr.wokeG S.T S.G k = S.G := Fr.wokeG_0 hg
        have hk := Fr.wk_yes h.fair k k1 k2 hc hr (by omega) (by omega)
        rw [e] at hk ⊢
        exact did_is (wake_fair h k k1 k2 c hk) (by simp) (by simp)
      | true =>
        have hk := Fr.wk_state h.fair k k1 k2 hc hr
        exact did_is (wake_fair h k k1 k2 c (T' := S.T) (x := 8) (hk.mono fun e w' ⟨h1, h2⟩ => ⟨h1, h2 ▸ h.fair, h2 ▸ Within.refl _ _ _ _⟩)) (by simp) (by simp)
    · have c1 : S.C k ≠ 1 := by omega
      have ha := hI.av k (by omega)
      have er : ready S k = (Pr.seek S.Q k).isSome := by unfold ready; rw [if_neg c1, if_pos c]
      have es : woken S k = { S with Q := upd S.Q (S.A k).toNat (S.Q (S.A k).toNat ++ [(k : Int)]) } := by unfold woken; rw [if_neg c1, if_pos c]
      rw [er, es]
      cases hs : Pr.seek S.Q (k : Int) with
      | some i => exact did_is (wake_fixed h k k1 k2 c (fwake_no h hI.uniq k k1 k2 ha hs)) (by simp) (by simp)
      | none => exact did_is (wake_fixed h k k1 k2 c (fwake_yes h hI.uniq k k1 k2 (v := (S.A k).toNat) (by omega) (by omega) hs)) (by simp) (by simp)
    · have c1 : S.C k ≠ 1 := by omega
      have c2 : S.C k ≠ 2 := by omega
      have hc := (hI.cd k (by omega)).1 c
      have er : ready S k = (S.d k).r := by unfold ready; rw [if_neg c1, if_neg c2, if_pos c]
      have es : woken S k = { S with d := De.upd S.d k (De.woke (S.d k) S.n) } := by unfold woken; rw [if_neg c1, if_neg c2]
      rw [er, es]
      cases hr : (S.d k).r with
      | false => exact did_is (wake_dead h k k1 k2 c (De.wk_yes h.dead hI.dfit (by omega) hI.n0 (by omega) k k1 k2 hc hr)) (by simp) (by simp)
      | true =>
        have hk := De.wk_state h.dead k k1 k2 hc hr
        exact did_is (wake_dead h k k1 k2 c (d' := S.d) (x := 8) (hk.mono fun e w' ⟨h1, h2⟩ => ⟨h1, h2 ▸ h.dead, h2 ▸ Within.refl _ _ _ _⟩)) (by simp) (by simp)

/-- The queues behind a turn of the foremost one. -/
def turned (Q : Pr.Qs) : Pr.Qs := match Pr.top Q with
  | some v => upd Q v ((Q v).tail ++ [(Q v).getD 0 0])
  | none => Q
/-- What a tick leaves. -/
def tickS (S : St) : St :=
  if De.pick S.d ≠ 0 then { head S with d := De.tick S.d S.n, n := S.n + 1 }
  else if Pr.top S.Q ≠ none then { head S with Q := if (head S).row % 3 = 0 then turned S.Q else S.Q, d := De.past S.d S.n, n := S.n + 1 }
  else if (Fr.next S.T S.G).1 ≠ 0 then { head S with T := Fr.tickT S.T (Fr.next S.T S.G).1, d := De.past S.d S.n, n := S.n + 1 }
  else { head S with d := De.past S.d S.n, n := S.n + 1 }

theorem tick_any (h : PickAt w p D V S) (hI : Inv S B) (hB : B ≤ 8000000000000) :
    Calls Tryz.prog 7 #[.pointer (some ⟨p, 0, none⟩)] w (Did p D V (tickS S) (.int .i64 (best S)) w) := by
  have r0 := hI.r0
  have rB := hI.rB
  have n0 := hI.n0
  have nB := hI.nB
  obtain ⟨m, hm, hm16, hg⟩ := hI.goes
  rw [hm]
  cases hg with
  | dead h1 hr hc => exact did_is (tick_dead h hI.uniq _ hm hm16 r0 (by omega) hc hI.dfit (by omega) n0 (by omega)) (by unfold tickS; rw [if_pos h1]) rfl
  | prio h1 v m xs ht hv hq m1 m2 hc =>
    have e : tickS S = { head S with Q := if (head S).row % 3 = 0 then turned S.Q else S.Q, d := De.past S.d S.n, n := S.n + 1 } := by
      unfold tickS; rw [if_neg (by simp [h1]), if_pos (by rw [ht]; simp)]
    rw [e]
    by_cases hz : (head S).row % 3 = 0
    · have et : turned S.Q = upd S.Q v (xs ++ [(m : Int)]) := by unfold turned; rw [ht]; simp only [hq]; rfl
      exact did_is (tick_turn h hI.uniq m hm hm16 r0 (by omega) hc hI.dfit (by omega) n0 (by omega) hz ht m xs hq) (by rw [if_pos hz, et]) rfl
    · exact did_is (tick_stay h hI.uniq m hm hm16 r0 (by omega) hc hI.dfit (by omega) n0 (by omega) hz) (by rw [if_neg hz]; rfl) rfl
  | fair h1 ht hn hr hc =>
    have e : tickS S = { head S with T := Fr.tickT S.T (Fr.next S.T S.G).1, d := De.past S.d S.n, n := S.n + 1 } := by
      unfold tickS; rw [if_neg (by simp [h1]), if_neg (by simp [ht]), if_pos hn]
    have eG : Fr.tickG S.T S.G (Fr.next S.T S.G).1 = S.G := by unfold Fr.tickG; rw [if_pos (hI.grp _ (Fr.next_lt _ _))]
    exact did_is (tick_fair h hI.uniq _ hm hm16 r0 (by omega) hc hI.dfit (by omega) n0 (by omega) hI.fit (by omega) hn) (by rw [e, eG]; rfl) rfl
  | none h1 ht hn =>
    exact did_is (tick_none h hI.uniq 0 hm (by omega) r0 (by omega) hI.c0 hI.dfit (by omega) n0 (by omega)) (by unfold tickS; rw [if_neg (by simp [h1]), if_neg (by simp [ht]), if_neg (by simp [hn])]) rfl
end
end Go.Proofs.YtpincdcebhmnhaaGreat.Pk
/- One processor's scheduler: what is always so stays so. -/
namespace Go.Proofs.YtpincdcebhmnhaaGreat.Pk
open Go.ChangeShapes Go.WideShapes Go.ChangeAt Go.RowKit Go.Maps
open Go.Proofs.YtpincdcebhmnhaaGreat.Vt
set_option linter.unusedVariables false

section
variable {S : St} {B : Int}

theorem pos_B (h : Inv S B) : 0 ≤ B := by have := h.n0; have := h.nB; omega

/-- The fair class has changed. -/
theorem Inv.set_fair (h : Inv S B) {T' : Fr.Tks} (hF : Fr.Fit T' S.G (B * 1048576)) (hg : ∀ t, t < 17 → (T' t).g = (S.T t).g) (hc : ∀ t, t < 17 → (T' t).c = (S.T t).c) : Inv { S with T := T' } B :=
  { h with fit := hF, grp := fun t ht => (hg t ht).trans (h.grp t ht), cf := fun t ht => by show S.C t = 1 ↔ (T' t).c ≠ 0; rw [hc t ht]; exact h.cf t ht }
theorem Inv.set_dead (h : Inv S B) {k : Nat} (hk : k < 17) {x : De.Tk} (hx : De.Ok x S.n) (hp : x.p = (S.d k).p) (ho : x.p = 0 → x.o = false) : Inv { S with d := De.upd S.d k x } B := by
  refine { h with dfit := ?_, bare := ?_, cd := fun t ht => ?_ }
  · exact h.dfit.upd hx (fun e => by subst e; rw [hp]; exact h.dfit.no)
  · exact h.bare.upd ho
  · show S.C t = 3 ↔ (De.upd S.d k x t).p ≠ 0
    by_cases e : t = k
    · subst e; rw [De.upd_same, hp]; exact h.cd t ht
    · rw [De.upd_other _ _ e]; exact h.cd t ht
theorem Inv.set_queue (h : Inv S B) {v : Nat} (hv : v < 8) {xs : List Int} (hu : Pr.Uniq (upd S.Q v xs)) (hx : ∀ x ∈ xs, S.C x.toNat = 2) : Inv { S with Q := upd S.Q v xs } B := by
  refine { h with uniq := hu, cq := fun i hi x hm => ?_ }
  change x ∈ Pr.upd S.Q v xs i at hm
  by_cases e : i = v
  · subst e; rw [Pr.upd_same] at hm; exact hx x hm
  · rw [Pr.upd_other _ _ e] at hm; exact h.cq i hi x hm

theorem Inv.slept (h : Inv S B) {k : Nat} (h1 : 1 ≤ k) (h2 : k ≤ 16) (hc : S.C k ≠ 0) : Inv (Pk.slept S k) B := by
  unfold Pk.slept
  rcases h.cls k (by omega) with c | c | c | c
  · exact absurd c hc
  · rw [if_pos c]
    have q := h.fit
    refine h.set_fair (q.upd_t h1 _ (q.c k (by omega)) (q.v k (by omega)) (q.g k (by omega)) (fun e => by cases e)) (fun t ht => ?_) (fun t ht => ?_)
    · by_cases e : t = k
      · subst e; rw [Fr.upd_same]
      · rw [Fr.upd_other _ _ e]
    · by_cases e : t = k
      · subst e; rw [Fr.upd_same]
      · rw [Fr.upd_other _ _ e]
  · rw [if_neg (by omega), if_pos c]
    cases hs : Pr.seek S.Q (k : Int) with
    | none => exact h
    | some i =>
      obtain ⟨hi, hm⟩ := Pr.seek_is hs
      have q := h.set_queue hi (h.uniq.out (t := (k : Int)) hi) (fun x hx => h.cq i hi x (List.mem_of_mem_erase hx))
      refine { q with av := fun t ht => ?_ }
      show 0 ≤ Pr.upd S.A k (i : Int) t ∧ Pr.upd S.A k (i : Int) t < 8
      by_cases e : t = k
      · subst e; rw [Pr.upd_same]; omega
      · rw [Pr.upd_other _ _ e]; exact h.av t ht
  · rw [if_neg (by omega), if_neg (by omega)]
    have q := (h.dfit.at (t := k) (by omega))
    exact h.set_dead (by omega) q.slept rfl (fun e => h.bare k (by omega) e)
theorem Inv.block (h : Inv S B) (t : Int) : Inv (blockS S t) B := by
  unfold blockS
  split
  · exact h
  · rename_i hf
    obtain ⟨k, rfl, k1, k2, kc⟩ := not_free hf
    split
    · exact h.slept k1 k2 kc
    · exact h

theorem Inv.woken (h : Inv S B) {k : Nat} (h1 : 1 ≤ k) (h2 : k ≤ 16) (hc : S.C k ≠ 0) (hr : ready S k = false) : Inv (Pk.woken S k) B := by
  unfold Pk.woken
  rcases h.cls k (by omega) with c | c | c | c
  · exact absurd c hc
  · rw [if_pos c]
    have hg := h.grp k (by omega)
    have eG : Fr.wokeG S.T S.G k = S.G := Fr.wokeG_0 hg
    have q := h.fit.woke h1 h2 ((h.cf k (by omega)).1 c)
    rw [eG] at q ⊢
    have q2 := Fr.woke_cg S.T S.G k
    exact h.set_fair q (fun t _ => (q2.1 t).2) (fun t _ => (q2.1 t).1)
  · rw [if_neg (by omega), if_pos c]
    have ha := h.av k (by omega)
    have hs : Pr.seek S.Q (k : Int) = none := by
      have c1 : S.C k ≠ 1 := by omega
      unfold ready at hr
      rw [if_neg c1, if_pos c] at hr
      cases e : Pr.seek S.Q (k : Int) with
      | none => rfl
      | some i => rw [e] at hr; cases hr
    refine h.set_queue (by omega) (h.uniq.put (by omega) hs (by omega)) (fun x hx => ?_)
    rcases List.mem_append.1 hx with hx | hx
    · exact h.cq _ (by omega) x hx
    · simp at hx; subst hx; simpa using c
  · rw [if_neg (by omega), if_neg (by omega)]
    have q := (h.dfit.at (t := k) (by omega))
    have hp := (h.cd k (by omega)).1 c
    refine h.set_dead (by omega) (q.woke h.n0 hp) ?_ (fun e => ?_)
    · unfold De.woke De.fill; split <;> rfl
    · exfalso; revert e; unfold De.woke De.fill; split <;> exact hp
theorem Inv.wake (h : Inv S B) (t : Int) : Inv (wakeS S t) B := by
  unfold wakeS
  split
  · exact h
  · rename_i hf
    obtain ⟨k, rfl, k1, k2, kc⟩ := not_free hf
    split
    · exact h
    · rename_i hr
      exact h.woken k1 k2 kc (by simpa using hr)

theorem Inv.head (h : Inv S B) : Inv (Pk.head S) (B + 1) := by
  have h2 := h.mono (B' := B + 1) (by omega)
  have := h.rB
  have := h.r0
  have := pos_B h
  refine { h2 with r0 := ?_, rB := ?_ }
  · show 0 ≤ if best S = S.now then S.row + 1 else 1
    split <;> omega
  · show (if best S = S.now then S.row + 1 else 1) ≤ B + 1
    split <;> omega

/-- The time of the class of deadlines has gone on. -/
theorem Inv.set_past (h : Inv S B) {d' : De.Tks} (hn : S.n + 1 ≤ B) (hF : De.Fit d' (S.n + 1)) (hb : De.Bare d') (hp : ∀ t, t < 17 → (d' t).p = (S.d t).p) : Inv { S with d := d', n := S.n + 1 } B :=
  { h with dfit := hF, bare := hb, n0 := by have := h.n0; show 0 ≤ S.n + 1; omega, nB := hn, cd := fun t ht => by show S.C t = 3 ↔ (d' t).p ≠ 0; rw [hp t ht]; exact h.cd t ht }
theorem past_p (d : De.Tks) (n : Int) {t : Nat} (ht : t < 17) : (De.past d n t).p = (d t).p := by rw [De.past_at d n ht, De.again_p]
theorem use_p (x : De.Tk) : (De.use x).p = x.p := rfl
theorem tick_p (d : De.Tks) (n : Int) {t : Nat} (ht : t < 17) : (De.tick d n t).p = (d t).p := by
  unfold De.tick
  split
  · exact past_p d n ht
  · rw [past_p _ n ht]
    by_cases e : t = De.pick d
    · rw [← e, De.upd_same, use_p]
    · rw [De.upd_other _ _ e]

theorem Inv.turned (h : Inv S B) : Inv { S with Q := turned S.Q } B := by
  unfold Pk.turned
  cases ht : Pr.top S.Q with
  | none => exact h
  | some v =>
    obtain ⟨hv, hne, -⟩ := Pr.topTo_is ht
    cases hq : S.Q v with
    | nil => exact absurd hq hne
    | cons x xs =>
      have q := h.uniq.turned hv hq
      simp only [hq, List.tail_cons]
      refine h.set_queue hv q (fun y hy => ?_)
      apply h.cq v hv
      rw [hq]
      rcases List.mem_append.1 hy with hy | hy
      · exact List.mem_cons_of_mem _ hy
      · have : y = x := by simpa using hy
        subst this; simp

theorem Inv.tick (h : Inv S B) : Inv (tickS S) (B + 1) := by
  have hh := h.head
  have hn : S.n + 1 ≤ B + 1 := by have := h.nB; omega
  have hP : De.Fit (De.past S.d S.n) (S.n + 1) := h.dfit.past h.bare h.n0
  have hB : De.Bare (De.past S.d S.n) := h.bare.past
  unfold tickS
  split
  · exact hh.set_past (d' := De.tick S.d S.n) hn (h.dfit.tick h.bare h.n0) (h.bare.tick h.dfit) (fun t ht => tick_p _ _ ht)
  · split
    · split
      · exact (hh.turned).set_past (d' := De.past S.d S.n) hn hP hB (fun t ht => past_p _ _ ht)
      · exact hh.set_past (d' := De.past S.d S.n) hn hP hB (fun t ht => past_p _ _ ht)
    · split
      · rename_i h1 h2 h3
        have hl := Fr.next_lt S.T S.G
        have q := h.fit.tick (n := (Fr.next S.T S.G).1) (by omega) (by omega)
        have eG : Fr.tickG S.T S.G (Fr.next S.T S.G).1 = S.G := by unfold Fr.tickG; rw [if_pos (h.grp _ hl)]
        rw [eG] at q
        have q2 : Inv { Pk.head S with T := Fr.tickT S.T (Fr.next S.T S.G).1 } (B + 1) := by
          refine hh.set_fair (q.mono (by omega)) (fun t ht => ?_) (fun t ht => ?_)
          · unfold Fr.tickT
            by_cases e : t = (Fr.next S.T S.G).1
            · rw [← e, Fr.upd_same]; rfl
            · rw [Fr.upd_other _ _ e]; rfl
          · unfold Fr.tickT
            by_cases e : t = (Fr.next S.T S.G).1
            · rw [← e, Fr.upd_same]; rfl
            · rw [Fr.upd_other _ _ e]; rfl
        exact q2.set_past (d' := De.past S.d S.n) hn hP hB (fun t ht => past_p _ _ ht)
      · exact hh.set_past (d' := De.past S.d S.n) hn hP hB (fun t ht => past_p _ _ ht)

/-- A class set for a number that had none. -/
theorem Inv.new_fair (h : Inv S B) {k : Nat} (h1 : 1 ≤ k) (h2 : k ≤ 16) (hc : S.C k = 0) {a : Int} (ha : isW a = true) : Inv { S with T := Fr.addT S.T S.G k (costOf a) 0, G := Fr.addG S.T S.G k (costOf a) 0, C := upd S.C k 1 } B := by
  obtain ⟨f1, f2, f3⟩ := h.free_none (t := k) (by omega) hc
  have q0 := h.fit.add h1 ha (m := 0) (by omega) (by omega)
  have hc0 : costOf a ≠ 0 := by
    have := Vt.isW_yes ha
    unfold costOf
    have : 1 ≤ 1048576 / a := (Int.le_ediv_iff_mul_le (by omega)).2 (by omega)
    omega
  have eG : Fr.addG S.T S.G k (costOf a) 0 = S.G := by unfold Fr.addG; exact Fr.wokeG_0 (by rw [Fr.upd_same])
  have q1 := q0.woke h1 h2 (by rw [Fr.upd_same]; exact hc0)
  have q2 := Fr.woke_cg (Fr.upd S.T k ⟨costOf a, 0, 0, false⟩) S.G k
  have qT : ∀ t, (Fr.addT S.T S.G k (costOf a) 0 t).c = (Fr.upd S.T k ⟨costOf a, 0, 0, false⟩ t).c ∧ (Fr.addT S.T S.G k (costOf a) 0 t).g = (Fr.upd S.T k ⟨costOf a, 0, 0, false⟩ t).g := q2.1
  have q1 : Fr.Fit (Fr.addT S.T S.G k (costOf a) 0) (Fr.addG S.T S.G k (costOf a) 0) (B * 1048576) := q1
  rw [eG] at q1 ⊢
  refine { h with fit := q1, grp := fun t ht => ?_, cls := fun t ht => ?_, c0 := ?_, cf := fun t ht => ?_, cd := fun t ht => ?_, cq := fun i hi x hx => ?_ }
  · show (Fr.addT S.T S.G k (costOf a) 0 t).g = 0
    rw [(qT t).2]
    by_cases e : t = k
    · subst e; rw [Fr.upd_same]
    · rw [Fr.upd_other _ _ e]; exact h.grp t ht
  · show Pr.upd S.C k 1 t = 0 ∨ Pr.upd S.C k 1 t = 1 ∨ Pr.upd S.C k 1 t = 2 ∨ Pr.upd S.C k 1 t = 3
    by_cases e : t = k
    · subst e; rw [Pr.upd_same]; omega
    · rw [Pr.upd_other _ _ e]; exact h.cls t ht
  · show Pr.upd S.C k 1 0 = 0
    rw [Pr.upd_other _ _ (by omega)]; exact h.c0
  · show Pr.upd S.C k 1 t = 1 ↔ (Fr.addT S.T S.G k (costOf a) 0 t).c ≠ 0
    rw [(qT t).1]
    by_cases e : t = k
    · subst e; rw [Pr.upd_same, Fr.upd_same]; simp [hc0]
    · rw [Pr.upd_other _ _ e, Fr.upd_other _ _ e]; exact h.cf t ht
  · show Pr.upd S.C k 1 t = 3 ↔ (S.d t).p ≠ 0
    by_cases e : t = k
    · subst e; rw [Pr.upd_same]; simp [f2]
    · rw [Pr.upd_other _ _ e]; exact h.cd t ht
  · show Pr.upd S.C k 1 x.toNat = 2
    have := h.cq i hi x hx
    rw [Pr.upd_other _ _ (by rintro e; rw [e] at this; omega)]; exact this

theorem Inv.new_prio (h : Inv S B) {k : Nat} (h1 : 1 ≤ k) (h2 : k ≤ 16) (hc : S.C k = 0) {v : Nat} (hv : v < 8) : Inv { S with Q := upd S.Q v (S.Q v ++ [(k : Int)]), C := upd S.C k 2 } B := by
  obtain ⟨f1, f2, f3⟩ := h.free_none (t := k) (by omega) hc
  refine { h with cls := fun t ht => ?_, c0 := ?_, cf := fun t ht => ?_, cd := fun t ht => ?_, uniq := h.uniq.put hv f3 (by omega), cq := fun i hi x hx => ?_ }
  · show Pr.upd S.C k 2 t = 0 ∨ Pr.upd S.C k 2 t = 1 ∨ Pr.upd S.C k 2 t = 2 ∨ Pr.upd S.C k 2 t = 3
    by_cases e : t = k
    · subst e; rw [Pr.upd_same]; omega
    · rw [Pr.upd_other _ _ e]; exact h.cls t ht
  · show Pr.upd S.C k 2 0 = 0
    rw [Pr.upd_other _ _ (by omega)]; exact h.c0
  · show Pr.upd S.C k 2 t = 1 ↔ (S.T t).c ≠ 0
    by_cases e : t = k
    · subst e; rw [Pr.upd_same]; simp [f1]
    · rw [Pr.upd_other _ _ e]; exact h.cf t ht
  · show Pr.upd S.C k 2 t = 3 ↔ (S.d t).p ≠ 0
    by_cases e : t = k
    · subst e; rw [Pr.upd_same]; simp [f2]
    · rw [Pr.upd_other _ _ e]; exact h.cd t ht
  · show Pr.upd S.C k 2 x.toNat = 2
    by_cases e : x.toNat = k
    · rw [e, Pr.upd_same]
    · rw [Pr.upd_other _ _ e]
      change x ∈ Pr.upd S.Q v (S.Q v ++ [(k : Int)]) i at hx
      by_cases e2 : i = v
      · subst e2
        rw [Pr.upd_same] at hx
        rcases List.mem_append.1 hx with hx | hx
        · exact h.cq _ hi x hx
        · simp at hx; subst hx; simp at e
      · rw [Pr.upd_other _ _ e2] at hx; exact h.cq i hi x hx

theorem Inv.new_dead (h : Inv S B) {k : Nat} (h1 : 1 ≤ k) (h2 : k ≤ 16) (hc : S.C k = 0) {a b : Int} (hg : De.Good k a b) : Inv { S with d := De.upd S.d k (De.came a b S.n), C := upd S.C k 3 } B := by
  obtain ⟨f1, f2, f3⟩ := h.free_none (t := k) (by omega) hc
  obtain ⟨-, -, b1, b2, a1, a2⟩ := hg
  refine { h with dfit := h.dfit.upd (De.ok_came a1 a2 b2 h.n0) (fun e => by omega), bare := h.bare.upd (fun _ => rfl), cls := fun t ht => ?_, c0 := ?_, cf := fun t ht => ?_, cd := fun t ht => ?_, cq := fun i hi x hx => ?_ }
  · show Pr.upd S.C k 3 t = 0 ∨ Pr.upd S.C k 3 t = 1 ∨ Pr.upd S.C k 3 t = 2 ∨ Pr.upd S.C k 3 t = 3
    by_cases e : t = k
    · subst e; rw [Pr.upd_same]; omega
    · rw [Pr.upd_other _ _ e]; exact h.cls t ht
  · show Pr.upd S.C k 3 0 = 0
    rw [Pr.upd_other _ _ (by omega)]; exact h.c0
  · show Pr.upd S.C k 3 t = 1 ↔ (S.T t).c ≠ 0
    by_cases e : t = k
    · subst e; rw [Pr.upd_same]; simp [f1]
    · rw [Pr.upd_other _ _ e]; exact h.cf t ht
  · show Pr.upd S.C k 3 t = 3 ↔ (De.upd S.d k (De.came a b S.n) t).p ≠ 0
    by_cases e : t = k
    · subst e; rw [Pr.upd_same, De.upd_same]
      constructor
      · intro _; show b ≠ 0; omega
      · intro _; rfl
    · rw [Pr.upd_other _ _ e, De.upd_other _ _ e]; exact h.cd t ht
  · show Pr.upd S.C k 3 x.toNat = 2
    have := h.cq i hi x hx
    rw [Pr.upd_other _ _ (by rintro e; rw [e] at this; omega)]; exact this
end
end Go.Proofs.YtpincdcebhmnhaaGreat.Pk
/- One processor's scheduler: who is ready behind each call, and who goes. -/
namespace Go.Proofs.YtpincdcebhmnhaaGreat.Pk
open Go.ChangeShapes Go.WideShapes Go.ChangeAt Go.RowKit Go.Maps
open Go.Proofs.YtpincdcebhmnhaaGreat.Vt
set_option linter.unusedVariables false

theorem seek_iff {Q : Pr.Qs} {t : Int} : (Pr.seek Q t).isSome = true ↔ ∃ i, i < 8 ∧ t ∈ Q i := by
  cases h : Pr.seek Q t with
  | none => simp; intro i hi; exact Pr.seek_no h hi
  | some i => simp; exact ⟨i, Pr.seek_is h⟩
theorem seek_congr {Q R : Pr.Qs} {t : Int} (h : (∃ i, i < 8 ∧ t ∈ Q i) ↔ ∃ i, i < 8 ∧ t ∈ R i) : (Pr.seek Q t).isSome = (Pr.seek R t).isSome := by
  rw [Bool.eq_iff_iff, seek_iff, seek_iff]; exact h
theorem seek_put {Q : Pr.Qs} {v : Nat} (hv : v < 8) (k t : Int) : (Pr.seek (upd Q v (Q v ++ [k])) t).isSome = if t = k then true else (Pr.seek Q t).isSome := by
  by_cases e : t = k
  · subst e; rw [if_pos rfl, seek_iff]; exact ⟨v, hv, by show t ∈ Pr.upd Q v _ v; rw [Pr.upd_same]; simp⟩
  · rw [if_neg e]
    apply seek_congr
    constructor
    · rintro ⟨i, hi, hm⟩
      change t ∈ Pr.upd Q v _ i at hm
      by_cases e2 : i = v
      · subst e2; rw [Pr.upd_same] at hm; simp [e] at hm; exact ⟨i, hi, hm⟩
      · rw [Pr.upd_other _ _ e2] at hm; exact ⟨i, hi, hm⟩
    · rintro ⟨i, hi, hm⟩
      refine ⟨i, hi, ?_⟩
      show t ∈ Pr.upd Q v _ i
      by_cases e2 : i = v
      · subst e2; rw [Pr.upd_same]; simp [hm]
      · rw [Pr.upd_other _ _ e2]; exact hm
theorem seek_out {Q : Pr.Qs} (hu : Pr.Uniq Q) {i : Nat} (hi : i < 8) {k : Int} (hk : k ∈ Q i) (t : Int) : (Pr.seek (upd Q i ((Q i).erase k)) t).isSome = if t = k then false else (Pr.seek Q t).isSome := by
  by_cases e : t = k
  · subst e
    rw [if_pos rfl]
    cases h : Pr.seek (upd Q i ((Q i).erase t)) t with
    | none => rfl
    | some j =>
      exfalso
      obtain ⟨hj, hm⟩ := Pr.seek_is h
      change t ∈ Pr.upd Q i _ j at hm
      by_cases e2 : j = i
      · subst e2; rw [Pr.upd_same] at hm; exact (hu.nodup j hj).not_mem_erase hm
      · rw [Pr.upd_other _ _ e2] at hm; exact e2 (hu.only j i t hj hi hm hk)
  · rw [if_neg e]
    apply seek_congr
    constructor
    · rintro ⟨j, hj, hm⟩
      change t ∈ Pr.upd Q i _ j at hm
      by_cases e2 : j = i
      · subst e2; rw [Pr.upd_same] at hm; exact ⟨j, hj, List.mem_of_mem_erase hm⟩
      · rw [Pr.upd_other _ _ e2] at hm; exact ⟨j, hj, hm⟩
    · rintro ⟨j, hj, hm⟩
      refine ⟨j, hj, ?_⟩
      show t ∈ Pr.upd Q i _ j
      by_cases e2 : j = i
      · subst e2; rw [Pr.upd_same]; exact (List.mem_erase_of_ne e).2 hm
      · rw [Pr.upd_other _ _ e2]; exact hm
theorem seek_turned (Q : Pr.Qs) (t : Int) : (Pr.seek (turned Q) t).isSome = (Pr.seek Q t).isSome := by
  unfold turned
  cases ht : Pr.top Q with
  | none => rfl
  | some v =>
    obtain ⟨hv, hne, -⟩ := Pr.topTo_is ht
    cases hq : Q v with
    | nil => exact absurd hq hne
    | cons x xs =>
      simp only [hq, List.tail_cons]
      apply seek_congr
      constructor
      · rintro ⟨j, hj, hm⟩
        change t ∈ Pr.upd Q v _ j at hm
        by_cases e2 : j = v
        · subst e2; rw [Pr.upd_same] at hm
          refine ⟨j, hj, ?_⟩
          rw [hq]
          rcases List.mem_append.1 hm with hm | hm
          · exact List.mem_cons_of_mem _ hm
          · have : t = x := by simpa using hm
            subst this; simp
        · rw [Pr.upd_other _ _ e2] at hm; exact ⟨j, hj, hm⟩
      · rintro ⟨j, hj, hm⟩
        refine ⟨j, hj, ?_⟩
        show t ∈ Pr.upd Q v _ j
        by_cases e2 : j = v
        · subst e2; rw [Pr.upd_same]; rw [hq] at hm
          rcases List.mem_cons.1 hm with hm | hm
          · subst hm; simp
          · simp [hm]
        · rw [Pr.upd_other _ _ e2]; exact hm

section
variable {S : St} {B : Int}
theorem slept_C (S : St) (k : Nat) : (slept S k).C = S.C := by
  unfold slept
  split
  · rfl
  · split
    · split <;> rfl
    · rfl
theorem woken_C (S : St) (k : Nat) : (woken S k).C = S.C := by
  unfold woken
  split
  · rfl
  · split <;> rfl
theorem tickS_C (S : St) : (tickS S).C = S.C := by
  unfold tickS
  split
  · rfl
  · split
    · rfl
    · split <;> rfl
theorem tickS_now (S : St) : (tickS S).now = best S := by
  unfold tickS
  split
  · rfl
  · split
    · rfl
    · split <;> rfl
theorem ready_1 {S : St} {k : Nat} (h : S.C k = 1) : ready S k = (S.T k).r := by unfold ready; rw [if_pos h]
theorem ready_2 {S : St} {k : Nat} (h : S.C k = 2) : ready S k = (Pr.seek S.Q k).isSome := by unfold ready; rw [if_neg (by omega), if_pos h]
theorem ready_3 {S : St} {k : Nat} (h : S.C k = 3) : ready S k = (S.d k).r := by unfold ready; rw [if_neg (by omega), if_neg (by omega), if_pos h]
theorem ready_0 {S : St} {k : Nat} (h : S.C k = 0) : ready S k = false := by unfold ready; rw [if_neg (by omega), if_neg (by omega), if_neg (by omega)]
theorem ready_there {S : St} {k : Nat} (h : ready S k = true) : S.C k ≠ 0 := fun e => by rw [ready_0 e] at h; cases h
/-- Two states with the same classes, and for each class the same who are ready. -/
theorem ready_of {S R : St} {j : Nat} {b : Bool} (hc : R.C j = S.C j) (h1 : S.C j = 1 → (R.T j).r = b) (h2 : S.C j = 2 → (Pr.seek R.Q j).isSome = b) (h3 : S.C j = 3 → (R.d j).r = b) (h0 : S.C j ≠ 1 → S.C j ≠ 2 → S.C j ≠ 3 → b = false) : ready R j = b := by
  unfold ready
  rw [hc]
  split
  · exact h1 ‹_›
  · split
    · exact h2 ‹_›
    · split
      · exact h3 ‹_›
      · exact (h0 ‹_› ‹_› ‹_›).symm
theorem ready_rest {S : St} {j : Nat} (a : S.C j ≠ 1) (b : S.C j ≠ 2) (c : S.C j ≠ 3) : ready S j = false := by unfold ready; rw [if_neg a, if_neg b, if_neg c]

theorem Inv.ready_slept (h : Inv S B) {k : Nat} (h2 : k < 17) (hr : ready S k = true) (j : Nat) : ready (Pk.slept S k) j = if j = k then false else ready S j := by
  unfold Pk.slept
  rcases h.cls k h2 with c | c | c | c
  · exact absurd c (ready_there hr)
  · rw [if_pos c]
    by_cases e : j = k
    · subst e; rw [if_pos rfl]; exact ready_of (S := S) rfl (fun _ => by show (Fr.upd S.T j _ j).r = false; rw [Fr.upd_same]) (fun q => by omega) (fun q => by omega) (fun _ _ _ => rfl)
    · rw [if_neg e]; exact ready_of (S := S) rfl (fun q => by show (Fr.upd S.T k _ j).r = _; rw [Fr.upd_other _ _ e, ready_1 q]) (fun q => (ready_2 q).symm) (fun q => (ready_3 q).symm) (fun a b c => ready_rest a b c)
  · rw [if_neg (by omega), if_pos c]
    rw [ready_2 c] at hr
    cases hs : Pr.seek S.Q (k : Int) with
    | none => rw [hs] at hr; cases hr
    | some i =>
      obtain ⟨hi, hm⟩ := Pr.seek_is hs
      have q := seek_out h.uniq hi hm (j : Int)
      by_cases e : j = k
      · subst e; rw [if_pos rfl] at q ⊢; exact ready_of (S := S) rfl (fun q => by omega) (fun _ => q) (fun q => by omega) (fun _ _ _ => rfl)
      · rw [if_neg e]; rw [if_neg (by omega)] at q; exact ready_of (S := S) rfl (fun q => (ready_1 q).symm) (fun x => q.trans (ready_2 x).symm) (fun q => (ready_3 q).symm) (fun a b c => ready_rest a b c)
  · rw [if_neg (by omega), if_neg (by omega)]
    by_cases e : j = k
    · subst e; rw [if_pos rfl]; exact ready_of (S := S) rfl (fun q => by omega) (fun q => by omega) (fun _ => by show (De.upd S.d j _ j).r = false; rw [De.upd_same]; rfl) (fun _ _ _ => rfl)
    · rw [if_neg e]; exact ready_of (S := S) rfl (fun q => (ready_1 q).symm) (fun q => (ready_2 q).symm) (fun q => by show (De.upd S.d k _ j).r = _; rw [De.upd_other _ _ e, ready_3 q]) (fun a b c => ready_rest a b c)

theorem woke_r (x : De.Tk) (n : Int) : (De.woke x n).r = true := by unfold De.woke De.fill; split <;> rfl
theorem wokeT_r {T : Fr.Tks} {G : Fr.Grs} {k : Nat} (hg : (T k).g = 0) (j : Nat) : (Fr.wokeT T G k j).r = if j = k then true else (T j).r := by
  rw [Fr.wokeT_0 hg]
  by_cases e : j = k
  · subst e; rw [if_pos rfl, Fr.upd_same]
  · rw [if_neg e, Fr.upd_other _ _ e]

theorem Inv.ready_woken (h : Inv S B) {k : Nat} (h2 : k < 17) (hc : S.C k ≠ 0) (j : Nat) : ready (Pk.woken S k) j = if j = k then true else ready S j := by
  unfold Pk.woken
  rcases h.cls k h2 with c | c | c | c
  · exact absurd c hc
  · rw [if_pos c]
    have q := wokeT_r (T := S.T) (G := S.G) (h.grp k h2) j
    by_cases e : j = k
    · subst e; rw [if_pos rfl] at q ⊢; exact ready_of (S := S) rfl (fun _ => q) (fun q => by omega) (fun q => by omega) (fun a _ _ => absurd c a)
    · rw [if_neg e] at q ⊢; exact ready_of (S := S) rfl (fun x => q.trans (ready_1 x).symm) (fun q => (ready_2 q).symm) (fun q => (ready_3 q).symm) (fun a b c => ready_rest a b c)
  · rw [if_neg (by omega), if_pos c]
    have ha := h.av k h2
    have q := seek_put (Q := S.Q) (v := (S.A k).toNat) (by omega) (k : Int) (j : Int)
    by_cases e : j = k
    · subst e; rw [if_pos rfl] at q ⊢; exact ready_of (S := S) rfl (fun q => by omega) (fun _ => q) (fun q => by omega) (fun _ b _ => absurd c b)
    · rw [if_neg e]; rw [if_neg (by omega)] at q; exact ready_of (S := S) rfl (fun q => (ready_1 q).symm) (fun x => q.trans (ready_2 x).symm) (fun q => (ready_3 q).symm) (fun a b c => ready_rest a b c)
  · rw [if_neg (by omega), if_neg (by omega)]
    by_cases e : j = k
    · subst e; rw [if_pos rfl]; exact ready_of (S := S) rfl (fun q => by omega) (fun q => by omega) (fun _ => by show (De.upd S.d j _ j).r = true; rw [De.upd_same]; exact woke_r _ _) (fun _ _ b => absurd c b)
    · rw [if_neg e]; exact ready_of (S := S) rfl (fun q => (ready_1 q).symm) (fun q => (ready_2 q).symm) (fun q => by show (De.upd S.d k _ j).r = _; rw [De.upd_other _ _ e, ready_3 q]) (fun a b c => ready_rest a b c)

theorem past_r (d : De.Tks) (n : Int) {t : Nat} (ht : t < 17) : (De.past d n t).r = (d t).r := by rw [De.past_at d n ht]; unfold De.again De.fill; split <;> rfl
theorem tickd_r (d : De.Tks) (n : Int) {t : Nat} (ht : t < 17) : (De.tick d n t).r = (d t).r := by
  unfold De.tick
  split
  · exact past_r d n ht
  · rw [past_r _ n ht]
    by_cases e : t = De.pick d
    · rw [← e, De.upd_same]; rfl
    · rw [De.upd_other _ _ e]
theorem tickT_r (T : Fr.Tks) (n j : Nat) : (Fr.tickT T n j).r = (T j).r := by
  unfold Fr.tickT
  by_cases e : j = n
  · subst e; rw [Fr.upd_same]
  · rw [Fr.upd_other _ _ e]
theorem ready_tick (S : St) {j : Nat} (hj : j < 17) : ready (tickS S) j = ready S j := by
  refine ready_of (S := S) (by rw [tickS_C]) (fun q => ?_) (fun q => ?_) (fun q => ?_) (fun a b c => ready_rest a b c)
  · rw [ready_1 q]; unfold tickS
    split
    · rfl
    · split
      · rfl
      · split
        · exact tickT_r _ _ _
        · rfl
  · rw [ready_2 q]; unfold tickS
    split
    · rfl
    · split
      · show (Pr.seek (if (head S).row % 3 = 0 then turned S.Q else S.Q) j).isSome = _
        split
        · exact seek_turned _ _
        · rfl
      · split <;> rfl
  · rw [ready_3 q]; unfold tickS
    split
    · exact tickd_r _ _ hj
    · split
      · exact past_r _ _ hj
      · split <;> exact past_r _ _ hj

/-- Who goes is ready, and nobody who is ready and not of the class of deadlines has a greater class. -/
theorem Goes.of {m : Nat} (h : Inv S B) (hg : Goes S m) : (m ≠ 0 → ready S m = true) ∧ ∀ x, x < 17 → ready S x = true → S.C x ≤ 2 → m ≠ 0 ∧ S.C x ≤ S.C m := by
  cases hg with
  | dead h1 hr hc => exact ⟨fun _ => by rw [ready_3 hc]; exact hr.1, fun x _ _ hx => ⟨h1, by omega⟩⟩
  | prio h1 v m xs ht hv hq m1 m2 hc => exact ⟨fun _ => by rw [ready_2 hc, seek_iff]; exact ⟨v, hv, by rw [hq]; simp⟩, fun x _ _ hx => ⟨by omega, by omega⟩⟩
  | fair h1 ht hn hr hc =>
    refine ⟨fun _ => by rw [ready_1 hc]; exact hr, fun x hx hrx hx2 => ⟨hn, ?_⟩⟩
    rw [hc]
    have : S.C x ≠ 2 := fun c => by
      rw [ready_2 c, seek_iff] at hrx
      obtain ⟨i, hi, hm⟩ := hrx
      have := Pr.topTo_no ht i hi
      rw [this] at hm; cases hm
    omega
  | none h1 ht hn =>
    refine ⟨fun e => absurd rfl e, fun x hx hrx hx2 => ?_⟩
    exfalso
    rcases h.cls x hx with c | c | c | c
    · exact ready_there hrx c
    · rw [ready_1 c, h.next_none hn hx] at hrx; cases hrx
    · rw [ready_2 c, seek_iff] at hrx
      obtain ⟨i, hi, hm⟩ := hrx
      have := Pr.topTo_no ht i hi
      rw [this] at hm; cases hm
    · omega

/-- A task that comes. -/
def newFair (S : St) (k : Nat) (a : Int) : St := { S with T := Fr.addT S.T S.G k (costOf a) 0, G := Fr.addG S.T S.G k (costOf a) 0, C := upd S.C k 1 }
def newPrio (S : St) (k v : Nat) : St := { S with Q := upd S.Q v (S.Q v ++ [(k : Int)]), C := upd S.C k 2 }
def newDead (S : St) (k : Nat) (a b : Int) : St := { S with d := De.upd S.d k (De.came a b S.n), C := upd S.C k 3 }

theorem Inv.ready_newFair (h : Inv S B) {k : Nat} (h2 : k < 17) (a : Int) (j : Nat) : ready (Pk.newFair S k a) j = if j = k then true else ready S j := by
  have q := wokeT_r (T := Fr.upd S.T k ⟨costOf a, 0, 0, false⟩) (G := S.G) (k := k) (by rw [Fr.upd_same]) j
  by_cases e : j = k
  · subst e
    rw [if_pos rfl] at q ⊢
    rw [ready_1 (by show Pr.upd S.C j 1 j = 1; rw [Pr.upd_same])]; exact q
  · rw [if_neg e, Fr.upd_other _ _ e] at q
    rw [if_neg e]
    exact ready_of (S := S) (by show Pr.upd S.C k 1 j = _; rw [Pr.upd_other _ _ e]) (fun x => q.trans (ready_1 x).symm) (fun q => (ready_2 q).symm) (fun q => (ready_3 q).symm) (fun a b c => ready_rest a b c)
theorem ready_newPrio {k : Nat} {v : Nat} (hv : v < 8) (j : Nat) : ready (Pk.newPrio S k v) j = if j = k then true else ready S j := by
  have q := seek_put (Q := S.Q) (v := v) hv (k : Int) (j : Int)
  by_cases e : j = k
  · subst e
    rw [if_pos rfl] at q ⊢
    rw [ready_2 (by show Pr.upd S.C j 2 j = 2; rw [Pr.upd_same])]; exact q
  · rw [if_neg (by omega)] at q
    rw [if_neg e]
    exact ready_of (S := S) (by show Pr.upd S.C k 2 j = _; rw [Pr.upd_other _ _ e]) (fun q => (ready_1 q).symm) (fun x => q.trans (ready_2 x).symm) (fun q => (ready_3 q).symm) (fun a b c => ready_rest a b c)
theorem ready_newDead {k : Nat} (a b : Int) (j : Nat) : ready (Pk.newDead S k a b) j = if j = k then true else ready S j := by
  by_cases e : j = k
  · subst e
    rw [if_pos rfl, ready_3 (by show Pr.upd S.C j 3 j = 3; rw [Pr.upd_same])]
    show (De.upd S.d j _ j).r = true
    rw [De.upd_same]; rfl
  · rw [if_neg e]
    exact ready_of (S := S) (by show Pr.upd S.C k 3 j = _; rw [Pr.upd_other _ _ e]) (fun q => (ready_1 q).symm) (fun q => (ready_2 q).symm) (fun q => by show (De.upd S.d k _ j).r = _; rw [De.upd_other _ _ e, ready_3 q]) (fun a b c => ready_rest a b c)
end
end Go.Proofs.YtpincdcebhmnhaaGreat.Pk
/- Contracts of package pick: New. -/
namespace Go.Proofs.YtpincdcebhmnhaaGreat.Pk
open Go.ChangeShapes Go.WideShapes Go.ChangeAt Go.RowKit Go.Maps
set_option linter.unusedVariables false

theorem new_any (w : World) : Calls Tryz.prog 4 #[] w fun e w' => ∃ p, e = .returned (.pointer (some ⟨p, 0, none⟩)) ∧ p = w.heap.size ∧ PickAt w' p 74 Pr.noV noS ∧ Only (fun _ => False) w w' := by
  have HZ : Hid (PickAt (w.alloc (.cells Tryz.zeroCells74 74)) w.heap.size 74 Pr.noV noS) := Lib.hid (zero_at (P := 0) w Tryz.zeroCells74 (by decide)
    ⟨Nat.le_of_ble_eq_true (by kernel_rfl), Fr.lt17 (by repeat' (first | apply And.intro | kernel_rfl)), Fr.lt17 (by repeat' (first | apply And.intro | kernel_rfl)), Fr.lt17 (by repeat' (first | apply And.intro | kernel_rfl)), Fr.lt17 (by repeat' (first | apply And.intro | kernel_rfl)), Fr.lt9 (by repeat' (first | apply And.intro | kernel_rfl)), Fr.lt9 (by repeat' (first | apply And.intro | kernel_rfl))⟩
    (Pr.lt8 (by repeat' (first | apply And.intro | kernel_rfl)))
    ⟨Nat.le_of_ble_eq_true (by kernel_rfl), De.lt17 (by repeat' (first | apply And.intro | kernel_rfl)), De.lt17 (by repeat' (first | apply And.intro | kernel_rfl)), De.lt17 (by repeat' (first | apply And.intro | kernel_rfl)), De.lt17 (by repeat' (first | apply And.intro | kernel_rfl)), De.lt17 (by repeat' (first | apply And.intro | kernel_rfl)), De.lt17 (by repeat' (first | apply And.intro | kernel_rfl)), by kernel_rfl⟩
    (Fr.lt17 (by repeat' (first | apply And.intro | kernel_rfl))) (Fr.lt17 (by repeat' (first | apply And.intro | kernel_rfl))) (by kernel_rfl) (by kernel_rfl))
  go_enter Tryz.func4, Tryz.ntmps4
  go_wp2
  go_ret
  exact ⟨_, rfl, rfl, HZ.out, (Only.refl _ w).alloc _⟩
end Go.Proofs.YtpincdcebhmnhaaGreat.Pk
/- The contract of Rest: a remainder. -/
namespace Go.Proofs.YtpincdcebhmnhaaGreat
open Go.ChangeShapes Go.WideShapes Go.ChangeAt Go.RowKit
set_option linter.unusedVariables false

theorem u64_is (k : Int) : IntKind.u64.wrap k = k % 18446744073709551616 := by
  simp [IntKind.wrap, IntKind.signed, IntKind.bits]

end Go.Proofs.YtpincdcebhmnhaaGreat
/- A scheduler of a call's own; pickBegun. -/
namespace Go.Proofs.YtpincdcebhmnhaaGreat.Pk
open Go.ChangeShapes Go.WideShapes Go.ChangeAt Go.RowKit Go.Maps
open Go.Proofs.YtpincdcebhmnhaaGreat.Vt
set_option linter.unusedVariables false

theorem only_trans {a b c : World} (h : Only (fun _ => False) a b) (k : Only (fun _ => False) b c) : Only (fun _ => False) a c := h.trans k (fun _ _ h => h)

/-- A scheduler of the call's own. -/
structure Mine (w0 w : World) (p : Nat) (V : Nat → Value) (S : St) : Prop where
  at_ : PickAt w p 74 V S
  own : ∀ k, Pr.Foot p V k → w0.heap.size ≤ k
  only : Only (fun _ => False) w0 w

section
variable {w0 w w' : World} {p : Nat} {V V' : Nat → Value} {S S' : St} {B : Int}
theorem Mine.quiet (h : Mine w0 w p V S) (hO : Only (fun _ => False) w w') : Mine w0 w' p V S := ⟨h.at_.later hO, h.own, only_trans h.only hO⟩
theorem Mine.beside {R : Nat → Prop} (h : Mine w0 w p V S) (hO : Only R w w') (hR : ∀ k, Pr.Foot p V k → ¬ R k) (hN : ∀ k, R k → w0.heap.size ≤ k) : Mine w0 w' p V S :=
  ⟨h.at_.keep hO hR, h.own, h.only.trans hO (fun x hx e => by have := hN x e; omega)⟩
theorem Mine.step (h : Mine w0 w p V S) (hq : PickAt w' p 74 V' S') (hs : PStep p V V' w w') : Mine w0 w' p V' S' :=
  ⟨hq, fun k hk => (hs.grow k hk).elim (h.own k) (fun e => Nat.le_trans h.only.size e), h.only.trans hs.only (fun x hx e => by have := h.own x e; omega)⟩
/-- What is known behind a call that changes it. -/
def Did2 (w0 : World) (p : Nat) (S : St) (x : Value) (e : Ending) (w' : World) : Prop := e = .returned x ∧ ∃ V', Mine w0 w' p V' S
theorem Mine.did {f : Nat} {args : Array Value} {x : Value} (h : Mine w0 w p V S) (k : Calls Tryz.prog f args w (Did p 74 V S' x w)) : Calls Tryz.prog f args w (Did2 w0 p S' x) :=
  k.mono fun e w' ⟨h1, V', h2, h3⟩ => ⟨h1, V', h.step h2 h3⟩

theorem new_mine {w0 w : World} (hO : Only (fun _ => False) w0 w) : Calls Tryz.prog 4 #[] w fun e w' => ∃ p, e = .returned (.pointer (some ⟨p, 0, none⟩)) ∧ p = w.heap.size ∧ Mine w0 w' p Pr.noV noS :=
  (new_any w).mono fun e w' ⟨p, h1, h2, h3, h4⟩ => ⟨p, h1, h2, h3, fun k hk => by rw [Pr.no_foot hk, h2]; exact hO.size, only_trans hO h4⟩

theorem mine_fair (h : Mine w0 w p V S) (hI : Inv S B) (k : Nat) (x : Int) (e : (k : Int) = x) (h1 : 1 ≤ k) (h2 : k ≤ 16) (a : Int) (ha : isW a = true) (hc : S.C k = 0) :
    Calls Tryz.prog 5 #[.pointer (some ⟨p, 0, none⟩), .int .i64 x, .int .i64 a] w (Did2 w0 p (newFair S k a) (.int .i64 0)) := by
  subst e
  exact h.did (fair_new h.at_ k h1 h2 a hc ha (hI.free_none (by omega) hc).1)
theorem mine_prio (h : Mine w0 w p V S) (hI : Inv S B) (k : Nat) (x : Int) (e : (k : Int) = x) (h1 : 1 ≤ k) (h2 : k ≤ 16) (v : Nat) (y : Int) (ey : (v : Int) = y) (hv : v < 8) (hc : S.C k = 0) :
    Calls Tryz.prog 6 #[.pointer (some ⟨p, 0, none⟩), .int .i64 x, .int .i64 y] w (Did2 w0 p (newPrio S k v) (.int .i64 0)) := by
  subst e ey
  exact h.did (prio_new h.at_ hI.uniq k h1 h2 v hv hc (hI.free_none (by omega) hc).2.2)
theorem mine_dead (h : Mine w0 w p V S) (hI : Inv S B) (hB : B ≤ 8000000000000) (k : Nat) (x : Int) (e : (k : Int) = x) (h1 : 1 ≤ k) (h2 : k ≤ 16) (a b : Int) (hg : De.Good k a b) (hc : S.C k = 0) :
    Calls Tryz.prog 9 #[.pointer (some ⟨p, 0, none⟩), .int .i64 x, .int .i64 a, .int .i64 b] w (Did2 w0 p (newDead S k a b) (.int .i64 0)) := by
  subst e
  have := hI.nB
  exact h.did (dead_new h.at_ k h1 h2 a b hc hg (hI.free_none (by omega) hc).2.1 hI.n0 (by omega))
theorem mine_tick (h : Mine w0 w p V S) (hI : Inv S B) (hB : B ≤ 8000000000000) {m : Int} (hm : best S = m) :
    Calls Tryz.prog 7 #[.pointer (some ⟨p, 0, none⟩)] w (Did2 w0 p (tickS S) (.int .i64 m)) := by
  subst hm
  exact h.did (tick_any h.at_ hI hB)
theorem mine_block (h : Mine w0 w p V S) (hI : Inv S B) (t : Int) :
    Calls Tryz.prog 13 #[.pointer (some ⟨p, 0, none⟩), .int .i64 t] w (Did2 w0 p (blockS S t) (.int .i64 (blockE S t))) := h.did (block_any h.at_ hI t)
theorem mine_wake (h : Mine w0 w p V S) (hI : Inv S B) (hB : B ≤ 8000000000000000) (t : Int) :
    Calls Tryz.prog 14 #[.pointer (some ⟨p, 0, none⟩), .int .i64 t] w (Did2 w0 p (wakeS S t) (.int .i64 (wakeE S t))) := h.did (wake_any h.at_ hI hB t)
end

def b1 : St := newFair noS 1 5
def b2 : St := newPrio b1 2 0
theorem inv_b1 : Inv b1 0 := inv_no.new_fair (by omega) (by omega) rfl (by decide)
theorem inv_b2 : Inv b2 0 := inv_b1.new_prio (by omega) (by omega) rfl (by omega)
theorem best_b2 : best b2 = 2 := by
  rw [best_2 (v := 0) (by decide) (by decide)]; decide

end Go.Proofs.YtpincdcebhmnhaaGreat.Pk
/- Who goes next has the least of the times that compete: without memory. -/
namespace Go.Proofs.YtpincdcebhmnhaaGreat.Fr
open Go.Proofs.YtpincdcebhmnhaaGreat.Vt
set_option linter.unusedVariables false

/-- A time that competes. -/
def Top (T : Tks) (G : Grs) (x : Int) : Prop := (∃ g : Nat, (1 ≤ g ∧ g ≤ 8) ∧ first T g ≠ 0 ∧ x = (G g).v) ∨ ∃ t, t < 17 ∧ isOf T 0 t ∧ x = (T t).v

section
variable {T : Tks} {G : Grs}

/-- What is known of the best of groups 1 to k. -/
theorem nextTo_spec (T : Tks) (G : Grs) (k : Nat) :
    ((nextTo T G k).1 = 0 → ∀ g : Nat, 1 ≤ g → g ≤ k → first T g = 0) ∧
    ((nextTo T G k).1 ≠ 0 → ∃ g : Nat, (1 ≤ g ∧ g ≤ k) ∧ first T g ≠ 0 ∧ nextTo T G k = (first T g, (G g).v) ∧ (∀ g' : Nat, 1 ≤ g' → g' ≤ k → first T g' ≠ 0 → (G g).v ≤ (G g').v) ∧ ∀ g' : Nat, 1 ≤ g' → g' < g → first T g' ≠ 0 → (G g).v ≠ (G g').v) := by
  induction k with
  | zero => exact ⟨fun _ g h1 h2 => by omega, fun h => absurd rfl h⟩
  | succ k ih =>
    obtain ⟨i1, i2⟩ := ih
    unfold nextTo
    have ek : ((k : Int) + 1) = ((k + 1 : Nat) : Int) := by omega
    rw [ek]
    by_cases hc : first T ((k + 1 : Nat) : Int) ≠ 0 ∧ ((nextTo T G k).1 = 0 ∨ (G (k + 1)).v < (nextTo T G k).2)
    · rw [if_pos hc]
      refine ⟨fun h => absurd h hc.1, fun _ => ⟨k + 1, ⟨by omega, by omega⟩, hc.1, rfl, fun g' h1 h2 h3 => ?_, fun g' h1 h2 h3 => ?_⟩⟩
      · by_cases e : g' = k + 1
        · subst e; exact Int.le_refl _
        · by_cases z : (nextTo T G k).1 = 0
          · exact absurd (i1 z g' h1 (by omega)) h3
          · obtain ⟨g, -, -, e2, e3, -⟩ := i2 z
            rcases hc.2 with h | h
            · exact absurd h z
            · rw [e2] at h
              have := e3 g' h1 (by omega) h3
              simp only at h; omega
      · by_cases z : (nextTo T G k).1 = 0
        · exact absurd (i1 z g' h1 (by omega)) h3
        · obtain ⟨g, -, -, e2, e3, -⟩ := i2 z
          rcases hc.2 with h | h
          · exact absurd h z
          · rw [e2] at h
            have := e3 g' h1 (by omega) h3
            simp only at h; omega
    · rw [if_neg hc]
      refine ⟨fun z g h1 h2 => ?_, fun z => ?_⟩
      · by_cases e : g = k + 1
        · subst e
          apply Decidable.byContradiction
          intro h
          exact hc ⟨h, Or.inl z⟩
        · exact i1 z g h1 (by omega)
      · obtain ⟨g, e0, e1, e2, e3, e4⟩ := i2 z
        refine ⟨g, ⟨e0.1, by omega⟩, e1, e2, fun g' h1 h2 h3 => ?_, e4⟩
        by_cases e : g' = k + 1
        · subst e
          have : ¬ (G (k + 1)).v < (nextTo T G k).2 := fun h => hc ⟨h3, Or.inr h⟩
          rw [e2] at this
          simp only at this; omega
        · exact e3 g' h1 (by omega) h3

/-- Who goes next: of group g, the first of those with the least time; or without a group. -/
theorem next_spec (h0 : (T 0).r = false) :
    ((next T G).1 = 0 → ∀ x, ¬ Top T G x) ∧
    ((next T G).1 ≠ 0 → Top T G (next T G).2 ∧ (∀ x, Top T G x → (next T G).2 ≤ x) ∧
      ((∃ g : Nat, (1 ≤ g ∧ g ≤ 8) ∧ first T g ≠ 0 ∧ next T G = (first T g, (G g).v) ∧ ∀ g' : Nat, 1 ≤ g' → g' < g → first T g' ≠ 0 → (G g').v ≠ (G g).v) ∨
       (first T 0 ≠ 0 ∧ next T G = (first T 0, (T (first T 0)).v) ∧ ∀ g : Nat, 1 ≤ g → g ≤ 8 → first T g ≠ 0 → (G g).v ≠ (T (first T 0)).v))) := by
  obtain ⟨i1, i2⟩ := nextTo_spec T G 8
  unfold next
  by_cases hc : first T 0 ≠ 0 ∧ ((nextTo T G 8).1 = 0 ∨ (T (first T 0)).v < (nextTo T G 8).2)
  · rw [if_pos hc]
    have hf := first_of h0 hc.1
    have hg : ∀ g : Nat, 1 ≤ g → g ≤ 8 → first T g ≠ 0 → (T (first T 0)).v < (G g).v := by
      intro g h1 h2 h3
      by_cases z : (nextTo T G 8).1 = 0
      · exact absurd (i1 z g h1 h2) h3
      · obtain ⟨g1, -, -, e2, e3, -⟩ := i2 z
        rcases hc.2 with h | h
        · exact absurd h z
        · rw [e2] at h
          have := e3 g h1 h2 h3
          simp only at h; omega
    refine ⟨fun h => absurd h hc.1, fun _ => ⟨Or.inr ⟨_, first_lt T 0, hf, rfl⟩, ?_, Or.inr ⟨hc.1, rfl, fun g h1 h2 h3 => by have := hg g h1 h2 h3; omega⟩⟩⟩
    rintro x (⟨g, h1, h2, rfl⟩ | ⟨t, h1, h2, rfl⟩)
    · have := hg g h1.1 h1.2 h2; simp only; omega
    · exact first_le h0 hc.1 t h1 h2
  · rw [if_neg hc]
    refine ⟨fun z x hx => ?_, fun z => ?_⟩
    · rcases hx with ⟨g, h1, h2, -⟩ | ⟨t, h1, h2, -⟩
      · exact h2 (i1 z g h1.1 h1.2)
      · have : first T 0 = 0 := by
          apply Decidable.byContradiction
          intro h; exact hc ⟨h, Or.inl z⟩
        exact first_zero h0 this t h1 h2
    · obtain ⟨g, e0, e1, e2, e3, e4⟩ := i2 z
      rw [e2]
      refine ⟨Or.inl ⟨g, e0, e1, rfl⟩, ?_, Or.inl ⟨g, e0, e1, rfl, fun g' h1 h2 h3 => Ne.symm (e4 g' h1 h2 h3)⟩⟩
      rintro x (⟨g', h1, h2, rfl⟩ | ⟨t, h1, h2, rfl⟩)
      · exact e3 g' h1.1 h1.2 h2
      · have hn : first T 0 ≠ 0 := fun e => first_zero h0 e t h1 h2
        have h4 := first_le h0 hn t h1 h2
        have : ¬ (T (first T 0)).v < (nextTo T G 8).2 := fun h => hc ⟨hn, Or.inr h⟩
        rw [e2] at this
        simp only at this ⊢; omega
end

/-- A list of the times that compete. -/
def Tops (T : Tks) (G : Grs) (U : List Int) : Prop := ∀ x, x ∈ U ↔ Top T G x

theorem tops_empty {T : Tks} {G : Grs} {U : List Int} (h0 : (T 0).r = false) (h : Tops T G U) : U = [] ↔ (next T G).1 = 0 := by
  obtain ⟨h1, h2⟩ := next_spec (G := G) h0
  constructor
  · intro e
    apply Decidable.byContradiction
    intro z
    have := (h _).2 (h2 z).1
    rw [e] at this; cases this
  · intro z
    match U, h with
    | [], _ => rfl
    | x :: r, h => exact absurd ((h x).1 (by simp)) (h1 z x)
theorem tops_least {T : Tks} {G : Grs} {U : List Int} {m : Int} (h0 : (T 0).r = false) (h : Tops T G U) (hm : m ∈ U) (hl : ∀ x ∈ U, m ≤ x) : m = (next T G).2 := by
  have hz : (next T G).1 ≠ 0 := fun z => by rw [(tops_empty h0 h).2 z] at hm; cases hm
  obtain ⟨h1, h2, -⟩ := (next_spec (G := G) h0).2 hz
  have := hl _ ((h _).2 h1)
  have := h2 m ((h m).1 hm)
  omega
end Go.Proofs.YtpincdcebhmnhaaGreat.Fr
