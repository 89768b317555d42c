/- One processor's scheduler: what is always so stays so. -/
import Derived.Test.YtpincdcebhmnhaaPkInv
namespace Go.Proofs.Ytpincdcebhmnhaa.Pk
open Go.ChangeShapes Go.WideShapes Go.ChangeAt Go.RowKit Go.Maps
open Go.Proofs.Ytpincdcebhmnhaa.Vt
set_option linter.unusedVariables false

section
variable {S : St} {B : Int}

theorem pos_B (h : Inv S B) : 0 ≤ B := by have := h.n0; have := h.nB; omega

/-- The fair class has changed. -/
theorem Inv.set_fair (h : Inv S B) {T' : Fr.Tks} (hF : Fr.Fit T' S.G (B * 1048576)) (hg : ∀ t, t < 17 → (T' t).g = (S.T t).g) (hc : ∀ t, t < 17 → (T' t).c = (S.T t).c) : Inv { S with T := T' } B :=
  { h with fit := hF, grp := fun t ht => (hg t ht).trans (h.grp t ht), cf := fun t ht => by show S.C t = 1 ↔ (T' t).c ≠ 0; rw [hc t ht]; exact h.cf t ht }
theorem Inv.set_dead (h : Inv S B) {k : Nat} (hk : k < 17) {x : De.Tk} (hx : De.Ok x S.n) (hp : x.p = (S.d k).p) (ho : x.p = 0 → x.o = false) : Inv { S with d := De.upd S.d k x } B := by
  refine { h with dfit := ?_, bare := ?_, cd := fun t ht => ?_ }
  · exact h.dfit.upd hx (fun e => by subst e; rw [hp]; exact h.dfit.no)
  · exact h.bare.upd ho
  · show S.C t = 3 ↔ (De.upd S.d k x t).p ≠ 0
    by_cases e : t = k
    · subst e; rw [De.upd_same, hp]; exact h.cd t ht
    · rw [De.upd_other _ _ e]; exact h.cd t ht
theorem Inv.set_queue (h : Inv S B) {v : Nat} (hv : v < 8) {xs : List Int} (hu : Pr.Uniq (upd S.Q v xs)) (hx : ∀ x ∈ xs, S.C x.toNat = 2) : Inv { S with Q := upd S.Q v xs } B := by
  refine { h with uniq := hu, cq := fun i hi x hm => ?_ }
  change x ∈ Pr.upd S.Q v xs i at hm
  by_cases e : i = v
  · subst e; rw [Pr.upd_same] at hm; exact hx x hm
  · rw [Pr.upd_other _ _ e] at hm; exact h.cq i hi x hm

theorem Inv.slept (h : Inv S B) {k : Nat} (h1 : 1 ≤ k) (h2 : k ≤ 16) (hc : S.C k ≠ 0) : Inv (Pk.slept S k) B := by
  unfold Pk.slept
  rcases h.cls k (by omega) with c | c | c | c
  · exact absurd c hc
  · rw [if_pos c]
    have q := h.fit
    refine h.set_fair (q.upd_t h1 _ (q.c k (by omega)) (q.v k (by omega)) (q.g k (by omega)) (fun e => by cases e)) (fun t ht => ?_) (fun t ht => ?_)
    · by_cases e : t = k
      · subst e; rw [Fr.upd_same]
      · rw [Fr.upd_other _ _ e]
    · by_cases e : t = k
      · subst e; rw [Fr.upd_same]
      · rw [Fr.upd_other _ _ e]
  · rw [if_neg (by omega), if_pos c]
    cases hs : Pr.seek S.Q (k : Int) with
    | none => exact h
    | some i =>
      obtain ⟨hi, hm⟩ := Pr.seek_is hs
      have q := h.set_queue hi (h.uniq.out (t := (k : Int)) hi) (fun x hx => h.cq i hi x (List.mem_of_mem_erase hx))
      refine { q with av := fun t ht => ?_ }
      show 0 ≤ Pr.upd S.A k (i : Int) t ∧ Pr.upd S.A k (i : Int) t < 8
      by_cases e : t = k
      · subst e; rw [Pr.upd_same]; omega
      · rw [Pr.upd_other _ _ e]; exact h.av t ht
  · rw [if_neg (by omega), if_neg (by omega)]
    have q := (h.dfit.at (t := k) (by omega))
    exact h.set_dead (by omega) q.slept rfl (fun e => h.bare k (by omega) e)
theorem Inv.block (h : Inv S B) (t : Int) : Inv (blockS S t) B := by
  unfold blockS
  split
  · exact h
  · rename_i hf
    obtain ⟨k, rfl, k1, k2, kc⟩ := not_free hf
    split
    · exact h.slept k1 k2 kc
    · exact h

theorem Inv.woken (h : Inv S B) {k : Nat} (h1 : 1 ≤ k) (h2 : k ≤ 16) (hc : S.C k ≠ 0) (hr : ready S k = false) : Inv (Pk.woken S k) B := by
  unfold Pk.woken
  rcases h.cls k (by omega) with c | c | c | c
  · exact absurd c hc
  · rw [if_pos c]
    have hg := h.grp k (by omega)
    have eG : Fr.wokeG S.T S.G k = S.G := Fr.wokeG_0 hg
    have q := h.fit.woke h1 h2 ((h.cf k (by omega)).1 c)
    rw [eG] at q ⊢
    have q2 := Fr.woke_cg S.T S.G k
    exact h.set_fair q (fun t _ => (q2.1 t).2) (fun t _ => (q2.1 t).1)
  · rw [if_neg (by omega), if_pos c]
    have ha := h.av k (by omega)
    have hs : Pr.seek S.Q (k : Int) = none := by
      have c1 : S.C k ≠ 1 := by omega
      unfold ready at hr
      rw [if_neg c1, if_pos c] at hr
      cases e : Pr.seek S.Q (k : Int) with
      | none => rfl
      | some i => rw [e] at hr; cases hr
    refine h.set_queue (by omega) (h.uniq.put (by omega) hs (by omega)) (fun x hx => ?_)
    rcases List.mem_append.1 hx with hx | hx
    · exact h.cq _ (by omega) x hx
    · simp at hx; subst hx; simpa using c
  · rw [if_neg (by omega), if_neg (by omega)]
    have q := (h.dfit.at (t := k) (by omega))
    have hp := (h.cd k (by omega)).1 c
    refine h.set_dead (by omega) (q.woke h.n0 hp) ?_ (fun e => ?_)
    · unfold De.woke De.fill; split <;> rfl
    · exfalso; revert e; unfold De.woke De.fill; split <;> exact hp
theorem Inv.wake (h : Inv S B) (t : Int) : Inv (wakeS S t) B := by
  unfold wakeS
  split
  · exact h
  · rename_i hf
    obtain ⟨k, rfl, k1, k2, kc⟩ := not_free hf
    split
    · exact h
    · rename_i hr
      exact h.woken k1 k2 kc (by simpa using hr)

theorem Inv.head (h : Inv S B) : Inv (Pk.head S) (B + 1) := by
  have h2 := h.mono (B' := B + 1) (by omega)
  have := h.rB
  have := h.r0
  have := pos_B h
  refine { h2 with r0 := ?_, rB := ?_ }
  · show 0 ≤ if best S = S.now then S.row + 1 else 1
    split <;> omega
  · show (if best S = S.now then S.row + 1 else 1) ≤ B + 1
    split <;> omega

/-- The time of the class of deadlines has gone on. -/
theorem Inv.set_past (h : Inv S B) {d' : De.Tks} (hn : S.n + 1 ≤ B) (hF : De.Fit d' (S.n + 1)) (hb : De.Bare d') (hp : ∀ t, t < 17 → (d' t).p = (S.d t).p) : Inv { S with d := d', n := S.n + 1 } B :=
  { h with dfit := hF, bare := hb, n0 := by have := h.n0; show 0 ≤ S.n + 1; omega, nB := hn, cd := fun t ht => by show S.C t = 3 ↔ (d' t).p ≠ 0; rw [hp t ht]; exact h.cd t ht }
theorem past_p (d : De.Tks) (n : Int) {t : Nat} (ht : t < 17) : (De.past d n t).p = (d t).p := by rw [De.past_at d n ht, De.again_p]
theorem use_p (x : De.Tk) : (De.use x).p = x.p := rfl
theorem tick_p (d : De.Tks) (n : Int) {t : Nat} (ht : t < 17) : (De.tick d n t).p = (d t).p := by
  unfold De.tick
  split
  · exact past_p d n ht
  · rw [past_p _ n ht]
    by_cases e : t = De.pick d
    · rw [← e, De.upd_same, use_p]
    · rw [De.upd_other _ _ e]

theorem Inv.turned (h : Inv S B) : Inv { S with Q := turned S.Q } B := by
  unfold Pk.turned
  cases ht : Pr.top S.Q with
  | none => exact h
  | some v =>
    obtain ⟨hv, hne, -⟩ := Pr.topTo_is ht
    cases hq : S.Q v with
    | nil => exact absurd hq hne
    | cons x xs =>
      have q := h.uniq.turned hv hq
      simp only [hq, List.tail_cons]
      refine h.set_queue hv q (fun y hy => ?_)
      apply h.cq v hv
      rw [hq]
      rcases List.mem_append.1 hy with hy | hy
      · exact List.mem_cons_of_mem _ hy
      · have : y = x := by simpa using hy
        subst this; simp

theorem Inv.tick (h : Inv S B) : Inv (tickS S) (B + 1) := by
  have hh := h.head
  have hn : S.n + 1 ≤ B + 1 := by have := h.nB; omega
  have hP : De.Fit (De.past S.d S.n) (S.n + 1) := h.dfit.past h.bare h.n0
  have hB : De.Bare (De.past S.d S.n) := h.bare.past
  unfold tickS
  split
  · exact hh.set_past (d' := De.tick S.d S.n) hn (h.dfit.tick h.bare h.n0) (h.bare.tick h.dfit) (fun t ht => tick_p _ _ ht)
  · split
    · split
      · exact (hh.turned).set_past (d' := De.past S.d S.n) hn hP hB (fun t ht => past_p _ _ ht)
      · exact hh.set_past (d' := De.past S.d S.n) hn hP hB (fun t ht => past_p _ _ ht)
    · split
      · rename_i h1 h2 h3
        have hl := Fr.next_lt S.T S.G
        have q := h.fit.tick (n := (Fr.next S.T S.G).1) (by omega) (by omega)
        have eG : Fr.tickG S.T S.G (Fr.next S.T S.G).1 = S.G := by unfold Fr.tickG; rw [if_pos (h.grp _ hl)]
        rw [eG] at q
        have q2 : Inv { Pk.head S with T := Fr.tickT S.T (Fr.next S.T S.G).1 } (B + 1) := by
          refine hh.set_fair (q.mono (by omega)) (fun t ht => ?_) (fun t ht => ?_)
          · unfold Fr.tickT
            by_cases e : t = (Fr.next S.T S.G).1
            · rw [← e, Fr.upd_same]; rfl
            · rw [Fr.upd_other _ _ e]; rfl
          · unfold Fr.tickT
            by_cases e : t = (Fr.next S.T S.G).1
            · rw [← e, Fr.upd_same]; rfl
            · rw [Fr.upd_other _ _ e]; rfl
        exact q2.set_past (d' := De.past S.d S.n) hn hP hB (fun t ht => past_p _ _ ht)
      · exact hh.set_past (d' := De.past S.d S.n) hn hP hB (fun t ht => past_p _ _ ht)

/-- A class set for a number that had none. -/
theorem Inv.new_fair (h : Inv S B) {k : Nat} (h1 : 1 ≤ k) (h2 : k ≤ 16) (hc : S.C k = 0) {a : Int} (ha : isW a = true) : Inv { S with T := Fr.addT S.T S.G k (costOf a) 0, G := Fr.addG S.T S.G k (costOf a) 0, C := upd S.C k 1 } B := by
  obtain ⟨f1, f2, f3⟩ := h.free_none (t := k) (by omega) hc
  have q0 := h.fit.add h1 ha (m := 0) (by omega) (by omega)
  have hc0 : costOf a ≠ 0 := by
    have := Vt.isW_yes ha
    unfold costOf
    have : 1 ≤ 1048576 / a := (Int.le_ediv_iff_mul_le (by omega)).2 (by omega)
    omega
  have eG : Fr.addG S.T S.G k (costOf a) 0 = S.G := by unfold Fr.addG; exact Fr.wokeG_0 (by rw [Fr.upd_same])
  have q1 := q0.woke h1 h2 (by rw [Fr.upd_same]; exact hc0)
  have q2 := Fr.woke_cg (Fr.upd S.T k ⟨costOf a, 0, 0, false⟩) S.G k
  have qT : ∀ t, (Fr.addT S.T S.G k (costOf a) 0 t).c = (Fr.upd S.T k ⟨costOf a, 0, 0, false⟩ t).c ∧ (Fr.addT S.T S.G k (costOf a) 0 t).g = (Fr.upd S.T k ⟨costOf a, 0, 0, false⟩ t).g := q2.1
  have q1 : Fr.Fit (Fr.addT S.T S.G k (costOf a) 0) (Fr.addG S.T S.G k (costOf a) 0) (B * 1048576) := q1
  rw [eG] at q1 ⊢
  refine { h with fit := q1, grp := fun t ht => ?_, cls := fun t ht => ?_, c0 := ?_, cf := fun t ht => ?_, cd := fun t ht => ?_, cq := fun i hi x hx => ?_ }
  · show (Fr.addT S.T S.G k (costOf a) 0 t).g = 0
    rw [(qT t).2]
    by_cases e : t = k
    · subst e; rw [Fr.upd_same]
    · rw [Fr.upd_other _ _ e]; exact h.grp t ht
  · show Pr.upd S.C k 1 t = 0 ∨ Pr.upd S.C k 1 t = 1 ∨ Pr.upd S.C k 1 t = 2 ∨ Pr.upd S.C k 1 t = 3
    by_cases e : t = k
    · subst e; rw [Pr.upd_same]; omega
    · rw [Pr.upd_other _ _ e]; exact h.cls t ht
  · show Pr.upd S.C k 1 0 = 0
    rw [Pr.upd_other _ _ (by omega)]; exact h.c0
  · show Pr.upd S.C k 1 t = 1 ↔ (Fr.addT S.T S.G k (costOf a) 0 t).c ≠ 0
    rw [(qT t).1]
    by_cases e : t = k
    · subst e; rw [Pr.upd_same, Fr.upd_same]; simp [hc0]
    · rw [Pr.upd_other _ _ e, Fr.upd_other _ _ e]; exact h.cf t ht
  · show Pr.upd S.C k 1 t = 3 ↔ (S.d t).p ≠ 0
    by_cases e : t = k
    · subst e; rw [Pr.upd_same]; simp [f2]
    · rw [Pr.upd_other _ _ e]; exact h.cd t ht
  · show Pr.upd S.C k 1 x.toNat = 2
    have := h.cq i hi x hx
    rw [Pr.upd_other _ _ (by rintro e; rw [e] at this; omega)]; exact this

theorem Inv.new_prio (h : Inv S B) {k : Nat} (h1 : 1 ≤ k) (h2 : k ≤ 16) (hc : S.C k = 0) {v : Nat} (hv : v < 8) : Inv { S with Q := upd S.Q v (S.Q v ++ [(k : Int)]), C := upd S.C k 2 } B := by
  obtain ⟨f1, f2, f3⟩ := h.free_none (t := k) (by omega) hc
  refine { h with cls := fun t ht => ?_, c0 := ?_, cf := fun t ht => ?_, cd := fun t ht => ?_, uniq := h.uniq.put hv f3 (by omega), cq := fun i hi x hx => ?_ }
  · show Pr.upd S.C k 2 t = 0 ∨ Pr.upd S.C k 2 t = 1 ∨ Pr.upd S.C k 2 t = 2 ∨ Pr.upd S.C k 2 t = 3
    by_cases e : t = k
    · subst e; rw [Pr.upd_same]; omega
    · rw [Pr.upd_other _ _ e]; exact h.cls t ht
  · show Pr.upd S.C k 2 0 = 0
    rw [Pr.upd_other _ _ (by omega)]; exact h.c0
  · show Pr.upd S.C k 2 t = 1 ↔ (S.T t).c ≠ 0
    by_cases e : t = k
    · subst e; rw [Pr.upd_same]; simp [f1]
    · rw [Pr.upd_other _ _ e]; exact h.cf t ht
  · show Pr.upd S.C k 2 t = 3 ↔ (S.d t).p ≠ 0
    by_cases e : t = k
    · subst e; rw [Pr.upd_same]; simp [f2]
    · rw [Pr.upd_other _ _ e]; exact h.cd t ht
  · show Pr.upd S.C k 2 x.toNat = 2
    by_cases e : x.toNat = k
    · rw [e, Pr.upd_same]
    · rw [Pr.upd_other _ _ e]
      change x ∈ Pr.upd S.Q v (S.Q v ++ [(k : Int)]) i at hx
      by_cases e2 : i = v
      · subst e2
        rw [Pr.upd_same] at hx
        rcases List.mem_append.1 hx with hx | hx
        · exact h.cq _ hi x hx
        · simp at hx; subst hx; simp at e
      · rw [Pr.upd_other _ _ e2] at hx; exact h.cq i hi x hx

theorem Inv.new_dead (h : Inv S B) {k : Nat} (h1 : 1 ≤ k) (h2 : k ≤ 16) (hc : S.C k = 0) {a b : Int} (hg : De.Good k a b) : Inv { S with d := De.upd S.d k (De.came a b S.n), C := upd S.C k 3 } B := by
  obtain ⟨f1, f2, f3⟩ := h.free_none (t := k) (by omega) hc
  obtain ⟨-, -, b1, b2, a1, a2⟩ := hg
  refine { h with dfit := h.dfit.upd (De.ok_came a1 a2 b2 h.n0) (fun e => by omega), bare := h.bare.upd (fun _ => rfl), cls := fun t ht => ?_, c0 := ?_, cf := fun t ht => ?_, cd := fun t ht => ?_, cq := fun i hi x hx => ?_ }
  · show Pr.upd S.C k 3 t = 0 ∨ Pr.upd S.C k 3 t = 1 ∨ Pr.upd S.C k 3 t = 2 ∨ Pr.upd S.C k 3 t = 3
    by_cases e : t = k
    · subst e; rw [Pr.upd_same]; omega
    · rw [Pr.upd_other _ _ e]; exact h.cls t ht
  · show Pr.upd S.C k 3 0 = 0
    rw [Pr.upd_other _ _ (by omega)]; exact h.c0
  · show Pr.upd S.C k 3 t = 1 ↔ (S.T t).c ≠ 0
    by_cases e : t = k
    · subst e; rw [Pr.upd_same]; simp [f1]
    · rw [Pr.upd_other _ _ e]; exact h.cf t ht
  · show Pr.upd S.C k 3 t = 3 ↔ (De.upd S.d k (De.came a b S.n) t).p ≠ 0
    by_cases e : t = k
    · subst e; rw [Pr.upd_same, De.upd_same]
      constructor
      · intro _; show b ≠ 0; omega
      · intro _; rfl
    · rw [Pr.upd_other _ _ e, De.upd_other _ _ e]; exact h.cd t ht
  · show Pr.upd S.C k 3 x.toNat = 2
    have := h.cq i hi x hx
    rw [Pr.upd_other _ _ (by rintro e; rw [e] at this; omega)]; exact this
end
end Go.Proofs.Ytpincdcebhmnhaa.Pk
