/- The law SpreadDead: one processor, tasks with deadlines beside others. -/
import Derived.Test.YtddfdnhlghmapaaSpShares
import Derived.Test.YtddfdnhlghmapaaSpEff
import Derived.Test.YtddfdnhlghmapaaSpFull
import Derived.Test.YtddfdnhlghmapaaMeSets
namespace Go.Proofs.Ytddfdnhlghmapaa.Sp
open Go.Proofs.Ytddfdnhlghmapaa.Vt Go.Proofs.Ytddfdnhlghmapaa.Ad
set_option linter.unusedVariables false

/-- What a task has reserved. -/
def dk (x : Tk) : De.Tk := ⟨x.rb, x.rp, x.rl, x.rd, x.r, x.ro⟩
def dNo : De.Tk := ⟨0, 0, 0, 0, false, false⟩
/-- The tasks 1 to m, as tasks with deadlines. -/
def De (S : St) (m : Nat) : De.Tks := fun t => if 1 ≤ t ∧ t ≤ m then dk (S.T t) else dNo
theorem De_in {S : St} {m t : Nat} (h1 : 1 ≤ t) (h2 : t ≤ m) : De S m t = dk (S.T t) := if_pos ⟨h1, h2⟩
theorem De_out {S : St} {m t : Nat} (h : ¬ (1 ≤ t ∧ t ≤ m)) : De S m t = dNo := if_neg h
theorem De_zero (S : St) (m : Nat) : ¬ De.Can (De S m 0) := fun c => by
  rw [De_out (by omega)] at c
  exact absurd c.1 (by decide)
theorem De_like {S S' : St} {m : Nat} (h : ∀ t, dk (S'.T t) = dk (S.T t)) : De S' m = De S m := by
  funext t; unfold De; rw [h]
theorem dk_again (x : Tk) (n : Int) : dk (again x n) = De.again (dk x) n := by
  unfold again De.again dk full De.fill
  by_cases h : x.ro = true ∧ x.rd ≤ n
  · rw [if_pos h, if_pos h]
  · rw [if_neg h, if_neg h]
theorem dk_used {x : Tk} (h3 : x.c = 3) (ho : x.ro = false) : dk (charged x) = De.use (dk x) := by
  unfold charged used
  rw [if_neg (by omega), if_pos h3, if_neg (by rw [ho]; simp)]
  rfl
theorem dk_clr (S : St) (c t : Nat) : dk ((clr S c).T t) = dk (S.T t) := by
  unfold clr; split
  · rfl
  · show dk (upd S.T (S.on c) { S.T (S.on c) with s := S.g + 1 } t) = _
    unfold upd; split
    · next e => subst e; rfl
    · rfl

/-- The tasks 1 to m have deadlines and are ready, others have none; the one whose deadline comes first has the processor. -/
structure Deads (S : St) (m : Nat) : Prop where
  runs : Runs S
  full : Full S
  n : S.n = 1
  old : ∀ t, 1 ≤ t → t ≤ m → core (S.T t) = (3, true, 1, 0)
  oth : ∀ t, m < t → t < 17 → (S.T t).c ≠ 3 ∧ (S.T t).bc = 0 ∧ (S.T t).ro = false
  cur : (De.pick (De S m) ≠ 0 → S.on 0 = De.pick (De S m)) ∧ (De.pick (De S m) = 0 → S.on 0 = 0 ∨ m < S.on 0)

section
variable {S : St} {m : Nat}
theorem De_can {t : Nat} (h : De.Can (De S m t)) : 1 ≤ t ∧ t ≤ m := by
  apply Decidable.byContradiction
  intro e
  rw [De_out e] at h
  exact absurd h.1 (by decide)
theorem De_pick (h : De.pick (De S m) ≠ 0) : 1 ≤ De.pick (De S m) ∧ De.pick (De S m) ≤ m := De_can (De.pick_can h)

/-- Who goes first where the processor is free. -/
theorem first_dead (h16 : m ≤ 16) (hall : ∀ c, c < 4 → S.on c = 0) (h0 : S.T 0 = noTk) (old : ∀ t, 1 ≤ t → t ≤ m → core (S.T t) = (3, true, 1, 0)) (oth : ∀ t, m < t → t < 17 → (S.T t).c ≠ 3 ∧ (S.T t).bc = 0) :
    (De.pick (De S m) ≠ 0 → first S 0 = De.pick (De S m)) ∧ (De.pick (De S m) = 0 → first S 0 = 0 ∨ m < first S 0) := by
  have asks_can : ∀ t, 1 ≤ t → t ≤ m → asks S 0 t = true → De.Can (De S m t) := fun t h1 h2 ha => by
    obtain ⟨q1, q2, q3, q4⟩ := core_is (old t h1 h2)
    have hw := (asks_iff.1 ha).1
    unfold waits at hw
    rw [q2, q4] at hw
    rw [De_in h1 h2]
    exact ⟨q2, by show (S.T t).ro = false; simpa using hw⟩
  have can_asks : ∀ t, De.Can (De S m t) → asks S 0 t = true := fun t hc => by
    obtain ⟨h1, h2⟩ := De_can hc
    obtain ⟨q1, q2, q3, q4⟩ := core_is (old t h1 h2)
    rw [De_in h1 h2] at hc
    exact asks_iff.2 ⟨waits_plain q2 hc.2, by unfold may; rw [q3]; rfl, place_empty hall h1⟩
  have rk3 : ∀ t, 1 ≤ t → t ≤ m → rk0 (S.T t) = -3 ∧ rk1 (S.T t) = (De S m t).d ∧ rk2 (S.T t) = 0 := fun t h1 h2 => by
    obtain ⟨q1, q2, q3, q4⟩ := core_is (old t h1 h2)
    have e : asC (S.T t) = 3 := by unfold asC; rw [if_pos q4]; exact q1
    unfold rk0 rk1 rk2
    rw [if_pos e, if_pos e, if_pos e, De_in h1 h2]
    exact ⟨rfl, rfl, rfl⟩
  have rkn : ∀ t, m < t → t < 17 → -3 < rk0 (S.T t) := fun t h1 h2 => by
    obtain ⟨q1, q2⟩ := oth t h1 h2
    have e : asC (S.T t) ≠ 3 := by unfold asC; rw [if_pos q2]; exact q1
    unfold rk0
    rw [if_neg e]; split <;> omega
  have hf17 : first S 0 ≠ 0 → first S 0 < 17 := fun e => firstTo_lt S 0 17 e
  have hfa : first S 0 ≠ 0 → asks S 0 (first S 0) = true := fun e => firstTo_asks S 0 17 e
  constructor
  · intro hq
    obtain ⟨q1, q2⟩ := De_pick hq
    have hc := De.pick_can hq
    have ha := can_asks _ hc
    have hne : first S 0 ≠ 0 := fun e => by
      have := firstTo_none S 0 17 e _ q1 (by omega)
      rw [ha] at this; cases this
    have hlt := hf17 hne
    have hb : prec (S.T (De.pick (De S m))) (S.T (first S 0)) = false ∧ (De.pick (De S m) < first S 0 → prec (S.T (first S 0)) (S.T (De.pick (De S m))) = true) := firstTo_best S 0 17 hne _ q1 (by omega) ha
    have hfa2 := hfa hne
    generalize first S 0 = f at *
    have hp := prec_not.1 hb.1
    obtain ⟨k1, k2, k3⟩ := rk3 _ q1 q2
    by_cases hfm : f ≤ m
    · obtain ⟨f1, f2, f3⟩ := rk3 f (by omega) hfm
      have hd := (De.pick_first (De_zero S m) hlt (asks_can f (by omega) hfm hfa2)).2
      rw [k1, k2, k3, f1, f2, f3] at hp
      have he : De.pick (De S m) ≤ f := by omega
      apply Decidable.byContradiction
      intro e
      have := prec_iff.1 (hb.2 (by omega))
      rw [k1, k2, k3, f1, f2, f3] at this
      omega
    · have := rkn f (by omega) hlt
      rw [k1] at hp
      omega
  · intro hq
    by_cases hne : first S 0 = 0
    · exact Or.inl hne
    · refine Or.inr ?_
      apply Decidable.byContradiction
      intro e
      exact De.pick_none (De_zero S m) hq (hf17 hne) (asks_can _ (by omega) (by omega) (hfa hne))

/-- A tick. -/
theorem deads_tick (h : Deads S m) (h16 : m ≤ 16) : Deads (tick S 0) m ∧ De (tick S 0) m = De.tick (De S m) S.k := by
  obtain ⟨t1, t2, t3, t4⟩ := tick_eff h.runs (c := 0) (by omega)
  have hn : now { S with T := upd S.T (S.on 0) (charged (S.T (S.on 0))), k := S.k + 1 } = S.k + 1 := by
    unfold now
    show (S.k + 1) / ((S.n : Nat) : Int) = S.k + 1
    rw [h.n]; simp
  have e : tick S 0 = fill (clr (ticks2 S 0 (S.k + 1)) 0) := by
    show fill (clr (ticks2 S 0 (now { S with T := upd S.T (S.on 0) (charged (S.T (S.on 0))), k := S.k + 1 })) 0) = _
    rw [hn]
  have hdk : ∀ t, dk ((tick S 0).T t) = dk ((ticks2 S 0 (S.k + 1)).T t) := fun t => by rw [e, fT, dk_clr]
  have hon := h.runs.on 0 (by omega)
  have hpm := @De_pick S m
  have hD : De (tick S 0) m = De.tick (De S m) S.k := by
    funext t
    by_cases ht : 1 ≤ t ∧ t ≤ m
    · rw [De_in ht.1 ht.2, hdk, ticks2_T S 0 _ (show t < 17 by omega), dk_again]
      unfold De.tick
      by_cases hp : De.pick (De S m) = 0
      · rw [if_pos hp, De.past_at _ _ (by omega), De_in ht.1 ht.2]
        rw [upd_other _ _ (by have := h.cur.2 hp; omega)]
      · rw [if_neg hp, De.past_at _ _ (by omega), h.cur.1 hp]
        by_cases e3 : t = De.pick (De S m)
        · rw [← e3, upd_same, De.upd_same, De_in ht.1 ht.2]
          have hc := De.pick_can hp
          rw [← e3, De_in ht.1 ht.2] at hc
          rw [dk_used (core_is (h.old t ht.1 ht.2)).1 hc.2]
        · rw [upd_other _ _ e3, De.upd_other _ _ e3, De_in ht.1 ht.2]
    · rw [De_out ht]
      unfold De.tick
      have hno : De.again dNo (S.k + 1) = dNo := by unfold De.again; rw [if_neg (by unfold dNo; simp)]
      by_cases hp : De.pick (De S m) = 0
      · rw [if_pos hp]
        unfold De.past De.pastTo
        rw [De_out ht, hno]; split <;> rfl
      · rw [if_neg hp]
        unfold De.past De.pastTo
        rw [De.upd_other _ _ (by have := hpm hp; omega), De_out ht, hno]; split <;> rfl
  have hcore : ∀ t, t < 17 → core ((clr (ticks2 S 0 (S.k + 1)) 0).T t) = core (S.T t) := fun t ht => by
    have := t4 t ht
    rwa [e, fT] at this
  have hro : ∀ t, m < t → t < 17 → ((clr (ticks2 S 0 (S.k + 1)) 0).T t).ro = false := fun t h1 h2 => by
    obtain ⟨o1, o2, o3⟩ := h.oth t h1 h2
    rw [(clr_core _ _ _).2.2.2.2, ticks2_T S 0 _ h2]
    have hx : (upd S.T (S.on 0) (charged (S.T (S.on 0))) t).ro = false := by
      unfold upd; split
      · next e3 => rw [← e3, (charged_ro o1).1]; exact o3
      · exact o3
    unfold again; rw [if_neg (by rw [hx]; simp)]; exact hx
  have hall : ∀ c, c < 4 → (clr (ticks2 S 0 (S.k + 1)) 0).on c = 0 := fun c hc => by
    rw [clr_on]
    by_cases e3 : c = 0
    · rw [if_pos e3]
    · rw [if_neg e3]; exact on_one h.runs h.n hc (by omega)
  have hn3 : (clr (ticks2 S 0 (S.k + 1)) 0).n = 1 := (clr_n _ _).trans h.n
  have hz : (clr (ticks2 S 0 (S.k + 1)) 0).T 0 = noTk := by have := t1.z; rwa [e, fT] at this
  have hfst := first_dead (S := clr (ticks2 S 0 (S.k + 1)) 0) h16 hall hz (fun t h1 h2 => (hcore t (by omega)).trans (h.old t h1 h2)) (fun t h1 h2 => by
    obtain ⟨q1, q2, q3, q4⟩ := core_eq (hcore t h2)
    obtain ⟨o1, o2, o3⟩ := h.oth t h1 h2
    exact ⟨by rw [q1]; exact o1, by rw [q4]; exact o2⟩)
  have hDe : De (tick S 0) m = De (clr (ticks2 S 0 (S.k + 1)) 0) m := De_like fun t => by rw [e, fT]
  have ho : (tick S 0).on 0 = first (clr (ticks2 S 0 (S.k + 1)) 0) 0 := by
    rw [e, fill_one (c := 0) (by rw [hn3]; omega) (fun d hd hd0 => by rw [hn3] at hd; omega), put1_at, if_pos (hall 0 (by omega))]
  refine ⟨⟨t1, t2, t3.trans h.n, fun t h1 h2 => (t4 t (by omega)).trans (h.old t h1 h2), fun t h1 h2 => ?_, ?_⟩, hD⟩
  · obtain ⟨q1, q2, q3, q4⟩ := core_eq (t4 t h2)
    obtain ⟨o1, o2, o3⟩ := h.oth t h1 h2
    refine ⟨by rw [q1]; exact o1, by rw [q4]; exact o2, ?_⟩
    have := hro t h1 h2
    rwa [e, fT]
  · rw [hDe, ho]; exact hfst
theorem tick_k (S : St) (c : Nat) : (tick S c).k = S.k + 1 := by
  obtain ⟨n, e⟩ := tick_two S c
  rw [e]
  show (fillTo _ _).k = _
  rw [(fillTo_k _ _).1]
  unfold clr; split <;> rfl
end

/-! The tasks come. -/
/-- A task as it is when it has come. -/
def inTk (S : St) (k : Nat) (x : Tk) : Tk := risen { S with T := upd S.T k { x with m := all S } } k
theorem enter_T (S : St) (k : Nat) (x : Tk) (j : Nat) : (enter S k x).T j = if j = k then { inTk S k x with s := S.g + 1 } else S.T j := by
  unfold inTk
  obtain ⟨S1, hS1⟩ : ∃ S1 : St, S1 = { S with T := upd S.T k { x with m := all S } } := ⟨_, rfl⟩
  have e3 : enter S k x = fill (queue { S1 with T := upd S1.T k (risen S1 k) } k) := by rw [hS1]; rfl
  rw [e3, fill_T, queue_upd, ← hS1]
  show upd S1.T k { risen S1 k with s := S1.g + 1 } j = _
  have hg : S1.g = S.g := by rw [hS1]
  by_cases e : j = k
  · subst e; rw [if_pos rfl, upd_same, hg]
  · rw [if_neg e, upd_other _ _ e, hS1]
    exact upd_other _ _ e
theorem inTk_dk (S : St) (k : Nat) (x : Tk) (s : Int) : dk { inTk S k x with s := s } = { dk x with r := true } := by
  unfold inTk risen dk
  split <;> (show De.Tk.mk _ _ _ _ _ _ = _; simp only [upd_same])
theorem enter_k (S : St) (k : Nat) (x : Tk) : (enter S k x).k = S.k := (fillTo_k _ _).1
theorem enter_on {S : St} (k : Nat) (x : Tk) (hn : S.n = 1) (h : S.on 0 ≠ 0) : (enter S k x).on 0 = S.on 0 := by
  unfold enter start
  rw [fill_none]
  · rfl
  · intro d hd
    have hd1 : d < S.n := hd
    have : d = 0 := by omega
    subst this; exact h

/-- Who has a deadline, so far. -/
theorem deads_are {S : St} {L : List Use} {k : Nat} (hk : k ≤ L.length) (h16 : k ≤ 16) (old : ∀ t, 1 ≤ t → t ≤ k → (S.T t).c = 3 ∧ ((S.T t).rb, (S.T t).rp) = nthU L (t - 1)) (oth : ∀ t, t < 17 → ¬ (1 ≤ t ∧ t ≤ k) → (S.T t).c ≠ 3) : deadsTo S 17 = L.take k := by
  have go : ∀ j, j ≤ 17 → deadsTo S j = L.take (min (j - 1) k) := by
    intro j
    induction j with
    | zero => intro _; simp [deadsTo]
    | succ j ih =>
      intro hj
      by_cases e : 1 ≤ j ∧ j ≤ k
      · obtain ⟨o1, o2⟩ := old j e.1 e.2
        rw [deads_yes o1, ih (by omega), o2]
        have e1 : min (j - 1) k = j - 1 := by omega
        have e2 : min (j + 1 - 1) k = (j - 1) + 1 := by omega
        rw [e1, e2, De.nthU_get (show j - 1 < L.length by omega)]
        exact (List.take_append_getElem (show j - 1 < L.length by omega))
      · rw [deads_no (oth j (by omega) e), ih (by omega)]
        congr 1; omega
  rw [go 17 (by omega)]
  congr 1; omega

/-- The first k of the tasks with deadlines have come; then i others. -/
structure Begun (S : St) (L : List Use) (k i : Nat) : Prop where
  runs : Runs S
  full : Full S
  n : S.n = 1
  k0 : S.k = 0
  old : ∀ t, 1 ≤ t → t ≤ k → core (S.T t) = (3, true, 1, 0) ∧ dk (S.T t) = De.came0 (nthU L (t - 1))
  oth : ∀ t, t < 17 → ¬ (1 ≤ t ∧ t ≤ k) → (S.T t).c ≠ 3 ∧ (S.T t).bc = 0 ∧ (S.T t).ro = false
  free : ∀ t, k < t → t < 17 → (t < 9 ∨ 9 + i ≤ t) → S.T t = noTk
  on : 1 ≤ k → S.on 0 = 1
section
variable {S : St} {L : List Use} {k i : Nat}
theorem Begun.start (L : List Use) : Begun (noS 1) L 0 0 := ⟨runs_no (by omega), full_no, rfl, rfl, fun t h1 h2 => by omega, fun t _ _ => ⟨by show (0 : Int) ≠ 3; decide, rfl, rfl⟩, fun t _ _ _ => rfl, fun h => by omega⟩
theorem Begun.more (h : Begun S L k 0) (hL : SetOk L) (hk : k < L.length) :
    addDeadE S ((k : Int) + 1) (nthU L k).1 (nthU L k).2 = 0 ∧ Begun (addDeadS S ((k : Int) + 1) (nthU L k).1 (nthU L k).2) L (k + 1) 0 := by
  have hl := hL.len
  have hnew := h.free (k + 1) (by omega) (by omega) (by omega)
  have hu : okU (nthU L k) = true := (hL.each _ (Ad.nthU_mem hk)).1
  have hno : isNo ((k : Int) + 1) = true := decide_eq_true (by omega)
  have hth : ¬ There S ((k : Int) + 1) := fun q => q.2.2 (by rw [show ((k : Int) + 1).toNat = k + 1 by omega, hnew])
  have hds : deadsTo S 17 = L.take k := deads_are (by omega) (by omega) (fun t h1 h2 => by
    obtain ⟨o1, o2⟩ := h.old t h1 h2
    refine ⟨(core_is o1).1, ?_⟩
    have e1 : (S.T t).rb = (nthU L (t - 1)).1 := congrArg De.Tk.b o2
    have e2 : (S.T t).rp = (nthU L (t - 1)).2 := congrArg De.Tk.p o2
    rw [e1, e2]) (fun t h1 h2 => (h.oth t h1 h2).1)
  have hfit : fitsB S (nthU L k) = true := by
    obtain ⟨f1, f2⟩ := De.SetOk.next hL hk
    unfold fitsB fitsL
    rw [hds, h.n, decide_eq_true f1, decide_eq_true f2]; rfl
  have hE : addDeadE S ((k : Int) + 1) (nthU L k).1 (nthU L k).2 = 0 := by
    unfold addDeadE; rw [if_pos ⟨hno, hu⟩, if_neg hth, if_pos hfit]
  have hnow : now S = 0 := by unfold now; rw [h.k0, h.n]; rfl
  have hS : addDeadS S ((k : Int) + 1) (nthU L k).1 (nthU L k).2 = enter S (k + 1) (deadTk (nthU L k).1 (nthU L k).2 0) := by
    unfold addDeadS; rw [if_pos ⟨hno, hu, hth, hfit⟩, hnow, show ((k : Int) + 1).toNat = k + 1 by omega]
  have hEff := addDead_eff (k := k + 1) h.runs hE (by omega) (by omega) (by omega)
  have hall : all S = 1 := by unfold all; rw [h.n]
  have hat := hEff.at_
  rw [hall] at hat
  have hT : ∀ t, t ≠ k + 1 → (addDeadS S ((k : Int) + 1) (nthU L k).1 (nthU L k).2).T t = S.T t := fun t ht => by rw [hS, enter_T, if_neg ht]
  have hdk : dk ((addDeadS S ((k : Int) + 1) (nthU L k).1 (nthU L k).2).T (k + 1)) = De.came0 (nthU L k) := by
    rw [hS, enter_T, if_pos rfl, inTk_dk]; rfl
  have hk0 : (addDeadS S ((k : Int) + 1) (nthU L k).1 (nthU L k).2).k = 0 := by rw [hS, enter_k]; exact h.k0
  have hon1 : 1 ≤ k → (addDeadS S ((k : Int) + 1) (nthU L k).1 (nthU L k).2).on 0 = 1 := fun h1 => by
    have := h.on h1
    rw [hS, enter_on _ _ h.n (by omega)]; exact this
  refine ⟨hE, ?_⟩
  generalize addDeadS S ((k : Int) + 1) (nthU L k).1 (nthU L k).2 = S' at *
  have hn' := hEff.n.trans h.n
  have hold : ∀ t, 1 ≤ t → t ≤ k + 1 → core (S'.T t) = (3, true, 1, 0) ∧ dk (S'.T t) = De.came0 (nthU L (t - 1)) := fun t h1 h2 => by
    by_cases e : t = k + 1
    · subst e; exact ⟨hat, hdk⟩
    · rw [hT t e]; exact h.old t h1 (by omega)
  have hfree : ∀ t, k + 1 < t → t < 17 → S'.T t = noTk := fun t h1 h2 => by rw [hT t (by omega)]; exact h.free t (by omega) h2 (by omega)
  refine ⟨hEff.runs, hEff.full, hn', hk0, hold, fun t h1 h2 => by rw [hT t (by omega)]; exact h.oth t h1 (by omega), fun t h1 h2 _ => hfree t h1 h2, fun _ => ?_⟩
  by_cases hk1 : 1 ≤ k
  · exact hon1 hk1
  · have hz : S'.on 0 ≠ 0 := fun e => by
      have := hEff.full 0 (by omega) e 1 (by omega)
      obtain ⟨o1, o2⟩ := hold 1 (by omega) (by omega)
      obtain ⟨q1, q2, q3, q4⟩ := core_is o1
      have ha : asks S' 0 1 = true := asks_iff.2 ⟨waits_plain q2 (congrArg De.Tk.o o2), by unfold may; rw [q3]; rfl, place_empty (fun c hc => by
        by_cases e2 : c = 0
        · rw [e2]; exact e
        · exact on_one hEff.runs hn' hc (by omega)) (by omega)⟩
      rw [ha] at this; cases this
    have hlv := hEff.runs.live 0 (by omega) hz
    have h16 := hEff.runs.on 0 (by omega)
    apply Decidable.byContradiction
    intro e
    rw [hfree (S'.on 0) (by omega) (by omega)] at hlv
    exact hlv.2.1 rfl
theorem Begun.other (h : Begun S L k i) (hk : k ≤ 8) (hi : i < 8) {c v : Int} (hv : kindOk c v = true) :
    addE S (9 + (i : Int)) c v = 0 ∧ Begun (addS S (9 + (i : Int)) c v) L k (i + 1) := by
  have hnew := h.free (9 + i) (by omega) (by omega) (by omega)
  have hno : isNo (9 + (i : Int)) = true := decide_eq_true (by omega)
  have hth : ¬ There S (9 + (i : Int)) := fun q => q.2.2 (by rw [show (9 + (i : Int)).toNat = 9 + i by omega, hnew])
  have hE : addE S (9 + (i : Int)) c v = 0 := by unfold addE; rw [if_pos ⟨hno, hv⟩, if_neg hth]
  have hS : addS S (9 + (i : Int)) c v = enter S (9 + i) (newTk c v) := by
    unfold addS; rw [if_pos ⟨hno, hv, hth⟩, show (9 + (i : Int)).toNat = 9 + i by omega]
  have hEff := add_eff (k := 9 + i) h.runs hE (by omega) (by omega) (by omega)
  have hT : ∀ t, t ≠ 9 + i → (addS S (9 + (i : Int)) c v).T t = S.T t := fun t ht => by rw [hS, enter_T, if_neg ht]
  have hro : ((addS S (9 + (i : Int)) c v).T (9 + i)).ro = false := by
    have : dk ((addS S (9 + (i : Int)) c v).T (9 + i)) = { dk (newTk c v) with r := true } := by rw [hS, enter_T, if_pos rfl, inTk_dk]
    exact congrArg De.Tk.o this
  have hk0 : (addS S (9 + (i : Int)) c v).k = 0 := by rw [hS, enter_k]; exact h.k0
  have hon1 : 1 ≤ k → (addS S (9 + (i : Int)) c v).on 0 = 1 := fun h1 => by
    have := h.on h1
    rw [hS, enter_on _ _ h.n (by omega)]; exact this
  have hat := core_is hEff.at_
  have hc3 : c ≠ 3 := fun e => by have := of_decide_eq_true hv; omega
  refine ⟨hE, hEff.runs, hEff.full, hEff.n.trans h.n, hk0, fun t h1 h2 => by rw [hT t (by omega)]; exact h.old t h1 h2, fun t h1 h2 => ?_, fun t h1 h2 h3 => by rw [hT t (by omega)]; exact h.free t h1 h2 (by omega), hon1⟩
  by_cases e : t = 9 + i
  · subst e; exact ⟨by rw [hat.1]; exact hc3, hat.2.2.2, hro⟩
  · rw [hT t e]; exact h.oth t h1 h2
/-- All have come. -/
theorem Begun.deads (h : Begun S L L.length i) (hL : SetOk L) (hs : L.Pairwise fun x y => x.2 ≤ y.2) : Deads S L.length ∧ De.Going L (De S L.length) 0 ∧ De.Had L (De S L.length) 0 (fun _ => 0) := by
  have hl := hL.len
  have hD : ∀ t, 1 ≤ t → t ≤ L.length → De S L.length t = De.came0 (nthU L (t - 1)) := fun t h1 h2 => by
    rw [De_in h1 h2]; exact (h.old t h1 h2).2
  have hno : ∀ t, ¬ (1 ≤ t ∧ t ≤ L.length) → (De S L.length t).r = false := fun t ht => by rw [De_out ht]; rfl
  refine ⟨⟨h.runs, h.full, h.n, fun t h1 h2 => (h.old t h1 h2).1, fun t h1 h2 => h.oth t h2 (by omega), ?_⟩, ⟨De.set_meets hL hD (hno 0 (by omega)) (fun t h1 h2 => hno t (by omega)), fun t ht => by rw [hD (t + 1) (by omega) (by omega)]; exact ⟨rfl, rfl⟩⟩, De.Had.start hL hD⟩
  by_cases h0 : L.length = 0
  · rw [h0]
    have hp : De.pick (De S 0) = 0 := Decidable.byContradiction fun e => by have := De_pick e; omega
    exact ⟨fun e => absurd hp e, fun _ => by omega⟩
  · have hon := h.on (by omega)
    have h1 : De.Can (De S L.length 1) := by rw [hD 1 (by omega) (by omega)]; exact ⟨rfl, rfl⟩
    obtain ⟨p1, p2⟩ := De.pick_first (De_zero S L.length) (show 1 < 17 by omega) h1
    obtain ⟨p3, p4⟩ := De_pick p1
    rw [hD _ p3 p4, hD 1 (by omega) (by omega)] at p2
    have p5 : (nthU L 0).2 ≤ (nthU L (De.pick (De S L.length) - 1)).2 := by
      by_cases e : De.pick (De S L.length) - 1 = 0
      · rw [e]; exact Int.le_refl _
      · rw [De.nthU_get (show 0 < L.length by omega), De.nthU_get (show De.pick (De S L.length) - 1 < L.length by omega)]
        exact List.pairwise_iff_getElem.1 hs _ _ _ _ (by omega)
    have p6 : De.pick (De S L.length) = 1 := by
      unfold De.came0 at p2
      have p2 : 0 + (nthU L (De.pick (De S L.length) - 1)).2 < 0 + (nthU L 0).2 ∨ 0 + (nthU L (De.pick (De S L.length) - 1)).2 = 0 + (nthU L 0).2 ∧ De.pick (De S L.length) ≤ 1 := p2
      omega
    exact ⟨fun _ => by rw [hon, p6], fun e => absurd e p1⟩
end
end Go.Proofs.Ytddfdnhlghmapaa.Sp
