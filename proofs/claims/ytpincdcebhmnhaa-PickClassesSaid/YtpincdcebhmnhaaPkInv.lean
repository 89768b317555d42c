/- One processor's scheduler: what is always so of what it knows, and each method by what it knows. -/
import Derived.Test.YtpincdcebhmnhaaPkTick
import Derived.Test.YtpincdcebhmnhaaOFFit
namespace Go.Proofs.Ytpincdcebhmnhaa.Pk
open Go.ChangeShapes Go.WideShapes Go.ChangeAt Go.RowKit Go.Maps
open Go.Proofs.Ytpincdcebhmnhaa.Vt
set_option linter.unusedVariables false

/-- What is always so; B: no more ticks than that. -/
structure Inv (S : St) (B : Int) : Prop where
  fit : Fr.Fit S.T S.G (B * 1048576)
  grp : ∀ t, t < 17 → (S.T t).g = 0
  gno : S.G = Fr.noG
  dfit : De.Fit S.d S.n
  bare : De.Bare S.d
  n0 : 0 ≤ S.n
  nB : S.n ≤ B
  r0 : 0 ≤ S.row
  rB : S.row ≤ B
  cls : ∀ t, t < 17 → S.C t = 0 ∨ S.C t = 1 ∨ S.C t = 2 ∨ S.C t = 3
  c0 : S.C 0 = 0
  cf : ∀ t, t < 17 → (S.C t = 1 ↔ (S.T t).c ≠ 0)
  cd : ∀ t, t < 17 → (S.C t = 3 ↔ (S.d t).p ≠ 0)
  uniq : Pr.Uniq S.Q
  cq : ∀ i, i < 8 → ∀ x ∈ S.Q i, S.C x.toNat = 2
  av : ∀ t, t < 17 → 0 ≤ S.A t ∧ S.A t < 8

theorem inv_no : Inv noS 0 :=
  ⟨⟨fun t _ => by simp [noS, Fr.noT], fun t _ => by simp [noS, Fr.noT], fun t _ => by simp [noS, Fr.noT], fun g _ => by simp [noS, Fr.noG], fun g _ => by simp [noS, Fr.noG], rfl, fun t _ e => by cases e⟩,
    fun t _ => rfl, rfl, De.Fit.of (fun t _ => De.ok_no (Int.le_refl 0)) rfl, fun t _ _ => rfl, Int.le_refl _, Int.le_refl _, Int.le_refl _, Int.le_refl _, fun t _ => Or.inl rfl, rfl, fun t _ => by simp [noS, Fr.noT], fun t _ => by simp [noS, De.noT, De.noTk],
    Pr.uniq_no, (fun i _ x hx => by cases hx), fun t _ => by simp [noS]⟩

section
variable {S : St} {B : Int}

theorem Inv.mono {B' : Int} (h : Inv S B) (hB : B ≤ B') : Inv S B' :=
  { h with fit := h.fit.mono (by omega), nB := by have := h.nB; omega, rB := by have := h.rB; omega }
theorem Inv.tr0 (h : Inv S B) : (S.T 0).r = false := by
  cases e : (S.T 0).r with
  | false => rfl
  | true => exact absurd h.fit.no (h.fit.rc 0 (by omega) e)
theorem Inv.solo (h : Inv S B) : Fr.Solo S.T := fun t ht _ => h.grp t ht
theorem Inv.first_next (h : Inv S B) : (Fr.next S.T S.G).1 = Fr.first S.T 0 := by rw [Fr.solo_next h.tr0 h.solo]
theorem Inv.next_ready (h : Inv S B) (hn : (Fr.next S.T S.G).1 ≠ 0) : (S.T (Fr.next S.T S.G).1).r = true := by
  rw [h.first_next] at *
  exact (Fr.first_of h.tr0 hn).1
theorem Inv.next_none (h : Inv S B) (hn : (Fr.next S.T S.G).1 = 0) {t : Nat} (ht : t < 17) : (S.T t).r = false := by
  rw [h.first_next] at hn
  cases e : (S.T t).r with
  | false => rfl
  | true => exact absurd ⟨e, h.grp t ht⟩ (Fr.first_zero h.tr0 hn t ht)
theorem Inv.free_none (h : Inv S B) {t : Nat} (ht : t < 17) (hc : S.C t = 0) : (S.T t).c = 0 ∧ (S.d t).p = 0 ∧ Pr.seek S.Q t = none := by
  have h1 := h.cf t ht
  have h2 := h.cd t ht
  refine ⟨?_, ?_, ?_⟩
  · apply Decidable.byContradiction; intro q; have := h1.2 q; omega
  · apply Decidable.byContradiction; intro q; have := h2.2 q; omega
  · exact Pr.seek_none (fun i hi hm => by have := h.cq i hi _ hm; simp at this; omega)
theorem Inv.in_queue (h : Inv S B) {i : Nat} (hi : i < 8) {x : Int} (hx : x ∈ S.Q i) : ∃ m : Nat, x = m ∧ 1 ≤ m ∧ m ≤ 16 ∧ S.C m = 2 := by
  have := h.uniq.task i x hi hx
  have h2 := h.cq i hi x hx
  exact ⟨x.toNat, by omega, by omega, by omega, h2⟩

/-- Who should go, and of which class. -/
inductive Goes (S : St) : Nat → Prop where
  | dead (h : De.pick S.d ≠ 0) (hr : De.Can (S.d (De.pick S.d))) (hc : S.C (De.pick S.d) = 3) : Goes S (De.pick S.d)
  | prio (h : De.pick S.d = 0) (v m : Nat) (xs : List Int) (ht : Pr.top S.Q = some v) (hv : v < 8) (hq : S.Q v = (m : Int) :: xs) (h1 : 1 ≤ m) (h2 : m ≤ 16) (hc : S.C m = 2) : Goes S m
  | fair (h : De.pick S.d = 0) (ht : Pr.top S.Q = none) (hn : (Fr.next S.T S.G).1 ≠ 0) (hr : (S.T (Fr.next S.T S.G).1).r = true) (hc : S.C (Fr.next S.T S.G).1 = 1) : Goes S (Fr.next S.T S.G).1
  | none (h : De.pick S.d = 0) (ht : Pr.top S.Q = none) (hn : (Fr.next S.T S.G).1 = 0) : Goes S 0

theorem Inv.goes (h : Inv S B) : ∃ m : Nat, best S = m ∧ m ≤ 16 ∧ Goes S m := by
  by_cases h1 : De.pick S.d = 0
  · cases ht : Pr.top S.Q with
    | some v =>
      obtain ⟨hv, hne, -⟩ := Pr.topTo_is ht
      cases hq : S.Q v with
      | nil => exact absurd hq hne
      | cons x xs =>
        obtain ⟨m, rfl, m1, m2, mc⟩ := h.in_queue hv (x := x) (by rw [hq]; simp)
        exact ⟨m, by rw [best_2 h1 ht, hq]; rfl, m2, .prio h1 v m xs ht hv hq m1 m2 mc⟩
    | none =>
      by_cases hn : (Fr.next S.T S.G).1 = 0
      · exact ⟨0, by rw [best_3 h1 ht, hn], by omega, .none h1 ht hn⟩
      · have hl := Fr.next_lt S.T S.G
        have hr := h.next_ready hn
        exact ⟨_, best_3 h1 ht, by omega, .fair h1 ht hn hr ((h.cf _ hl).2 (h.fit.rc _ hl hr))⟩
  · have hl := De.pick_lt S.d
    have hr := De.pick_can h1
    exact ⟨_, best_1 h1, by omega, .dead h1 hr ((h.cd _ hl).2 (h.dfit.rp _ hl hr.1))⟩

/-- Is a task ready? -/
def ready (S : St) (k : Nat) : Bool := if S.C k = 1 then (S.T k).r else if S.C k = 2 then (Pr.seek S.Q k).isSome else if S.C k = 3 then (S.d k).r else false
instance (S : St) (t : Int) : Decidable (Free S t) := by unfold Free; exact inferInstance
theorem not_free {S : St} {t : Int} (h : ¬ Free S t) : ∃ k : Nat, t = k ∧ 1 ≤ k ∧ k ≤ 16 ∧ S.C k ≠ 0 := by
  unfold Free at h
  exact ⟨t.toNat, by omega, by omega, by omega, by omega⟩
theorem free_not {S : St} {k : Nat} (h1 : 1 ≤ k) (h2 : k ≤ 16) (hc : S.C k ≠ 0) : ¬ Free S (k : Int) := by
  unfold Free
  simp
  omega

/-- What Block answers, and what it leaves. -/
def blockE (S : St) (t : Int) : Int := if Free S t then 4 else if ready S t.toNat then 0 else 8
def slept (S : St) (k : Nat) : St :=
  if S.C k = 1 then { S with T := Fr.upd S.T k ⟨(S.T k).c, (S.T k).v, (S.T k).g, false⟩ }
  else if S.C k = 2 then match Pr.seek S.Q k with
    | some i => { S with Q := upd S.Q i ((S.Q i).erase k), A := upd S.A k i }
    | none => S
  else { S with d := De.upd S.d k (De.slept (S.d k)) }
def blockS (S : St) (t : Int) : St := if Free S t then S else if ready S t.toNat then slept S t.toNat else S
/-- What Wake answers, and what it leaves. -/
def wakeE (S : St) (t : Int) : Int := if Free S t then 4 else if ready S t.toNat then 8 else 0
def woken (S : St) (k : Nat) : St :=
  if S.C k = 1 then { S with T := Fr.wokeT S.T S.G k, G := Fr.wokeG S.T S.G k }
  else if S.C k = 2 then { S with Q := upd S.Q (S.A k).toNat (S.Q (S.A k).toNat ++ [(k : Int)]) }
  else { S with d := De.upd S.d k (De.woke (S.d k) S.n) }
def wakeS (S : St) (t : Int) : St := if Free S t then S else if ready S t.toNat then S else woken S t.toNat
end

section
variable {w w' : World} {p D : Nat} {V V' V'' : Nat → Value} {S S' : St} {B : Int}

theorem did_is {x y : Value} {S1 S2 : St} {f : Nat} {args : Array Value} (h : Calls Try.prog f args w (Did p D V S1 x w)) (hS : S1 = S2) (hx : x = y) : Calls Try.prog f args w (Did p D V S2 y w) := by subst hS hx; exact h

theorem block_any (h : PickAt w p D V S) (hI : Inv S B) (t : Int) :
    Calls Try.prog 12 #[.pointer (some ⟨p, 0, none⟩), .int .i64 t] w (Did p D V (blockS S t) (.int .i64 (blockE S t)) w) := by
  by_cases hf : Free S t
  · exact did_is (block_free h t hf) (by unfold blockS; rw [if_pos hf]) (by unfold blockE; rw [if_pos hf])
  · obtain ⟨k, rfl, k1, k2, kc⟩ := not_free hf
    have eS : blockS S (k : Int) = if ready S k then slept S k else S := by unfold blockS; rw [if_neg hf]; rfl
    have eE : blockE S (k : Int) = if ready S k then 0 else 8 := by unfold blockE; rw [if_neg hf]; rfl
    rw [eS, eE]
    rcases hI.cls k (by omega) with c | c | c | c
    · exact absurd c kc
    · have hc := (hI.cf k (by omega)).1 c
      have er : ready S k = (S.T k).r := by unfold ready; rw [if_pos c]
      have es : slept S k = { S with T := Fr.upd S.T k ⟨(S.T k).c, (S.T k).v, (S.T k).g, false⟩ } := by unfold slept; rw [if_pos c]
      rw [er, es]
      cases hr : (S.T k).r with
      | true => exact did_is (block_fair h k k1 k2 c (Fr.block_yes h.fair k k1 k2 hc hr)) (by simp) (by simp)
      | false =>
        have hk := Fr.block_state h.fair k k1 k2 hc hr
        exact did_is (block_fair h k k1 k2 c (T' := S.T) (x := 8) (hk.mono fun e w' ⟨h1, h2⟩ => ⟨h1, h2 ▸ h.fair, h2 ▸ Within.refl _ _ _ _⟩)) (by simp) (by simp)
    · have c1 : S.C k ≠ 1 := by omega
      have er : ready S k = (Pr.seek S.Q k).isSome := by unfold ready; rw [if_neg c1, if_pos c]
      have es : slept S k = match Pr.seek S.Q k with
          | some i => { S with Q := upd S.Q i ((S.Q i).erase k), A := upd S.A k i }
          | none => S := by unfold slept; rw [if_neg c1, if_pos c]
      rw [er, es]
      cases hs : Pr.seek S.Q (k : Int) with
      | some i => exact did_is (block_fixed h k k1 k2 c (fblock_yes h hI.uniq k k2 hs)) (by simp) (by simp)
      | none => exact did_is (block_fixed h k k1 k2 c (fblock_no h hI.uniq k hs)) (by simp) (by simp)
    · have c1 : S.C k ≠ 1 := by omega
      have c2 : S.C k ≠ 2 := by omega
      have hc := (hI.cd k (by omega)).1 c
      have er : ready S k = (S.d k).r := by unfold ready; rw [if_neg c1, if_neg c2, if_pos c]
      have es : slept S k = { S with d := De.upd S.d k (De.slept (S.d k)) } := by unfold slept; rw [if_neg c1, if_neg c2]
      rw [er, es]
      cases hr : (S.d k).r with
      | true => exact did_is (block_dead h k k1 k2 c (De.block_yes h.dead k k1 k2 hc hr)) (by simp) (by simp)
      | false =>
        have hk := De.block_state h.dead k k1 k2 hc hr
        exact did_is (block_dead h k k1 k2 c (d' := S.d) (x := 8) (hk.mono fun e w' ⟨h1, h2⟩ => ⟨h1, h2 ▸ h.dead, h2 ▸ Within.refl _ _ _ _⟩)) (by simp) (by simp)

theorem wake_any (h : PickAt w p D V S) (hI : Inv S B) (hB : B ≤ 8000000000000000) (t : Int) :
    Calls Try.prog 13 #[.pointer (some ⟨p, 0, none⟩), .int .i64 t] w (Did p D V (wakeS S t) (.int .i64 (wakeE S t)) w) := by
  have nB := hI.nB
  by_cases hf : Free S t
  · exact did_is (wake_free h t hf) (by unfold wakeS; rw [if_pos hf]) (by unfold wakeE; rw [if_pos hf])
  · obtain ⟨k, rfl, k1, k2, kc⟩ := not_free hf
    have eS : wakeS S (k : Int) = if ready S k then S else woken S k := by unfold wakeS; rw [if_neg hf]; rfl
    have eE : wakeE S (k : Int) = if ready S k then 8 else 0 := by unfold wakeE; rw [if_neg hf]; rfl
    rw [eS, eE]
    rcases hI.cls k (by omega) with c | c | c | c
    · exact absurd c kc
    · have hc := (hI.cf k (by omega)).1 c
      have hg := hI.grp k (by omega)
      have er : ready S k = (S.T k).r := by unfold ready; rw [if_pos c]
      have es : woken S k = { S with T := Fr.wokeT S.T S.G k, G := Fr.wokeG S.T S.G k } := by unfold woken; rw [if_pos c]
      rw [er, es]
      cases hr : (S.T k).r with
      | false =>
        have e : Fr.wokeG S.T S.G k = S.G := Fr.wokeG_0 hg
        have hk := Fr.wk_yes h.fair k k1 k2 hc hr (by omega) (by omega)
        rw [e] at hk ⊢
        exact did_is (wake_fair h k k1 k2 c hk) (by simp) (by simp)
      | true =>
        have hk := Fr.wk_state h.fair k k1 k2 hc hr
        exact did_is (wake_fair h k k1 k2 c (T' := S.T) (x := 8) (hk.mono fun e w' ⟨h1, h2⟩ => ⟨h1, h2 ▸ h.fair, h2 ▸ Within.refl _ _ _ _⟩)) (by simp) (by simp)
    · have c1 : S.C k ≠ 1 := by omega
      have ha := hI.av k (by omega)
      have er : ready S k = (Pr.seek S.Q k).isSome := by unfold ready; rw [if_neg c1, if_pos c]
      have es : woken S k = { S with Q := upd S.Q (S.A k).toNat (S.Q (S.A k).toNat ++ [(k : Int)]) } := by unfold woken; rw [if_neg c1, if_pos c]
      rw [er, es]
      cases hs : Pr.seek S.Q (k : Int) with
      | some i => exact did_is (wake_fixed h k k1 k2 c (fwake_no h hI.uniq k k1 k2 ha hs)) (by simp) (by simp)
      | none => exact did_is (wake_fixed h k k1 k2 c (fwake_yes h hI.uniq k k1 k2 (v := (S.A k).toNat) (by omega) (by omega) hs)) (by simp) (by simp)
    · have c1 : S.C k ≠ 1 := by omega
      have c2 : S.C k ≠ 2 := by omega
      have hc := (hI.cd k (by omega)).1 c
      have er : ready S k = (S.d k).r := by unfold ready; rw [if_neg c1, if_neg c2, if_pos c]
      have es : woken S k = { S with d := De.upd S.d k (De.woke (S.d k) S.n) } := by unfold woken; rw [if_neg c1, if_neg c2]
      rw [er, es]
      cases hr : (S.d k).r with
      | false => exact did_is (wake_dead h k k1 k2 c (De.wk_yes h.dead hI.dfit (by omega) hI.n0 (by omega) k k1 k2 hc hr)) (by simp) (by simp)
      | true =>
        have hk := De.wk_state h.dead k k1 k2 hc hr
        exact did_is (wake_dead h k k1 k2 c (d' := S.d) (x := 8) (hk.mono fun e w' ⟨h1, h2⟩ => ⟨h1, h2 ▸ h.dead, h2 ▸ Within.refl _ _ _ _⟩)) (by simp) (by simp)

/-- The queues behind a turn of the foremost one. -/
def turned (Q : Pr.Qs) : Pr.Qs := match Pr.top Q with
  | some v => upd Q v ((Q v).tail ++ [(Q v).getD 0 0])
  | none => Q
/-- What a tick leaves. -/
def tickS (S : St) : St :=
  if De.pick S.d ≠ 0 then { head S with d := De.tick S.d S.n, n := S.n + 1 }
  else if Pr.top S.Q ≠ none then { head S with Q := if (head S).row % 3 = 0 then turned S.Q else S.Q, d := De.past S.d S.n, n := S.n + 1 }
  else if (Fr.next S.T S.G).1 ≠ 0 then { head S with T := Fr.tickT S.T (Fr.next S.T S.G).1, d := De.past S.d S.n, n := S.n + 1 }
  else { head S with d := De.past S.d S.n, n := S.n + 1 }

theorem tick_any (h : PickAt w p D V S) (hI : Inv S B) (hB : B ≤ 8000000000000) :
    Calls Try.prog 14 #[.pointer (some ⟨p, 0, none⟩)] w (Did p D V (tickS S) (.int .i64 (best S)) w) := by
  have r0 := hI.r0
  have rB := hI.rB
  have n0 := hI.n0
  have nB := hI.nB
  obtain ⟨m, hm, hm16, hg⟩ := hI.goes
  rw [hm]
  cases hg with
  | dead h1 hr hc => exact did_is (tick_dead h hI.uniq _ hm hm16 r0 (by omega) hc hI.dfit (by omega) n0 (by omega)) (by unfold tickS; rw [if_pos h1]) rfl
  | prio h1 v m xs ht hv hq m1 m2 hc =>
    have e : tickS S = { head S with Q := if (head S).row % 3 = 0 then turned S.Q else S.Q, d := De.past S.d S.n, n := S.n + 1 } := by
      unfold tickS; rw [if_neg (by simp [h1]), if_pos (by rw [ht]; simp)]
    rw [e]
    by_cases hz : (head S).row % 3 = 0
    · have et : turned S.Q = upd S.Q v (xs ++ [(m : Int)]) := by unfold turned; rw [ht]; simp only [hq]; rfl
      exact did_is (tick_turn h hI.uniq m hm hm16 r0 (by omega) hc hI.dfit (by omega) n0 (by omega) hz ht m xs hq) (by rw [if_pos hz, et]) rfl
    · exact did_is (tick_stay h hI.uniq m hm hm16 r0 (by omega) hc hI.dfit (by omega) n0 (by omega) hz) (by rw [if_neg hz]; rfl) rfl
  | fair h1 ht hn hr hc =>
    have e : tickS S = { head S with T := Fr.tickT S.T (Fr.next S.T S.G).1, d := De.past S.d S.n, n := S.n + 1 } := by
      unfold tickS; rw [if_neg (by simp [h1]), if_neg (by simp [ht]), if_pos hn]
    have eG : Fr.tickG S.T S.G (Fr.next S.T S.G).1 = S.G := by unfold Fr.tickG; rw [if_pos (hI.grp _ (Fr.next_lt _ _))]
    exact did_is (tick_fair h hI.uniq _ hm hm16 r0 (by omega) hc hI.dfit (by omega) n0 (by omega) hI.fit (by omega) hn) (by rw [e, eG]; rfl) rfl
  | none h1 ht hn =>
    exact did_is (tick_none h hI.uniq 0 hm (by omega) r0 (by omega) hI.c0 hI.dfit (by omega) n0 (by omega)) (by unfold tickS; rw [if_neg (by simp [h1]), if_neg (by simp [ht]), if_neg (by simp [hn])]) rfl
end
end Go.Proofs.Ytpincdcebhmnhaa.Pk
