/- Texts of this claim, merged: RkTick. -/
import Derived.Test.YtpincdcebhmnhaaGreatM24
import Derived.Test.YtpincdcebhmnhaaGreatM21
import Derived.Test.YtpincdcebhmnhaaGreatM25
import Derived.Test.YtpincdcebhmnhaaGreatM13
/- The reference of one processor's scheduler: a tick. -/
namespace Go.Proofs.YtpincdcebhmnhaaGreat.Rk
open Go.ChangeShapes Go.WideShapes Go.ChangeAt Go.RowKit Go.Maps
open Go.Proofs.YtpincdcebhmnhaaGreat.Of Go.Proofs.YtpincdcebhmnhaaGreat.Pk Go.Proofs.YtpincdcebhmnhaaGreat.Vt
set_option linter.unusedVariables false
set_option maxRecDepth 100000

theorem ffind_yes {B : Nat} {w : World} {q o D : Nat} {L : List (Nat × Nat)} {T : Fr.Tks} {G : Fr.Grs} {W GW : Nat → Int} (h : Fr.RefAt B w q o D L T G W GW) (hs : Fr.Same L T G W GW) {b t : Nat} (hx : (b, t) ∈ L) :
    Calls Tryz.prog 38 #[.pointer (some ⟨q, o, none⟩), .int .i64 t] w fun e w' => e = .returned (.pointer (some ⟨b, 0, none⟩)) ∧ w = w' := by
  refine (Fr.findr_any h (h.len16 hs) t).mono ?_
  rintro e w' ⟨⟨b', n, rfl, hm, hn⟩ | ⟨rfl, hno⟩, rfl⟩
  · have : n = t := by omega
    subst this
    rw [h.same_num hm hx]
    exact ⟨rfl, rfl⟩
  · exact absurd rfl (hno _ hx)
theorem dfind_yes {B : Nat} {w : World} {q o D : Nat} {L : List (Nat × Nat)} {T : De.Tks} {n : Int} (h : De.RefAt B w q o D L T n) (hs : De.Same L T) {b t : Nat} (hx : (b, t) ∈ L) :
    Calls Tryz.prog 39 #[.pointer (some ⟨q, o, none⟩), .int .i64 t] w fun e w' => e = .returned (.pointer (some ⟨b, 0, none⟩)) ∧ w = w' := by
  refine (De.findr_any h (h.len16 hs) t).mono ?_
  rintro e w' ⟨⟨b', n, rfl, hm, hn⟩ | ⟨rfl, hno⟩, rfl⟩
  · have : n = t := by omega
    subst this
    rw [h.same_num hm hx]
    exact ⟨rfl, rfl⟩
  · exact absurd rfl (hno _ hx)

section
variable {B : Nat} {w w' : World} {q : Nat} {M : RSt} {S : St} {b : Int}

/-- The reference's class of deadlines behind a tick of it. -/
def ticked (M : RSt) (d : De.Tks) (n : Int) : RSt := { M with d := d, n := n }
theorem dtick_any (h : RefP B w q M) (hd : M.d = S.d) (hn : M.n = S.n) (hs : De.Same M.LD S.d) (hI : Inv S b) (hb : b ≤ 8000000000000) (pass : Bool) {U : De.Tks} {kk : Nat} (hfu : De.Fit U S.n)
    (hp : ((pass = true ∨ De.pick S.d = 0) ∧ U = S.d ∧ kk = 0) ∨ (pass = false ∧ De.pick S.d ≠ 0 ∧ U = De.upd S.d (De.pick S.d) (De.use (S.d (De.pick S.d))) ∧ kk = De.pick S.d)) :
    Calls Tryz.prog 43 #[.pointer (some ⟨q, 36, none⟩), .bool pass] w (fun e w' => e = .returned (.int .i64 kk) ∧ RefP B w' q (ticked M (De.past U S.n) (S.n + 1)) ∧ RStep B q M.U M.U w w') := by
  have hR : De.RefAt B w q 36 44 M.LD S.d S.n := hd ▸ hn ▸ h.dead
  have n0 := hI.n0
  have nB := hI.nB
  refine (De.tickr_any hR hs hI.dfit (hR.len16 hs) n0 (by omega) pass hfu hp).mono ?_
  rintro e w' ⟨h1, h2, h3⟩
  obtain ⟨q1, q2⟩ := h.by_dead h2 h3.only (show Still q 36 2 w w' from Still.wide (a := 36) (n := 1) (fun cs T hc => by
    obtain ⟨cs', r1, r2, r3⟩ := h3.still cs T hc
    exact ⟨cs', r1, r2, fun j hj => r3 j (by omega)⟩) (by omega) (by omega)) (fun k _ hk => by
    rcases hk with e | ⟨y, hy, e⟩
    · exact Or.inl e
    · exact Or.inr (Or.inl (by subst e; exact ⟨_, _, hR.task y hy⟩))) (fun k hk => by
    rcases hk with e | ⟨y, hy, e⟩
    · subst e; exact h.fair.from'.1
    · subst e; exact hR.from'.2 y hy)
  exact ⟨h1, q1, q2⟩

/-- Who has the tick, and for how many in a row, of the reference. -/
def rhead (S : St) (M : RSt) : RSt := { M with now := best S, used := if best S = S.now then M.used + 1 else 1 }
theorem rhead_same (h : best S = S.now) : rhead S M = { M with now := best S, used := M.used + 1 } := by unfold rhead; rw [if_pos h]
theorem rhead_other (h : best S ≠ S.now) : rhead S M = { M with now := best S, used := 1 } := by unfold rhead; rw [if_neg h]

theorem head_1 (h : RefP B w q M) {m : Nat} (hm : best S = m) (e : best S = S.now) (x : Int) (hx : M.used + 1 = x) :
    RefP B ((w.setCell ⟨q, 41, none⟩ (.int .i64 m)).setCell ⟨q, 42, none⟩ (.int .i64 x)) q (rhead S M) ∧ RStep B q M.U M.U w ((w.setCell ⟨q, 41, none⟩ (.int .i64 m)).setCell ⟨q, 42, none⟩ (.int .i64 x)) := by
  obtain ⟨h1, s1⟩ := h.set_last 41 (Or.inl rfl) m
  obtain ⟨h2, s2⟩ := h1.set_last 42 (Or.inr rfl) x
  refine ⟨?_, s1.trans s2⟩
  rw [rhead_same e, hx, hm]
  exact h2
theorem head_2 (h : RefP B w q M) {m : Nat} (hm : best S = m) (e : best S ≠ S.now) :
    RefP B (((w.setCell ⟨q, 42, none⟩ (.int .i64 0)).setCell ⟨q, 41, none⟩ (.int .i64 m)).setCell ⟨q, 42, none⟩ (.int .i64 1)) q (rhead S M) ∧ RStep B q M.U M.U w (((w.setCell ⟨q, 42, none⟩ (.int .i64 0)).setCell ⟨q, 41, none⟩ (.int .i64 m)).setCell ⟨q, 42, none⟩ (.int .i64 1)) := by
  obtain ⟨h0, s0⟩ := h.set_last 42 (Or.inr rfl) 0
  obtain ⟨h1, s1⟩ := h0.set_last 41 (Or.inl rfl) m
  obtain ⟨h2, s2⟩ := h1.set_last 42 (Or.inr rfl) 1
  refine ⟨?_, (s0.trans s1).trans s2⟩
  rw [rhead_other e, hm]
  exact h2

/-- What a tick leaves of the reference. -/
structure Ticked (S : St) (M M' : RSt) : Prop where
  same : M'.LF = M.LF ∧ M'.LD = M.LD ∧ M'.W = M.W ∧ M'.c = M.c ∧ M'.C = M.C ∧ M'.A = M.A ∧ M'.f = M.f
  T : M'.T = (tickS S).T
  Q : M'.Q = (tickS S).Q
  d : M'.d = (tickS S).d
  n : M'.n = (tickS S).n
  now : M'.now = best S
  used : M'.used = (rhead S M).used

theorem fsame_congr {L : List (Nat × Nat)} {T T' : Fr.Tks} {W : Nat → Int} (h : Fr.Same L T Fr.noG W (fun _ => 0)) (hT : ∀ t, t < 17 → (T' t).c = (T t).c ∧ (T' t).g = (T t).g) : Fr.Same L T' Fr.noG W (fun _ => 0) :=
  ⟨h.num, fun t ht hc => h.all t ht (by rw [← (hT t ht).1]; exact hc), fun x hx => by have := h.num x hx; rw [(hT _ (by omega)).1]; exact h.wt x hx, h.gw, h.g0, fun x hx => by have := h.num x hx; rw [(hT _ (by omega)).2]; exact h.tg x hx⟩
theorem dsame_congr {L : List (Nat × Nat)} {T T' : De.Tks} (h : De.Same L T) (hT : ∀ t, t < 17 → (T' t).p = (T t).p) : De.Same L T' :=
  ⟨h.num, fun t ht hp => h.all t ht (by rw [← hT t ht]; exact hp), fun x hx => by have := h.num x hx; rw [hT _ (by omega)]; exact h.there x hx⟩
theorem mem_turned (Q : Pr.Qs) (t : Int) (v : Nat) : t ∈ turned Q v ↔ t ∈ Q v := by
  unfold turned
  cases ht : Pr.top Q with
  | none => rfl
  | some k =>
    obtain ⟨hv, hne, -⟩ := Pr.topTo_is ht
    cases hq : Q k with
    | nil => exact absurd hq hne
    | cons x xs =>
      simp only [hq, List.tail_cons]
      by_cases e : v = k
      · subst e
        show t ∈ Pr.upd Q v _ v ↔ _
        rw [Pr.upd_same, hq]
        simp [or_comm]
      · show t ∈ Pr.upd Q k _ v ↔ _
        rw [Pr.upd_other _ _ e]
theorem tickS_Q (S : St) (t : Int) (v : Nat) : t ∈ (tickS S).Q v ↔ t ∈ S.Q v := by
  unfold tickS
  split
  · rfl
  · split
    · show t ∈ (if (head S).row % 3 = 0 then turned S.Q else S.Q) v ↔ _
      split
      · exact mem_turned _ _ _
      · rfl
    · split <;> rfl
theorem tickS_row (S : St) : (tickS S).row = (head S).row := by
  unfold tickS
  split
  · rfl
  · split
    · rfl
    · split <;> rfl
theorem tickS_A (S : St) : (tickS S).A = S.A := by
  unfold tickS
  split
  · rfl
  · split
    · rfl
    · split <;> rfl
theorem tickS_T (S : St) (t : Nat) : ((tickS S).T t).c = (S.T t).c ∧ ((tickS S).T t).g = (S.T t).g := by
  unfold tickS
  split
  · exact ⟨rfl, rfl⟩
  · split
    · exact ⟨rfl, rfl⟩
    · split
      · show (Fr.tickT S.T _ t).c = _ ∧ (Fr.tickT S.T _ t).g = _
        unfold Fr.tickT Fr.upd
        split
        · rename_i e; subst e; exact ⟨rfl, rfl⟩
        · exact ⟨rfl, rfl⟩
      · exact ⟨rfl, rfl⟩
theorem tickS_d (S : St) {t : Nat} (ht : t < 17) : ((tickS S).d t).p = (S.d t).p := by
  unfold tickS
  split
  · exact tick_p _ _ ht
  · split
    · exact past_p _ _ ht
    · split <;> exact past_p _ _ ht
theorem tickS_n (S : St) : (tickS S).n = S.n + 1 := by
  unfold tickS
  split
  · rfl
  · split
    · rfl
    · split <;> rfl
theorem link_tick {M' : RSt} (hL : Link S M) (hI : Inv S b) (h : Ticked S M M') : Link (tickS S) M' := by
  obtain ⟨s1, s2, s3, s4, s5, s6, s7⟩ := h.same
  refine ⟨h.T, h.Q, h.d, h.n, ?_, ?_, fun t => ?_, fun k h1 h2 h3 => ?_, fun k v hv hm => ?_, fun k h1 h2 h3 h4 => ?_, ?_, fun h0 => ?_⟩
  · rw [s1, s3]; exact fsame_congr hL.fs (fun t _ => tickS_T S t)
  · rw [s2]; exact dsame_congr hL.ds (fun t ht => tickS_d S ht)
  · rw [s5, tickS_C]; exact hL.C t
  · rw [s7, ready_tick S (by omega)]; exact hL.off k h1 h2 (by rw [tickS_C] at h3; exact h3)
  · rw [s6]; exact hL.inq k v hv ((tickS_Q S _ _).1 hm)
  · rw [s6, tickS_A]; exact hL.outq k h1 h2 (by rw [tickS_C] at h3; exact h3) (fun v hv hm => h4 v hv ((tickS_Q S _ _).2 hm))
  · rw [h.now, tickS_now]
  · rw [tickS_now] at h0
    rw [h.used, tickS_row]
    show (if best S = S.now then M.used + 1 else 1) = (if best S = S.now then S.row + 1 else 1)
    by_cases e : best S = S.now
    · rw [if_pos e, if_pos e, hL.used (by rw [← e]; exact h0)]
    · rw [if_neg e, if_neg e]

/-- What is known behind the reference's tick. -/
def RTick (B q : Nat) (S : St) (M : RSt) (w : World) (e : Ending) (w' : World) : Prop := e = .returned (.int .i64 (best S)) ∧ ∃ M', RefP B w' q M' ∧ RStep B q M.U M'.U w w' ∧ Ticked S M M'

theorem C_at (hL : Link S M) {m : Nat} (hm : m ≤ 16) (hI : Inv S b) : M.C m = S.C m := by
  rw [hL.C]
  by_cases e : 1 ≤ m
  · rw [if_pos (by omega)]; simp
  · rw [if_neg (by omega)]
    have : m = 0 := by omega
    subst this
    exact hI.c0.symm
end
end Go.Proofs.YtpincdcebhmnhaaGreat.Rk
