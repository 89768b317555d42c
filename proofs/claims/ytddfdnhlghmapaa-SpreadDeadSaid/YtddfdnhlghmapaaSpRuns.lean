/- Who runs where: what is so behind every call of package spread. -/
import Derived.Test.YtddfdnhlghmapaaSpOwn
namespace Go.Proofs.Ytddfdnhlghmapaa.Sp
open Go.Proofs.Ytddfdnhlghmapaa.Vt
set_option linter.unusedVariables false

theorem asks_iff {S : St} {c t : Nat} : asks S c t = true ↔ waits (S.T t) = true ∧ may (S.T t) c = true ∧ place S t = none := by
  unfold asks
  rw [Bool.and_eq_true, Bool.and_eq_true, Option.isNone_iff_eq_none, and_assoc]
theorem waits_r {x : Tk} (h : waits x = true) : x.r = true := by unfold waits at h; rw [Bool.and_eq_true] at h; exact h.1
theorem waits_no : waits noTk = false := rfl

/-- Who goes first asks; and if nobody goes first nobody asks. -/
theorem firstTo_asks (S : St) (c k : Nat) (h : firstTo S c k ≠ 0) : asks S c (firstTo S c k) = true := by
  induction k with
  | zero => exact absurd rfl h
  | succ k ih =>
    revert h
    show (if asks S c k ∧ _ then k else firstTo S c k) ≠ 0 → asks S c (if asks S c k ∧ _ then k else firstTo S c k) = true
    split
    · next e => exact fun _ => e.1
    · exact ih
theorem firstTo_none (S : St) (c k : Nat) (h : firstTo S c k = 0) (t : Nat) (h1 : 1 ≤ t) (ht : t < k) : asks S c t = false := by
  induction k with
  | zero => omega
  | succ k ih =>
    revert h
    show (if asks S c k ∧ _ then k else firstTo S c k) = 0 → _
    split
    · intro h; omega
    · next e =>
      intro h
      by_cases e2 : t = k
      · subst e2
        cases ha : asks S c t with
        | false => rfl
        | true => exact absurd ⟨ha, Or.inl h⟩ e
      · exact ih h (by omega)

/-- Whoever runs is there, is ready, may run there, and runs there alone. -/
structure Runs (S : St) : Prop where
  live : ∀ c, c < 4 → S.on c ≠ 0 → c < S.n ∧ (S.T (S.on c)).c ≠ 0 ∧ (S.T (S.on c)).r = true ∧ may (S.T (S.on c)) c = true
  uniq : ∀ c d, c < 4 → d < 4 → S.on c ≠ 0 → S.on c = S.on d → c = d
  rc : ∀ t, t < 17 → (S.T t).r = true → (S.T t).c ≠ 0
  z : S.T 0 = noTk
  on : ∀ c, c < 4 → S.on c ≤ 16
  n4 : S.n ≤ 4
/-- No processor idles while somebody asks for it. -/
def Full (S : St) : Prop := ∀ c, c < S.n → S.on c = 0 → ∀ t, t < 17 → asks S c t = false

section
variable {S : St}
theorem Runs.asks0 (h : Runs S) (c : Nat) : asks S c 0 = false := by
  cases ha : asks S c 0 with
  | false => rfl
  | true => have := (asks_iff.1 ha).1; rw [h.z] at this; cases this
theorem Runs.put1 (h : Runs S) {c : Nat} (hc : c < S.n) : Runs (put1 S c) := by
  have h4 := h.n4
  unfold Sp.put1
  split
  · next e =>
    by_cases hf : first S c = 0
    · have e2 : upd S.on c (first S c) = S.on := by rw [hf]; funext j; unfold upd; split; (next e3 => rw [e3]; exact e.symm); rfl
      rw [e2]; exact h
    · have ha := asks_iff.1 (firstTo_asks S c 17 hf)
      have hle := first_le S c
      have hpn := place_no ha.2.2
      refine ⟨fun d hd ho => ?_, fun d e' hd he ho hoo => ?_, h.rc, h.z, upd_on_le h.on hle, h.n4⟩
      · show d < S.n ∧ (S.T (upd S.on c (first S c) d)).c ≠ 0 ∧ (S.T (upd S.on c (first S c) d)).r = true ∧ may (S.T (upd S.on c (first S c) d)) d = true
        have ho2 : upd S.on c (first S c) d ≠ 0 := ho
        by_cases e3 : d = c
        · subst e3
          rw [upd_same]
          exact ⟨hc, h.rc _ (by omega) (waits_r ha.1), waits_r ha.1, ha.2.1⟩
        · rw [upd_other _ _ e3] at ho2 ⊢
          exact h.live d hd ho2
      · have ho2 : upd S.on c (first S c) d ≠ 0 := ho
        have hoo2 : upd S.on c (first S c) d = upd S.on c (first S c) e' := hoo
        by_cases e3 : d = c
        · by_cases e4 : e' = c
          · rw [e3, e4]
          · subst e3
            rw [upd_same, upd_other _ _ e4] at hoo2
            exact absurd hoo2.symm (hpn e' he)
        · by_cases e4 : e' = c
          · subst e4
            rw [upd_same, upd_other _ _ e3] at hoo2
            exact absurd hoo2 (hpn d hd)
          · rw [upd_other _ _ e3] at ho2
            rw [upd_other _ _ e3, upd_other _ _ e4] at hoo2
            exact h.uniq d e' hd he ho2 hoo2
  · exact h
theorem put1_at (S : St) (c : Nat) : (put1 S c).on c = if S.on c = 0 then first S c else S.on c := by
  unfold put1
  split
  · exact upd_same _ _ _
  · rfl
theorem put1_other (S : St) {c d : Nat} (h : d ≠ c) : (put1 S c).on d = S.on d := by
  unfold put1
  split
  · exact upd_other _ _ h
  · rfl
/-- One more who runs: nobody asks who did not. -/
theorem put1_asks {c d t : Nat} (ht : 1 ≤ t) (h : asks S d t = false) : asks (put1 S c) d t = false := by
  cases ha : asks (put1 S c) d t with
  | false => rfl
  | true =>
    obtain ⟨a1, a2, a3⟩ := asks_iff.1 ha
    rw [put1_T] at a1 a2
    have hp : place S t = none := place_none fun j hj => by
      have h1 := place_no a3 j hj
      by_cases e : j = c
      · subst e
        rw [put1_at] at h1
        by_cases e2 : S.on j = 0
        · rw [e2]; omega
        · rw [if_neg e2] at h1; exact h1
      · rw [put1_other S e] at h1; exact h1
    have : asks S d t = true := asks_iff.2 ⟨a1, a2, hp⟩
    rw [h] at this; cases this
theorem put1_full {c t : Nat} (ht : 1 ≤ t) (ht2 : t < 17) (h : (put1 S c).on c = 0) : asks (put1 S c) c t = false := by
  rw [put1_at] at h
  by_cases e : S.on c = 0
  · rw [if_pos e] at h
    exact put1_asks ht (firstTo_none S c 17 h t ht ht2)
  · rw [if_neg e] at h; exact absurd h e
theorem fillTo_on (S : St) {c k : Nat} (h : k ≤ c) : (fillTo S k).on c = S.on c := by
  induction k with
  | zero => rfl
  | succ k ih => show (put1 (fillTo S k) k).on c = _; rw [put1_other _ (by omega)]; exact ih (by omega)
theorem Runs.fillTo (h : Runs S) {k : Nat} (hk : k ≤ S.n) : Runs (fillTo S k) := by
  induction k with
  | zero => exact h
  | succ k ih => exact (ih (by omega)).put1 (by rw [fillTo_n]; omega)
theorem Runs.fill (h : Runs S) : Runs (fill S) := h.fillTo (Nat.le_refl _)
theorem fillTo_full (k : Nat) (c : Nat) (hc : c < k) (h0 : (fillTo S k).on c = 0) (t : Nat) (ht : 1 ≤ t) (ht2 : t < 17) : asks (fillTo S k) c t = false := by
  induction k with
  | zero => omega
  | succ k ih =>
    by_cases e : c = k
    · subst e
      exact put1_full ht ht2 h0
    · have h1 : (fillTo S k).on c = 0 := by
        have := h0
        rw [show fillTo S (k + 1) = Sp.put1 (fillTo S k) k from rfl, put1_other _ e] at this
        exact this
      exact put1_asks ht (ih (by omega) h1)
theorem Runs.full (h : Runs S) : Full (Sp.fill S) := by
  intro c hc h0 t ht
  by_cases e : 1 ≤ t
  · refine fillTo_full S.n c ?_ h0 t e ht
    have : (Sp.fill S).n = S.n := fillTo_n S S.n
    omega
  · have : t = 0 := by omega
    subst this
    exact h.fill.asks0 c

/-- One task has changed who does not run, or still may run where it runs. -/
theorem Runs.set (h : Runs S) {t : Nat} (h1 : 1 ≤ t) {x : Tk} (hx : ∀ c, c < 4 → S.on c = t → x.c ≠ 0 ∧ x.r = true ∧ may x c = true) (hr : x.r = true → x.c ≠ 0) : Runs { S with T := upd S.T t x } := by
  refine ⟨fun c hc ho => ?_, h.uniq, fun j hj => ?_, ?_, h.on, h.n4⟩
  · have ho2 : S.on c ≠ 0 := ho
    have hl := h.live c hc ho2
    show c < S.n ∧ (upd S.T t x (S.on c)).c ≠ 0 ∧ (upd S.T t x (S.on c)).r = true ∧ may (upd S.T t x (S.on c)) c = true
    by_cases e : S.on c = t
    · rw [e, upd_same]; exact ⟨hl.1, hx c hc e⟩
    · rw [upd_other _ _ e]; exact hl
  · show (upd S.T t x j).r = true → (upd S.T t x j).c ≠ 0
    unfold upd; split
    · exact hr
    · exact h.rc j hj
  · show upd S.T t x 0 = noTk
    rw [upd_other _ _ (by omega)]; exact h.z
theorem Runs.set_g (h : Runs S) (g : Int) : Runs { S with g := g } := ⟨h.live, h.uniq, h.rc, h.z, h.on, h.n4⟩
theorem Runs.queue (h : Runs S) {t : Nat} (h1 : 1 ≤ t) (h2 : t < 17) : Runs (queue S t) := by
  refine (h.set (x := { S.T t with s := S.g + 1 }) h1 (fun c hc e => ?_) (h.rc t h2)).set_g _
  have := h.live c hc (by omega)
  rw [e] at this
  exact this.2
theorem Runs.set_on (h : Runs S) (c : Nat) : Runs { S with on := upd S.on c 0 } := by
  refine ⟨fun d hd ho => ?_, fun d e hd he ho hoo => ?_, h.rc, h.z, upd_on_le h.on (by omega), h.n4⟩
  · have ho2 : upd S.on c 0 d ≠ 0 := ho
    show d < S.n ∧ (S.T (upd S.on c 0 d)).c ≠ 0 ∧ (S.T (upd S.on c 0 d)).r = true ∧ may (S.T (upd S.on c 0 d)) d = true
    by_cases e : d = c
    · subst e; rw [upd_same] at ho2; exact absurd rfl ho2
    · rw [upd_other _ _ e] at ho2 ⊢; exact h.live d hd ho2
  · have ho2 : upd S.on c 0 d ≠ 0 := ho
    have hoo2 : upd S.on c 0 d = upd S.on c 0 e := hoo
    by_cases e1 : d = c
    · subst e1; rw [upd_same] at ho2; exact absurd rfl ho2
    · rw [upd_other _ _ e1] at ho2 hoo2
      by_cases e2 : e = c
      · subst e2; rw [upd_same] at hoo2; exact absurd hoo2 ho2
      · rw [upd_other _ _ e2] at hoo2; exact h.uniq d e hd he ho2 hoo2
theorem Runs.clr (h : Runs S) {c : Nat} (hc : c < 4) : Runs (clr S c) := by
  unfold Sp.clr; split
  · exact h
  · next e => exact (h.queue (by omega) (by have := h.on c hc; omega)).set_on c
theorem clr_on (S : St) (c d : Nat) : (clr S c).on d = if d = c then 0 else S.on d := by
  unfold clr; split
  · next e => split
              · next e2 => rw [e2]; exact e
              · rfl
  · show upd S.on c 0 d = _
    unfold upd; rfl
theorem clr_core (S : St) (c t : Nat) : ((clr S c).T t).c = (S.T t).c ∧ ((clr S c).T t).r = (S.T t).r ∧ ((clr S c).T t).m = (S.T t).m ∧ ((clr S c).T t).bc = (S.T t).bc ∧ ((clr S c).T t).ro = (S.T t).ro := by
  unfold clr; split
  · exact ⟨rfl, rfl, rfl, rfl, rfl⟩
  · show (upd S.T (S.on c) { S.T (S.on c) with s := S.g + 1 } t).c = _ ∧ (upd S.T (S.on c) { S.T (S.on c) with s := S.g + 1 } t).r = _ ∧ (upd S.T (S.on c) { S.T (S.on c) with s := S.g + 1 } t).m = _ ∧ (upd S.T (S.on c) { S.T (S.on c) with s := S.g + 1 } t).bc = _ ∧ (upd S.T (S.on c) { S.T (S.on c) with s := S.g + 1 } t).ro = _
    unfold upd; split
    · next e => subst e; exact ⟨rfl, rfl, rfl, rfl, rfl⟩
    · exact ⟨rfl, rfl, rfl, rfl, rfl⟩
theorem clr_n (S : St) (c : Nat) : (clr S c).n = S.n := by unfold clr; split <;> rfl
/-- Behind it the task runs nowhere. -/
theorem off_place (h : Runs S) {t : Nat} (h1 : 1 ≤ t) (j : Nat) (hj : j < 4) : (off S t).on j ≠ t := by
  unfold off
  cases hp : place S t with
  | none => exact place_no hp j hj
  | some i =>
    have hi := place_is hp
    show (clr S i).on j ≠ t
    rw [clr_on]
    split
    · omega
    · next e => exact fun e2 => e (h.uniq j i hj hi.1 (by omega) (by rw [e2, hi.2]))
theorem off_core (S : St) (k t : Nat) : ((off S k).T t).c = (S.T t).c ∧ ((off S k).T t).r = (S.T t).r ∧ ((off S k).T t).m = (S.T t).m ∧ ((off S k).T t).bc = (S.T t).bc ∧ ((off S k).T t).ro = (S.T t).ro := by
  unfold off; split
  · exact clr_core _ _ _
  · exact ⟨rfl, rfl, rfl, rfl, rfl⟩
theorem off_n (S : St) (k : Nat) : (off S k).n = S.n := by unfold off; split; exact clr_n _ _; rfl
/-- A task that does not run any more, or still runs: who is not ready. -/
theorem Runs.off' (h : Runs S) {t : Nat} (h1 : 1 ≤ t) (h2 : t < 17) {x : Tk} (hr : x.r = true → x.c ≠ 0) (hx : x.r = false) : Runs (Sp.off { S with T := upd S.T t x } t) := by
  -- first take it off, then change it: the same but for its since
  have hT : Runs { S with T := upd S.T t x } ∨ ∃ i, place S t = some i := by
    cases hp : place S t with
    | none => exact Or.inl (h.set h1 (fun c hc e => absurd e (place_no hp c hc)) hr)
    | some i => exact Or.inr ⟨i, rfl⟩
  rcases hT with hT | ⟨i, hp⟩
  · unfold Sp.off; split
    · next i e => exact hT.clr (place_is e).1
    · exact hT
  · have hi := place_is hp
    have e1 : Sp.off { S with T := upd S.T t x } t = Sp.clr { S with T := upd S.T t x } i := by
      unfold Sp.off
      rw [show place { S with T := upd S.T t x } t = some i from hp]
    rw [e1]
    have e2 : Sp.clr { S with T := upd S.T t x } i = { S with on := upd S.on i 0, T := upd S.T t { x with s := S.g + 1 }, g := S.g + 1 } := by
      unfold Sp.clr
      rw [if_neg (by show ¬ S.on i = 0; omega)]
      show St.mk _ _ (upd (upd S.T t x) (S.on i) _) _ _ = _
      rw [hi.2, upd_upd]
      show St.mk S.n (upd S.on i 0) (upd S.T t { upd S.T t x t with s := S.g + 1 }) S.k (S.g + 1) = _
      rw [upd_same]
    rw [e2]
    have h3 := (h.set_on i).set (t := t) h1 (x := { x with s := S.g + 1 }) (fun c hc e => by
      have e3 : upd S.on i 0 c = t := e
      by_cases e4 : c = i
      · subst e4; rw [upd_same] at e3; omega
      · rw [upd_other _ _ e4] at e3
        exact absurd (h.uniq c i hc hi.1 (by omega) (by rw [e3, hi.2])) e4) hr
    exact h3.set_g _
theorem Runs.off (h : Runs S) (t : Nat) : Runs (off S t) := by
  unfold Sp.off; split
  · next i e => exact h.clr (place_is e).1
  · exact h
end
end Go.Proofs.Ytddfdnhlghmapaa.Sp
