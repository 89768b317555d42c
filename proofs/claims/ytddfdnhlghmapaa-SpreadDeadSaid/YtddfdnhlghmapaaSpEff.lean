/- What each call of package spread leaves: who is there, ready, where it may run, boosted; and that nobody idles. -/
import Derived.Test.YtddfdnhlghmapaaSpRuns
import Derived.Test.YtddfdnhlghmapaaSpDead
namespace Go.Proofs.Ytddfdnhlghmapaa.Sp
open Go.Proofs.Ytddfdnhlghmapaa.Vt Go.Proofs.Ytddfdnhlghmapaa.Ad
set_option linter.unusedVariables false

/-- What a task is, but for its times. -/
def core (x : Tk) : Int × Bool × Nat × Int := (x.c, x.r, x.m, x.bc)
/-- One task has changed, as told; nobody idles. -/
structure Eff (S S' : St) (k : Nat) (y : Int × Bool × Nat × Int) : Prop where
  n : S'.n = S.n
  runs : Runs S'
  full : Full S'
  oth : ∀ j, j ≠ k → core (S'.T j) = core (S.T j)
  at_ : core (S'.T k) = y

section
variable {S : St} {k : Nat}
theorem core_upd (T : Tks) (k : Nat) (x : Tk) (j : Nat) : core (upd T k x j) = if j = k then core x else core (T j) := by
  unfold upd; split <;> rfl
theorem core_clr (S : St) (c j : Nat) : core ((clr S c).T j) = core (S.T j) := by
  obtain ⟨a, b, c', d, e⟩ := clr_core S c j
  unfold core; rw [a, b, c', d]
theorem core_off (S : St) (k j : Nat) : core ((off S k).T j) = core (S.T j) := by
  obtain ⟨a, b, c', d, e⟩ := off_core S k j
  unfold core; rw [a, b, c', d]
theorem core_queue (S : St) (k j : Nat) : core ((queue S k).T j) = core (S.T j) := by
  show core (upd S.T k { S.T k with s := S.g + 1 } j) = _
  rw [core_upd]; split
  · next e => rw [e]; rfl
  · rfl
/-- A run in which one task differs, in nothing that keeps it from running. -/
theorem Runs.like (h : Runs S) (h1 : 1 ≤ k) {x : Tk} (hx : core x = core (S.T k)) (hk : k < 17) : Runs { S with T := upd S.T k x } := by
  have e := hx
  unfold core at e
  simp only [Prod.mk.injEq] at e
  obtain ⟨e1, e2, e3, e4⟩ := e
  refine h.set h1 (fun c hc ho => ?_) (fun hr => ?_)
  · have := h.live c hc (by omega)
    rw [ho] at this
    refine ⟨by rw [e1]; exact this.2.1, by rw [e2]; exact this.2.2.1, ?_⟩
    have hm := this.2.2.2
    unfold may at hm ⊢
    rw [e3]; exact hm
  · rw [e1]; exact h.rc k hk (by rw [← e2]; exact hr)
theorem start_eff (h : Runs S) (h1 : 1 ≤ k) (h2 : k < 17) (hc : (S.T k).c ≠ 0) : Eff S (start S k) k ((S.T k).c, true, (S.T k).m, (S.T k).bc) := by
  have hr : core (risen S k) = ((S.T k).c, true, (S.T k).m, (S.T k).bc) := by unfold risen; split <;> rfl
  have hrc : (risen S k).c = (S.T k).c ∧ (risen S k).r = true ∧ (risen S k).m = (S.T k).m := by unfold risen; split <;> exact ⟨rfl, rfl, rfl⟩
  have h3 : Runs { S with T := upd S.T k (risen S k) } := h.set h1 (fun c hcc ho => by
    have := h.live c hcc (by omega)
    rw [ho] at this
    refine ⟨by rw [hrc.1]; exact this.2.1, hrc.2.1, ?_⟩
    have hm := this.2.2.2
    unfold may at hm ⊢
    rw [hrc.2.2]; exact hm) (fun _ => by rw [hrc.1]; exact hc)
  have h4 := h3.queue h1 h2
  refine ⟨fill_n' _, h4.fill, h4.full, fun j hj => ?_, ?_⟩
  · unfold start
    rw [fill_T', core_queue]
    show core (upd S.T k (risen S k) j) = _
    rw [core_upd, if_neg hj]
  · unfold start
    rw [fill_T', core_queue]
    show core (upd S.T k (risen S k) k) = _
    rw [core_upd, if_pos rfl]; exact hr
where
  fill_n' (S : St) : (fill S).n = S.n := fillTo_n S S.n
  fill_T' (S : St) : (fill S).T = S.T := fillTo_T S S.n
theorem fn (S : St) : (fill S).n = S.n := fillTo_n S S.n
theorem fT (S : St) : (fill S).T = S.T := fillTo_T S S.n
theorem free_c {t : Nat} (h1 : 1 ≤ t) (h2 : t ≤ 16) (he : ¬ There S (t : Int)) : (S.T t).c = 0 := Decidable.byContradiction fun e => he (nat_there h1 h2 e)
theorem enter_eff (h : Runs S) (h1 : 1 ≤ k) (h2 : k ≤ 16) (he : (S.T k).c = 0) {x : Tk} (hx : x.r = false) (hc : x.c ≠ 0) : Eff S (enter S k x) k (x.c, true, all S, x.bc) := by
  have h3 : Runs { S with T := upd S.T k { x with m := all S } } := h.set h1 (fun c hcc ho => by
    have := h.live c hcc (by omega)
    rw [ho] at this
    exact absurd he this.2.1) (fun _ => hc)
  have h4 := start_eff (k := k) h3 h1 (by omega) (by show (upd S.T k { x with m := all S } k).c ≠ 0; rw [upd_same]; exact hc)
  refine ⟨h4.n, h4.runs, h4.full, fun j hj => (h4.oth j hj).trans ?_, h4.at_.trans ?_⟩
  · show core (upd S.T k { x with m := all S } j) = _
    rw [core_upd, if_neg hj]
  · show ((upd S.T k { x with m := all S } k).c, true, (upd S.T k { x with m := all S } k).m, (upd S.T k { x with m := all S } k).bc) = _
    rw [upd_same]
theorem add_eff (h : Runs S) {t : Int} {c v : Int} (h0 : addE S t c v = 0) (h1 : 1 ≤ k) (h2 : k ≤ 16) (e : t = k) : Eff S (addS S t c v) k (c, true, all S, 0) := by
  subst e
  unfold addE at h0
  by_cases hk : isNo (k : Int) = true ∧ kindOk c v = true
  · rw [if_pos hk] at h0
    by_cases he : There S (k : Int)
    · rw [if_pos he] at h0; omega
    · have e2 : addS S k c v = enter S k (newTk c v) := by unfold addS; rw [if_pos ⟨hk.1, hk.2, he⟩, Int.toNat_natCast]
      rw [e2]
      exact enter_eff h h1 h2 (free_c h1 h2 he) rfl (fun e => by have := of_decide_eq_true hk.2; have e3 : c = 0 := e; omega)
  · rw [if_neg hk] at h0; omega
theorem addDead_eff (h : Runs S) {t : Int} {b q : Int} (h0 : addDeadE S t b q = 0) (h1 : 1 ≤ k) (h2 : k ≤ 16) (e : t = k) : Eff S (addDeadS S t b q) k (3, true, all S, 0) := by
  subst e
  unfold addDeadE at h0
  by_cases hk : isNo (k : Int) = true ∧ okU (b, q) = true
  · rw [if_pos hk] at h0
    by_cases he : There S (k : Int)
    · rw [if_pos he] at h0; omega
    · rw [if_neg he] at h0
      by_cases hf : fitsB S (b, q) = true
      · have e2 : addDeadS S k b q = enter S k (deadTk b q (now S)) := by unfold addDeadS; rw [if_pos ⟨hk.1, hk.2, he, hf⟩, Int.toNat_natCast]
        rw [e2]
        exact enter_eff h h1 h2 (free_c h1 h2 he) rfl (by show (3 : Int) ≠ 0; omega)
      · rw [if_neg hf] at h0; omega
  · rw [if_neg hk] at h0; omega
theorem leave_eff (h : Runs S) (h0 : leaveE S (k : Int) = 0) (h1 : 1 ≤ k) (h2 : k ≤ 16) : Eff S (leaveS S (k : Int)) k (0, false, 0, 0) := by
  unfold leaveE at h0
  by_cases he : There S (k : Int)
  · have e2 : leaveS S k = fill { off S k with T := upd (off S k).T k noTk } := by unfold leaveS left; rw [if_pos he, Int.toNat_natCast]
    rw [e2]
    have h3 : Runs { off S k with T := upd (off S k).T k noTk } := (h.off k).set h1 (fun c hc ho => absurd ho (off_place h h1 c hc)) (fun e => by cases e)
    refine ⟨(fn _).trans (off_n S k), h3.fill, h3.full, fun j hj => ?_, ?_⟩
    · rw [fT]
      show core (upd (off S k).T k noTk j) = _
      rw [core_upd, if_neg hj, core_off]
    · rw [fT]
      show core (upd (off S k).T k noTk k) = _
      rw [core_upd, if_pos rfl]; rfl
  · rw [if_neg he] at h0; omega
theorem block_eff (h : Runs S) (h0 : blockE S (k : Int) = 0) (h1 : 1 ≤ k) (h2 : k ≤ 16) : Eff S (blockS S (k : Int)) k ((S.T k).c, false, (S.T k).m, (S.T k).bc) := by
  unfold blockE at h0
  rw [Int.toNat_natCast] at h0
  by_cases he : There S (k : Int)
  · rw [if_pos he] at h0
    by_cases hr : (S.T k).r = true
    · have e2 : blockS S k = fill (off { S with T := upd S.T k { S.T k with r := false } } k) := by unfold blockS; rw [Int.toNat_natCast, if_pos ⟨he, hr⟩]; rfl
      rw [e2]
      have h3 : Runs (off { S with T := upd S.T k { S.T k with r := false } } k) := h.off' h1 (by omega) (fun e => by cases e) rfl
      refine ⟨(fn _).trans (off_n _ k), h3.fill, h3.full, fun j hj => ?_, ?_⟩
      · rw [fT, core_off]
        show core (upd S.T k { S.T k with r := false } j) = _
        rw [core_upd, if_neg hj]
      · rw [fT, core_off]
        show core (upd S.T k { S.T k with r := false } k) = _
        rw [core_upd, if_pos rfl]; rfl
    · rw [if_neg hr] at h0; omega
  · rw [if_neg he] at h0; omega
theorem wake_eff (h : Runs S) (h0 : wakeE S (k : Int) = 0) (h1 : 1 ≤ k) (h2 : k ≤ 16) : Eff S (wakeS S (k : Int)) k ((S.T k).c, true, (S.T k).m, (S.T k).bc) := by
  unfold wakeE at h0
  rw [Int.toNat_natCast] at h0
  by_cases he : There S (k : Int)
  · rw [if_pos he] at h0
    have hc : (S.T k).c ≠ 0 := by have := he.2.2; simpa using this
    by_cases hr : (S.T k).r = true
    · rw [if_pos hr] at h0; omega
    · have e2 : wakeS S k = woken S k := by unfold wakeS; rw [Int.toNat_natCast, if_pos ⟨he, by simpa using hr⟩]
      rw [e2]
      unfold woken
      by_cases h3 : (S.T k).c = 3
      · rw [if_pos h3]
        have hcw : core (wokeR (S.T k) (now S)) = core (S.T k) := by unfold wokeR full; split <;> rfl
        have hcw2 : (wokeR (S.T k) (now S)).c = (S.T k).c ∧ (wokeR (S.T k) (now S)).m = (S.T k).m ∧ (wokeR (S.T k) (now S)).bc = (S.T k).bc := by unfold wokeR full; split <;> exact ⟨rfl, rfl, rfl⟩
        have h4 := start_eff (k := k) (h.like h1 hcw (by omega)) h1 (by omega) (by show (upd S.T k (wokeR (S.T k) (now S)) k).c ≠ 0; rw [upd_same, hcw2.1]; exact hc)
        refine ⟨h4.n, h4.runs, h4.full, fun j hj => (h4.oth j hj).trans ?_, h4.at_.trans ?_⟩
        · show core (upd S.T k (wokeR (S.T k) (now S)) j) = _
          rw [core_upd, if_neg hj]
        · show ((upd S.T k (wokeR (S.T k) (now S)) k).c, true, (upd S.T k (wokeR (S.T k) (now S)) k).m, (upd S.T k (wokeR (S.T k) (now S)) k).bc) = _
          rw [upd_same, hcw2.1, hcw2.2.1, hcw2.2.2]
      · rw [if_neg h3]
        exact start_eff h h1 (by omega) hc
  · rw [if_neg he] at h0; omega
theorem boost_eff (h : Runs S) {c v : Int} (h0 : boostE S (k : Int) c v = 0) (h1 : 1 ≤ k) (h2 : k ≤ 16) : Eff S (boostS S (k : Int) c v) k ((S.T k).c, (S.T k).r, (S.T k).m, c) := by
  unfold boostE at h0
  by_cases hv : kindOk c v = true
  · rw [if_pos hv] at h0
    by_cases he : There S (k : Int)
    · have e2 : boostS S k c v = fill { S with T := upd S.T k { S.T k with bc := c, bv := v } } := by unfold boostS; rw [if_pos ⟨hv, he⟩, Int.toNat_natCast]
      rw [e2]
      have h3 : Runs { S with T := upd S.T k { S.T k with bc := c, bv := v } } := h.set h1 (fun d hd ho => by
        have := h.live d hd (by omega)
        rw [ho] at this
        exact this.2) (h.rc k (by omega))
      refine ⟨fn _, h3.fill, h3.full, fun j hj => ?_, ?_⟩
      · rw [fT]
        show core (upd S.T k { S.T k with bc := c, bv := v } j) = _
        rw [core_upd, if_neg hj]
      · rw [fT]
        show core (upd S.T k { S.T k with bc := c, bv := v } k) = _
        rw [core_upd, if_pos rfl]; rfl
    · rw [if_neg he] at h0; omega
  · rw [if_neg hv] at h0; omega
theorem calm_eff (h : Runs S) (h0 : calmE S (k : Int) = 0) (h1 : 1 ≤ k) (h2 : k ≤ 16) : Eff S (calmS S (k : Int)) k ((S.T k).c, (S.T k).r, (S.T k).m, 0) := by
  unfold calmE at h0
  rw [Int.toNat_natCast] at h0
  by_cases he : There S (k : Int)
  · rw [if_pos he] at h0
    by_cases hb : (S.T k).bc = 0
    · rw [if_pos hb] at h0; omega
    · have e2 : calmS S k = calmed S k := by unfold calmS; rw [Int.toNat_natCast, if_pos ⟨he, hb⟩]
      rw [e2]
      have h3 : Runs { S with T := upd S.T k { S.T k with bc := 0, bv := 0 } } := h.set h1 (fun d hd ho => by
        have := h.live d hd (by omega)
        rw [ho] at this
        exact this.2) (h.rc k (by omega))
      unfold calmed
      by_cases hro : (S.T k).ro = true
      · rw [if_pos hro]
        have h4 := h3.off k
        refine ⟨(fn _).trans (off_n _ k), h4.fill, h4.full, fun j hj => ?_, ?_⟩
        · rw [fT, core_off]
          show core (upd S.T k { S.T k with bc := 0, bv := 0 } j) = _
          rw [core_upd, if_neg hj]
        · rw [fT, core_off]
          show core (upd S.T k { S.T k with bc := 0, bv := 0 } k) = _
          rw [core_upd, if_pos rfl]; rfl
      · rw [if_neg hro]
        refine ⟨fn _, h3.fill, h3.full, fun j hj => ?_, ?_⟩
        · rw [fT]
          show core (upd S.T k { S.T k with bc := 0, bv := 0 } j) = _
          rw [core_upd, if_neg hj]
        · rw [fT]
          show core (upd S.T k { S.T k with bc := 0, bv := 0 } k) = _
          rw [core_upd, if_pos rfl]; rfl
  · rw [if_neg he] at h0; omega
/-- A run in which a task may run elsewhere, and has been taken from where it may not. -/
theorem pinned_eff (h : Runs S) (h1 : 1 ≤ k) (h2 : k ≤ 16) (m : Nat) : Eff S (pinned S k m) k ((S.T k).c, (S.T k).r, m, (S.T k).bc) := by
  have main : ∀ S2 : St, Runs S2 → S2.n = S.n → (∀ t, core (S2.T t) = core (upd S.T k { S.T k with m := m } t)) → Eff S (fill S2) k ((S.T k).c, (S.T k).r, m, (S.T k).bc) := by
    intro S2 hr2 hn2 hc
    refine ⟨(fn _).trans hn2, hr2.fill, hr2.full, fun j hj => ?_, ?_⟩
    · rw [fT, hc, core_upd, if_neg hj]
    · rw [fT, hc, core_upd, if_pos rfl]; rfl
  unfold pinned
  cases hp : place S k with
  | none => exact main _ (h.set h1 (fun c hc e => absurd e (place_no hp c hc)) (h.rc k (by omega))) rfl (fun t => rfl)
  | some i =>
    have hi := place_is hp
    show Eff S (if m / 2 ^ i % 2 = 1 then _ else _) _ _
    by_cases hb : m / 2 ^ i % 2 = 1
    · rw [if_pos hb]
      refine main _ (h.set h1 (fun c hc e => ?_) (h.rc k (by omega))) rfl (fun t => rfl)
      have hci : c = i := h.uniq c i hc hi.1 (by omega) (by rw [e, hi.2])
      have := h.live c hc (by omega)
      rw [e] at this
      subst hci
      exact ⟨this.2.1, this.2.2.1, decide_eq_true hb⟩
    · rw [if_neg hb]
      have e4 : clr { S with T := upd S.T k { S.T k with m := m } } i = { S with on := upd S.on i 0, T := upd S.T k { S.T k with m := m, s := S.g + 1 }, g := S.g + 1 } := by
        unfold clr
        rw [if_neg (by show ¬ S.on i = 0; omega)]
        show St.mk _ _ (upd (upd S.T k _) (S.on i) _) _ _ = _
        rw [hi.2, upd_upd]
        show St.mk S.n (upd S.on i 0) (upd S.T k { upd S.T k { S.T k with m := m } k with s := S.g + 1 }) S.k (S.g + 1) = _
        rw [upd_same]
      rw [e4]
      have hr3 := ((h.set_on i).set (t := k) h1 (x := { S.T k with m := m, s := S.g + 1 }) (fun c hc e => by
        have e3 : upd S.on i 0 c = k := e
        by_cases e4 : c = i
        · subst e4; rw [upd_same] at e3; omega
        · rw [upd_other _ _ e4] at e3
          exact absurd (h.uniq c i hc hi.1 (by omega) (by rw [e3, hi.2])) e4) (h.rc k (by omega))).set_g (S.g + 1)
      refine main _ hr3 rfl (fun t => ?_)
      show core (upd S.T k { S.T k with m := m, s := S.g + 1 } t) = _
      rw [core_upd, core_upd]; split <;> rfl
theorem pin_eff (h : Runs S) {m : Nat} (h0 : pinE S (k : Int) (m : Int) = 0) (h1 : 1 ≤ k) (h2 : k ≤ 16) : Eff S (pinS S (k : Int) (m : Int)) k ((S.T k).c, (S.T k).r, m, (S.T k).bc) := by
  unfold pinE at h0
  by_cases hm : maskOk S (m : Int) = true
  · rw [if_pos hm] at h0
    by_cases he : There S (k : Int)
    · have e2 : pinS S k m = pinned S k m := by unfold pinS; rw [if_pos ⟨hm, he⟩, Int.toNat_natCast, Int.toNat_natCast]
      rw [e2]; exact pinned_eff h h1 h2 m
    · rw [if_neg he] at h0; omega
  · rw [if_neg hm] at h0; omega
theorem charged_core (x : Tk) : core (charged x) = core x := by unfold charged used; split; rfl; split; split <;> rfl; rfl
theorem again_core (x : Tk) (n : Int) : core (again x n) = core x := by unfold again full; split <;> rfl
/-- A run in which all differ in nothing that keeps them from running. -/
theorem Runs.alike (h : Runs S) {S2 : St} (hn : S2.n = S.n) (ho : S2.on = S.on) (hz : S2.T 0 = noTk) (hc : ∀ t, t < 17 → core (S2.T t) = core (S.T t)) : Runs S2 := by
  have e : ∀ t, t < 17 → (S2.T t).c = (S.T t).c ∧ (S2.T t).r = (S.T t).r ∧ (S2.T t).m = (S.T t).m := fun t ht => by
    have := hc t ht
    unfold core at this
    simp only [Prod.mk.injEq] at this
    exact ⟨this.1, this.2.1, this.2.2.1⟩
  refine ⟨fun c hc0 h0 => ?_, by rw [ho]; exact h.uniq, fun t ht hr => ?_, hz, by rw [ho]; exact h.on, by rw [hn]; exact h.n4⟩
  · rw [ho] at h0 ⊢
    rw [hn]
    have hl := h.live c hc0 h0
    obtain ⟨a, b, d⟩ := e (S.on c) (by have := h.on c hc0; omega)
    refine ⟨hl.1, by rw [a]; exact hl.2.1, by rw [b]; exact hl.2.2.1, ?_⟩
    have hm := hl.2.2.2
    unfold may at hm ⊢
    rw [d]; exact hm
  · obtain ⟨a, b, d⟩ := e t ht
    rw [a]; exact h.rc t ht (by rw [← b]; exact hr)
/-- A run behind a tick, ere the processor is cleared. -/
def ticks2 (S : St) (c : Nat) (n : Int) : St := passTo { S with T := upd S.T (S.on c) (charged (S.T (S.on c))), k := S.k + 1 } n 17
theorem tick_two (S : St) (c : Nat) : ∃ n, tick S c = fill (clr (ticks2 S c n) c) := ⟨_, rfl⟩
theorem ticks2_T (S : St) (c : Nat) (n : Int) {t : Nat} (ht : t < 17) : (ticks2 S c n).T t = again (upd S.T (S.on c) (charged (S.T (S.on c))) t) n := by
  show (if t < 17 then again (upd S.T (S.on c) (charged (S.T (S.on c))) t) n else upd S.T (S.on c) (charged (S.T (S.on c))) t) = _
  rw [if_pos ht]
theorem tick_eff {c : Nat} (h : Runs S) (hc : c < 4) : Runs (tick S c) ∧ Full (tick S c) ∧ (tick S c).n = S.n ∧ ∀ t, t < 17 → core ((tick S c).T t) = core (S.T t) := by
  obtain ⟨n, e⟩ := tick_two S c
  rw [e]
  have hco : ∀ t, t < 17 → core ((ticks2 S c n).T t) = core (S.T t) := fun t ht => by
    rw [ticks2_T S c n ht, again_core, core_upd]
    split
    · next e => rw [charged_core, e]
    · rfl
  have hz : (ticks2 S c n).T 0 = noTk := by
    have e0 : upd S.T (S.on c) (charged (S.T (S.on c))) 0 = noTk := by
      unfold upd; split
      · next e => rw [← e, h.z]; unfold charged; rw [if_neg (by decide), if_neg (by decide)]
      · exact h.z
    rw [ticks2_T S c n (by omega), e0]
    unfold again; rw [if_neg (by simp)]
  have h2 : Runs (ticks2 S c n) := h.alike rfl rfl hz hco
  have h3 := h2.clr hc
  refine ⟨h3.fill, h3.full, (fn _).trans (clr_n _ _), fun t ht => ?_⟩
  rw [fT, core_clr]; exact hco t ht
end
end Go.Proofs.Ytddfdnhlghmapaa.Sp
