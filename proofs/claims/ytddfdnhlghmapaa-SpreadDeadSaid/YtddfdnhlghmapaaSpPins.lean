/- The law SpreadPins: what is so of runs where each task has its own processor. -/
import Derived.Test.YtddfdnhlghmapaaSpBoost
namespace Go.Proofs.Ytddfdnhlghmapaa.Sp
open Go.Proofs.Ytddfdnhlghmapaa.Vt
set_option linter.unusedVariables false

/-- The processor of a task. -/
def seat (n r t : Nat) : Nat := (t + r) % n
theorem seat_lt {n r t : Nat} (hn : 1 ≤ n) : seat n r t < n := Nat.mod_lt _ (by omega)
theorem seat_inj {n r t u : Nat} (hn : n ≤ 4) (h1 : 1 ≤ t) (h2 : t ≤ n) (h3 : 1 ≤ u) (h4 : u ≤ n) (hr : r < n) (e : seat n r t = seat n r u) : t = u := by
  unfold seat at e
  rcases (show n = 1 ∨ n = 2 ∨ n = 3 ∨ n = 4 by omega) with rfl | rfl | rfl | rfl <;> omega
theorem bit_may : ∀ c : Fin 4, ∀ d : Fin 4, (2 ^ (c : Nat) / 2 ^ (d : Nat) % 2 = 1) ↔ c = d := by decide
theorem bit_is {c d : Nat} (hc : c < 4) (hd : d < 4) : 2 ^ c / 2 ^ d % 2 = 1 ↔ c = d := by
  have := bit_may ⟨c, hc⟩ ⟨d, hd⟩
  rw [this]
  exact ⟨fun e => by injection e, fun e => by subst e; rfl⟩

/-- A task that may run on its own processor alone. -/
def Pinned (n r : Nat) (t : Nat) (x : Tk) : Prop := x.c = 1 ∧ x.bc = 0 ∧ x.r = true ∧ x.m = 2 ^ seat n r t ∧ x.ro = false
section
variable {S : St} {n r k : Nat}
/-- Each of them runs where it may. -/
theorem pins_run (h : Grown S k (Pinned n r)) (hf : Full S) (hn : S.n = n) (n1 : 1 ≤ n) (n4 : n ≤ 4) (hr : r < n) (hk : k ≤ n) {t : Nat} (h1 : 1 ≤ t) (h2 : t ≤ k) : S.on (seat n r t) = t := by
  have hs := seat_lt (r := r) (t := t) n1
  obtain ⟨q1, q2, q3, q4, q5⟩ := h.old t h1 h2
  -- whoever runs on a processor is the task whose processor it is
  have own : ∀ c, c < 4 → S.on c ≠ 0 → 1 ≤ S.on c ∧ S.on c ≤ k ∧ seat n r (S.on c) = c := by
    intro c hc ho
    have hl := h.runs.live c hc ho
    have hle := h.runs.on c hc
    have hk2 : S.on c ≤ k := by
      apply Decidable.byContradiction
      intro e
      rw [h.new (S.on c) (by omega) (by omega)] at hl
      exact absurd rfl hl.2.1
    obtain ⟨p1, p2, p3, p4, p5⟩ := h.old (S.on c) (by omega) hk2
    have hm := of_decide_eq_true hl.2.2.2
    rw [p4] at hm
    exact ⟨by omega, hk2, (bit_is (by have := seat_lt (r := r) (t := S.on c) n1; omega) hc).1 hm⟩
  by_cases ho : S.on (seat n r t) = 0
  · exfalso
    have hno := hf (seat n r t) (by omega) ho t (by omega)
    have ha : asks S (seat n r t) t = true := asks_iff.2 ⟨waits_plain q3 q5, decide_eq_true (by rw [q4]; exact (bit_is (by omega) (by omega)).2 rfl), place_none fun j hj e => by
      by_cases h0 : S.on j = 0
      · omega
      · have := (own j hj h0).2.2
        rw [e] at this
        rw [this] at ho; omega⟩
    rw [hno] at ha; cases ha
  · have := own _ (by omega) ho
    exact seat_inj n4 this.1 (by omega) h1 (by omega) hr this.2.2
/-- A task comes, and is given its processor. -/
theorem pins_more (h : Grown S k (Pinned n r)) (hn : S.n = n) (n1 : 1 ≤ n) (n4 : n ≤ 4) (hk : k < n) :
    addE S ((k : Int) + 1) 1 ((k : Int) + 1) = 0 ∧ pinE (addS S ((k : Int) + 1) 1 ((k : Int) + 1)) ((k : Int) + 1) ((2 ^ seat n r (k + 1) : Nat) : Int) = 0 ∧
      Grown (pinS (addS S ((k : Int) + 1) 1 ((k : Int) + 1)) ((k : Int) + 1) ((2 ^ seat n r (k + 1) : Nat) : Int)) (k + 1) (Pinned n r) ∧
      Full (pinS (addS S ((k : Int) + 1) 1 ((k : Int) + 1)) ((k : Int) + 1) ((2 ^ seat n r (k + 1) : Nat) : Int)) ∧ (pinS (addS S ((k : Int) + 1) 1 ((k : Int) + 1)) ((k : Int) + 1) ((2 ^ seat n r (k + 1) : Nat) : Int)).n = n := by
  have hnew := h.new (k + 1) (by omega) (by omega)
  obtain ⟨tm, e1, e2, e3⟩ := add_is (S := S) (k := k + 1) (by omega) (by omega) (c := 1) (v := (k : Int) + 1) (decide_eq_true (by omega)) hnew
  have e2 : addE S ((k : Int) + 1) 1 ((k : Int) + 1) = 0 := e2
  have e3 : addS S ((k : Int) + 1) 1 ((k : Int) + 1) = _ := e3
  have hr1 := (h.runs.came (k := k + 1) (c := 1) (v := (k : Int) + 1) (tm := tm) (by omega) (by decide) hnew).fill
  rw [← e3] at hr1
  have hT : ∀ t, (addS S ((k : Int) + 1) 1 ((k : Int) + 1)).T t = upd S.T (k + 1) (cameTk S 1 ((k : Int) + 1) tm) t := fun t => by rw [e3, fill_T]
  have hn1 : (addS S ((k : Int) + 1) 1 ((k : Int) + 1)).n = n := by rw [e3, fill_n]; exact hn
  refine ⟨e2, ?_⟩
  generalize addS S ((k : Int) + 1) 1 ((k : Int) + 1) = S1 at *
  have hs := seat_lt (r := r) (t := k + 1) n1
  have hall : all S1 = 2 ^ n - 1 := by unfold all; rw [hn1]
  have hm : 1 ≤ 2 ^ seat n r (k + 1) ∧ 2 ^ seat n r (k + 1) ≤ 2 ^ n - 1 := by
    have h1 : 0 < 2 ^ seat n r (k + 1) := Nat.pow_pos (by omega)
    have h2 : 2 ^ (seat n r (k + 1) + 1) ≤ 2 ^ n := Nat.pow_le_pow_right (by omega) (by omega)
    rw [Nat.pow_succ] at h2
    omega
  have hmk : maskOk S1 ((2 ^ seat n r (k + 1) : Nat) : Int) = true := decide_eq_true (by rw [hall]; exact ⟨by exact_mod_cast hm.1, by exact_mod_cast hm.2⟩)
  have hth : There S1 ((k : Int) + 1) := by
    have : There S1 ((k + 1 : Nat) : Int) := nat_there (by omega) (by omega) (by rw [hT, upd_same]; show (1 : Int) ≠ 0; decide)
    exact this
  have p1 : pinE S1 ((k : Int) + 1) ((2 ^ seat n r (k + 1) : Nat) : Int) = 0 := by unfold pinE; rw [if_pos hmk, if_pos hth]
  have p2 : pinS S1 ((k : Int) + 1) ((2 ^ seat n r (k + 1) : Nat) : Int) = pinned S1 (k + 1) (2 ^ seat n r (k + 1)) := by
    unfold pinS; rw [if_pos ⟨hmk, hth⟩, Int.toNat_natCast]; rfl
  refine ⟨p1, ?_⟩
  rw [p2]
  have hx : ((S1.T (k + 1)).c = 1 ∧ (S1.T (k + 1)).bc = 0 ∧ (S1.T (k + 1)).r = true ∧ (S1.T (k + 1)).ro = false) := by rw [hT, upd_same]; exact ⟨rfl, rfl, rfl, rfl⟩
  -- whichever way it went, the tasks are these, and all ends in a fill
  have main : ∀ S2 : St, Runs S2 → S2.n = n → (∀ t, t < 17 → (S2.T t).c = (upd S1.T (k + 1) { S1.T (k + 1) with m := 2 ^ seat n r (k + 1) } t).c ∧ (S2.T t).bc = (upd S1.T (k + 1) { S1.T (k + 1) with m := 2 ^ seat n r (k + 1) } t).bc ∧ (S2.T t).r = (upd S1.T (k + 1) { S1.T (k + 1) with m := 2 ^ seat n r (k + 1) } t).r ∧ (S2.T t).m = (upd S1.T (k + 1) { S1.T (k + 1) with m := 2 ^ seat n r (k + 1) } t).m ∧ (S2.T t).ro = (upd S1.T (k + 1) { S1.T (k + 1) with m := 2 ^ seat n r (k + 1) } t).ro) →
      (∀ t, k + 1 < t → t < 17 → S2.T t = noTk) → Grown (fill S2) (k + 1) (Pinned n r) ∧ Full (fill S2) ∧ (fill S2).n = n := by
    intro S2 hr2 hn2 hc hz
    refine ⟨⟨hr2.fill, fun t h1 h2 => ?_, fun t h1 h2 => by rw [fill_T]; exact hz t h1 h2⟩, hr2.full, (fill_n _).trans hn2⟩
    rw [fill_T]
    obtain ⟨c1, c2, c3, c4, c5⟩ := hc t (by omega)
    unfold Pinned
    rw [c1, c2, c3, c4, c5]
    by_cases e : t = k + 1
    · subst e; rw [upd_same]; exact ⟨hx.1, hx.2.1, hx.2.2.1, rfl, hx.2.2.2⟩
    · rw [upd_other _ _ e, hT, upd_other _ _ e]
      exact h.old t h1 (by omega)
  have hz1 : ∀ t, k + 1 < t → t < 17 → upd S1.T (k + 1) { S1.T (k + 1) with m := 2 ^ seat n r (k + 1) } t = noTk := fun t h1 h2 => by
    rw [upd_other _ _ (by omega), hT, upd_other _ _ (by omega)]; exact h.new t (by omega) h2
  unfold pinned
  cases hp : place S1 (k + 1) with
  | none =>
    refine main _ (hr1.set (by omega) (fun c hc e => absurd e (place_no hp c hc)) (fun _ => by show (S1.T (k + 1)).c ≠ 0; rw [hx.1]; decide)) hn1 (fun t ht => ⟨rfl, rfl, rfl, rfl, rfl⟩) hz1
  | some i =>
    have hi := place_is hp
    show Grown (if 2 ^ seat n r (k + 1) / 2 ^ i % 2 = 1 then _ else _) _ _ ∧ Full (if 2 ^ seat n r (k + 1) / 2 ^ i % 2 = 1 then _ else _) ∧ St.n (if 2 ^ seat n r (k + 1) / 2 ^ i % 2 = 1 then _ else _) = n
    by_cases hb : 2 ^ seat n r (k + 1) / 2 ^ i % 2 = 1
    · rw [if_pos hb]
      refine main _ (hr1.set (by omega) (fun c hc e => ?_) (fun _ => by show (S1.T (k + 1)).c ≠ 0; rw [hx.1]; decide)) hn1 (fun t ht => ⟨rfl, rfl, rfl, rfl, rfl⟩) hz1
      have : c = i := hr1.uniq c i hc hi.1 (by omega) (by rw [e, hi.2])
      subst this
      exact ⟨by show (S1.T (k + 1)).c ≠ 0; rw [hx.1]; decide, hx.2.2.1, decide_eq_true hb⟩
    · rw [if_neg hb]
      -- taken off first, then pinned
      have e4 : clr { S1 with T := upd S1.T (k + 1) { S1.T (k + 1) with m := 2 ^ seat n r (k + 1) } } i = { S1 with on := upd S1.on i 0, T := upd S1.T (k + 1) { S1.T (k + 1) with m := 2 ^ seat n r (k + 1), s := S1.g + 1 }, g := S1.g + 1 } := by
        unfold clr
        rw [if_neg (by show ¬ S1.on i = 0; omega)]
        show St.mk _ _ (upd (upd S1.T (k + 1) _) (S1.on i) _) _ _ = _
        rw [hi.2, upd_upd]
        show St.mk S1.n (upd S1.on i 0) (upd S1.T (k + 1) { upd S1.T (k + 1) { S1.T (k + 1) with m := 2 ^ seat n r (k + 1) } (k + 1) with s := S1.g + 1 }) S1.k (S1.g + 1) = _
        rw [upd_same]
      rw [e4]
      have hr3 := ((hr1.set_on i).set (t := k + 1) (by omega) (x := { S1.T (k + 1) with m := 2 ^ seat n r (k + 1), s := S1.g + 1 }) (fun c hc e => by
        have e3 : upd S1.on i 0 c = k + 1 := e
        by_cases e4 : c = i
        · subst e4; rw [upd_same] at e3; omega
        · rw [upd_other _ _ e4] at e3
          exact absurd (hr1.uniq c i hc hi.1 (by omega) (by rw [e3, hi.2])) e4) (fun _ => by show (S1.T (k + 1)).c ≠ 0; rw [hx.1]; decide)).set_g (S1.g + 1)
      refine main _ hr3 hn1 (fun t ht => ?_) (fun t h1 h2 => ?_)
      · show (upd S1.T (k + 1) { S1.T (k + 1) with m := 2 ^ seat n r (k + 1), s := S1.g + 1 } t).c = _ ∧ (upd S1.T (k + 1) { S1.T (k + 1) with m := 2 ^ seat n r (k + 1), s := S1.g + 1 } t).bc = _ ∧ (upd S1.T (k + 1) { S1.T (k + 1) with m := 2 ^ seat n r (k + 1), s := S1.g + 1 } t).r = _ ∧ (upd S1.T (k + 1) { S1.T (k + 1) with m := 2 ^ seat n r (k + 1), s := S1.g + 1 } t).m = _ ∧ (upd S1.T (k + 1) { S1.T (k + 1) with m := 2 ^ seat n r (k + 1), s := S1.g + 1 } t).ro = _
        by_cases e : t = k + 1
        · subst e; rw [upd_same, upd_same]; exact ⟨rfl, rfl, rfl, rfl, rfl⟩
        · rw [upd_other _ _ e, upd_other _ _ e]; exact ⟨rfl, rfl, rfl, rfl, rfl⟩
      · show upd S1.T (k + 1) { S1.T (k + 1) with m := 2 ^ seat n r (k + 1), s := S1.g + 1 } t = noTk
        have := hz1 t h1 h2
        rw [upd_other _ _ (by omega)] at this ⊢
        exact this
/-- A tick changes nothing of what a task may, or is. -/
theorem ticked_core (hp : Plain S) {c : Nat} (ho : S.on c < 17) (t : Nat) (ht : t < 17) : ((ticked S c).T t).c = (S.T t).c ∧ ((ticked S c).T t).bc = (S.T t).bc ∧ ((ticked S c).T t).r = (S.T t).r ∧ ((ticked S c).T t).m = (S.T t).m ∧ ((ticked S c).T t).ro = (S.T t).ro := by
  show (upd S.T (S.on c) { charged (S.T (S.on c)) with s := S.g + 1 } t).c = _ ∧ (upd S.T (S.on c) { charged (S.T (S.on c)) with s := S.g + 1 } t).bc = _ ∧ (upd S.T (S.on c) { charged (S.T (S.on c)) with s := S.g + 1 } t).r = _ ∧ (upd S.T (S.on c) { charged (S.T (S.on c)) with s := S.g + 1 } t).m = _ ∧ (upd S.T (S.on c) { charged (S.T (S.on c)) with s := S.g + 1 } t).ro = _
  unfold upd; split
  · next e =>
    subst e
    rw [charged_plain (hp _ ho).1]
    split <;> exact ⟨rfl, rfl, rfl, rfl, rfl⟩
  · exact ⟨rfl, rfl, rfl, rfl, rfl⟩
theorem ticked_runs (h : Runs S) (hp : Plain S) {c : Nat} (hc : c < 4) (ho : S.on c ≠ 0) : Runs (ticked S c) := by
  have hlv := h.live c hc ho
  have h17 := h.on c hc
  have h1 := (h.set_on c).set (t := S.on c) (by omega) (x := { charged (S.T (S.on c)) with s := S.g + 1 }) (fun d hd e => by
    have e2 : upd S.on c 0 d = S.on c := e
    by_cases e3 : d = c
    · rw [e3, upd_same] at e2; exact absurd e2.symm ho
    · rw [upd_other _ _ e3] at e2
      exact absurd (h.uniq d c hd hc (by rw [e2]; exact ho) e2) e3) (fun _ => by
      show (charged (S.T (S.on c))).c ≠ 0
      rw [(charged_ro (hp _ (by omega)).1).2]; exact hlv.2.1)
  exact ⟨h1.live, h1.uniq, h1.rc, h1.z, h1.on, h1.n4⟩
/-- A tick, where the tasks 1 to k are there and all are alike in what they may. -/
theorem Grown.tick {Q : Nat → Tk → Prop} (h : Grown S k Q) (hp : Plain S) (hk : k ≤ 16) {c : Nat} (hc : c < 4) (ho : S.on c ≠ 0) (hQ : ∀ t x y, Q t x → y.c = x.c → y.bc = x.bc → y.r = x.r → y.m = x.m → y.ro = x.ro → Q t y) : Grown (tick S c) k Q ∧ Full (tick S c) ∧ (tick S c).n = S.n := by
  have h17 := h.runs.on c hc
  rw [tick_plain hp ho (by omega)]
  have hr := ticked_runs h.runs hp hc ho
  refine ⟨⟨hr.fill, fun t h1 h2 => ?_, fun t h1 h2 => ?_⟩, hr.full, fill_n _⟩
  · rw [fill_T]
    obtain ⟨a, b, c', d, e⟩ := ticked_core (c := c) hp (by omega) t (by omega)
    exact hQ t _ _ (h.old t h1 h2) a b c' d e
  · rw [fill_T]
    show upd S.T (S.on c) _ t = noTk
    have hl := h.runs.live c hc ho
    rw [upd_other _ _ (fun e => by rw [← e, h.new t h1 h2] at hl; exact absurd rfl hl.2.1)]
    exact h.new t h1 h2
end
end Go.Proofs.Ytddfdnhlghmapaa.Sp
