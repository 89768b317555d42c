/- The law SpreadRound: tasks of one priority go round. -/
import Derived.Test.YtddfdnhlghmapaaSpPins
namespace Go.Proofs.Ytddfdnhlghmapaa.Sp
open Go.Proofs.Ytddfdnhlghmapaa.Vt
set_option linter.unusedVariables false

theorem mod_add {q n i : Nat} (hn : 0 < n) (hi : i ≤ n) : (q + i) % n = if q % n + i < n then q % n + i else q % n + i - n := by
  have hr := Nat.mod_lt q hn
  have e : (q + i) % n = (q % n + i) % n := by rw [Nat.add_mod, Nat.add_mod (q % n) i, Nat.mod_mod]
  rw [e]
  split
  · next h => exact Nat.mod_eq_of_lt h
  · next h => rw [Nat.mod_eq_sub_mod (by omega)]; exact Nat.mod_eq_of_lt (by omega)
theorem mod_inj {q n i j : Nat} (hn : 0 < n) (hi : i < n) (hj : j < n) (e : (q + i) % n = (q + j) % n) : i = j := by
  have hr := Nat.mod_lt q hn
  rw [mod_add hn (by omega), mod_add hn (by omega)] at e
  split at e <;> split at e <;> omega
theorem mod_onto {q n t : Nat} (hn : 0 < n) (ht : t < n) : ∃ i, i < n ∧ (q + i) % n = t := by
  have hr := Nat.mod_lt q hn
  by_cases h : q % n ≤ t
  · exact ⟨t - q % n, by omega, by rw [mod_add hn (by omega), if_pos (by omega)]; omega⟩
  · exact ⟨n + t - q % n, by omega, by rw [mod_add hn (by omega), if_neg (by omega)]; omega⟩
theorem mod_full {q n : Nat} (hn : 0 < n) : (q + n) % n = q % n := Nat.add_mod_right q n

/-- A task of the priority, ready, that may run everywhere. -/
def Turn (N : Nat) (v : Int) (t : Nat) (x : Tk) : Prop := x.c = 2 ∧ x.bc = 0 ∧ x.r = true ∧ x.m = 2 ^ N - 1 ∧ x.ro = false ∧ x.v = v

theorem turn_may {N : Nat} (h4 : N ≤ 4) {c : Nat} (hc : c < N) : (2 ^ N - 1) / 2 ^ c % 2 = 1 := by
  rcases (show N = 0 ∨ N = 1 ∨ N = 2 ∨ N = 3 ∨ N = 4 by omega) with rfl | rfl | rfl | rfl | rfl <;> rcases (show c = 0 ∨ c = 1 ∨ c = 2 ∨ c = 3 by omega) with rfl | rfl | rfl | rfl <;> first | rfl | omega

section
variable {S : St} {N n k q : Nat} {v : Int}
theorem turn_plain (h : Grown S n (Turn N v)) : Plain S := fun t ht => by
  by_cases h0 : t = 0
  · subst h0; rw [h.runs.z]; exact ⟨by decide, rfl⟩
  · by_cases hle : t ≤ n
    · obtain ⟨q1, q2, q3, q4, q5, q6⟩ := h.old t (by omega) hle
      exact ⟨by rw [q1]; decide, q5⟩
    · rw [h.new t (by omega) ht]; exact ⟨by decide, rfl⟩
theorem turn_rk {t : Nat} {x : Tk} (h : Turn N v t x) : rk0 x = -2 ∧ rk1 x = -v ∧ rk2 x = x.s := by
  obtain ⟨q1, q2, q3, q4, q5, q6⟩ := h
  have e : asC x = 2 := by unfold asC; rw [if_pos q2]; exact q1
  have e2 : asV x = v := by unfold asV; rw [if_pos q2]; exact q6
  unfold rk0 rk1 rk2
  rw [e, e2]
  exact ⟨rfl, rfl, rfl⟩
theorem turn_asks {T : Nat → Tk} (h4 : S.n ≤ 4) {c t : Nat} (hc : c < N) (hN : N ≤ 4) (h : Turn N v t (S.T t)) (hp : ∀ j, j < 4 → S.on j ≠ t) : asks S c t = true := by
  obtain ⟨q1, q2, q3, q4, q5, q6⟩ := h
  exact asks_iff.2 ⟨waits_plain q3 q5, decide_eq_true (by rw [q4]; exact turn_may hN hc), place_none hp⟩
theorem none_asks (S : St) (c k : Nat) (h : ∀ t, 1 ≤ t → t < k → asks S c t = false) (h0 : asks S c 0 = false) : firstTo S c k = 0 := by
  induction k with
  | zero => rfl
  | succ k ih =>
    show (if asks S c k ∧ _ then k else firstTo S c k) = 0
    have hk : asks S c k = false := by
      by_cases e : k = 0
      · rw [e]; exact h0
      · exact h k (by omega) (by omega)
    rw [if_neg (by rw [hk]; simp)]
    exact ih (fun t h1 h2 => h t h1 (by omega))

/-- The tasks 1 to k have come: the first of them run, in order. -/
structure Came (S : St) (N k : Nat) (v : Int) : Prop where
  g : Grown S k (Turn N v)
  n : S.n = N
  on : ∀ c, c < 4 → S.on c = if c < N ∧ c < k then c + 1 else 0
  s : ∀ t, 1 ≤ t → t ≤ k → (S.T t).s = t
  w : S.g = k
theorem Came.start (h4 : N ≤ 4) (v : Int) : Came (noS N) N 0 v := ⟨Grown.start h4 _, rfl, fun c _ => by rw [if_neg (by omega)]; rfl, fun t h1 h2 => by omega, rfl⟩
theorem Came.more (h : Came S N k v) (h4 : N ≤ 4) (hk : k < 16) (hv : kindOk 2 v = true) :
    addE S ((k : Int) + 1) 2 v = 0 ∧ Came (addS S ((k : Int) + 1) 2 v) N (k + 1) v := by
  obtain ⟨e1, e2, e3, e4⟩ := h.g.more hk hv (fun tm _ => ⟨rfl, rfl, rfl, by show all S = 2 ^ N - 1; unfold all; rw [h.n], rfl, rfl⟩)
  refine ⟨e1, ?_⟩
  obtain ⟨tm, -, -, e5⟩ := add_is (S := S) (k := k + 1) (by omega) (by omega) hv (h.g.new (k + 1) (by omega) (by omega))
  have e5 : addS S ((k : Int) + 1) 2 v = fill { S with T := upd S.T (k + 1) (cameTk S 2 v tm), g := S.g + 1 } := e5
  have e2 : Grown (addS S ((k : Int) + 1) 2 v) (k + 1) (Turn N v) := e2
  have e4 : (addS S ((k : Int) + 1) 2 v).n = S.n := e4
  refine ⟨e2, e4.trans h.n, ?_, fun t h1 h2 => ?_, ?_⟩
  · rw [e5]
    obtain ⟨S1, hS1⟩ : ∃ S1 : St, S1 = { S with T := upd S.T (k + 1) (cameTk S 2 v tm), g := S.g + 1 } := ⟨_, rfl⟩
    rw [← hS1]
    have hon : S1.on = S.on := by rw [hS1]
    have hn1 : S1.n = N := by rw [hS1]; exact h.n
    have hT : S1.T = upd S.T (k + 1) (cameTk S 2 v tm) := by rw [hS1]
    by_cases hkN : k < N
    · have hnew : Turn N v (k + 1) (S1.T (k + 1)) := by rw [hT, upd_same]; exact ⟨rfl, rfl, rfl, by show all S = 2 ^ N - 1; unfold all; rw [h.n], rfl, rfl⟩
      have hb : ∀ d, d < k → S1.on d ≠ 0 := fun d hd => by rw [hon, h.on d (by omega), if_pos (by omega)]; omega
      have hid : S1.on k = 0 := by rw [hon, h.on k (by omega), if_neg (by omega)]
      have hold : ∀ t, 1 ≤ t → t < 17 → t ≠ k + 1 → ∀ c, asks S1 c t = false := by
        intro t h1 h2 hne c
        cases ha : asks S1 c t with
        | false => rfl
        | true =>
          exfalso
          obtain ⟨a1, a2, a3⟩ := asks_iff.1 ha
          by_cases hle : t ≤ k
          · have hp := place_no a3 (t - 1) (by omega)
            rw [hon, h.on (t - 1) (by omega), if_pos (by omega)] at hp
            omega
          · rw [hT, upd_other _ _ hne, h.g.new t (by omega) h2] at a1
            cases a1
      have hf : first S1 k = k + 1 := by
        refine first_is (by omega) (by omega) ?_ (fun t h1 h2 hne ha => by rw [hold t h1 h2 hne k] at ha; cases ha)
        refine turn_asks (T := S1.T) (by rw [hn1]; exact h4) hkN h4 hnew (fun j hj e => ?_)
        rw [hon, h.on j hj] at e
        split at e <;> omega
      have step : ∀ j, k < j → j ≤ N → (fillTo S1 j).on = upd S.on k (k + 1) ∧ (fillTo S1 j).T = S1.T := by
        intro j
        induction j with
        | zero => intro hj; omega
        | succ j ih =>
          intro hj hjN
          by_cases e : j = k
          · subst e
            show (put1 (fillTo S1 j) j).on = _ ∧ (put1 (fillTo S1 j) j).T = _
            rw [fillTo_stays hb, put1_idle hid, hf]
            exact ⟨by show upd S1.on j (j + 1) = _; rw [hon], rfl⟩
          · obtain ⟨i1, i2⟩ := ih (by omega) (by omega)
            show (put1 (fillTo S1 j) j).on = _ ∧ (put1 (fillTo S1 j) j).T = _
            have hz : (fillTo S1 j).on j = 0 := by rw [i1, upd_other _ _ (by omega), h.on j (by omega), if_neg (by omega)]
            have hnone : first (fillTo S1 j) j = 0 := by
              refine none_asks _ j 17 (fun t h1 h2 => ?_) ?_
              · by_cases hne : t = k + 1
                · subst hne
                  cases ha : asks (fillTo S1 j) j (k + 1) with
                  | false => rfl
                  | true =>
                    have hp := place_no (asks_iff.1 ha).2.2 k (by omega)
                    rw [i1, upd_same] at hp
                    exact absurd rfl hp
                · cases ha : asks (fillTo S1 j) j t with
                  | false => rfl
                  | true =>
                    exfalso
                    obtain ⟨a1, a2, a3⟩ := asks_iff.1 ha
                    rw [i2] at a1
                    by_cases hle : t ≤ k
                    · have hp := place_no a3 (t - 1) (by omega)
                      rw [i1, upd_other _ _ (by omega), h.on (t - 1) (by omega), if_pos (by omega)] at hp
                      omega
                    · rw [hT, upd_other _ _ hne, h.g.new t (by omega) h2] at a1
                      cases a1
              · cases ha : asks (fillTo S1 j) j 0 with
                | false => rfl
                | true =>
                  have a1 := (asks_iff.1 ha).1
                  rw [i2, hT, upd_other _ _ (by omega), h.g.runs.z] at a1
                  cases a1
            rw [put1_idle hz, hnone]
            refine ⟨?_, i2⟩
            show upd (fillTo S1 j).on j 0 = _
            rw [← i1]
            funext d
            unfold upd
            split
            · next e2 => rw [e2]; exact hz.symm
            · rfl
      intro c hc
      show (fillTo S1 S1.n).on c = _
      rw [hn1, (step N (by omega) (Nat.le_refl _)).1]
      by_cases e : c = k
      · subst e; rw [upd_same, if_pos (by omega)]
      · rw [upd_other _ _ e, h.on c hc]
        by_cases e2 : c < N ∧ c < k
        · rw [if_pos e2, if_pos (by omega)]
        · rw [if_neg e2, if_neg (by omega)]
    · intro c hc
      rw [fill_none (fun d hd => by rw [hon, h.on d (by omega), if_pos (by omega)]; omega), hon, h.on c hc]
      by_cases e2 : c < N ∧ c < k
      · rw [if_pos e2, if_pos (by omega)]
      · rw [if_neg e2, if_neg (by omega)]
  · rw [e5, fill_T]
    show (upd S.T (k + 1) (cameTk S 2 v tm) t).s = _
    by_cases e : t = k + 1
    · subst e; rw [upd_same]; show S.g + 1 = _; rw [h.w]; omega
    · rw [upd_other _ _ e]; exact h.s t h1 (by omega)
  · rw [e5, fill_g]
    show S.g + 1 = _
    rw [h.w]; omega

/-- After q ticks, of the processors in turn: who runs, and who waits, in order. -/
structure Turns (S : St) (N n q : Nat) (v : Int) : Prop where
  g : Grown S n (Turn N v)
  hn : S.n = N
  on : ∀ i, i < N → S.on ((q + i) % N) = (q + i) % n + 1
  inc : ∀ i j, N ≤ i → i < j → j < n → (S.T ((q + i) % n + 1)).s < (S.T ((q + j) % n + 1)).s
  top : ∀ t, 1 ≤ t → t ≤ n → (S.T t).s ≤ S.g
theorem Turns.start (h : Came S N n v) (h4 : N ≤ 4) (hn : N ≤ n) : Turns S N n 0 v := by
  refine ⟨h.g, h.n, fun i hi => ?_, fun i j hi hij hj => ?_, fun t h1 h2 => by rw [h.s t h1 h2, h.w]; omega⟩
  · rw [Nat.zero_add, Nat.mod_eq_of_lt hi, Nat.mod_eq_of_lt (by omega), h.on i (by omega), if_pos (by omega)]
  · rw [Nat.zero_add, Nat.zero_add, Nat.mod_eq_of_lt (by omega), Nat.mod_eq_of_lt hj, h.s _ (by omega) (by omega), h.s _ (by omega) (by omega)]
    omega
theorem Turns.tick (h : Turns S N n q v) (h1 : 1 ≤ N) (h4 : N ≤ 4) (hn : N ≤ n) (h16 : n ≤ 16) : S.on (q % N) = q % n + 1 ∧ Turns (tick S (q % N)) N n (q + 1) v := by
  have hc : q % N < N := Nat.mod_lt _ (by omega)
  have hu : q % n < n := Nat.mod_lt _ (by omega)
  have hon0 : S.on (q % N) = q % n + 1 := by have := h.on 0 (by omega); rwa [Nat.add_zero] at this
  refine ⟨hon0, ?_⟩
  have hp : Plain S := turn_plain h.g
  obtain ⟨c, hcc⟩ : ∃ c, q % N = c := ⟨_, rfl⟩
  obtain ⟨u, huu⟩ : ∃ u, q % n + 1 = u := ⟨_, rfl⟩
  rw [hcc] at hon0 hc
  rw [huu] at hon0
  rw [hcc, tick_plain hp (by omega) (by omega)]
  have hq := h.g.old u (by omega) (by omega)
  have hch : charged (S.T u) = S.T u := by rw [charged_plain (by rw [hq.1]; decide), if_neg (by rw [hq.1]; decide)]
  have hT : ∀ t, (ticked S c).T t = if t = u then { S.T u with s := S.g + 1 } else S.T t := by
    intro t
    show upd S.T (S.on c) { charged (S.T (S.on c)) with s := S.g + 1 } t = _
    rw [hon0, hch]
    unfold upd; rfl
  have hon : ∀ d, (ticked S c).on d = if d = c then 0 else S.on d := fun d => by
    show upd S.on c 0 d = _
    unfold upd; rfl
  have hr := ticked_runs h.g.runs hp (c := c) (by omega) (by omega)
  have hn1 : (ticked S c).n = N := h.hn
  have hg1 : (ticked S c).g = S.g + 1 := rfl
  have hold : ∀ t, 1 ≤ t → t ≤ n → Turn N v t ((ticked S c).T t) := by
    intro t t1 t2
    rw [hT]
    split
    · exact hq
    · exact h.g.old t t1 t2
  have hnew : ∀ t, n < t → t < 17 → (ticked S c).T t = noTk := fun t t1 t2 => by
    rw [hT, if_neg (by omega)]; exact h.g.new t t1 t2
  -- who runs besides
  have hoth : ∀ d, d < N → d ≠ c → ∃ i, 1 ≤ i ∧ i < N ∧ (q + i) % N = d ∧ S.on d = (q + i) % n + 1 := by
    intro d hd hdc
    obtain ⟨i, hi, e⟩ := mod_onto (q := q) (n := N) (t := d) (by omega) hd
    have hi0 : i ≠ 0 := fun e0 => by rw [e0, Nat.add_zero, hcc] at e; exact hdc e.symm
    exact ⟨i, by omega, hi, e, by rw [← e]; exact h.on i hi⟩
  have hidle : ∀ d, d < 4 → N ≤ d → S.on d = 0 := fun d hd hN => by
    apply Decidable.byContradiction
    intro e
    have := (h.g.runs.live d hd e).1
    rw [h.hn] at this; omega
  have hne : ∀ i j, i < n → j < n → i ≠ j → (q + i) % n + 1 ≠ (q + j) % n + 1 := fun i j hi hj hij e => hij (mod_inj (q := q) (n := n) (by omega) hi hj (by omega))
  obtain ⟨u2, hu2⟩ : ∃ u2, (q + N) % n + 1 = u2 := ⟨_, rfl⟩
  have hu2n : (q + N) % n < n := Nat.mod_lt _ (by omega)
  have hu0 : (q + 0) % n + 1 = u := by rw [Nat.add_zero]; exact huu
  have hc0 : (q + 0) % N = c := by rw [Nat.add_zero]; exact hcc
  have hmod : N = n → u2 = u := fun e => by rw [← hu2, e, mod_full (by omega)]; exact huu
  -- nobody of those who wait runs anywhere
  have hfree : ∀ t, 1 ≤ t → t ≤ n → (∀ i, 1 ≤ i → i < N → (q + i) % n + 1 ≠ t) → ∀ d, d < 4 → (ticked S c).on d ≠ t := by
    intro t t1 t2 hti d hd e
    rw [hon] at e
    split at e
    · omega
    · next hdc =>
      by_cases hdN : d < N
      · obtain ⟨i, i1, i2, i3, i4⟩ := hoth d hdN hdc
        rw [i4] at e
        exact hti i i1 i2 e
      · rw [hidle d hd (by omega)] at e; omega
  have hask2 : asks (ticked S c) c u2 = true := by
    refine turn_asks (T := S.T) (by rw [hn1]; exact h4) hc h4 (hold u2 (by omega) (by omega)) (hfree u2 (by omega) (by omega) (fun i i1 i2 e => ?_))
    by_cases hNn : N = n
    · rw [hmod hNn, ← hu0] at e
      exact hne i 0 (by omega) (by omega) (by omega) e
    · rw [← hu2] at e
      exact hne i N (by omega) (by omega) (by omega) e
  have hfirst : first (ticked S c) c = u2 := by
    refine first_is (by omega) (by omega) hask2 (fun t t1 t2 htne ha => ?_)
    obtain ⟨a1, a2, a3⟩ := asks_iff.1 ha
    have htn : t ≤ n := by
      apply Decidable.byContradiction
      intro e
      rw [hnew t (by omega) t2] at a1
      cases a1
    obtain ⟨i, hi, e⟩ := mod_onto (q := q) (n := n) (t := t - 1) (by omega) (by omega)
    have et : (q + i) % n + 1 = t := by omega
    have hrange : i = 0 ∨ N ≤ i := by
      apply Decidable.byContradiction
      intro hno
      have hpl := place_no a3 ((q + i) % N) (by have := Nat.mod_lt (q + i) (show 0 < N by omega); omega)
      rw [hon, if_neg (fun e2 => ?_), h.on i (by omega)] at hpl
      · exact hpl et
      · have : i = 0 := mod_inj (q := q) (n := N) (by omega) (by omega) (by omega) (e2.trans hc0.symm)
        omega
    obtain ⟨r1, r2, r3⟩ := turn_rk (hold u2 (by omega) (by omega))
    obtain ⟨s1, s2, s3⟩ := turn_rk (hold t t1 htn)
    refine prec_iff.2 (Or.inr ⟨by rw [r1, s1], Or.inr ⟨by rw [r2, s2], ?_⟩⟩)
    rw [r3, s3, hT, hT]
    rcases hrange with h0 | hN
    · have htu : t = u := by rw [← et, h0]; exact hu0
      have hu2u : u2 ≠ u := fun e2 => htne (by rw [htu, e2])
      rw [if_neg hu2u, if_pos htu]
      have := h.top u2 (by omega) (by omega)
      show (S.T u2).s < S.g + 1
      omega
    · have htu : t ≠ u := fun e2 => by
        rw [← et, ← hu0] at e2
        exact hne i 0 hi (by omega) (by omega) e2
      have hiN : i ≠ N := fun e2 => htne (by rw [← et, e2]; exact hu2)
      have hu2u : u2 ≠ u := fun e2 => by
        rw [← hu2, ← hu0] at e2
        exact hne N 0 (by omega) (by omega) (by omega) e2
      rw [if_neg hu2u, if_neg htu, ← hu2, ← et]
      exact h.inc N i (Nat.le_refl _) (by omega) hi
  have hz : (ticked S c).on c = 0 := by rw [hon, if_pos rfl]
  have hfill : fill (ticked S c) = { ticked S c with on := upd (ticked S c).on c u2 } := by
    rw [fill_one (c := c) (by rw [hn1]; exact hc) (fun d hd hdc => by
      rw [hn1] at hd
      obtain ⟨i, i1, i2, i3, i4⟩ := hoth d hd hdc
      rw [hon, if_neg hdc, i4]; omega), put1_idle hz, hfirst]
  have hgr : Grown (fill (ticked S c)) n (Turn N v) := ⟨hr.fill, fun t t1 t2 => by rw [fill_T]; exact hold t t1 t2, fun t t1 t2 => by rw [fill_T]; exact hnew t t1 t2⟩
  refine ⟨hgr, (fill_n _).trans hn1, fun i hi => ?_, fun i j hi hij hj => ?_, fun t t1 t2 => ?_⟩
  · rw [hfill]
    show upd (ticked S c).on c u2 ((q + 1 + i) % N) = _
    rw [show q + 1 + i = q + (i + 1) by omega]
    by_cases e : i + 1 = N
    · rw [e, mod_full (by omega), hcc, upd_same]; exact hu2.symm
    · have hdc : (q + (i + 1)) % N ≠ c := fun e2 => by
        have := mod_inj (q := q) (n := N) (i := i + 1) (j := 0) (by omega) (by omega) (by omega) (e2.trans hc0.symm)
        omega
      rw [upd_other _ _ hdc, hon, if_neg hdc]
      exact h.on (i + 1) (by omega)
  · rw [fill_T, hT, hT, show q + 1 + i = q + (i + 1) by omega, show q + 1 + j = q + (j + 1) by omega]
    have hi1 : (q + (i + 1)) % n + 1 ≠ u := fun e => by
      rw [← hu0] at e
      exact hne (i + 1) 0 (by omega) (by omega) (by omega) e
    rw [if_neg hi1]
    by_cases e : j + 1 = n
    · have hju : (q + (j + 1)) % n + 1 = u := by rw [e, mod_full (by omega)]; exact huu
      rw [if_pos hju]
      have := h.top ((q + (i + 1)) % n + 1) (by omega) (by have := Nat.mod_lt (q + (i + 1)) (show 0 < n by omega); omega)
      show _ < S.g + 1
      omega
    · have hj1 : (q + (j + 1)) % n + 1 ≠ u := fun e2 => by
        rw [← hu0] at e2
        exact hne (j + 1) 0 (by omega) (by omega) (by omega) e2
      rw [if_neg hj1]
      exact h.inc (i + 1) (j + 1) (by omega) (by omega) (by omega)
  · rw [fill_T, fill_g, hT, hg1]
    have := h.top t t1 t2
    split
    · show S.g + 1 ≤ S.g + 1; omega
    · omega
end
end Go.Proofs.Ytddfdnhlghmapaa.Sp
