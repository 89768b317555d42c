/- The law SpreadShares: on one processor, fair tasks that are ready all the time. -/
import Derived.Test.YtddfdnhlghmapaaSpPins
namespace Go.Proofs.Ytddfdnhlghmapaa.Sp
open Go.Proofs.Ytddfdnhlghmapaa.Vt
set_option linter.unusedVariables false

/-- A fair task of a weight, ready, not boosted, that may run on the one processor; its time is v. -/
def Share (W V : Nat → Int) (t : Nat) (x : Tk) : Prop := x.c = 1 ∧ x.bc = 0 ∧ x.r = true ∧ x.m = 1 ∧ x.ro = false ∧ x.v = W t ∧ x.t = V t

/-- The tasks 1 to m on one processor; who runs is not behind anybody. -/
structure Shares (S : St) (m : Nat) (W V : Nat → Int) : Prop where
  g : Grown S m (Share W V)
  full : Full S
  n : S.n = 1
  run : ∀ t, 1 ≤ t → t ≤ m → 1 ≤ S.on 0 ∧ S.on 0 ≤ m ∧ V (S.on 0) ≤ V t

section
variable {S : St} {m : Nat} {W V : Nat → Int}
theorem share_plain {n : Nat} {W V : Nat → Int} (h : Grown S m (Share W V)) : Plain S := fun t ht => by
  by_cases h0 : t = 0
  · subst h0; rw [h.runs.z]; exact ⟨by decide, rfl⟩
  · by_cases hle : t ≤ m
    · obtain ⟨q1, q2, q3, q4, q5, q6, q7⟩ := h.old t (by omega) hle
      exact ⟨by rw [q1]; decide, q5⟩
    · rw [h.new t (by omega) ht]; exact ⟨by decide, rfl⟩
theorem share_on (h : Grown S m (Share W V)) (hf : Full S) (hn : S.n = 1) (hm : 1 ≤ m) (hm2 : m ≤ 16) : 1 ≤ S.on 0 ∧ S.on 0 ≤ m := by
  have h0 : S.on 0 ≠ 0 := fun e => by
    have hno := hf 0 (by omega) e 1 (by omega)
    obtain ⟨q1, q2, q3, q4, q5, q6, q7⟩ := h.old 1 (by omega) hm
    have ha : asks S 0 1 = true := asks_iff.2 ⟨waits_plain q3 q5, by unfold may; rw [q4]; rfl, place_empty (fun c hc => by
      by_cases e2 : c = 0
      · rw [e2]; exact e
      · exact on_one h.runs hn hc (by omega)) (by omega)⟩
    rw [hno] at ha; cases ha
  have hl := h.runs.live 0 (by omega) h0
  have hle := h.runs.on 0 (by omega)
  refine ⟨by omega, ?_⟩
  apply Decidable.byContradiction
  intro e
  rw [h.new (S.on 0) (by omega) (by omega)] at hl
  exact hl.2.1 rfl
theorem Shares.start (W : Nat → Int) : Shares (noS 1) 0 W (fun _ => 0) := ⟨Grown.start (by omega) _, fun c hc h0 t ht => by
  unfold asks
  rw [show waits ((noS 1).T t) = false from rfl]; rfl, rfl, fun t h1 h2 => by omega⟩
/-- A task comes, ere anybody has run. -/
theorem Shares.more (h : Shares S m W (fun _ => 0)) (hm : m < 16) (hw : isW (W (m + 1)) = true) :
    addE S ((m : Int) + 1) 1 (W (m + 1)) = 0 ∧ Shares (addS S ((m : Int) + 1) 1 (W (m + 1))) (m + 1) W (fun _ => 0) := by
  have hk : kindOk 1 (W (m + 1)) = true := decide_eq_true (Or.inl ⟨rfl, of_decide_eq_true hw⟩)
  obtain ⟨e1, e2, e3, e4⟩ := h.g.more hm hk (fun tm htm => ⟨rfl, rfl, rfl, by show all S = 1; unfold all; rw [h.n], rfl, rfl, by
    rcases htm with e | ⟨-, f, hf, e⟩
    · exact e
    · show tm = 0
      rw [e]
      by_cases h0 : f = 0
      · subst h0; rw [h.g.runs.z]
      · by_cases hle : f ≤ m
        · exact (h.g.old f (by omega) hle).2.2.2.2.2.2
        · rw [h.g.new f (by omega) hf]⟩)
  have hn1 := e4.trans h.n
  refine ⟨e1, e2, e3, hn1, fun t h1 h2 => ?_⟩
  obtain ⟨a, b⟩ := share_on e2 e3 hn1 (by omega) (by omega)
  exact ⟨a, b, Int.le_refl _⟩

/-- A tick: who ran is charged, and then somebody runs who is not behind anybody. -/
theorem Shares.tick (h : Shares S m W V) (hm : 1 ≤ m) (hm2 : m ≤ 16) : Shares (tick S 0) m W (upd V (S.on 0) (V (S.on 0) + costOf (W (S.on 0)))) := by
  obtain ⟨o1, o2⟩ := share_on h.g h.full h.n hm hm2
  have hp : Plain S := share_plain (n := m) h.g
  obtain ⟨u, hu⟩ : ∃ u, S.on 0 = u := ⟨_, rfl⟩
  have hq := h.g.old (S.on 0) o1 o2
  rw [tick_plain hp (by omega) (by omega)]
  have hch : charged (S.T (S.on 0)) = { S.T (S.on 0) with t := (S.T (S.on 0)).t + costOf (S.T (S.on 0)).v } := by
    rw [charged_plain (by rw [hq.1]; decide), if_pos hq.1]
  have hr := ticked_runs h.g.runs hp (c := 0) (by omega) (by omega)
  have hT : ∀ t, (ticked S 0).T t = if t = S.on 0 then { S.T (S.on 0) with t := (S.T (S.on 0)).t + costOf (S.T (S.on 0)).v, s := S.g + 1 } else S.T t := by
    intro t
    show upd S.T (S.on 0) { charged (S.T (S.on 0)) with s := S.g + 1 } t = _
    unfold upd
    rw [hch]
  have hold : ∀ t, 1 ≤ t → t ≤ m → Share W (upd V (S.on 0) (V (S.on 0) + costOf (W (S.on 0)))) t ((ticked S 0).T t) := by
    intro t h1 h2
    rw [hT]
    by_cases e : t = S.on 0
    · rw [if_pos e, e]
      obtain ⟨q1, q2, q3, q4, q5, q6, q7⟩ := hq
      exact ⟨q1, q2, q3, q4, q5, q6, by rw [upd_same]; show (S.T (S.on 0)).t + costOf (S.T (S.on 0)).v = _; rw [q6, q7]⟩
    · rw [if_neg e]
      obtain ⟨q1, q2, q3, q4, q5, q6, q7⟩ := h.g.old t h1 h2
      exact ⟨q1, q2, q3, q4, q5, q6, by rw [upd_other _ _ e]; exact q7⟩
  have hnew : ∀ t, m < t → t < 17 → (ticked S 0).T t = noTk := fun t h1 h2 => by
    rw [hT, if_neg (by omega)]; exact h.g.new t h1 h2
  have hz : (ticked S 0).on 0 = 0 := show upd S.on 0 0 0 = 0 from upd_same _ _ _
  have hn : (ticked S 0).n = 1 := h.n
  have hall : ∀ c, c < 4 → (ticked S 0).on c = 0 := fun c hc => by
    by_cases e : c = 0
    · rw [e]; exact hz
    · exact on_one hr hn hc (by omega)
  have hgr : Grown (fill (ticked S 0)) m (Share W (upd V (S.on 0) (V (S.on 0) + costOf (W (S.on 0))))) :=
    ⟨hr.fill, fun t h1 h2 => by rw [fill_T]; exact hold t h1 h2, fun t h1 h2 => by rw [fill_T]; exact hnew t h1 h2⟩
  have hfl : Full (fill (ticked S 0)) := hr.full
  have hn2 : (fill (ticked S 0)).n = 1 := (fill_n _).trans hn
  refine ⟨hgr, hfl, hn2, fun t h1 h2 => ?_⟩
  obtain ⟨a, b⟩ := share_on hgr hfl hn2 hm hm2
  refine ⟨a, b, ?_⟩
  have hon : (fill (ticked S 0)).on 0 = first (ticked S 0) 0 := by
    rw [fill_one (c := 0) (by rw [hn]; omega) (fun d hd hd0 => by rw [hn] at hd; omega), put1_idle hz]
    show upd (ticked S 0).on 0 (first (ticked S 0) 0) 0 = _
    exact upd_same _ _ _
  rw [hon] at a b ⊢
  have ha : asks (ticked S 0) 0 t = true := by
    obtain ⟨q1, q2, q3, q4, q5, q6, q7⟩ := hold t h1 h2
    exact asks_iff.2 ⟨waits_plain q3 q5, by unfold may; rw [q4]; rfl, place_empty hall h1⟩
  have hb := (firstTo_best (ticked S 0) 0 17 (by show first (ticked S 0) 0 ≠ 0; omega) t h1 (by omega) ha).1
  have hb2 := prec_not.1 hb
  have k0 : ∀ x, 1 ≤ x → x ≤ m → rk0 ((ticked S 0).T x) = -1 ∧ rk1 ((ticked S 0).T x) = upd V (S.on 0) (V (S.on 0) + costOf (W (S.on 0))) x := by
    intro x x1 x2
    obtain ⟨q1, q2, q3, q4, q5, q6, q7⟩ := hold x x1 x2
    have e : asC ((ticked S 0).T x) = 1 := by unfold asC; rw [if_pos q2]; exact q1
    unfold rk0 rk1
    rw [e, if_neg (by decide), if_neg (by decide), if_neg (by decide), if_neg (by decide)]
    exact ⟨rfl, q7⟩
  obtain ⟨r1, r2⟩ := k0 t h1 h2
  obtain ⟨r3, r4⟩ := k0 (first (ticked S 0) 0) a b
  rw [r1, r2] at hb2
  have r3' : rk0 ((ticked S 0).T (firstTo (ticked S 0) 0 17)) = -1 := r3
  have r4' : rk1 ((ticked S 0).T (firstTo (ticked S 0) 0 17)) = upd V (S.on 0) (V (S.on 0) + costOf (W (S.on 0))) (first (ticked S 0) 0) := r4
  rw [r3', r4'] at hb2
  omega
/-- No two are further apart than what a tick costs at most. -/
theorem Shares.near (h : Shares S m W V) (hm : 1 ≤ m) (hm2 : m ≤ 16) {most : Int} (hc : ∀ t, 1 ≤ t → t ≤ m → 0 ≤ costOf (W t) ∧ costOf (W t) ≤ most) (hn : ∀ i j, 1 ≤ i → i ≤ m → 1 ≤ j → j ≤ m → V i - V j ≤ most) :
    ∀ i j, 1 ≤ i → i ≤ m → 1 ≤ j → j ≤ m → upd V (S.on 0) (V (S.on 0) + costOf (W (S.on 0))) i - upd V (S.on 0) (V (S.on 0) + costOf (W (S.on 0))) j ≤ most := by
  intro i j i1 i2 j1 j2
  obtain ⟨o1, o2, o3⟩ := h.run j j1 j2
  have hcu := hc (S.on 0) o1 o2
  have hij := hn i j i1 i2 j1 j2
  unfold upd
  by_cases e1 : i = S.on 0
  · rw [if_pos e1]
    by_cases e2 : j = S.on 0
    · rw [if_pos e2]; omega
    · rw [if_neg e2]; omega
  · rw [if_neg e1]
    by_cases e2 : j = S.on 0
    · rw [if_pos e2]
      rw [e2] at hij; omega
    · rw [if_neg e2]; exact hij
end
end Go.Proofs.Ytddfdnhlghmapaa.Sp
