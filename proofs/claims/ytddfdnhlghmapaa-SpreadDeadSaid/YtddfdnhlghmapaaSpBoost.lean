/- The law SpreadBoost. -/
import Derived.Test.YtddfdnhlghmapaaSpFlat
namespace Go.Proofs.Ytddfdnhlghmapaa.Sp
open Go.ChangeShapes Go.WideShapes Go.ChangeAt Go.RowKit Go.Maps
open Go.Proofs.Ytddfdnhlghmapaa.Vt
set_option linter.unusedVariables false

section
variable {S : St}
theorem Runs.came (h : Runs S) {k : Nat} (h1 : 1 ≤ k) {c v tm : Int} (hc : c ≠ 0) (hn : S.T k = noTk) : Runs { S with T := upd S.T k (cameTk S c v tm), g := S.g + 1 } :=
  (h.set (x := cameTk S c v tm) h1 (fun i hi e => by
    have := h.live i hi (by omega)
    rw [e, hn] at this
    exact absurd rfl this.2.1) (fun _ => hc)).set_g _
theorem runs_no {n : Nat} (h4 : n ≤ 4) : Runs (noS n) := ⟨fun c _ h => absurd rfl h, fun c d _ _ h => absurd rfl h, fun t _ h => (by cases h), rfl, fun c _ => Nat.zero_le _, h4⟩
/-- The tasks 1 to k have come, and nothing else. -/
structure Grown (S : St) (k : Nat) (Q : Nat → Tk → Prop) : Prop where
  runs : Runs S
  old : ∀ t, 1 ≤ t → t ≤ k → Q t (S.T t)
  new : ∀ t, k < t → t < 17 → S.T t = noTk
theorem Grown.start {n : Nat} (h4 : n ≤ 4) (Q : Nat → Tk → Prop) : Grown (noS n) 0 Q := ⟨runs_no h4, fun t h1 h2 => by omega, fun t _ _ => rfl⟩
theorem Grown.more {k : Nat} {Q : Nat → Tk → Prop} (h : Grown S k Q) (hk : k < 16) {c v : Int} (hv : kindOk c v = true) (hQ : ∀ tm, (tm = 0 ∨ (c = 1 ∧ ∃ f, f < 17 ∧ tm = (S.T f).t)) → Q (k + 1) (cameTk S c v tm)) :
    addE S ((k + 1 : Nat) : Int) c v = 0 ∧ Grown (addS S ((k + 1 : Nat) : Int) c v) (k + 1) Q ∧ Full (addS S ((k + 1 : Nat) : Int) c v) ∧ (addS S ((k + 1 : Nat) : Int) c v).n = S.n := by
  have hn := h.new (k + 1) (by omega) (by omega)
  obtain ⟨tm, e1, e2, e3⟩ := add_is (k := k + 1) (by omega) (by omega) hv hn
  have hc : c ≠ 0 := fun e => by have := of_decide_eq_true hv; omega
  have hr := h.runs.came (k := k + 1) (v := v) (tm := tm) (by omega) hc hn
  rw [e3]
  refine ⟨e2, ⟨hr.fill, fun t h1 h2 => ?_, fun t h1 h2 => ?_⟩, hr.full, fill_n _⟩
  · rw [fill_T]
    show Q t (upd S.T (k + 1) _ t)
    by_cases e : t = k + 1
    · subst e; rw [upd_same]; exact hQ tm e1
    · rw [upd_other _ _ e]; exact h.old t h1 (by omega)
  · rw [fill_T]
    show upd S.T (k + 1) _ t = noTk
    rw [upd_other _ _ (by omega)]; exact h.new t (by omega) h2

/-- Where one processor is somebody runs if anybody asks. -/
structure Boosted (S : St) (u : Nat) : Prop where
  n : S.n = 1
  runs : Runs S
  full : Full S
  plain : Plain S
  u1 : 1 ≤ u
  u2 : u < 17
  tk : (S.T u).c = 1 ∧ (S.T u).bc = 2 ∧ (S.T u).r = true ∧ (S.T u).m = 1
  oth : ∀ t, t < 17 → t ≠ u → (S.T t).bc = 0 ∧ ((S.T t).c = 1 ∨ (S.T t).c = 0)
theorem waits_plain {x : Tk} (hr : x.r = true) (ho : x.ro = false) : waits x = true := by unfold waits; rw [hr, ho]; rfl
theorem on_one (h : Runs S) (hn : S.n = 1) {c : Nat} (hc : c < 4) (h1 : 1 ≤ c) : S.on c = 0 := by
  apply Decidable.byContradiction
  intro e
  have := (h.live c hc e).1
  omega
theorem place_empty {u : Nat} (h0 : ∀ c, c < 4 → S.on c = 0) (hu : 1 ≤ u) : place S u = none := place_none fun j hj => by rw [h0 j hj]; omega
theorem Boosted.busy {u : Nat} (h : Boosted S u) : S.on 0 ≠ 0 := fun e => by
  have := h.full 0 (by rw [h.n]; omega) e u h.u2
  have ha : asks S 0 u = true := asks_iff.2 ⟨waits_plain h.tk.2.2.1 (h.plain u h.u2).2, by unfold may; rw [h.tk.2.2.2]; rfl, place_empty (fun c hc => by
    by_cases e2 : c = 0
    · rw [e2]; exact e
    · exact on_one h.runs h.n hc (by omega)) h.u1⟩
  rw [ha] at this; cases this
theorem Boosted.tick {u : Nat} (h : Boosted S u) : Boosted (tick S 0) u ∧ (tick S 0).on 0 = u := by
  have ho := h.busy
  have ho2 := h.runs.on 0 (by omega)
  rw [tick_plain h.plain ho (by omega)]
  obtain ⟨o, hoo⟩ : ∃ o, S.on 0 = o := ⟨_, rfl⟩
  have hlv := h.runs.live 0 (by omega) ho
  -- what a tick leaves of each task
  have core : ∀ t, t < 17 → ((ticked S 0).T t).c = (S.T t).c ∧ ((ticked S 0).T t).bc = (S.T t).bc ∧ ((ticked S 0).T t).r = (S.T t).r ∧ ((ticked S 0).T t).m = (S.T t).m ∧ ((ticked S 0).T t).ro = (S.T t).ro := by
    intro t ht
    show (upd S.T (S.on 0) { charged (S.T (S.on 0)) with s := S.g + 1 } t).c = _ ∧ (upd S.T (S.on 0) { charged (S.T (S.on 0)) with s := S.g + 1 } t).bc = _ ∧ (upd S.T (S.on 0) { charged (S.T (S.on 0)) with s := S.g + 1 } t).r = _ ∧ (upd S.T (S.on 0) { charged (S.T (S.on 0)) with s := S.g + 1 } t).m = _ ∧ (upd S.T (S.on 0) { charged (S.T (S.on 0)) with s := S.g + 1 } t).ro = _
    unfold upd; split
    · next e =>
      subst e
      rw [charged_plain (h.plain _ (by omega)).1]
      split <;> exact ⟨rfl, rfl, rfl, rfl, rfl⟩
    · exact ⟨rfl, rfl, rfl, rfl, rfl⟩
  have hr1 : Runs (ticked S 0) := by
    have h1 := (h.runs.set_on 0).set (t := S.on 0) (by omega) (x := { charged (S.T (S.on 0)) with s := S.g + 1 }) (fun c hc e => by
      have e2 : upd S.on 0 0 c = S.on 0 := e
      by_cases e3 : c = 0
      · rw [e3, upd_same] at e2; exact absurd e2.symm ho
      · rw [upd_other _ _ e3, on_one h.runs h.n hc (by omega)] at e2; exact absurd e2.symm ho) (fun _ => by
        show (charged (S.T (S.on 0))).c ≠ 0
        rw [(charged_ro (h.plain _ (by omega)).1).2]; exact hlv.2.1)
    exact ⟨h1.live, h1.uniq, h1.rc, h1.z, h1.on, h1.n4⟩
  have hz : (ticked S 0).on 0 = 0 := show upd S.on 0 0 0 = 0 from upd_same _ _ _
  have hn : (ticked S 0).n = 1 := h.n
  have hall : ∀ c, c < 4 → (ticked S 0).on c = 0 := fun c hc => by
    by_cases e : c = 0
    · rw [e]; exact hz
    · exact on_one hr1 hn hc (by omega)
  have hfu : first (ticked S 0) 0 = u := by
    refine first_is h.u1 h.u2 (asks_iff.2 ⟨waits_plain (by rw [(core u h.u2).2.2.1]; exact h.tk.2.2.1) (by rw [(core u h.u2).2.2.2.2]; exact (h.plain u h.u2).2), by unfold may; rw [(core u h.u2).2.2.2.1, h.tk.2.2.2]; rfl, place_empty hall h.u1⟩) (fun t h1 h2 hne _ => ?_)
    have e1 : rk0 ((ticked S 0).T u) = -2 := by
      unfold rk0 asC
      rw [(core u h.u2).2.1, h.tk.2.1]; rfl
    have e2 : rk0 ((ticked S 0).T t) = -1 := by
      obtain ⟨o1, o2⟩ := h.oth t h2 hne
      unfold rk0 asC
      rw [(core t h2).2.1, o1, if_pos rfl, (core t h2).1]
      rcases o2 with o2 | o2 <;> rw [o2] <;> rfl
    exact prec_iff.2 (by omega)
  rw [fill_one (c := 0) (by rw [hn]; omega) (fun d hd hd0 => by rw [hn] at hd; omega), put1_idle hz, hfu]
  have hr2 : Runs { ticked S 0 with on := upd (ticked S 0).on 0 u } := by
    have := hr1.put1 (c := 0) (by rw [hn]; omega)
    rw [put1_idle hz, hfu] at this
    exact this
  refine ⟨⟨h.n, hr2, ?_, fun t ht => ?_, h.u1, h.u2, ?_, fun t ht hne => ?_⟩, show upd (ticked S 0).on 0 u 0 = u from upd_same _ _ _⟩
  · intro c hc h0 t ht
    have hc1 : c < 1 := by have hc2 : c < S.n := hc; rw [h.n] at hc2; exact hc2
    have : c = 0 := by omega
    subst this
    have h00 : upd (ticked S 0).on 0 u 0 = 0 := h0
    rw [upd_same] at h00
    have := h.u1; omega
  · show ((ticked S 0).T t).c ≠ 3 ∧ ((ticked S 0).T t).ro = false
    rw [(core t ht).1, (core t ht).2.2.2.2]; exact h.plain t ht
  · show ((ticked S 0).T u).c = 1 ∧ ((ticked S 0).T u).bc = 2 ∧ ((ticked S 0).T u).r = true ∧ ((ticked S 0).T u).m = 1
    obtain ⟨a, b, c, d, e⟩ := core u h.u2
    rw [a, b, c, d]; exact h.tk
  · show ((ticked S 0).T t).bc = 0 ∧ (((ticked S 0).T t).c = 1 ∨ ((ticked S 0).T t).c = 0)
    obtain ⟨a, b, c, d, e⟩ := core t ht
    rw [a, b]; exact h.oth t ht hne

/-- A task of fair shares as it came. -/
def Ten (t : Nat) (x : Tk) : Prop := x.c = 1 ∧ x.bc = 0 ∧ x.r = true ∧ x.m = 1 ∧ x.ro = false
theorem boost_start {k u : Nat} (h : Grown S k Ten) (hf : Full S) (hn : S.n = 1) (h1 : 1 ≤ u) (h2 : u ≤ k) (hk : k ≤ 16) : boostE S u 2 7 = 0 ∧ Boosted (boostS S u 2 7) u := by
  have hQ := h.old u h1 h2
  have ht : There S (u : Int) := nat_there h1 (by omega) (by rw [hQ.1]; decide)
  have e1 : boostE S u 2 7 = 0 := by unfold boostE; rw [if_pos (by decide), if_pos ht]
  have e2 : boostS S u 2 7 = fill { S with T := upd S.T u { S.T u with bc := 2, bv := 7 } } := by unfold boostS; rw [if_pos ⟨by decide, ht⟩, Int.toNat_natCast]
  have core : ∀ t, t < 17 → t ≠ 0 → t ≤ k → Ten t (S.T t) := fun t ht h0 hle => h.old t (by omega) hle
  have cls : ∀ t, t < 17 → (S.T t).c ≠ 3 ∧ (S.T t).ro = false ∧ (S.T t).bc = 0 ∧ ((S.T t).c = 1 ∨ (S.T t).c = 0) := fun t ht => by
    by_cases h0 : t = 0
    · subst h0; rw [h.runs.z]; exact ⟨by decide, rfl, rfl, Or.inr rfl⟩
    · by_cases hle : t ≤ k
      · obtain ⟨a, b, c, d, e⟩ := core t ht h0 hle
        exact ⟨by rw [a]; decide, e, b, Or.inl a⟩
      · rw [h.new t (by omega) ht]; exact ⟨by decide, rfl, rfl, Or.inr rfl⟩
  have hr : Runs { S with T := upd S.T u { S.T u with bc := 2, bv := 7 } } := h.runs.set h1 (fun c hc e => by
    have := h.runs.live c hc (by omega)
    rw [e] at this
    exact this.2) (h.runs.rc u (by omega))
  refine ⟨e1, ?_⟩
  rw [e2]
  refine ⟨(fill_n _).trans hn, hr.fill, hr.full, fun t ht => ?_, h1, by omega, ?_, fun t ht hne => ?_⟩
  · rw [fill_T]
    show (upd S.T u { S.T u with bc := 2, bv := 7 } t).c ≠ 3 ∧ (upd S.T u { S.T u with bc := 2, bv := 7 } t).ro = false
    unfold upd; split
    · exact ⟨(cls u (by omega)).1, (cls u (by omega)).2.1⟩
    · exact ⟨(cls t ht).1, (cls t ht).2.1⟩
  · rw [fill_T]
    show (upd S.T u { S.T u with bc := 2, bv := 7 } u).c = 1 ∧ (upd S.T u { S.T u with bc := 2, bv := 7 } u).bc = 2 ∧ (upd S.T u { S.T u with bc := 2, bv := 7 } u).r = true ∧ (upd S.T u { S.T u with bc := 2, bv := 7 } u).m = 1
    rw [upd_same]
    exact ⟨hQ.1, rfl, hQ.2.2.1, hQ.2.2.2.1⟩
  · rw [fill_T]
    show (upd S.T u { S.T u with bc := 2, bv := 7 } t).bc = 0 ∧ ((upd S.T u { S.T u with bc := 2, bv := 7 } t).c = 1 ∨ (upd S.T u { S.T u with bc := 2, bv := 7 } t).c = 0)
    rw [upd_other _ _ hne]
    exact (cls t ht).2.2
theorem boost_end {u : Nat} (h : Boosted S u) : calmE S u = 0 ∧ calmE (calmS S u) u = 8 := by
  have ht : There S (u : Int) := nat_there h.u1 (by have := h.u2; omega) (by rw [h.tk.1]; decide)
  have hb : ¬ (S.T u).bc = 0 := by rw [h.tk.2.1]; decide
  have hro := (h.plain u h.u2).2
  have e2 : calmS S u = fill { S with T := upd S.T u { S.T u with bc := 0, bv := 0 } } := by
    unfold calmS; rw [Int.toNat_natCast, if_pos ⟨ht, hb⟩]
    unfold calmed; rw [hro]; rfl
  constructor
  · unfold calmE; rw [Int.toNat_natCast, if_pos ht, if_neg hb]
  · have eT : (calmS S u).T u = { S.T u with bc := 0, bv := 0 } := by rw [e2, fill_T]; exact upd_same _ _ _
    have ht2 : There (calmS S u) (u : Int) := nat_there h.u1 (by have := h.u2; omega) (by rw [eT]; show (S.T u).c ≠ 0; rw [h.tk.1]; decide)
    unfold calmE; rw [Int.toNat_natCast, if_pos ht2, eT, if_pos rfl]
end

theorem cpu0 {S : St} (hn : 1 ≤ S.n) : isCpu S 0 = true := decide_eq_true (by omega)
theorem tick0 {S : St} (hn : 1 ≤ S.n) : tickE S 0 = 0 ∧ tickS S 0 = tick S 0 := by
  unfold tickE tickS; rw [if_pos (cpu0 hn), if_pos (cpu0 hn)]; exact ⟨rfl, rfl⟩
theorem pick0 {S : St} (hn : 1 ≤ S.n) (h : S.on 0 ≠ 0) : pickN S 0 = S.on 0 ∧ pickE S 0 = 0 := by
  unfold pickN pickE; rw [if_pos (cpu0 hn), if_pos (cpu0 hn)]
  exact ⟨rfl, if_neg h⟩
end Go.Proofs.Ytddfdnhlghmapaa.Sp
