/- The law SpreadFull: where all may run everywhere, as many run as are ready, or as there are processors. -/
import Derived.Test.YtddfdnhlghmapaaSpEff
import Derived.Test.YtddfdnhlghmapaaSpBoost
namespace Go.Proofs.Ytddfdnhlghmapaa.Sp
open Go.Proofs.Ytddfdnhlghmapaa.Vt Go.Proofs.Ytddfdnhlghmapaa.Ad
set_option linter.unusedVariables false

theorem full_no {n : Nat} : Full (noS n) := by
  intro c hc h0 t ht
  unfold asks
  rw [show waits ((noS n).T t) = false from rfl]; rfl

/-- The tasks 1 to n are there, none with a deadline, none boosted, and may run everywhere; who is ready: rd. -/
structure Fulls (S : St) (N n : Nat) (rd : Nat → Bool) : Prop where
  runs : Runs S
  full : Full S
  hn : S.n = N
  old : ∀ t, 1 ≤ t → t ≤ n → (S.T t).c ≠ 0 ∧ (S.T t).c ≠ 3 ∧ (S.T t).r = rd t ∧ (S.T t).m = 2 ^ N - 1
  new : ∀ t, n < t → t < 17 → (S.T t).c = 0 ∧ (S.T t).r = false

theorem core_is {x : Tk} {c : Int} {r : Bool} {m : Nat} {b : Int} (h : core x = (c, r, m, b)) : x.c = c ∧ x.r = r ∧ x.m = m ∧ x.bc = b := by
  unfold core at h
  simp only [Prod.mk.injEq] at h
  exact h
theorem core_eq {x y : Tk} (h : core x = core y) : x.c = y.c ∧ x.r = y.r ∧ x.m = y.m ∧ x.bc = y.bc := core_is (y := y) h |> fun q => q
where
  core_is {x y : Tk} (h : core x = core y) : x.c = y.c ∧ x.r = y.r ∧ x.m = y.m ∧ x.bc = y.bc := by
    unfold core at h
    simp only [Prod.mk.injEq] at h
    exact h

section
variable {S : St} {N n : Nat} {rd : Nat → Bool} {B : Int}
theorem Fulls.start (h4 : N ≤ 4) (rd : Nat → Bool) : Fulls (noS N) N 0 rd := ⟨runs_no h4, full_no, rfl, fun t h1 h2 => by omega, fun t _ _ => ⟨rfl, rfl⟩⟩
theorem Fulls.more (h : Fulls S N n rd) (hn : n < 16) {c v : Int} (hv : kindOk c v = true) (hr : rd (n + 1) = true) :
    addE S ((n : Int) + 1) c v = 0 ∧ Fulls (addS S ((n : Int) + 1) c v) N (n + 1) rd := by
  have hz := (h.new (n + 1) (by omega) (by omega)).1
  have he : addE S ((n : Int) + 1) c v = 0 := by
    unfold addE
    rw [if_pos ⟨decide_eq_true (by omega), hv⟩, if_neg (fun ht => ht.2.2 (by rw [show ((n : Int) + 1).toNat = n + 1 by omega]; exact hz))]
  have hc := of_decide_eq_true hv
  have e := add_eff h.runs he (k := n + 1) (by omega) (by omega) (by omega)
  refine ⟨he, e.runs, e.full, e.n.trans h.hn, fun t h1 h2 => ?_, fun t h1 h2 => ?_⟩
  · by_cases ht : t = n + 1
    · subst ht
      obtain ⟨a, b, d, _⟩ := core_is e.at_
      exact ⟨by rw [a]; omega, by rw [a]; omega, by rw [b, hr], by rw [d]; unfold all; rw [h.hn]⟩
    · obtain ⟨a, b, d, _⟩ := core_eq (e.oth t ht)
      rw [a, b, d]; exact h.old t h1 (by omega)
  · obtain ⟨a, b, d, _⟩ := core_eq (e.oth t (by omega))
    rw [a, b]; exact h.new t (by omega) h2
theorem Fulls.block (h : Fulls S N n rd) (hn : n ≤ 16) {k : Nat} (h1 : 1 ≤ k) (h2 : k ≤ n) :
    (blockE S (k : Int) = 0 ∧ Fulls (blockS S (k : Int)) N n (upd rd k false)) ∨ (blockE S (k : Int) = 8 ∧ Fulls (blockS S (k : Int)) N n rd) := by
  have hk := h.old k h1 h2
  have ht : There S (k : Int) := ⟨by omega, by omega, by rw [Int.toNat_natCast]; exact hk.1⟩
  by_cases hr : (S.T k).r = true
  · have he : blockE S (k : Int) = 0 := by unfold blockE; rw [if_pos ht, Int.toNat_natCast, if_pos hr]
    have e := block_eff h.runs he h1 (by omega)
    refine Or.inl ⟨he, e.runs, e.full, e.n.trans h.hn, fun t t1 t2 => ?_, fun t t1 t2 => ?_⟩
    · by_cases e2 : t = k
      · subst e2
        obtain ⟨a, b, d, _⟩ := core_is e.at_
        rw [a, b, d, upd_same]; exact ⟨hk.1, hk.2.1, rfl, hk.2.2.2⟩
      · obtain ⟨a, b, d, _⟩ := core_eq (e.oth t e2)
        rw [a, b, d, upd_other _ _ e2]; exact h.old t t1 t2
    · obtain ⟨a, b, d, _⟩ := core_eq (e.oth t (by omega))
      rw [a, b]; exact h.new t t1 t2
  · have he : blockE S (k : Int) = 8 := by unfold blockE; rw [if_pos ht, Int.toNat_natCast, if_neg hr]
    have e2 : blockS S (k : Int) = S := by unfold blockS; rw [Int.toNat_natCast, if_neg (fun q => hr q.2)]
    exact Or.inr ⟨he, by rw [e2]; exact h⟩
theorem Fulls.wake (h : Fulls S N n rd) (hn : n ≤ 16) {k : Nat} (h1 : 1 ≤ k) (h2 : k ≤ n) :
    (wakeE S (k : Int) = 0 ∧ Fulls (wakeS S (k : Int)) N n (upd rd k true)) ∨ (wakeE S (k : Int) = 8 ∧ Fulls (wakeS S (k : Int)) N n rd) := by
  have hk := h.old k h1 h2
  have ht : There S (k : Int) := ⟨by omega, by omega, by rw [Int.toNat_natCast]; exact hk.1⟩
  by_cases hr : (S.T k).r = true
  · have he : wakeE S (k : Int) = 8 := by unfold wakeE; rw [if_pos ht, Int.toNat_natCast, if_pos hr]
    have e2 : wakeS S (k : Int) = S := by unfold wakeS; rw [Int.toNat_natCast, if_neg (fun q => by rw [hr] at q; exact absurd q.2 (by decide))]
    exact Or.inr ⟨he, by rw [e2]; exact h⟩
  · have he : wakeE S (k : Int) = 0 := by unfold wakeE; rw [if_pos ht, Int.toNat_natCast, if_neg hr]
    have e := wake_eff h.runs he h1 (by omega)
    refine Or.inl ⟨he, e.runs, e.full, e.n.trans h.hn, fun t t1 t2 => ?_, fun t t1 t2 => ?_⟩
    · by_cases e2 : t = k
      · subst e2
        obtain ⟨a, b, d, _⟩ := core_is e.at_
        rw [a, b, d, upd_same]; exact ⟨hk.1, hk.2.1, rfl, hk.2.2.2⟩
      · obtain ⟨a, b, d, _⟩ := core_eq (e.oth t e2)
        rw [a, b, d, upd_other _ _ e2]; exact h.old t t1 t2
    · obtain ⟨a, b, d, _⟩ := core_eq (e.oth t (by omega))
      rw [a, b]; exact h.new t t1 t2
theorem Fulls.tick (h : Fulls S N n rd) (hn : n ≤ 16) (h4 : N ≤ 4) {c : Nat} (hc : c < N) : tickE S (c : Int) = 0 ∧ Fulls (tickS S (c : Int)) N n rd := by
  have hi : isCpu S (c : Int) = true := decide_eq_true (by rw [h.hn]; omega)
  have e1 : tickE S (c : Int) = 0 := by unfold tickE; rw [if_pos hi]
  have e2 : tickS S (c : Int) = Sp.tick S c := by unfold tickS; rw [if_pos hi, Int.toNat_natCast]
  obtain ⟨a, b, d, e⟩ := tick_eff h.runs (c := c) (by omega)
  rw [e2]
  refine ⟨e1, a, b, d.trans h.hn, fun t t1 t2 => ?_, fun t t1 t2 => ?_⟩
  · obtain ⟨x, y, z, _⟩ := core_eq (e t (by omega))
    rw [x, y, z]; exact h.old t t1 t2
  · obtain ⟨x, y, z, _⟩ := core_eq (e t t2)
    rw [x, y]; exact h.new t t1 t2

theorem Fulls.congr (h : Fulls S N n rd) {rd' : Nat → Bool} (he : ∀ t, 1 ≤ t → t ≤ n → rd t = rd' t) : Fulls S N n rd' :=
  ⟨h.runs, h.full, h.hn, fun t h1 h2 => by rw [← he t h1 h2]; exact h.old t h1 h2, h.new⟩
/-- How many run; how many are ready. -/
def busy (S : St) (k : Nat) : Nat := ((List.range k).filter fun c => decide (S.on c ≠ 0)).length
def readies (rd : Nat → Bool) (k : Nat) : Nat := ((List.range k).filter rd).length
theorem busy_succ (S : St) (k : Nat) : busy S (k + 1) = if S.on k = 0 then busy S k else busy S k + 1 := by
  unfold busy
  rw [List.range_succ, List.filter_append, List.length_append]
  by_cases e : S.on k = 0 <;> simp [e]
theorem readies_succ (rd : Nat → Bool) (k : Nat) : readies rd (k + 1) = if rd k = true then readies rd k + 1 else readies rd k := by
  unfold readies
  rw [List.range_succ, List.filter_append, List.length_append]
  cases e : rd k <;> simp [e]
theorem busy_le (S : St) (k : Nat) : busy S k ≤ k := by
  have := List.length_filter_le (fun c => decide (S.on c ≠ 0)) (List.range k)
  rwa [List.length_range] at this
theorem readies_le (rd : Nat → Bool) (k : Nat) : readies rd k ≤ k := by
  have := List.length_filter_le rd (List.range k)
  rwa [List.length_range] at this
theorem Fulls.count (h : Fulls S N n rd) (hok : Ok S B) (h4 : N ≤ 4) (hn : n ≤ 16) (h0 : rd 0 = false) : busy S N = min N (readies rd (n + 1)) := by
  have live : ∀ c, c < 4 → S.on c ≠ 0 → c < N ∧ 1 ≤ S.on c ∧ S.on c ≤ n ∧ rd (S.on c) = true := by
    intro c hc ho
    have hl := h.runs.live c hc ho
    have hle := h.runs.on c hc
    have hk : S.on c ≤ n := by
      apply Decidable.byContradiction
      intro e
      exact hl.2.1 (h.new (S.on c) (by omega) (by omega)).1
    exact ⟨by rw [← h.hn]; exact hl.1, by omega, hk, by rw [← (h.old (S.on c) (by omega) hk).2.2.1]; exact hl.2.2.1⟩
  have mem : ∀ t, t ∈ ((List.range N).filter fun c => decide (S.on c ≠ 0)).map S.on ↔ ∃ c, c < N ∧ S.on c ≠ 0 ∧ S.on c = t := by
    intro t
    rw [List.mem_map]
    constructor
    · rintro ⟨c, hc, rfl⟩
      rw [List.mem_filter, List.mem_range] at hc
      exact ⟨c, hc.1, of_decide_eq_true hc.2, rfl⟩
    · rintro ⟨c, h1, h2, rfl⟩
      exact ⟨c, List.mem_filter.2 ⟨List.mem_range.2 h1, decide_eq_true h2⟩, rfl⟩
  have hnd : (((List.range N).filter fun c => decide (S.on c ≠ 0)).map S.on).Nodup := by
    unfold List.Nodup
    rw [List.pairwise_map]
    have hr : ((List.range N).filter fun c => decide (S.on c ≠ 0)).Pairwise (· ≠ ·) := (List.nodup_range).filter _
    refine hr.imp_of_mem ?_
    intro a b ha hb hne e
    rw [List.mem_filter, List.mem_range] at ha hb
    exact hne (h.runs.uniq a b (by omega) (by omega) (of_decide_eq_true ha.2) e)
  have le1 : busy S N ≤ readies rd (n + 1) := by
    have := List.Nodup.length_le_of_subset hnd (l₂ := (List.range (n + 1)).filter rd) (fun t ht => by
      obtain ⟨c, c1, c2, rfl⟩ := (mem t).1 ht
      have hl := live c (by omega) c2
      exact List.mem_filter.2 ⟨List.mem_range.2 (by omega), hl.2.2.2⟩)
    rw [List.length_map] at this
    exact this
  by_cases hall : ∀ c, c < N → S.on c ≠ 0
  · have : busy S N = N := by
      unfold busy
      rw [List.filter_eq_self.2 (fun c hc => decide_eq_true (hall c (List.mem_range.1 hc))), List.length_range]
    omega
  · obtain ⟨c, hc⟩ := Classical.not_forall.1 hall
    obtain ⟨hc1, hc2⟩ := Classical.not_imp.1 hc
    have hc3 : S.on c = 0 := Classical.not_not.1 hc2
    have le2 : readies rd (n + 1) ≤ busy S N := by
      have := List.Nodup.length_le_of_subset ((List.nodup_range (n := n + 1)).filter rd) (l₂ := ((List.range N).filter fun c => decide (S.on c ≠ 0)).map S.on) (fun t ht => by
        rw [List.mem_filter, List.mem_range] at ht
        have ht0 : t ≠ 0 := fun e => by rw [e, h0] at ht; exact absurd ht.2 (by decide)
        obtain ⟨q1, q2, q3, q4⟩ := h.old t (by omega) (by omega)
        have hno := h.full c (by rw [h.hn]; exact hc1) hc3 t (by omega)
        have hro : (S.T t).ro = false := by
          cases e : (S.T t).ro with
          | false => rfl
          | true => exact absurd ((hok.tk t (by omega)).cls.2 e) q2
        have hw : waits (S.T t) = true := waits_plain (q3.trans ht.2) hro
        have hm : may (S.T t) c = true := decide_eq_true (by
          rw [q4]
          rcases (show N = 1 ∨ N = 2 ∨ N = 3 ∨ N = 4 by omega) with rfl | rfl | rfl | rfl <;> rcases (show c = 0 ∨ c = 1 ∨ c = 2 ∨ c = 3 by omega) with rfl | rfl | rfl | rfl <;> first | rfl | omega)
        rw [mem]
        cases hp : place S t with
        | none =>
          have := asks_iff.2 ⟨hw, hm, hp⟩
          rw [hno] at this
          cases this
        | some i =>
          have hi := place_is hp
          have hl := live i hi.1 (by rw [hi.2]; exact ht0)
          exact ⟨i, hl.1, by rw [hi.2]; exact ht0, hi.2⟩)
      rw [List.length_map] at this
      exact this
    have := busy_le S N
    omega
end
end Go.Proofs.Ytddfdnhlghmapaa.Sp
