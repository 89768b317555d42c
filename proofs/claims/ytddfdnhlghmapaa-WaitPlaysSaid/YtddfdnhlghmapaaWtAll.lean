/- The law WaitPlays: a queue, and what the law keeps beside it: two lists, looks by number, how many events. -/
import Derived.Test.YtddfdnhlghmapaaWtWakes
import Derived.Test.YtddfdnhlghmapaaWithout
import Derived.Test.YtddfdnhlghmapaaNumAt
import Derived.Test.YtddfdnhlghmapaaAt
namespace Go.Proofs.Ytddfdnhlghmapaa.Wt
open Go.ChangeShapes Go.WideShapes Go.ChangeAt Go.RowKit Go.Maps
open Go.Proofs.Ytddfdnhlghmapaa.Of
set_option linter.unusedVariables false

/-- The queue (p, its row V, who waits S, looks G), the lists L and A in rows vl and va, the map b that tells F. -/
structure All (w0 w : World) (p : Nat) (V : Value) (S : Line) (G : Looks) (vl : Value) (L : List Int) (va : Value) (A : List Int) (b c : Nat) (F : Int → Int) : Prop where
  mine : Mine w0 w p V S G
  l : Ints w w0.heap.size vl L
  a : Ints w w0.heap.size va A
  apart : ∀ g, vl.ownBlock = some g → va.ownBlock ≠ some g
  m : NumsAt w b c F
  mo : w0.heap.size ≤ b

theorem nums_block_map {w : World} {b n : Nat} {f : Int → Int} (h : NumsAt w b n f) : ∃ es c, w.heap[b]? = some (.map es c) := by
  obtain ⟨D, ⟨es, clock, h1, h2⟩, h3⟩ := h
  exact ⟨es, clock, h1⟩

section
variable {w0 w w1 w2 : World} {p : Nat} {V V' : Value} {S S' : Line} {G G' : Looks} {vl va v' : Value} {L A L' : List Int} {b c : Nat} {F F' : Int → Int}
theorem All.below (h : All w0 w p V S G vl L va A b c F) : Below w0.heap.size w0 w := h.mine.below
theorem All.quiet (h : All w0 w p V S G vl L va A b c F) (hO : Only (fun _ => False) w w1) : All w0 w1 p V S G vl L va A b c F :=
  ⟨h.mine.quiet hO, h.l.later hO, h.a.later hO, h.apart, h.m.later hO, h.mo⟩
theorem All.map_foot (h : All w0 w p V S G vl L va A b c F) : ¬ Foot p V b := by
  obtain ⟨es, k, q⟩ := nums_block_map h.m
  rintro (e | e)
  · obtain ⟨cs, h1, -⟩ := h.mine.at_.block
    rw [e, h1] at q; cases q
  · obtain ⟨cur, q2⟩ := h.mine.at_.row.type e
    rw [q2] at q; cases q
theorem All.map_l (h : All w0 w p V S G vl L va A b c F) : vl.ownBlock ≠ some b := by
  obtain ⟨es, k, q⟩ := nums_block_map h.m
  intro e
  obtain ⟨cur, q2⟩ := owns_type h.l e
  rw [q2] at q; cases q
theorem All.map_a (h : All w0 w p V S G vl L va A b c F) : va.ownBlock ≠ some b := by
  obtain ⟨es, k, q⟩ := nums_block_map h.m
  intro e
  obtain ⟨cur, q2⟩ := owns_type h.a e
  rw [q2] at q; cases q
/-- The queue has changed. -/
theorem All.q (h : All w0 w p V S G vl L va A b c F) (hq : QAt w1 p V' S' G') (hs : Step p V V' w w1) (hf : Fine S') : All w0 w1 p V' S' G' vl L va A b c F :=
  ⟨h.mine.step hq hs hf, ints_beside h.mine.at_ h.l hs, ints_beside h.mine.at_ h.a hs, h.apart, h.m.keep hs.only h.map_foot, h.mo⟩
/-- The first list has changed in its block, or lies in a new one. -/
theorem All.setl (h : All w0 w p V S G vl L va A b c F) (hr : Ints w1 w0.heap.size v' L') (hO : Only (fun k => vl.ownBlock = some k) w w1) (hb : ∀ k, v'.ownBlock = some k → vl.ownBlock = some k ∨ w.heap.size ≤ k) : All w0 w1 p V S G v' L' va A b c F := by
  refine ⟨h.mine.beside hO (fun k hk e => not_foot h.mine.at_ h.l e hk) (fun k e => (h.l.block e).1), hr, h.a.keep hO (fun g hg e => h.apart g e hg), fun g hg e => ?_, h.m.keep hO h.map_l, h.mo⟩
  rcases hb g hg with e2 | e2
  · exact h.apart g e2 e
  · have := (h.a.block e).2
    omega
theorem All.seta (h : All w0 w p V S G vl L va A b c F) (hr : Ints w1 w0.heap.size v' L') (hO : Only (fun k => va.ownBlock = some k) w w1) (hb : ∀ k, v'.ownBlock = some k → va.ownBlock = some k ∨ w.heap.size ≤ k) : All w0 w1 p V S G vl L v' L' b c F := by
  refine ⟨h.mine.beside hO (fun k hk e => not_foot h.mine.at_ h.a e hk) (fun k e => (h.a.block e).1), h.l.keep hO (fun g hg e => h.apart g hg e), hr, fun g hg e => ?_, h.m.keep hO h.map_a, h.mo⟩
  rcases hb g e with e2 | e2
  · exact h.apart g hg e2
  · have := (h.l.block hg).2
    omega
/-- A new list in place of the first. -/
theorem All.newl (h : All w0 w p V S G vl L va A b c F) (hr : Ints w1 w.heap.size v' L') (hO : Only (fun _ => False) w w1) : All w0 w1 p V S G v' L' va A b c F := by
  have h1 := h.quiet hO
  refine ⟨h1.mine, hr.base h.mine.only.size, h1.a, fun g hg e => ?_, h1.m, h1.mo⟩
  have := (hr.block hg).1
  have := (h.a.block e).2
  omega
theorem All.newa (h : All w0 w p V S G vl L va A b c F) (hr : Ints w1 w.heap.size v' L') (hO : Only (fun _ => False) w w1) : All w0 w1 p V S G vl L v' L' b c F := by
  have h1 := h.quiet hO
  refine ⟨h1.mine, h1.l, hr.base h.mine.only.size, fun g hg e => ?_, h1.m, h1.mo⟩
  have := (hr.block e).1
  have := (h.l.block hg).2
  omega
/-- The map has changed. -/
theorem All.setm (h : All w0 w p V S G vl L va A b c F) {c' : Nat} (hm : NumsAt w1 b c' F') (hO : Only (· = b) w w1) : All w0 w1 p V S G vl L va A b c' F' :=
  ⟨h.mine.beside hO (fun k hk e => h.map_foot (by rw [← e]; exact hk)) (fun k e => by rw [e]; exact h.mo), h.l.keep hO (fun g hg e => h.map_l (by rw [← e]; exact hg)), h.a.keep hO (fun g hg e => h.map_a (by rw [← e]; exact hg)), h.apart, hm, h.mo⟩
/-- A row beside: of numbers, in blocks newer than the lists'. -/
structure Beside (w0 w : World) (p : Nat) (V : Value) (vl va : Value) (b : Nat) (v : Value) (X : List Int) : Prop where
  row : Ints w w0.heap.size v X
  nl : ∀ g, v.ownBlock = some g → vl.ownBlock ≠ some g
  na : ∀ g, v.ownBlock = some g → va.ownBlock ≠ some g
  nm : v.ownBlock ≠ some b
end

/-- What ties the law's looks and events to the queue's looks. -/
structure Link (G : Looks) (F : Int → Int) (k : Int) : Prop where
  one : 1 ≤ k
  low : ∀ t, 0 ≤ F t ∧ F t ≤ k
  none : ∀ t, ¬ (1 ≤ t ∧ t ≤ 16) → F t = 0
  look : ∀ t : Nat, 1 ≤ t → t ≤ 16 → G t = if F t = 0 then 0 else if F t = k then 1 else 2

theorem Link.start : Link noG (fun _ => 0) 1 := ⟨Int.le_refl _, fun _ => ⟨Int.le_refl _, by omega⟩, fun _ _ => rfl, fun _ _ _ => rfl⟩
theorem Link.event {G : Looks} {F : Int → Int} {k : Int} (h : Link G F k) : Link (spoilt G) F (k + 1) := by
  refine ⟨by have := h.one; omega, fun t => ⟨(h.low t).1, by have := (h.low t).2; omega⟩, h.none, fun t h1 h2 => ?_⟩
  unfold spoilt
  rw [h.look t h1 h2]
  have := h.low t
  by_cases e : F t = 0
  · rw [if_pos e, if_neg (by decide), if_pos e]
  · rw [if_neg e, if_neg e, if_neg (show ¬ F t = k + 1 by omega)]
    by_cases e2 : F t = k
    · rw [if_pos e2, if_pos rfl]
    · rw [if_neg e2, if_neg (by decide)]
theorem Link.looks {G : Looks} {F : Int → Int} {k : Int} (h : Link G F k) {u : Nat} (hu : 1 ≤ u ∧ u ≤ 16) : Link (upd G u 1) (updN F u k) k := by
  refine ⟨h.one, fun t => ?_, fun t ht => ?_, fun t h1 h2 => ?_⟩
  · unfold updN; split
    · have := h.one; omega
    · exact h.low t
  · unfold updN; rw [if_neg (by omega)]; exact h.none t ht
  · have h1k := h.one
    by_cases e : t = u
    · have e1 : upd G u 1 t = 1 := by rw [e]; exact upd_same _ _ _
      have e2 : updN F u k t = k := by unfold updN; exact if_pos (by omega)
      rw [e1, e2, if_neg (by omega), if_pos rfl]
    · have e1 : upd G u 1 t = G t := upd_other _ _ e
      have e2 : updN F u k t = F t := by unfold updN; exact if_neg (by omega)
      rw [e1, e2]; exact h.look t h1 h2
theorem Link.ends {G : Looks} {F : Int → Int} {k : Int} (h : Link G F k) {u : Nat} (hu : 1 ≤ u ∧ u ≤ 16) : Link (upd G u 0) (updN F u 0) k := by
  refine ⟨h.one, fun t => ?_, fun t ht => ?_, fun t h1 h2 => ?_⟩
  · unfold updN; split
    · have := h.one; omega
    · exact h.low t
  · unfold updN; rw [if_neg (by omega)]; exact h.none t ht
  · by_cases e : t = u
    · have e1 : upd G u 0 t = 0 := by rw [e]; exact upd_same _ _ _
      have e2 : updN F u 0 t = 0 := by unfold updN; exact if_pos (by omega)
      rw [e1, e2, if_pos rfl]
    · have e1 : upd G u 0 t = G t := upd_other _ _ e
      have e2 : updN F u 0 t = F t := by unfold updN; exact if_neg (by omega)
      rw [e1, e2]; exact h.look t h1 h2

/-- The lists without one. -/
theorem ids_gone (S : Line) (t : Int) : ids (gone S t) = notOne (ids S) t := by
  unfold ids gone notOne
  rw [List.filter_map]; rfl
theorem lone_gone (S : Line) (t : Int) : ids (lone (gone S t)) = notOne (ids (lone S)) t := by
  unfold ids gone notOne lone
  rw [List.filter_map, List.filter_filter, List.filter_filter]
  congr 1
  apply List.filter_congr
  intro x _
  simp [Bool.and_comm]
/-- .. and without some, one after the other. -/
def less (xs : List Int) : List Int → List Int
  | [] => xs
  | t :: r => less (notOne xs t) r
theorem less_snoc (xs W : List Int) (t : Int) : less xs (W ++ [t]) = notOne (less xs W) t := by
  induction W generalizing xs with
  | nil => rfl
  | cons a r ih => exact ih _
theorem less_is (xs W : List Int) : less xs W = xs.filter fun x => !decide (x ∈ W) := by
  induction W generalizing xs with
  | nil => unfold less; exact (List.filter_eq_self.2 (fun x _ => by simp)).symm
  | cons a r ih =>
    show less (notOne xs a) r = _
    rw [ih]
    unfold notOne
    rw [List.filter_filter]
    apply List.filter_congr
    intro x _
    by_cases e : x = a <;> simp [e]
/-- Whoever is woken is gone of the line, and nobody else. -/
theorem wk_split {S : Line} (hf : Fine S) (n : Int) (k : Nat) (hk : k ≤ S.length) : (∀ t ∈ (wk S n k).1, t ∈ ids (S.take k)) ∧ (wk S n k).2.1 = (S.take k).filter fun x => !decide (x.1 ∈ (wk S n k).1) := by
  induction k with
  | zero => exact ⟨(fun t h => by cases h), rfl⟩
  | succ k ih =>
    obtain ⟨i1, i2⟩ := ih (by omega)
    obtain ⟨x, hx⟩ : ∃ x, S.getD k (0, false) = x := ⟨_, rfl⟩
    obtain ⟨W, R, m, h⟩ : ∃ W R m, wk S n k = (W, R, m) := ⟨_, _, _, rfl⟩
    have ht : S.take (k + 1) = S.take k ++ [x] := by
      rw [List.take_succ_eq_append_getElem (by omega)]
      simp [← hx, List.getD, show k < S.length by omega]
    have hnew : x.1 ∉ ids (S.take k) := by
      have := (hf.sub (List.take_sublist (k + 1) S)).nodup
      rw [ht, ids_snoc, List.nodup_append] at this
      exact fun e => this.2.2 x.1 e x.1 (List.mem_singleton.2 rfl) rfl
    rw [h] at i1 i2
    simp only at i1 i2
    rw [ht]
    have goes : (∀ t ∈ W ++ [x.1], t ∈ ids (S.take k ++ [x])) ∧ R = (S.take k ++ [x]).filter fun y => !decide (y.1 ∈ W ++ [x.1]) := by
      refine ⟨fun t ht => ?_, ?_⟩
      · rw [ids_snoc, List.mem_append]
        exact (List.mem_append.1 ht).imp (i1 t) id
      · rw [List.filter_append, i2]
        have e1 : [x].filter (fun y => !decide (y.1 ∈ W ++ [x.1])) = [] := by simp
        rw [e1, List.append_nil]
        apply List.filter_congr
        intro y hy
        have hne : y.1 ≠ x.1 := fun e => hnew (by rw [← e]; exact List.mem_map.2 ⟨y, hy, rfl⟩)
        simp [hne]
    cases ho : x.2 with
    | false => rw [wk_open h hx ho]; exact goes
    | true =>
      by_cases hm : 0 < m
      · rw [wk_goes h hx ho hm]; exact goes
      · rw [wk_stays h hx ho hm]
        refine ⟨fun t ht => ?_, ?_⟩
        · rw [ids_snoc, List.mem_append]
          exact Or.inl (i1 t ht)
        · show R ++ [x] = _
          rw [List.filter_append, ← i2]
          have e1 : [x].filter (fun y => !decide (y.1 ∈ W)) = [x] := by
            have : x.1 ∉ W := fun e => hnew (i1 _ e)
            simp [this]
          rw [e1]
theorem stay_is {S : Line} (hf : Fine S) (n : Int) : stay S n = S.filter fun x => !decide (x.1 ∈ woken S n) := by
  have := (wk_split hf n S.length (Nat.le_refl _)).2
  rwa [List.take_length] at this
theorem ids_stay {S : Line} (hf : Fine S) (n : Int) : ids (stay S n) = less (ids S) (woken S n) := by
  rw [less_is, stay_is hf]
  unfold ids
  rw [List.filter_map]; rfl
theorem lone_stay {S : Line} (hf : Fine S) (n : Int) : ids (lone (stay S n)) = less (ids (lone S)) (woken S n) := by
  rw [less_is, stay_is hf]
  unfold ids lone
  rw [List.filter_map, List.filter_filter, List.filter_filter]
  congr 1
  apply List.filter_congr
  intro x _
  simp [Bool.and_comm]
theorem mem_lone {S : Line} (hf : Fine S) {k : Nat} (hk : k < S.length) {x : Int × Bool} (hx : S.getD k (0, false) = x) : decide (x.1 ∈ ids (lone S)) = x.2 := by
  have e : S[k] = x := by simpa [List.getD, hk] using hx
  have hm : x ∈ S := by rw [← e]; exact List.getElem_mem hk
  cases ho : x.2 with
  | true => exact decide_eq_true (List.mem_map.2 ⟨x, List.mem_filter.2 ⟨hm, ho⟩, rfl⟩)
  | false =>
    refine decide_eq_false fun h => ?_
    obtain ⟨y, hy, he⟩ := List.mem_map.1 h
    obtain ⟨y1, y2⟩ := List.mem_filter.1 hy
    obtain ⟨j, hj, rfl⟩ := List.getElem_of_mem y1
    have hnd := hf.nodup
    have e2 : (ids S)[j]'(by rw [ids_len]; exact hj) = (ids S)[k]'(by rw [ids_len]; exact hk) := by simp [ids, he, e]
    have := (List.getElem_inj hnd).1 e2
    subst this
    rw [e] at y2
    rw [ho] at y2
    cases y2
end Go.Proofs.Ytddfdnhlghmapaa.Wt
