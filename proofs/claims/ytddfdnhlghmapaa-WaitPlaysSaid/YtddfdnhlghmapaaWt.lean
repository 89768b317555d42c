/- Package wait's queue in memory: who waits (rows of a number and a flag), and the looks by number; and what its calls do, as functions. -/
import Derived.Test.YtddfdnhlghmapaaWtRow
import Derived.Test.YtddfdnhlghmapaaInts
import Derived.Test.YtddfdnhlghmapaaAppend
import Derived.IntWalk
namespace Go.Proofs.Ytddfdnhlghmapaa.Wt
open Go.ChangeShapes Go.WideShapes Go.ChangeAt Go.RowKit Go.Maps
set_option linter.unusedVariables false

abbrev Line := List (Int × Bool)
abbrev Looks := Nat → Int

theorem only_trans {a b c : World} (h : Only (fun _ => False) a b) (k : Only (fun _ => False) b c) : Only (fun _ => False) a c := h.trans k (fun _ _ h => h)

/-- A queue in block p: its row is V, who waits S, the looks G. -/
structure QAt (w : World) (p : Nat) (V : Value) (S : Line) (G : Looks) : Prop where
  block : ∃ cs, w.heap[p]? = some (.cells cs 78 (0, 0)) ∧ cs.size = 18 ∧ cs[0]? = some V ∧ ∀ i, i < 17 → cs[1 + i]? = some (.int .i64 (G i))
  row : RowAt w 0 V S

/-- The blocks of a queue. -/
def Foot (p : Nat) (V : Value) (k : Nat) : Prop := k = p ∨ V.ownBlock = some k

/-- What a call that changes a queue leaves: nothing else changes, and its blocks are the old ones or new ones. -/
structure Step (p : Nat) (V V' : Value) (w w' : World) : Prop where
  only : Only (Foot p V) w w'
  grow : ∀ k, Foot p V' k → Foot p V k ∨ w.heap.size ≤ k

/-- A function with another value at one place. -/
def upd {α : Type} (f : Nat → α) (k : Nat) (x : α) : Nat → α := fun j => if j = k then x else f j
theorem upd_same {α : Type} (f : Nat → α) (k : Nat) (x : α) : upd f k x k = x := by simp [upd]
theorem upd_other {α : Type} (f : Nat → α) {k j : Nat} (x : α) (h : j ≠ k) : upd f k x j = f j := by simp [upd, h]

section
variable {w w' : World} {p : Nat} {V : Value} {S : Line} {G : Looks}
theorem QAt.lt (h : QAt w p V S G) : p < w.heap.size := by obtain ⟨cs, h1, -⟩ := h.block; exact block_there h1
theorem QAt.cell0 (h : QAt w p V S G) : w.cell? ⟨p, 0, none⟩ = some V := by
  obtain ⟨cs, h1, -, h2, -⟩ := h.block
  rw [cell_at h1]; exact h2
theorem QAt.look (h : QAt w p V S G) {i : Nat} (hi : i < 17) : w.cell? ⟨p, 1 + i, none⟩ = some (.int .i64 (G i)) := by
  obtain ⟨cs, h1, -, -, h2⟩ := h.block
  rw [cell_at h1]; exact h2 i hi
theorem QAt.frozen (h : QAt w p V S G) (j : Nat) : w.frozen? ⟨p, j, none⟩ = false := by obtain ⟨cs, h1, -⟩ := h.block; exact frozen_at h1 j
theorem QAt.not_row (h : QAt w p V S G) : V.ownBlock ≠ some p := by
  intro e
  obtain ⟨cs, h1, -⟩ := h.block
  obtain ⟨cur, h2⟩ := h.row.type e
  rw [h1] at h2
  cases h2
theorem QAt.foot_lt (h : QAt w p V S G) {k : Nat} (hk : Foot p V k) : k < w.heap.size := by
  rcases hk with rfl | e
  · exact h.lt
  · exact (h.row.block e).2
theorem QAt.keep {N : Nat → Prop} (h : QAt w p V S G) (hO : Only N w w') (hN : ∀ k, Foot p V k → ¬ N k) : QAt w' p V S G := by
  obtain ⟨cs, h1, h2⟩ := h.block
  exact ⟨⟨cs, by rw [hO.block p h.lt (hN p (Or.inl rfl))]; exact h1, h2⟩, h.row.keep hO (fun g hg => hN g (Or.inr hg))⟩
theorem QAt.later (h : QAt w p V S G) (hO : Only (fun _ => False) w w') : QAt w' p V S G := h.keep hO (fun _ _ e => e)

theorem Step.refl (p : Nat) (V : Value) (w : World) : Step p V V w w := ⟨Only.refl _ w, fun _ h => Or.inl h⟩
theorem Step.later (hO : Only (fun _ => False) w w') : Step p V V w w' := ⟨hO.mono (fun _ _ e => e.elim), fun _ h => Or.inl h⟩
theorem Step.trans {V' V'' : Value} {a b c : World} (h : Step p V V' a b) (k : Step p V' V'' b c) : Step p V V'' a c := by
  refine ⟨h.only.trans k.only (fun x hx e => ?_), fun x hx => ?_⟩
  · rcases h.grow x e with e | e
    · exact e
    · omega
  · rcases k.grow x hx with e | e
    · exact h.grow x e
    · exact Or.inr (Nat.le_trans h.only.size e)

/-- Another row stored. -/
theorem QAt.row_set (h : QAt w p V S G) {V' : Value} {S' : Line} (hr : RowAt w' 0 V' S') (hO : Only (fun k => V.ownBlock = some k) w w') (hb : ∀ k, V'.ownBlock = some k → V.ownBlock = some k ∨ w.heap.size ≤ k) :
    QAt (w'.setCell ⟨p, 0, none⟩ V') p V' S' G ∧ Step p V V' w (w'.setCell ⟨p, 0, none⟩ V') := by
  obtain ⟨cs, h1, h2, h3, h4⟩ := h.block
  have hp : w'.heap[p]? = some (.cells cs 78 (0, 0)) := (hO.block p h.lt h.not_row).trans h1
  have hne : V'.ownBlock ≠ some p := by
    intro e
    rcases hb p e with e | e
    · exact h.not_row e
    · have := h.lt; omega
  refine ⟨⟨⟨_, heap_setCell_same w' p 0 cs _ _ hp, by simpa using h2, by simp [h2], fun i hi => ?_⟩, ?_⟩, ?_, fun k hk => ?_⟩
  · rw [Array.getElem?_setIfInBounds, if_neg (by omega)]; exact h4 i hi
  · refine hr.keep (N := (· = p)) ?_ (fun g hg e => hne (by rw [← e]; exact hg))
    exact Only.setCell (S := fun x => x = p) (Only.refl _ w') (p := ⟨p, 0, none⟩) rfl _
  · exact ((hO.mono (fun k _ e => Or.inr e)).trans ((Only.refl (Foot p V) w').setCell (p := ⟨p, 0, none⟩) (Or.inl rfl) V') (fun _ _ h => h))
  · rcases hk with rfl | e
    · exact Or.inl (Or.inl rfl)
    · exact (hb k e).imp Or.inr id

/-- A look told anew. -/
theorem QAt.look_set (h : QAt w p V S G) {i : Nat} (hi : i < 17) (x : Int) :
    QAt (w.setCell ⟨p, 1 + i, none⟩ (.int .i64 x)) p V S (upd G i x) ∧ Step p V V w (w.setCell ⟨p, 1 + i, none⟩ (.int .i64 x)) := by
  obtain ⟨cs, h1, h2, h3, h4⟩ := h.block
  refine ⟨⟨⟨_, heap_setCell_same w p _ cs _ _ h1, by simpa using h2, ?_, fun j hj => ?_⟩, ?_⟩, ?_, fun k hk => Or.inl hk⟩
  · rw [Array.getElem?_setIfInBounds, if_neg (by omega)]; exact h3
  · rw [Array.getElem?_setIfInBounds]
    by_cases e : j = i
    · subst e; rw [if_pos rfl, if_pos (by omega), upd_same]
    · rw [if_neg (by omega), upd_other _ _ e]; exact h4 j hj
  · refine h.row.keep (N := (· = p)) ?_ (fun g hg e => h.not_row (by rw [← e]; exact hg))
    exact Only.setCell (S := fun x => x = p) (Only.refl _ w) (p := ⟨p, 1 + i, none⟩) rfl _
  · exact (Only.refl (Foot p V) w).setCell (p := ⟨p, 1 + i, none⟩) (Or.inl rfl) _
end

/-- The numbers of who waits. -/
def ids (S : Line) : List Int := S.map Prod.fst
/-- Can there be such a task? -/
def isT (t : Int) : Bool := decide (1 ≤ t ∧ t ≤ 16)
/-- An event: who is woken, who stays, how many exclusive ones may go still; of the first k. -/
def wk (S : Line) (n : Int) : Nat → List Int × Line × Int
  | 0 => ([], [], n)
  | k + 1 =>
    let r := wk S n k
    let x := S.getD k (0, false)
    if x.2 = false then (r.1 ++ [x.1], r.2.1, r.2.2) else if 0 < r.2.2 then (r.1 ++ [x.1], r.2.1, r.2.2 - 1) else (r.1, r.2.1 ++ [x], r.2.2)
def woken (S : Line) (n : Int) : List Int := (wk S n S.length).1
def stay (S : Line) (n : Int) : Line := (wk S n S.length).2.1
/-- All looks spoilt. -/
def spoilt (G : Looks) : Looks := fun i => if G i = 1 then 2 else G i
def spoiltTo (G : Looks) (k : Nat) : Looks := fun i => if i < k then spoilt G i else G i

/-- What must be so of who waits. -/
structure Fine (S : Line) : Prop where
  nodup : (ids S).Nodup
  task : ∀ t ∈ ids S, 1 ≤ t ∧ t ≤ 16

theorem ids_len (S : Line) : (ids S).length = S.length := by simp [ids]
theorem ids_snoc (S : Line) (x : Int × Bool) : ids (S ++ [x]) = ids S ++ [x.1] := by simp [ids]
theorem ids_at (S : Line) {k : Nat} (hk : k < S.length) : (ids S).getD k 0 = (S.getD k (0, false)).1 := by simp [ids, List.getD, hk]

theorem nodup_len : ∀ (L : List Int), L.Nodup → (∀ t ∈ L, 1 ≤ t ∧ t ≤ 16) → L.length ≤ 16 := by
  intro L hn ht
  have h := List.Nodup.length_le_of_subset hn (l₂ := (List.range 16).map fun k => ((k : Nat) : Int) + 1) (fun t h => by
    have := ht t h
    exact List.mem_map.2 ⟨(t - 1).toNat, List.mem_range.2 (by omega), by omega⟩)
  simpa using h

theorem Fine.len {S : Line} (h : Fine S) : S.length ≤ 16 := by rw [← ids_len]; exact nodup_len _ h.nodup h.task
theorem fine_nil : Fine [] := ⟨List.nodup_nil, fun t h => by cases h⟩
theorem Fine.snoc {S : Line} (h : Fine S) {t : Int} (ht : 1 ≤ t ∧ t ≤ 16) (hn : t ∉ ids S) (a : Bool) : Fine (S ++ [(t, a)]) := by
  refine ⟨?_, fun x hx => ?_⟩
  · rw [ids_snoc, List.nodup_append]
    refine ⟨h.nodup, by simp, fun x hx y hy e => ?_⟩
    rw [List.mem_singleton.1 hy] at e
    have e2 : x = t := e
    exact hn (e2 ▸ hx)
  · rw [ids_snoc] at hx
    rcases List.mem_append.1 hx with hx | hx
    · exact h.task x hx
    · rw [List.mem_singleton.1 hx]; exact ht
theorem Fine.sub {S T : Line} (h : Fine S) (hT : T.Sublist S) : Fine T :=
  ⟨h.nodup.sublist (hT.map _), fun t ht => h.task t ((hT.map _).subset ht)⟩
end Go.Proofs.Ytddfdnhlghmapaa.Wt
