/- One processor's scheduler in memory: three classes, side by side in one block, and who has what class. -/
import Derived.Test.YtpincdcebhmnhaaOFOps
import Derived.Test.YtpincdcebhmnhaaODOps
import Derived.Test.YtpincdcebhmnhaaPTurn
namespace Go.Proofs.Ytpincdcebhmnhaa.Pk
open Go.ChangeShapes Go.WideShapes Go.ChangeAt Go.RowKit Go.Maps
set_option linter.unusedVariables false

/-- What a scheduler knows: the fair class, the queues, the priorities of those who are blocked, the class of deadlines and its time, the classes of tasks, who had the last tick, and for how many in a row. -/
structure St where
  T : Fr.Tks
  G : Fr.Grs
  Q : Pr.Qs
  A : Nat → Int
  d : De.Tks
  n : Int
  C : Nat → Int
  now : Int
  row : Int

/-- A scheduler in block p. -/
structure PickAt (w : World) (p D : Nat) (V : Nat → Value) (S : St) : Prop where
  fair : Fr.FairAt w p 0 D S.T S.G
  prio : Pr.QAt w p 86 D V S.Q
  dead : De.DeadAt w p 111 D S.d S.n
  val : ∀ t, t < 17 → w.cell? ⟨p, 94 + t, none⟩ = some (.int .i64 (S.A t))
  cls : ∀ t, t < 17 → w.cell? ⟨p, 214 + t, none⟩ = some (.int .i64 (S.C t))
  now : w.cell? ⟨p, 231, none⟩ = some (.int .i64 S.now)
  row : w.cell? ⟨p, 232, none⟩ = some (.int .i64 S.row)

/-- What a call that changes a scheduler leaves of memory. -/
structure PStep (p : Nat) (V V' : Nat → Value) (w w' : World) : Prop where
  only : Only (Pr.Foot p V) w w'
  grow : ∀ k, Pr.Foot p V' k → Pr.Foot p V k ∨ w.heap.size ≤ k

/-- What is known behind such a call. -/
def Did (p D : Nat) (V : Nat → Value) (S : St) (x : Value) (w : World) (e : Ending) (w' : World) : Prop := e = .returned x ∧ ∃ V', PickAt w' p D V' S ∧ PStep p V V' w w'

section
variable {w w' : World} {p D : Nat} {V V' V'' : Nat → Value} {S S' : St}

theorem PStep.refl (p : Nat) (V : Nat → Value) (w : World) : PStep p V V w w := ⟨Only.refl _ w, fun _ h => Or.inl h⟩
theorem PStep.of_only (h : Only (fun k => k = p) w w') : PStep p V V w w' := ⟨h.mono (fun _ _ e => Or.inl e), fun _ h => Or.inl h⟩
theorem PStep.of_quiet (h : Only (fun _ => False) w w') : PStep p V V w w' := ⟨h.mono (fun _ _ e => e.elim), fun _ h => Or.inl h⟩
theorem PStep.trans {a b c : World} (h : PStep p V V' a b) (k : PStep p V' V'' b c) : PStep p V V'' a c := by
  refine ⟨h.only.trans k.only (fun x hx e => ?_), fun x hx => ?_⟩
  · rcases h.grow x e with e | e
    · exact e
    · omega
  · rcases k.grow x hx with e | e
    · exact h.grow x e
    · exact Or.inr (Nat.le_trans h.only.size e)

theorem PickAt.lt (h : PickAt w p D V S) : p < w.heap.size := h.fair.lt
theorem PickAt.frozen (h : PickAt w p D V S) (j : Nat) : w.frozen? ⟨p, j, none⟩ = false := h.fair.frozen j
theorem PickAt.block (h : PickAt w p D V S) : ∃ cs, w.heap[p]? = some (.cells cs D (0, 0)) := by obtain ⟨cs, h1, -⟩ := h.fair; exact ⟨cs, h1⟩
theorem PickAt.keep {R : Nat → Prop} (h : PickAt w p D V S) (hO : Only R w w') (hR : ∀ k, Pr.Foot p V k → ¬ R k) : PickAt w' p D V S := by
  have hp : ¬ R p := hR p (Or.inl rfl)
  have hc : ∀ j, w'.cell? ⟨p, j, none⟩ = w.cell? ⟨p, j, none⟩ := fun j => Pr.cell_kept hO h.lt hp
  exact ⟨h.fair.keep hO hp, h.prio.keep hO hR, h.dead.keep hO hp, fun t ht => (hc _).trans (h.val t ht), fun t ht => (hc _).trans (h.cls t ht), (hc _).trans h.now, (hc _).trans h.row⟩
theorem PickAt.later (h : PickAt w p D V S) (hO : Only (fun _ => False) w w') : PickAt w' p D V S := h.keep hO (fun _ _ e => e)
theorem PickAt.foot_lt (h : PickAt w p D V S) {k : Nat} (hk : Pr.Foot p V k) : k < w.heap.size := h.prio.foot_lt hk

/-- Cells of block p that are as they were. -/
theorem fair_other {o : Nat} {T : Fr.Tks} {G : Fr.Grs} (h : Fr.FairAt w p o D T G) (hb : ∃ cs, w'.heap[p]? = some (.cells cs D (0, 0)))
    (hc : ∀ j, o ≤ j → j < o + 86 → w'.cell? ⟨p, j, none⟩ = w.cell? ⟨p, j, none⟩) : Fr.FairAt w' p o D T G := by
  obtain ⟨cs, h1, h2⟩ := h
  obtain ⟨cs', h3⟩ := hb
  have e : ∀ j, o ≤ j → j < o + 86 → cs'[j]? = cs[j]? := fun j a b => by have := hc j a b; rw [cell_at h1, cell_at h3] at this; exact this
  refine ⟨cs', h3, ?_, fun t ht => (e _ (by omega) (by omega)).trans (h2.tc t ht), fun t ht => (e _ (by omega) (by omega)).trans (h2.tv t ht), fun t ht => (e _ (by omega) (by omega)).trans (h2.tg t ht), fun t ht => (e _ (by omega) (by omega)).trans (h2.tr t ht), fun g hg => (e _ (by omega) (by omega)).trans (h2.gc g hg), fun g hg => (e _ (by omega) (by omega)).trans (h2.gv g hg)⟩
  have := (e _ (by omega) (by omega)).trans (h2.gv 8 (by omega))
  have := (Array.getElem?_eq_some_iff.1 this).1
  omega
theorem dead_other {o : Nat} {T : De.Tks} {n : Int} (h : De.DeadAt w p o D T n) (hb : ∃ cs, w'.heap[p]? = some (.cells cs D (0, 0)))
    (hc : ∀ j, o ≤ j → j < o + 103 → w'.cell? ⟨p, j, none⟩ = w.cell? ⟨p, j, none⟩) : De.DeadAt w' p o D T n := by
  obtain ⟨cs, h1, h2⟩ := h
  obtain ⟨cs', h3⟩ := hb
  have e : ∀ j, o ≤ j → j < o + 103 → cs'[j]? = cs[j]? := fun j a b => by have := hc j a b; rw [cell_at h1, cell_at h3] at this; exact this
  refine ⟨cs', h3, ?_, fun t ht => (e _ (by omega) (by omega)).trans (h2.cb t ht), fun t ht => (e _ (by omega) (by omega)).trans (h2.cp t ht), fun t ht => (e _ (by omega) (by omega)).trans (h2.cl t ht), fun t ht => (e _ (by omega) (by omega)).trans (h2.cd t ht), fun t ht => (e _ (by omega) (by omega)).trans (h2.cr t ht), fun t ht => (e _ (by omega) (by omega)).trans (h2.co t ht), (e _ (by omega) (by omega)).trans h2.now⟩
  have := (e _ (by omega) (by omega)).trans h2.now
  have := (Array.getElem?_eq_some_iff.1 this).1
  omega
theorem prio_other {o : Nat} {Q : Pr.Qs} (h : Pr.QAt w p o D V Q) (hO : Only (fun k => k = p) w w') (hb : ∃ cs, w'.heap[p]? = some (.cells cs D (0, 0)))
    (hc : ∀ j, o ≤ j → j < o + 8 → w'.cell? ⟨p, j, none⟩ = w.cell? ⟨p, j, none⟩) : Pr.QAt w' p o D V Q := by
  obtain ⟨cs', h3⟩ := hb
  refine ⟨⟨cs', h3, fun i hi => ?_⟩, h.type, fun i hi => (h.row i hi).keep hO (fun g hg e => h.not_row hi (e ▸ hg)), h.apart⟩
  have := hc (o + i) (by omega) (by omega)
  rw [cell_at h3, h.cell hi] at this
  exact this

theorem within_cell {o n : Nat} (h : Within p o n w w') (hb : ∃ cs, w.heap[p]? = some (.cells cs D (0, 0))) : (∃ cs, w'.heap[p]? = some (.cells cs D (0, 0))) ∧ ∀ j, j < o ∨ o + n ≤ j → w'.cell? ⟨p, j, none⟩ = w.cell? ⟨p, j, none⟩ := by
  obtain ⟨cs, h1⟩ := hb
  obtain ⟨cs', h2, -, h3⟩ := h.still cs D h1
  exact ⟨⟨cs', h2⟩, fun j hj => by rw [cell_at h1, cell_at h2]; exact h3 j hj⟩

/-- The fair class has changed. -/
theorem PickAt.by_fair {T' : Fr.Tks} {G' : Fr.Grs} (h : PickAt w p D V S) (hF : Fr.FairAt w' p 0 D T' G') (hW : Within p 0 86 w w') : PickAt w' p D V { S with T := T', G := G' } ∧ PStep p V V w w' := by
  obtain ⟨hb, hc⟩ := within_cell hW h.block
  exact ⟨⟨hF, prio_other h.prio hW.only hb (fun j a b => hc j (by omega)), dead_other h.dead hb (fun j a b => hc j (by omega)), fun t ht => (hc _ (by omega)).trans (h.val t ht), fun t ht => (hc _ (by omega)).trans (h.cls t ht), (hc _ (by omega)).trans h.now, (hc _ (by omega)).trans h.row⟩, PStep.of_only hW.only⟩
/-- The class of deadlines has changed. -/
theorem PickAt.by_dead {d' : De.Tks} {n' : Int} (h : PickAt w p D V S) (hF : De.DeadAt w' p 111 D d' n') (hW : Within p 111 103 w w') : PickAt w' p D V { S with d := d', n := n' } ∧ PStep p V V w w' := by
  obtain ⟨hb, hc⟩ := within_cell hW h.block
  exact ⟨⟨fair_other h.fair hb (fun j a b => hc j (by omega)), prio_other h.prio hW.only hb (fun j a b => hc j (by omega)), hF, fun t ht => (hc _ (by omega)).trans (h.val t ht), fun t ht => (hc _ (by omega)).trans (h.cls t ht), (hc _ (by omega)).trans h.now, (hc _ (by omega)).trans h.row⟩, PStep.of_only hW.only⟩
/-- The queues have changed. -/
theorem PickAt.by_prio {Q' : Pr.Qs} (h : PickAt w p D V S) (hF : Pr.QAt w' p 86 D V' Q') (hW : Pr.Step p 86 V V' w w') : PickAt w' p D V' { S with Q := Q' } ∧ PStep p V V' w w' := by
  have hb : ∃ cs, w'.heap[p]? = some (.cells cs D (0, 0)) := by obtain ⟨cs, h1, -⟩ := hF.block; exact ⟨cs, h1⟩
  have hc : ∀ j, j < 86 ∨ 94 ≤ j → w'.cell? ⟨p, j, none⟩ = w.cell? ⟨p, j, none⟩ := fun j hj => hW.still j (by omega)
  exact ⟨⟨fair_other h.fair hb (fun j a b => hc j (by omega)), hF, dead_other h.dead hb (fun j a b => hc j (by omega)), fun t ht => (hc _ (by omega)).trans (h.val t ht), fun t ht => (hc _ (by omega)).trans (h.cls t ht), (hc _ (by omega)).trans h.now, (hc _ (by omega)).trans h.row⟩, hW.only, hW.grow⟩

/-- A cell of none of the classes has changed. -/
theorem PickAt.cell_set (h : PickAt w p D V S) (i : Nat) (hi : 94 ≤ i ∧ i < 111 ∨ 214 ≤ i) (u : Value) :
    Fr.FairAt (w.setCell ⟨p, i, none⟩ u) p 0 D S.T S.G ∧ Pr.QAt (w.setCell ⟨p, i, none⟩ u) p 86 D V S.Q ∧ De.DeadAt (w.setCell ⟨p, i, none⟩ u) p 111 D S.d S.n ∧ (∀ j, j ≠ i → (w.setCell ⟨p, i, none⟩ u).cell? ⟨p, j, none⟩ = w.cell? ⟨p, j, none⟩) ∧ PStep p V V w (w.setCell ⟨p, i, none⟩ u) := by
  have hW : Within p i 1 w (w.setCell ⟨p, i, none⟩ u) := (Within.refl p i 1 w).setCell (by omega) u
  obtain ⟨hb, hc⟩ := within_cell hW h.block
  exact ⟨fair_other h.fair hb (fun j a b => hc j (by omega)), prio_other h.prio hW.only hb (fun j a b => hc j (by omega)), dead_other h.dead hb (fun j a b => hc j (by omega)), fun j hj => hc j (by omega), PStep.of_only hW.only⟩
theorem PickAt.size (h : PickAt w p D V S) {cs : Array Value} (hb : w.heap[p]? = some (.cells cs D (0, 0))) : 233 ≤ cs.size := by
  have := h.row
  rw [cell_at hb] at this
  have := (Array.getElem?_eq_some_iff.1 this).1
  omega
theorem PickAt.cell_same (h : PickAt w p D V S) (i : Nat) (hi : i < 233) (u : Value) : (w.setCell ⟨p, i, none⟩ u).cell? ⟨p, i, none⟩ = some u := by
  obtain ⟨cs, hb⟩ := h.block
  have hs := h.size hb
  rw [cell_at (heap_setCell_same w p i cs D u hb), Array.getElem?_setIfInBounds, if_pos rfl, if_pos (by omega)]

/-- A function with another value at one place. -/
abbrev upd {α : Type} (f : Nat → α) (k : Nat) (x : α) : Nat → α := Pr.upd f k x

theorem PickAt.set_val (h : PickAt w p D V S) (t : Nat) (ht : t < 17) (x : Int) : PickAt (w.setCell ⟨p, 94 + t, none⟩ (.int .i64 x)) p D V { S with A := upd S.A t x } ∧ PStep p V V w (w.setCell ⟨p, 94 + t, none⟩ (.int .i64 x)) := by
  obtain ⟨h1, h2, h3, h4, h5⟩ := h.cell_set (94 + t) (by omega) (.int .i64 x)
  refine ⟨⟨h1, h2, h3, fun k hk => ?_, fun k hk => (h4 _ (by omega)).trans (h.cls k hk), (h4 _ (by omega)).trans h.now, (h4 _ (by omega)).trans h.row⟩, h5⟩
  by_cases e : k = t
  · subst e; rw [h.cell_same _ (by omega)]; show _ = some (Value.int .i64 (Pr.upd S.A k x k)); rw [Pr.upd_same]
  · rw [h4 _ (by omega)]; show _ = some (Value.int .i64 (Pr.upd S.A t x k)); rw [Pr.upd_other _ _ e]; exact h.val k hk
theorem PickAt.set_cls (h : PickAt w p D V S) (t : Nat) (ht : t < 17) (x : Int) : PickAt (w.setCell ⟨p, 214 + t, none⟩ (.int .i64 x)) p D V { S with C := upd S.C t x } ∧ PStep p V V w (w.setCell ⟨p, 214 + t, none⟩ (.int .i64 x)) := by
  obtain ⟨h1, h2, h3, h4, h5⟩ := h.cell_set (214 + t) (by omega) (.int .i64 x)
  refine ⟨⟨h1, h2, h3, fun k hk => (h4 _ (by omega)).trans (h.val k hk), fun k hk => ?_, (h4 _ (by omega)).trans h.now, (h4 _ (by omega)).trans h.row⟩, h5⟩
  by_cases e : k = t
  · subst e; rw [h.cell_same _ (by omega)]; show _ = some (Value.int .i64 (Pr.upd S.C k x k)); rw [Pr.upd_same]
  · rw [h4 _ (by omega)]; show _ = some (Value.int .i64 (Pr.upd S.C t x k)); rw [Pr.upd_other _ _ e]; exact h.cls k hk
theorem PickAt.set_now (h : PickAt w p D V S) (x : Int) : PickAt (w.setCell ⟨p, 231, none⟩ (.int .i64 x)) p D V { S with now := x } ∧ PStep p V V w (w.setCell ⟨p, 231, none⟩ (.int .i64 x)) := by
  obtain ⟨h1, h2, h3, h4, h5⟩ := h.cell_set 231 (by omega) (.int .i64 x)
  exact ⟨⟨h1, h2, h3, fun k hk => (h4 _ (by omega)).trans (h.val k hk), fun k hk => (h4 _ (by omega)).trans (h.cls k hk), h.cell_same _ (by omega) _, (h4 _ (by omega)).trans h.row⟩, h5⟩
theorem PickAt.set_row (h : PickAt w p D V S) (x : Int) : PickAt (w.setCell ⟨p, 232, none⟩ (.int .i64 x)) p D V { S with row := x } ∧ PStep p V V w (w.setCell ⟨p, 232, none⟩ (.int .i64 x)) := by
  obtain ⟨h1, h2, h3, h4, h5⟩ := h.cell_set 232 (by omega) (.int .i64 x)
  exact ⟨⟨h1, h2, h3, fun k hk => (h4 _ (by omega)).trans (h.val k hk), fun k hk => (h4 _ (by omega)).trans (h.cls k hk), (h4 _ (by omega)).trans h.now, h.cell_same _ (by omega) _⟩, h5⟩

theorem Did.same {x : Value} (h : PickAt w p D V S) : Did p D V S x w (.returned x) w := ⟨rfl, V, h, PStep.refl p V w⟩
theorem Did.quiet {x : Value} (h : PickAt w p D V S) (hO : Only (fun _ => False) w w') : Did p D V S x w (.returned x) w' := ⟨rfl, V, h.later hO, PStep.of_quiet hO⟩
theorem Did.mk {x : Value} (h : PickAt w' p D V' S) (hs : PStep p V V' w w') : Did p D V S x w (.returned x) w' := ⟨rfl, V', h, hs⟩
end
end Go.Proofs.Ytpincdcebhmnhaa.Pk
