/- Texts of this claim, merged: Pk, PkFind, PUn, PkFix. -/
import Derived.Test.YtckaebpcghaobaaGreatM03
import Derived.Test.YtckaebpcghaobaaGreatM04
import Derived.Test.YtckaebpcghaobaaGreatM05
import Derived.Handy
/- One processor's scheduler in memory: three classes, side by side in one block, and who has what class. -/
namespace Go.Proofs.YtckaebpcghaobaaGreat.Pk
open Go.ChangeShapes Go.WideShapes Go.ChangeAt Go.RowKit Go.Maps
set_option linter.unusedVariables false

/-- What a scheduler knows: the fair class, the queues, the priorities of those who are blocked, the class of deadlines and its time, the classes of tasks, who had the last tick, and for how many in a row. -/
structure St where
  T : Fr.Tks
  G : Fr.Grs
  Q : Pr.Qs
  A : Nat → Int
  d : De.Tks
  n : Int
  C : Nat → Int
  now : Int
  row : Int

/-- A scheduler in block p. -/
structure PickAt (w : World) (p D : Nat) (V : Nat → Value) (S : St) : Prop where
  fair : Fr.FairAt w p 0 D S.T S.G
  prio : Pr.QAt w p 86 D V S.Q
  dead : De.DeadAt w p 111 D S.d S.n
  val : ∀ t, t < 17 → w.cell? ⟨p, 94 + t, none⟩ = some (.int .i64 (S.A t))
  cls : ∀ t, t < 17 → w.cell? ⟨p, 214 + t, none⟩ = some (.int .i64 (S.C t))
  now : w.cell? ⟨p, 231, none⟩ = some (.int .i64 S.now)
  row : w.cell? ⟨p, 232, none⟩ = some (.int .i64 S.row)

/-- What a call that changes a scheduler leaves of memory. -/
structure PStep (p : Nat) (V V' : Nat → Value) (w w' : World) : Prop where
  only : Only (Pr.Foot p V) w w'
  grow : ∀ k, Pr.Foot p V' k → Pr.Foot p V k ∨ w.heap.size ≤ k

/-- What is known behind such a call. -/
def Did (p D : Nat) (V : Nat → Value) (S : St) (x : Value) (w : World) (e : Ending) (w' : World) : Prop := e = .returned x ∧ ∃ V', PickAt w' p D V' S ∧ PStep p V V' w w'

section
variable {w w' : World} {p D : Nat} {V V' V'' : Nat → Value} {S S' : St}

theorem PStep.refl (p : Nat) (V : Nat → Value) (w : World) : PStep p V V w w := ⟨Only.refl _ w, fun _ h => Or.inl h⟩
theorem PStep.of_only (h : Only (fun k => k = p) w w') : PStep p V V w w' := ⟨h.mono (fun _ _ e => Or.inl e), fun _ h => Or.inl h⟩
theorem PStep.of_quiet (h : Only (fun _ => False) w w') : PStep p V V w w' := ⟨h.mono (fun _ _ e => e.elim), fun _ h => Or.inl h⟩
theorem PStep.trans {a b c : World} (h : PStep p V V' a b) (k : PStep p V' V'' b c) : PStep p V V'' a c := by
  refine ⟨h.only.trans k.only (fun x hx e => ?_), fun x hx => ?_⟩
  · rcases h.grow x e with e | e
    · exact e
    · omega
  · rcases k.grow x hx with e | e
    · exact h.grow x e
    · exact Or.inr (Nat.le_trans h.only.size e)

theorem PickAt.lt (h : PickAt w p D V S) : p < w.heap.size := h.fair.lt
theorem PickAt.frozen (h : PickAt w p D V S) (j : Nat) : w.frozen? ⟨p, j, none⟩ = false := h.fair.frozen j
theorem PickAt.block (h : PickAt w p D V S) : ∃ cs, w.heap[p]? = some (.cells cs D (0, 0)) := by obtain ⟨cs, h1, -⟩ := h.fair; exact ⟨cs, h1⟩
theorem PickAt.keep {R : Nat → Prop} (h : PickAt w p D V S) (hO : Only R w w') (hR : ∀ k, Pr.Foot p V k → ¬ R k) : PickAt w' p D V S := by
  have hp : ¬ R p := hR p (Or.inl rfl)
  have hc : ∀ j, w'.cell? ⟨p, j, none⟩ = w.cell? ⟨p, j, none⟩ := fun j => Pr.cell_kept hO h.lt hp
  exact ⟨h.fair.keep hO hp, h.prio.keep hO hR, h.dead.keep hO hp, fun t ht => (hc _).trans (h.val t ht), fun t ht => (hc _).trans (h.cls t ht), (hc _).trans h.now, (hc _).trans h.row⟩
theorem PickAt.later (h : PickAt w p D V S) (hO : Only (fun _ => False) w w') : PickAt w' p D V S := h.keep hO (fun _ _ e => e)
theorem PickAt.foot_lt (h : PickAt w p D V S) {k : Nat} (hk : Pr.Foot p V k) : k < w.heap.size := h.prio.foot_lt hk

/-- Cells of block p that are as they were. -/
theorem fair_other {o : Nat} {T : Fr.Tks} {G : Fr.Grs} (h : Fr.FairAt w p o D T G) (hb : ∃ cs, w'.heap[p]? = some (.cells cs D (0, 0)))
    (hc : ∀ j, o ≤ j → j < o + 86 → w'.cell? ⟨p, j, none⟩ = w.cell? ⟨p, j, none⟩) : Fr.FairAt w' p o D T G := by
  obtain ⟨cs, h1, h2⟩ := h
  obtain ⟨cs', h3⟩ := hb
  have e : ∀ j, o ≤ j → j < o + 86 → cs'[j]? = cs[j]? := fun j a b => by have := hc j a b; rw [cell_at h1, cell_at h3] at this; exact this
  refine ⟨cs', h3, ?_, fun t ht => (e _ (by omega) (by omega)).trans (h2.tc t ht), fun t ht => (e _ (by omega) (by omega)).trans (h2.tv t ht), fun t ht => (e _ (by omega) (by omega)).trans (h2.tg t ht), fun t ht => (e _ (by omega) (by omega)).trans (h2.tr t ht), fun g hg => (e _ (by omega) (by omega)).trans (h2.gc g hg), fun g hg => (e _ (by omega) (by omega)).trans (h2.gv g hg)⟩
  have := (e _ (by omega) (by omega)).trans (h2.gv 8 (by omega))
  have := (Array.getElem?_eq_some_iff.1 this).1
  omega
theorem dead_other {o : Nat} {T : De.Tks} {n : Int} (h : De.DeadAt w p o D T n) (hb : ∃ cs, w'.heap[p]? = some (.cells cs D (0, 0)))
    (hc : ∀ j, o ≤ j → j < o + 103 → w'.cell? ⟨p, j, none⟩ = w.cell? ⟨p, j, none⟩) : De.DeadAt w' p o D T n := by
  obtain ⟨cs, h1, h2⟩ := h
  obtain ⟨cs', h3⟩ := hb
  have e : ∀ j, o ≤ j → j < o + 103 → cs'[j]? = cs[j]? := fun j a b => by have := hc j a b; rw [cell_at h1, cell_at h3] at this; exact this
  refine ⟨cs', h3, ?_, fun t ht => (e _ (by omega) (by omega)).trans (h2.cb t ht), fun t ht => (e _ (by omega) (by omega)).trans (h2.cp t ht), fun t ht => (e _ (by omega) (by omega)).trans (h2.cl t ht), fun t ht => (e _ (by omega) (by omega)).trans (h2.cd t ht), fun t ht => (e _ (by omega) (by omega)).trans (h2.cr t ht), fun t ht => (e _ (by omega) (by omega)).trans (h2.co t ht), (e _ (by omega) (by omega)).trans h2.now⟩
  have := (e _ (by omega) (by omega)).trans h2.now
  have := (Array.getElem?_eq_some_iff.1 this).1
  omega
theorem prio_other {o : Nat} {Q : Pr.Qs} (h : Pr.QAt w p o D V Q) (hO : Only (fun k => k = p) w w') (hb : ∃ cs, w'.heap[p]? = some (.cells cs D (0, 0)))
    (hc : ∀ j, o ≤ j → j < o + 8 → w'.cell? ⟨p, j, none⟩ = w.cell? ⟨p, j, none⟩) : Pr.QAt w' p o D V Q := by
  obtain ⟨cs', h3⟩ := hb
  refine ⟨⟨cs', h3, fun i hi => ?_⟩, h.type, fun i hi => (h.row i hi).keep hO (fun g hg e => h.not_row hi (e ▸ hg)), h.apart⟩
  have := hc (o + i) (by omega) (by omega)
  rw [cell_at h3, h.cell hi] at this
  exact this

theorem within_cell {o n : Nat} (h : Within p o n w w') (hb : ∃ cs, w.heap[p]? = some (.cells cs D (0, 0))) : (∃ cs, w'.heap[p]? = some (.cells cs D (0, 0))) ∧ ∀ j, j < o ∨ o + n ≤ j → w'.cell? ⟨p, j, none⟩ = w.cell? ⟨p, j, none⟩ := by
  obtain ⟨cs, h1⟩ := hb
  obtain ⟨cs', h2, -, h3⟩ := h.still cs D h1
  exact ⟨⟨cs', h2⟩, fun j hj => by rw [cell_at h1, cell_at h2]; exact h3 j hj⟩

/-- The fair class has changed. -/
theorem PickAt.by_fair {T' : Fr.Tks} {G' : Fr.Grs} (h : PickAt w p D V S) (hF : Fr.FairAt w' p 0 D T' G') (hW : Within p 0 86 w w') : PickAt w' p D V { S with T := T', G := G' } ∧ PStep p V V w w' := by
  obtain ⟨hb, hc⟩ := within_cell hW h.block
  exact ⟨⟨hF, prio_other h.prio hW.only hb (fun j a b => hc j (by omega)), dead_other h.dead hb (fun j a b => hc j (by omega)), fun t ht => (hc _ (by omega)).trans (h.val t ht), fun t ht => (hc _ (by omega)).trans (h.cls t ht), (hc _ (by omega)).trans h.now, (hc _ (by omega)).trans h.row⟩, PStep.of_only hW.only⟩
/-- The class of deadlines has changed. -/
theorem PickAt.by_dead {d' : De.Tks} {n' : Int} (h : PickAt w p D V S) (hF : De.DeadAt w' p 111 D d' n') (hW : Within p 111 103 w w') : PickAt w' p D V { S with d := d', n := n' } ∧ PStep p V V w w' := by
  obtain ⟨hb, hc⟩ := within_cell hW h.block
  exact ⟨⟨fair_other h.fair hb (fun j a b => hc j (by omega)), prio_other h.prio hW.only hb (fun j a b => hc j (by omega)), hF, fun t ht => (hc _ (by omega)).trans (h.val t ht), fun t ht => (hc _ (by omega)).trans (h.cls t ht), (hc _ (by omega)).trans h.now, (hc _ (by omega)).trans h.row⟩, PStep.of_only hW.only⟩
/-- The queues have changed. -/
theorem PickAt.by_prio {Q' : Pr.Qs} (h : PickAt w p D V S) (hF : Pr.QAt w' p 86 D V' Q') (hW : Pr.Step p 86 V V' w w') : PickAt w' p D V' { S with Q := Q' } ∧ PStep p V V' w w' := by
  have hb : ∃ cs, w'.heap[p]? = some (.cells cs D (0, 0)) := by obtain ⟨cs, h1, -⟩ := hF.block; exact ⟨cs, h1⟩
  have hc : ∀ j, j < 86 ∨ 94 ≤ j → w'.cell? ⟨p, j, none⟩ = w.cell? ⟨p, j, none⟩ := fun j hj => hW.still j (by omega)
  exact ⟨⟨fair_other h.fair hb (fun j a b => hc j (by omega)), hF, dead_other h.dead hb (fun j a b => hc j (by omega)), fun t ht => (hc _ (by omega)).trans (h.val t ht), fun t ht => (hc _ (by omega)).trans (h.cls t ht), (hc _ (by omega)).trans h.now, (hc _ (by omega)).trans h.row⟩, hW.only, hW.grow⟩

/-- A cell of none of the classes has changed. -/
theorem PickAt.cell_set (h : PickAt w p D V S) (i : Nat) (hi : 94 ≤ i ∧ i < 111 ∨ 214 ≤ i) (u : Value) :
    Fr.FairAt (w.setCell ⟨p, i, none⟩ u) p 0 D S.T S.G ∧ Pr.QAt (w.setCell ⟨p, i, none⟩ u) p 86 D V S.Q ∧ De.DeadAt (w.setCell ⟨p, i, none⟩ u) p 111 D S.d S.n ∧ (∀ j, j ≠ i → (w.setCell ⟨p, i, none⟩ u).cell? ⟨p, j, none⟩ = w.cell? ⟨p, j, none⟩) ∧ PStep p V V w (w.setCell ⟨p, i, none⟩ u) := by
  have hW : Within p i 1 w (w.setCell ⟨p, i, none⟩ u) := (Within.refl p i 1 w).setCell (by omega) u
  obtain ⟨hb, hc⟩ := within_cell hW h.block
  exact ⟨fair_other h.fair hb (fun j a b => hc j (by omega)), prio_other h.prio hW.only hb (fun j a b => hc j (by omega)), dead_other h.dead hb (fun j a b => hc j (by omega)), fun j hj => hc j (by omega), PStep.of_only hW.only⟩
theorem PickAt.size (h : PickAt w p D V S) {cs : Array Value} (hb : w.heap[p]? = some (.cells cs D (0, 0))) : 233 ≤ cs.size := by
  have := h.row
  rw [cell_at hb] at this
  have := (Array.getElem?_eq_some_iff.1 this).1
  omega
theorem PickAt.cell_same (h : PickAt w p D V S) (i : Nat) (hi : i < 233) (u : Value) : (w.setCell ⟨p, i, none⟩ u).cell? ⟨p, i, none⟩ = some u := by
  obtain ⟨cs, hb⟩ := h.block
  have hs := h.size hb
  rw [cell_at (heap_setCell_same w p i cs D u hb), Array.getElem?_setIfInBounds, if_pos rfl, if_pos (by omega)]

/-- A function with another value at one place. -/
abbrev upd {α : Type} (f : Nat → α) (k : Nat) (x : α) : Nat → α := Pr.upd f k x

theorem PickAt.set_val (h : PickAt w p D V S) (t : Nat) (ht : t < 17) (x : Int) : PickAt (w.setCell ⟨p, 94 + t, none⟩ (.int .i64 x)) p D V { S with A := upd S.A t x } ∧ PStep p V V w (w.setCell ⟨p, 94 + t, none⟩ (.int .i64 x)) := by
  obtain ⟨h1, h2, h3, h4, h5⟩ := h.cell_set (94 + t) (by omega) (.int .i64 x)
  refine ⟨⟨h1, h2, h3, fun k hk => ?_, fun k hk => (h4 _ (by omega)).trans (h.cls k hk), (h4 _ (by omega)).trans h.now, (h4 _ (by omega)).trans h.row⟩, h5⟩
  by_cases e : k = t
  · subst e; rw [h.cell_same _ (by omega)]; show _ = some (Value.int .i64 (Pr.upd S.A k x k)); rw [Pr.upd_same]
  · rw [h4 _ (by omega)]; show _ = some (Value.int .i64 (Pr.upd S.A t x k)); rw [Pr.upd_other _ _ e]; exact h.val k hk
theorem PickAt.set_cls (h : PickAt w p D V S) (t : Nat) (ht : t < 17) (x : Int) : PickAt (w.setCell ⟨p, 214 + t, none⟩ (.int .i64 x)) p D V { S with C := upd S.C t x } ∧ PStep p V V w (w.setCell ⟨p, 214 + t, none⟩ (.int .i64 x)) := by
  obtain ⟨h1, h2, h3, h4, h5⟩ := h.cell_set (214 + t) (by omega) (.int .i64 x)
  refine ⟨⟨h1, h2, h3, fun k hk => (h4 _ (by omega)).trans (h.val k hk), fun k hk => ?_, (h4 _ (by omega)).trans h.now, (h4 _ (by omega)).trans h.row⟩, h5⟩
  by_cases e : k = t
  · subst e; rw [h.cell_same _ (by omega)]; show _ = some (Value.int .i64 (Pr.upd S.C k x k)); rw [Pr.upd_same]
  · rw [h4 _ (by omega)]; show _ = some (Value.int .i64 (Pr.upd S.C t x k)); rw [Pr.upd_other _ _ e]; exact h.cls k hk
theorem PickAt.set_now (h : PickAt w p D V S) (x : Int) : PickAt (w.setCell ⟨p, 231, none⟩ (.int .i64 x)) p D V { S with now := x } ∧ PStep p V V w (w.setCell ⟨p, 231, none⟩ (.int .i64 x)) := by
  obtain ⟨h1, h2, h3, h4, h5⟩ := h.cell_set 231 (by omega) (.int .i64 x)
  exact ⟨⟨h1, h2, h3, fun k hk => (h4 _ (by omega)).trans (h.val k hk), fun k hk => (h4 _ (by omega)).trans (h.cls k hk), h.cell_same _ (by omega) _, (h4 _ (by omega)).trans h.row⟩, h5⟩
theorem PickAt.set_row (h : PickAt w p D V S) (x : Int) : PickAt (w.setCell ⟨p, 232, none⟩ (.int .i64 x)) p D V { S with row := x } ∧ PStep p V V w (w.setCell ⟨p, 232, none⟩ (.int .i64 x)) := by
  obtain ⟨h1, h2, h3, h4, h5⟩ := h.cell_set 232 (by omega) (.int .i64 x)
  exact ⟨⟨h1, h2, h3, fun k hk => (h4 _ (by omega)).trans (h.val k hk), fun k hk => (h4 _ (by omega)).trans (h.cls k hk), (h4 _ (by omega)).trans h.now, h.cell_same _ (by omega) _⟩, h5⟩

theorem Did.same {x : Value} (h : PickAt w p D V S) : Did p D V S x w (.returned x) w := ⟨rfl, V, h, PStep.refl p V w⟩
theorem Did.quiet {x : Value} (h : PickAt w p D V S) (hO : Only (fun _ => False) w w') : Did p D V S x w (.returned x) w' := ⟨rfl, V, h.later hO, PStep.of_quiet hO⟩
theorem Did.mk {x : Value} (h : PickAt w' p D V' S) (hs : PStep p V V' w w') : Did p D V S x w (.returned x) w' := ⟨rfl, V', h, hs⟩
end
end Go.Proofs.YtckaebpcghaobaaGreat.Pk
/- Contracts of package pick: find, enter. -/
namespace Go.Proofs.YtckaebpcghaobaaGreat.Pk
open Go.ChangeShapes Go.WideShapes Go.ChangeAt Go.RowKit Go.Maps
set_option linter.unusedVariables false

section
variable {w w' : World} {p D : Nat} {V V' V'' : Nat → Value} {S S' : St}

theorem find_out (h : PickAt w p D V S) (t : Int) (h1 : t < 1 ∨ 16 < t) :
    Calls Tryz.prog 21 #[.pointer (some ⟨p, 0, none⟩), .int .i64 t] w fun e w' => e = .returned .nilIface ∧ w = w' := by
  clear h
  by_cases h2 : t < 1
  · clear h1
    go_enter Tryz.func21, Tryz.ntmps21
    go_wp2
    go_ret
    exact ⟨rfl, rfl⟩
  · have h3 : 16 < t := by omega
    clear h1
    go_enter Tryz.func21, Tryz.ntmps21
    go_wp2
    go_ret
    exact ⟨rfl, rfl⟩
theorem find_none (h : PickAt w p D V S) (t : Nat) (h1 : 1 ≤ t) (h2 : t ≤ 16) (hc : S.C t = 0) :
    Calls Tryz.prog 21 #[.pointer (some ⟨p, 0, none⟩), .int .i64 t] w fun e w' => e = .returned .nilIface ∧ w = w' := by
  have c := h.cls t (by omega)
  rw [hc] at c
  have q1 : ¬ (t : Int) < 1 := by omega
  have q2 : ¬ 16 < (t : Int) := by omega
  have q3 : (t : Int) < 17 := by omega
  clear h hc
  go_enter Tryz.func21, Tryz.ntmps21
  go_wp2
  go_ret
  exact ⟨rfl, rfl⟩
theorem find_fair (h : PickAt w p D V S) (t : Nat) (h1 : 1 ≤ t) (h2 : t ≤ 16) (hc : S.C t = 1) :
    Calls Tryz.prog 21 #[.pointer (some ⟨p, 0, none⟩), .int .i64 t] w fun e w' => e = .returned (.iface 102 (.pointer (some ⟨p, 0, none⟩))) ∧ w = w' := by
  have c := h.cls t (by omega)
  rw [hc] at c
  have q1 : ¬ (t : Int) < 1 := by omega
  have q2 : ¬ 16 < (t : Int) := by omega
  have q3 : (t : Int) < 17 := by omega
  clear h hc
  go_enter Tryz.func21, Tryz.ntmps21
  go_wp2
  go_ret
  exact ⟨rfl, rfl⟩
theorem find_fixed (h : PickAt w p D V S) (t : Nat) (h1 : 1 ≤ t) (h2 : t ≤ 16) (hc : S.C t = 2) :
    Calls Tryz.prog 21 #[.pointer (some ⟨p, 0, none⟩), .int .i64 t] w fun e w' => e = .returned (.iface 103 (.pointer (some ⟨p, 86, none⟩))) ∧ w = w' := by
  have c := h.cls t (by omega)
  rw [hc] at c
  have q1 : ¬ (t : Int) < 1 := by omega
  have q2 : ¬ 16 < (t : Int) := by omega
  have q3 : (t : Int) < 17 := by omega
  clear h hc
  go_enter Tryz.func21, Tryz.ntmps21
  go_wp2
  go_ret
  exact ⟨rfl, rfl⟩
theorem find_dead (h : PickAt w p D V S) (t : Nat) (h1 : 1 ≤ t) (h2 : t ≤ 16) (hc : S.C t = 3) :
    Calls Tryz.prog 21 #[.pointer (some ⟨p, 0, none⟩), .int .i64 t] w fun e w' => e = .returned (.iface 104 (.pointer (some ⟨p, 111, none⟩))) ∧ w = w' := by
  have c := h.cls t (by omega)
  rw [hc] at c
  have q1 : ¬ (t : Int) < 1 := by omega
  have q2 : ¬ 16 < (t : Int) := by omega
  have q3 : (t : Int) < 17 := by omega
  clear h hc
  go_enter Tryz.func21, Tryz.ntmps21
  go_wp2
  go_ret
  exact ⟨rfl, rfl⟩

/-- What enter makes of a scheduler. -/
def entered (S : St) (t : Nat) (c e : Int) : St := if e = 0 then { S with C := upd S.C t c } else S
theorem enter_yes (h : PickAt w p D V S) (t : Nat) (h1 : 1 ≤ t) (h2 : t ≤ 16) (c : Int) :
    Calls Tryz.prog 22 #[.pointer (some ⟨p, 0, none⟩), .int .i64 t, .int .i64 c, .int .i64 0] w (Did p D V { S with C := upd S.C t c } (.int .i64 0) w) := by
  have H := Lib.hid (h.set_cls t (by omega) c)
  have cl := h.cls t (by omega)
  have fz := h.frozen
  have q3 : (t : Int) < 17 := by omega
  clear h
  go_enter Tryz.func22, Tryz.ntmps22
  go_wp2
  go_ret
  exact Did.mk H.out.1 H.out.2
theorem enter_no (h : PickAt w p D V S) (t c e : Int) (he : e ≠ 0) :
    Calls Tryz.prog 22 #[.pointer (some ⟨p, 0, none⟩), .int .i64 t, .int .i64 c, .int .i64 e] w (Did p D V S (.int .i64 e) w) := by
  have H := Lib.hid h
  clear h
  go_enter Tryz.func22, Tryz.ntmps22
  go_wp2
  go_ret
  exact Did.same H.out
end
end Go.Proofs.YtckaebpcghaobaaGreat.Pk
/- Queues in which each task stands once. -/
namespace Go.Proofs.YtckaebpcghaobaaGreat.Pr
open Go.ChangeShapes Go.WideShapes Go.ChangeAt Go.RowKit Go.Maps
set_option linter.unusedVariables false

/-- Each task stands once. -/
structure Uniq (Q : Qs) : Prop where
  nodup : ∀ i, i < 8 → (Q i).Nodup
  only : ∀ i j t, i < 8 → j < 8 → t ∈ Q i → t ∈ Q j → i = j
  task : ∀ i t, i < 8 → t ∈ Q i → 1 ≤ t ∧ t ≤ 16

theorem Uniq.len {Q : Qs} (h : Uniq Q) {i : Nat} (hi : i < 8) : (Q i).length ≤ 16 := by
  have h2 : (Q i).length ≤ ((List.range' 1 16).map Int.ofNat).length := by
    apply List.Nodup.length_le_of_subset (h.nodup i hi)
    intro x hx
    have := h.task i x hi hx
    rw [List.mem_map]
    refine ⟨x.toNat, ?_, by show ((x.toNat : Nat) : Int) = x; omega⟩
    rw [List.mem_range'_1]; omega
  simpa using h2

theorem uniq_no : Uniq noQ := ⟨fun _ _ => List.nodup_nil, (fun i j t _ _ h => by cases h), (fun i t _ h => by cases h)⟩

/-- A queue's list changed to one whose tasks were in it, or in no queue. -/
theorem Uniq.upd {Q : Qs} (h : Uniq Q) {v : Nat} (hv : v < 8) {xs : List Int} (hn : xs.Nodup) (hm : ∀ t ∈ xs, t ∈ Q v ∨ seek Q t = none ∧ 1 ≤ t ∧ t ≤ 16) : Uniq (upd Q v xs) := by
  refine ⟨fun i hi => ?_, fun i j t hi hj h1 h2 => ?_, fun i t hi ht => ?_⟩
  · by_cases e : i = v
    · subst e; rw [upd_same]; exact hn
    · rw [upd_other _ _ e]; exact h.nodup i hi
  · by_cases e : i = v
    · by_cases e2 : j = v
      · rw [e, e2]
      · subst e
        rw [upd_same] at h1
        rw [upd_other _ _ e2] at h2
        rcases hm t h1 with h3 | h3
        · exact h.only i j t hi hj h3 h2
        · exact absurd h2 (seek_no h3.1 hj)
    · rw [upd_other _ _ e] at h1
      by_cases e2 : j = v
      · subst e2
        rw [upd_same] at h2
        rcases hm t h2 with h3 | h3
        · exact h.only i j t hi hj h1 h3
        · exact absurd h1 (seek_no h3.1 hi)
      · rw [upd_other _ _ e2] at h2
        exact h.only i j t hi hj h1 h2
  · by_cases e : i = v
    · subst e
      rw [upd_same] at ht
      rcases hm t ht with h3 | h3
      · exact h.task i t hi h3
      · exact h3.2
    · rw [upd_other _ _ e] at ht
      exact h.task i t hi ht

theorem Uniq.put {Q : Qs} (h : Uniq Q) {v : Nat} (hv : v < 8) {t : Int} (hs : seek Q t = none) (ht : 1 ≤ t ∧ t ≤ 16) : Uniq (Pr.upd Q v (Q v ++ [t])) := by
  refine h.upd hv ?_ (fun x hx => ?_)
  · rw [List.nodup_append]
    refine ⟨h.nodup v hv, by simp, fun a ha b hb => ?_⟩
    simp at hb
    subst hb
    intro e
    subst e
    exact seek_no hs hv ha
  · rcases List.mem_append.1 hx with hx | hx
    · exact Or.inl hx
    · simp at hx; subst hx; exact Or.inr ⟨hs, ht⟩

theorem Uniq.out {Q : Qs} (h : Uniq Q) {t : Int} {i : Nat} (hi : i < 8) : Uniq (Pr.upd Q i ((Q i).erase t)) :=
  h.upd hi ((h.nodup i hi).sublist (List.erase_sublist)) (fun x hx => Or.inl (List.mem_of_mem_erase hx))

theorem Uniq.seek {Q : Qs} (h : Uniq Q) {t : Int} {i : Nat} (hi : i < 8) (ht : t ∈ Q i) : seek Q t = some i :=
  seekTo_some hi ht (fun j hj hm => by have := h.only i j t hi (by omega) ht hm; omega)

theorem Uniq.turned {Q : Qs} (h : Uniq Q) {v : Nat} (hv : v < 8) {x : Int} {xs : List Int} (he : Q v = x :: xs) : Uniq (Pr.upd Q v (xs ++ [x])) := by
  have hx : x ∈ Q v := by rw [he]; simp
  have hn := h.nodup v hv
  rw [he, List.nodup_cons] at hn
  refine h.upd hv ?_ (fun t ht => Or.inl ?_)
  · rw [List.nodup_append]
    refine ⟨hn.2, by simp, fun a ha b hb => ?_⟩
    simp at hb
    subst hb
    rintro rfl
    exact hn.1 ha
  · rw [he]
    rcases List.mem_append.1 ht with ht | ht
    · exact List.mem_cons_of_mem _ ht
    · simp at ht; subst ht; simp
end Go.Proofs.YtckaebpcghaobaaGreat.Pr
/- Contracts of package pick: the class of fixed priorities. -/
namespace Go.Proofs.YtckaebpcghaobaaGreat.Pk
open Go.ChangeShapes Go.WideShapes Go.ChangeAt Go.RowKit Go.Maps
set_option linter.unusedVariables false

section
variable {w w' : World} {p D : Nat} {V V' V'' : Nat → Value} {S S' : St}

theorem fblock_yes (h : PickAt w p D V S) (hu : Pr.Uniq S.Q) (t : Nat) (h2 : t ≤ 16) {i : Nat} (hs : Pr.seek S.Q t = some i) :
    Calls Tryz.prog 122 #[.pointer (some ⟨p, 86, none⟩), .int .i64 t] w (Did p D V { S with Q := upd S.Q i ((S.Q i).erase t), A := upd S.A t i } (.int .i64 0) w) := by
  have H := Lib.hid h
  have K := Lib.hid (Pr.out_yes h.prio (fun j hj => by have := hu.len hj; omega) t hs)
  have q3 : (t : Int) < 17 := by omega
  clear h hu hs
  go_enter Tryz.func122, Tryz.ntmps122
  go_wp2_with (go_at_call 125; (with_reducible refine K.out.mono ?_); rintro e w1 ⟨rfl, V1, hq, hs⟩; have H1 := Lib.hid (H.out.by_prio hq hs); clear hq hs; have cv := H1.out.1.val t (by omega); have fz := H1.out.1.frozen)
  go_ret
  have H2 := H1.out.1.set_val t (by omega) i
  exact Did.mk H2.1 (H1.out.2.trans H2.2)
theorem fblock_no (h : PickAt w p D V S) (hu : Pr.Uniq S.Q) (t : Nat) (hs : Pr.seek S.Q t = none) :
    Calls Tryz.prog 122 #[.pointer (some ⟨p, 86, none⟩), .int .i64 t] w (Did p D V S (.int .i64 8) w) := by
  have H := Lib.hid h
  have K := Lib.hid (Pr.out_no h.prio (fun j hj => by have := hu.len hj; omega) t hs)
  clear h hu hs
  go_enter Tryz.func122, Tryz.ntmps122
  go_wp2_with (go_at_call 125; (with_reducible refine K.out.mono ?_); rintro e w1 ⟨rfl, V1, hq, hs⟩; have H1 := Lib.hid (H.out.by_prio hq hs); clear hq hs)
  go_ret
  exact Did.mk H1.out.1 H1.out.2
theorem fleave_yes (h : PickAt w p D V S) (hu : Pr.Uniq S.Q) (t : Nat) {i : Nat} (hs : Pr.seek S.Q t = some i) :
    Calls Tryz.prog 123 #[.pointer (some ⟨p, 86, none⟩), .int .i64 t] w (Did p D V { S with Q := upd S.Q i ((S.Q i).erase t) } (.int .i64 0) w) := by
  have H := Lib.hid h
  have K := Lib.hid (Pr.out_yes h.prio (fun j hj => by have := hu.len hj; omega) t hs)
  clear h hu hs
  go_enter Tryz.func123, Tryz.ntmps123
  go_wp2_with (go_at_call 125; (with_reducible refine K.out.mono ?_); rintro e w1 ⟨rfl, V1, hq, hs⟩; have H1 := Lib.hid (H.out.by_prio hq hs); clear hq hs)
  go_ret
  exact Did.mk H1.out.1 H1.out.2
theorem fleave_no (h : PickAt w p D V S) (hu : Pr.Uniq S.Q) (t : Nat) (hs : Pr.seek S.Q t = none) :
    Calls Tryz.prog 123 #[.pointer (some ⟨p, 86, none⟩), .int .i64 t] w (Did p D V S (.int .i64 0) w) := by
  have H := Lib.hid h
  have K := Lib.hid (Pr.out_no h.prio (fun j hj => by have := hu.len hj; omega) t hs)
  clear h hu hs
  go_enter Tryz.func123, Tryz.ntmps123
  go_wp2_with (go_at_call 125; (with_reducible refine K.out.mono ?_); rintro e w1 ⟨rfl, V1, hq, hs⟩; have H1 := Lib.hid (H.out.by_prio hq hs); clear hq hs)
  go_ret
  exact Did.mk H1.out.1 H1.out.2

theorem fwake_yes (h : PickAt w p D V S) (hu : Pr.Uniq S.Q) (t : Nat) (h1 : 1 ≤ t) (h2 : t ≤ 16) {v : Nat} (hv : v < 8) (ha : S.A t = v) (hs : Pr.seek S.Q t = none) :
    Calls Tryz.prog 124 #[.pointer (some ⟨p, 86, none⟩), .int .i64 t] w (Did p D V { S with Q := upd S.Q v (S.Q v ++ [(t : Int)]) } (.int .i64 0) w) := by
  have H := Lib.hid h
  have HU := Lib.hid hu
  have HS := Lib.hid hs
  have K := Lib.hid (fun W (hW : Only (fun _ => False) w W) => Pr.put_new (H.out.later hW).prio (fun j hj => by have := HU.out.len hj; omega) (t : Int) v (by omega) hv HS.out)
  have cv := h.val t (by omega)
  rw [ha] at cv
  have q3 : (t : Int) < 17 := by omega
  clear h hu hs ha
  go_enter Tryz.func124, Tryz.ntmps124
  go_wp2_with fail
  go_region_with (go_at_call 24; (with_reducible refine (K.out _ (Only.refl _ _).drew).mono ?_); rintro e w2 ⟨rfl, V1, hq, hs⟩; have H1 := Lib.hid ((H.out.later (Only.refl _ _).drew).by_prio hq hs); clear hq hs)
  all_goals (
    (try go_wp2_with fail)
    go_ret
    exact Did.mk H1.out.1 ((PStep.of_quiet (Only.refl _ _).drew).trans H1.out.2))
theorem fwake_no (h : PickAt w p D V S) (hu : Pr.Uniq S.Q) (t : Nat) (h1 : 1 ≤ t) (h2 : t ≤ 16) (ha : 0 ≤ S.A t ∧ S.A t < 8) {i : Nat} (hs : Pr.seek S.Q t = some i) :
    Calls Tryz.prog 124 #[.pointer (some ⟨p, 86, none⟩), .int .i64 t] w (Did p D V S (.int .i64 8) w) := by
  have H := Lib.hid h
  have HU := Lib.hid hu
  have HS := Lib.hid hs
  have HV := Lib.hid (show Pr.valid (S.A t) = true from decide_eq_true ha)
  have K := Lib.hid (fun W (hW : Only (fun _ => False) w W) => Pr.put_there (H.out.later hW).prio (fun j hj => by have := HU.out.len hj; omega) (t : Int) (S.A t) (by omega) HV.out HS.out)
  have cv := h.val t (by omega)
  have q3 : (t : Int) < 17 := by omega
  clear h hu hs ha
  go_enter Tryz.func124, Tryz.ntmps124
  go_wp2_with fail
  go_region_with (go_at_call 24; (with_reducible refine (K.out _ (Only.refl _ _).drew).mono ?_); rintro e w2 ⟨rfl, V1, hq, hs⟩; have H1 := Lib.hid ((H.out.later (Only.refl _ _).drew).by_prio hq hs); clear hq hs)
  all_goals (
    (try go_wp2_with fail)
    go_ret
    exact Did.mk H1.out.1 ((PStep.of_quiet (Only.refl _ _).drew).trans H1.out.2))

theorem fturn_yes (h : PickAt w p D V S) (hu : Pr.Uniq S.Q) {v : Nat} (ht : Pr.top S.Q = some v) (x : Int) (xs : List Int) (he : S.Q v = x :: xs) :
    Calls Tryz.prog 26 #[.pointer (some ⟨p, 86, none⟩)] w (Did p D V { S with Q := upd S.Q v (xs ++ [x]) } (.tuple #[]) w) := by
  have H := Lib.hid h
  have hv : v < 8 := (Pr.topTo_is ht).1
  have hl := hu.len hv
  rw [he] at hl
  have K := Lib.hid (Pr.first_is (Pr.first_any h.prio (fun j hj => by have := hu.len hj; omega)) ht)
  have K2 := Lib.hid (fun W (hW : Only (fun _ => False) w W) => Pr.turn_yes (H.out.later hW).prio v hv x xs he (by simp at hl; omega))
  clear h hu ht he hl
  go_enter Tryz.func26, Tryz.ntmps26
  go_wp2_with (first
    | (go_at_call 45; (with_reducible refine K.out.mono ?_); rintro e w1 ⟨rfl, hO⟩; have HO := Lib.hid hO; clear hO)
    | (go_at_call 57; (with_reducible refine (K2.out _ HO.out).mono ?_); rintro e w2 ⟨rfl, V1, hq, hs⟩; have H1 := Lib.hid ((H.out.later HO.out).by_prio hq hs); clear hq hs))
  go_returns
  exact Did.mk H1.out.1 ((PStep.of_quiet HO.out).trans H1.out.2)
end
end Go.Proofs.YtckaebpcghaobaaGreat.Pk
