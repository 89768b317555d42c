/- Texts of this claim, merged: ODPure, ODRes. -/
import Derived.Test.YtpincdcebhmnhaaGreatM04
import Derived.Deep.RegionHeld3
/- Package dead without memory: who goes next, and what stays in bounds. -/
namespace Go.Proofs.YtpincdcebhmnhaaGreat.De
set_option linter.unusedVariables false

/-- May it go? -/
def Can (x : Tk) : Prop := x.r = true ∧ x.o = false
instance (x : Tk) : Decidable (Can x) := by unfold Can; exact inferInstance

theorem pickTo_can (T : Tks) (k : Nat) (h : pickTo T k ≠ 0) : Can (T (pickTo T k)) ∧ pickTo T k < k := by
  induction k with
  | zero => exact absurd rfl h
  | succ k ih =>
    unfold pickTo at h ⊢
    split
    · rename_i c; exact ⟨⟨c.1, c.2.1⟩, by omega⟩
    · rename_i c; rw [if_neg c] at h; have := ih h; exact ⟨this.1, by omega⟩

theorem pickTo_first (T : Tks) (h0 : ¬ Can (T 0)) (k j : Nat) (hj : j < k) (hc : Can (T j)) :
    pickTo T k ≠ 0 ∧ ((T (pickTo T k)).d < (T j).d ∨ (T (pickTo T k)).d = (T j).d ∧ pickTo T k ≤ j) := by
  induction k with
  | zero => omega
  | succ k ih =>
    by_cases e : j = k
    · subst e
      have hj0 : j ≠ 0 := by rintro rfl; exact h0 hc
      by_cases h1 : pickTo T j = 0 ∨ (T j).d < (T (pickTo T j)).d
      · have : pickTo T (j + 1) = j := if_pos ⟨hc.1, hc.2, h1⟩
        rw [this]; exact ⟨hj0, Or.inr ⟨rfl, Nat.le_refl _⟩⟩
      · have : pickTo T (j + 1) = pickTo T j := if_neg (fun q => h1 q.2.2)
        rw [this]
        have h2 : pickTo T j ≠ 0 := fun q => h1 (Or.inl q)
        have h3 : ¬ (T j).d < (T (pickTo T j)).d := fun q => h1 (Or.inr q)
        have := (pickTo_can T j h2).2
        exact ⟨h2, by omega⟩
    · obtain ⟨i1, i2⟩ := ih (by omega)
      by_cases h1 : (T k).r = true ∧ (T k).o = false ∧ (pickTo T k = 0 ∨ (T k).d < (T (pickTo T k)).d)
      · have : pickTo T (k + 1) = k := if_pos h1
        rw [this]
        have h3 := h1.2.2.resolve_left i1
        exact ⟨by omega, by omega⟩
      · have : pickTo T (k + 1) = pickTo T k := if_neg h1
        rw [this]; exact ⟨i1, i2⟩

theorem pick_can {T : Tks} (h : pick T ≠ 0) : Can (T (pick T)) := (pickTo_can T 17 h).1
theorem pick_first {T : Tks} (h0 : ¬ Can (T 0)) {j : Nat} (hj : j < 17) (hc : Can (T j)) :
    pick T ≠ 0 ∧ ((T (pick T)).d < (T j).d ∨ (T (pick T)).d = (T j).d ∧ pick T ≤ j) := pickTo_first T h0 17 j hj hc
theorem pick_none {T : Tks} (h0 : ¬ Can (T 0)) (h : pick T = 0) {j : Nat} (hj : j < 17) : ¬ Can (T j) := fun hc => (pick_first h0 hj hc).1 h

theorem Fit.zero {T : Tks} {n : Int} (h : Fit T n) : ¬ Can (T 0) := fun c => h.rp 0 (by omega) c.1 h.no

theorem Fit.mono {T : Tks} {B C : Int} (h : Fit T B) (hB : B ≤ C) : Fit T C :=
  ⟨h.b, h.p, h.l, fun t ht => ⟨(h.d t ht).1, by have := (h.d t ht).2; omega⟩, h.no, h.rp, h.bp, h.lo⟩

/-- A task that is in bounds. -/
structure Ok (x : Tk) (n : Int) : Prop where
  b : 0 ≤ x.b ∧ x.b ≤ x.p
  p : x.p ≤ 30
  l : 0 ≤ x.l ∧ x.l ≤ x.b
  d : 0 ≤ x.d ∧ x.d ≤ n + 30
  rp : x.r = true → x.p ≠ 0
  bp : x.p ≠ 0 → 1 ≤ x.b
  lo : x.p ≠ 0 → (x.o = true ↔ x.l = 0)

theorem Fit.at {T : Tks} {n : Int} (h : Fit T n) {t : Nat} (ht : t < 17) : Ok (T t) n := ⟨h.b t ht, h.p t ht, h.l t ht, h.d t ht, h.rp t ht, h.bp t ht, h.lo t ht⟩
theorem Fit.of {T : Tks} {n : Int} (h : ∀ t, t < 17 → Ok (T t) n) (h0 : (T 0).p = 0) : Fit T n :=
  ⟨fun t ht => (h t ht).b, fun t ht => (h t ht).p, fun t ht => (h t ht).l, fun t ht => (h t ht).d, h0, fun t ht => (h t ht).rp, fun t ht => (h t ht).bp, fun t ht => (h t ht).lo⟩
theorem Fit.upd {T : Tks} {n : Int} (h : Fit T n) {t : Nat} {x : Tk} (hx : Ok x n) (h0 : t = 0 → x.p = 0) : Fit (upd T t x) n := by
  refine Fit.of (fun j hj => ?_) ?_
  · unfold De.upd; split
    · exact hx
    · exact h.at hj
  · unfold De.upd; split
    · rename_i e; exact h0 e.symm
    · exact h.no

theorem ok_no {n : Int} (hn : 0 ≤ n) : Ok ⟨0, 0, 0, 0, false, false⟩ n := ⟨by simp, by simp, by simp, ⟨by simp, show (0 : Int) ≤ n + 30 by omega⟩, by simp, by simp, by simp⟩
theorem Ok.fill {x : Tk} {m n s : Int} (h : Ok x m) (hp : x.p ≠ 0) (s0 : 0 ≤ s) (s1 : s ≤ n) : Ok (fill x s) n := by
  have := h.b; have := h.p; have := h.bp hp
  unfold De.fill
  refine ⟨h.b, h.p, ⟨by dsimp; omega, by dsimp; omega⟩, ⟨by dsimp; omega, by dsimp; omega⟩, fun _ => hp, h.bp, fun _ => ?_⟩
  dsimp
  constructor
  · intro q; cases q
  · intro q; omega
theorem Ok.use {x : Tk} {n : Int} (h : Ok x n) (hc : Can x) : Ok (use x) n := by
  have hp := h.rp hc.1
  have hl : x.l ≠ 0 := fun q => by have := (h.lo hp).mpr q; rw [hc.2] at this; cases this
  have := h.l
  unfold De.use
  refine ⟨h.b, h.p, ⟨by dsimp; omega, by dsimp; omega⟩, h.d, h.rp, h.bp, fun _ => ?_⟩
  simp
theorem Ok.again {x : Tk} {n : Int} (h : Ok x n) (hn : 0 ≤ n) (hp : x.p ≠ 0) : Ok (again x (n + 1)) (n + 1) := by
  unfold De.again
  split
  · rename_i c; exact h.fill hp h.d.1 c.2
  · exact ⟨h.b, h.p, h.l, ⟨h.d.1, by have := h.d.2; omega⟩, h.rp, h.bp, h.lo⟩
theorem Ok.woke {x : Tk} {n : Int} (h : Ok x n) (hn : 0 ≤ n) (hp : x.p ≠ 0) : Ok (woke x n) n := by
  have h2 : Ok ⟨x.b, x.p, x.l, x.d, true, x.o⟩ n := ⟨h.b, h.p, h.l, h.d, fun _ => hp, h.bp, h.lo⟩
  unfold De.woke
  split
  · exact h2.fill hp hn (Int.le_refl _)
  · exact h2
theorem Ok.slept {x : Tk} {n : Int} (h : Ok x n) : Ok ⟨x.b, x.p, x.l, x.d, false, x.o⟩ n := ⟨h.b, h.p, h.l, h.d, (by intro q; cases q), h.bp, h.lo⟩
theorem ok_came {b q n : Int} (b1 : 1 ≤ b) (b2 : b ≤ q) (q2 : q ≤ 30) (n0 : 0 ≤ n) : Ok ⟨b, q, b, n + q, true, false⟩ n := by
  refine ⟨⟨by dsimp; omega, b2⟩, q2, ⟨by dsimp; omega, by dsimp; omega⟩, ⟨by dsimp; omega, by dsimp; omega⟩, fun _ => by dsimp; omega, fun _ => b1, fun _ => ?_⟩
  dsimp
  constructor
  · intro q; cases q
  · intro q; omega

/-- Is a task without a period empty? -/
def Bare (T : Tks) : Prop := ∀ t, t < 17 → (T t).p = 0 → (T t).o = false

theorem again_p (x : Tk) (n : Int) : (again x n).p = x.p := by unfold again fill; split <;> rfl
theorem past_at (T : Tks) (n : Int) {t : Nat} (ht : t < 17) : past T n t = again (T t) (n + 1) := by unfold past pastTo; rw [if_pos ht]

theorem Fit.past {T : Tks} {n : Int} (h : Fit T n) (hB : Bare T) (hn : 0 ≤ n) : Fit (past T n) (n + 1) := by
  refine Fit.of (fun t ht => ?_) ?_
  · rw [past_at T n ht]
    by_cases hp : (T t).p = 0
    · have : again (T t) (n + 1) = T t := by unfold again; rw [if_neg (by rw [hB t ht hp]; simp)]
      rw [this]
      exact (h.mono (show n ≤ n + 1 by omega)).at ht
    · exact (h.at ht).again hn hp
  · rw [past_at T n (by omega), again_p]; exact h.no
theorem Bare.past {T : Tks} {n : Int} (hB : Bare T) : Bare (past T n) := by
  intro t ht hp
  rw [past_at T n ht] at hp ⊢
  rw [again_p] at hp
  have : again (T t) (n + 1) = T t := by unfold again; rw [if_neg (by rw [hB t ht hp]; simp)]
  rw [this]; exact hB t ht hp
theorem Bare.upd {T : Tks} (hB : Bare T) {t : Nat} {x : Tk} (hx : x.p = 0 → x.o = false) : Bare (upd T t x) := by
  intro j hj hp
  unfold De.upd at hp ⊢
  split
  · rename_i e; rw [if_pos e] at hp; exact hx hp
  · rename_i e; rw [if_neg e] at hp; exact hB j hj hp

theorem Fit.used {T : Tks} {n : Int} (h : Fit T n) (hm : pick T ≠ 0) : Fit (De.upd T (pick T) (use (T (pick T)))) n :=
  h.upd ((h.at (pick_lt T)).use (pick_can hm)) (fun e => absurd e hm)
theorem Bare.used {T : Tks} {n : Int} (hB : Bare T) (h : Fit T n) (hm : pick T ≠ 0) : Bare (De.upd T (pick T) (use (T (pick T)))) :=
  hB.upd (fun e => absurd e (h.rp _ (pick_lt T) (pick_can hm).1))
theorem Fit.tick {T : Tks} {n : Int} (h : Fit T n) (hB : Bare T) (hn : 0 ≤ n) : Fit (tick T n) (n + 1) := by
  unfold De.tick
  split
  · exact h.past hB hn
  · rename_i hm; exact (h.used hm).past (hB.used h hm) hn
theorem Bare.tick {T : Tks} {n : Int} (hB : Bare T) (h : Fit T n) : Bare (tick T n) := by
  unfold De.tick
  split
  · exact hB.past
  · rename_i hm; exact (hB.used h hm).past
end Go.Proofs.YtpincdcebhmnhaaGreat.De
/- Contract of package reserve's New. -/
namespace Go.Proofs.YtpincdcebhmnhaaGreat.De
open Go.ChangeShapes Go.WideShapes Go.ChangeAt Go.RowKit Go.Maps
set_option linter.unusedVariables false

theorem only1 {w w' : World} {p : Nat} (i : Nat) (u : Value) (h : Only (fun k => k = p) w w') : Only (fun k => k = p) w (w'.setCell ⟨p, i, none⟩ u) := h.setCell (p := ⟨p, i, none⟩) rfl u
theorem fill_blk {w : World} {g T : Nat} {b q l d : Int} {o : Bool} (hg : w.heap[g]? = some (.cells #[.int .i64 b, .int .i64 q, .int .i64 l, .int .i64 d, .bool o] T (0, 0))) (s : Int) (h1 : 0 ≤ s) (h2 : s ≤ 9000000000000000000) (p1 : 0 ≤ q) (p2 : q ≤ 30) :
    Calls Tryz.prog 74 #[.pointer (some ⟨g, 0, none⟩), .int .i64 s] w fun e w' => e = .returned (.tuple #[]) ∧ w'.heap[g]? = some (.cells #[.int .i64 b, .int .i64 q, .int .i64 b, .int .i64 (s + q), .bool false] T (0, 0)) ∧ Only (fun k => k = g) w w' := by
  have HG := Lib.hid hg
  have cb : w.cell? ⟨g, 0, none⟩ = some (.int .i64 b) := by rw [cell_at hg]; rfl
  have cp : w.cell? ⟨g, 1, none⟩ = some (.int .i64 q) := by rw [cell_at hg]; rfl
  have cl : w.cell? ⟨g, 2, none⟩ = some (.int .i64 l) := by rw [cell_at hg]; rfl
  have cd : w.cell? ⟨g, 3, none⟩ = some (.int .i64 d) := by rw [cell_at hg]; rfl
  have co : w.cell? ⟨g, 4, none⟩ = some (.bool o) := by rw [cell_at hg]; rfl
  have fz : ∀ j, w.frozen? ⟨g, j, none⟩ = false := frozen_at hg
  clear hg
  go_enter Tryz.func74, Tryz.ntmps74
  go_wp2
  go_end0
  refine ⟨rfl, ?_, only1 _ _ (only1 _ _ (only1 _ _ (Only.refl _ _)))⟩
  have h3 := heap_setCell_same _ g 2 _ _ (.int .i64 b) HG.out
  have h4 := heap_setCell_same _ g 3 _ _ (.int .i64 (s + q)) h3
  have h5 := heap_setCell_same _ g 4 _ _ (.bool false) h4
  exact h5

theorem resnew_any (b q s : Int) (h1 : 0 ≤ s) (h2 : s ≤ 9000000000000000000) (p1 : 0 ≤ q) (p2 : q ≤ 30) (w : World) :
    Calls Tryz.prog 60 #[.int .i64 b, .int .i64 q, .int .i64 s] w fun e w' => e = .returned (.agg #[.int .i64 b, .int .i64 q, .int .i64 b, .int .i64 (s + q), .bool false]) ∧ Only (fun _ => False) w w' := by
  go_enter Tryz.func60, Tryz.ntmps60
  go_upto_region 2 with fail
  obtain ⟨W, hW⟩ : ∃ W, (w.alloc (.cells #[.int .i64 0, .int .i64 0, .int .i64 0, .int .i64 0, .bool false] 67)).alloc (.cells #[.int .i64 b, .int .i64 q, .int .i64 0, .int .i64 0, .bool false] 67) = W := ⟨_, rfl⟩
  have ba : W.heap[w.heap.size]? = some (.cells #[.int .i64 0, .int .i64 0, .int .i64 0, .int .i64 0, .bool false] 67 (0, 0)) := by rw [← hW]; exact heap_alloc2_old w _ _
  have bb : W.heap[w.heap.size + 1]? = some (.cells #[.int .i64 b, .int .i64 q, .int .i64 0, .int .i64 0, .bool false] 67 (0, 0)) := by rw [← hW]; exact heap_alloc2_new w _ _
  have HO : Hid (Only (fun _ => False) w W) := Lib.hid (by rw [← hW]; exact ((Only.refl _ w).alloc _).alloc _)
  have hlt := block_there ba
  have HC := Lib.hid (fill_blk bb s h1 h2 p1 p2)
  rw [hW]
  have HBA := Lib.hid ba
  clear hW ba bb
  go_upto_region 3 with (go_at_call 74; (with_reducible refine HC.out.mono ?_); rintro e w2 ⟨rfl, hg, hO⟩; have HG := Lib.hid hg; have HO2 := Lib.hid hO; clear hg hO)
  have ba2 : w2.heap[w.heap.size]? = some (.cells #[.int .i64 0, .int .i64 0, .int .i64 0, .int .i64 0, .bool false] 67 (0, 0)) := (HO2.out.block _ hlt (by omega)).trans HBA.out
  have c0 : w2.cell? ⟨w.heap.size + 1, 0, none⟩ = some (.int .i64 b) := by rw [cell_at HG.out]; rfl
  have c1 : w2.cell? ⟨w.heap.size + 1, 1, none⟩ = some (.int .i64 q) := by rw [cell_at HG.out]; rfl
  have c2 : w2.cell? ⟨w.heap.size + 1, 2, none⟩ = some (.int .i64 b) := by rw [cell_at HG.out]; rfl
  have c3 : w2.cell? ⟨w.heap.size + 1, 3, none⟩ = some (.int .i64 (s + q)) := by rw [cell_at HG.out]; rfl
  have c4 : w2.cell? ⟨w.heap.size + 1, 4, none⟩ = some (.bool false) := by rw [cell_at HG.out]; rfl
  have d0 : w2.cell? ⟨w.heap.size, 0, none⟩ = some (.int .i64 0) := by rw [cell_at ba2]; rfl
  have d1 : w2.cell? ⟨w.heap.size, 1, none⟩ = some (.int .i64 0) := by rw [cell_at ba2]; rfl
  have d2 : w2.cell? ⟨w.heap.size, 2, none⟩ = some (.int .i64 0) := by rw [cell_at ba2]; rfl
  have d3 : w2.cell? ⟨w.heap.size, 3, none⟩ = some (.int .i64 0) := by rw [cell_at ba2]; rfl
  have d4 : w2.cell? ⟨w.heap.size, 4, none⟩ = some (.bool false) := by rw [cell_at ba2]; rfl
  have fz : ∀ j, w2.frozen? ⟨w.heap.size, j, none⟩ = false := frozen_at ba2
  have HB2 := Lib.hid ba2
  clear ba2
  go_wp2_with fail
  have e5 := heap_setCell_same _ w.heap.size 4 _ _ (.bool false) (heap_setCell_same _ w.heap.size 3 _ _ (.int .i64 (s + q)) (heap_setCell_same _ w.heap.size 2 _ _ (.int .i64 b) (heap_setCell_same _ w.heap.size 1 _ _ (.int .i64 q) (heap_setCell_same _ w.heap.size 0 _ _ (.int .i64 b) HB2.out))))
  refine bodyPost_ret (results_cell_row rfl _ _ w.heap.size _ #[.int .i64 b, .int .i64 q, .int .i64 b, .int .i64 (s + q), .bool false] _ _ (by rfl) (by simpa using e5) Tryz.underlying67 rfl (by kernel_rfl)) rfl ?_
  refine ⟨rfl, ?_⟩
  have hA := HO.out.trans HO2.out (T := fun k => k = w.heap.size + 1) (fun x hx e => by omega)
  exact (hA.mono (T := fun k => w.heap.size ≤ k) (fun _ _ e => e.elim)).setCell (p := ⟨w.heap.size, 0, none⟩) (Nat.le_refl _) _ |>.setCell (p := ⟨w.heap.size, 1, none⟩) (Nat.le_refl _) _ |>.setCell (p := ⟨w.heap.size, 2, none⟩) (Nat.le_refl _) _ |>.setCell (p := ⟨w.heap.size, 3, none⟩) (Nat.le_refl _) _ |>.setCell (p := ⟨w.heap.size, 4, none⟩) (Nat.le_refl _) _ |>.mono (fun x hx e => by omega)

end Go.Proofs.YtpincdcebhmnhaaGreat.De
