/- Texts of this claim, merged: OFOps. -/
import Derived.Test.YtpincdcebhmnhaaGreatM01
import Derived.Test.YtpincdcebhmnhaaGreatM02
/- Contracts of package fair: New, At, GroupAt, Block, Wake, Leave, Group, Add, Tick. -/
namespace Go.Proofs.YtpincdcebhmnhaaGreat.Fr
open Go.ChangeShapes Go.WideShapes Go.ChangeAt Go.RowKit Go.Maps
open Go.Proofs.YtpincdcebhmnhaaGreat.Vt
set_option linter.unusedVariables false

/-- Is this the number of a task that is there? -/
def isTask (T : Tks) (t : Int) : Prop := 1 ≤ t ∧ t ≤ 16 ∧ (T t.toNat).c ≠ 0
/-- Is this the number of a group that is there? -/
def isGroup (G : Grs) (g : Int) : Prop := 1 ≤ g ∧ g ≤ 8 ∧ (G g.toNat).c ≠ 0
instance (T : Tks) (t : Int) : Decidable (isTask T t) := by unfold isTask; exact inferInstance
instance (G : Grs) (g : Int) : Decidable (isGroup G g) := by unfold isGroup; exact inferInstance

/-- What is known behind a call that changes a class. -/
def FKeep (w : World) (p o D : Nat) (v : Value) (T : Tks) (G : Grs) (e : Ending) (w' : World) : Prop := e = .returned v ∧ FairAt w' p o D T G ∧ Within p o 86 w w'

def noT : Tks := fun _ => ⟨0, 0, 0, false⟩
def noG : Grs := fun _ => ⟨0, 0⟩

theorem lt17 {P : Nat → Prop} (h : P 0 ∧ P 1 ∧ P 2 ∧ P 3 ∧ P 4 ∧ P 5 ∧ P 6 ∧ P 7 ∧ P 8 ∧ P 9 ∧ P 10 ∧ P 11 ∧ P 12 ∧ P 13 ∧ P 14 ∧ P 15 ∧ P 16) (t : Nat) (ht : t < 17) : P t := by
  obtain ⟨h0, h1, h2, h3, h4, h5, h6, h7, h8, h9, h10, h11, h12, h13, h14, h15, h16⟩ := h
  rcases (show t = 0 ∨ t = 1 ∨ t = 2 ∨ t = 3 ∨ t = 4 ∨ t = 5 ∨ t = 6 ∨ t = 7 ∨ t = 8 ∨ t = 9 ∨ t = 10 ∨ t = 11 ∨ t = 12 ∨ t = 13 ∨ t = 14 ∨ t = 15 ∨ t = 16 by omega) with rfl | rfl | rfl | rfl | rfl | rfl | rfl | rfl | rfl | rfl | rfl | rfl | rfl | rfl | rfl | rfl | rfl <;> assumption
theorem lt9 {P : Nat → Prop} (h : P 0 ∧ P 1 ∧ P 2 ∧ P 3 ∧ P 4 ∧ P 5 ∧ P 6 ∧ P 7 ∧ P 8) (t : Nat) (ht : t < 9) : P t := by
  obtain ⟨h0, h1, h2, h3, h4, h5, h6, h7, h8⟩ := h
  rcases (show t = 0 ∨ t = 1 ∨ t = 2 ∨ t = 3 ∨ t = 4 ∨ t = 5 ∨ t = 6 ∨ t = 7 ∨ t = 8 by omega) with rfl | rfl | rfl | rfl | rfl | rfl | rfl | rfl | rfl <;> assumption

theorem cells_zero : Cells 0 Tryz.zeroCells60 noT noG :=
  ⟨by decide, lt17 (by repeat' constructor), lt17 (by repeat' constructor), lt17 (by repeat' constructor), lt17 (by repeat' constructor), lt9 (by repeat' constructor), lt9 (by repeat' constructor)⟩


section
variable {w : World} {p o D : Nat} {T : Tks} {G : Grs}

theorem FairAt.set_task (h : FairAt w p o D T G) (t : Nat) (ht : t < 17) (c v g : Int) (b : Bool) :
    FairAt ((((w.setCell ⟨p, o + t * 4, none⟩ (.int .i64 c)).setCell ⟨p, o + t * 4 + 1, none⟩ (.int .i64 v)).setCell ⟨p, o + t * 4 + 2, none⟩ (.int .i64 g)).setCell ⟨p, o + t * 4 + 3, none⟩ (.bool b)) p o D (upd T t ⟨c, v, g, b⟩) G := by
  have := (((h.set_tc t ht c).set_tv t ht v).set_tg t ht g).set_tr t ht b
  simpa only [upd_upd, upd_same] using this
theorem only_set4 (w : World) (p o i j k l : Nat) (a b c d : Value) (h1 : o ≤ i ∧ i < o + 86) (h2 : o ≤ j ∧ j < o + 86) (h3 : o ≤ k ∧ k < o + 86) (h4 : o ≤ l ∧ l < o + 86) :
    Within p o 86 w ((((w.setCell ⟨p, i, none⟩ a).setCell ⟨p, j, none⟩ b).setCell ⟨p, k, none⟩ c).setCell ⟨p, l, none⟩ d) :=
  ((((Within.refl p o 86 w).setCell h1 a).setCell h2 b).setCell h3 c).setCell h4 d

theorem find_no (h : FairAt w p o D T G) (t : Int) (ht : ¬ isTask T t) :
    Calls Tryz.prog 51 #[.pointer (some ⟨p, o, none⟩), .int .i64 t] w fun e w' => e = .returned (.pointer none) ∧ w = w' := by
  by_cases h1 : t < 1 ∨ 16 < t
  · exact find_out h t h1
  · obtain ⟨k, rfl⟩ : ∃ k : Nat, t = k := ⟨t.toNat, by omega⟩
    exact find_none h k (by omega) (by omega) (by
      apply Decidable.byContradiction; intro hc; exact ht ⟨by omega, by omega, by simpa using hc⟩)

theorem group_no (h : FairAt w p o D T G) (t : Int) (ht : ¬ isGroup G t) :
    Calls Tryz.prog 52 #[.pointer (some ⟨p, o, none⟩), .int .i64 t] w fun e w' => e = .returned (.pointer none) ∧ w = w' := by
  by_cases h1 : t < 1 ∨ 8 < t
  · exact group_out h t h1
  · obtain ⟨k, rfl⟩ : ∃ k : Nat, t = k := ⟨t.toNat, by omega⟩
    exact group_none h k (by omega) (by omega) (by
      apply Decidable.byContradiction; intro hc; exact ht ⟨by omega, by omega, by simpa using hc⟩)

theorem block_no (h : FairAt w p o D T G) (t : Int) (ht : ¬ isTask T t) :
    Calls Tryz.prog 121 #[.pointer (some ⟨p, o, none⟩), .int .i64 t] w fun e w' => e = .returned (.int .i64 4) ∧ w = w' := by
  have c := Lib.hid (find_no h t ht)
  clear h ht
  go_enter Tryz.func121, Tryz.ntmps121
  go_wp2_with (go_at_call 51; (with_reducible refine c.out.mono ?_); rintro e w' ⟨rfl, rfl⟩)
  go_ret
  exact ⟨rfl, rfl⟩

theorem block_state (h : FairAt w p o D T G) (t : Nat) (h1 : 1 ≤ t) (h2 : t ≤ 16) (hc : (T t).c ≠ 0) (hr : (T t).r = false) :
    Calls Tryz.prog 121 #[.pointer (some ⟨p, o, none⟩), .int .i64 t] w fun e w' => e = .returned (.int .i64 8) ∧ w = w' := by
  have c := Lib.hid (find_yes h t h1 h2 hc)
  have cr := h.tr t (by omega)
  rw [hr] at cr
  clear h hc hr
  go_enter Tryz.func121, Tryz.ntmps121
  go_wp2_with (go_at_call 51; (with_reducible refine c.out.mono ?_); rintro e w' ⟨rfl, rfl⟩)
  go_ret
  exact ⟨rfl, rfl⟩

theorem block_yes (h : FairAt w p o D T G) (t : Nat) (h1 : 1 ≤ t) (h2 : t ≤ 16) (hc : (T t).c ≠ 0) (hr : (T t).r = true) :
    Calls Tryz.prog 121 #[.pointer (some ⟨p, o, none⟩), .int .i64 t] w (FKeep w p o D (.int .i64 0) (upd T t ⟨(T t).c, (T t).v, (T t).g, false⟩) G) := by
  have c := Lib.hid (find_yes h t h1 h2 hc)
  have H := Lib.hid h
  have cr := h.tr t (by omega)
  have fz := h.frozen
  rw [hr] at cr
  clear h hc hr
  go_enter Tryz.func121, Tryz.ntmps121
  go_wp2_with (go_at_call 51; (with_reducible refine c.out.mono ?_); rintro e w' ⟨rfl, rfl⟩)
  go_ret
  exact ⟨rfl, H.out.set_tr t (by omega) false, only_set1 H.out.lt (Only.refl _ _) _ _ (by omega)⟩

theorem wk_no (h : FairAt w p o D T G) (t : Int) (ht : ¬ isTask T t) :
    Calls Tryz.prog 123 #[.pointer (some ⟨p, o, none⟩), .int .i64 t] w fun e w' => e = .returned (.int .i64 4) ∧ w = w' := by
  have c := Lib.hid (find_no h t ht)
  clear h ht
  go_enter Tryz.func123, Tryz.ntmps123
  go_wp2_with (go_at_call 51; (with_reducible refine c.out.mono ?_); rintro e w' ⟨rfl, rfl⟩)
  go_ret
  exact ⟨rfl, rfl⟩

theorem wk_state (h : FairAt w p o D T G) (t : Nat) (h1 : 1 ≤ t) (h2 : t ≤ 16) (hc : (T t).c ≠ 0) (hr : (T t).r = true) :
    Calls Tryz.prog 123 #[.pointer (some ⟨p, o, none⟩), .int .i64 t] w fun e w' => e = .returned (.int .i64 8) ∧ w = w' := by
  have c := Lib.hid (find_yes h t h1 h2 hc)
  have cr := h.tr t (by omega)
  rw [hr] at cr
  clear h hc hr
  go_enter Tryz.func123, Tryz.ntmps123
  go_wp2_with (go_at_call 51; (with_reducible refine c.out.mono ?_); rintro e w' ⟨rfl, rfl⟩)
  go_ret
  exact ⟨rfl, rfl⟩

theorem wk_yes (h : FairAt w p o D T G) (t : Nat) (h1 : 1 ≤ t) (h2 : t ≤ 16) (hc : (T t).c ≠ 0) (hr : (T t).r = false) (hg0 : 0 ≤ (T t).g) (hg8 : (T t).g ≤ 8) :
    Calls Tryz.prog 123 #[.pointer (some ⟨p, o, none⟩), .int .i64 t] w (FKeep w p o D (.int .i64 0) (wokeT T G t) (wokeG T G t)) := by
  have c := Lib.hid (find_yes h t h1 h2 hc)
  have c2 := Lib.hid (wake_any h t (by omega) hg0 hg8)
  have cr := h.tr t (by omega)
  rw [hr] at cr
  clear h hc hr hg0 hg8
  go_enter Tryz.func123, Tryz.ntmps123
  go_wp2_with (first
    | (go_at_call 51; (with_reducible refine c.out.mono ?_); rintro e w' ⟨rfl, rfl⟩)
    | (go_at_call 53; (with_reducible refine c2.out.mono ?_); rintro e w' ⟨rfl, hF, hO⟩; have HF := Lib.hid hF; have HO := Lib.hid hO; clear hF hO))
  go_ret
  exact ⟨rfl, HF.out, HO.out⟩

theorem leave_no (h : FairAt w p o D T G) (t : Int) (ht : ¬ isTask T t) :
    Calls Tryz.prog 122 #[.pointer (some ⟨p, o, none⟩), .int .i64 t] w fun e w' => e = .returned (.int .i64 4) ∧ w = w' := by
  have c := Lib.hid (find_no h t ht)
  clear h ht
  go_enter Tryz.func122, Tryz.ntmps122
  go_wp2_with (go_at_call 51; (with_reducible refine c.out.mono ?_); rintro e w' ⟨rfl, rfl⟩)
  go_ret
  exact ⟨rfl, rfl⟩

theorem leave_yes (h : FairAt w p o D T G) (t : Nat) (h1 : 1 ≤ t) (h2 : t ≤ 16) (hc : (T t).c ≠ 0) :
    Calls Tryz.prog 122 #[.pointer (some ⟨p, o, none⟩), .int .i64 t] w (FKeep w p o D (.int .i64 0) (upd T t ⟨0, 0, 0, false⟩) G) := by
  have c := Lib.hid (find_yes h t h1 h2 hc)
  have H := Lib.hid h
  have cc := h.tc t (by omega)
  have cv := h.tv t (by omega)
  have cg := h.tg t (by omega)
  have cr := h.tr t (by omega)
  have fz := h.frozen
  clear h hc
  go_enter Tryz.func122, Tryz.ntmps122
  go_wp2_with (go_at_call 51; (with_reducible refine c.out.mono ?_); rintro e w' ⟨rfl, rfl⟩)
  go_ret
  exact ⟨rfl, H.out.set_task t (by omega) 0 0 0 false, only_set4 w p o _ _ _ _ _ _ _ _ (by omega) (by omega) (by omega) (by omega)⟩

/-- The tasks and the groups behind Add. -/
def addT (T : Tks) (G : Grs) (t : Nat) (c g : Int) : Tks := wokeT (upd T t ⟨c, 0, g, false⟩) G t
def addG (T : Tks) (G : Grs) (t : Nat) (c g : Int) : Grs := wokeG (upd T t ⟨c, 0, g, false⟩) G t

theorem add_bad (h : FairAt w p o D T G) (t x g : Int) (hb : isW x = false ∨ t < 1 ∨ 16 < t ∨ g < 0 ∨ 8 < g) :
    Calls Tryz.prog 23 #[.pointer (some ⟨p, o, none⟩), .int .i64 t, .int .i64 x, .int .i64 g] w fun e w' => e = .returned (.int .i64 1) ∧ w = w' := by
  clear h
  cases hx : isW x with
  | false =>
    have k := Lib.hid (cost_no x w hx)
    clear hb hx
    go_enter Tryz.func23, Tryz.ntmps23
    go_wp2_with (go_at_call 50; (with_reducible refine k.out.mono ?_); rintro e w' ⟨rfl, rfl⟩)
    go_ret
    exact ⟨rfl, rfl⟩
  | true =>
    have k := Lib.hid (cost_yes x w hx)
    rw [hx] at hb
    have hb' : t < 1 ∨ 16 < t ∨ g < 0 ∨ 8 < g := by rcases hb with h | h; cases h; exact h
    clear hb hx
    by_cases h1 : t < 1
    · clear hb'
      go_enter Tryz.func23, Tryz.ntmps23
      go_wp2_with (go_at_call 50; (with_reducible refine k.out.mono ?_); rintro e w' ⟨rfl, rfl⟩)
      go_ret
      exact ⟨rfl, rfl⟩
    · by_cases h2 : 16 < t
      · clear hb'
        go_enter Tryz.func23, Tryz.ntmps23
        go_wp2_with (go_at_call 50; (with_reducible refine k.out.mono ?_); rintro e w' ⟨rfl, rfl⟩)
        go_ret
        exact ⟨rfl, rfl⟩
      · by_cases h3 : g < 0
        · clear hb'
          go_enter Tryz.func23, Tryz.ntmps23
          go_wp2_with (go_at_call 50; (with_reducible refine k.out.mono ?_); rintro e w' ⟨rfl, rfl⟩)
          go_ret
          exact ⟨rfl, rfl⟩
        · have h4 : 8 < g := by omega
          clear hb'
          go_enter Tryz.func23, Tryz.ntmps23
          go_wp2_with (go_at_call 50; (with_reducible refine k.out.mono ?_); rintro e w' ⟨rfl, rfl⟩)
          go_ret
          exact ⟨rfl, rfl⟩

theorem add_there (h : FairAt w p o D T G) (t : Nat) (x g : Int) (hx : isW x = true) (h1 : 1 ≤ t) (h2 : t ≤ 16) (g0 : 0 ≤ g) (g8 : g ≤ 8) (hc : (T t).c ≠ 0) :
    Calls Tryz.prog 23 #[.pointer (some ⟨p, o, none⟩), .int .i64 t, .int .i64 x, .int .i64 g] w fun e w' => e = .returned (.int .i64 5) ∧ w = w' := by
  have k := Lib.hid (cost_yes x w hx)
  have c := Lib.hid (find_yes h t h1 h2 hc)
  have q1 : ¬ (t : Int) < 1 := by omega
  have q2 : ¬ 16 < (t : Int) := by omega
  have q3 : ¬ g < 0 := by omega
  have q4 : ¬ 8 < g := by omega
  clear h hc hx
  go_enter Tryz.func23, Tryz.ntmps23
  go_wp2_with (first
    | (go_at_call 50; (with_reducible refine k.out.mono ?_); rintro e w' ⟨rfl, rfl⟩)
    | (go_at_call 51; (with_reducible refine c.out.mono ?_); rintro e w' ⟨rfl, rfl⟩))
  go_ret
  exact ⟨rfl, rfl⟩

theorem add_none (h : FairAt w p o D T G) (t : Nat) (x : Int) (g : Nat) (hx : isW x = true) (h1 : 1 ≤ t) (h2 : t ≤ 16) (g1 : 1 ≤ g) (g8 : g ≤ 8) (hc : (T t).c = 0) (hg : (G g).c = 0) :
    Calls Tryz.prog 23 #[.pointer (some ⟨p, o, none⟩), .int .i64 t, .int .i64 x, .int .i64 g] w fun e w' => e = .returned (.int .i64 4) ∧ w = w' := by
  have k := Lib.hid (cost_yes x w hx)
  have c := Lib.hid (find_none h t h1 h2 hc)
  have d := Lib.hid (group_none h g g1 g8 hg)
  have q1 : ¬ (t : Int) < 1 := by omega
  have q2 : ¬ 16 < (t : Int) := by omega
  have q3 : ¬ (g : Int) < 0 := by omega
  have q4 : ¬ 8 < (g : Int) := by omega
  have q5 : ((g : Int) != 0) = true := by simp; omega
  clear h hc hx hg
  go_enter Tryz.func23, Tryz.ntmps23
  go_wp2_with (first
    | (go_at_call 50; (with_reducible refine k.out.mono ?_); rintro e w' ⟨rfl, rfl⟩)
    | (go_at_call 51; (with_reducible refine c.out.mono ?_); rintro e w' ⟨rfl, rfl⟩)
    | (go_at_call 52; (with_reducible refine d.out.mono ?_); rintro e w' ⟨rfl, rfl⟩))
  go_ret
  exact ⟨rfl, rfl⟩

theorem add_yes (h : FairAt w p o D T G) (t : Nat) (x : Int) (g : Nat) (hx : isW x = true) (h1 : 1 ≤ t) (h2 : t ≤ 16) (g8 : g ≤ 8) (hc : (T t).c = 0) (hg : g = 0 ∨ (G g).c ≠ 0) :
    Calls Tryz.prog 23 #[.pointer (some ⟨p, o, none⟩), .int .i64 t, .int .i64 x, .int .i64 g] w (FKeep w p o D (.int .i64 0) (addT T G t (costOf x) g) (addG T G t (costOf x) g)) := by
  have H := Lib.hid h
  have k := Lib.hid (cost_yes x w hx)
  have c := Lib.hid (find_none h t h1 h2 hc)
  have q1 : ¬ (t : Int) < 1 := by omega
  have q2 : ¬ 16 < (t : Int) := by omega
  have q3 : ¬ (g : Int) < 0 := by omega
  have q4 : ¬ 8 < (g : Int) := by omega
  have q6 : (t : Int) < 17 := by omega
  have cc := h.tc t (by omega)
  have cv := h.tv t (by omega)
  have cg := h.tg t (by omega)
  have cr := h.tr t (by omega)
  have fz := h.frozen
  generalize costOf x = cx at *
  by_cases hz : g = 0
  · subst hz
    have c3 := Lib.hid (wake_any (H.out.set_task t (by omega) cx 0 0 false) t (by omega) (by rw [upd_same]; simp) (by rw [upd_same]; simp))
    have HA : Hid (addT T G t cx 0 = wokeT (upd T t ⟨cx, 0, 0, false⟩) G t) := Lib.hid rfl
    have HB : Hid (addG T G t cx 0 = wokeG (upd T t ⟨cx, 0, 0, false⟩) G t) := Lib.hid rfl
    rw [← HA.out, ← HB.out] at c3
    clear h hc hx hg
    go_enter Tryz.func23, Tryz.ntmps23
    go_wp2_with (first
      | (go_at_call 50; (with_reducible refine k.out.mono ?_); rintro e w' ⟨rfl, rfl⟩)
      | (go_at_call 51; (with_reducible refine c.out.mono ?_); rintro e w' ⟨rfl, rfl⟩)
      | (go_at_call 53; (with_reducible refine c3.out.mono ?_); rintro e w' ⟨rfl, hF, hO⟩; have HF := Lib.hid hF; have HO := Lib.hid hO; clear hF hO))
    go_ret
    exact ⟨rfl, HF.out, (only_set4 w p o _ _ _ _ _ _ _ _ (by omega) (by omega) (by omega) (by omega)).trans HO.out (fun _ _ h => h)⟩
  · have d := Lib.hid (group_yes h g (by omega) g8 (by rcases hg with e | e; exact absurd e hz; exact e))
    have c3 := Lib.hid (wake_any (H.out.set_task t (by omega) cx 0 g false) t (by omega) (by rw [upd_same]; simp) (by rw [upd_same]; simp; omega))
    have HA : Hid (addT T G t cx g = wokeT (upd T t ⟨cx, 0, g, false⟩) G t) := Lib.hid rfl
    have HB : Hid (addG T G t cx g = wokeG (upd T t ⟨cx, 0, g, false⟩) G t) := Lib.hid rfl
    rw [← HA.out, ← HB.out] at c3
    have q5 : ((g : Int) != 0) = true := by simp; omega
    clear h hc hx hg
    go_enter Tryz.func23, Tryz.ntmps23
    go_wp2_with (first
      | (go_at_call 50; (with_reducible refine k.out.mono ?_); rintro e w' ⟨rfl, rfl⟩)
      | (go_at_call 51; (with_reducible refine c.out.mono ?_); rintro e w' ⟨rfl, rfl⟩)
      | (go_at_call 52; (with_reducible refine d.out.mono ?_); rintro e w' ⟨rfl, rfl⟩)
      | (go_at_call 53; (with_reducible refine c3.out.mono ?_); rintro e w' ⟨rfl, hF, hO⟩; have HF := Lib.hid hF; have HO := Lib.hid hO; clear hF hO))
    go_ret
    exact ⟨rfl, HF.out, (only_set4 w p o _ _ _ _ _ _ _ _ (by omega) (by omega) (by omega) (by omega)).trans HO.out (fun _ _ h => h)⟩

/-- The tasks and the groups behind a tick for task n. -/
def tickT (T : Tks) (n : Nat) : Tks := upd T n ⟨(T n).c, (T n).v + (T n).c, (T n).g, (T n).r⟩
def tickG (T : Tks) (G : Grs) (n : Nat) : Grs := if (T n).g = 0 then G else upd G (T n).g.toNat ⟨(G (T n).g.toNat).c, (G (T n).g.toNat).v + (G (T n).g.toNat).c⟩

theorem tick_none (h : FairAt w p o D T G) (hn : (next T G).1 = 0) :
    Calls Tryz.prog 27 #[.pointer (some ⟨p, o, none⟩)] w fun e w' => e = .returned (.tuple #[.int .i64 0, .int .i64 4]) ∧ Only (fun _ => False) w w' := by
  have k := Lib.hid (pick_any h)
  have e : pickAns T G = (0, 4) := by unfold pickAns; rw [if_pos hn]
  rw [e] at k
  clear h hn e
  go_enter Tryz.func27, Tryz.ntmps27
  go_wp2_with (go_at_call 46; (with_reducible refine k.out.mono ?_); rintro e w' ⟨rfl, hO⟩; have HO := Lib.hid hO; clear hO)
  go_ret2
  exact ⟨rfl, HO.out⟩

set_option maxHeartbeats 400000 in
set_option maxRecDepth 100000 in
theorem tick_yes {B : Int} (h : FairAt w p o D T G) (hb : Fit T G B) (hB : B ≤ 9000000000000000000) (hn : (next T G).1 ≠ 0) :
    Calls Tryz.prog 27 #[.pointer (some ⟨p, o, none⟩)] w (FKeep w p o D (.tuple #[.int .i64 ((next T G).1 : Nat), .int .i64 0]) (tickT T (next T G).1) (tickG T G (next T G).1)) := by
  have H := Lib.hid h
  have k := Lib.hid (pick_any h)
  have e : pickAns T G = (((next T G).1 : Int), 0) := by unfold pickAns; rw [if_neg hn]
  rw [e] at k
  have hl := next_lt T G
  clear h e
  generalize (next T G).1 = n at *
  have n1 : (n : Int) < 17 := by omega
  have v0 := hb.v n hl
  have c0 := hb.c n hl
  have g0 := hb.g n hl
  have q1 : IntKind.i64.wrap ((T n).v + (T n).c) = (T n).v + (T n).c := IntWalk.i64_in _ (by omega)
  have Q1 := Lib.hid q1
  clear q1
  have HT : Hid (tickT T n = upd T n ⟨(T n).c, (T n).v + (T n).c, (T n).g, (T n).r⟩) := Lib.hid rfl
  by_cases hg : (T n).g = 0
  · have HG : Hid (tickG T G n = G) := by unfold tickG; rw [if_pos hg]; exact Lib.hid rfl
    have HG0 := Lib.hid hg
    clear hg hb
    go_enter Tryz.func27, Tryz.ntmps27
    go_wp2_with (go_at_call 46; (with_reducible refine k.out.mono ?_); rintro e w1 ⟨rfl, hO⟩; have HO := Lib.hid hO; clear hO)
    refine wp_region_still_tail 14 (by kernel_rfl) (by kernel_rfl) ?_
    have HD : Hid (Only (fun _ => False) w w1.drew) := Lib.hid HO.out.drew
    have cv3 : w1.drew.cell? ⟨p, o + n * 4 + 1, none⟩ = some (.int .i64 (T n).v) := (H.out.later HO.out).tv n hl
    have cc3 : w1.drew.cell? ⟨p, o + n * 4, none⟩ = some (.int .i64 (T n).c) := (H.out.later HO.out).tc n hl
    have cg3 : w1.drew.cell? ⟨p, o + n * 4 + 2, none⟩ = some (.int .i64 0) := by rw [← HG0.out]; exact (H.out.later HO.out).tg n hl
    have fz3 : ∀ j, w1.drew.frozen? ⟨p, j, none⟩ = false := (H.out.later HO.out).frozen
    show wpStill _ _ w1.drew (fun a' => wpList _ _ _ _ a' w1.drew) _ _
    generalize w1.drew = w3 at *
    simp only [List.take_succ_cons, List.take_zero, List.drop_succ_cons, List.drop_zero]
    repeat still_step
    refine wpStill_nil ?_
    go_wp2
    go_ret2
    refine ⟨rfl, ?_, only_set1 H.out.lt HD.out _ _ (by omega)⟩
    rw [HT.out, HG.out]
    exact (H.out.later HD.out).set_tv n hl _
  · obtain ⟨g, hgg⟩ : ∃ g : Nat, (T n).g = g := ⟨(T n).g.toNat, by omega⟩
    have hgt : (T n).g.toNat = g := by omega
    have HG : Hid (tickG T G n = upd G g ⟨(G g).c, (G g).v + (G g).c⟩) := by unfold tickG; rw [if_neg hg, hgt]; exact Lib.hid rfl
    have HG0 := Lib.hid hgg
    have hg9 : g < 9 := by omega
    have g1 : (g : Int) < 9 := by omega
    have g3 : ((g : Int) != 0) = true := by simp; omega
    have v1 := hb.gv g hg9
    have c1 := hb.gc g hg9
    clear hg hb hgg hgt
    go_enter Tryz.func27, Tryz.ntmps27
    go_wp2_with (go_at_call 46; (with_reducible refine k.out.mono ?_); rintro e w1 ⟨rfl, hO⟩; have HO := Lib.hid hO; clear hO)
    refine wp_region_still_tail 14 (by kernel_rfl) (by kernel_rfl) ?_
    have HD : Hid (Only (fun _ => False) w w1.drew) := Lib.hid HO.out.drew
    have cv3 : w1.drew.cell? ⟨p, o + n * 4 + 1, none⟩ = some (.int .i64 (T n).v) := (H.out.later HO.out).tv n hl
    have cc3 : w1.drew.cell? ⟨p, o + n * 4, none⟩ = some (.int .i64 (T n).c) := (H.out.later HO.out).tc n hl
    have cg3 : w1.drew.cell? ⟨p, o + n * 4 + 2, none⟩ = some (.int .i64 g) := by rw [← HG0.out]; exact (H.out.later HO.out).tg n hl
    have fz3 : ∀ j, w1.drew.frozen? ⟨p, j, none⟩ = false := (H.out.later HO.out).frozen
    have xv3 : w1.drew.cell? ⟨p, o + 68 + g * 2 + 1, none⟩ = some (.int .i64 (G g).v) := (H.out.later HO.out).gv g hg9
    have xc3 : w1.drew.cell? ⟨p, o + 68 + g * 2, none⟩ = some (.int .i64 (G g).c) := (H.out.later HO.out).gc g hg9
    show wpStill _ _ w1.drew (fun a' => wpList _ _ _ _ a' w1.drew) _ _
    generalize w1.drew = w3 at *
    simp only [List.take_succ_cons, List.take_zero, List.drop_succ_cons, List.drop_zero]
    repeat still_step
    refine wpStill_nil ?_
    go_wp2
    have HF1 := Lib.hid ((H.out.later HD.out).set_tv n hl ((T n).v + (T n).c))
    have HO1 := Lib.hid (only_set1 (o := o) H.out.lt HD.out (o + n * 4 + 1) (.int .i64 ((T n).v + (T n).c)) (by omega))
    clear cv3 cc3 cg3 xv3 xc3 fz3
    generalize w3.setCell ⟨p, o + n * 4 + 1, none⟩ (.int .i64 ((T n).v + (T n).c)) = w4 at *
    have cg4 : w4.cell? ⟨p, o + n * 4 + 2, none⟩ = some (.int .i64 g) := by have := HF1.out.tg n hl; rw [upd_same] at this; rw [← HG0.out]; exact this
    go_quiet (fail)
    have HF2 : Hid (FairAt (w4.drewN nq) p o D (upd T n ⟨(T n).c, (T n).v + (T n).c, (T n).g, (T n).r⟩) G) := Lib.hid (HF1.out.keep (only_drewN (Only.refl (fun _ => False) w4) nq) id)
    have HO2 : Hid (Within p o 86 w (w4.drewN nq)) := Lib.hid (Within.drewN HO1.out nq)
    clear cg4
    generalize w4.drewN nq = w5 at *
    go_upto_region 8 with (fail)
    refine wp_region_still_tail 11 (by kernel_rfl) (by kernel_rfl) ?_
    have HF3 : Hid (FairAt w5.drew p o D (upd T n ⟨(T n).c, (T n).v + (T n).c, (T n).g, (T n).r⟩) G) := HF2
    have HO3 : Hid (Within p o 86 w w5.drew) := Lib.hid HO2.out.drew
    have xv5 : w5.drew.cell? ⟨p, o + 68 + g * 2 + 1, none⟩ = some (.int .i64 (G g).v) := HF2.out.gv g hg9
    have xc5 : w5.drew.cell? ⟨p, o + 68 + g * 2, none⟩ = some (.int .i64 (G g).c) := HF2.out.gc g hg9
    have fz5 : ∀ j, w5.drew.frozen? ⟨p, j, none⟩ = false := HF2.out.frozen
    show wpStill _ _ w5.drew (fun a' => wpList _ _ _ _ a' w5.drew) _ _
    generalize w5.drew = w6 at *
    simp only [List.take_succ_cons, List.take_zero, List.drop_succ_cons, List.drop_zero]
    repeat still_step
    refine wpStill_nil ?_
    go_wp2
    go_ret2
    refine ⟨rfl, ?_, HO3.out.setCell (by omega) _⟩
    rw [HT.out, HG.out]
    exact HF3.out.set_gv g hg9 _
end
end Go.Proofs.YtpincdcebhmnhaaGreat.Fr
