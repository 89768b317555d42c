/- Texts of this claim, merged: PAdd, POps, PTurn, Pk, PkFind, PUn, PkFix. -/
import Derived.Test.YtpincdcebhmnhaaGreatM09
import Derived.Laws.CopyOwn
import Derived.Deep.RegionLaw
import Derived.Test.YtpincdcebhmnhaaGreatM03
import Derived.Test.YtpincdcebhmnhaaGreatM08
import Derived.Handy
/- One number more behind one of the queues: at an append in a walk, and at one in a region that draws its order. -/
namespace Go.Proofs.YtpincdcebhmnhaaGreat.Pr
open Go.ChangeShapes Go.WideShapes Go.ChangeAt Go.RowKit Go.Maps
set_option linter.unusedVariables false

/-- What is known behind the append, ahead of the store. -/
structure Added (p o T : Nat) (V : Nat → Value) (Q : Qs) (i : Nat) (x : Int) (w : World) (v' : Value) (w' : World) : Prop where
  at_ : QAt (w'.setCell ⟨p, o + i, none⟩ v') p o T (upd V i v') (upd Q i (Q i ++ [x]))
  step : Step p o V (upd V i v') w (w'.setCell ⟨p, o + i, none⟩ v')

theorem added_of {p o T : Nat} {V : Nat → Value} {Q : Qs} {i : Nat} {x : Int} {wr w w' : World} {g c : Nat} (hq : QAt wr p o T V Q) (hi : i < 8) (hO : Only (fun _ => False) wr w)
    (hown : w'.ownsRow 0 3 1 (.slice (some ⟨g, 0, none⟩) ((Q i).length + 1) c) ((Q i).length + 1) (numCells (Q i) ++ [.int .i64 x])) (hg : w.grownBy w' (V i).ownBlock) (hat : (V i).ownBlock = some g ∨ g = w.heap.size) :
    w'.cell? ⟨p, o + i, none⟩ = some (V i) ∧ w'.frozen? ⟨p, o + i, none⟩ = false ∧ Added p o T V Q i x wr (.slice (some ⟨g, 0, none⟩) ((Q i).length + 1) c) w' := by
  have hO2 : Only (fun k => (V i).ownBlock = some k) w w' := Only.of_grown hg (fun k hk => hk)
  have hO3 : Only (fun k => (V i).ownBlock = some k) wr w' := (hO.mono (T := fun k => (V i).ownBlock = some k) (fun _ _ e => e.elim)).trans hO2 (fun _ _ e => e)
  have hr : Ints w' 0 (.slice (some ⟨g, 0, none⟩) ((Q i).length + 1) c) (Q i ++ [x]) := by
    unfold Ints
    rw [List.length_append, show numCells (Q i ++ [x]) = numCells (Q i) ++ [.int .i64 x] from numCells_snoc _ x]
    exact hown
  obtain ⟨h1, h2⟩ := hq.row_set hi hr hO3 (fun k hk => by
    have e : g = k := Option.some.inj hk
    subst e
    rcases hat with e | e
    · exact Or.inl e
    · exact Or.inr (by rw [e]; exact hO.size))
  refine ⟨(cell_kept hO3 hq.lt (hq.not_row hi)).trans (hq.cell hi), ?_, ⟨h1, h2⟩⟩
  obtain ⟨cs, q1, -⟩ := hq.block
  exact frozen_at ((hO3.block p hq.lt (hq.not_row hi)).trans q1) _

theorem step_add {w : World} {ops : Array Oper} {oo : Oper} {a : Act} {K : Act → World → Prop} {R : Exit → Act → World → Prop} {E : Prop} (hgd : oo.guard = none) (s y : Operand)
    (ho : oo.op = .call { callee := .builtin .append, args := #[s, y], argTypes := #[37, 37] })
    (wr : World) (p o T b : Nat) (V : Nat → Value) (Q : Qs) (i : Nat) (x : Int) (hq : QAt wr p o T V Q) (hi : i < 8) (hO : Only (fun _ => False) wr w) (hs : a.eval s = V i) (hy : a.eval y = .slice (some ⟨b, 0, none⟩) 1 1)
    (hb : w.heap[b]? = some (.cells #[.int .i64 x] 3 (0, 0))) (hl : (Q i).length + 1 ≤ 17000000000000)
    (h : ∀ g c w', w'.cell? ⟨p, o + i, none⟩ = some (V i) → w'.frozen? ⟨p, o + i, none⟩ = false → Hid (Added p o T V Q i x wr (.slice (some ⟨g, 0, none⟩) ((Q i).length + 1) c) w') → K (a.put oo.dst (.slice (some ⟨g, 0, none⟩) ((Q i).length + 1) c)) w') :
    if Region.wanted oo (yielded ops a.tmps) = true then Oper.wp Tryz.prog oo a w K R else E := by
  obtain ⟨i0, hi0, hz0, hz1, hz2⟩ := info_parts Tryz.infoInt
  refine step_append_lies w hgd s y 37 ho 0 3 i0 (.int .i64 0) 1 8 Tryz.underlying37 hi0 hz0 hz1 hz2 rfl (by decide) (V i) (Q i).length (numCells (Q i)) hs ((hq.later hO).row i hi) ⟨b, 0, none⟩ 1 1 [.int .i64 x] hy rfl
    (World.news_of_block (cs := #[.int .i64 x]) hb) (one_num x) (by omega) (by unfold maxLen; omega) (by omega) (Nat.zero_le _) w.heap.size rfl ?_
  intro g c w' hown hg hat hlt
  obtain ⟨q1, q2, q3⟩ := added_of hq hi hO hown hg hat
  exact h g c w' q1 q2 q3

theorem append_add {w : World} {ops : Array Oper} {rest : List Oper} {oo : Oper} {a : Act} {R : Exit → Act → World → Prop} (hgd : oo.guard = none) (s y : Operand)
    (ho : oo.op = .call { callee := .builtin .append, args := #[s, y], argTypes := #[37, 37] })
    (wr : World) (p o T b : Nat) (V : Nat → Value) (Q : Qs) (i : Nat) (x : Int) (hq : QAt wr p o T V Q) (hi : i < 8) (hO : Only (fun _ => False) wr w) (hs : a.eval s = V i) (hy : a.eval y = .slice (some ⟨b, 0, none⟩) 1 1)
    (hb : w.heap[b]? = some (.cells #[.int .i64 x] 3 (0, 0))) (hl : (Q i).length + 1 ≤ 17000000000000)
    (h : ∀ g c w', w'.cell? ⟨p, o + i, none⟩ = some (V i) → w'.frozen? ⟨p, o + i, none⟩ = false → Hid (Added p o T V Q i x wr (.slice (some ⟨g, 0, none⟩) ((Q i).length + 1) c) w') → wpList Tryz.prog ops R rest (a.put oo.dst (.slice (some ⟨g, 0, none⟩) ((Q i).length + 1) c)) w') :
    wpList Tryz.prog ops R (oo :: rest) a w := by
  obtain ⟨i0, hi0, hz0, hz1, hz2⟩ := info_parts Tryz.infoInt
  refine wpList_append_lies w hgd s y 37 ho 0 3 i0 (.int .i64 0) 1 8 Tryz.underlying37 hi0 hz0 hz1 hz2 rfl (by decide) (V i) (Q i).length (numCells (Q i)) hs ((hq.later hO).row i hi) ⟨b, 0, none⟩ 1 1 [.int .i64 x] hy rfl
    (World.news_of_block (cs := #[.int .i64 x]) hb) (one_num x) (by omega) (by unfold maxLen; omega) (by omega) (Nat.zero_le _) w.heap.size rfl ?_
  intro g c w' hown hg hat hlt
  obtain ⟨q1, q2, q3⟩ := added_of hq hi hO hown hg hat
  exact h g c w' q1 q2 q3
end Go.Proofs.YtpincdcebhmnhaaGreat.Pr
/- Contracts of package prio: New, Put, Out, First, Turn, Bits, List. -/
namespace Go.Proofs.YtpincdcebhmnhaaGreat.Pr
open Go.ChangeShapes Go.WideShapes Go.ChangeAt Go.RowKit Go.Maps
set_option linter.unusedVariables false

def noV : Nat → Value := fun _ => .slice none 0 0
def noQ : Qs := fun _ => []

theorem lt8 {P : Nat → Prop} (h : P 0 ∧ P 1 ∧ P 2 ∧ P 3 ∧ P 4 ∧ P 5 ∧ P 6 ∧ P 7) (t : Nat) (ht : t < 8) : P t := by
  obtain ⟨h0, h1, h2, h3, h4, h5, h6, h7⟩ := h
  rcases (show t = 0 ∨ t = 1 ∨ t = 2 ∨ t = 3 ∨ t = 4 ∨ t = 5 ∨ t = 6 ∨ t = 7 by omega) with rfl | rfl | rfl | rfl | rfl | rfl | rfl | rfl <;> assumption

theorem fresh_at (w : World) (T : Nat) (hT : T ≠ 3) (cs : Array Value) (h : ∀ i, i < 8 → cs[i]? = some (.slice none 0 0)) : QAt (w.alloc (.cells cs T)) w.heap.size 0 T noV noQ :=
  ⟨⟨_, heap_alloc_new w _, fun i hi => by rw [Nat.zero_add]; exact h i hi⟩, hT, fun i hi => ints_nil _ _, fun i j k hi hj hij e => by cases e⟩

theorem no_foot {p k : Nat} (h : Foot p noV k) : k = p := by
  rcases h with h | ⟨i, hi, e⟩
  · exact h
  · cases e

/-- What is known behind a call that changes queues. -/
def Moved (p o T : Nat) (V : Nat → Value) (Q' : Qs) (x : Value) (w : World) (e : Ending) (w' : World) : Prop := e = .returned x ∧ ∃ V', QAt w' p o T V' Q' ∧ Step p o V V' w w'

section
variable {w : World} {p o T : Nat} {V : Nat → Value} {Q : Qs}

theorem find_yes (h : QAt w p o T V Q) (hl : ∀ i, i < 8 → (Q i).length ≤ 17000000000000) (t : Int) {i j : Nat} (hs : seek Q t = some i) (hj : (Q i).idxOf t = j) :
    Calls Tryz.prog 55 #[.pointer (some ⟨p, o, none⟩), .int .i64 t] w (FindYes i j w) := by
  have := find_any h hl t
  unfold FindAns at this
  subst hj
  simpa only [hs] using this
theorem find_no (h : QAt w p o T V Q) (hl : ∀ i, i < 8 → (Q i).length ≤ 17000000000000) (t : Int) (hs : seek Q t = none) :
    Calls Tryz.prog 55 #[.pointer (some ⟨p, o, none⟩), .int .i64 t] w (FindNo w) := by
  have := find_any h hl t
  unfold FindAns at this
  simpa only [hs] using this

theorem Moved.same {x : Value} {w' : World} (h : QAt w p o T V Q) (hO : Only (fun _ => False) w w') : Moved p o T V Q x w (.returned x) w' := ⟨rfl, V, h.later hO, Step.later h hO⟩

theorem put_bad (h : QAt w p o T V Q) (t v : Int) (hb : ¬ ((1 ≤ t ∧ t ≤ 16) ∧ valid v = true)) :
    Calls Tryz.prog 24 #[.pointer (some ⟨p, o, none⟩), .int .i64 t, .int .i64 v] w (Moved p o T V Q (.int .i64 1) w) := by
  have H := Lib.hid h
  have C := Lib.hid (fun w => valid_any v w)
  clear h
  by_cases h1 : t < 1
  · clear hb
    go_enter Tryz.func24, Tryz.ntmps24
    go_wp2_with fail
    go_ret
    exact Moved.same H.out (Only.refl _ _)
  · by_cases h2 : 16 < t
    · clear hb
      go_enter Tryz.func24, Tryz.ntmps24
      go_wp2_with fail
      go_ret
      exact Moved.same H.out (Only.refl _ _)
    · have hv : valid v = false := by
        cases e : valid v with
        | false => rfl
        | true => exact absurd ⟨⟨by omega, by omega⟩, e⟩ hb
      rw [hv] at C
      clear hb hv
      go_enter Tryz.func24, Tryz.ntmps24
      go_wp2_with (go_at_call 54; (with_reducible refine (C.out _).mono ?_); rintro e w1 ⟨rfl, rfl⟩)
      go_ret
      exact Moved.same H.out (Only.refl _ _)

theorem put_there (h : QAt w p o T V Q) (hl : ∀ i, i < 8 → (Q i).length ≤ 17000000000000) (t v : Int) (ht : 1 ≤ t ∧ t ≤ 16) (hv : valid v = true) {i : Nat} (hs : seek Q t = some i) :
    Calls Tryz.prog 24 #[.pointer (some ⟨p, o, none⟩), .int .i64 t, .int .i64 v] w (Moved p o T V Q (.int .i64 5) w) := by
  have H := Lib.hid h
  have C := Lib.hid (fun w => valid_any v w)
  rw [hv] at C
  have F := Lib.hid (find_yes h hl t hs rfl)
  have h1 : ¬ t < 1 := by omega
  have h2 : ¬ 16 < t := by omega
  clear h hl hv hs
  generalize (Q i).idxOf t = j at *
  go_enter Tryz.func24, Tryz.ntmps24
  go_wp2_with (first
    | (go_at_call 54; (with_reducible refine (C.out _).mono ?_); rintro e w1 ⟨rfl, rfl⟩)
    | (go_at_call 55; (with_reducible refine F.out.mono ?_); rintro e w1 ⟨rfl, hO⟩; have HO := Lib.hid hO; clear hO))
  go_ret
  exact Moved.same H.out HO.out

set_option maxHeartbeats 1000000 in
theorem put_new (h : QAt w p o T V Q) (hl : ∀ i, i < 8 → (Q i).length + 1 ≤ 17000000000000) (t : Int) (v : Nat) (ht : 1 ≤ t ∧ t ≤ 16) (hv : v < 8) (hs : seek Q t = none) :
    Calls Tryz.prog 24 #[.pointer (some ⟨p, o, none⟩), .int .i64 t, .int .i64 v] w (Moved p o T V (upd Q v (Q v ++ [t])) (.int .i64 0) w) := by
  have H := Lib.hid h
  have C := Lib.hid (fun w => valid_any v w)
  rw [show valid (v : Int) = true from decide_eq_true (by omega)] at C
  have F := Lib.hid (find_no h (fun i hi => by have := hl i hi; omega) t hs)
  have HL := Lib.hid (hl v hv)
  have h1 : ¬ t < 1 := by omega
  have h2 : ¬ 16 < t := by omega
  have h3 : (v : Int) < 8 := by omega
  clear h hl hs ht
  go_enter Tryz.func24, Tryz.ntmps24
  go_wp2_with (first
    | (go_at_call 54; (with_reducible refine (C.out _).mono ?_); rintro e w1 ⟨rfl, rfl⟩)
    | (go_at_call 55; (with_reducible refine F.out.mono ?_); rintro e w1 ⟨rfl, hO⟩; have HO := Lib.hid hO; have H1 := Lib.hid (H.out.later hO); clear hO))
  have c0 := H1.out.cell hv
  have hp := H1.out.lt
  obtain ⟨sa, sc, hsv, -, -⟩ := (H1.out.row v hv).shape
  have HSV := Lib.hid hsv
  rw [hsv] at c0
  clear hsv
  go_region_law (refine step_add rfl (.tmp 36) (.tmp 38) rfl w1 p o T w1.heap.size V Q v t H1.out hv ((Only.refl _ w1).alloc _).drew (by rw [HSV.out]; rfl) (by rfl) (heap_alloc_new w1 _) HL.out ?_; intro g c w2 q1 q2 HA; rw [HSV.out] at q1)
  all_goals (
    (try go_wp2_with fail)
    go_ret
    exact ⟨rfl, _, HA.out.at_, (Step.later H.out HO.out).trans HA.out.step⟩)

theorem out_no (h : QAt w p o T V Q) (hl : ∀ i, i < 8 → (Q i).length ≤ 17000000000000) (t : Int) (hs : seek Q t = none) :
    Calls Tryz.prog 127 #[.pointer (some ⟨p, o, none⟩), .int .i64 t] w (Moved p o T V Q (.tuple #[.int .i64 0, .int .i64 4]) w) := by
  have H := Lib.hid h
  have F := Lib.hid (find_no h hl t hs)
  clear h hl hs
  go_enter Tryz.func127, Tryz.ntmps127
  go_wp2_with (go_at_call 55; (with_reducible refine F.out.mono ?_); rintro e w1 ⟨rfl, hO⟩; have HO := Lib.hid hO; clear hO)
  go_ret2
  exact Moved.same H.out HO.out

theorem del_back {w1 W w2 : World} {i g n c : Nat} (h : QAt w1 p o T V Q) (hi : i < 8) (hv : V i = .slice (some ⟨g, 0, none⟩) n c) (hW : Only (fun _ => False) w1 W) (h2 : Only (· = g) W w2) :
    w2.cell? ⟨p, o + i, none⟩ = some (.slice (some ⟨g, 0, none⟩) n c) ∧ w2.frozen? ⟨p, o + i, none⟩ = false ∧ Only (fun k => (V i).ownBlock = some k) w1 w2 := by
  have hO : Only (fun k => (V i).ownBlock = some k) w1 w2 := (hW.mono (fun _ _ e => e.elim)).trans h2 (fun k _ e => by subst e; rw [hv]; rfl)
  refine ⟨(cell_kept hO h.lt (h.not_row hi)).trans (by rw [h.cell hi, hv]), ?_, hO⟩
  obtain ⟨cs, q1, -⟩ := h.block
  exact frozen_at ((hO.block p h.lt (h.not_row hi)).trans q1) _

theorem out_end {w1 w2 : World} {i j g m c : Nat} {t : Int} (h : QAt w p o T V Q) (hO : Only (fun _ => False) w w1) (h1 : QAt w1 p o T V Q) (hi : i < 8) (hv : V i = .slice (some ⟨g, 0, none⟩) (m + 1) c) (he : (Q i).erase t = (Q i).eraseIdx j)
    (hr : Ints w2 0 (.slice (some ⟨g, 0, none⟩) m c) ((Q i).eraseIdx j)) (hO2 : Only (fun k => (V i).ownBlock = some k) w1 w2) :
    Moved p o T V (upd Q i ((Q i).erase t)) (.tuple #[.int .i64 i, .int .i64 0]) w (.returned (.tuple #[.int .i64 i, .int .i64 0])) (w2.setCell ⟨p, o + i, none⟩ (.slice (some ⟨g, 0, none⟩) m c)) := by
  rw [← he] at hr
  obtain ⟨q1, q2⟩ := h1.row_set hi hr hO2 (fun k hk => Or.inl (by rw [hv]; exact hk))
  exact ⟨rfl, _, q1, (Step.later h hO).trans q2⟩

set_option maxHeartbeats 1000000 in
theorem out_yes (h : QAt w p o T V Q) (hl : ∀ i, i < 8 → (Q i).length ≤ 6000000000000) (t : Int) {i : Nat} (hs : seek Q t = some i) :
    Calls Tryz.prog 127 #[.pointer (some ⟨p, o, none⟩), .int .i64 t] w (Moved p o T V (upd Q i ((Q i).erase t)) (.tuple #[.int .i64 i, .int .i64 0]) w) := by
  have H := Lib.hid h
  obtain ⟨hi, hm⟩ := seek_is hs
  have hj := (idx_nonneg hm).2
  have HE := show (Q i).erase t = (Q i).eraseIdx ((Q i).idxOf t) from List.erase_eq_eraseIdx_of_idxOf rfl
  obtain ⟨j, hj0⟩ : ∃ j, (Q i).idxOf t = j := ⟨_, rfl⟩
  rw [hj0] at hj HE
  have F := Lib.hid (find_yes h (fun i hi => by have := hl i hi; omega) t hs hj0)
  have HE := Lib.hid HE
  have HL := Lib.hid (hl i hi)
  obtain ⟨m, hm⟩ : ∃ m, (Q i).length = m + 1 := ⟨(Q i).length - 1, by omega⟩
  rw [hm] at hj
  have HM := Lib.hid hm
  have jb : j ≤ 6000000000000 := by have := HL.out; omega
  clear h hl hs hm hj0
  go_enter Tryz.func127, Tryz.ntmps127
  go_wp2_with (go_at_call 55; (with_reducible refine F.out.mono ?_); rintro e w1 ⟨rfl, hO⟩; have HO := Lib.hid hO; have H1 := Lib.hid (H.out.later hO); clear hO)
  have c0 := H1.out.cell hi
  have hp := H1.out.lt
  obtain ⟨g, c, hv, -, hg, HR⟩ := (H1.out.row i hi).at_block HM.out (by omega)
  have HV := Lib.hid hv
  rw [hv] at c0
  clear hv hg
  have HR := Lib.hid HR
  have hi8 : (i : Int) < 8 := by omega
  have hjm : IntKind.i64.wrap ((j : Int) + 1) = (j : Int) + 1 := IntWalk.i64_in _ (by omega)
  have D := Lib.hid (fun (W : World) (hW : Only (fun _ => False) w1 W) => delete_row 0 g m c j (Q i) W (HR.out.later hW) HM.out hj (by have := HL.out; have := HM.out; omega))
  have G := Lib.hid (fun (W w2 : World) (hW : Only (fun _ => False) w1 W) (h2 : Only (· = g) W w2) => del_back H1.out hi HV.out hW h2)
  go_region_with (go_at_call 128; (with_reducible refine (D.out _ (Only.refl _ _).drew).mono ?_); rintro e w2 ⟨rfl, hr2, hO2⟩; obtain ⟨q1, q2, q3⟩ := G.out _ w2 (Only.refl _ _).drew hO2; have HR2 := Lib.hid hr2; have HO2 := Lib.hid q3; clear hr2 hO2 q3)
  all_goals (
    (try go_wp2_with fail)
    go_ret2
    exact out_end H.out HO.out H1.out hi HV.out HE.out HR2.out HO2.out)

/-- Who goes first, among the queues below k. -/
def topTo (Q : Qs) : Nat → Option Nat
  | 0 => none
  | k + 1 => if Q k = [] then topTo Q k else some k
def top (Q : Qs) : Option Nat := topTo Q 8

theorem topTo_succ (Q : Qs) (k : Nat) : topTo Q (k + 1) = if Q k = [] then topTo Q k else some k := rfl
theorem topTo_down {Q : Qs} {n k : Nat} (h : k ≤ n) (he : ∀ j, k ≤ j → j < n → Q j = []) : topTo Q n = topTo Q k := by
  induction n with
  | zero => rw [show k = 0 by omega]
  | succ n ih =>
    by_cases e : k = n + 1
    · rw [e]
    · rw [topTo_succ, if_pos (he n (by omega) (by omega)), ih (by omega) (fun j h1 h2 => he j h1 (by omega))]
theorem top_some {Q : Qs} {n : Nat} (hn : n < 8) (h : Q n ≠ []) (he : ∀ j, n + 1 ≤ j → j < 8 → Q j = []) : top Q = some n := by
  unfold top
  rw [topTo_down (k := n + 1) (by omega) he]
  unfold topTo
  rw [if_neg h]
theorem top_none {Q : Qs} (he : ∀ j, j < 8 → Q j = []) : top Q = none := by
  unfold top
  rw [topTo_down (k := 0) (by omega) (fun j _ h => he j h)]
  rfl
theorem topTo_is {Q : Qs} {k n : Nat} (h : topTo Q k = some n) : n < k ∧ Q n ≠ [] ∧ ∀ j, n < j → j < k → Q j = [] := by
  induction k with
  | zero => cases h
  | succ k ih =>
    unfold topTo at h
    by_cases e : Q k = []
    · rw [if_pos e] at h
      obtain ⟨h1, h2, h3⟩ := ih h
      refine ⟨by omega, h2, fun j hj hk => ?_⟩
      by_cases e2 : j = k
      · subst e2; exact e
      · exact h3 j hj (by omega)
    · rw [if_neg e] at h
      cases h
      exact ⟨by omega, e, fun j hj hk => by omega⟩
theorem topTo_no {Q : Qs} {k : Nat} (h : topTo Q k = none) : ∀ j, j < k → Q j = [] := by
  induction k with
  | zero => intro j hj; omega
  | succ k ih =>
    unfold topTo at h
    by_cases e : Q k = []
    · rw [if_pos e] at h
      intro j hj
      by_cases e2 : j = k
      · subst e2; exact e
      · exact ih h j (by omega)
    · rw [if_neg e] at h
      cases h

/-- What First answers. -/
def FirstAns (Q : Qs) (w : World) (e : Ending) (w' : World) : Prop :=
  match top Q with
  | some n => Triple ((Q n).getD 0 0) n 0 w e w'
  | none => Triple 0 0 4 w e w'

theorem first_is {Q : Qs} {f : Nat} {args : Array Value} {w : World} (h : Calls Tryz.prog f args w (FirstAns Q w)) {n : Nat} (hn : top Q = some n) : Calls Tryz.prog f args w (Triple ((Q n).getD 0 0) n 0 w) := by
  unfold FirstAns at h
  simpa only [hn] using h
theorem first_not {Q : Qs} {f : Nat} {args : Array Value} {w : World} (h : Calls Tryz.prog f args w (FirstAns Q w)) (hn : top Q = none) : Calls Tryz.prog f args w (Triple 0 0 4 w) := by
  unfold FirstAns at h
  simpa only [hn] using h
theorem FirstAns.some {Q : Qs} {n : Nat} {w : World} {e : Ending} {w' : World} (hn : top Q = some n) (h : Triple ((Q n).getD 0 0) n 0 w e w') : FirstAns Q w e w' := by unfold FirstAns; simpa only [hn] using h
theorem FirstAns.none {Q : Qs} {w : World} {e : Ending} {w' : World} (hn : top Q = none) (h : Triple 0 0 4 w e w') : FirstAns Q w e w' := by unfold FirstAns; simpa only [hn] using h

theorem first_any (h : QAt w p o T V Q) (hl : ∀ i, i < 8 → (Q i).length ≤ 17000000000000) :
    Calls Tryz.prog 45 #[.pointer (some ⟨p, o, none⟩)] w (FirstAns Q w) := by
  have H := Lib.hid h
  have HL := Lib.hid hl
  clear hl h
  go_enter Tryz.func45, Tryz.ntmps45
  go_wp2_with fail
  go_loopw [5, 6] (fun i _ wr => ∃ (k : Nat) (z : Int), k ≤ 8 ∧ i = .int .i64 z ∧ z + 1 = k ∧ (∀ j, k ≤ j → j < 8 → Q j = []) ∧ Only (fun _ => False) w wr) (fun i _ _ => (intOf i + 1).toNat)
  case atStart => exact ⟨8, 7, Nat.le_refl _, rfl, rfl, fun j h1 h2 => by omega, Only.refl _ w⟩
  case round =>
    obtain ⟨k, z, hk, rfl, hz, ht, hO⟩ := hrel
    have HT := Lib.hid ht
    have HO := Lib.hid hO
    clear ht hO
    by_cases h0 : k = 0
    · obtain rfl : z = -1 := by omega
      subst h0
      go_wp2_with fail
      go_ret3
      exact FirstAns.none (top_none (fun j hj => HT.out j (Nat.zero_le _) hj)) ⟨rfl, HO.out⟩
    · obtain ⟨n, rfl⟩ : ∃ n : Nat, z = n := ⟨z.toNat, by omega⟩
      obtain rfl : k = n + 1 := by omega
      have hn : n < 8 := by omega
      have H1 := Lib.hid (H.out.later HO.out)
      have c0 := H1.out.cell hn
      have HLn := Lib.hid (HL.out n hn)
      have g1 : (n : Int) < 8 := by omega
      by_cases he : Q n = []
      · have HE := Lib.hid he
        obtain ⟨a, c, hv, -, -⟩ := (H1.out.row n hn).shape
        rw [hv, he] at c0
        clear he hz h0 hk hv
        go_wp2_with fail
        go_roundw
        case rel => exact ⟨n, (n : Int) - 1, by omega, by go_num, by omega, fun j h1 h2 => by
          by_cases e : j = n
          · subst e; exact HE.out
          · exact HT.out j (by omega) h2, HO.out⟩
        case measure => simp [intOf]; try omega
      · have HE := Lib.hid he
        obtain ⟨m, hm⟩ : ∃ m, (Q n).length = m + 1 := ⟨(Q n).length - 1, by have := List.length_pos_iff.2 he; omega⟩
        obtain ⟨g, c, hv, -, hg, HR⟩ := (H1.out.row n hn).at_block hm (by omega)
        have d0 := ints_cell HR (j := 0) (by omega)
        rw [hv] at c0
        rw [hm] at HLn
        have hmb : (m : Int) + 1 ≤ 17000000000000 := by have := HLn.out; omega
        clear he hz h0 hk hv HR hm
        go_wp2_with fail
        go_ret3
        exact FirstAns.some (top_some hn HE.out HT.out) ⟨rfl, HO.out⟩
end
end Go.Proofs.YtpincdcebhmnhaaGreat.Pr
/- Contracts of package prio: Turn, List, Bits. -/
namespace Go.Proofs.YtpincdcebhmnhaaGreat.Pr
open Go.ChangeShapes Go.WideShapes Go.ChangeAt Go.RowKit Go.Maps
set_option linter.unusedVariables false

section
variable {w : World} {p o T : Nat} {V : Nat → Value} {Q : Qs}

theorem turn_bad (h : QAt w p o T V Q) (v : Int) (hv : valid v = false) :
    Calls Tryz.prog 57 #[.pointer (some ⟨p, o, none⟩), .int .i64 v] w (Moved p o T V Q (.int .i64 1) w) := by
  have H := Lib.hid h
  have C := Lib.hid (fun w => valid_any v w)
  rw [hv] at C
  clear h hv
  go_enter Tryz.func57, Tryz.ntmps57
  go_wp2_with (go_at_call 54; (with_reducible refine (C.out _).mono ?_); rintro e w1 ⟨rfl, rfl⟩)
  go_ret
  exact Moved.same H.out (Only.refl _ _)

theorem turn_none (h : QAt w p o T V Q) (v : Nat) (hv : v < 8) (he : Q v = []) :
    Calls Tryz.prog 57 #[.pointer (some ⟨p, o, none⟩), .int .i64 v] w (Moved p o T V Q (.int .i64 4) w) := by
  have H := Lib.hid h
  have C := Lib.hid (fun w => valid_any v w)
  rw [show valid (v : Int) = true from decide_eq_true (by omega)] at C
  have c0 := h.cell hv
  obtain ⟨a, c, hw, -, -⟩ := (h.row v hv).shape
  rw [hw, he] at c0
  have g1 : (v : Int) < 8 := by omega
  clear h he hw
  go_enter Tryz.func57, Tryz.ntmps57
  go_wp2_with (go_at_call 54; (with_reducible refine (C.out _).mono ?_); rintro e w1 ⟨rfl, rfl⟩)
  go_ret
  exact Moved.same H.out (Only.refl _ _)

/-- A row turned: what lay behind its first moved up, and the first is stored last. -/
theorem row_turned {w : World} {g n c : Nat} {x : Int} {xs : List Int} {cur : Array Value} (hn : xs.length = n) (hg : w.heap[g]? = some (.cells cur 3 (0, 0))) (hnc : n + 1 ≤ c) (hcm : c ≤ maxLen) (hcs : cur.size = c) (ht : cur.toList.take (n + 1) = numCells (x :: xs)) :
    let w1 := w.setRow g (cur.toList.take 0 ++ (numCells xs ++ cur.toList.drop (0 + (numCells xs).length))).toArray
    (w1.cell? ⟨g, n, none⟩).isSome = true ∧ w1.frozen? ⟨g, n, none⟩ = false ∧ Ints (w1.setCell ⟨g, n, none⟩ (.int .i64 x)) 0 (.slice (some ⟨g, 0, none⟩) (n + 1) c) (xs ++ [x]) ∧ Only (· = g) w (w1.setCell ⟨g, n, none⟩ (.int .i64 x)) := by
  intro w1
  have hlen : cur.toList.length = c := by simpa using hcs
  have hh : w1.heap[g]? = some (.cells (numCells xs ++ cur.toList.drop n).toArray 3 (0, 0)) := by
    have := setRow_heap w g cur (cur.toList.take 0 ++ (numCells xs ++ cur.toList.drop (0 + (numCells xs).length))).toArray 3 (0, 0) hg
    rw [numCells_len, hn, Nat.zero_add, List.take_zero, List.nil_append] at this
    show (w.setRow g (cur.toList.take 0 ++ (numCells xs ++ cur.toList.drop (0 + (numCells xs).length))).toArray).heap[g]? = _
    rw [numCells_len, hn, Nat.zero_add, List.take_zero, List.nil_append]
    exact this
  have hl : (numCells xs ++ cur.toList.drop n).length = c := by rw [List.length_append, numCells_len, List.length_drop, hlen, hn]; omega
  have hO1 : Only (· = g) w w1 := ⟨rfl, rfl, rfl, by simp [w1, World.setRow], fun k hk hne => setRow_other w g k _ (by omega)⟩
  refine ⟨?_, frozen_at hh _, ⟨by rw [numCells_len, List.length_append, hn]; simp, Or.inr ⟨g, c, _, by rw [List.length_append, hn]; rfl, Nat.zero_le _, heap_setCell_same w1 g n _ _ _ hh, by rw [List.length_append, hn]; exact hnc, hcm, by simp; simp at hl; omega, ?_⟩⟩, hO1.setCell (p := ⟨g, n, none⟩) rfl _⟩
  · rw [cell_at hh]
    simp only [List.getElem?_toArray]
    rw [List.getElem?_eq_getElem (by rw [hl]; omega)]
    rfl
  · rw [Array.toList_setIfInBounds]
    apply List.ext_getElem?
    intro j
    rw [List.length_append, hn, Nat.mul_one]
    simp only [List.length_cons, List.length_nil, Nat.zero_add]
    rw [List.getElem?_take, numCells_snoc]
    by_cases hj : j < n + 1
    · rw [if_pos hj, List.getElem?_set]
      by_cases e : n = j
      · subst e
        rw [if_pos rfl, if_pos (by rw [hl]; omega), List.getElem?_append_right (by rw [numCells_len, hn]; exact Nat.le_refl _), numCells_len, hn]
        simp
      · rw [if_neg e, List.getElem?_append_left (by rw [numCells_len, hn]; omega), List.getElem?_append_left (by rw [numCells_len, hn]; omega)]
    · rw [if_neg hj, List.getElem?_eq_none]
      rw [List.length_append, numCells_len, hn]; simp; omega

theorem turn_end {w2 : World} {v n c g : Nat} {x : Int} {xs : List Int} (h : QAt w p o T V Q) (hv : v < 8) (he : V v = .slice (some ⟨g, 0, none⟩) (n + 1) c) (hr : Ints w2 0 (.slice (some ⟨g, 0, none⟩) (n + 1) c) (xs ++ [x])) (hO : Only (· = g) w w2) :
    Moved p o T V (upd Q v (xs ++ [x])) (.int .i64 0) w (.returned (.int .i64 0)) w2 := by
  rw [← he] at hr
  obtain ⟨q1, q2⟩ := h.row_in hv hr (hO.mono (fun k _ e => by subst e; rw [he]; rfl))
  exact ⟨rfl, V, q1, q2⟩

set_option maxHeartbeats 1000000 in
set_option maxRecDepth 100000 in
theorem turn_yes (h : QAt w p o T V Q) (v : Nat) (hv : v < 8) (x : Int) (xs : List Int) (he : Q v = x :: xs) (hl : xs.length ≤ 1000000000) :
    Calls Tryz.prog 57 #[.pointer (some ⟨p, o, none⟩), .int .i64 v] w (Moved p o T V (upd Q v (xs ++ [x])) (.int .i64 0) w) := by
  have H := Lib.hid h
  have C := Lib.hid (fun w => valid_any v w)
  rw [show valid (v : Int) = true from decide_eq_true (by omega)] at C
  have c0 := h.cell hv
  obtain ⟨n, hn⟩ : ∃ n, xs.length = n := ⟨_, rfl⟩
  obtain ⟨g, c, hw, -, hgl, HR⟩ := (h.row v hv).at_block (n := n + 1) (by rw [he]; simp [hn]) (by omega)
  have d0 := ints_cell HR (j := 0) (by rw [he]; simp)
  rw [he] at d0
  have d0 : w.cell? ⟨g, 0, none⟩ = some (.int .i64 x) := d0
  have HW := Lib.hid hw
  rw [hw] at c0
  have HRR := HR
  rcases HR.2 with ⟨e, _⟩ | ⟨g', cap, cur, e, -, hg, r1, r2, r3, r4⟩
  · cases e
  obtain ⟨e1, e2, e3⟩ := Value.slice.inj e
  cases e1
  subst e3
  rw [he] at r1 r4
  simp only [List.length_cons, hn, Nat.mul_one] at r1 r3 r4
  obtain ⟨t1, t2, t3, t4⟩ := row_turned hn hg r1 r2 (by omega) r4
  obtain ⟨u, hu⟩ := Option.isSome_iff_exists.1 t1
  have HEND := Lib.hid (turn_end h hv hw t3 t4)
  obtain ⟨A, hA, hsrc⟩ : ∃ A : Addr, (if c = 1 then some (⟨g, 0, none⟩ : Addr) else some ⟨g, 1, none⟩) = some A ∧ Hid (∀ j u, (numCells xs)[j]? = some u → w.cell? (A.add j) = some u) := by
    by_cases h : c = 1
    · refine ⟨⟨g, 0, none⟩, by rw [if_pos h], fun j u hu => ?_⟩
      have := (List.getElem?_eq_some_iff.1 hu).1
      rw [numCells_len] at this
      omega
    · refine ⟨⟨g, 1, none⟩, by rw [if_neg h], fun j u hu => ?_⟩
      have hj := (List.getElem?_eq_some_iff.1 hu).1
      rw [numCells_len] at hj
      rw [add_plain, cell_at hg, ← Array.getElem?_toList]
      have : (cur.toList.take (n + 1))[1 + j]? = (numCells (x :: xs))[1 + j]? := by rw [r4]
      rw [List.getElem?_take_of_lt (by omega)] at this
      rw [this, ← hu, Nat.add_comm]
      rfl
  have S1 := Lib.hid (show (numCells xs).length = Nat.min n (n + 1) from by rw [numCells_len, hn]; exact (Nat.min_eq_left (by omega)).symm)
  have S2 := Lib.hid (show 0 + (numCells xs).length ≤ cur.size from by rw [numCells_len, hn]; omega)
  have S3 := Lib.hid (show ∀ v ∈ numCells xs, v.oneCell' = true from by intro z hz; simp [numCells] at hz; obtain ⟨y, _, rfl⟩ := hz; rfl)
  have HG := Lib.hid hg
  have hsz : (Tryz.prog.info? 3).map (·.size) = some 1 := by kernel_rfl
  have g1 : (v : Int) < 8 := by omega
  have g3 : (n : Int) ≤ 1000000000 := by omega
  have g4 : 1 ≤ c := by omega
  have g5 : c ≤ 9223372036854775807 := by unfold maxLen at r2; omega
  generalize hWe : w.setRow g (cur.toList.take 0 ++ (numCells xs ++ cur.toList.drop (0 + (numCells xs).length))).toArray = W at *
  have HWE := Lib.hid hWe
  clear h he hw hn HR HRR hg r1 r2 r3 r4 t1 t3 t4 hWe e e2
  go_enter Tryz.func57, Tryz.ntmps57
  go_wp2_with (first
    | (go_at_call 54; (with_reducible refine (C.out _).mono ?_); rintro e w1 ⟨rfl, rfl⟩)
    | (with_reducible refine wpList_copy_own rfl (.tmp 22) (.tmp 24) 37 37 rfl 3 Tryz.underlying37 hsz g 0 (n + 1) c A n (c - 1) rfl rfl cur 3 HG.out (numCells xs) S1.out hsrc.out S2.out S3.out ?_; rw [HWE.out]))
  go_ret
  exact HEND.out
end
end Go.Proofs.YtpincdcebhmnhaaGreat.Pr
/- One processor's scheduler in memory: three classes, side by side in one block, and who has what class. -/
namespace Go.Proofs.YtpincdcebhmnhaaGreat.Pk
open Go.ChangeShapes Go.WideShapes Go.ChangeAt Go.RowKit Go.Maps
set_option linter.unusedVariables false

/-- What a scheduler knows: the fair class, the queues, the priorities of those who are blocked, the class of deadlines and its time, the classes of tasks, who had the last tick, and for how many in a row. -/
structure St where
  T : Fr.Tks
  G : Fr.Grs
  Q : Pr.Qs
  A : Nat → Int
  d : De.Tks
  n : Int
  C : Nat → Int
  now : Int
  row : Int

/-- A scheduler in block p. -/
structure PickAt (w : World) (p D : Nat) (V : Nat → Value) (S : St) : Prop where
  fair : Fr.FairAt w p 0 D S.T S.G
  prio : Pr.QAt w p 86 D V S.Q
  dead : De.DeadAt w p 111 D S.d S.n
  val : ∀ t, t < 17 → w.cell? ⟨p, 94 + t, none⟩ = some (.int .i64 (S.A t))
  cls : ∀ t, t < 17 → w.cell? ⟨p, 214 + t, none⟩ = some (.int .i64 (S.C t))
  now : w.cell? ⟨p, 231, none⟩ = some (.int .i64 S.now)
  row : w.cell? ⟨p, 232, none⟩ = some (.int .i64 S.row)

/-- What a call that changes a scheduler leaves of memory. -/
structure PStep (p : Nat) (V V' : Nat → Value) (w w' : World) : Prop where
  only : Only (Pr.Foot p V) w w'
  grow : ∀ k, Pr.Foot p V' k → Pr.Foot p V k ∨ w.heap.size ≤ k

/-- What is known behind such a call. -/
def Did (p D : Nat) (V : Nat → Value) (S : St) (x : Value) (w : World) (e : Ending) (w' : World) : Prop := e = .returned x ∧ ∃ V', PickAt w' p D V' S ∧ PStep p V V' w w'

section
variable {w w' : World} {p D : Nat} {V V' V'' : Nat → Value} {S S' : St}

theorem PStep.refl (p : Nat) (V : Nat → Value) (w : World) : PStep p V V w w := ⟨Only.refl _ w, fun _ h => Or.inl h⟩
theorem PStep.of_only (h : Only (fun k => k = p) w w') : PStep p V V w w' := ⟨h.mono (fun _ _ e => Or.inl e), fun _ h => Or.inl h⟩
theorem PStep.of_quiet (h : Only (fun _ => False) w w') : PStep p V V w w' := ⟨h.mono (fun _ _ e => e.elim), fun _ h => Or.inl h⟩
theorem PStep.trans {a b c : World} (h : PStep p V V' a b) (k : PStep p V' V'' b c) : PStep p V V'' a c := by
  refine ⟨h.only.trans k.only (fun x hx e => ?_), fun x hx => ?_⟩
  · rcases h.grow x e with e | e
    · exact e
    · omega
  · rcases k.grow x hx with e | e
    · exact h.grow x e
    · exact Or.inr (Nat.le_trans h.only.size e)

theorem PickAt.lt (h : PickAt w p D V S) : p < w.heap.size := h.fair.lt
theorem PickAt.frozen (h : PickAt w p D V S) (j : Nat) : w.frozen? ⟨p, j, none⟩ = false := h.fair.frozen j
theorem PickAt.block (h : PickAt w p D V S) : ∃ cs, w.heap[p]? = some (.cells cs D (0, 0)) := by obtain ⟨cs, h1, -⟩ := h.fair; exact ⟨cs, h1⟩
theorem PickAt.keep {R : Nat → Prop} (h : PickAt w p D V S) (hO : Only R w w') (hR : ∀ k, Pr.Foot p V k → ¬ R k) : PickAt w' p D V S := by
  have hp : ¬ R p := hR p (Or.inl rfl)
  have hc : ∀ j, w'.cell? ⟨p, j, none⟩ = w.cell? ⟨p, j, none⟩ := fun j => Pr.cell_kept hO h.lt hp
  exact ⟨h.fair.keep hO hp, h.prio.keep hO hR, h.dead.keep hO hp, fun t ht => (hc _).trans (h.val t ht), fun t ht => (hc _).trans (h.cls t ht), (hc _).trans h.now, (hc _).trans h.row⟩
theorem PickAt.later (h : PickAt w p D V S) (hO : Only (fun _ => False) w w') : PickAt w' p D V S := h.keep hO (fun _ _ e => e)
theorem PickAt.foot_lt (h : PickAt w p D V S) {k : Nat} (hk : Pr.Foot p V k) : k < w.heap.size := h.prio.foot_lt hk

/-- Cells of block p that are as they were. -/
theorem fair_other {o : Nat} {T : Fr.Tks} {G : Fr.Grs} (h : Fr.FairAt w p o D T G) (hb : ∃ cs, w'.heap[p]? = some (.cells cs D (0, 0)))
    (hc : ∀ j, o ≤ j → j < o + 86 → w'.cell? ⟨p, j, none⟩ = w.cell? ⟨p, j, none⟩) : Fr.FairAt w' p o D T G := by
  obtain ⟨cs, h1, h2⟩ := h
  obtain ⟨cs', h3⟩ := hb
  have e : ∀ j, o ≤ j → j < o + 86 → cs'[j]? = cs[j]? := fun j a b => by have := hc j a b; rw [cell_at h1, cell_at h3] at this; exact this
  refine ⟨cs', h3, ?_, fun t ht => (e _ (by omega) (by omega)).trans (h2.tc t ht), fun t ht => (e _ (by omega) (by omega)).trans (h2.tv t ht), fun t ht => (e _ (by omega) (by omega)).trans (h2.tg t ht), fun t ht => (e _ (by omega) (by omega)).trans (h2.tr t ht), fun g hg => (e _ (by omega) (by omega)).trans (h2.gc g hg), fun g hg => (e _ (by omega) (by omega)).trans (h2.gv g hg)⟩
  have := (e _ (by omega) (by omega)).trans (h2.gv 8 (by omega))
  have := (Array.getElem?_eq_some_iff.1 this).1
  omega
theorem dead_other {o : Nat} {T : De.Tks} {n : Int} (h : De.DeadAt w p o D T n) (hb : ∃ cs, w'.heap[p]? = some (.cells cs D (0, 0)))
    (hc : ∀ j, o ≤ j → j < o + 103 → w'.cell? ⟨p, j, none⟩ = w.cell? ⟨p, j, none⟩) : De.DeadAt w' p o D T n := by
  obtain ⟨cs, h1, h2⟩ := h
  obtain ⟨cs', h3⟩ := hb
  have e : ∀ j, o ≤ j → j < o + 103 → cs'[j]? = cs[j]? := fun j a b => by have := hc j a b; rw [cell_at h1, cell_at h3] at this; exact this
  refine ⟨cs', h3, ?_, fun t ht => (e _ (by omega) (by omega)).trans (h2.cb t ht), fun t ht => (e _ (by omega) (by omega)).trans (h2.cp t ht), fun t ht => (e _ (by omega) (by omega)).trans (h2.cl t ht), fun t ht => (e _ (by omega) (by omega)).trans (h2.cd t ht), fun t ht => (e _ (by omega) (by omega)).trans (h2.cr t ht), fun t ht => (e _ (by omega) (by omega)).trans (h2.co t ht), (e _ (by omega) (by omega)).trans h2.now⟩
  have := (e _ (by omega) (by omega)).trans h2.now
  have := (Array.getElem?_eq_some_iff.1 this).1
  omega
theorem prio_other {o : Nat} {Q : Pr.Qs} (h : Pr.QAt w p o D V Q) (hO : Only (fun k => k = p) w w') (hb : ∃ cs, w'.heap[p]? = some (.cells cs D (0, 0)))
    (hc : ∀ j, o ≤ j → j < o + 8 → w'.cell? ⟨p, j, none⟩ = w.cell? ⟨p, j, none⟩) : Pr.QAt w' p o D V Q := by
  obtain ⟨cs', h3⟩ := hb
  refine ⟨⟨cs', h3, fun i hi => ?_⟩, h.type, fun i hi => (h.row i hi).keep hO (fun g hg e => h.not_row hi (e ▸ hg)), h.apart⟩
  have := hc (o + i) (by omega) (by omega)
  rw [cell_at h3, h.cell hi] at this
  exact this

theorem within_cell {o n : Nat} (h : Within p o n w w') (hb : ∃ cs, w.heap[p]? = some (.cells cs D (0, 0))) : (∃ cs, w'.heap[p]? = some (.cells cs D (0, 0))) ∧ ∀ j, j < o ∨ o + n ≤ j → w'.cell? ⟨p, j, none⟩ = w.cell? ⟨p, j, none⟩ := by
  obtain ⟨cs, h1⟩ := hb
  obtain ⟨cs', h2, -, h3⟩ := h.still cs D h1
  exact ⟨⟨cs', h2⟩, fun j hj => by rw [cell_at h1, cell_at h2]; exact h3 j hj⟩

/-- The fair class has changed. -/
theorem PickAt.by_fair {T' : Fr.Tks} {G' : Fr.Grs} (h : PickAt w p D V S) (hF : Fr.FairAt w' p 0 D T' G') (hW : Within p 0 86 w w') : PickAt w' p D V { S with T := T', G := G' } ∧ PStep p V V w w' := by
  obtain ⟨hb, hc⟩ := within_cell hW h.block
  exact ⟨⟨hF, prio_other h.prio hW.only hb (fun j a b => hc j (by omega)), dead_other h.dead hb (fun j a b => hc j (by omega)), fun t ht => (hc _ (by omega)).trans (h.val t ht), fun t ht => (hc _ (by omega)).trans (h.cls t ht), (hc _ (by omega)).trans h.now, (hc _ (by omega)).trans h.row⟩, PStep.of_only hW.only⟩
/-- The class of deadlines has changed. -/
theorem PickAt.by_dead {d' : De.Tks} {n' : Int} (h : PickAt w p D V S) (hF : De.DeadAt w' p 111 D d' n') (hW : Within p 111 103 w w') : PickAt w' p D V { S with d := d', n := n' } ∧ PStep p V V w w' := by
  obtain ⟨hb, hc⟩ := within_cell hW h.block
  exact ⟨⟨fair_other h.fair hb (fun j a b => hc j (by omega)), prio_other h.prio hW.only hb (fun j a b => hc j (by omega)), hF, fun t ht => (hc _ (by omega)).trans (h.val t ht), fun t ht => (hc _ (by omega)).trans (h.cls t ht), (hc _ (by omega)).trans h.now, (hc _ (by omega)).trans h.row⟩, PStep.of_only hW.only⟩
/-- The queues have changed. -/
theorem PickAt.by_prio {Q' : Pr.Qs} (h : PickAt w p D V S) (hF : Pr.QAt w' p 86 D V' Q') (hW : Pr.Step p 86 V V' w w') : PickAt w' p D V' { S with Q := Q' } ∧ PStep p V V' w w' := by
  have hb : ∃ cs, w'.heap[p]? = some (.cells cs D (0, 0)) := by obtain ⟨cs, h1, -⟩ := hF.block; exact ⟨cs, h1⟩
  have hc : ∀ j, j < 86 ∨ 94 ≤ j → w'.cell? ⟨p, j, none⟩ = w.cell? ⟨p, j, none⟩ := fun j hj => hW.still j (by omega)
  exact ⟨⟨fair_other h.fair hb (fun j a b => hc j (by omega)), hF, dead_other h.dead hb (fun j a b => hc j (by omega)), fun t ht => (hc _ (by omega)).trans (h.val t ht), fun t ht => (hc _ (by omega)).trans (h.cls t ht), (hc _ (by omega)).trans h.now, (hc _ (by omega)).trans h.row⟩, hW.only, hW.grow⟩

/-- A cell of none of the classes has changed. -/
theorem PickAt.cell_set (h : PickAt w p D V S) (i : Nat) (hi : 94 ≤ i ∧ i < 111 ∨ 214 ≤ i) (u : Value) :
    Fr.FairAt (w.setCell ⟨p, i, none⟩ u) p 0 D S.T S.G ∧ Pr.QAt (w.setCell ⟨p, i, none⟩ u) p 86 D V S.Q ∧ De.DeadAt (w.setCell ⟨p, i, none⟩ u) p 111 D S.d S.n ∧ (∀ j, j ≠ i → (w.setCell ⟨p, i, none⟩ u).cell? ⟨p, j, none⟩ = w.cell? ⟨p, j, none⟩) ∧ PStep p V V w (w.setCell ⟨p, i, none⟩ u) := by
  have hW : Within p i 1 w (w.setCell ⟨p, i, none⟩ u) := (Within.refl p i 1 w).setCell (by omega) u
  obtain ⟨hb, hc⟩ := within_cell hW h.block
  exact ⟨fair_other h.fair hb (fun j a b => hc j (by omega)), prio_other h.prio hW.only hb (fun j a b => hc j (by omega)), dead_other h.dead hb (fun j a b => hc j (by omega)), fun j hj => hc j (by omega), PStep.of_only hW.only⟩
theorem PickAt.size (h : PickAt w p D V S) {cs : Array Value} (hb : w.heap[p]? = some (.cells cs D (0, 0))) : 233 ≤ cs.size := by
  have := h.row
  rw [cell_at hb] at this
  have := (Array.getElem?_eq_some_iff.1 this).1
  omega
theorem PickAt.cell_same (h : PickAt w p D V S) (i : Nat) (hi : i < 233) (u : Value) : (w.setCell ⟨p, i, none⟩ u).cell? ⟨p, i, none⟩ = some u := by
  obtain ⟨cs, hb⟩ := h.block
  have hs := h.size hb
  rw [cell_at (heap_setCell_same w p i cs D u hb), Array.getElem?_setIfInBounds, if_pos rfl, if_pos (by omega)]

/-- A function with another value at one place. -/
abbrev upd {α : Type} (f : Nat → α) (k : Nat) (x : α) : Nat → α := Pr.upd f k x

theorem PickAt.set_val (h : PickAt w p D V S) (t : Nat) (ht : t < 17) (x : Int) : PickAt (w.setCell ⟨p, 94 + t, none⟩ (.int .i64 x)) p D V { S with A := upd S.A t x } ∧ PStep p V V w (w.setCell ⟨p, 94 + t, none⟩ (.int .i64 x)) := by
  obtain ⟨h1, h2, h3, h4, h5⟩ := h.cell_set (94 + t) (by omega) (.int .i64 x)
  refine ⟨⟨h1, h2, h3, fun k hk => ?_, fun k hk => (h4 _ (by omega)).trans (h.cls k hk), (h4 _ (by omega)).trans h.now, (h4 _ (by omega)).trans h.row⟩, h5⟩
  by_cases e : k = t
  · subst e; rw [h.cell_same _ (by omega)]; show _ = some (Value.int .i64 (Pr.upd S.A k x k)); rw [Pr.upd_same]
  · rw [h4 _ (by omega)]; show _ = some (Value.int .i64 (Pr.upd S.A t x k)); rw [Pr.upd_other _ _ e]; exact h.val k hk
theorem PickAt.set_cls (h : PickAt w p D V S) (t : Nat) (ht : t < 17) (x : Int) : PickAt (w.setCell ⟨p, 214 + t, none⟩ (.int .i64 x)) p D V { S with C := upd S.C t x } ∧ PStep p V V w (w.setCell ⟨p, 214 + t, none⟩ (.int .i64 x)) := by
  obtain ⟨h1, h2, h3, h4, h5⟩ := h.cell_set (214 + t) (by omega) (.int .i64 x)
  refine ⟨⟨h1, h2, h3, fun k hk => (h4 _ (by omega)).trans (h.val k hk), fun k hk => ?_, (h4 _ (by omega)).trans h.now, (h4 _ (by omega)).trans h.row⟩, h5⟩
  by_cases e : k = t
  · subst e; rw [h.cell_same _ (by omega)]; show _ = some (Value.int .i64 (Pr.upd S.C k x k)); rw [Pr.upd_same]
  · rw [h4 _ (by omega)]; show _ = some (Value.int .i64 (Pr.upd S.C t x k)); rw [Pr.upd_other _ _ e]; exact h.cls k hk
theorem PickAt.set_now (h : PickAt w p D V S) (x : Int) : PickAt (w.setCell ⟨p, 231, none⟩ (.int .i64 x)) p D V { S with now := x } ∧ PStep p V V w (w.setCell ⟨p, 231, none⟩ (.int .i64 x)) := by
  obtain ⟨h1, h2, h3, h4, h5⟩ := h.cell_set 231 (by omega) (.int .i64 x)
  exact ⟨⟨h1, h2, h3, fun k hk => (h4 _ (by omega)).trans (h.val k hk), fun k hk => (h4 _ (by omega)).trans (h.cls k hk), h.cell_same _ (by omega) _, (h4 _ (by omega)).trans h.row⟩, h5⟩
theorem PickAt.set_row (h : PickAt w p D V S) (x : Int) : PickAt (w.setCell ⟨p, 232, none⟩ (.int .i64 x)) p D V { S with row := x } ∧ PStep p V V w (w.setCell ⟨p, 232, none⟩ (.int .i64 x)) := by
  obtain ⟨h1, h2, h3, h4, h5⟩ := h.cell_set 232 (by omega) (.int .i64 x)
  exact ⟨⟨h1, h2, h3, fun k hk => (h4 _ (by omega)).trans (h.val k hk), fun k hk => (h4 _ (by omega)).trans (h.cls k hk), (h4 _ (by omega)).trans h.now, h.cell_same _ (by omega) _⟩, h5⟩

theorem Did.same {x : Value} (h : PickAt w p D V S) : Did p D V S x w (.returned x) w := ⟨rfl, V, h, PStep.refl p V w⟩
theorem Did.quiet {x : Value} (h : PickAt w p D V S) (hO : Only (fun _ => False) w w') : Did p D V S x w (.returned x) w' := ⟨rfl, V, h.later hO, PStep.of_quiet hO⟩
theorem Did.mk {x : Value} (h : PickAt w' p D V' S) (hs : PStep p V V' w w') : Did p D V S x w (.returned x) w' := ⟨rfl, V', h, hs⟩
end
end Go.Proofs.YtpincdcebhmnhaaGreat.Pk
/- Contracts of package pick: find, enter. -/
namespace Go.Proofs.YtpincdcebhmnhaaGreat.Pk
open Go.ChangeShapes Go.WideShapes Go.ChangeAt Go.RowKit Go.Maps
set_option linter.unusedVariables false

section
variable {w w' : World} {p D : Nat} {V V' V'' : Nat → Value} {S S' : St}

theorem find_out (h : PickAt w p D V S) (t : Int) (h1 : t < 1 ∨ 16 < t) :
    Calls Tryz.prog 21 #[.pointer (some ⟨p, 0, none⟩), .int .i64 t] w fun e w' => e = .returned .nilIface ∧ w = w' := by
  clear h
  by_cases h2 : t < 1
  · clear h1
    go_enter Tryz.func21, Tryz.ntmps21
    go_wp2
    go_ret
    exact ⟨rfl, rfl⟩
  · have h3 : 16 < t := by omega
    clear h1
    go_enter Tryz.func21, Tryz.ntmps21
    go_wp2
    go_ret
    exact ⟨rfl, rfl⟩
theorem find_none (h : PickAt w p D V S) (t : Nat) (h1 : 1 ≤ t) (h2 : t ≤ 16) (hc : S.C t = 0) :
    Calls Tryz.prog 21 #[.pointer (some ⟨p, 0, none⟩), .int .i64 t] w fun e w' => e = .returned .nilIface ∧ w = w' := by
  have c := h.cls t (by omega)
  rw [hc] at c
  have q1 : ¬ (t : Int) < 1 := by omega
  have q2 : ¬ 16 < (t : Int) := by omega
  have q3 : (t : Int) < 17 := by omega
  clear h hc
  go_enter Tryz.func21, Tryz.ntmps21
  go_wp2
  go_ret
  exact ⟨rfl, rfl⟩
theorem find_fair (h : PickAt w p D V S) (t : Nat) (h1 : 1 ≤ t) (h2 : t ≤ 16) (hc : S.C t = 1) :
    Calls Tryz.prog 21 #[.pointer (some ⟨p, 0, none⟩), .int .i64 t] w fun e w' => e = .returned (.iface 104 (.pointer (some ⟨p, 0, none⟩))) ∧ w = w' := by
  have c := h.cls t (by omega)
  rw [hc] at c
  have q1 : ¬ (t : Int) < 1 := by omega
  have q2 : ¬ 16 < (t : Int) := by omega
  have q3 : (t : Int) < 17 := by omega
  clear h hc
  go_enter Tryz.func21, Tryz.ntmps21
  go_wp2
  go_ret
  exact ⟨rfl, rfl⟩
theorem find_fixed (h : PickAt w p D V S) (t : Nat) (h1 : 1 ≤ t) (h2 : t ≤ 16) (hc : S.C t = 2) :
    Calls Tryz.prog 21 #[.pointer (some ⟨p, 0, none⟩), .int .i64 t] w fun e w' => e = .returned (.iface 105 (.pointer (some ⟨p, 86, none⟩))) ∧ w = w' := by
  have c := h.cls t (by omega)
  rw [hc] at c
  have q1 : ¬ (t : Int) < 1 := by omega
  have q2 : ¬ 16 < (t : Int) := by omega
  have q3 : (t : Int) < 17 := by omega
  clear h hc
  go_enter Tryz.func21, Tryz.ntmps21
  go_wp2
  go_ret
  exact ⟨rfl, rfl⟩
theorem find_dead (h : PickAt w p D V S) (t : Nat) (h1 : 1 ≤ t) (h2 : t ≤ 16) (hc : S.C t = 3) :
    Calls Tryz.prog 21 #[.pointer (some ⟨p, 0, none⟩), .int .i64 t] w fun e w' => e = .returned (.iface 106 (.pointer (some ⟨p, 111, none⟩))) ∧ w = w' := by
  have c := h.cls t (by omega)
  rw [hc] at c
  have q1 : ¬ (t : Int) < 1 := by omega
  have q2 : ¬ 16 < (t : Int) := by omega
  have q3 : (t : Int) < 17 := by omega
  clear h hc
  go_enter Tryz.func21, Tryz.ntmps21
  go_wp2
  go_ret
  exact ⟨rfl, rfl⟩

/-- What enter makes of a scheduler. -/
def entered (S : St) (t : Nat) (c e : Int) : St := if e = 0 then { S with C := upd S.C t c } else S
theorem enter_yes (h : PickAt w p D V S) (t : Nat) (h1 : 1 ≤ t) (h2 : t ≤ 16) (c : Int) :
    Calls Tryz.prog 22 #[.pointer (some ⟨p, 0, none⟩), .int .i64 t, .int .i64 c, .int .i64 0] w (Did p D V { S with C := upd S.C t c } (.int .i64 0) w) := by
  have H := Lib.hid (h.set_cls t (by omega) c)
  have cl := h.cls t (by omega)
  have fz := h.frozen
  have q3 : (t : Int) < 17 := by omega
  clear h
  go_enter Tryz.func22, Tryz.ntmps22
  go_wp2
  go_ret
  exact Did.mk H.out.1 H.out.2
theorem enter_no (h : PickAt w p D V S) (t c e : Int) (he : e ≠ 0) :
    Calls Tryz.prog 22 #[.pointer (some ⟨p, 0, none⟩), .int .i64 t, .int .i64 c, .int .i64 e] w (Did p D V S (.int .i64 e) w) := by
  have H := Lib.hid h
  clear h
  go_enter Tryz.func22, Tryz.ntmps22
  go_wp2
  go_ret
  exact Did.same H.out
end
end Go.Proofs.YtpincdcebhmnhaaGreat.Pk
/- Queues in which each task stands once. -/
namespace Go.Proofs.YtpincdcebhmnhaaGreat.Pr
open Go.ChangeShapes Go.WideShapes Go.ChangeAt Go.RowKit Go.Maps
set_option linter.unusedVariables false

/-- Each task stands once. -/
structure Uniq (Q : Qs) : Prop where
  nodup : ∀ i, i < 8 → (Q i).Nodup
  only : ∀ i j t, i < 8 → j < 8 → t ∈ Q i → t ∈ Q j → i = j
  task : ∀ i t, i < 8 → t ∈ Q i → 1 ≤ t ∧ t ≤ 16

theorem Uniq.len {Q : Qs} (h : Uniq Q) {i : Nat} (hi : i < 8) : (Q i).length ≤ 16 := by
  have h2 : (Q i).length ≤ ((List.range' 1 16).map Int.ofNat).length := by
    apply List.Nodup.length_le_of_subset (h.nodup i hi)
    intro x hx
    have := h.task i x hi hx
    rw [List.mem_map]
    refine ⟨x.toNat, ?_, by show ((x.toNat : Nat) : Int) = x; omega⟩
    rw [List.mem_range'_1]; omega
  simpa using h2

theorem uniq_no : Uniq noQ := ⟨fun _ _ => List.nodup_nil, (fun i j t _ _ h => by cases h), (fun i t _ h => by cases h)⟩

/-- A queue's list changed to one whose tasks were in it, or in no queue. -/
theorem Uniq.upd {Q : Qs} (h : Uniq Q) {v : Nat} (hv : v < 8) {xs : List Int} (hn : xs.Nodup) (hm : ∀ t ∈ xs, t ∈ Q v ∨ seek Q t = none ∧ 1 ≤ t ∧ t ≤ 16) : Uniq (upd Q v xs) := by
  refine ⟨fun i hi => ?_, fun i j t hi hj h1 h2 => ?_, fun i t hi ht => ?_⟩
  · by_cases e : i = v
    · subst e; rw [upd_same]; exact hn
    · rw [upd_other _ _ e]; exact h.nodup i hi
  · by_cases e : i = v
    · by_cases e2 : j = v
      · rw [e, e2]
      · subst e
        rw [upd_same] at h1
        rw [upd_other _ _ e2] at h2
        rcases hm t h1 with h3 | h3
        · exact h.only i j t hi hj h3 h2
        · exact absurd h2 (seek_no h3.1 hj)
    · rw [upd_other _ _ e] at h1
      by_cases e2 : j = v
      · subst e2
        rw [upd_same] at h2
        rcases hm t h2 with h3 | h3
        · exact h.only i j t hi hj h1 h3
        · exact absurd h1 (seek_no h3.1 hi)
      · rw [upd_other _ _ e2] at h2
        exact h.only i j t hi hj h1 h2
  · by_cases e : i = v
    · subst e
      rw [upd_same] at ht
      rcases hm t ht with h3 | h3
      · exact h.task i t hi h3
      · exact h3.2
    · rw [upd_other _ _ e] at ht
      exact h.task i t hi ht

theorem Uniq.put {Q : Qs} (h : Uniq Q) {v : Nat} (hv : v < 8) {t : Int} (hs : seek Q t = none) (ht : 1 ≤ t ∧ t ≤ 16) : Uniq (Pr.upd Q v (Q v ++ [t])) := by
  refine h.upd hv ?_ (fun x hx => ?_)
  · rw [List.nodup_append]
    refine ⟨h.nodup v hv, by simp, fun a ha b hb => ?_⟩
    simp at hb
    subst hb
    intro e
    subst e
    exact seek_no hs hv ha
  · rcases List.mem_append.1 hx with hx | hx
    · exact Or.inl hx
    · simp at hx; subst hx; exact Or.inr ⟨hs, ht⟩

theorem Uniq.out {Q : Qs} (h : Uniq Q) {t : Int} {i : Nat} (hi : i < 8) : Uniq (Pr.upd Q i ((Q i).erase t)) :=
  h.upd hi ((h.nodup i hi).sublist (List.erase_sublist)) (fun x hx => Or.inl (List.mem_of_mem_erase hx))

theorem Uniq.seek {Q : Qs} (h : Uniq Q) {t : Int} {i : Nat} (hi : i < 8) (ht : t ∈ Q i) : seek Q t = some i :=
  seekTo_some hi ht (fun j hj hm => by have := h.only i j t hi (by omega) ht hm; omega)

theorem Uniq.turned {Q : Qs} (h : Uniq Q) {v : Nat} (hv : v < 8) {x : Int} {xs : List Int} (he : Q v = x :: xs) : Uniq (Pr.upd Q v (xs ++ [x])) := by
  have hx : x ∈ Q v := by rw [he]; simp
  have hn := h.nodup v hv
  rw [he, List.nodup_cons] at hn
  refine h.upd hv ?_ (fun t ht => Or.inl ?_)
  · rw [List.nodup_append]
    refine ⟨hn.2, by simp, fun a ha b hb => ?_⟩
    simp at hb
    subst hb
    rintro rfl
    exact hn.1 ha
  · rw [he]
    rcases List.mem_append.1 ht with ht | ht
    · exact List.mem_cons_of_mem _ ht
    · simp at ht; subst ht; simp
end Go.Proofs.YtpincdcebhmnhaaGreat.Pr
/- Contracts of package pick: the class of fixed priorities. -/
namespace Go.Proofs.YtpincdcebhmnhaaGreat.Pk
open Go.ChangeShapes Go.WideShapes Go.ChangeAt Go.RowKit Go.Maps
set_option linter.unusedVariables false

section
variable {w w' : World} {p D : Nat} {V V' V'' : Nat → Value} {S S' : St}

theorem fblock_yes (h : PickAt w p D V S) (hu : Pr.Uniq S.Q) (t : Nat) (h2 : t ≤ 16) {i : Nat} (hs : Pr.seek S.Q t = some i) :
    Calls Tryz.prog 124 #[.pointer (some ⟨p, 86, none⟩), .int .i64 t] w (Did p D V { S with Q := upd S.Q i ((S.Q i).erase t), A := upd S.A t i } (.int .i64 0) w) := by
  have H := Lib.hid h
  have K := Lib.hid (Pr.out_yes h.prio (fun j hj => by have := hu.len hj; omega) t hs)
  have q3 : (t : Int) < 17 := by omega
  clear h hu hs
  go_enter Tryz.func124, Tryz.ntmps124
  go_wp2_with (go_at_call 127; (with_reducible refine K.out.mono ?_); rintro e w1 ⟨rfl, V1, hq, hs⟩; have H1 := Lib.hid (H.out.by_prio hq hs); clear hq hs; have cv := H1.out.1.val t (by omega); have fz := H1.out.1.frozen)
  go_ret
  have H2 := H1.out.1.set_val t (by omega) i
  exact Did.mk H2.1 (H1.out.2.trans H2.2)
theorem fblock_no (h : PickAt w p D V S) (hu : Pr.Uniq S.Q) (t : Nat) (hs : Pr.seek S.Q t = none) :
    Calls Tryz.prog 124 #[.pointer (some ⟨p, 86, none⟩), .int .i64 t] w (Did p D V S (.int .i64 8) w) := by
  have H := Lib.hid h
  have K := Lib.hid (Pr.out_no h.prio (fun j hj => by have := hu.len hj; omega) t hs)
  clear h hu hs
  go_enter Tryz.func124, Tryz.ntmps124
  go_wp2_with (go_at_call 127; (with_reducible refine K.out.mono ?_); rintro e w1 ⟨rfl, V1, hq, hs⟩; have H1 := Lib.hid (H.out.by_prio hq hs); clear hq hs)
  go_ret
  exact Did.mk H1.out.1 H1.out.2
theorem fleave_yes (h : PickAt w p D V S) (hu : Pr.Uniq S.Q) (t : Nat) {i : Nat} (hs : Pr.seek S.Q t = some i) :
    Calls Tryz.prog 125 #[.pointer (some ⟨p, 86, none⟩), .int .i64 t] w (Did p D V { S with Q := upd S.Q i ((S.Q i).erase t) } (.int .i64 0) w) := by
  have H := Lib.hid h
  have K := Lib.hid (Pr.out_yes h.prio (fun j hj => by have := hu.len hj; omega) t hs)
  clear h hu hs
  go_enter Tryz.func125, Tryz.ntmps125
  go_wp2_with (go_at_call 127; (with_reducible refine K.out.mono ?_); rintro e w1 ⟨rfl, V1, hq, hs⟩; have H1 := Lib.hid (H.out.by_prio hq hs); clear hq hs)
  go_ret
  exact Did.mk H1.out.1 H1.out.2
theorem fleave_no (h : PickAt w p D V S) (hu : Pr.Uniq S.Q) (t : Nat) (hs : Pr.seek S.Q t = none) :
    Calls Tryz.prog 125 #[.pointer (some ⟨p, 86, none⟩), .int .i64 t] w (Did p D V S (.int .i64 0) w) := by
  have H := Lib.hid h
  have K := Lib.hid (Pr.out_no h.prio (fun j hj => by have := hu.len hj; omega) t hs)
  clear h hu hs
  go_enter Tryz.func125, Tryz.ntmps125
  go_wp2_with (go_at_call 127; (with_reducible refine K.out.mono ?_); rintro e w1 ⟨rfl, V1, hq, hs⟩; have H1 := Lib.hid (H.out.by_prio hq hs); clear hq hs)
  go_ret
  exact Did.mk H1.out.1 H1.out.2

theorem fwake_yes (h : PickAt w p D V S) (hu : Pr.Uniq S.Q) (t : Nat) (h1 : 1 ≤ t) (h2 : t ≤ 16) {v : Nat} (hv : v < 8) (ha : S.A t = v) (hs : Pr.seek S.Q t = none) :
    Calls Tryz.prog 126 #[.pointer (some ⟨p, 86, none⟩), .int .i64 t] w (Did p D V { S with Q := upd S.Q v (S.Q v ++ [(t : Int)]) } (.int .i64 0) w) := by
  have H := Lib.hid h
  have HU := Lib.hid hu
  have HS := Lib.hid hs
  have K := Lib.hid (fun W (hW : Only (fun _ => False) w W) => Pr.put_new (H.out.later hW).prio (fun j hj => by have := HU.out.len hj; omega) (t : Int) v (by omega) hv HS.out)
  have cv := h.val t (by omega)
  rw [ha] at cv
  have q3 : (t : Int) < 17 := by omega
  clear h hu hs ha
  go_enter Tryz.func126, Tryz.ntmps126
  go_wp2_with fail
  go_region_with (go_at_call 24; (with_reducible refine (K.out _ (Only.refl _ _).drew).mono ?_); rintro e w2 ⟨rfl, V1, hq, hs⟩; have H1 := Lib.hid ((H.out.later (Only.refl _ _).drew).by_prio hq hs); clear hq hs)
  all_goals (
    (try go_wp2_with fail)
    go_ret
    exact Did.mk H1.out.1 ((PStep.of_quiet (Only.refl _ _).drew).trans H1.out.2))
theorem fwake_no (h : PickAt w p D V S) (hu : Pr.Uniq S.Q) (t : Nat) (h1 : 1 ≤ t) (h2 : t ≤ 16) (ha : 0 ≤ S.A t ∧ S.A t < 8) {i : Nat} (hs : Pr.seek S.Q t = some i) :
    Calls Tryz.prog 126 #[.pointer (some ⟨p, 86, none⟩), .int .i64 t] w (Did p D V S (.int .i64 8) w) := by
  have H := Lib.hid h
  have HU := Lib.hid hu
  have HS := Lib.hid hs
  have HV := Lib.hid (show Pr.valid (S.A t) = true from decide_eq_true ha)
  have K := Lib.hid (fun W (hW : Only (fun _ => False) w W) => Pr.put_there (H.out.later hW).prio (fun j hj => by have := HU.out.len hj; omega) (t : Int) (S.A t) (by omega) HV.out HS.out)
  have cv := h.val t (by omega)
  have q3 : (t : Int) < 17 := by omega
  clear h hu hs ha
  go_enter Tryz.func126, Tryz.ntmps126
  go_wp2_with fail
  go_region_with (go_at_call 24; (with_reducible refine (K.out _ (Only.refl _ _).drew).mono ?_); rintro e w2 ⟨rfl, V1, hq, hs⟩; have H1 := Lib.hid ((H.out.later (Only.refl _ _).drew).by_prio hq hs); clear hq hs)
  all_goals (
    (try go_wp2_with fail)
    go_ret
    exact Did.mk H1.out.1 ((PStep.of_quiet (Only.refl _ _).drew).trans H1.out.2))

theorem fturn_yes (h : PickAt w p D V S) (hu : Pr.Uniq S.Q) {v : Nat} (ht : Pr.top S.Q = some v) (x : Int) (xs : List Int) (he : S.Q v = x :: xs) :
    Calls Tryz.prog 26 #[.pointer (some ⟨p, 86, none⟩)] w (Did p D V { S with Q := upd S.Q v (xs ++ [x]) } (.tuple #[]) w) := by
  have H := Lib.hid h
  have hv : v < 8 := (Pr.topTo_is ht).1
  have hl := hu.len hv
  rw [he] at hl
  have K := Lib.hid (Pr.first_is (Pr.first_any h.prio (fun j hj => by have := hu.len hj; omega)) ht)
  have K2 := Lib.hid (fun W (hW : Only (fun _ => False) w W) => Pr.turn_yes (H.out.later hW).prio v hv x xs he (by simp at hl; omega))
  clear h hu ht he hl
  go_enter Tryz.func26, Tryz.ntmps26
  go_wp2_with (first
    | (go_at_call 45; (with_reducible refine K.out.mono ?_); rintro e w1 ⟨rfl, hO⟩; have HO := Lib.hid hO; clear hO)
    | (go_at_call 57; (with_reducible refine (K2.out _ HO.out).mono ?_); rintro e w2 ⟨rfl, V1, hq, hs⟩; have H1 := Lib.hid ((H.out.later HO.out).by_prio hq hs); clear hq hs))
  go_returns
  exact Did.mk H1.out.1 ((PStep.of_quiet HO.out).trans H1.out.2)
end
end Go.Proofs.YtpincdcebhmnhaaGreat.Pk
