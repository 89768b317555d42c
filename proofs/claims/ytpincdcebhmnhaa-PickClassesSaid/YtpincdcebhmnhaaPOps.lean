/- Contracts of package prio: New, Put, Out, First, Turn, Bits, List. -/
import Derived.Test.YtpincdcebhmnhaaPAdd
import Derived.Laws.CopyOwn
import Derived.Deep.RegionLaw
namespace Go.Proofs.Ytpincdcebhmnhaa.Pr
open Go.ChangeShapes Go.WideShapes Go.ChangeAt Go.RowKit Go.Maps
set_option linter.unusedVariables false

def noV : Nat → Value := fun _ => .slice none 0 0
def noQ : Qs := fun _ => []

theorem lt8 {P : Nat → Prop} (h : P 0 ∧ P 1 ∧ P 2 ∧ P 3 ∧ P 4 ∧ P 5 ∧ P 6 ∧ P 7) (t : Nat) (ht : t < 8) : P t := by
  obtain ⟨h0, h1, h2, h3, h4, h5, h6, h7⟩ := h
  rcases (show t = 0 ∨ t = 1 ∨ t = 2 ∨ t = 3 ∨ t = 4 ∨ t = 5 ∨ t = 6 ∨ t = 7 by omega) with rfl | rfl | rfl | rfl | rfl | rfl | rfl | rfl <;> assumption

theorem fresh_at (w : World) (T : Nat) (hT : T ≠ 3) (cs : Array Value) (h : ∀ i, i < 8 → cs[i]? = some (.slice none 0 0)) : QAt (w.alloc (.cells cs T)) w.heap.size 0 T noV noQ :=
  ⟨⟨_, heap_alloc_new w _, fun i hi => by rw [Nat.zero_add]; exact h i hi⟩, hT, fun i hi => ints_nil _ _, fun i j k hi hj hij e => by cases e⟩

theorem no_foot {p k : Nat} (h : Foot p noV k) : k = p := by
  rcases h with h | ⟨i, hi, e⟩
  · exact h
  · cases e

/-- What is known behind a call that changes queues. -/
def Moved (p o T : Nat) (V : Nat → Value) (Q' : Qs) (x : Value) (w : World) (e : Ending) (w' : World) : Prop := e = .returned x ∧ ∃ V', QAt w' p o T V' Q' ∧ Step p o V V' w w'

section
variable {w : World} {p o T : Nat} {V : Nat → Value} {Q : Qs}

theorem find_yes (h : QAt w p o T V Q) (hl : ∀ i, i < 8 → (Q i).length ≤ 17000000000000) (t : Int) {i j : Nat} (hs : seek Q t = some i) (hj : (Q i).idxOf t = j) :
    Calls Try.prog 37 #[.pointer (some ⟨p, o, none⟩), .int .i64 t] w (FindYes i j w) := by
  have := find_any h hl t
  unfold FindAns at this
  subst hj
  simpa only [hs] using this
theorem find_no (h : QAt w p o T V Q) (hl : ∀ i, i < 8 → (Q i).length ≤ 17000000000000) (t : Int) (hs : seek Q t = none) :
    Calls Try.prog 37 #[.pointer (some ⟨p, o, none⟩), .int .i64 t] w (FindNo w) := by
  have := find_any h hl t
  unfold FindAns at this
  simpa only [hs] using this

theorem Moved.same {x : Value} {w' : World} (h : QAt w p o T V Q) (hO : Only (fun _ => False) w w') : Moved p o T V Q x w (.returned x) w' := ⟨rfl, V, h.later hO, Step.later h hO⟩

theorem put_bad (h : QAt w p o T V Q) (t v : Int) (hb : ¬ ((1 ≤ t ∧ t ≤ 16) ∧ valid v = true)) :
    Calls Try.prog 24 #[.pointer (some ⟨p, o, none⟩), .int .i64 t, .int .i64 v] w (Moved p o T V Q (.int .i64 1) w) := by
  have H := Lib.hid h
  have C := Lib.hid (fun w => valid_any v w)
  clear h
  by_cases h1 : t < 1
  · clear hb
    go_enter Try.func24, Try.ntmps24
    go_wp2_with fail
    go_ret
    exact Moved.same H.out (Only.refl _ _)
  · by_cases h2 : 16 < t
    · clear hb
      go_enter Try.func24, Try.ntmps24
      go_wp2_with fail
      go_ret
      exact Moved.same H.out (Only.refl _ _)
    · have hv : valid v = false := by
        cases e : valid v with
        | false => rfl
        | true => exact absurd ⟨⟨by omega, by omega⟩, e⟩ hb
      rw [hv] at C
      clear hb hv
      go_enter Try.func24, Try.ntmps24
      go_wp2_with (go_at_call 36; (with_reducible refine (C.out _).mono ?_); rintro e w1 ⟨rfl, rfl⟩)
      go_ret
      exact Moved.same H.out (Only.refl _ _)

theorem put_there (h : QAt w p o T V Q) (hl : ∀ i, i < 8 → (Q i).length ≤ 17000000000000) (t v : Int) (ht : 1 ≤ t ∧ t ≤ 16) (hv : valid v = true) {i : Nat} (hs : seek Q t = some i) :
    Calls Try.prog 24 #[.pointer (some ⟨p, o, none⟩), .int .i64 t, .int .i64 v] w (Moved p o T V Q (.int .i64 5) w) := by
  have H := Lib.hid h
  have C := Lib.hid (fun w => valid_any v w)
  rw [hv] at C
  have F := Lib.hid (find_yes h hl t hs rfl)
  have h1 : ¬ t < 1 := by omega
  have h2 : ¬ 16 < t := by omega
  clear h hl hv hs
  generalize (Q i).idxOf t = j at *
  go_enter Try.func24, Try.ntmps24
  go_wp2_with (first
    | (go_at_call 36; (with_reducible refine (C.out _).mono ?_); rintro e w1 ⟨rfl, rfl⟩)
    | (go_at_call 37; (with_reducible refine F.out.mono ?_); rintro e w1 ⟨rfl, hO⟩; have HO := Lib.hid hO; clear hO))
  go_ret
  exact Moved.same H.out HO.out

set_option maxHeartbeats 1000000 in
theorem put_new (h : QAt w p o T V Q) (hl : ∀ i, i < 8 → (Q i).length + 1 ≤ 17000000000000) (t : Int) (v : Nat) (ht : 1 ≤ t ∧ t ≤ 16) (hv : v < 8) (hs : seek Q t = none) :
    Calls Try.prog 24 #[.pointer (some ⟨p, o, none⟩), .int .i64 t, .int .i64 v] w (Moved p o T V (upd Q v (Q v ++ [t])) (.int .i64 0) w) := by
  have H := Lib.hid h
  have C := Lib.hid (fun w => valid_any v w)
  rw [show valid (v : Int) = true from decide_eq_true (by omega)] at C
  have F := Lib.hid (find_no h (fun i hi => by have := hl i hi; omega) t hs)
  have HL := Lib.hid (hl v hv)
  have h1 : ¬ t < 1 := by omega
  have h2 : ¬ 16 < t := by omega
  have h3 : (v : Int) < 8 := by omega
  clear h hl hs ht
  go_enter Try.func24, Try.ntmps24
  go_wp2_with (first
    | (go_at_call 36; (with_reducible refine (C.out _).mono ?_); rintro e w1 ⟨rfl, rfl⟩)
    | (go_at_call 37; (with_reducible refine F.out.mono ?_); rintro e w1 ⟨rfl, hO⟩; have HO := Lib.hid hO; have H1 := Lib.hid (H.out.later hO); clear hO))
  have c0 := H1.out.cell hv
  have hp := H1.out.lt
  obtain ⟨sa, sc, hsv, -, -⟩ := (H1.out.row v hv).shape
  have HSV := Lib.hid hsv
  rw [hsv] at c0
  clear hsv
  go_region_law (refine step_add rfl (.tmp 36) (.tmp 38) rfl w1 p o T w1.heap.size V Q v t H1.out hv ((Only.refl _ w1).alloc _).drew (by rw [HSV.out]; rfl) (by rfl) (heap_alloc_new w1 _) HL.out ?_; intro g c w2 q1 q2 HA; rw [HSV.out] at q1)
  all_goals (
    (try go_wp2_with fail)
    go_ret
    exact ⟨rfl, _, HA.out.at_, (Step.later H.out HO.out).trans HA.out.step⟩)

theorem out_no (h : QAt w p o T V Q) (hl : ∀ i, i < 8 → (Q i).length ≤ 17000000000000) (t : Int) (hs : seek Q t = none) :
    Calls Try.prog 68 #[.pointer (some ⟨p, o, none⟩), .int .i64 t] w (Moved p o T V Q (.tuple #[.int .i64 0, .int .i64 4]) w) := by
  have H := Lib.hid h
  have F := Lib.hid (find_no h hl t hs)
  clear h hl hs
  go_enter Try.func68, Try.ntmps68
  go_wp2_with (go_at_call 37; (with_reducible refine F.out.mono ?_); rintro e w1 ⟨rfl, hO⟩; have HO := Lib.hid hO; clear hO)
  go_ret2
  exact Moved.same H.out HO.out

theorem del_back {w1 W w2 : World} {i g n c : Nat} (h : QAt w1 p o T V Q) (hi : i < 8) (hv : V i = .slice (some ⟨g, 0, none⟩) n c) (hW : Only (fun _ => False) w1 W) (h2 : Only (· = g) W w2) :
    w2.cell? ⟨p, o + i, none⟩ = some (.slice (some ⟨g, 0, none⟩) n c) ∧ w2.frozen? ⟨p, o + i, none⟩ = false ∧ Only (fun k => (V i).ownBlock = some k) w1 w2 := by
  have hO : Only (fun k => (V i).ownBlock = some k) w1 w2 := (hW.mono (fun _ _ e => e.elim)).trans h2 (fun k _ e => by subst e; rw [hv]; rfl)
  refine ⟨(cell_kept hO h.lt (h.not_row hi)).trans (by rw [h.cell hi, hv]), ?_, hO⟩
  obtain ⟨cs, q1, -⟩ := h.block
  exact frozen_at ((hO.block p h.lt (h.not_row hi)).trans q1) _

theorem out_end {w1 w2 : World} {i j g m c : Nat} {t : Int} (h : QAt w p o T V Q) (hO : Only (fun _ => False) w w1) (h1 : QAt w1 p o T V Q) (hi : i < 8) (hv : V i = .slice (some ⟨g, 0, none⟩) (m + 1) c) (he : (Q i).erase t = (Q i).eraseIdx j)
    (hr : Ints w2 0 (.slice (some ⟨g, 0, none⟩) m c) ((Q i).eraseIdx j)) (hO2 : Only (fun k => (V i).ownBlock = some k) w1 w2) :
    Moved p o T V (upd Q i ((Q i).erase t)) (.tuple #[.int .i64 i, .int .i64 0]) w (.returned (.tuple #[.int .i64 i, .int .i64 0])) (w2.setCell ⟨p, o + i, none⟩ (.slice (some ⟨g, 0, none⟩) m c)) := by
  rw [← he] at hr
  obtain ⟨q1, q2⟩ := h1.row_set hi hr hO2 (fun k hk => Or.inl (by rw [hv]; exact hk))
  exact ⟨rfl, _, q1, (Step.later h hO).trans q2⟩

set_option maxHeartbeats 1000000 in
theorem out_yes (h : QAt w p o T V Q) (hl : ∀ i, i < 8 → (Q i).length ≤ 6000000000000) (t : Int) {i : Nat} (hs : seek Q t = some i) :
    Calls Try.prog 68 #[.pointer (some ⟨p, o, none⟩), .int .i64 t] w (Moved p o T V (upd Q i ((Q i).erase t)) (.tuple #[.int .i64 i, .int .i64 0]) w) := by
  have H := Lib.hid h
  obtain ⟨hi, hm⟩ := seek_is hs
  have hj := (idx_nonneg hm).2
  have HE := show (Q i).erase t = (Q i).eraseIdx ((Q i).idxOf t) from List.erase_eq_eraseIdx_of_idxOf rfl
  obtain ⟨j, hj0⟩ : ∃ j, (Q i).idxOf t = j := ⟨_, rfl⟩
  rw [hj0] at hj HE
  have F := Lib.hid (find_yes h (fun i hi => by have := hl i hi; omega) t hs hj0)
  have HE := Lib.hid HE
  have HL := Lib.hid (hl i hi)
  obtain ⟨m, hm⟩ : ∃ m, (Q i).length = m + 1 := ⟨(Q i).length - 1, by omega⟩
  rw [hm] at hj
  have HM := Lib.hid hm
  have jb : j ≤ 6000000000000 := by have := HL.out; omega
  clear h hl hs hm hj0
  go_enter Try.func68, Try.ntmps68
  go_wp2_with (go_at_call 37; (with_reducible refine F.out.mono ?_); rintro e w1 ⟨rfl, hO⟩; have HO := Lib.hid hO; have H1 := Lib.hid (H.out.later hO); clear hO)
  have c0 := H1.out.cell hi
  have hp := H1.out.lt
  obtain ⟨g, c, hv, -, hg, HR⟩ := (H1.out.row i hi).at_block HM.out (by omega)
  have HV := Lib.hid hv
  rw [hv] at c0
  clear hv hg
  have HR := Lib.hid HR
  have hi8 : (i : Int) < 8 := by omega
  have hjm : IntKind.i64.wrap ((j : Int) + 1) = (j : Int) + 1 := IntWalk.i64_in _ (by omega)
  have D := Lib.hid (fun (W : World) (hW : Only (fun _ => False) w1 W) => delete_row 0 g m c j (Q i) W (HR.out.later hW) HM.out hj (by have := HL.out; have := HM.out; omega))
  have G := Lib.hid (fun (W w2 : World) (hW : Only (fun _ => False) w1 W) (h2 : Only (· = g) W w2) => del_back H1.out hi HV.out hW h2)
  go_region_with (go_at_call 69; (with_reducible refine (D.out _ (Only.refl _ _).drew).mono ?_); rintro e w2 ⟨rfl, hr2, hO2⟩; obtain ⟨q1, q2, q3⟩ := G.out _ w2 (Only.refl _ _).drew hO2; have HR2 := Lib.hid hr2; have HO2 := Lib.hid q3; clear hr2 hO2 q3)
  all_goals (
    (try go_wp2_with fail)
    go_ret2
    exact out_end H.out HO.out H1.out hi HV.out HE.out HR2.out HO2.out)

/-- Who goes first, among the queues below k. -/
def topTo (Q : Qs) : Nat → Option Nat
  | 0 => none
  | k + 1 => if Q k = [] then topTo Q k else some k
def top (Q : Qs) : Option Nat := topTo Q 8

theorem topTo_succ (Q : Qs) (k : Nat) : topTo Q (k + 1) = if Q k = [] then topTo Q k else some k := rfl
theorem topTo_down {Q : Qs} {n k : Nat} (h : k ≤ n) (he : ∀ j, k ≤ j → j < n → Q j = []) : topTo Q n = topTo Q k := by
  induction n with
  | zero => rw [show k = 0 by omega]
  | succ n ih =>
    by_cases e : k = n + 1
    · rw [e]
    · rw [topTo_succ, if_pos (he n (by omega) (by omega)), ih (by omega) (fun j h1 h2 => he j h1 (by omega))]
theorem top_some {Q : Qs} {n : Nat} (hn : n < 8) (h : Q n ≠ []) (he : ∀ j, n + 1 ≤ j → j < 8 → Q j = []) : top Q = some n := by
  unfold top
  rw [topTo_down (k := n + 1) (by omega) he]
  unfold topTo
  rw [if_neg h]
theorem top_none {Q : Qs} (he : ∀ j, j < 8 → Q j = []) : top Q = none := by
  unfold top
  rw [topTo_down (k := 0) (by omega) (fun j _ h => he j h)]
  rfl
theorem topTo_is {Q : Qs} {k n : Nat} (h : topTo Q k = some n) : n < k ∧ Q n ≠ [] ∧ ∀ j, n < j → j < k → Q j = [] := by
  induction k with
  | zero => cases h
  | succ k ih =>
    unfold topTo at h
    by_cases e : Q k = []
    · rw [if_pos e] at h
      obtain ⟨h1, h2, h3⟩ := ih h
      refine ⟨by omega, h2, fun j hj hk => ?_⟩
      by_cases e2 : j = k
      · subst e2; exact e
      · exact h3 j hj (by omega)
    · rw [if_neg e] at h
      cases h
      exact ⟨by omega, e, fun j hj hk => by omega⟩
theorem topTo_no {Q : Qs} {k : Nat} (h : topTo Q k = none) : ∀ j, j < k → Q j = [] := by
  induction k with
  | zero => intro j hj; omega
  | succ k ih =>
    unfold topTo at h
    by_cases e : Q k = []
    · rw [if_pos e] at h
      intro j hj
      by_cases e2 : j = k
      · subst e2; exact e
      · exact ih h j (by omega)
    · rw [if_neg e] at h
      cases h

/-- What First answers. -/
def FirstAns (Q : Qs) (w : World) (e : Ending) (w' : World) : Prop :=
  match top Q with
  | some n => Triple ((Q n).getD 0 0) n 0 w e w'
  | none => Triple 0 0 4 w e w'

theorem first_is {Q : Qs} {f : Nat} {args : Array Value} {w : World} (h : Calls Try.prog f args w (FirstAns Q w)) {n : Nat} (hn : top Q = some n) : Calls Try.prog f args w (Triple ((Q n).getD 0 0) n 0 w) := by
  unfold FirstAns at h
  simpa only [hn] using h
theorem first_not {Q : Qs} {f : Nat} {args : Array Value} {w : World} (h : Calls Try.prog f args w (FirstAns Q w)) (hn : top Q = none) : Calls Try.prog f args w (Triple 0 0 4 w) := by
  unfold FirstAns at h
  simpa only [hn] using h
theorem FirstAns.some {Q : Qs} {n : Nat} {w : World} {e : Ending} {w' : World} (hn : top Q = some n) (h : Triple ((Q n).getD 0 0) n 0 w e w') : FirstAns Q w e w' := by unfold FirstAns; simpa only [hn] using h
theorem FirstAns.none {Q : Qs} {w : World} {e : Ending} {w' : World} (hn : top Q = none) (h : Triple 0 0 4 w e w') : FirstAns Q w e w' := by unfold FirstAns; simpa only [hn] using h

theorem first_any (h : QAt w p o T V Q) (hl : ∀ i, i < 8 → (Q i).length ≤ 17000000000000) :
    Calls Try.prog 41 #[.pointer (some ⟨p, o, none⟩)] w (FirstAns Q w) := by
  have H := Lib.hid h
  have HL := Lib.hid hl
  clear hl h
  go_enter Try.func41, Try.ntmps41
  go_wp2_with fail
  go_loopw [5, 6] (fun i _ wr => ∃ (k : Nat) (z : Int), k ≤ 8 ∧ i = .int .i64 z ∧ z + 1 = k ∧ (∀ j, k ≤ j → j < 8 → Q j = []) ∧ Only (fun _ => False) w wr) (fun i _ _ => (intOf i + 1).toNat)
  case atStart => exact ⟨8, 7, Nat.le_refl _, rfl, rfl, fun j h1 h2 => by omega, Only.refl _ w⟩
  case round =>
    obtain ⟨k, z, hk, rfl, hz, ht, hO⟩ := hrel
    have HT := Lib.hid ht
    have HO := Lib.hid hO
    clear ht hO
    by_cases h0 : k = 0
    · obtain rfl : z = -1 := by omega
      subst h0
      go_wp2_with fail
      go_ret3
      exact FirstAns.none (top_none (fun j hj => HT.out j (Nat.zero_le _) hj)) ⟨rfl, HO.out⟩
    · obtain ⟨n, rfl⟩ : ∃ n : Nat, z = n := ⟨z.toNat, by omega⟩
      obtain rfl : k = n + 1 := by omega
      have hn : n < 8 := by omega
      have H1 := Lib.hid (H.out.later HO.out)
      have c0 := H1.out.cell hn
      have HLn := Lib.hid (HL.out n hn)
      have g1 : (n : Int) < 8 := by omega
      by_cases he : Q n = []
      · have HE := Lib.hid he
        obtain ⟨a, c, hv, -, -⟩ := (H1.out.row n hn).shape
        rw [hv, he] at c0
        clear he hz h0 hk hv
        go_wp2_with fail
        go_roundw
        case rel => exact ⟨n, (n : Int) - 1, by omega, by go_num, by omega, fun j h1 h2 => by
          by_cases e : j = n
          · subst e; exact HE.out
          · exact HT.out j (by omega) h2, HO.out⟩
        case measure => simp [intOf]; try omega
      · have HE := Lib.hid he
        obtain ⟨m, hm⟩ : ∃ m, (Q n).length = m + 1 := ⟨(Q n).length - 1, by have := List.length_pos_iff.2 he; omega⟩
        obtain ⟨g, c, hv, -, hg, HR⟩ := (H1.out.row n hn).at_block hm (by omega)
        have d0 := ints_cell HR (j := 0) (by omega)
        rw [hv] at c0
        rw [hm] at HLn
        have hmb : (m : Int) + 1 ≤ 17000000000000 := by have := HLn.out; omega
        clear he hz h0 hk hv HR hm
        go_wp2_with fail
        go_ret3
        exact FirstAns.some (top_some hn HE.out HT.out) ⟨rfl, HO.out⟩
end
end Go.Proofs.Ytpincdcebhmnhaa.Pr
