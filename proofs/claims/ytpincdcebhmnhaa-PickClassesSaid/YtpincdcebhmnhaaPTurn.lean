/- Contracts of package prio: Turn, List, Bits. -/
import Derived.Test.YtpincdcebhmnhaaPOps
namespace Go.Proofs.Ytpincdcebhmnhaa.Pr
open Go.ChangeShapes Go.WideShapes Go.ChangeAt Go.RowKit Go.Maps
set_option linter.unusedVariables false

section
variable {w : World} {p o T : Nat} {V : Nat → Value} {Q : Qs}

theorem turn_bad (h : QAt w p o T V Q) (v : Int) (hv : valid v = false) :
    Calls Try.prog 43 #[.pointer (some ⟨p, o, none⟩), .int .i64 v] w (Moved p o T V Q (.int .i64 1) w) := by
  have H := Lib.hid h
  have C := Lib.hid (fun w => valid_any v w)
  rw [hv] at C
  clear h hv
  go_enter Try.func43, Try.ntmps43
  go_wp2_with (go_at_call 36; (with_reducible refine (C.out _).mono ?_); rintro e w1 ⟨rfl, rfl⟩)
  go_ret
  exact Moved.same H.out (Only.refl _ _)

theorem turn_none (h : QAt w p o T V Q) (v : Nat) (hv : v < 8) (he : Q v = []) :
    Calls Try.prog 43 #[.pointer (some ⟨p, o, none⟩), .int .i64 v] w (Moved p o T V Q (.int .i64 4) w) := by
  have H := Lib.hid h
  have C := Lib.hid (fun w => valid_any v w)
  rw [show valid (v : Int) = true from decide_eq_true (by omega)] at C
  have c0 := h.cell hv
  obtain ⟨a, c, hw, -, -⟩ := (h.row v hv).shape
  rw [hw, he] at c0
  have g1 : (v : Int) < 8 := by omega
  clear h he hw
  go_enter Try.func43, Try.ntmps43
  go_wp2_with (go_at_call 36; (with_reducible refine (C.out _).mono ?_); rintro e w1 ⟨rfl, rfl⟩)
  go_ret
  exact Moved.same H.out (Only.refl _ _)

/-- A row turned: what lay behind its first moved up, and the first is stored last. -/
theorem row_turned {w : World} {g n c : Nat} {x : Int} {xs : List Int} {cur : Array Value} (hn : xs.length = n) (hg : w.heap[g]? = some (.cells cur 3 (0, 0))) (hnc : n + 1 ≤ c) (hcm : c ≤ maxLen) (hcs : cur.size = c) (ht : cur.toList.take (n + 1) = numCells (x :: xs)) :
    let w1 := w.setRow g (cur.toList.take 0 ++ (numCells xs ++ cur.toList.drop (0 + (numCells xs).length))).toArray
    (w1.cell? ⟨g, n, none⟩).isSome = true ∧ w1.frozen? ⟨g, n, none⟩ = false ∧ Ints (w1.setCell ⟨g, n, none⟩ (.int .i64 x)) 0 (.slice (some ⟨g, 0, none⟩) (n + 1) c) (xs ++ [x]) ∧ Only (· = g) w (w1.setCell ⟨g, n, none⟩ (.int .i64 x)) := by
  intro w1
  have hlen : cur.toList.length = c := by simpa using hcs
  have hh : w1.heap[g]? = some (.cells (numCells xs ++ cur.toList.drop n).toArray 3 (0, 0)) := by
    have := setRow_heap w g cur (cur.toList.take 0 ++ (numCells xs ++ cur.toList.drop (0 + (numCells xs).length))).toArray 3 (0, 0) hg
    rw [numCells_len, hn, Nat.zero_add, List.take_zero, List.nil_append] at this
    show (w.setRow g (cur.toList.take 0 ++ (numCells xs ++ cur.toList.drop (0 + (numCells xs).length))).toArray).heap[g]? = _
    rw [numCells_len, hn, Nat.zero_add, List.take_zero, List.nil_append]
    exact this
  have hl : (numCells xs ++ cur.toList.drop n).length = c := by rw [List.length_append, numCells_len, List.length_drop, hlen, hn]; omega
  have hO1 : Only (· = g) w w1 := ⟨rfl, rfl, rfl, by simp [w1, World.setRow], fun k hk hne => setRow_other w g k _ (by omega)⟩
  refine ⟨?_, frozen_at hh _, ⟨by rw [numCells_len, List.length_append, hn]; simp, Or.inr ⟨g, c, _, by rw [List.length_append, hn]; rfl, Nat.zero_le _, heap_setCell_same w1 g n _ _ _ hh, by rw [List.length_append, hn]; exact hnc, hcm, by simp; simp at hl; omega, ?_⟩⟩, hO1.setCell (p := ⟨g, n, none⟩) rfl _⟩
  · rw [cell_at hh]
    simp only [List.getElem?_toArray]
    rw [List.getElem?_eq_getElem (by rw [hl]; omega)]
    rfl
  · rw [Array.toList_setIfInBounds]
    apply List.ext_getElem?
    intro j
    rw [List.length_append, hn, Nat.mul_one]
    simp only [List.length_cons, List.length_nil, Nat.zero_add]
    rw [List.getElem?_take, numCells_snoc]
    by_cases hj : j < n + 1
    · rw [if_pos hj, List.getElem?_set]
      by_cases e : n = j
      · subst e
        rw [if_pos rfl, if_pos (by rw [hl]; omega), List.getElem?_append_right (by rw [numCells_len, hn]; exact Nat.le_refl _), numCells_len, hn]
        simp
      · rw [if_neg e, List.getElem?_append_left (by rw [numCells_len, hn]; omega), List.getElem?_append_left (by rw [numCells_len, hn]; omega)]
    · rw [if_neg hj, List.getElem?_eq_none]
      rw [List.length_append, numCells_len, hn]; simp; omega

theorem turn_end {w2 : World} {v n c g : Nat} {x : Int} {xs : List Int} (h : QAt w p o T V Q) (hv : v < 8) (he : V v = .slice (some ⟨g, 0, none⟩) (n + 1) c) (hr : Ints w2 0 (.slice (some ⟨g, 0, none⟩) (n + 1) c) (xs ++ [x])) (hO : Only (· = g) w w2) :
    Moved p o T V (upd Q v (xs ++ [x])) (.int .i64 0) w (.returned (.int .i64 0)) w2 := by
  rw [← he] at hr
  obtain ⟨q1, q2⟩ := h.row_in hv hr (hO.mono (fun k _ e => by subst e; rw [he]; rfl))
  exact ⟨rfl, V, q1, q2⟩

set_option maxHeartbeats 1000000 in
set_option maxRecDepth 100000 in
theorem turn_yes (h : QAt w p o T V Q) (v : Nat) (hv : v < 8) (x : Int) (xs : List Int) (he : Q v = x :: xs) (hl : xs.length ≤ 1000000000) :
    Calls Try.prog 43 #[.pointer (some ⟨p, o, none⟩), .int .i64 v] w (Moved p o T V (upd Q v (xs ++ [x])) (.int .i64 0) w) := by
  have H := Lib.hid h
  have C := Lib.hid (fun w => valid_any v w)
  rw [show valid (v : Int) = true from decide_eq_true (by omega)] at C
  have c0 := h.cell hv
  obtain ⟨n, hn⟩ : ∃ n, xs.length = n := ⟨_, rfl⟩
  obtain ⟨g, c, hw, -, hgl, HR⟩ := (h.row v hv).at_block (n := n + 1) (by rw [he]; simp [hn]) (by omega)
  have d0 := ints_cell HR (j := 0) (by rw [he]; simp)
  rw [he] at d0
  have d0 : w.cell? ⟨g, 0, none⟩ = some (.int .i64 x) := d0
  have HW := Lib.hid hw
  rw [hw] at c0
  have HRR := HR
  rcases HR.2 with ⟨e, _⟩ | ⟨g', cap, cur, e, -, hg, r1, r2, r3, r4⟩
  · cases e
  obtain ⟨e1, e2, e3⟩ := Value.slice.inj e
  cases e1
  subst e3
  rw [he] at r1 r4
  simp only [List.length_cons, hn, Nat.mul_one] at r1 r3 r4
  obtain ⟨t1, t2, t3, t4⟩ := row_turned hn hg r1 r2 (by omega) r4
  obtain ⟨u, hu⟩ := Option.isSome_iff_exists.1 t1
  have HEND := Lib.hid (turn_end h hv hw t3 t4)
  obtain ⟨A, hA, hsrc⟩ : ∃ A : Addr, (if c = 1 then some (⟨g, 0, none⟩ : Addr) else some ⟨g, 1, none⟩) = some A ∧ Hid (∀ j u, (numCells xs)[j]? = some u → w.cell? (A.add j) = some u) := by
    by_cases h : c = 1
    · refine ⟨⟨g, 0, none⟩, by rw [if_pos h], fun j u hu => ?_⟩
      have := (List.getElem?_eq_some_iff.1 hu).1
      rw [numCells_len] at this
      omega
    · refine ⟨⟨g, 1, none⟩, by rw [if_neg h], fun j u hu => ?_⟩
      have hj := (List.getElem?_eq_some_iff.1 hu).1
      rw [numCells_len] at hj
      rw [add_plain, cell_at hg, ← Array.getElem?_toList]
      have : (cur.toList.take (n + 1))[1 + j]? = (numCells (x :: xs))[1 + j]? := by rw [r4]
      rw [List.getElem?_take_of_lt (by omega)] at this
      rw [this, ← hu, Nat.add_comm]
      rfl
  have S1 := Lib.hid (show (numCells xs).length = Nat.min n (n + 1) from by rw [numCells_len, hn]; exact (Nat.min_eq_left (by omega)).symm)
  have S2 := Lib.hid (show 0 + (numCells xs).length ≤ cur.size from by rw [numCells_len, hn]; omega)
  have S3 := Lib.hid (show ∀ v ∈ numCells xs, v.oneCell' = true from by intro z hz; simp [numCells] at hz; obtain ⟨y, _, rfl⟩ := hz; rfl)
  have HG := Lib.hid hg
  have hsz : (Try.prog.info? 3).map (·.size) = some 1 := by kernel_rfl
  have g1 : (v : Int) < 8 := by omega
  have g3 : (n : Int) ≤ 1000000000 := by omega
  have g4 : 1 ≤ c := by omega
  have g5 : c ≤ 9223372036854775807 := by unfold maxLen at r2; omega
  generalize hWe : w.setRow g (cur.toList.take 0 ++ (numCells xs ++ cur.toList.drop (0 + (numCells xs).length))).toArray = W at *
  have HWE := Lib.hid hWe
  clear h he hw hn HR HRR hg r1 r2 r3 r4 t1 t3 t4 hWe e e2
  go_enter Try.func43, Try.ntmps43
  go_wp2_with (first
    | (go_at_call 36; (with_reducible refine (C.out _).mono ?_); rintro e w1 ⟨rfl, rfl⟩)
    | (with_reducible refine wpList_copy_own rfl (.tmp 22) (.tmp 24) 30 30 rfl 3 Try.underlying30 hsz g 0 (n + 1) c A n (c - 1) rfl rfl cur 3 HG.out (numCells xs) S1.out hsrc.out S2.out S3.out ?_; rw [HWE.out]))
  go_ret
  exact HEND.out
end
end Go.Proofs.Ytpincdcebhmnhaa.Pr
