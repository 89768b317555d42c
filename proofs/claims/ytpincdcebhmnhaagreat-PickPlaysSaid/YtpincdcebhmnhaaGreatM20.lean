/- Texts of this claim, merged: ODLess. -/
import Derived.Test.YtpincdcebhmnhaaGreatM19
import Derived.Deep.QuietTactic
import Derived.BigQuiet
/- The comparison of the reference's Next, and the row of those that may go. -/
namespace Go.Proofs.YtpincdcebhmnhaaGreat.De
open Go.ChangeShapes Go.WideShapes Go.ChangeAt Go.RowKit Go.Maps
open Go.Proofs.YtpincdcebhmnhaaGreat.Pd
set_option linter.unusedVariables false

/-- Who goes first: by deadlines, then by numbers. -/
def goesLt (T : Tks) (f : Nat → Nat) (x y : Nat) : Bool := decide ((T (f x)).d < (T (f y)).d ∨ (T (f x)).d = (T (f y)).d ∧ f x < f y)

theorem swo_goes (T : Tks) (f : Nat → Nat) : Sort.SWO (goesLt T f) where
  irrefl x := by simp [goesLt]
  trans x y z h1 h2 := by simp only [goesLt, decide_eq_true_eq] at *; omega
  ntrans x y z h1 h2 := by simp only [goesLt, decide_eq_false_iff_not] at *; omega

set_option maxRecDepth 100000 in
set_option maxHeartbeats 1000000 in
theorem less_goes (Bo g n c i j bi bj : Nat) (vi vj : Int) (ni nj : Nat) (w : World) (hi : i < n) (hj : j < n) (hn : n ≤ 100)
    (co : w.cell? ⟨Bo, 0, none⟩ = some (.slice (some ⟨g, 0, none⟩) n c)) (ci : w.cell? ⟨g, i, none⟩ = some (pt bi)) (cj : w.cell? ⟨g, j, none⟩ = some (pt bj))
    (ti : w.cell? ⟨bi, 0, none⟩ = some (.int .i64 ni)) (tj : w.cell? ⟨bj, 0, none⟩ = some (.int .i64 nj)) (xi : w.cell? ⟨bi, 4, none⟩ = some (.int .i64 vi)) (xj : w.cell? ⟨bj, 4, none⟩ = some (.int .i64 vj)) :
    Calls Tryz.prog 70 #[.int .i64 i, .int .i64 j, .pointer (some ⟨Bo, 0, none⟩)] w fun e w' => e = .returned (.bool (decide (vi < vj ∨ vi = vj ∧ ni < nj))) ∧ ∃ q, w' = w.drewN q := by
  have g1 : (i : Int) < n := by omega
  have g2 : (j : Int) < n := by omega
  have g3 : (0 : Int) ≤ i := by omega
  have g4 : (0 : Int) ≤ j := by omega
  unfold pt at *
  by_cases hlt : vi < vj
  · have e1 : decide (vi < vj) = true := decide_eq_true hlt
    rw [show decide (vi < vj ∨ vi = vj ∧ ni < nj) = true from decide_eq_true (Or.inl hlt)]
    clear hlt
    go_enter Tryz.func70, Tryz.ntmps70
    go_wp2_with fail
    go_quiet (fail)
    go_wp2_with fail
    go_ret
    exact ⟨rfl, _, rfl⟩
  · have e1 : decide (vi < vj) = false := decide_eq_false hlt
    by_cases heq : vi = vj
    · subst heq
      have e2 : (vi == vi) = true := by simp
      by_cases hn2 : ni < nj
      · have e3 : decide ((ni : Int) < (nj : Int)) = true := decide_eq_true (by omega)
        have e4 : decide (ni < nj) = true := decide_eq_true hn2
        rw [show decide (vi < vi ∨ vi = vi ∧ ni < nj) = true from decide_eq_true (Or.inr ⟨rfl, hn2⟩)]
        clear hlt hn2
        go_enter Tryz.func70, Tryz.ntmps70
        go_wp2_with fail
        go_quiet (fail)
        go_wp2_with fail
        go_ret
        exact ⟨rfl, _, rfl⟩
      · have e3 : decide ((ni : Int) < (nj : Int)) = false := decide_eq_false (by omega)
        have e4 : decide (ni < nj) = false := decide_eq_false hn2
        rw [show decide (vi < vi ∨ vi = vi ∧ ni < nj) = false from decide_eq_false (by omega)]
        clear hlt hn2
        go_enter Tryz.func70, Tryz.ntmps70
        go_wp2_with fail
        go_quiet (fail)
        go_wp2_with fail
        go_ret
        exact ⟨rfl, _, rfl⟩
    · have e2 : (vi == vj) = false := by simp [heq]
      rw [show decide (vi < vj ∨ vi = vj ∧ ni < nj) = false from decide_eq_false (by omega)]
      clear hlt heq
      go_enter Tryz.func70, Tryz.ntmps70
      go_wp2_with fail
      go_quiet (fail)
      go_wp2_with fail
      go_ret
      exact ⟨rfl, _, rfl⟩

/-- The box of the slice that is collected. -/
structure OfBox (Bo : Nat) (wr : World) (v : Value) (K : List Nat) : Prop where
  box : wr.heap[Bo]? = some (.cells #[v] 40 (0, 0))
  row : RowAt wr (Bo + 1) v K

theorem OfBox.later {Bo : Nat} {wr w' : World} {v : Value} {K : List Nat} (h : OfBox Bo wr v K) (hO : Only (fun _ => False) wr w') : OfBox Bo w' v K :=
  ⟨(hO.block Bo (block_there h.box) (fun e => e)).trans h.box, h.row.later hO⟩

theorem OfBox.step {Bo b : Nat} {w wr w5 : World} {v v' : Value} {K : List Nat} {o : Obj} (h : OfBox Bo wr v K) (hB : Bo = w.heap.size) (hw : Only (fun _ => False) w wr) (hr : RowAt w5 (Bo + 1) v' (K ++ [b])) (hO : Only (fun k => v.ownBlock = some k) (wr.alloc o) w5) :
    w5.cell? ⟨Bo, 0, none⟩ = some v ∧ w5.frozen? ⟨Bo, 0, none⟩ = false ∧ OfBox Bo (w5.setCell ⟨Bo, 0, none⟩ v') v' (K ++ [b]) ∧ Only (fun _ => False) w (w5.setCell ⟨Bo, 0, none⟩ v') := by
  have h1 := (h.later ((Only.refl _ wr).alloc o)).box
  have h2 : w5.heap[Bo]? = some (.cells #[v] 40 (0, 0)) := (hO.block Bo (block_there h1) (fun e => by have := (h.row.block e).1; omega)).trans h1
  refine ⟨by rw [cell_at h2]; rfl, frozen_at h2 0, ⟨heap_setCell_same w5 Bo 0 _ _ v' h2, hr.keep (N := fun k => k = Bo) ((Only.refl (fun k => k = Bo) w5).setCell (p := ⟨Bo, 0, none⟩) rfl v') (fun g hg e => by have := (hr.block hg).1; omega)⟩, ?_⟩
  have h3 : Only (fun _ => False) w (wr.alloc o) := hw.alloc o
  have h4 : Only (fun _ => False) w w5 := h3.trans hO (fun k hk e => by have := (h.row.block e).1; omega)
  exact h4.trans ((Only.refl (fun k => k = Bo) w5).setCell (p := ⟨Bo, 0, none⟩) rfl v') (fun k hk e => by omega)

/-- The blocks of those that may go, as far as j. -/
def kept (L : List (Nat × Nat)) (T : Tks) (j : Nat) : List Nat := ((L.take j).filter fun x => (T x.2).r && !(T x.2).o).map (·.1)

theorem kept_succ {L : List (Nat × Nat)} {T : Tks} {j : Nat} {x : Nat × Nat} (h : L[j]? = some x) : kept L T (j + 1) = if Can (T x.2) then kept L T j ++ [x.1] else kept L T j := by
  unfold kept
  rw [List.take_add_one, h]
  simp only [Option.toList_some, List.filter_append, List.map_append]
  by_cases hc : Can (T x.2)
  · rw [if_pos hc]; simp [hc.1, hc.2]
  · rw [if_neg hc]
    have : ((T x.2).r && !(T x.2).o) = false := by
      cases hr : (T x.2).r with
      | false => rfl
      | true =>
        cases ho : (T x.2).o with
        | true => rfl
        | false => exact absurd ⟨hr, ho⟩ hc
    simp [this]

theorem kept_len (L : List (Nat × Nat)) (T : Tks) (j : Nat) : (kept L T j).length ≤ L.length := by
  unfold kept
  rw [List.length_map]
  exact Nat.le_trans (List.length_filter_le _ _) (by rw [List.length_take]; omega)

theorem kept_mem {L : List (Nat × Nat)} {T : Tks} {j b : Nat} (h : b ∈ kept L T j) : ∃ t, (b, t) ∈ L ∧ Can (T t) := by
  unfold kept at h
  obtain ⟨x, hx, rfl⟩ := List.mem_map.1 h
  obtain ⟨h1, h2⟩ := List.mem_filter.1 hx
  simp only [Bool.and_eq_true, Bool.not_eq_true'] at h2
  exact ⟨x.2, List.mem_of_mem_take h1, h2⟩

theorem mem_kept {L : List (Nat × Nat)} {T : Tks} {b t : Nat} (h : (b, t) ∈ L) (ho : Can (T t)) : b ∈ kept L T L.length := by
  unfold kept
  rw [List.take_length]
  refine List.mem_map.2 ⟨(b, t), List.mem_filter.2 ⟨h, ?_⟩, rfl⟩
  simp only [Bool.and_eq_true, Bool.not_eq_true']
  exact ho
end Go.Proofs.YtpincdcebhmnhaaGreat.De
