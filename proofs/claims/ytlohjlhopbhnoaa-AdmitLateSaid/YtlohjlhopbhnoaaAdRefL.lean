/- The reference's Late: its parts in memory. -/
import Derived.Test.YtlohjlhopbhnoaaAdJobs
import Derived.Test.YtlohjlhopbhnoaaJbRow
import Derived.Test.YtlohjlhopbhnoaaAdRef
import Derived.Deep.QuietTactic
import Derived.BigQuiet
namespace Go.Proofs.Ytlohjlhopbhnoaa.Ad
open Go.ChangeShapes Go.WideShapes Go.ChangeAt Go.RowKit
set_option linter.unusedVariables false

/-- Jobs that a variable in block b holds, in a row behind it. -/
structure LeftAt (w : World) (b : Nat) (V : Value) (L : List Job) : Prop where
  box : w.heap[b]? = some (.cells #[V] 81 (0, 0))
  row : Jb.RowAt w (b + 1) V L

theorem LeftAt.cell {w : World} {b : Nat} {V : Value} {L : List Job} (h : LeftAt w b V L) : w.cell? ⟨b, 0, none⟩ = some V := by rw [cell_at h.box]; rfl
theorem LeftAt.lt {w : World} {b : Nat} {V : Value} {L : List Job} (h : LeftAt w b V L) : b < w.heap.size := block_there h.box
theorem LeftAt.frozen {w : World} {b : Nat} {V : Value} {L : List Job} (h : LeftAt w b V L) : w.frozen? ⟨b, 0, none⟩ = false := frozen_at h.box 0
theorem LeftAt.later {w w' : World} {b : Nat} {V : Value} {L : List Job} (h : LeftAt w b V L) (hO : Only (fun _ => False) w w') : LeftAt w' b V L := ⟨(hO.block b h.lt id).trans h.box, h.row.later hO⟩
theorem LeftAt.start (w : World) : LeftAt (w.alloc (.cells #[.slice none 0 0] 81)) w.heap.size (.slice none 0 0) [] := ⟨heap_alloc_new w _, Jb.row_nil _ _⟩
theorem LeftAt.stored {w : World} {b : Nat} {V v' : Value} {L' : List Job} (hb : w.heap[b]? = some (.cells #[V] 81 (0, 0))) (hr : Jb.RowAt w (b + 1) v' L') : LeftAt (w.setCell ⟨b, 0, none⟩ v') b v' L' := by
  refine ⟨?_, hr.keep (N := fun k => k = b) ((Only.refl (fun k => k = b) w).setCell (p := ⟨b, 0, none⟩) rfl v') (fun g hg e => by have := (hr.block hg).1; omega)⟩
  have := heap_setCell_same w b 0 _ _ v' hb
  rw [this]; rfl
theorem LeftAt.grown {w w' : World} {b : Nat} {V : Value} {L : List Job} (h : LeftAt w b V L) (hO : Only (fun k => V.ownBlock = some k) w w') : w'.heap[b]? = some (.cells #[V] 81 (0, 0)) :=
  (hO.block b h.lt (fun e => by have := (h.row.block e).1; omega)).trans h.box

/-- From a block on, memory changed. -/
theorem above_grown {w0 w w' : World} {b : Nat} {V : Value} {L : List Job} (h : Only (fun k => b ≤ k) w0 w) {w1 : World} (hl : LeftAt w1 b V L) (hO : Only (fun k => V.ownBlock = some k) w w') : Only (fun k => b ≤ k) w0 w' := h.trans hO (fun k hk e => by have := (hl.row.block e).1; omega)
theorem above_set {w0 w : World} {b : Nat} (h : Only (fun k => b ≤ k) w0 w) (v : Value) : Only (fun k => b ≤ k) w0 (w.setCell ⟨b, 0, none⟩ v) := h.setCell (p := ⟨b, 0, none⟩) (Nat.le_refl b) v
theorem above_quiet {w0 w w' : World} {b : Nat} (h : Only (fun k => b ≤ k) w0 w) (k : Only (fun _ => False) w w') : Only (fun k => b ≤ k) w0 w' := h.trans k (fun _ _ e => e.elim)
theorem above_old {w0 w w' : World} {b : Nat} (h : Only (fun _ => False) w0 w) (k : Only (fun k => b ≤ k) w w') (hb : w0.heap.size ≤ b) : Only (fun _ => False) w0 w' := h.trans k (fun x hx e => by omega)

set_option maxRecDepth 100000 in
set_option maxHeartbeats 2000000 in
theorem less_job (Bo g c s : Nat) (i j : Nat) (x y : Job) (w : World) (hi : i < s) (hj : j < s) (hs : s ≤ 1000000)
    (co : w.cell? ⟨Bo, 0, none⟩ = some (.slice (some ⟨g, 0, none⟩) s c))
    (x1 : w.cell? ⟨g, i * 3 + 1, none⟩ = some (.int .i64 (x.2.1 : Int))) (x2 : w.cell? ⟨g, i * 3 + 2, none⟩ = some (.int .i64 (x.2.2 : Int)))
    (y1 : w.cell? ⟨g, j * 3 + 1, none⟩ = some (.int .i64 (y.2.1 : Int))) (y2 : w.cell? ⟨g, j * 3 + 2, none⟩ = some (.int .i64 (y.2.2 : Int))) :
    Calls Try.prog 51 #[.int .i64 i, .int .i64 j, .pointer (some ⟨Bo, 0, none⟩)] w fun e w' => e = .returned (.bool (jobLt x y)) ∧ ∃ q, w' = w.drewN q := by
  obtain ⟨x0, xe, xi⟩ := x
  obtain ⟨y0, ye, yi⟩ := y
  simp only at *
  have g1 : (i : Int) < s := by omega
  have g2 : (j : Int) < s := by omega
  have g3 : (0 : Int) ≤ i := by omega
  have g4 : (0 : Int) ≤ j := by omega
  have hd : jobLt (x0, xe, xi) (y0, ye, yi) = decide (xe < ye ∨ xe = ye ∧ xi < yi) := rfl
  rw [hd]
  clear hd
  by_cases h1 : xe < ye
  · rw [decide_eq_true (Or.inl h1)]
    have e1 : (xe : Int) < ye := by omega
    clear h1
    go_enter Try.func51, Try.ntmps51
    go_wp2_with fail
    go_quiet (fail)
    go_wp2_with fail
    go_ret
    exact ⟨rfl, _, rfl⟩
  · have e1 : ¬ (xe : Int) < ye := by omega
    have e1d : decide ((xe : Int) < ye) = false := decide_eq_false e1
    by_cases h2 : xe = ye
    · subst h2
      by_cases h3 : xi < yi
      · rw [decide_eq_true (Or.inr ⟨rfl, h3⟩)]
        have e3 : (xi : Int) < yi := by omega
        clear h1 h3
        go_enter Try.func51, Try.ntmps51
        go_wp2_with fail
        go_quiet (fail)
        go_wp2_with fail
        go_ret
        exact ⟨rfl, _, rfl⟩
      · rw [decide_eq_false (by omega)]
        have e3 : ¬ (xi : Int) < yi := by omega
        have H3 := Lib.hid h3
        clear h1 h3
        go_enter Try.func51, Try.ntmps51
        go_wp2_with fail
        go_quiet (fail)
        go_wp2_with fail
        go_ret
        exact ⟨by show Ending.returned (.bool (decide (xi < yi))) = _; rw [decide_eq_false H3.out], _, rfl⟩
    · rw [decide_eq_false (by omega)]
      have e2 : ((xe : Int) == ye) = false := by simp; omega
      have e2d : (xe == ye) = false := by simp; omega
      go_enter Try.func51, Try.ntmps51
      go_wp2_with fail
      go_quiet (fail)
      go_wp2_with fail
      go_ret
      exact ⟨rfl, _, rfl⟩
end Go.Proofs.Ytlohjlhopbhnoaa.Ad
