/- The reference's within, Task, WakeUp, Again. -/
import Derived.Test.YtijpiloljgpnkaaDRef
import Derived.Test.YtijpiloljgpnkaaDFind
import Derived.BigRegion
namespace Go.Proofs.Ytijpiloljgpnkaa.De
open Go.ChangeShapes Go.WideShapes Go.ChangeAt Go.RowKit Go.Maps
open Go.Proofs.Ytijpiloljgpnkaa.Pt
set_option linter.unusedVariables false

theorem within_any (x a b : Int) (w : World) :
    Calls Try.prog 33 #[.int .i64 x, .int .i64 a, .int .i64 b] w fun e w' => e = .returned (.bool (decide (a ≤ x ∧ x ≤ b))) ∧ w = w' := by
  by_cases h1 : a ≤ x
  · by_cases h2 : x ≤ b
    · rw [decide_eq_true (p := a ≤ x ∧ x ≤ b) ⟨h1, h2⟩]
      go_enter Try.func33, Try.ntmps33
      go_wp2
      go_ret
      exact ⟨rfl, rfl⟩
    · rw [decide_eq_false (p := a ≤ x ∧ x ≤ b) (by omega)]
      go_enter Try.func33, Try.ntmps33
      go_wp2
      go_ret
      exact ⟨rfl, rfl⟩
  · rw [decide_eq_false (p := a ≤ x ∧ x ≤ b) (by omega)]
    go_enter Try.func33, Try.ntmps33
    go_wp2
    go_ret
    exact ⟨rfl, rfl⟩

/-- May this be the number of a task? -/
def isN (x : Int) : Bool := decide (1 ≤ x ∧ x ≤ 16)
theorem ref_task (x : Int) (w : World) : Calls Try.prog 13 #[.int .i64 x] w fun e w' => e = .returned (.bool (isN x)) ∧ w = w' := by
  have c := Lib.hid (within_any x 1 16 w)
  unfold isN
  generalize decide (1 ≤ x ∧ x ≤ 16) = b at *
  go_enter Try.func13, Try.ntmps13
  go_wp2_with (go_at_call 33; (with_reducible refine c.out.mono ?_); rintro e w' ⟨rfl, rfl⟩)
  go_ret
  exact ⟨rfl, rfl⟩

/-- What is known behind a call that changes one task. -/
def Turned (w : World) (b : Nat) (t : Int) (x : Tk) (e : Ending) (w' : World) : Prop := e = .returned (.tuple #[]) ∧ w'.heap[b]? = some (taskCells t x) ∧ Only (fun k => k = b) w w'

section
variable {w : World} {b : Nat} {t n : Int} {x : Tk}

theorem set7 (h : w.heap[b]? = some (taskCells t x)) (t' q1 q2 q3 q4 : Int) (q5 q6 : Bool) :
    (((((((w.setCell ⟨b, 0, none⟩ (.int .i64 t')).setCell ⟨b, 1, none⟩ (.int .i64 q1)).setCell ⟨b, 2, none⟩ (.int .i64 q2)).setCell ⟨b, 3, none⟩ (.int .i64 q3)).setCell ⟨b, 4, none⟩ (.int .i64 q4)).setCell ⟨b, 5, none⟩ (.bool q5)).setCell ⟨b, 6, none⟩ (.bool q6)).heap[b]? = some (taskCells t' ⟨q1, q2, q3, q4, q5, q6⟩) := by
  unfold taskCells at h ⊢
  generalize Value.int .i64 x.b = v1 at h
  generalize Value.int .i64 x.p = v2 at h
  generalize Value.int .i64 x.l = v3 at h
  generalize Value.int .i64 x.d = v4 at h
  generalize Value.bool x.r = v5 at h
  generalize Value.bool x.o = v6 at h
  generalize Value.int .i64 t = v0 at h
  generalize Value.int .i64 t' = u0
  generalize Value.int .i64 q1 = u1
  generalize Value.int .i64 q2 = u2
  generalize Value.int .i64 q3 = u3
  generalize Value.int .i64 q4 = u4
  generalize Value.bool q5 = u5
  generalize Value.bool q6 = u6
  have h0 := heap_setCell_same w b 0 _ _ u0 h
  rw [show (#[v0, v1, v2, v3, v4, v5, v6] : Array Value).setIfInBounds 0 u0 = #[u0, v1, v2, v3, v4, v5, v6] from rfl] at h0
  generalize w.setCell ⟨b, 0, none⟩ u0 = w0 at *
  have h1 := heap_setCell_same w0 b 1 _ _ u1 h0
  rw [show (#[u0, v1, v2, v3, v4, v5, v6] : Array Value).setIfInBounds 1 u1 = #[u0, u1, v2, v3, v4, v5, v6] from rfl] at h1
  generalize w0.setCell ⟨b, 1, none⟩ u1 = w1 at *
  have h2 := heap_setCell_same w1 b 2 _ _ u2 h1
  rw [show (#[u0, u1, v2, v3, v4, v5, v6] : Array Value).setIfInBounds 2 u2 = #[u0, u1, u2, v3, v4, v5, v6] from rfl] at h2
  generalize w1.setCell ⟨b, 2, none⟩ u2 = w2 at *
  have h3 := heap_setCell_same w2 b 3 _ _ u3 h2
  rw [show (#[u0, u1, u2, v3, v4, v5, v6] : Array Value).setIfInBounds 3 u3 = #[u0, u1, u2, u3, v4, v5, v6] from rfl] at h3
  generalize w2.setCell ⟨b, 3, none⟩ u3 = w3 at *
  have h4 := heap_setCell_same w3 b 4 _ _ u4 h3
  rw [show (#[u0, u1, u2, u3, v4, v5, v6] : Array Value).setIfInBounds 4 u4 = #[u0, u1, u2, u3, u4, v5, v6] from rfl] at h4
  generalize w3.setCell ⟨b, 4, none⟩ u4 = w4 at *
  have h5 := heap_setCell_same w4 b 5 _ _ u5 h4
  rw [show (#[u0, u1, u2, u3, u4, v5, v6] : Array Value).setIfInBounds 5 u5 = #[u0, u1, u2, u3, u4, u5, v6] from rfl] at h5
  generalize w4.setCell ⟨b, 5, none⟩ u5 = w5 at *
  have h6 := heap_setCell_same w5 b 6 _ _ u6 h5
  rw [show (#[u0, u1, u2, u3, u4, u5, v6] : Array Value).setIfInBounds 6 u6 = #[u0, u1, u2, u3, u4, u5, u6] from rfl] at h6
  exact h6
theorem set2 (h : w.heap[b]? = some (taskCells t x)) (q3 q4 : Int) :
    ((w.setCell ⟨b, 3, none⟩ (.int .i64 q3)).setCell ⟨b, 4, none⟩ (.int .i64 q4)).heap[b]? = some (taskCells t ⟨x.b, x.p, q3, q4, x.r, x.o⟩) := by
  have h3 := heap_setCell_same w b 3 _ _ (.int .i64 q3) h
  exact heap_setCell_same _ b 4 _ _ (.int .i64 q4) h3
theorem only6r (w : World) (p i j k l m q : Nat) (a b c d e f : Value) : Only (fun k => k = p) w ((((((w.setCell ⟨p, i, none⟩ a).setCell ⟨p, j, none⟩ b).setCell ⟨p, k, none⟩ c).setCell ⟨p, l, none⟩ d).setCell ⟨p, m, none⟩ e).setCell ⟨p, q, none⟩ f) :=
  (((only_set3 (Only.refl (fun _ => False) w) i j k a b c).setCell (p := ⟨p, l, none⟩) rfl _).setCell (p := ⟨p, m, none⟩) rfl _).setCell (p := ⟨p, q, none⟩) rfl _
theorem only7 (w : World) (b : Nat) (u0 u1 u2 u3 u4 u5 u6 : Value) :
    Only (fun k => k = b) w (((((((w.setCell ⟨b, 0, none⟩ u0).setCell ⟨b, 1, none⟩ u1).setCell ⟨b, 2, none⟩ u2).setCell ⟨b, 3, none⟩ u3).setCell ⟨b, 4, none⟩ u4).setCell ⟨b, 5, none⟩ u5).setCell ⟨b, 6, none⟩ u6) :=
  (only6r w b 0 1 2 3 4 5 u0 u1 u2 u3 u4 u5).setCell (p := ⟨b, 6, none⟩) rfl _

set_option maxRecDepth 100000 in
set_option maxHeartbeats 1000000 in
theorem againr_any (h : w.heap[b]? = some (taskCells t x)) (d0 : 0 ≤ x.d) (d1 : x.d ≤ 9000000000000000000) (p0 : 0 ≤ x.p) (p1 : x.p ≤ 30) :
    Calls Try.prog 36 #[.pointer (some ⟨b, 0, none⟩), .int .i64 n] w (Turned w b t (again x n)) := by
  have H := Lib.hid h
  have ct : w.cell? ⟨b, 0, none⟩ = some (.int .i64 t) := by rw [cell_at h]; rfl
  have cb : w.cell? ⟨b, 1, none⟩ = some (.int .i64 x.b) := by rw [cell_at h]; rfl
  have cp : w.cell? ⟨b, 2, none⟩ = some (.int .i64 x.p) := by rw [cell_at h]; rfl
  have cl : w.cell? ⟨b, 3, none⟩ = some (.int .i64 x.l) := by rw [cell_at h]; rfl
  have cd : w.cell? ⟨b, 4, none⟩ = some (.int .i64 x.d) := by rw [cell_at h]; rfl
  have cr : w.cell? ⟨b, 5, none⟩ = some (.bool x.r) := by rw [cell_at h]; rfl
  have co : w.cell? ⟨b, 6, none⟩ = some (.bool x.o) := by rw [cell_at h]; rfl
  have fz := fun j => frozen_at (t := 38) (show w.heap[b]? = some (.cells _ _ (0, 0)) from h) j
  have HA : Hid (again x n = if x.o = true ∧ x.d ≤ n then fill x x.d else x) := Lib.hid rfl
  clear h
  cases ho : x.o with
  | false =>
    have HE := Lib.hid (HA.out.trans (if_neg (by rw [ho]; simp)))
    rw [ho] at co
    clear ho HA
    go_enter Try.func36, Try.ntmps36
    go_wp2_with fail
    go_end0
    exact ⟨rfl, by rw [HE.out]; exact H.out, Only.refl _ _⟩
  | true =>
    rw [ho] at co
    by_cases hd : x.d ≤ n
    · have HE := Lib.hid (HA.out.trans (if_pos ⟨ho, hd⟩))
      have hdd : decide (x.d ≤ n) = true := decide_eq_true hd
      clear ho HA
      go_enter Try.func36, Try.ntmps36
      go_upto_region 1 with fail
      refine wp_region_still_tail 32 (by kernel_rfl) (by kernel_rfl) ?_
      have H3 : Hid (w.drew.heap[b]? = some (taskCells t x)) := Lib.hid H.out
      have O3 : Hid (Only (fun k => k = b) w w.drew) := Lib.hid (Only.refl _ w).drew
      have ct2 : w.drew.cell? ⟨b, 0, none⟩ = some (.int .i64 t) := ct
      have cb2 : w.drew.cell? ⟨b, 1, none⟩ = some (.int .i64 x.b) := cb
      have cp2 : w.drew.cell? ⟨b, 2, none⟩ = some (.int .i64 x.p) := cp
      have cl2 : w.drew.cell? ⟨b, 3, none⟩ = some (.int .i64 x.l) := cl
      have cd2 : w.drew.cell? ⟨b, 4, none⟩ = some (.int .i64 x.d) := cd
      have cr2 : w.drew.cell? ⟨b, 5, none⟩ = some (.bool x.r) := cr
      have co2 : w.drew.cell? ⟨b, 6, none⟩ = some (.bool true) := co
      have fz2 : ∀ j, w.drew.frozen? ⟨b, j, none⟩ = false := fz
      show wpStill _ _ w.drew (fun a' => wpList _ _ _ _ a' w.drew) _ _
      clear ct cb cp cl cd cr co fz
      generalize w.drew = w2 at *
      simp only [List.take_succ_cons, List.take_zero, List.drop_succ_cons, List.drop_zero]
      repeat still_step
      refine wpStill_nil ?_
      go_wp2
      go_end0
      exact ⟨rfl, by rw [HE.out]; exact set7 H3.out _ _ _ _ _ _ _, O3.out.trans (only7 w2 b _ _ _ _ _ _ _) (fun _ _ h => h)⟩
    · have HE := Lib.hid (HA.out.trans (if_neg (fun q => hd q.2)))
      have hdd : decide (x.d ≤ n) = false := decide_eq_false hd
      clear ho HA
      go_enter Try.func36, Try.ntmps36
      go_wp2_with fail
      go_end0
      exact ⟨rfl, by rw [HE.out]; exact H.out, Only.refl _ _⟩
set_option maxRecDepth 100000 in
set_option maxHeartbeats 1000000 in
theorem wokenr_any (h : w.heap[b]? = some (taskCells t x)) (n0 : 0 ≤ n) (n1 : n ≤ 8000000000000000) (d1 : x.d ≤ 9000000000000000) (b1 : 0 ≤ x.b) (b2 : x.b ≤ 30) (l1 : 0 ≤ x.l) (l2 : x.l ≤ 30) (p1 : 0 ≤ x.p) (p2 : x.p ≤ 30) :
    Calls Try.prog 19 #[.pointer (some ⟨b, 0, none⟩), .int .i64 n] w (Turned w b t (woke x n)) := by
  have H := Lib.hid h
  have cr : w.cell? ⟨b, 5, none⟩ = some (.bool x.r) := by rw [cell_at h]; rfl
  have fz := fun j => frozen_at (t := 38) (show w.heap[b]? = some (.cells _ _ (0, 0)) from h) j
  have HW : Hid (woke x n = if x.o = false ∧ Stale x n then fill ⟨x.b, x.p, x.l, x.d, true, x.o⟩ n else ⟨x.b, x.p, x.l, x.d, true, x.o⟩) := Lib.hid rfl
  have H2 : Hid ((w.setCell ⟨b, 5, none⟩ (.bool true)).heap[b]? = some (taskCells t ⟨x.b, x.p, x.l, x.d, true, x.o⟩)) := Lib.hid (heap_setCell_same w b 5 _ _ _ h)
  have O2 := Lib.hid (only_set1 (Only.refl _ w) (p := b) 5 (.bool true))
  clear h
  go_enter Try.func19, Try.ntmps19
  go_upto_region 1 with fail
  clear cr fz
  generalize w.setCell ⟨b, 5, none⟩ (.bool true) = w2 at *
  have cb : w2.cell? ⟨b, 1, none⟩ = some (.int .i64 x.b) := by rw [cell_at H2.out]; rfl
  have cp : w2.cell? ⟨b, 2, none⟩ = some (.int .i64 x.p) := by rw [cell_at H2.out]; rfl
  have cl : w2.cell? ⟨b, 3, none⟩ = some (.int .i64 x.l) := by rw [cell_at H2.out]; rfl
  have cd : w2.cell? ⟨b, 4, none⟩ = some (.int .i64 x.d) := by rw [cell_at H2.out]; rfl
  have co : w2.cell? ⟨b, 6, none⟩ = some (.bool x.o) := by rw [cell_at H2.out]; rfl
  cases ho : x.o with
  | true =>
    have HE := Lib.hid (HW.out.trans (if_neg (by rw [ho]; simp)))
    rw [ho] at co
    clear HW ho
    go_wp2_with fail
    (try simp only [Exit.inBlock, Exit.then])
    refine bodyPost_ret (results_none rfl _ _ _) rfl ?_
    exact ⟨rfl, by rw [HE.out]; exact H2.out, O2.out⟩
  | false =>
    rw [ho] at co
    have m1 := mul_bd x.l x.p l1 l2 p1 (by omega)
    rw [ho] at H2
    have HO_ := Lib.hid ho
    by_cases h1 : x.d ≤ n
    · have hd : decide (x.d ≤ n) = true := decide_eq_true h1
      have HE := Lib.hid (HW.out.trans (if_pos ⟨ho, Or.inl h1⟩))
      clear HW ho HO_
      go_wp2_with fail
      go_quiet (fail)
      have H3 : Hid ((w2.drewN nq).heap[b]? = some (taskCells t ⟨x.b, x.p, x.l, x.d, true, false⟩)) := Lib.hid H2.out
      have O3 : Hid (Only (fun k => k = b) w (w2.drewN nq)) := Lib.hid (only_drewN O2.out nq)
      clear cb cp cl cd co
      generalize w2.drewN nq = w3 at *
      go_upto_region 3 with fail
      have cb : w3.cell? ⟨b, 1, none⟩ = some (.int .i64 x.b) := by rw [cell_at H3.out]; rfl
      have cp : w3.cell? ⟨b, 2, none⟩ = some (.int .i64 x.p) := by rw [cell_at H3.out]; rfl
      have cl : w3.cell? ⟨b, 3, none⟩ = some (.int .i64 x.l) := by rw [cell_at H3.out]; rfl
      have cd : w3.cell? ⟨b, 4, none⟩ = some (.int .i64 x.d) := by rw [cell_at H3.out]; rfl
      have fz := fun j => frozen_at (t := 38) (show w3.heap[b]? = some (.cells _ _ (0, 0)) from H3.out) j
      go_region
      go_wp2_with fail
      go_end0
      exact ⟨rfl, by rw [HE.out]; exact set2 H3.out _ _, ((O3.out.setCell (p := ⟨b, 3, none⟩) rfl _).setCell (p := ⟨b, 4, none⟩) rfl _).drew⟩
    · have hd : decide (x.d ≤ n) = false := decide_eq_false h1
      have m2 := mul_bd x.b (x.d - n) b1 b2 (by omega) (by omega)
      rw [Int.mul_comm x.b] at m2
      by_cases h2 : (x.d - n) * x.b < x.l * x.p
      · have he : decide ((x.d - n) * x.b < x.l * x.p) = true := decide_eq_true h2
        have HE := Lib.hid (HW.out.trans (if_pos ⟨ho, Or.inr (by rw [Int.mul_comm]; exact h2)⟩))
        clear HW ho HO_
        go_wp2_with fail
        go_quiet (fail)
        have H3 : Hid ((w2.drewN nq).heap[b]? = some (taskCells t ⟨x.b, x.p, x.l, x.d, true, false⟩)) := Lib.hid H2.out
        have O3 : Hid (Only (fun k => k = b) w (w2.drewN nq)) := Lib.hid (only_drewN O2.out nq)
        clear cb cp cl cd co
        generalize w2.drewN nq = w3 at *
        go_upto_region 3 with fail
        have cb : w3.cell? ⟨b, 1, none⟩ = some (.int .i64 x.b) := by rw [cell_at H3.out]; rfl
        have cp : w3.cell? ⟨b, 2, none⟩ = some (.int .i64 x.p) := by rw [cell_at H3.out]; rfl
        have cl : w3.cell? ⟨b, 3, none⟩ = some (.int .i64 x.l) := by rw [cell_at H3.out]; rfl
        have cd : w3.cell? ⟨b, 4, none⟩ = some (.int .i64 x.d) := by rw [cell_at H3.out]; rfl
        have fz := fun j => frozen_at (t := 38) (show w3.heap[b]? = some (.cells _ _ (0, 0)) from H3.out) j
        go_region
        go_wp2_with fail
        go_end0
        exact ⟨rfl, by rw [HE.out]; exact set2 H3.out _ _, ((O3.out.setCell (p := ⟨b, 3, none⟩) rfl _).setCell (p := ⟨b, 4, none⟩) rfl _).drew⟩
      · have he : decide ((x.d - n) * x.b < x.l * x.p) = false := decide_eq_false h2
        have HE := Lib.hid (HW.out.trans (if_neg (fun q => by rcases q.2 with q | q; exact h1 q; exact h2 (by rw [Int.mul_comm]; exact q))))
        clear HW ho
        go_wp2_with fail
        go_quiet (fail)
        go_wp2_with fail
        go_end0
        exact ⟨rfl, by rw [HE.out, HO_.out]; exact H2.out, only_drewN O2.out nq⟩
end
end Go.Proofs.Ytijpiloljgpnkaa.De
