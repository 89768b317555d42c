/- Contracts of package spread's tasks: isBoosted, mayWait, mayRun, rank. -/
import Derived.Test.YtddfdnhlghmapaaSpRes
namespace Go.Proofs.Ytddfdnhlghmapaa.Sp
open Go.ChangeShapes Go.WideShapes Go.ChangeAt Go.RowKit Go.Maps
open Go.Proofs.Ytddfdnhlghmapaa.Vt
set_option linter.unusedVariables false

/-- One bit of a mask. -/
theorem may_bits' : ∀ m : Fin 16, ∀ c : Fin 4, (bits BinOp.and .i64 (((m : Nat) : Int) / 2 ^ (c : Nat)) 1 == 1) = decide ((m : Nat) / 2 ^ (c : Nat) % 2 = 1) := by decide +kernel
theorem may_bits (m : Nat) (hm : m < 16) (c : Nat) (hc : c < 4) : (bits BinOp.and .i64 ((m : Int) / 2 ^ c) 1 == 1) = decide (m / 2 ^ c % 2 = 1) := may_bits' ⟨m, hm⟩ ⟨c, hc⟩

section
variable {w w' : World} {p : Nat} {S : St}
theorem boosted_any (h : RunAt w p S) (t : Nat) (ht : t < 17) :
    Calls Try.prog 100 #[.pointer (some ⟨p, 5 + t * 13, none⟩)] w fun e w' => e = .returned (.bool ((S.T t).bc != 0)) ∧ w = w' := by
  have cb := h.qbc t ht
  clear h
  go_enter Try.func100, Try.ntmps100
  go_wp2
  go_ret
  exact ⟨rfl, rfl⟩

theorem mayWait_any (h : RunAt w p S) (t : Nat) (ht : t < 17) :
    Calls Try.prog 149 #[.pointer (some ⟨p, 5 + t * 13, none⟩)] w fun e w' => e = .returned (.bool (waits (S.T t))) ∧ w = w' := by
  have cr := h.qr t ht
  have co := h.qro t ht
  have hb := Lib.hid (boosted_any h t ht)
  unfold waits
  clear h
  cases hr : (S.T t).r with
  | false =>
    rw [hr] at cr
    clear hr hb
    go_enter Try.func149, Try.ntmps149
    go_wp2
    go_ret
    exact ⟨rfl, rfl⟩
  | true =>
    rw [hr] at cr
    cases ho : (S.T t).ro with
    | false =>
      rw [ho] at co
      clear hr hb ho
      go_enter Try.func149, Try.ntmps149
      go_wp2
      go_ret
      exact ⟨rfl, rfl⟩
    | true =>
      rw [ho] at co
      clear hr ho
      go_enter Try.func149, Try.ntmps149
      go_wp2_with (go_at_call 100; (with_reducible refine hb.out.mono ?_); rintro e w' ⟨rfl, rfl⟩)
      go_ret
      exact ⟨by simp, rfl⟩

theorem mayRun_any (h : RunAt w p S) (t : Nat) (ht : t < 17) (cpu : Nat) (hc : cpu < 4) (hm : (S.T t).m < 16) :
    Calls Try.prog 99 #[.pointer (some ⟨p, 5 + t * 13, none⟩), .int .i64 cpu] w fun e w' => e = .returned (.bool (may (S.T t) cpu)) ∧ w = w' := by
  have cm := h.qm t ht
  unfold may
  clear h
  generalize (S.T t).m = m at *
  go_enter Try.func99, Try.ntmps99
  go_wp2
  go_ret
  exact ⟨by rw [may_bits m hm cpu hc]; rfl, rfl⟩

/-- A task's rank, as the numbers of a row. -/
def rkv (x : Tk) : Value := .agg #[.int .i64 (rk0 x), .int .i64 (rk1 x), .int .i64 (rk2 x)]
theorem rkv_dead {x : Tk} (h : asC x = 3) : rkv x = .agg #[.int .i64 (-3), .int .i64 x.rd, .int .i64 0] := by unfold rkv rk0 rk1 rk2; simp [h]
theorem rkv_prio {x : Tk} (h : asC x = 2) : rkv x = .agg #[.int .i64 (-2), .int .i64 (-asV x), .int .i64 x.s] := by unfold rkv rk0 rk1 rk2; simp [h]
theorem rkv_fair {x : Tk} (h : asC x ≠ 3) (h2 : asC x ≠ 2) : rkv x = .agg #[.int .i64 (-1), .int .i64 x.t, .int .i64 0] := by unfold rkv rk0 rk1 rk2; simp [h, h2]

theorem rank_any (h : RunAt w p S) (t : Nat) (ht : t < 17) (hv : -1000 ≤ (S.T t).v ∧ (S.T t).v ≤ 1000) (hbv : -1000 ≤ (S.T t).bv ∧ (S.T t).bv ≤ 1000) :
    Calls Try.prog 158 #[.pointer (some ⟨p, 5 + t * 13, none⟩)] w fun e w' => e = .returned (rkv (S.T t)) ∧ Only (fun _ => False) w w' := by
  have H := Lib.hid h
  have c0 := h.qc t ht
  have c1 := h.qv t ht
  have cb0 := h.qbc t ht
  have cb1 := h.qbv t ht
  have cs := h.qs t ht
  have ct := h.qt t ht
  have cd := h.qrd t ht
  have hb := Lib.hid (fun W (h : RunAt W p S) => boosted_any h t ht)
  have hlt := h.lt
  clear h
  by_cases hbc : (S.T t).bc = 0
  · have ea : asC (S.T t) = (S.T t).c := by unfold asC; rw [if_pos hbc]
    have ev : asV (S.T t) = (S.T t).v := by unfold asV; rw [if_pos hbc]
    have e0 : ((S.T t).bc != 0) = false := by simp [hbc]
    rw [e0] at hb
    by_cases h3 : (S.T t).c = 3
    · rw [rkv_dead (ea.trans h3)]
      rw [h3] at c0
      clear ea ev e0 h3 cs ct hbc cb0 cb1
      go_enter Try.func158, Try.ntmps158
      go_wp2_with (go_at_call 100; (with_reducible refine (hb.out _ (H.out.later (((Only.refl (fun _ => False) w).alloc _).alloc _))).mono ?_); rintro e w' ⟨rfl, rfl⟩)
      refine bodyPost_ret (results_cell_row rfl _ _ w.heap.size _ _ _ _ (by rfl) (heap_alloc2_old w _ _) Try.underlying164 rfl (by kernel_rfl)) rfl ?_
      exact ⟨rfl, (((Only.refl (fun _ => False) w).alloc _).alloc _)⟩
    · by_cases h2 : (S.T t).c = 2
      · rw [rkv_prio (ea.trans h2), ev]
        rw [h2] at c0
        clear ea ev e0 h2 h3 ct cd hbc cb0 cb1
        go_enter Try.func158, Try.ntmps158
        go_wp2_with (go_at_call 100; (with_reducible refine (hb.out _ (H.out.later (((Only.refl (fun _ => False) w).alloc _).alloc _))).mono ?_); rintro e w' ⟨rfl, rfl⟩)
        go_region
        all_goals (
          go_wp2_with fail
          refine bodyPost_ret (results_cell_row rfl _ _ w.heap.size _ _ _ _ (by rfl) (heap_alloc2_old w _ _) Try.underlying164 rfl (by kernel_rfl)) rfl ?_
          exact ⟨rfl, (((Only.refl (fun _ => False) w).alloc _).alloc _).drew⟩)
      · rw [rkv_fair (by rw [ea]; exact h3) (by rw [ea]; exact h2)]
        have e3 : ((S.T t).c == 3) = false := by simp [h3]
        have e2 : ((S.T t).c == 2) = false := by simp [h2]
        clear ea ev e0 h3 h2 cs cd hbc cb0 cb1
        go_enter Try.func158, Try.ntmps158
        go_wp2_with (go_at_call 100; (with_reducible refine (hb.out _ (H.out.later (((Only.refl (fun _ => False) w).alloc _).alloc _))).mono ?_); rintro e w' ⟨rfl, rfl⟩)
        refine bodyPost_ret (results_cell_row rfl _ _ w.heap.size _ _ _ _ (by rfl) (heap_alloc2_old w _ _) Try.underlying164 rfl (by kernel_rfl)) rfl ?_
        exact ⟨rfl, (((Only.refl (fun _ => False) w).alloc _).alloc _)⟩
  · have ea : asC (S.T t) = (S.T t).bc := by unfold asC; rw [if_neg hbc]
    have ev : asV (S.T t) = (S.T t).bv := by unfold asV; rw [if_neg hbc]
    have e0 : ((S.T t).bc != 0) = true := by simp [hbc]
    rw [e0] at hb
    by_cases h3 : (S.T t).bc = 3
    · rw [rkv_dead (ea.trans h3)]
      rw [h3] at cb0
      clear ea ev e0 h3 cs ct hbc
      go_enter Try.func158, Try.ntmps158
      go_wp2_with (go_at_call 100; (with_reducible refine (hb.out _ (H.out.later (((Only.refl (fun _ => False) w).alloc _).alloc _))).mono ?_); rintro e w' ⟨rfl, rfl⟩)
      refine bodyPost_ret (results_cell_row rfl _ _ w.heap.size _ _ _ _ (by rfl) (heap_alloc2_old w _ _) Try.underlying164 rfl (by kernel_rfl)) rfl ?_
      exact ⟨rfl, (((Only.refl (fun _ => False) w).alloc _).alloc _)⟩
    · by_cases h2 : (S.T t).bc = 2
      · rw [rkv_prio (ea.trans h2), ev]
        rw [h2] at cb0
        clear ea ev e0 h2 h3 ct cd hbc
        go_enter Try.func158, Try.ntmps158
        go_wp2_with (go_at_call 100; (with_reducible refine (hb.out _ (H.out.later (((Only.refl (fun _ => False) w).alloc _).alloc _))).mono ?_); rintro e w' ⟨rfl, rfl⟩)
        go_region
        all_goals (
          go_wp2_with fail
          refine bodyPost_ret (results_cell_row rfl _ _ w.heap.size _ _ _ _ (by rfl) (heap_alloc2_old w _ _) Try.underlying164 rfl (by kernel_rfl)) rfl ?_
          exact ⟨rfl, (((Only.refl (fun _ => False) w).alloc _).alloc _).drew⟩)
      · rw [rkv_fair (by rw [ea]; exact h3) (by rw [ea]; exact h2)]
        have e3 : ((S.T t).bc == 3) = false := by simp [h3]
        have e2 : ((S.T t).bc == 2) = false := by simp [h2]
        clear ea ev e0 h3 h2 cs cd hbc
        go_enter Try.func158, Try.ntmps158
        go_wp2_with (go_at_call 100; (with_reducible refine (hb.out _ (H.out.later (((Only.refl (fun _ => False) w).alloc _).alloc _))).mono ?_); rintro e w' ⟨rfl, rfl⟩)
        refine bodyPost_ret (results_cell_row rfl _ _ w.heap.size _ _ _ _ (by rfl) (heap_alloc2_old w _ _) Try.underlying164 rfl (by kernel_rfl)) rfl ?_
        exact ⟨rfl, (((Only.refl (fun _ => False) w).alloc _).alloc _)⟩
end
end Go.Proofs.Ytddfdnhlghmapaa.Sp
