/- The contract of package spread's Tasks. -/
import Derived.Test.YtddmdkchlpehpaaSpIdx
namespace Go.Proofs.Ytddmdkchlpehpaa.Sp
open Go.ChangeShapes Go.WideShapes Go.ChangeAt Go.RowKit Go.Maps
open Go.Proofs.Ytddmdkchlpehpaa.Vt
set_option linter.unusedVariables false

/-- The numbers of those who are there, among the first k. -/
def tasksTo (S : St) : Nat → List Int
  | 0 => []
  | k + 1 => if (S.T k).c ≠ 0 then tasksTo S k ++ [(k : Int)] else tasksTo S k
theorem tasksTo_yes {S : St} {k : Nat} (h : (S.T k).c ≠ 0) : tasksTo S (k + 1) = tasksTo S k ++ [(k : Int)] := if_pos h
theorem tasksTo_no {S : St} {k : Nat} (h : (S.T k).c = 0) : tasksTo S (k + 1) = tasksTo S k := if_neg (fun e => e h)
theorem tasksTo_len (S : St) (k : Nat) : (tasksTo S k).length ≤ k := by
  induction k with
  | zero => exact Nat.le_refl _
  | succ k ih =>
    by_cases h : (S.T k).c = 0
    · rw [tasksTo_no h]; omega
    · rw [tasksTo_yes h, List.length_append]; simp; exact ih
theorem tasksTo_mem (S : St) (k t : Nat) : (t : Int) ∈ tasksTo S k ↔ t < k ∧ (S.T t).c ≠ 0 := by
  induction k with
  | zero => simp [tasksTo]
  | succ k ih =>
    by_cases h : (S.T k).c = 0
    · rw [tasksTo_no h, ih]
      constructor
      · rintro ⟨a, b⟩; exact ⟨by omega, b⟩
      · rintro ⟨a, b⟩
        exact ⟨by rcases Nat.lt_or_eq_of_le (Nat.le_of_lt_succ a) with e | e; exact e; subst e; exact absurd h b, b⟩
    · rw [tasksTo_yes h, List.mem_append, ih, List.mem_singleton]
      constructor
      · rintro (⟨a, b⟩ | e)
        · exact ⟨by omega, b⟩
        · obtain rfl : t = k := by omega
          exact ⟨by omega, h⟩
      · rintro ⟨a, b⟩
        by_cases e : t = k
        · right; rw [e]
        · left; exact ⟨by omega, b⟩
theorem tasksTo_lt (S : St) (k : Nat) : ∀ x ∈ tasksTo S k, x < (k : Int) := by
  induction k with
  | zero => intro x hx; cases hx
  | succ k ih =>
    intro x hx
    by_cases h : (S.T k).c = 0
    · rw [tasksTo_no h] at hx; have := ih x hx; omega
    · rw [tasksTo_yes h, List.mem_append, List.mem_singleton] at hx
      rcases hx with e | e
      · have := ih x e; omega
      · omega
theorem tasksTo_sorted (S : St) (k : Nat) : ∀ m, m + 1 < (tasksTo S k).length → (tasksTo S k).getD m 0 ≤ (tasksTo S k).getD (m + 1) 0 := by
  induction k with
  | zero => intro m hm; exact absurd hm (Nat.not_lt_zero _)
  | succ k ih =>
    intro m hm
    by_cases h : (S.T k).c = 0
    · rw [tasksTo_no h] at hm ⊢; exact ih m hm
    · rw [tasksTo_yes h] at hm ⊢
      rw [List.length_append, List.length_singleton] at hm
      have e0 : (tasksTo S k ++ [(k : Int)]).getD m 0 = (tasksTo S k).getD m 0 := by
        rw [List.getD_eq_getElem?_getD, List.getD_eq_getElem?_getD, List.getElem?_append_left (by omega)]
      rw [e0]
      by_cases e : m + 1 < (tasksTo S k).length
      · have e1 : (tasksTo S k ++ [(k : Int)]).getD (m + 1) 0 = (tasksTo S k).getD (m + 1) 0 := by
          rw [List.getD_eq_getElem?_getD, List.getD_eq_getElem?_getD, List.getElem?_append_left e]
        rw [e1]; exact ih m e
      · have e1 : (tasksTo S k ++ [(k : Int)]).getD (m + 1) 0 = (k : Int) := by
          have : m + 1 = (tasksTo S k).length := by omega
          rw [this]; simp
        rw [e1]
        have hm2 : m < (tasksTo S k).length := by omega
        have : (tasksTo S k).getD m 0 = (tasksTo S k)[m] := by simp [List.getD, hm2]
        rw [this]
        have := tasksTo_lt S k _ (List.getElem_mem hm2)
        omega

theorem tasks_any {w : World} {p : Nat} {S : St} (h : RunAt w p S) (hz : S.T 0 = noTk) :
    Calls Try.prog 37 #[.pointer (some ⟨p, 0, none⟩)] w fun e w' => ∃ v, e = .returned v ∧ Ints w' w.heap.size v (tasksTo S 17) ∧ Only (fun _ => False) w w' := by
  have H := Lib.hid h
  clear h
  go_enter Try.func37, Try.ntmps37
  go_wp2_with fail
  go_loopw [3, 5] (fun v i wr => ∃ k : Nat, k ≤ 17 ∧ i = .int .i64 k ∧ Ints wr w.heap.size v (tasksTo S k) ∧ Only (fun _ => False) w wr) (fun _ i _ => 17 - (intOf i).toNat)
  case atStart => exact ⟨0, by omega, rfl, ints_nil _ _, Only.refl _ w⟩
  case round =>
    rename_i v _
    obtain ⟨k, hk, rfl, hI, hO⟩ := hrel
    have HI := Lib.hid hI
    have HO := Lib.hid hO
    clear hI hO
    by_cases hlt : k < 17
    · have g1 : (k : Int) < 17 := by omega
      by_cases hc : (S.T k).c = 0
      · have KF := Lib.hid (find_no (H.out.later HO.out) (k : Int) (fun q => q.2.2 (by rw [Int.toNat_natCast]; exact hc)))
        have HC := Lib.hid hc
        clear hc
        go_wp2_with (go_at_call 50; (with_reducible refine KF.out.mono ?_); rintro e w' ⟨rfl, rfl⟩)
        go_roundw
        case rel => exact ⟨k + 1, by omega, by go_num, by rw [tasksTo_no HC.out]; exact HI.out, HO.out⟩
        case measure => simp [intOf]; omega
      · have k0 : k ≠ 0 := fun e => by subst e; rw [hz] at hc; exact hc rfl
        have KF := Lib.hid (find_yes (H.out.later HO.out) k (by omega) (by omega) hc)
        have HC := Lib.hid hc
        have HL := Lib.hid (show (tasksTo S k).length + 1 ≤ 17000000000000 from by have := tasksTo_len S k; omega)
        clear hc
        go_wp2_with (first
          | (go_at_call 50; (with_reducible refine KF.out.mono ?_); rintro e w' ⟨rfl, rfl⟩)
          | (at_builtin; go_must (refine append_one rfl (.tmp 12) (.tmp 14) rfl w.heap.size _ 1 _ (tasksTo S k) (k : Int) rfl rfl (HI.out.later ((Only.refl _ _).alloc _)) (heap_alloc_new _ _) HL.out (Nat.le_trans HO.out.size (by simp)) ?_); go_must (intro v7 w7 hr7 hO7 hb7); have HI7 := Lib.hid hr7; have HO7 := Lib.hid ((HO.out.alloc _).trans hO7 (fun x hx e => by have := (HI.out.block e).1; omega)); clear hr7 hO7 hb7))
        go_roundw
        case rel => exact ⟨k + 1, by omega, by go_num, by rw [tasksTo_yes HC.out]; exact HI7.out, HO7.out⟩
        case measure => simp [intOf]; omega
    · obtain rfl : k = 17 := by omega
      go_wp2_with fail
      go_ret
      exact ⟨_, rfl, HI.out, HO.out⟩
end Go.Proofs.Ytddmdkchlpehpaa.Sp
