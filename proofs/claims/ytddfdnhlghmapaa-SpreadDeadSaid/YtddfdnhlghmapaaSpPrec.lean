/- Contract of package spread's precedes: ranks compared. -/
import Derived.Test.YtddfdnhlghmapaaSpTask
namespace Go.Proofs.Ytddfdnhlghmapaa.Sp
open Go.ChangeShapes Go.WideShapes Go.ChangeAt Go.RowKit Go.Maps
open Go.Proofs.Ytddfdnhlghmapaa.Vt
set_option linter.unusedVariables false

/-- What cmp.Compare answers of two numbers. -/
def cmpi (a b : Int) : Int := if a < b then -1 else if b < a then 1 else 0
theorem cmpi_lt {a b : Int} (h : a < b) : cmpi a b = -1 := by unfold cmpi; rw [if_pos h]
theorem cmpi_gt {a b : Int} (h : b < a) : cmpi a b = 1 := by unfold cmpi; rw [if_neg (by omega), if_pos h]
theorem cmpi_eq {a : Int} : cmpi a a = 0 := by unfold cmpi; rw [if_neg (by omega), if_neg (by omega)]
theorem cmp_any (a b : Int) (w : World) : Calls Try.prog 151 #[.int .i64 a, .int .i64 b] w fun e w' => e = .returned (.int .i64 (cmpi a b)) ∧ w = w' := by
  have hn : ∀ (x : Int) (w : World), Calls Try.prog 147 #[.int .i64 x] w fun e w' => e = .returned (.bool false) ∧ w = w' := by
    intro x w
    go_enter Try.func147, Try.ntmps147
    go_wp2
    go_ret
    exact ⟨rfl, rfl⟩
  rcases Int.lt_trichotomy a b with h | h | h
  · rw [cmpi_lt h]
    go_enter Try.func151, Try.ntmps151
    go_wp2_with (go_at_call 147; (with_reducible refine (hn _ _).mono ?_); rintro e w' ⟨rfl, rfl⟩)
    go_ret
    exact ⟨rfl, rfl⟩
  · subst h
    rw [cmpi_eq]
    go_enter Try.func151, Try.ntmps151
    go_wp2_with (go_at_call 147; (with_reducible refine (hn _ _).mono ?_); rintro e w' ⟨rfl, rfl⟩)
    go_ret
    exact ⟨rfl, rfl⟩
  · rw [cmpi_gt h]
    have h2 : ¬ a < b := by omega
    go_enter Try.func151, Try.ntmps151
    go_wp2_with (go_at_call 147; (with_reducible refine (hn _ _).mono ?_); rintro e w' ⟨rfl, rfl⟩)
    go_ret
    exact ⟨rfl, rfl⟩

/-- The order of rows of three numbers, by the first place in which they differ. -/
def Lex (x y : Nat → Int) : Prop := x 0 < y 0 ∨ (x 0 = y 0 ∧ (x 1 < y 1 ∨ (x 1 = y 1 ∧ x 2 < y 2)))
theorem lex_lt {x y : Nat → Int} {k : Nat} (hk : k < 3) (he : ∀ j, j < k → x j = y j) (h : x k < y k) : Lex x y := by
  unfold Lex
  rcases (show k = 0 ∨ k = 1 ∨ k = 2 by omega) with rfl | rfl | rfl
  · exact Or.inl h
  · exact Or.inr ⟨he 0 (by omega), Or.inl h⟩
  · exact Or.inr ⟨he 0 (by omega), Or.inr ⟨he 1 (by omega), h⟩⟩
theorem lex_gt {x y : Nat → Int} {k : Nat} (hk : k < 3) (he : ∀ j, j < k → x j = y j) (h : y k < x k) : ¬ Lex x y := by
  unfold Lex
  rcases (show k = 0 ∨ k = 1 ∨ k = 2 by omega) with rfl | rfl | rfl
  · omega
  · have := he 0 (by omega); omega
  · have := he 0 (by omega); have := he 1 (by omega); omega
theorem lex_eq {x y : Nat → Int} (he : ∀ j, j < 3 → x j = y j) : ¬ Lex x y := by
  unfold Lex
  have := he 0 (by omega); have := he 1 (by omega); have := he 2 (by omega); omega

instance (x y : Nat → Int) : Decidable (Lex x y) := by unfold Lex; exact inferInstance
def lexC (x y : Nat → Int) : Int := if Lex x y then -1 else if x 0 = y 0 ∧ x 1 = y 1 ∧ x 2 = y 2 then 0 else 1
theorem lexC_neg (x y : Nat → Int) : lexC x y < 0 ↔ Lex x y := by
  unfold lexC
  by_cases h : Lex x y
  · rw [if_pos h]; exact ⟨fun _ => h, fun _ => by omega⟩
  · rw [if_neg h]
    refine ⟨fun q => ?_, fun q => absurd q h⟩
    split at q <;> omega
theorem lexC_lt {x y : Nat → Int} (h : Lex x y) : Ending.returned (.int .i64 (-1)) = .returned (.int .i64 (lexC x y)) := by unfold lexC; rw [if_pos h]
theorem lexC_gt {x y : Nat → Int} {k : Nat} (hk : k < 3) (he : ∀ j, j < k → x j = y j) (h : y k < x k) : Ending.returned (.int .i64 1) = .returned (.int .i64 (lexC x y)) := by
  unfold lexC; rw [if_neg (lex_gt hk he h), if_neg]
  rcases (show k = 0 ∨ k = 1 ∨ k = 2 by omega) with rfl | rfl | rfl <;> omega
theorem lexC_eq {x y : Nat → Int} (he : ∀ j, j < 3 → x j = y j) : Ending.returned (.int .i64 0) = .returned (.int .i64 (lexC x y)) := by
  unfold lexC; rw [if_neg (lex_eq he), if_pos ⟨he 0 (by omega), he 1 (by omega), he 2 (by omega)⟩]

theorem compare3 (ga gb : Nat) (x y : Nat → Int) (w : World) (hx : ∀ j, j < 3 → w.cell? ⟨ga, j, none⟩ = some (.int .i64 (x j))) (hy : ∀ j, j < 3 → w.cell? ⟨gb, j, none⟩ = some (.int .i64 (y j))) :
    Calls Try.prog 129 #[.slice (some ⟨ga, 0, none⟩) 3 3, .slice (some ⟨gb, 0, none⟩) 3 3] w fun e w' => e = .returned (.int .i64 (lexC x y)) ∧ w = w' := by
  have HX := Lib.hid hx
  have HY := Lib.hid hy
  clear hx hy
  go_enter Try.func129, Try.ntmps129
  go_wp2_with fail
  go_loopw [11] (fun i wr => ∃ k : Nat, k ≤ 3 ∧ i = .int .i64 k ∧ (∀ j, j < k → x j = y j) ∧ w = wr) (fun i _ => 3 - (intOf i).toNat)
  case atStart => exact ⟨0, by omega, rfl, fun j hj => absurd hj (Nat.not_lt_zero _), rfl⟩
  case round =>
    obtain ⟨k, hk, rfl, he, rfl⟩ := hrel
    have HE := Lib.hid he
    clear he
    by_cases hlt : k < 3
    · have cx := HX.out k hlt
      have cy := HY.out k hlt
      have g1 : (k : Int) < 3 := by omega
      have g2 : (0 : Int) ≤ k := by omega
      have g3 : ¬ (3 : Int) ≤ k := by omega
      generalize hxk : x k = a at *
      generalize hyk : y k = b at *
      have EX := Lib.hid hxk
      have EY := Lib.hid hyk
      clear hxk hyk
      have hcmp := Lib.hid (fun w => cmp_any a b w)
      rcases Int.lt_trichotomy a b with h | h | h
      · rw [cmpi_lt h] at hcmp
        have HH := Lib.hid h
        clear h
        go_wp2_with (go_at_call 151; (with_reducible refine (hcmp.out _).mono ?_); rintro e w' ⟨rfl, rfl⟩)
        go_ret
        exact ⟨lexC_lt (lex_lt hlt HE.out (by rw [EX.out, EY.out]; exact HH.out)), rfl⟩
      · subst h
        rw [cmpi_eq] at hcmp
        go_wp2_with (go_at_call 151; (with_reducible refine (hcmp.out _).mono ?_); rintro e w' ⟨rfl, rfl⟩)
        go_roundw
        case rel => exact ⟨k + 1, by omega, by go_num, fun j hj => by
          by_cases e : j = k
          · subst e; rw [EX.out, EY.out]
          · exact HE.out j (by omega), trivial⟩
        case measure => simp [intOf]; omega
      · rw [cmpi_gt h] at hcmp
        have HH := Lib.hid h
        clear h
        go_wp2_with (go_at_call 151; (with_reducible refine (hcmp.out _).mono ?_); rintro e w' ⟨rfl, rfl⟩)
        go_ret
        exact ⟨lexC_gt hlt HE.out (by rw [EX.out, EY.out]; exact HH.out), rfl⟩
    · obtain rfl : k = 3 := by omega
      go_wp2_with fail
      go_ret
      exact ⟨lexC_eq HE.out, rfl⟩

section
variable {w w' : World} {p : Nat} {S : St}
/-- The numbers of a rank. -/
def rkf (x : Tk) (j : Nat) : Int := if j = 0 then rk0 x else if j = 1 then rk1 x else rk2 x
theorem prec_lex (x y : Tk) : decide (lexC (rkf x) (rkf y) < 0) = prec x y := decide_eq_decide.mpr (lexC_neg _ _)
theorem rkf_cells {w : World} {g : Nat} {x : Tk} {t : TypeId} (h : w.heap[g]? = some (.cells #[.int .i64 (rk0 x), .int .i64 (rk1 x), .int .i64 (rk2 x)] t (0, 0))) (j : Nat) (hj : j < 3) : w.cell? ⟨g, j, none⟩ = some (.int .i64 (rkf x j)) := by
  rw [cell_at h]
  rcases (show j = 0 ∨ j = 1 ∨ j = 2 by omega) with rfl | rfl | rfl <;> rfl

theorem precedes_any (h : RunAt w p S) (t u : Nat) (ht : t < 17) (hu : u < 17) (hv : ∀ j, j < 17 → (-1000 ≤ (S.T j).v ∧ (S.T j).v ≤ 1000) ∧ -1000 ≤ (S.T j).bv ∧ (S.T j).bv ≤ 1000) :
    Calls Try.prog 150 #[.pointer (some ⟨p, 5 + t * 13, none⟩), .pointer (some ⟨p, 5 + u * 13, none⟩)] w fun e w' => e = .returned (.bool (prec (S.T t) (S.T u))) ∧ Only (fun _ => False) w w' := by
  have H := Lib.hid h
  have r1 := Lib.hid (rank_any h t ht (hv t ht).1 (hv t ht).2)
  have r2 := Lib.hid (fun W (h : RunAt W p S) => rank_any h u hu (hv u hu).1 (hv u hu).2)
  clear h hv
  unfold rkv at r1 r2
  go_enter Try.func150, Try.ntmps150
  go_upto_region 2 with (first
    | (go_at_call 158; (with_reducible refine r1.out.mono ?_); rintro e w1 ⟨rfl, hO⟩; have H1 := Lib.hid (H.out.later hO); have O1 := Lib.hid hO; clear hO r1)
    | (go_at_call 158; (with_reducible refine (r2.out _ H1.out).mono ?_); rintro e w2 ⟨rfl, hO⟩; have O2 := Lib.hid (O1.out.trans hO (fun _ _ e => e)); clear hO))
  obtain ⟨W, hW⟩ : ∃ W, (w2.alloc (.cells #[.int .i64 (rk0 (S.T t)), .int .i64 (rk1 (S.T t)), .int .i64 (rk2 (S.T t))] 164)).alloc (.cells #[.int .i64 (rk0 (S.T u)), .int .i64 (rk1 (S.T u)), .int .i64 (rk2 (S.T u))] 164) = W := ⟨_, rfl⟩
  have ba : W.heap[w2.heap.size]? = some (.cells #[.int .i64 (rk0 (S.T t)), .int .i64 (rk1 (S.T t)), .int .i64 (rk2 (S.T t))] 164 (0, 0)) := by rw [← hW]; exact heap_alloc2_old w2 _ _
  have bb : W.heap[w2.heap.size + 1]? = some (.cells #[.int .i64 (rk0 (S.T u)), .int .i64 (rk1 (S.T u)), .int .i64 (rk2 (S.T u))] 164 (0, 0)) := by rw [← hW]; exact heap_alloc2_new w2 _ _
  have HC : Hid (∀ n : Nat, Calls Try.prog 129 #[.slice (some ⟨w2.heap.size, 0, none⟩) 3 3, .slice (some ⟨w2.heap.size + 1, 0, none⟩) 3 3] (W.drewN n) fun e w' => e = .returned (.int .i64 (lexC (rkf (S.T t)) (rkf (S.T u)))) ∧ w' = W.drewN n) := Lib.hid (fun n => (compare3 _ _ (rkf (S.T t)) (rkf (S.T u)) (W.drewN n) (rkf_cells (w := W.drewN n) ba) (rkf_cells (w := W.drewN n) bb)).mono fun e w' ⟨a, b⟩ => ⟨a, b.symm⟩)
  have HO := Lib.hid (show Only (fun _ => False) w W by rw [← hW]; exact (O2.out.alloc _).alloc _)
  rw [hW]
  clear hW
  have HP := Lib.hid (prec_lex (S.T t) (S.T u))
  generalize lexC (rkf (S.T t)) (rkf (S.T u)) = c at *
  go_quiet ((go_at_call 129; (with_reducible exact Calls.quiet_of_same (HC.out _))))
  go_wp2_with fail
  go_ret
  exact ⟨by rw [← HP.out]; rfl, only_drewN HO.out _⟩
end
end Go.Proofs.Ytddfdnhlghmapaa.Sp
