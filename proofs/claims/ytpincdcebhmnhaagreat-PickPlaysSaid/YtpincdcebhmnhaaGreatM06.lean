/- Texts of this claim, merged: ODPass. -/
import Derived.Test.YtpincdcebhmnhaaGreatM04
import Derived.Deep.RegionWith
/- Contract of package dead's Pass: a tick that none of them has. -/
namespace Go.Proofs.YtpincdcebhmnhaaGreat.De
open Go.ChangeShapes Go.WideShapes Go.ChangeAt Go.RowKit Go.Maps
set_option linter.unusedVariables false

theorem pastTo_zero (T : Tks) (n : Int) : pastTo T n 0 = T := by funext j; unfold pastTo; rw [if_neg (by omega)]
theorem pastTo_at (T : Tks) (n : Int) (k : Nat) : pastTo T n k k = T k := by unfold pastTo; rw [if_neg (by omega)]
theorem pastTo_keep (T : Tks) (n : Int) (k : Nat) (h : ¬ ((T k).o = true ∧ (T k).d ≤ n)) : pastTo T n (k + 1) = pastTo T n k := by
  funext j
  unfold pastTo
  by_cases e : j = k
  · subst e; rw [if_pos (by omega), if_neg (by omega)]; unfold again; rw [if_neg h]
  · by_cases h2 : j < k
    · rw [if_pos (by omega), if_pos h2]
    · rw [if_neg (by omega), if_neg h2]
theorem pastTo_fill (T : Tks) (n : Int) (k : Nat) (h : (T k).o = true ∧ (T k).d ≤ n) : pastTo T n (k + 1) = upd (pastTo T n k) k (fill (T k) (T k).d) := by
  funext j
  by_cases e : j = k
  · subst e; rw [upd_same]; unfold pastTo; rw [if_pos (by omega)]; unfold again; rw [if_pos h]
  · rw [upd_other _ _ e]
    unfold pastTo
    by_cases h2 : j < k
    · rw [if_pos (by omega), if_pos h2]
    · rw [if_neg (by omega), if_neg h2]

theorem pastTo_next (T : Tks) (n : Int) (k : Nat) : upd (pastTo T n k) k (again (T k) n) = pastTo T n (k + 1) := by
  funext j
  by_cases e : j = k
  · subst e; rw [upd_same]; unfold pastTo; rw [if_pos (by omega)]
  · rw [upd_other _ _ e]
    unfold pastTo
    by_cases h2 : j < k
    · rw [if_pos h2, if_pos (by omega)]
    · rw [if_neg h2, if_neg (by omega)]
theorem pass_any {w : World} {p o D : Nat} {T : Tks} {n B : Int} (h : DeadAt w p o D T n) (hb : Fit T B) (hB : B ≤ 8000000000000000000) (n0 : 0 ≤ n) (nB : n ≤ 8000000000000000000) :
    Calls Tryz.prog 28 #[.pointer (some ⟨p, o, none⟩)] w (DKeep w p o D (.tuple #[]) (past T n) (n + 1)) := by
  have H := Lib.hid h
  have HB := Lib.hid hb
  have cn := h.now
  have fz := h.frozen
  clear h hb
  go_enter Tryz.func28, Tryz.ntmps28
  go_wp2_with fail
  clear fz cn
  have H1 := Lib.hid (H.out.set_now (n + 1))
  have O1 := Lib.hid (only_set1 (Within.refl p o 103 w) 102 (.int .i64 (n + 1)))
  generalize w.setCell ⟨p, o + 102, none⟩ (.int .i64 (n + 1)) = w1 at *
  go_loopw [10] (fun i wr => ∃ k : Nat, k ≤ 17 ∧ i = .int .i64 k ∧ DeadAt wr p o D (pastTo T (n + 1) k) (n + 1) ∧ Within p o 103 w wr) (fun i _ => 17 - (intOf i).toNat)
  case atStart => exact ⟨0, by omega, rfl, by rw [pastTo_zero]; exact H1.out, O1.out⟩
  case round =>
    obtain ⟨k, hk, rfl, hD, hO⟩ := hrel
    have HO := Lib.hid hO
    have HD := Lib.hid hD
    clear hO hD H1 O1
    by_cases hlt : k < 17
    · have g1 : (k : Int) < 17 := by omega
      have cn := HD.out.now
      have p0 := HB.out.b k hlt
      have p1 := HB.out.p k hlt
      have d0 := HB.out.d k hlt
      have c1 := Lib.hid (fun (W : World) (hW : Only (fun _ => False) wr W) => passR_any (HD.out.later hW) k hlt (n + 1) (by rw [pastTo_at]; omega) (by rw [pastTo_at]; omega) (by rw [pastTo_at]; omega) (by rw [pastTo_at]; omega))
      rw [pastTo_at, pastTo_next] at c1
      generalize pastTo T (n + 1) k = U at *
      go_wp2_with fail
      go_region_with (go_at_call 58; (with_reducible refine (c1.out _ (Only.refl _ _).drew).mono ?_); rintro e w3 ⟨rfl, hF3, hO3⟩; have HF3 := Lib.hid hF3; have HO3 := Lib.hid hO3; clear hF3 hO3)
      all_goals (
        (try go_wp2_with fail)
        go_roundw
        case rel => exact ⟨k + 1, by omega, by go_num, HF3.out, HO.out.drew.trans HO3.out (fun _ _ h => h)⟩
        case measure => simp [intOf]; omega)
    · obtain rfl : k = 17 := by omega
      go_wp2_with fail
      go_end0
      exact ⟨rfl, HD.out, HO.out⟩
end Go.Proofs.YtpincdcebhmnhaaGreat.De
