/- Contract of package dead's Pass: a tick that none of them has. -/
import Derived.Test.YtlcjiiimaefclaaODFind
namespace Go.Proofs.Ytlcjiiimaefclaa.De
open Go.ChangeShapes Go.WideShapes Go.ChangeAt Go.RowKit Go.Maps
set_option linter.unusedVariables false

theorem pastTo_zero (T : Tks) (n : Int) : pastTo T n 0 = T := by funext j; unfold pastTo; rw [if_neg (by omega)]
theorem pastTo_at (T : Tks) (n : Int) (k : Nat) : pastTo T n k k = T k := by unfold pastTo; rw [if_neg (by omega)]
theorem pastTo_keep (T : Tks) (n : Int) (k : Nat) (h : ¬ ((T k).o = true ∧ (T k).d ≤ n)) : pastTo T n (k + 1) = pastTo T n k := by
  funext j
  unfold pastTo
  by_cases e : j = k
  · subst e; rw [if_pos (by omega), if_neg (by omega)]; unfold again; rw [if_neg h]
  · by_cases h2 : j < k
    · rw [if_pos (by omega), if_pos h2]
    · rw [if_neg (by omega), if_neg h2]
theorem pastTo_fill (T : Tks) (n : Int) (k : Nat) (h : (T k).o = true ∧ (T k).d ≤ n) : pastTo T n (k + 1) = upd (pastTo T n k) k (fill (T k) (T k).d) := by
  funext j
  by_cases e : j = k
  · subst e; rw [upd_same]; unfold pastTo; rw [if_pos (by omega)]; unfold again; rw [if_pos h]
  · rw [upd_other _ _ e]
    unfold pastTo
    by_cases h2 : j < k
    · rw [if_pos (by omega), if_pos h2]
    · rw [if_neg (by omega), if_neg h2]

theorem pass_any {w : World} {p o D : Nat} {T : Tks} {n B : Int} (h : DeadAt w p o D T n) (hb : Fit T B) (hB : B ≤ 8000000000000000000) (n0 : 0 ≤ n) (nB : n ≤ 8000000000000000000) :
    Calls Try.prog 29 #[.pointer (some ⟨p, o, none⟩)] w (DKeep w p o D (.tuple #[]) (past T n) (n + 1)) := by
  have H := Lib.hid h
  have HB := Lib.hid hb
  have cn := h.now
  have fz := h.frozen
  clear h hb
  go_enter Try.func29, Try.ntmps29
  go_wp2_with fail
  clear fz cn
  have H1 := Lib.hid (H.out.set_now (n + 1))
  have O1 := Lib.hid (only_set1 (Within.refl p o 103 w) 102 (.int .i64 (n + 1)))
  generalize w.setCell ⟨p, o + 102, none⟩ (.int .i64 (n + 1)) = w1 at *
  go_loopw [11] (fun i wr => ∃ k : Nat, k ≤ 17 ∧ i = .int .i64 k ∧ DeadAt wr p o D (pastTo T (n + 1) k) (n + 1) ∧ Within p o 103 w wr) (fun i _ => 17 - (intOf i).toNat)
  case atStart => exact ⟨0, by omega, rfl, by rw [pastTo_zero]; exact H1.out, O1.out⟩
  case round =>
    obtain ⟨k, hk, rfl, hD, hO⟩ := hrel
    have HO := Lib.hid hO
    have HD := Lib.hid hD
    clear hO hD H1 O1
    by_cases hlt : k < 17
    · have g1 : (k : Int) < 17 := by omega
      have cn := HD.out.now
      have cd := HD.out.cd k hlt
      have co := HD.out.co k hlt
      rw [pastTo_at] at cd co
      have p0 := HB.out.b k hlt
      have p1 := HB.out.p k hlt
      have d0 := HB.out.d k hlt
      have c1 := Lib.hid (fun wx (hx : DeadAt wx p o D (pastTo T (n + 1) k) (n + 1)) => fill_any hx k hlt (T k).d (by omega) (by omega) (by rw [pastTo_at]; omega) (by rw [pastTo_at]; omega))
      have HF := Lib.hid (pastTo_fill T (n + 1) k)
      have HK := Lib.hid (pastTo_keep T (n + 1) k)
      rw [pastTo_at] at c1
      have HU := Lib.hid (pastTo_at T (n + 1) k)
      generalize pastTo T (n + 1) k = U at *
      cases ho : (T k).o with
      | false =>
        rw [ho] at co
        have HE := Lib.hid (HK.out (by rw [ho]; simp))
        clear ho HF HK c1
        go_wp2_with fail
        go_quiet (fail)
        go_wp2_with fail
        go_roundw
        case rel => exact ⟨k + 1, by omega, by go_num, by rw [HE.out]; exact HD.out.later (only_drewN (Only.refl _ _) _), Within.drewN HO.out _⟩
        case measure => simp [intOf]; omega
      | true =>
        rw [ho] at co
        by_cases hd : (T k).d ≤ n + 1
        · have HE := Lib.hid (HF.out ⟨ho, hd⟩)
          have hdd : decide ((T k).d ≤ n + 1) = true := decide_eq_true hd
          clear ho HF HK hd
          go_wp2_with fail
          go_quiet (fail)
          have HD2 : Hid (DeadAt (wr.drewN nq) p o D U (n + 1)) := Lib.hid (HD.out.later (only_drewN (Only.refl _ _) _))
          have HO2 := Lib.hid (Within.drewN HO.out nq)
          have cd2 := HD2.out.cd k hlt
          rw [HU.out] at cd2
          generalize wr.drewN nq = w2 at *
          go_wp2_with (go_at_call 39; (with_reducible refine (c1.out _ HD2.out).mono ?_); rintro e w3 ⟨rfl, hF3, hO3⟩; have HF3 := Lib.hid hF3; have HO3 := Lib.hid hO3; clear hF3 hO3)
          go_roundw
          case rel => exact ⟨k + 1, by omega, by go_num, by rw [HE.out]; exact HF3.out, HO2.out.trans HO3.out (fun _ _ h => h)⟩
          case measure => simp [intOf]; omega
        · have HE := Lib.hid (HK.out (fun q => hd q.2))
          have hdd : decide ((T k).d ≤ n + 1) = false := decide_eq_false hd
          clear ho HF HK hd c1
          go_wp2_with fail
          go_quiet (fail)
          go_wp2_with fail
          go_roundw
          case rel => exact ⟨k + 1, by omega, by go_num, by rw [HE.out]; exact HD.out.later (only_drewN (Only.refl _ _) _), Within.drewN HO.out _⟩
          case measure => simp [intOf]; omega
    · obtain rfl : k = 17 := by omega
      go_wp2_with fail
      go_end0
      exact ⟨rfl, HD.out, HO.out⟩
end Go.Proofs.Ytlcjiiimaefclaa.De
