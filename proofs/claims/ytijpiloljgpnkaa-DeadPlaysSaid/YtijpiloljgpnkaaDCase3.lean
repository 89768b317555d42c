/- DeadPlays: the case 3. -/
import Derived.Test.YtijpiloljgpnkaaDCut
namespace Go.Proofs.Ytijpiloljgpnkaa.De
open Go.ChangeShapes Go.WideShapes Go.ChangeAt Go.RowKit Go.Maps
open Go.Proofs.Ytijpiloljgpnkaa.Pt
set_option linter.unusedVariables false
set_option maxRecDepth 100000 in
set_option maxHeartbeats 60000000 in
theorem case_3 : cut.P3 := by
  delta cut
  intro cap
  unhygienic intros
  rcases HKN.out with ⟨b0, n0, hx, hm, ht⟩ | ⟨hx, hnt⟩
  · subst hx
    subst ht
    have HM := Lib.hid hm
    have hn := HB1.out.same.num _ hm
    have hcc := HB1.out.same.there _ hm
    simp only at hn hcc
    clear hm HKN
    by_cases hr : (T n0).r = false
    · have kb := Lib.hid (block_state HB1.out.dead n0 hn.1 hn.2 hcc hr)
      have dX := HX.out.cell
      have dr := HB1.out.ref.tr HM.out
      rw [hr] at dr
      have C1 := Lib.hid (fun m => (K0.out (w1.drewN m) (HBL1.out.trans ((only_drewN (Only.refl (fun _ => False) w1) m).below HBL1.out.size (fun _ e => e.elim)))).mono (fun e w' h => (⟨h.1, h.2.symm⟩ : e = .returned (.int .i64 3) ∧ w' = w1.drewN m)))
      clear hr hcc hn
      go_upto_region 34 with (first
        | (go_at_call 11; (with_reducible refine (K0.out _ HBL1.out).mono ?_); rintro e w' ⟨rfl, rfl⟩)
        | (go_at_call 17; (with_reducible refine kb.out.mono ?_); rintro e w' ⟨rfl, rfl⟩))
      go_quiet ((go_at_call 11; (with_reducible exact Calls.quiet_of_same (C1.out _))))
      have HB2 := Lib.hid (HB1.out.later (only_drewN (Only.refl (fun _ => False) w1) nq))
      have HBL2 := Lib.hid (HBL1.out.trans ((only_drewN (Only.refl (fun _ => False) w1) nq).below HBL1.out.size (fun _ e => e.elim)))
      clear C1 kb dX dr
      generalize w1.drewN nq = w2 at *
      go_wp2_with fail
      go_meet
      exact ⟨8, L, T, n, rfl, rfl, HB2.out.more HJ1.out, HBL2.out⟩
    · have hr : (T n0).r = true := by simpa using hr
      have kb := Lib.hid (block_yes HB1.out.dead n0 hn.1 hn.2 hcc hr)
      have HR := Lib.hid hr
      have HCC := Lib.hid hcc
      have HN := Lib.hid hn
      clear hr hcc hn
      go_upto_region 34 with (first
        | (go_at_call 11; (with_reducible refine (K0.out _ HBL1.out).mono ?_); rintro e w' ⟨rfl, rfl⟩)
        | (go_at_call 17; (with_reducible refine kb.out.mono ?_); rintro e w3 ⟨rfl, hF3, hO3⟩; have HD3 := Lib.hid (HB1.out.duet.ahead hF3 hO3); have HBL3 := Lib.hid (HBL1.out.trans (below_p HB1.out.new hO3 HBL1.out.size)); have HX3 := Lib.hid (HX.out.ahead HB1.out.duet hO3); have dX := HX3.out.cell; clear hF3 hO3))
      have dr := HD3.out.ref.tr HM.out
      rw [HR.out] at dr
      have C1 := Lib.hid (fun m => (K0.out (w3.drewN m) (HBL3.out.trans ((only_drewN (Only.refl (fun _ => False) w3) m).below HBL3.out.size (fun _ e => e.elim)))).mono (fun e w' h => (⟨h.1, h.2.symm⟩ : e = .returned (.int .i64 3) ∧ w' = w3.drewN m)))
      go_quiet ((go_at_call 11; (with_reducible exact Calls.quiet_of_same (C1.out _))))
      have HD4 := Lib.hid (HD3.out.later (only_drewN (Only.refl (fun _ => False) w3) nq))
      have HX4 := Lib.hid (HX3.out.later (only_drewN (Only.refl (fun _ => False) w3) nq))
      have HBL4 := Lib.hid (HBL3.out.trans ((only_drewN (Only.refl (fun _ => False) w3) nq).below HBL3.out.size (fun _ e => e.elim)))
      clear C1 kb dX dr
      generalize w3.drewN nq = w4 at *
      have dX := HX4.out.cell
      have dr := HD4.out.ref.tr HM.out
      rw [HR.out] at dr
      have f4 := HD4.out.ref.tfrozen HM.out 5
      go_wp2_with (go_at_call 11; (with_reducible refine (K0.out _ HBL4.out).mono ?_); rintro e w' ⟨rfl, rfl⟩)
      go_meet
      obtain ⟨x1, x2⟩ := turn_end HD4.out HB1.out HJ1.out HM.out (HB1.out.fit.at (show n0 < 17 by have := HN.out; omega)).slept rfl (only_set1 (Only.refl _ w4) (p := b0) 5 (.bool false)) (heap_setCell_same w4 b0 5 _ _ (.bool false) (HD4.out.ref.task _ HM.out)) HBL4.out
      exact ⟨0, L, _, _, rfl, rfl, x1, x2⟩
  · subst hx
    have kb := Lib.hid (block_no HB1.out.dead t hnt)
    have dX := HX.out.cell
    clear hnt HKN
    go_wp2_with (first
      | (go_at_call 11; (with_reducible refine (K0.out _ HBL1.out).mono ?_); rintro e w' ⟨rfl, rfl⟩)
      | (go_at_call 17; (with_reducible refine kb.out.mono ?_); rintro e w' ⟨rfl, rfl⟩))
    go_meet
    exact ⟨4, L, T, n, rfl, rfl, HB1.out.more HJ1.out, HBL1.out⟩
end Go.Proofs.Ytijpiloljgpnkaa.De
