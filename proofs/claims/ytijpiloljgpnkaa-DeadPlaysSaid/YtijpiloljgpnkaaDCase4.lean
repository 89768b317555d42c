/- DeadPlays: the case 4. -/
import Derived.Test.YtijpiloljgpnkaaDCut
namespace Go.Proofs.Ytijpiloljgpnkaa.De
open Go.ChangeShapes Go.WideShapes Go.ChangeAt Go.RowKit Go.Maps
open Go.Proofs.Ytijpiloljgpnkaa.Pt
set_option linter.unusedVariables false
set_option maxRecDepth 100000 in
set_option maxHeartbeats 60000000 in
theorem case_4 : cut.P4 := by
  delta cut
  intro cap
  unhygienic intros
  rcases HKN.out with ⟨b0, n0, hx, hm, ht⟩ | ⟨hx, hnt⟩
  · subst hx
    subst ht
    have HM := Lib.hid hm
    have hn := HB1.out.same.num _ hm
    have hcc := HB1.out.same.there _ hm
    simp only at hn hcc
    clear hm HKN
    by_cases hr : (T n0).r = true
    · have kb := Lib.hid (wk_state HB1.out.dead n0 hn.1 hn.2 hcc hr)
      have dX := HX.out.cell
      have dr := HB1.out.ref.tr HM.out
      rw [hr] at dr
      have C1 := Lib.hid (fun m => (K0.out (w1.drewN m) (HBL1.out.trans ((only_drewN (Only.refl (fun _ => False) w1) m).below HBL1.out.size (fun _ e => e.elim)))).mono (fun e w' h => (⟨h.1, h.2.symm⟩ : e = .returned (.int .i64 4) ∧ w' = w1.drewN m)))
      clear hr hcc hn
      go_upto_region 34 with (first
        | (go_at_call 11; (with_reducible refine (K0.out _ HBL1.out).mono ?_); rintro e w' ⟨rfl, rfl⟩)
        | (go_at_call 18; (with_reducible refine kb.out.mono ?_); rintro e w' ⟨rfl, rfl⟩))
      go_quiet ((go_at_call 11; (with_reducible exact Calls.quiet_of_same (C1.out _))))
      have HB2 := Lib.hid (HB1.out.later (only_drewN (Only.refl (fun _ => False) w1) nq))
      have HBL2 := Lib.hid (HBL1.out.trans ((only_drewN (Only.refl (fun _ => False) w1) nq).below HBL1.out.size (fun _ e => e.elim)))
      clear C1 kb dX dr
      generalize w1.drewN nq = w2 at *
      go_wp2_with fail
      go_meet
      exact ⟨8, L, T, n, rfl, rfl, HB2.out.more HJ1.out, HBL2.out⟩
    · have hr : (T n0).r = false := by simpa using hr
      have kb := Lib.hid (wk_yes HB1.out.dead HB1.out.fit NB.out N0.out NB.out n0 hn.1 hn.2 hcc hr)
      have HR := Lib.hid hr
      have HCC := Lib.hid hcc
      have HN := Lib.hid hn
      clear hr hcc hn
      go_upto_region 34 with (first
        | (go_at_call 11; (with_reducible refine (K0.out _ HBL1.out).mono ?_); rintro e w' ⟨rfl, rfl⟩)
        | (go_at_call 18; (with_reducible refine kb.out.mono ?_); rintro e w3 ⟨rfl, hF3, hO3⟩; have HD3 := Lib.hid (HB1.out.duet.ahead hF3 hO3); have HBL3 := Lib.hid (HBL1.out.trans (below_p HB1.out.new hO3 HBL1.out.size)); have HX3 := Lib.hid (HX.out.ahead HB1.out.duet hO3); have dX := HX3.out.cell; clear hF3 hO3))
      have dr := HD3.out.ref.tr HM.out
      rw [HR.out] at dr
      have C1 := Lib.hid (fun m => (K0.out (w3.drewN m) (HBL3.out.trans ((only_drewN (Only.refl (fun _ => False) w3) m).below HBL3.out.size (fun _ e => e.elim)))).mono (fun e w' h => (⟨h.1, h.2.symm⟩ : e = .returned (.int .i64 4) ∧ w' = w3.drewN m)))
      go_quiet ((go_at_call 11; (with_reducible exact Calls.quiet_of_same (C1.out _))))
      have HD4 := Lib.hid (HD3.out.later (only_drewN (Only.refl (fun _ => False) w3) nq))
      have HX4 := Lib.hid (HX3.out.later (only_drewN (Only.refl (fun _ => False) w3) nq))
      have HBL4 := Lib.hid (HBL3.out.trans ((only_drewN (Only.refl (fun _ => False) w3) nq).below HBL3.out.size (fun _ e => e.elim)))
      clear C1 kb dX dr
      generalize w3.drewN nq = w4 at *
      have dX := HX4.out.cell
      have dr := HD4.out.ref.tr HM.out
      rw [HR.out] at dr
      have f4 := HD4.out.ref.tfrozen HM.out 5
      have ok := HB1.out.fit.at (show n0 < 17 by have := HN.out; omega)
      have ob := ok.b
      have op := ok.p
      have ol := ok.l
      have od := ok.d
      have HOK := Lib.hid ok
      have kw := Lib.hid (fun (wx : World) (hx : wx.heap[b0]? = some (taskCells n0 (T n0))) => wokenr_any (n := n) hx N0.out NB.out (by have := NB.out; omega) ob.1 (by omega) ol.1 (by omega) (by omega) op)
      clear ob op ol od
      go_upto_region 31 with (go_at_call 11; (with_reducible refine (K0.out _ HBL4.out).mono ?_); rintro e w' ⟨rfl, rfl⟩)
      refine wp_region_still_tail 5 (by kernel_rfl) (by kernel_rfl) ?_
      have HD5 : Hid (Duet w.heap.size w4.drew p q L T n (upd T n0 (woke (T n0) n)) n) := Lib.hid (HD4.out.later (Only.refl (fun _ => False) w4).drew)
      have dX5 : w4.drew.cell? ⟨Bx, 0, none⟩ = some (.pointer (some ⟨b0, 0, none⟩)) := dX
      have dn5 := HD5.out.ref.now
      have HBL5 : Hid (Below w.heap.size w w4.drew) := Lib.hid (HBL4.out.trans ((Only.refl (fun _ => False) w4).drew.below HBL4.out.size (fun _ e => e.elim)))
      show wpStill _ _ w4.drew (fun a' => wpList _ _ _ _ a' w4.drew) _ _
      clear dX dr f4 HX4
      generalize w4.drew = w5 at *
      simp only [List.take_succ_cons, List.take_zero, List.drop_succ_cons, List.drop_zero]
      repeat still_step
      refine wpStill_nil ?_
      go_wp2_with (go_at_call 19; (with_reducible refine (kw.out _ (HD5.out.ref.task _ HM.out)).mono ?_); rintro e w6 ⟨rfl, hx6, hO6⟩; have HX6 := Lib.hid hx6; have HO6 := Lib.hid hO6; clear hx6 hO6)
      go_meet
      obtain ⟨x1, x2⟩ := turn_end HD5.out HB1.out HJ1.out HM.out (HOK.out.woke N0.out HCC.out) (woke_p _ _) HO6.out HX6.out HBL5.out
      exact ⟨0, L, _, _, rfl, rfl, x1, x2⟩
  · subst hx
    have kb := Lib.hid (wk_no HB1.out.dead t hnt)
    have dX := HX.out.cell
    clear hnt HKN
    go_wp2_with (first
      | (go_at_call 11; (with_reducible refine (K0.out _ HBL1.out).mono ?_); rintro e w' ⟨rfl, rfl⟩)
      | (go_at_call 18; (with_reducible refine kb.out.mono ?_); rintro e w' ⟨rfl, rfl⟩))
    go_meet
    exact ⟨4, L, T, n, rfl, rfl, HB1.out.more HJ1.out, HBL1.out⟩
end Go.Proofs.Ytijpiloljgpnkaa.De
