/- DeadPlays: the case 2. -/
import Derived.Test.YtijpiloljgpnkaaDCut
namespace Go.Proofs.Ytijpiloljgpnkaa.De
open Go.ChangeShapes Go.WideShapes Go.ChangeAt Go.RowKit Go.Maps
open Go.Proofs.Ytijpiloljgpnkaa.Pt
set_option linter.unusedVariables false
set_option maxRecDepth 100000 in
set_option maxHeartbeats 60000000 in
theorem case_2 : cut.P2 := by
  delta cut
  intro cap
  unhygienic intros
  have kd := Lib.hid (fun w => delete_nil #[.pointer (some ⟨Bx, 0, none⟩)] w)
  rcases HKN.out with ⟨b0, n0, hx, hm, ht⟩ | ⟨hx, hnt⟩
  · subst hx
    subst ht
    have HM := Lib.hid hm
    have hn := HB1.out.same.num _ hm
    have hcc := HB1.out.same.there _ hm
    simp only at hn hcc
    clear HKN kd
    have kb := Lib.hid (leave_yes HB1.out.dead n0 hn.1 hn.2 hcc)
    obtain ⟨gV, cV, hV⟩ : ∃ g c, V = .slice (some ⟨g, 0, none⟩) L.length c := by
      rcases HX.out.full with ⟨-, h⟩ | h
      · rw [h] at hm; exact (List.not_mem_nil hm).elim
      · exact h
    subst hV
    clear hm hn hcc
    go_upto_region 25 with (first
      | (go_at_call 14; (with_reducible refine kb.out.mono ?_); rintro e w3 ⟨rfl, hF3, hO3⟩; have HD3 := Lib.hid (HB1.out.duet.ahead hF3 hO3); have HBL3 := Lib.hid (HBL1.out.trans (below_p HB1.out.new hO3 HBL1.out.size)); have HX3 := Lib.hid (HX.out.ahead HB1.out.duet hO3); have dX := HX3.out.cell; clear hF3 hO3))
    have dV := HX3.out.vq
    have kd := Lib.hid (leave_calls HD3.out.ref HX3.out HLen.out (some b0) rfl (fun x hx => ⟨_, HM.out, Option.some.inj hx⟩))
    go_wp2_with (first
      | (go_at_call 15; (with_reducible refine kd.out.mono ?_); intro e w5 hs; obtain ⟨n5, c5, rfl, d5, f5, x1, x2⟩ := leave_end1 HD3.out HB1.out HJ1.out HM.out HX3.out hs HBL3.out; have HB5 := Lib.hid x1; have HBL5 := Lib.hid x2; clear hs x1 x2))
    go_meet
    exact ⟨0, _, _, _, rfl, rfl, HB5.out, HBL5.out⟩
  · subst hx
    have kb := Lib.hid (leave_no HB1.out.dead t hnt)
    have dX := HX.out.cell
    have dV := HX.out.vq
    clear hnt HKN
    rcases HX.out.full with ⟨hV, hL⟩ | ⟨gV, cV, hV⟩
    · subst hV
      have HL := Lib.hid hL
      clear hL
      go_wp2_with (first
        | (go_at_call 14; (with_reducible refine kb.out.mono ?_); rintro e w' ⟨rfl, rfl⟩)
        | (go_at_call 15; (with_reducible refine (kd.out _).mono ?_); rintro e w5 ⟨rfl, hO⟩; have HB5 := Lib.hid (HB1.out.later hO); have HBL5 := Lib.hid (HBL1.out.trans (hO.below HBL1.out.size (fun _ e => e.elim))); have f5 := HB5.out.ref.frozen 1; have d5 := (HX.out.later hO).vq; clear hO))
      go_meet
      obtain ⟨x1, x2⟩ := nil_end HB5.out HJ1.out HL.out HBL5.out
      exact ⟨4, L, T, n, rfl, rfl, x1, x2⟩
    · subst hV
      clear kd
      have kd := Lib.hid (leave_calls HB1.out.ref HX.out HLen.out none rfl (fun x hx => by cases hx))
      go_wp2_with (first
        | (go_at_call 14; (with_reducible refine kb.out.mono ?_); rintro e w' ⟨rfl, rfl⟩)
        | (go_at_call 15; (with_reducible refine kd.out.mono ?_); intro e w5 hs; obtain ⟨n5, c5, rfl, d5, f5, x1, x2⟩ := leave_end0 HB1.out HJ1.out HX.out hs HBL1.out; have HB5 := Lib.hid x1; have HBL5 := Lib.hid x2; clear hs x1 x2))
      go_meet
      exact ⟨4, _, _, _, rfl, rfl, HB5.out, HBL5.out⟩
end Go.Proofs.Ytijpiloljgpnkaa.De
