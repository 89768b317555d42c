/- DeadPlays: the case 6. -/
import Derived.Test.YtijpiloljgpnkaaDCut
namespace Go.Proofs.Ytijpiloljgpnkaa.De
open Go.ChangeShapes Go.WideShapes Go.ChangeAt Go.RowKit Go.Maps
open Go.Proofs.Ytijpiloljgpnkaa.Pt
set_option linter.unusedVariables false
set_option maxRecDepth 100000 in
set_option maxHeartbeats 60000000 in
theorem case_6 : cut.P6 := by
  delta cut
  intro cap
  unhygienic intros
  have kb := Lib.hid (pass_any HB1.out.dead HB1.out.fit (by have := NB.out; omega) N0.out (by have := NB.out; omega))
  have HFT := Lib.hid (HB1.out.fit.past HB1.out.bare N0.out)
  have HBT := Lib.hid (HB1.out.bare.past (n := n))
  have HST := Lib.hid (HB1.out.same.past n)
  have KR : Hid (∀ wx, RefAt w.heap.size wx q L T n → Calls Try.prog 20 #[.pointer (some ⟨q, 0, none⟩), .bool true] wx (TickOf q L w.heap.size wx (past T n) (n + 1) (0 : Nat))) := Lib.hid (fun wx hx =>
    tickr_any (U := T) (kk := 0) hx HB1.out.same HB1.out.fit HLen.out N0.out NB.out true HB1.out.fit (Or.inl ⟨Or.inl rfl, rfl, rfl⟩))
  generalize past T n = U at *
  clear HKN
  go_wp2_with (first
    | (go_at_call 21; (with_reducible refine kb.out.mono ?_); rintro e w3 ⟨rfl, hF3, hO3⟩; have HD3 := Lib.hid (HB1.out.duet.ahead hF3 hO3); have HBL3 := Lib.hid (HBL1.out.trans (below_p HB1.out.new hO3 HBL1.out.size)); clear hF3 hO3)
    | (go_at_call 20; (with_reducible refine (KR.out _ HD3.out.ref).mono ?_); intro e w4 ht; obtain ⟨rfl, x1, x2⟩ := tick_end HD3.out HB1.out (Int.le_refl _) HST.out HFT.out HBT.out ht HBL3.out; have HB4 := Lib.hid x1; have HBL4 := Lib.hid x2; clear ht x1 x2))
  go_meet
  exact ⟨0, L, U, n + 1, rfl, rfl, HB4.out, HBL4.out⟩
end Go.Proofs.Ytijpiloljgpnkaa.De
