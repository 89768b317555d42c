/- DeadPlays: the case 5. -/
import Derived.Test.YtijpiloljgpnkaaDCut
namespace Go.Proofs.Ytijpiloljgpnkaa.De
open Go.ChangeShapes Go.WideShapes Go.ChangeAt Go.RowKit Go.Maps
open Go.Proofs.Ytijpiloljgpnkaa.Pt
set_option linter.unusedVariables false
set_option maxRecDepth 100000 in
set_option maxHeartbeats 60000000 in
theorem case_5 : cut.P5 := by
  delta cut
  intro cap
  unhygienic intros
  have kb := Lib.hid (tick_any HB1.out.dead HB1.out.fit NB.out N0.out NB.out)
  have HFT := Lib.hid (HB1.out.fit.tick HB1.out.bare N0.out)
  have HBT := Lib.hid (HB1.out.bare.tick HB1.out.fit (n := n))
  have HST := Lib.hid (HB1.out.same.tick n)
  have KR : Hid (∀ wx, RefAt w.heap.size wx q L T n → Calls Try.prog 20 #[.pointer (some ⟨q, 0, none⟩), .bool false] wx (TickOf q L w.heap.size wx (tick T n) (n + 1) (pick T : Nat))) := Lib.hid (fun wx hx => by
    by_cases h0 : pick T = 0
    · have := tickr_any (U := T) (kk := 0) hx HB1.out.same HB1.out.fit HLen.out N0.out NB.out false HB1.out.fit (Or.inl ⟨Or.inr h0, rfl, rfl⟩)
      have e : tick T n = past T n := by unfold tick; rw [if_pos h0]
      rw [e, h0]; exact this
    · have := tickr_any (U := upd T (pick T) (use (T (pick T)))) (kk := pick T) hx HB1.out.same HB1.out.fit HLen.out N0.out NB.out false (HB1.out.fit.used h0) (Or.inr ⟨rfl, h0, rfl, rfl⟩)
      have e : tick T n = past (upd T (pick T) (use (T (pick T)))) n := by unfold tick; rw [if_neg h0]
      rw [e]; exact this)
  generalize pick T = kk at *
  generalize tick T n = U at *
  have hkk : ((kk : Int) != (kk : Int)) = false := by simp
  clear HKN
  go_wp2_with (first
    | (go_at_call 10; (with_reducible refine kb.out.mono ?_); rintro e w3 ⟨rfl, hF3, hO3⟩; have HD3 := Lib.hid (HB1.out.duet.ahead hF3 hO3); have HBL3 := Lib.hid (HBL1.out.trans (below_p HB1.out.new hO3 HBL1.out.size)); clear hF3 hO3)
    | (go_at_call 20; (with_reducible refine (KR.out _ HD3.out.ref).mono ?_); intro e w4 ht; obtain ⟨rfl, x1, x2⟩ := tick_end HD3.out HB1.out (Int.le_refl _) HST.out HFT.out HBT.out ht HBL3.out; have HB4 := Lib.hid x1; have HBL4 := Lib.hid x2; clear ht x1 x2))
  go_meet
  exact ⟨0, L, U, n + 1, rfl, rfl, HB4.out, HBL4.out⟩
end Go.Proofs.Ytijpiloljgpnkaa.De
