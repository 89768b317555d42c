/- DeadPlays: the case 1. -/
import Derived.Test.YtijpiloljgpnkaaDCut
namespace Go.Proofs.Ytijpiloljgpnkaa.De
open Go.ChangeShapes Go.WideShapes Go.ChangeAt Go.RowKit Go.Maps
open Go.Proofs.Ytijpiloljgpnkaa.Pt
set_option linter.unusedVariables false
set_option maxRecDepth 100000 in
set_option maxHeartbeats 60000000 in
theorem case_1 : cut.P1 := by
  delta cut
  intro cap
  unhygienic intros
  have kn := Lib.hid (fun w => ref_task t w)
  by_cases hg : Good t qa pa
  · obtain ⟨b1, b2, b3, b4, b5, b6⟩ := hg
    obtain ⟨k, rfl⟩ : ∃ k : Nat, t = k := ⟨t.toNat, by omega⟩
    rw [isN_yes (by omega) (by omega)] at kn
    have z1 : ¬ pa < 1 := by omega
    have z2 : ¬ 30 < pa := by omega
    have z3 : ¬ qa < 1 := by omega
    have z4 : ¬ pa < qa := by omega
    rcases HKN.out with ⟨b0, n0, hx, hm, ht⟩ | ⟨hx, hnt⟩
    · subst hx
      obtain rfl : n0 = k := by omega
      have hcc := HB1.out.same.there _ hm
      simp only at hcc
      have dX := HX.out.cell
      have kb := Lib.hid (add_there HB1.out.dead n0 qa pa ⟨b1, b2, b3, b4, b5, b6⟩ hcc)
      clear HKN hcc hm ht
      go_wp2_with (first
        | (go_at_call 11; (with_reducible refine (K2.out _ HBL1.out).mono ?_); rintro e w' ⟨rfl, rfl⟩)
        | (go_at_call 11; (with_reducible refine (K3.out _ HBL1.out).mono ?_); rintro e w' ⟨rfl, rfl⟩)
        | (go_at_call 9; (with_reducible refine kb.out.mono ?_); rintro e w' ⟨rfl, rfl⟩)
        | (go_at_call 13; (with_reducible refine (kn.out _).mono ?_); rintro e w' ⟨rfl, rfl⟩))
      go_meet
      exact ⟨5, L, T, n, rfl, rfl, HB1.out.more HJ1.out, HBL1.out⟩
    · subst hx
      have hno : (T k).p = 0 := by
        by_cases h : (T k).p = 0
        · exact h
        · exact absurd ⟨by omega, by omega, by simpa using h⟩ hnt
      have HNO := Lib.hid hno
      have dX := HX.out.cell
      have kb := Lib.hid (add_yes HB1.out.dead k qa pa ⟨b1, b2, b3, b4, b5, b6⟩ hno N0.out (by have := NB.out; omega))
      clear HKN hnt hno
      go_upto_region 16 with (first
        | (go_at_call 11; (with_reducible refine (K2.out _ HBL1.out).mono ?_); rintro e w' ⟨rfl, rfl⟩)
        | (go_at_call 11; (with_reducible refine (K3.out _ HBL1.out).mono ?_); rintro e w' ⟨rfl, rfl⟩)
        | (go_at_call 9; (with_reducible refine kb.out.mono ?_); rintro e w3 ⟨rfl, hF3, hO3⟩; have HD3 := Lib.hid (HB1.out.duet.ahead hF3 hO3); have HBL3 := Lib.hid (HBL1.out.trans (below_p HB1.out.new hO3 HBL1.out.size)); have HX3 := Lib.hid (HX.out.ahead HB1.out.duet hO3); have dX := HX3.out.cell; clear hF3 hO3)
        | (go_at_call 13; (with_reducible refine (kn.out _).mono ?_); rintro e w' ⟨rfl, rfl⟩))
      have dV := HX3.out.vq
      have dn := HD3.out.ref.now
      have nb := NB.out
      have n0 := N0.out
      have RW := Lib.hid HX3.out.row
      have HLO := HD3.out.ref.low
      have HOK : Hid (Ok (came qa pa n) n) := Lib.hid (ok_came b5 b6 b4 N0.out)
      have HK1 : Hid (1 ≤ k ∧ k ≤ 16) := Lib.hid (by omega)
      have HPN : Hid ((came qa pa n).p ≠ 0) := Lib.hid (by show pa ≠ 0; omega)
      have hw : IntKind.i64.wrap (n + pa) = n + pa := IntWalk.i64_in _ (by omega)
      have HTN : Hid (∀ W, TwoNew w3 (.cells #[.int .i64 k, .int .i64 qa, .int .i64 pa, .int .i64 qa, .int .i64 (IntKind.i64.wrap (n + pa)), .bool true, .bool false] 38) (.cells #[pt w3.heap.size] 34) W → TwoNew w3 (taskCells k (came qa pa n)) (.cells #[pt w3.heap.size] 34) W) := Lib.hid (fun W h => by rw [hw] at h; exact h)
      skip
      have dV1 : ∀ o, (w3.alloc o).cell? ⟨q, 1, none⟩ = some V := fun o => (HX3.out.later ((Only.refl (fun _ => False) w3).alloc o)).vq
      have dV2 : ∀ o o', ((w3.alloc o).alloc o').cell? ⟨q, 1, none⟩ = some V := fun o o' => (HX3.out.later (((Only.refl (fun _ => False) w3).alloc o).alloc o')).vq
      have dV3 : ∀ o, (w3.alloc o).drew.cell? ⟨q, 1, none⟩ = some V := dV1
      have dV4 : ∀ o o', ((w3.alloc o).alloc o').drew.cell? ⟨q, 1, none⟩ = some V := dV2
      have dV5 : w3.drew.cell? ⟨q, 1, none⟩ = some V := dV
      have dn1 : ∀ o, (w3.alloc o).cell? ⟨q, 0, none⟩ = some (.int .i64 n) := fun o => (HD3.out.ref.later ((Only.refl (fun _ => False) w3).alloc o)).now
      have dn2 : ∀ o o', ((w3.alloc o).alloc o').cell? ⟨q, 0, none⟩ = some (.int .i64 n) := fun o o' => (HD3.out.ref.later (((Only.refl (fun _ => False) w3).alloc o).alloc o')).now
      have dn5 : w3.drew.cell? ⟨q, 0, none⟩ = some (.int .i64 n) := dn
      have HWa : Hid (TwoNew w3 (taskCells k (came qa pa n)) (.cells #[pt w3.heap.size] 34) (((w3.alloc (.cells #[.int .i64 k, .int .i64 qa, .int .i64 pa, .int .i64 qa, .int .i64 (IntKind.i64.wrap (n + pa)), .bool true, .bool false] 38)).alloc (.cells #[.pointer (some ⟨w3.heap.size, 0, none⟩)] 34)).drew)) := Lib.hid (HTN.out _ ⟨rfl, rfl, rfl, rfl⟩)
      have HWb : Hid (TwoNew w3 (taskCells k (came qa pa n)) (.cells #[pt w3.heap.size] 34) (((w3.alloc (.cells #[.int .i64 k, .int .i64 qa, .int .i64 pa, .int .i64 qa, .int .i64 (n + pa), .bool true, .bool false] 38)).alloc (.cells #[.pointer (some ⟨w3.heap.size, 0, none⟩)] 34)).drew)) := Lib.hid ⟨rfl, rfl, rfl, rfl⟩
      have HRa := Lib.hid (HWa.out.row RW.out)
      have HRb := Lib.hid (HWb.out.row RW.out)
      have HLL : Hid ((L.map (·.1)).length ≤ 1000000) := Lib.hid (by have := HLen.out; rw [List.length_map]; omega)
      have HZa := Lib.hid (Nat.le_trans HLO HWa.out.only.size)
      have HZb := Lib.hid (Nat.le_trans HLO HWb.out.only.size)
      go_region_law (refine step_ptr (w := ((w3.alloc (.cells #[.int .i64 k, .int .i64 qa, .int .i64 pa, .int .i64 qa, .int .i64 (n + pa), .bool true, .bool false] 38)).alloc (.cells #[.pointer (some ⟨w3.heap.size, 0, none⟩)] 34)).drew) rfl (.tmp 72) (.tmp 85) rfl w.heap.size (w3.heap.size + 1) V (L.map (·.1)) w3.heap.size HRb.out (by rfl) (by rfl) HWb.out.two HLL.out HZb.out ?_; intro g' c' w5 hr hO hat; rw [List.length_map] at hr; obtain ⟨d5, f5, x1, x2⟩ := add_row2 HD3.out HB1.out HJ1.out HX3.out HK1.out.1 HK1.out.2 HNO.out HOK.out HPN.out HBL3.out hr hO hat HWb.out; have s6 := x1.ref.now; have s5 := now_back s6; have HB6 := Lib.hid x1; have HBL6 := Lib.hid x2; clear hr hO hat x1 x2)
      all_goals (
        go_wp2_with fail
        go_meet
        exact ⟨0, _, _, _, rfl, rfl, HB6.out, HBL6.out⟩)
  · have kb := Lib.hid (add_bad HB1.out.dead t qa pa hg)
    by_cases c0 : t < 1 ∨ 16 < t
    · rw [isN_no c0] at kn
      clear hg c0
      go_wp2_with (first
        | (go_at_call 11; (with_reducible refine (K2.out _ HBL1.out).mono ?_); rintro e w' ⟨rfl, rfl⟩)
        | (go_at_call 11; (with_reducible refine (K3.out _ HBL1.out).mono ?_); rintro e w' ⟨rfl, rfl⟩)
        | (go_at_call 9; (with_reducible refine kb.out.mono ?_); rintro e w' ⟨rfl, rfl⟩)
        | (go_at_call 13; (with_reducible refine (kn.out _).mono ?_); rintro e w' ⟨rfl, rfl⟩))
      go_meet
      exact ⟨1, L, T, n, rfl, rfl, HB1.out.more HJ1.out, HBL1.out⟩
    · obtain ⟨k, rfl⟩ : ∃ k : Nat, t = k := ⟨t.toNat, by omega⟩
      rw [isN_yes (by omega) (by omega)] at kn
      by_cases c1 : pa < 1
      · clear hg c0
        go_wp2_with (first
          | (go_at_call 11; (with_reducible refine (K2.out _ HBL1.out).mono ?_); rintro e w' ⟨rfl, rfl⟩)
          | (go_at_call 11; (with_reducible refine (K3.out _ HBL1.out).mono ?_); rintro e w' ⟨rfl, rfl⟩)
          | (go_at_call 9; (with_reducible refine kb.out.mono ?_); rintro e w' ⟨rfl, rfl⟩)
          | (go_at_call 13; (with_reducible refine (kn.out _).mono ?_); rintro e w' ⟨rfl, rfl⟩))
        go_meet
        exact ⟨1, L, T, n, rfl, rfl, HB1.out.more HJ1.out, HBL1.out⟩
      · by_cases c2 : 30 < pa
        · clear hg c0
          go_wp2_with (first
            | (go_at_call 11; (with_reducible refine (K2.out _ HBL1.out).mono ?_); rintro e w' ⟨rfl, rfl⟩)
            | (go_at_call 11; (with_reducible refine (K3.out _ HBL1.out).mono ?_); rintro e w' ⟨rfl, rfl⟩)
            | (go_at_call 9; (with_reducible refine kb.out.mono ?_); rintro e w' ⟨rfl, rfl⟩)
            | (go_at_call 13; (with_reducible refine (kn.out _).mono ?_); rintro e w' ⟨rfl, rfl⟩))
          go_meet
          exact ⟨1, L, T, n, rfl, rfl, HB1.out.more HJ1.out, HBL1.out⟩
        · by_cases c3 : qa < 1
          · clear hg c0
            go_wp2_with (first
              | (go_at_call 11; (with_reducible refine (K2.out _ HBL1.out).mono ?_); rintro e w' ⟨rfl, rfl⟩)
              | (go_at_call 11; (with_reducible refine (K3.out _ HBL1.out).mono ?_); rintro e w' ⟨rfl, rfl⟩)
              | (go_at_call 9; (with_reducible refine kb.out.mono ?_); rintro e w' ⟨rfl, rfl⟩)
              | (go_at_call 13; (with_reducible refine (kn.out _).mono ?_); rintro e w' ⟨rfl, rfl⟩))
            go_meet
            exact ⟨1, L, T, n, rfl, rfl, HB1.out.more HJ1.out, HBL1.out⟩
          · have c4 : pa < qa := by
              apply Decidable.byContradiction; intro c4
              exact hg ⟨by omega, by omega, by omega, by omega, by omega, by omega⟩
            clear hg c0
            go_wp2_with (first
              | (go_at_call 11; (with_reducible refine (K2.out _ HBL1.out).mono ?_); rintro e w' ⟨rfl, rfl⟩)
              | (go_at_call 11; (with_reducible refine (K3.out _ HBL1.out).mono ?_); rintro e w' ⟨rfl, rfl⟩)
              | (go_at_call 9; (with_reducible refine kb.out.mono ?_); rintro e w' ⟨rfl, rfl⟩)
              | (go_at_call 13; (with_reducible refine (kn.out _).mono ?_); rintro e w' ⟨rfl, rfl⟩))
            go_meet
            exact ⟨1, L, T, n, rfl, rfl, HB1.out.more HJ1.out, HBL1.out⟩
end Go.Proofs.Ytijpiloljgpnkaa.De
