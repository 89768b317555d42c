/- Texts of this claim, merged: RkTickW. -/
import Derived.Test.YtpincdcebhmnhaaGreatM26
/- The reference of one processor's scheduler: the walks of a tick, one for each class. -/
namespace Go.Proofs.YtpincdcebhmnhaaGreat.Rk
open Go.ChangeShapes Go.WideShapes Go.ChangeAt Go.RowKit Go.Maps
open Go.Proofs.YtpincdcebhmnhaaGreat.Of Go.Proofs.YtpincdcebhmnhaaGreat.Pk Go.Proofs.YtpincdcebhmnhaaGreat.Vt
set_option linter.unusedVariables false
set_option maxRecDepth 100000

section
variable {B : Nat} {w w' : World} {q : Nat} {M : RSt} {S : St} {b : Int}
set_option maxHeartbeats 2000000 in
theorem rtick_dead (h : RefP B w q M) (hL : Link S M) (hI : Inv S b) (hb : b ≤ 8000000000000) (u0 : 0 ≤ M.used) (uB : M.used ≤ 9000000000000000000) {m : Nat} (hm : best S = m) (hm16 : m ≤ 16) (h1 : De.pick S.d ≠ 0) (hc : S.C m = 3) :
    Calls Tryz.prog 16 #[.pointer (some ⟨q, 0, none⟩)] w (RTick B q S M w) := by
  have H := Lib.hid h
  have HL := Lib.hid hL
  have HI := Lib.hid hI
  have HM := Lib.hid hm
  have kb := Lib.hid (rbest_any h hL hI)
  rw [hm] at kb
  have hcm := C_at hL hm16 hI
  have wt : Hid ((Lit.int .i64 (m : Int)).wf = true) := Lib.hid (i64_wf (by omega))
  rw [hc] at hcm
  have hp0 := Lib.hid h1
  have hts := Lib.hid (show tickS S = { head S with d := De.tick S.d S.n, n := S.n + 1 } by unfold tickS; rw [if_pos h1])
  by_cases e : best S = S.now
  · have HG := Lib.hid (fun W (hW : Only (fun _ => False) w W) => head_1 (h.later hW) hm e (M.used + 1) rfl)
    have HE := Lib.hid (show (rhead S M).used = M.used + 1 by rw [rhead_same e])
    have hn : M.now = (m : Int) := by rw [hL.now, ← e]; exact hm
    have mu := Lib.hid (show M.used = M.used from rfl)
    generalize hrr : M.used = r at HG HE mu u0 uB
    clear h hL hI e hm h1 hc
    go_enter Tryz.func16, Tryz.ntmps16
    go_upto_region 6 with (go_at_call 18; (with_reducible refine kb.out.mono ?_); rintro e w1 ⟨rfl, hO⟩; have HO := Lib.hid hO; clear hO; have cn := (H.out.later HO.out).now; rw [hn] at cn; have cr := (H.out.later HO.out).used; rw [hrr] at cr; have fz := (H.out.later HO.out).frozen)
    have HS := Lib.hid (HG.out w1 HO.out)
    clear cn cr fz hn hrr
    generalize (w1.setCell ⟨q, 41, none⟩ (.int .i64 m)).setCell ⟨q, 42, none⟩ (.int .i64 (r + 1)) = w3 at *
    have pc3 := HS.out.1.pc
    have lk3 := HS.out.1.mc.look (m : Int) wt.out
    rw [show (rhead S M).C m = 3 from hcm] at lk3
    have lk4 := (HS.out.1.mc.later (Only.refl (fun _ => False) w3).drew).look (m : Int) wt.out
    rw [show (rhead S M).C m = 3 from hcm] at lk4
    have kt := Lib.hid (fun W (hW : Only (fun _ => False) w3 W) => dtick_any (HS.out.1.later hW) HL.out.d HL.out.n HL.out.ds HI.out hb false (HI.out.dfit.used hp0.out) (Or.inr ⟨rfl, hp0.out, rfl, rfl⟩))
    have HT := Lib.hid (show Ticked S M (ticked (rhead S M) (De.past (De.upd S.d (De.pick S.d) (De.use (S.d (De.pick S.d)))) S.n) (S.n + 1)) from ⟨⟨rfl, rfl, rfl, rfl, rfl, rfl, rfl⟩, by rw [hts.out]; exact HL.out.T, by rw [hts.out]; exact HL.out.Q, by rw [hts.out]; show De.past _ _ = De.tick _ _; unfold De.tick; rw [if_neg hp0.out], by rw [tickS_n]; rfl, rfl, rfl⟩)
    clear hcm
    go_wp2_with fail
    go_region_with (go_at_call 43; (with_reducible refine (kt.out _ (Only.refl _ _).drew).mono ?_); rintro e w4 ⟨rfl, hR, hs⟩; have HR := Lib.hid hR; have HRS := Lib.hid hs; clear hR hs)
    all_goals (
      (try go_wp2_with fail)
      go_ret
      exact ⟨ret_int HM.out.symm, _, HR.out, (((RStep.of_quiet HO.out).trans HS.out.2).trans (RStep.of_quiet (Only.refl _ _).drew)).trans HRS.out, HT.out⟩)
  · have HG := Lib.hid (fun W (hW : Only (fun _ => False) w W) => head_2 (h.later hW) hm e)
    have HE := Lib.hid (show (rhead S M).used = 1 by rw [rhead_other e])
    have hn : ((m : Int) == M.now) = false := beq_eq_false_iff_ne.2 (by rw [hL.now, ← hm]; exact e)
    clear h hL hI e hm h1 hc
    go_enter Tryz.func16, Tryz.ntmps16
    go_upto_region 6 with (go_at_call 18; (with_reducible refine kb.out.mono ?_); rintro e w1 ⟨rfl, hO⟩; have HO := Lib.hid hO; clear hO; have cn := (H.out.later HO.out).now; have cr := (H.out.later HO.out).used; have fz := (H.out.later HO.out).frozen)
    have HS := Lib.hid (HG.out w1 HO.out)
    clear cn cr fz hn
    generalize ((w1.setCell ⟨q, 42, none⟩ (.int .i64 0)).setCell ⟨q, 41, none⟩ (.int .i64 m)).setCell ⟨q, 42, none⟩ (.int .i64 1) = w3 at *
    have pc3 := HS.out.1.pc
    have lk3 := HS.out.1.mc.look (m : Int) wt.out
    rw [show (rhead S M).C m = 3 from hcm] at lk3
    have lk4 := (HS.out.1.mc.later (Only.refl (fun _ => False) w3).drew).look (m : Int) wt.out
    rw [show (rhead S M).C m = 3 from hcm] at lk4
    have kt := Lib.hid (fun W (hW : Only (fun _ => False) w3 W) => dtick_any (HS.out.1.later hW) HL.out.d HL.out.n HL.out.ds HI.out hb false (HI.out.dfit.used hp0.out) (Or.inr ⟨rfl, hp0.out, rfl, rfl⟩))
    have HT := Lib.hid (show Ticked S M (ticked (rhead S M) (De.past (De.upd S.d (De.pick S.d) (De.use (S.d (De.pick S.d)))) S.n) (S.n + 1)) from ⟨⟨rfl, rfl, rfl, rfl, rfl, rfl, rfl⟩, by rw [hts.out]; exact HL.out.T, by rw [hts.out]; exact HL.out.Q, by rw [hts.out]; show De.past _ _ = De.tick _ _; unfold De.tick; rw [if_neg hp0.out], by rw [tickS_n]; rfl, rfl, rfl⟩)
    clear hcm
    go_wp2_with fail
    go_region_with (go_at_call 43; (with_reducible refine (kt.out _ (Only.refl _ _).drew).mono ?_); rintro e w4 ⟨rfl, hR, hs⟩; have HR := Lib.hid hR; have HRS := Lib.hid hs; clear hR hs)
    all_goals (
      (try go_wp2_with fail)
      go_ret
      exact ⟨ret_int HM.out.symm, _, HR.out, (((RStep.of_quiet HO.out).trans HS.out.2).trans (RStep.of_quiet (Only.refl _ _).drew)).trans HRS.out, HT.out⟩)
set_option maxHeartbeats 2000000 in
theorem rtick_none (h : RefP B w q M) (hL : Link S M) (hI : Inv S b) (hb : b ≤ 8000000000000) (u0 : 0 ≤ M.used) (uB : M.used ≤ 9000000000000000000) {m : Nat} (hm : best S = m) (hm16 : m ≤ 16) (h1 : De.pick S.d = 0) (ht : Pr.top S.Q = none) (hn0 : (Fr.next S.T S.G).1 = 0) (hc : S.C m = 0) :
    Calls Tryz.prog 16 #[.pointer (some ⟨q, 0, none⟩)] w (RTick B q S M w) := by
  have H := Lib.hid h
  have HL := Lib.hid hL
  have HI := Lib.hid hI
  have HM := Lib.hid hm
  have kb := Lib.hid (rbest_any h hL hI)
  rw [hm] at kb
  have hcm := C_at hL hm16 hI
  have wt : Hid ((Lit.int .i64 (m : Int)).wf = true) := Lib.hid (i64_wf (by omega))
  rw [hc] at hcm
  have hts := Lib.hid (show tickS S = { head S with d := De.past S.d S.n, n := S.n + 1 } by unfold tickS; rw [if_neg (by simp [h1]), if_neg (by simp [ht]), if_neg (by simp [hn0])])
  by_cases e : best S = S.now
  · have HG := Lib.hid (fun W (hW : Only (fun _ => False) w W) => head_1 (h.later hW) hm e (M.used + 1) rfl)
    have HE := Lib.hid (show (rhead S M).used = M.used + 1 by rw [rhead_same e])
    have hn : M.now = (m : Int) := by rw [hL.now, ← e]; exact hm
    have mu := Lib.hid (show M.used = M.used from rfl)
    generalize hrr : M.used = r at HG HE mu u0 uB
    clear h hL hI e hm h1 ht hn0 hc
    go_enter Tryz.func16, Tryz.ntmps16
    go_upto_region 6 with (go_at_call 18; (with_reducible refine kb.out.mono ?_); rintro e w1 ⟨rfl, hO⟩; have HO := Lib.hid hO; clear hO; have cn := (H.out.later HO.out).now; rw [hn] at cn; have cr := (H.out.later HO.out).used; rw [hrr] at cr; have fz := (H.out.later HO.out).frozen)
    have HS := Lib.hid (HG.out w1 HO.out)
    clear cn cr fz hn hrr
    generalize (w1.setCell ⟨q, 41, none⟩ (.int .i64 m)).setCell ⟨q, 42, none⟩ (.int .i64 (r + 1)) = w3 at *
    have pc3 := HS.out.1.pc
    have lk3 := HS.out.1.mc.look (m : Int) wt.out
    rw [show (rhead S M).C m = 0 from hcm] at lk3
    have lk4 := (HS.out.1.mc.later (Only.refl (fun _ => False) w3).drew).look (m : Int) wt.out
    rw [show (rhead S M).C m = 0 from hcm] at lk4
    have kt := Lib.hid (fun W (hW : Only (fun _ => False) w3 W) => dtick_any (HS.out.1.later hW) HL.out.d HL.out.n HL.out.ds HI.out hb true HI.out.dfit (Or.inl ⟨Or.inl rfl, rfl, rfl⟩))
    have HT := Lib.hid (show Ticked S M (ticked (rhead S M) (De.past S.d S.n) (S.n + 1)) from ⟨⟨rfl, rfl, rfl, rfl, rfl, rfl, rfl⟩, by rw [hts.out]; exact HL.out.T, by rw [hts.out]; exact HL.out.Q, by rw [hts.out]; rfl, by rw [tickS_n]; rfl, rfl, rfl⟩)
    clear hcm
    go_wp2_with fail
    go_region_with (go_at_call 43; (with_reducible refine (kt.out _ (Only.refl _ _).drew).mono ?_); rintro e w4 ⟨rfl, hR, hs⟩; have HR := Lib.hid hR; have HRS := Lib.hid hs; clear hR hs)
    all_goals (
      (try go_wp2_with fail)
      go_ret
      exact ⟨ret_int HM.out.symm, _, HR.out, (((RStep.of_quiet HO.out).trans HS.out.2).trans (RStep.of_quiet (Only.refl _ _).drew)).trans HRS.out, HT.out⟩)
  · have HG := Lib.hid (fun W (hW : Only (fun _ => False) w W) => head_2 (h.later hW) hm e)
    have HE := Lib.hid (show (rhead S M).used = 1 by rw [rhead_other e])
    have hn : ((m : Int) == M.now) = false := beq_eq_false_iff_ne.2 (by rw [hL.now, ← hm]; exact e)
    clear h hL hI e hm h1 ht hn0 hc
    go_enter Tryz.func16, Tryz.ntmps16
    go_upto_region 6 with (go_at_call 18; (with_reducible refine kb.out.mono ?_); rintro e w1 ⟨rfl, hO⟩; have HO := Lib.hid hO; clear hO; have cn := (H.out.later HO.out).now; have cr := (H.out.later HO.out).used; have fz := (H.out.later HO.out).frozen)
    have HS := Lib.hid (HG.out w1 HO.out)
    clear cn cr fz hn
    generalize ((w1.setCell ⟨q, 42, none⟩ (.int .i64 0)).setCell ⟨q, 41, none⟩ (.int .i64 m)).setCell ⟨q, 42, none⟩ (.int .i64 1) = w3 at *
    have pc3 := HS.out.1.pc
    have lk3 := HS.out.1.mc.look (m : Int) wt.out
    rw [show (rhead S M).C m = 0 from hcm] at lk3
    have lk4 := (HS.out.1.mc.later (Only.refl (fun _ => False) w3).drew).look (m : Int) wt.out
    rw [show (rhead S M).C m = 0 from hcm] at lk4
    have kt := Lib.hid (fun W (hW : Only (fun _ => False) w3 W) => dtick_any (HS.out.1.later hW) HL.out.d HL.out.n HL.out.ds HI.out hb true HI.out.dfit (Or.inl ⟨Or.inl rfl, rfl, rfl⟩))
    have HT := Lib.hid (show Ticked S M (ticked (rhead S M) (De.past S.d S.n) (S.n + 1)) from ⟨⟨rfl, rfl, rfl, rfl, rfl, rfl, rfl⟩, by rw [hts.out]; exact HL.out.T, by rw [hts.out]; exact HL.out.Q, by rw [hts.out]; rfl, by rw [tickS_n]; rfl, rfl, rfl⟩)
    clear hcm
    go_wp2_with fail
    go_region_with (go_at_call 43; (with_reducible refine (kt.out _ (Only.refl _ _).drew).mono ?_); rintro e w4 ⟨rfl, hR, hs⟩; have HR := Lib.hid hR; have HRS := Lib.hid hs; clear hR hs)
    all_goals (
      (try go_wp2_with fail)
      go_ret
      exact ⟨ret_int HM.out.symm, _, HR.out, (((RStep.of_quiet HO.out).trans HS.out.2).trans (RStep.of_quiet (Only.refl _ _).drew)).trans HRS.out, HT.out⟩)
set_option maxHeartbeats 2000000 in
theorem rtick_fair (h : RefP B w q M) (hL : Link S M) (hI : Inv S b) (hb : b ≤ 8000000000000) (u0 : 0 ≤ M.used) (uB : M.used ≤ 9000000000000000000) {m : Nat} (hm : best S = m) (hm16 : m ≤ 16) (h1 : De.pick S.d = 0) (ht : Pr.top S.Q = none) (hnm : (Fr.next S.T S.G).1 = m) (m1 : 1 ≤ m) (hc0 : (S.T m).c ≠ 0) (hc : S.C m = 1) :
    Calls Tryz.prog 16 #[.pointer (some ⟨q, 0, none⟩)] w (RTick B q S M w) := by
  have H := Lib.hid h
  have HL := Lib.hid hL
  have HI := Lib.hid hI
  have HM := Lib.hid hm
  have kb := Lib.hid (rbest_any h hL hI)
  rw [hm] at kb
  have hcm := C_at hL hm16 hI
  have wt : Hid ((Lit.int .i64 (m : Int)).wf = true) := Lib.hid (i64_wf (by omega))
  rw [hc] at hcm
  have hc1 := Lib.hid hcm
  have HC0 := Lib.hid hc0
  have hts := Lib.hid (show tickS S = { head S with T := Fr.tickT S.T m, d := De.past S.d S.n, n := S.n + 1 } by unfold tickS; rw [if_neg (by simp [h1]), if_neg (by simp [ht]), if_pos (by omega), hnm])
  by_cases e : best S = S.now
  · have HG := Lib.hid (fun W (hW : Only (fun _ => False) w W) => head_1 (h.later hW) hm e (M.used + 1) rfl)
    have HE := Lib.hid (show (rhead S M).used = M.used + 1 by rw [rhead_same e])
    have hn : M.now = (m : Int) := by rw [hL.now, ← e]; exact hm
    have mu := Lib.hid (show M.used = M.used from rfl)
    generalize hrr : M.used = r at HG HE mu u0 uB
    clear h hL hI e hm h1 ht hnm m1 hc0 hc
    go_enter Tryz.func16, Tryz.ntmps16
    go_upto_region 6 with (go_at_call 18; (with_reducible refine kb.out.mono ?_); rintro e w1 ⟨rfl, hO⟩; have HO := Lib.hid hO; clear hO; have cn := (H.out.later HO.out).now; rw [hn] at cn; have cr := (H.out.later HO.out).used; rw [hrr] at cr; have fz := (H.out.later HO.out).frozen)
    have HS := Lib.hid (HG.out w1 HO.out)
    clear cn cr fz hn hrr
    generalize (w1.setCell ⟨q, 41, none⟩ (.int .i64 m)).setCell ⟨q, 42, none⟩ (.int .i64 (r + 1)) = w3 at *
    have HFR := Lib.hid (show Fr.RefAt B w3 q 0 44 M.LF S.T Fr.noG M.W (fun _ => 0) from HL.out.T ▸ HS.out.1.fair)
    obtain ⟨b0, hb0⟩ := HL.out.fs.all m (by omega) HC0.out
    have HX := Lib.hid hb0
    have kf := Lib.hid (ffind_yes HFR.out HL.out.fs hb0)
    have hwt := HL.out.fs.wt _ hb0
    simp only at hwt
    have kc : Hid (∀ w2, Calls Tryz.prog 41 #[.int .i64 (M.W m)] w2 fun e w' => e = .returned (.int .i64 (S.T m).c) ∧ w' = w2) := Lib.hid (fun w2 => (ref_cost (M.W m) w2 hwt.1).mono fun e w' h => ⟨by rw [hwt.2]; exact h.1, h.2.symm⟩)
    have v0 := HI.out.fit.v m (by omega)
    have c0 := HI.out.fit.c m (by omega)
    have pc3 := HS.out.1.pc
    have lk3 := HS.out.1.mc.look (m : Int) wt.out
    rw [show (rhead S M).C m = 1 from hcm] at lk3
    have lk4 := (HS.out.1.mc.later (Only.refl (fun _ => False) w3).drew).look (m : Int) wt.out
    rw [show (rhead S M).C m = 1 from hcm] at lk4
    clear hcm hb0 hwt
    go_upto_region 9 with (go_at_call 38; (with_reducible refine kf.out.mono ?_); rintro e w4 ⟨rfl, rfl⟩)
    clear lk3 lk4 pc3
    refine wp_region_still_tail 12 (by kernel_rfl) (by kernel_rfl) ?_
    have HF5 := Lib.hid (HFR.out.later (w' := w3.drew) ((Only.refl (fun _ => False) w3).drew))
    have HS5 := Lib.hid (show RefP B w3.drew q (rhead S M) ∧ RStep B q M.U M.U w1 w3.drew from ⟨HS.out.1.later (Only.refl _ _).drew, HS.out.2.trans (RStep.of_quiet (Only.refl _ _).drew)⟩)
    have dv := HF5.out.tv HX.out
    have dw := HF5.out.tw HX.out
    have dfz := HF5.out.tfrozen HX.out
    show wpStill _ _ w3.drew (fun a' => wpList _ _ _ _ a' w3.drew) _ _
    generalize w3.drew = w5 at *
    simp only [List.take_succ_cons, List.take_zero, List.drop_succ_cons, List.drop_zero]
    repeat still_step
    refine wpStill_step (fun K hK => ?_)
    go_simp
    (with_reducible refine ⟨_, kc.out _, hK _ ?_⟩)
    clear hK K
    repeat still_step
    refine wpStill_nil ?_
    have hsum : IntKind.i64.wrap ((S.T m).v + (S.T m).c) = (S.T m).v + (S.T m).c := IntWalk.i64_in _ (by omega)
    go_upto_region 13 with fail
    have HS6 := Lib.hid (show RefP B (w5.setCell ⟨b0, 3, none⟩ (.int .i64 ((S.T m).v + (S.T m).c))) q { rhead S M with T := Fr.tickT S.T m } ∧ RStep B q M.U M.U w1 (w5.setCell ⟨b0, 3, none⟩ (.int .i64 ((S.T m).v + (S.T m).c))) from by
      have hO : Only (fun k => k = b0) w5 (w5.setCell ⟨b0, 3, none⟩ (.int .i64 ((S.T m).v + (S.T m).c))) := (Only.refl (fun k => k = b0) w5).setCell (p := ⟨b0, 3, none⟩) rfl _
      have hne : q ≠ b0 := fun e => HF5.out.apart _ HX.out e.symm
      obtain ⟨q1, q2⟩ := HS5.out.1.by_fair (LF := M.LF) (W := M.W) (HF5.out.set_v HX.out ((S.T m).v + (S.T m).c)) hO (Still.of hO HS5.out.1.lt hne) (fun k _ hk => Or.inr (Or.inl (by subst hk; exact ⟨_, _, HF5.out.task _ HX.out⟩))) (fun k hk => by subst hk; exact HF5.out.from'.2 _ HX.out)
      exact ⟨q1, HS5.out.2.trans q2⟩)
    clear dv dw dfz hsum HF5 HS5 HFR v0 c0 kf kc
    generalize w5.setCell ⟨b0, 3, none⟩ _ = w6 at *
    have pc3 := HS6.out.1.pc
    have lk4 := (HS6.out.1.mc.later (Only.refl (fun _ => False) w6).drew).look (m : Int) wt.out
    rw [show ({ rhead S M with T := Fr.tickT S.T m } : RSt).C m = 1 from hc1.out] at lk4
    have kt := Lib.hid (fun W (hW : Only (fun _ => False) w6 W) => dtick_any (HS6.out.1.later hW) HL.out.d HL.out.n HL.out.ds HI.out hb true HI.out.dfit (Or.inl ⟨Or.inl rfl, rfl, rfl⟩))
    have HT := Lib.hid (show Ticked S M (ticked { rhead S M with T := Fr.tickT S.T m } (De.past S.d S.n) (S.n + 1)) from ⟨⟨rfl, rfl, rfl, rfl, rfl, rfl, rfl⟩, by rw [hts.out]; rfl, by rw [hts.out]; exact HL.out.Q, by rw [hts.out]; rfl, by rw [tickS_n]; rfl, rfl, rfl⟩)
    go_region_with (go_at_call 43; (with_reducible refine (kt.out _ (Only.refl _ _).drew).mono ?_); rintro e w4 ⟨rfl, hR, hs⟩; have HR := Lib.hid hR; have HRS := Lib.hid hs; clear hR hs)
    all_goals (
      (try go_wp2_with fail)
      go_ret
      exact ⟨ret_int HM.out.symm, _, HR.out, (((RStep.of_quiet HO.out).trans HS6.out.2).trans (RStep.of_quiet (Only.refl _ _).drew)).trans HRS.out, HT.out⟩)
  · have HG := Lib.hid (fun W (hW : Only (fun _ => False) w W) => head_2 (h.later hW) hm e)
    have HE := Lib.hid (show (rhead S M).used = 1 by rw [rhead_other e])
    have hn : ((m : Int) == M.now) = false := beq_eq_false_iff_ne.2 (by rw [hL.now, ← hm]; exact e)
    clear h hL hI e hm h1 ht hnm m1 hc0 hc
    go_enter Tryz.func16, Tryz.ntmps16
    go_upto_region 6 with (go_at_call 18; (with_reducible refine kb.out.mono ?_); rintro e w1 ⟨rfl, hO⟩; have HO := Lib.hid hO; clear hO; have cn := (H.out.later HO.out).now; have cr := (H.out.later HO.out).used; have fz := (H.out.later HO.out).frozen)
    have HS := Lib.hid (HG.out w1 HO.out)
    clear cn cr fz hn
    generalize ((w1.setCell ⟨q, 42, none⟩ (.int .i64 0)).setCell ⟨q, 41, none⟩ (.int .i64 m)).setCell ⟨q, 42, none⟩ (.int .i64 1) = w3 at *
    have HFR := Lib.hid (show Fr.RefAt B w3 q 0 44 M.LF S.T Fr.noG M.W (fun _ => 0) from HL.out.T ▸ HS.out.1.fair)
    obtain ⟨b0, hb0⟩ := HL.out.fs.all m (by omega) HC0.out
    have HX := Lib.hid hb0
    have kf := Lib.hid (ffind_yes HFR.out HL.out.fs hb0)
    have hwt := HL.out.fs.wt _ hb0
    simp only at hwt
    have kc : Hid (∀ w2, Calls Tryz.prog 41 #[.int .i64 (M.W m)] w2 fun e w' => e = .returned (.int .i64 (S.T m).c) ∧ w' = w2) := Lib.hid (fun w2 => (ref_cost (M.W m) w2 hwt.1).mono fun e w' h => ⟨by rw [hwt.2]; exact h.1, h.2.symm⟩)
    have v0 := HI.out.fit.v m (by omega)
    have c0 := HI.out.fit.c m (by omega)
    have pc3 := HS.out.1.pc
    have lk3 := HS.out.1.mc.look (m : Int) wt.out
    rw [show (rhead S M).C m = 1 from hcm] at lk3
    have lk4 := (HS.out.1.mc.later (Only.refl (fun _ => False) w3).drew).look (m : Int) wt.out
    rw [show (rhead S M).C m = 1 from hcm] at lk4
    clear hcm hb0 hwt
    go_upto_region 9 with (go_at_call 38; (with_reducible refine kf.out.mono ?_); rintro e w4 ⟨rfl, rfl⟩)
    clear lk3 lk4 pc3
    refine wp_region_still_tail 12 (by kernel_rfl) (by kernel_rfl) ?_
    have HF5 := Lib.hid (HFR.out.later (w' := w3.drew) ((Only.refl (fun _ => False) w3).drew))
    have HS5 := Lib.hid (show RefP B w3.drew q (rhead S M) ∧ RStep B q M.U M.U w1 w3.drew from ⟨HS.out.1.later (Only.refl _ _).drew, HS.out.2.trans (RStep.of_quiet (Only.refl _ _).drew)⟩)
    have dv := HF5.out.tv HX.out
    have dw := HF5.out.tw HX.out
    have dfz := HF5.out.tfrozen HX.out
    show wpStill _ _ w3.drew (fun a' => wpList _ _ _ _ a' w3.drew) _ _
    generalize w3.drew = w5 at *
    simp only [List.take_succ_cons, List.take_zero, List.drop_succ_cons, List.drop_zero]
    repeat still_step
    refine wpStill_step (fun K hK => ?_)
    go_simp
    (with_reducible refine ⟨_, kc.out _, hK _ ?_⟩)
    clear hK K
    repeat still_step
    refine wpStill_nil ?_
    have hsum : IntKind.i64.wrap ((S.T m).v + (S.T m).c) = (S.T m).v + (S.T m).c := IntWalk.i64_in _ (by omega)
    go_upto_region 13 with fail
    have HS6 := Lib.hid (show RefP B (w5.setCell ⟨b0, 3, none⟩ (.int .i64 ((S.T m).v + (S.T m).c))) q { rhead S M with T := Fr.tickT S.T m } ∧ RStep B q M.U M.U w1 (w5.setCell ⟨b0, 3, none⟩ (.int .i64 ((S.T m).v + (S.T m).c))) from by
      have hO : Only (fun k => k = b0) w5 (w5.setCell ⟨b0, 3, none⟩ (.int .i64 ((S.T m).v + (S.T m).c))) := (Only.refl (fun k => k = b0) w5).setCell (p := ⟨b0, 3, none⟩) rfl _
      have hne : q ≠ b0 := fun e => HF5.out.apart _ HX.out e.symm
      obtain ⟨q1, q2⟩ := HS5.out.1.by_fair (LF := M.LF) (W := M.W) (HF5.out.set_v HX.out ((S.T m).v + (S.T m).c)) hO (Still.of hO HS5.out.1.lt hne) (fun k _ hk => Or.inr (Or.inl (by subst hk; exact ⟨_, _, HF5.out.task _ HX.out⟩))) (fun k hk => by subst hk; exact HF5.out.from'.2 _ HX.out)
      exact ⟨q1, HS5.out.2.trans q2⟩)
    clear dv dw dfz hsum HF5 HS5 HFR v0 c0 kf kc
    generalize w5.setCell ⟨b0, 3, none⟩ _ = w6 at *
    have pc3 := HS6.out.1.pc
    have lk4 := (HS6.out.1.mc.later (Only.refl (fun _ => False) w6).drew).look (m : Int) wt.out
    rw [show ({ rhead S M with T := Fr.tickT S.T m } : RSt).C m = 1 from hc1.out] at lk4
    have kt := Lib.hid (fun W (hW : Only (fun _ => False) w6 W) => dtick_any (HS6.out.1.later hW) HL.out.d HL.out.n HL.out.ds HI.out hb true HI.out.dfit (Or.inl ⟨Or.inl rfl, rfl, rfl⟩))
    have HT := Lib.hid (show Ticked S M (ticked { rhead S M with T := Fr.tickT S.T m } (De.past S.d S.n) (S.n + 1)) from ⟨⟨rfl, rfl, rfl, rfl, rfl, rfl, rfl⟩, by rw [hts.out]; rfl, by rw [hts.out]; exact HL.out.Q, by rw [hts.out]; rfl, by rw [tickS_n]; rfl, rfl, rfl⟩)
    go_region_with (go_at_call 43; (with_reducible refine (kt.out _ (Only.refl _ _).drew).mono ?_); rintro e w4 ⟨rfl, hR, hs⟩; have HR := Lib.hid hR; have HRS := Lib.hid hs; clear hR hs)
    all_goals (
      (try go_wp2_with fail)
      go_ret
      exact ⟨ret_int HM.out.symm, _, HR.out, (((RStep.of_quiet HO.out).trans HS6.out.2).trans (RStep.of_quiet (Only.refl _ _).drew)).trans HRS.out, HT.out⟩)
set_option maxHeartbeats 2000000 in
theorem rtick_stay (h : RefP B w q M) (hL : Link S M) (hI : Inv S b) (hb : b ≤ 8000000000000) (u0 : 0 ≤ M.used) (uB : M.used ≤ 9000000000000000000) {m : Nat} (hm : best S = m) (hm16 : m ≤ 16) (h1 : De.pick S.d = 0) {v : Nat} (ht : Pr.top S.Q = some v) (hru : (rhead S M).used = (head S).row) (hz : (rhead S M).used % 3 ≠ 0) (hc : S.C m = 2) :
    Calls Tryz.prog 16 #[.pointer (some ⟨q, 0, none⟩)] w (RTick B q S M w) := by
  have H := Lib.hid h
  have HL := Lib.hid hL
  have HI := Lib.hid hI
  have HM := Lib.hid hm
  have kb := Lib.hid (rbest_any h hL hI)
  rw [hm] at kb
  have hcm := C_at hL hm16 hI
  have wt : Hid ((Lit.int .i64 (m : Int)).wf = true) := Lib.hid (i64_wf (by omega))
  rw [hc] at hcm
  have hts := Lib.hid (show tickS S = { head S with Q := S.Q, d := De.past S.d S.n, n := S.n + 1 } by unfold tickS; rw [if_neg (by simp [h1]), if_pos (by rw [ht]; simp), if_neg (by rw [← hru]; exact hz)])
  by_cases e : best S = S.now
  · have HG := Lib.hid (fun W (hW : Only (fun _ => False) w W) => head_1 (h.later hW) hm e (M.used + 1) rfl)
    have HE := Lib.hid (show (rhead S M).used = M.used + 1 by rw [rhead_same e])
    have hn : M.now = (m : Int) := by rw [hL.now, ← e]; exact hm
    have mu := Lib.hid (show M.used = M.used from rfl)
    generalize hrr : M.used = r at HG HE mu u0 uB
    clear h hL hI e hm h1 ht hru hc
    go_enter Tryz.func16, Tryz.ntmps16
    go_upto_region 6 with (go_at_call 18; (with_reducible refine kb.out.mono ?_); rintro e w1 ⟨rfl, hO⟩; have HO := Lib.hid hO; clear hO; have cn := (H.out.later HO.out).now; rw [hn] at cn; have cr := (H.out.later HO.out).used; rw [hrr] at cr; have fz := (H.out.later HO.out).frozen)
    have HS := Lib.hid (HG.out w1 HO.out)
    clear cn cr fz hn hrr
    generalize (w1.setCell ⟨q, 41, none⟩ (.int .i64 m)).setCell ⟨q, 42, none⟩ (.int .i64 (r + 1)) = w3 at *
    have pc3 := HS.out.1.pc
    have lk3 := HS.out.1.mc.look (m : Int) wt.out
    rw [show (rhead S M).C m = 2 from hcm] at lk3
    have lk4 := (HS.out.1.mc.later (Only.refl (fun _ => False) w3).drew).look (m : Int) wt.out
    rw [show (rhead S M).C m = 2 from hcm] at lk4
    have cu := HS.out.1.used
    have z0 : 0 ≤ (rhead S M).used := by rw [HE.out]; omega
    have z3 : ((rhead S M).used % 3 == 0) = false := beq_eq_false_iff_ne.2 hz
    generalize (rhead S M).used = z at cu z0 z3
    have kt := Lib.hid (fun W (hW : Only (fun _ => False) w3 W) => dtick_any (HS.out.1.later hW) HL.out.d HL.out.n HL.out.ds HI.out hb true HI.out.dfit (Or.inl ⟨Or.inl rfl, rfl, rfl⟩))
    have HT := Lib.hid (show Ticked S M (ticked (rhead S M) (De.past S.d S.n) (S.n + 1)) from ⟨⟨rfl, rfl, rfl, rfl, rfl, rfl, rfl⟩, by rw [hts.out]; exact HL.out.T, by rw [hts.out]; exact HL.out.Q, by rw [hts.out]; rfl, by rw [tickS_n]; rfl, rfl, rfl⟩)
    clear hcm hz
    go_wp2_with fail
    go_region_with (go_at_call 43; (with_reducible refine (kt.out _ (Only.refl _ _).drew).mono ?_); rintro e w4 ⟨rfl, hR, hs⟩; have HR := Lib.hid hR; have HRS := Lib.hid hs; clear hR hs)
    all_goals (
      (try go_wp2_with fail)
      go_ret
      exact ⟨ret_int HM.out.symm, _, HR.out, (((RStep.of_quiet HO.out).trans HS.out.2).trans (RStep.of_quiet (Only.refl _ _).drew)).trans HRS.out, HT.out⟩)
  · have HG := Lib.hid (fun W (hW : Only (fun _ => False) w W) => head_2 (h.later hW) hm e)
    have HE := Lib.hid (show (rhead S M).used = 1 by rw [rhead_other e])
    have hn : ((m : Int) == M.now) = false := beq_eq_false_iff_ne.2 (by rw [hL.now, ← hm]; exact e)
    clear h hL hI e hm h1 ht hru hc
    go_enter Tryz.func16, Tryz.ntmps16
    go_upto_region 6 with (go_at_call 18; (with_reducible refine kb.out.mono ?_); rintro e w1 ⟨rfl, hO⟩; have HO := Lib.hid hO; clear hO; have cn := (H.out.later HO.out).now; have cr := (H.out.later HO.out).used; have fz := (H.out.later HO.out).frozen)
    have HS := Lib.hid (HG.out w1 HO.out)
    clear cn cr fz hn
    generalize ((w1.setCell ⟨q, 42, none⟩ (.int .i64 0)).setCell ⟨q, 41, none⟩ (.int .i64 m)).setCell ⟨q, 42, none⟩ (.int .i64 1) = w3 at *
    have pc3 := HS.out.1.pc
    have lk3 := HS.out.1.mc.look (m : Int) wt.out
    rw [show (rhead S M).C m = 2 from hcm] at lk3
    have lk4 := (HS.out.1.mc.later (Only.refl (fun _ => False) w3).drew).look (m : Int) wt.out
    rw [show (rhead S M).C m = 2 from hcm] at lk4
    have cu := HS.out.1.used
    have z0 : 0 ≤ (rhead S M).used := by rw [HE.out]; omega
    have z3 : ((rhead S M).used % 3 == 0) = false := beq_eq_false_iff_ne.2 hz
    generalize (rhead S M).used = z at cu z0 z3
    have kt := Lib.hid (fun W (hW : Only (fun _ => False) w3 W) => dtick_any (HS.out.1.later hW) HL.out.d HL.out.n HL.out.ds HI.out hb true HI.out.dfit (Or.inl ⟨Or.inl rfl, rfl, rfl⟩))
    have HT := Lib.hid (show Ticked S M (ticked (rhead S M) (De.past S.d S.n) (S.n + 1)) from ⟨⟨rfl, rfl, rfl, rfl, rfl, rfl, rfl⟩, by rw [hts.out]; exact HL.out.T, by rw [hts.out]; exact HL.out.Q, by rw [hts.out]; rfl, by rw [tickS_n]; rfl, rfl, rfl⟩)
    clear hcm hz
    go_wp2_with fail
    go_region_with (go_at_call 43; (with_reducible refine (kt.out _ (Only.refl _ _).drew).mono ?_); rintro e w4 ⟨rfl, hR, hs⟩; have HR := Lib.hid hR; have HRS := Lib.hid hs; clear hR hs)
    all_goals (
      (try go_wp2_with fail)
      go_ret
      exact ⟨ret_int HM.out.symm, _, HR.out, (((RStep.of_quiet HO.out).trans HS.out.2).trans (RStep.of_quiet (Only.refl _ _).drew)).trans HRS.out, HT.out⟩)
set_option maxHeartbeats 2000000 in
theorem rtick_turn (h : RefP B w q M) (hL : Link S M) (hI : Inv S b) (hb : b ≤ 8000000000000) (u0 : 0 ≤ M.used) (uB : M.used ≤ 9000000000000000000) {m : Nat} (hm : best S = m) (hm16 : m ≤ 16) (h1 : De.pick S.d = 0) {v : Nat} (hv : v < 8) {xs : List Int} (ht : Pr.top S.Q = some v) (hq : S.Q v = (m : Int) :: xs) (hru : (rhead S M).used = (head S).row) (hz : (rhead S M).used % 3 = 0) (hc : S.C m = 2) :
    Calls Tryz.prog 16 #[.pointer (some ⟨q, 0, none⟩)] w (RTick B q S M w) := by
  have H := Lib.hid h
  have HL := Lib.hid hL
  have HI := Lib.hid hI
  have HM := Lib.hid hm
  have kb := Lib.hid (rbest_any h hL hI)
  rw [hm] at kb
  have hcm := C_at hL hm16 hI
  have wt : Hid ((Lit.int .i64 (m : Int)).wf = true) := Lib.hid (i64_wf (by omega))
  rw [hc] at hcm
  have hc1 := Lib.hid hcm
  have HQ := Lib.hid hq
  have HTOP := Lib.hid ht
  have hav := hL.inq m v hv (by rw [hq]; simp)
  have hts := Lib.hid (show tickS S = { head S with Q := turned S.Q, d := De.past S.d S.n, n := S.n + 1 } by unfold tickS; rw [if_neg (by simp [h1]), if_pos (by rw [ht]; simp), if_pos (by rw [← hru]; exact hz)])
  by_cases e : best S = S.now
  · have HG := Lib.hid (fun W (hW : Only (fun _ => False) w W) => head_1 (h.later hW) hm e (M.used + 1) rfl)
    have HE := Lib.hid (show (rhead S M).used = M.used + 1 by rw [rhead_same e])
    have hn : M.now = (m : Int) := by rw [hL.now, ← e]; exact hm
    have mu := Lib.hid (show M.used = M.used from rfl)
    generalize hrr : M.used = r at HG HE mu u0 uB
    clear h hL hI e hm h1 ht hq hru hc
    go_enter Tryz.func16, Tryz.ntmps16
    go_upto_region 6 with (go_at_call 18; (with_reducible refine kb.out.mono ?_); rintro e w1 ⟨rfl, hO⟩; have HO := Lib.hid hO; clear hO; have cn := (H.out.later HO.out).now; rw [hn] at cn; have cr := (H.out.later HO.out).used; rw [hrr] at cr; have fz := (H.out.later HO.out).frozen)
    have HS := Lib.hid (HG.out w1 HO.out)
    clear cn cr fz hn hrr
    generalize (w1.setCell ⟨q, 41, none⟩ (.int .i64 m)).setCell ⟨q, 42, none⟩ (.int .i64 (r + 1)) = w3 at *
    have pc3 := HS.out.1.pc
    have lk3 := HS.out.1.mc.look (m : Int) wt.out
    rw [show (rhead S M).C m = 2 from hcm] at lk3
    have lk4 := (HS.out.1.mc.later (Only.refl (fun _ => False) w3).drew).look (m : Int) wt.out
    rw [show (rhead S M).C m = 2 from hcm] at lk4
    have cu := HS.out.1.used
    have z0 : 0 ≤ (rhead S M).used := by rw [HE.out]; omega
    have z3 : ((rhead S M).used % 3 == 0) = true := by rw [hz]; rfl
    generalize (rhead S M).used = z at cu z0 z3
    have pv4 := (HS.out.1.later (Only.refl (fun _ => False) w3).drew).pv
    have lkv := (HS.out.1.mv.later (Only.refl (fun _ => False) w3).drew).look (m : Int) wt.out
    rw [show (rhead S M).A m = v from hav] at lkv
    have kT := Lib.hid (fun W (hW : Only (fun _ => False) w3 W) => Pr.ref_turn (show Pr.QAt W q 28 44 (rhead S M).U S.Q from HL.out.Q ▸ (HS.out.1.later hW).prio) (fun j hj => by have := HI.out.uniq.len hj; omega) v hv (m : Int) xs HQ.out)
    have HTN := Lib.hid (show Pr.upd (Pr.goneTo S.Q (m : Int) 8) v (Pr.sans (m : Int) (S.Q v) ++ [(m : Int)]) = turned S.Q from by
      rw [(HI.out.uniq.turn hv HQ.out).1]; unfold turned; rw [HTOP.out]; simp only [HQ.out]; rfl)
    clear hcm hz hav
    go_upto_region 12 with fail
    clear lk3 lk4 pc3 cu z0 z3
    go_region_with (go_at_call 42; (with_reducible refine (kT.out _ (Only.refl _ _).drew).mono ?_); rintro e w4 ⟨rfl, U4, hq4, hs4⟩; rw [HTN.out] at hq4; have HS4 := Lib.hid (show RefP B w4 q { rhead S M with U := U4, Q := turned S.Q } ∧ RStep B q M.U U4 w1 w4 from by
      obtain ⟨q1, q2⟩ := (HS.out.1.later (Only.refl (fun _ => False) w3).drew).by_prio (by have := HS.out.1.low.1; have := (nums_map HS.out.1.mc).lt; simp; omega) hq4 hs4
      exact ⟨q1, (HS.out.2.trans (RStep.of_quiet (Only.refl _ _).drew)).trans q2⟩); clear hq4 hs4)
    all_goals (
      have pc3 := HS4.out.1.pc
      have lk4 := (HS4.out.1.mc.later (Only.refl (fun _ => False) w4).drew).look (m : Int) wt.out
      rw [show ({ rhead S M with U := U4, Q := turned S.Q } : RSt).C m = 2 from hc1.out] at lk4
      have kt := Lib.hid (fun W (hW : Only (fun _ => False) w4 W) => dtick_any (HS4.out.1.later hW) HL.out.d HL.out.n HL.out.ds HI.out hb true HI.out.dfit (Or.inl ⟨Or.inl rfl, rfl, rfl⟩))
      have HT := Lib.hid (show Ticked S M (ticked { rhead S M with U := U4, Q := turned S.Q } (De.past S.d S.n) (S.n + 1)) from ⟨⟨rfl, rfl, rfl, rfl, rfl, rfl, rfl⟩, by rw [hts.out]; exact HL.out.T, by rw [hts.out]; rfl, by rw [hts.out]; rfl, by rw [tickS_n]; rfl, rfl, rfl⟩)
      go_wp2_with fail
      go_region_with (go_at_call 43; (with_reducible refine (kt.out _ (Only.refl _ _).drew).mono ?_); rintro e w6 ⟨rfl, hR, hs⟩; have HR := Lib.hid hR; have HRS := Lib.hid hs; clear hR hs)
      all_goals (
        (try go_wp2_with fail)
        go_ret
        exact ⟨ret_int HM.out.symm, _, HR.out, (((RStep.of_quiet HO.out).trans HS4.out.2).trans (RStep.of_quiet (Only.refl _ _).drew)).trans HRS.out, HT.out⟩))
  · have HG := Lib.hid (fun W (hW : Only (fun _ => False) w W) => head_2 (h.later hW) hm e)
    have HE := Lib.hid (show (rhead S M).used = 1 by rw [rhead_other e])
    have hn : ((m : Int) == M.now) = false := beq_eq_false_iff_ne.2 (by rw [hL.now, ← hm]; exact e)
    clear h hL hI e hm h1 ht hq hru hc
    go_enter Tryz.func16, Tryz.ntmps16
    go_upto_region 6 with (go_at_call 18; (with_reducible refine kb.out.mono ?_); rintro e w1 ⟨rfl, hO⟩; have HO := Lib.hid hO; clear hO; have cn := (H.out.later HO.out).now; have cr := (H.out.later HO.out).used; have fz := (H.out.later HO.out).frozen)
    have HS := Lib.hid (HG.out w1 HO.out)
    clear cn cr fz hn
    generalize ((w1.setCell ⟨q, 42, none⟩ (.int .i64 0)).setCell ⟨q, 41, none⟩ (.int .i64 m)).setCell ⟨q, 42, none⟩ (.int .i64 1) = w3 at *
    have pc3 := HS.out.1.pc
    have lk3 := HS.out.1.mc.look (m : Int) wt.out
    rw [show (rhead S M).C m = 2 from hcm] at lk3
    have lk4 := (HS.out.1.mc.later (Only.refl (fun _ => False) w3).drew).look (m : Int) wt.out
    rw [show (rhead S M).C m = 2 from hcm] at lk4
    have cu := HS.out.1.used
    have z0 : 0 ≤ (rhead S M).used := by rw [HE.out]; omega
    have z3 : ((rhead S M).used % 3 == 0) = true := by rw [hz]; rfl
    generalize (rhead S M).used = z at cu z0 z3
    have pv4 := (HS.out.1.later (Only.refl (fun _ => False) w3).drew).pv
    have lkv := (HS.out.1.mv.later (Only.refl (fun _ => False) w3).drew).look (m : Int) wt.out
    rw [show (rhead S M).A m = v from hav] at lkv
    have kT := Lib.hid (fun W (hW : Only (fun _ => False) w3 W) => Pr.ref_turn (show Pr.QAt W q 28 44 (rhead S M).U S.Q from HL.out.Q ▸ (HS.out.1.later hW).prio) (fun j hj => by have := HI.out.uniq.len hj; omega) v hv (m : Int) xs HQ.out)
    have HTN := Lib.hid (show Pr.upd (Pr.goneTo S.Q (m : Int) 8) v (Pr.sans (m : Int) (S.Q v) ++ [(m : Int)]) = turned S.Q from by
      rw [(HI.out.uniq.turn hv HQ.out).1]; unfold turned; rw [HTOP.out]; simp only [HQ.out]; rfl)
    clear hcm hz hav
    go_upto_region 12 with fail
    clear lk3 lk4 pc3 cu z0 z3
    go_region_with (go_at_call 42; (with_reducible refine (kT.out _ (Only.refl _ _).drew).mono ?_); rintro e w4 ⟨rfl, U4, hq4, hs4⟩; rw [HTN.out] at hq4; have HS4 := Lib.hid (show RefP B w4 q { rhead S M with U := U4, Q := turned S.Q } ∧ RStep B q M.U U4 w1 w4 from by
      obtain ⟨q1, q2⟩ := (HS.out.1.later (Only.refl (fun _ => False) w3).drew).by_prio (by have := HS.out.1.low.1; have := (nums_map HS.out.1.mc).lt; simp; omega) hq4 hs4
      exact ⟨q1, (HS.out.2.trans (RStep.of_quiet (Only.refl _ _).drew)).trans q2⟩); clear hq4 hs4)
    all_goals (
      have pc3 := HS4.out.1.pc
      have lk4 := (HS4.out.1.mc.later (Only.refl (fun _ => False) w4).drew).look (m : Int) wt.out
      rw [show ({ rhead S M with U := U4, Q := turned S.Q } : RSt).C m = 2 from hc1.out] at lk4
      have kt := Lib.hid (fun W (hW : Only (fun _ => False) w4 W) => dtick_any (HS4.out.1.later hW) HL.out.d HL.out.n HL.out.ds HI.out hb true HI.out.dfit (Or.inl ⟨Or.inl rfl, rfl, rfl⟩))
      have HT := Lib.hid (show Ticked S M (ticked { rhead S M with U := U4, Q := turned S.Q } (De.past S.d S.n) (S.n + 1)) from ⟨⟨rfl, rfl, rfl, rfl, rfl, rfl, rfl⟩, by rw [hts.out]; exact HL.out.T, by rw [hts.out]; rfl, by rw [hts.out]; rfl, by rw [tickS_n]; rfl, rfl, rfl⟩)
      go_wp2_with fail
      go_region_with (go_at_call 43; (with_reducible refine (kt.out _ (Only.refl _ _).drew).mono ?_); rintro e w6 ⟨rfl, hR, hs⟩; have HR := Lib.hid hR; have HRS := Lib.hid hs; clear hR hs)
      all_goals (
        (try go_wp2_with fail)
        go_ret
        exact ⟨ret_int HM.out.symm, _, HR.out, (((RStep.of_quiet HO.out).trans HS4.out.2).trans (RStep.of_quiet (Only.refl _ _).drew)).trans HRS.out, HT.out⟩))
end
end Go.Proofs.YtpincdcebhmnhaaGreat.Rk
