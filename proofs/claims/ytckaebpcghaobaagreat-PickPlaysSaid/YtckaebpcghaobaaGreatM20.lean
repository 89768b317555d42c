/- Texts of this claim, merged: RkLeave, RkAdd1, NumAs, RkAdd2, OFSnoc, RkAdd3, ODSnoc. -/
import Derived.Test.YtckaebpcghaobaaGreatM19
import Derived.Test.YtckaebpcghaobaaGreatM16
import Derived.Test.YtckaebpcghaobaaGreatM18
import Derived.Test.YtckaebpcghaobaaGreatM12
import Derived.Test.YtckaebpcghaobaaGreatM15
import Derived.Deep.RegionLaw
/- The reference of one processor's scheduler: a task leaves. -/
namespace Go.Proofs.YtckaebpcghaobaaGreat.Rk
open Go.ChangeShapes Go.WideShapes Go.ChangeAt Go.RowKit Go.Maps
open Go.Proofs.YtckaebpcghaobaaGreat.Of Go.Proofs.YtckaebpcghaobaaGreat.Pk Go.Proofs.YtckaebpcghaobaaGreat.Vt
set_option linter.unusedVariables false
set_option maxRecDepth 100000

/-- A box with a number that is no part of the reference. -/
structure Lb (w : World) (q : Nat) (U : Nat → Value) (lb : Nat) (x : Int) : Prop where
  cell : w.cell? ⟨lb, 0, none⟩ = some (.int .i64 x)
  kind : Kind w lb 3
  far : ¬ Pr.Foot q U lb

section
variable {B : Nat} {w w' : World} {q : Nat} {M : RSt} {S : St} {b : Int}

theorem Lb.step {U U' : Nat → Value} {lb : Nat} {x : Int} (h : Lb w q U lb x) (hs : RStep B q U U' w w') : Lb w' q U' lb x := by
  have hn : ¬ RFoot w q U lb := fun e => by
    rcases e with e | e | e | e | e | e
    · exact h.far e
    · exact absurd (h.kind.one e) (by decide)
    · exact absurd (h.kind.one e) (by decide)
    · exact absurd (h.kind.one e) (by decide)
    · exact absurd (h.kind.one e) (by decide)
    · exact h.kind.no_map e
  have hb := hs.only.block lb h.kind.lt hn
  obtain ⟨cs, fr, hc⟩ := h.kind
  refine ⟨(Pr.cell_kept hs.only h.kind.lt hn).trans h.cell, ⟨cs, fr, hb.trans hc⟩, fun e => ?_⟩
  rcases hs.grow lb e with e | e
  · exact h.far e
  · have := h.kind.lt; omega
theorem Lb.made (h : RefP B w q M) (x : Int) : Lb (w.alloc (.cells #[.int .i64 x] 3)) q M.U w.heap.size x := by
  have hb := heap_alloc_new w (.cells #[.int .i64 x] 3)
  refine ⟨by rw [cell_at hb]; rfl, ⟨_, _, hb⟩, fun e => ?_⟩
  rcases e with e | ⟨i, hi, e⟩
  · have := h.lt; omega
  · have := (h.row_kind hi e).lt; omega

/-- The tasks of fair shares without one. -/
theorem cut_fair (h : RefP B w q M) (hs : Fr.Same M.LF M.T Fr.noG M.W (fun _ => 0)) {lb k : Nat} (hb : Lb w q M.U lb k) (hk : k < 17) : ∃ V, w.cell? ⟨q, 0, none⟩ = some V ∧
    Calls Tryz.prog 33 #[V, .func (.func 34) #[] #[.pointer (some ⟨lb, 0, none⟩)]] w (fun e w' => ∃ v1 v2 v3 L2, e = .returned (.slice v1 v2 v3) ∧ w'.cell? ⟨q, 0, none⟩ = some V ∧ w'.frozen? ⟨q, 0, none⟩ = false ∧
      RefP B (w'.setCell ⟨q, 0, none⟩ (.slice v1 v2 v3)) q { M with LF := L2, T := Fr.outT M.T k } ∧ RStep B q M.U M.U w (w'.setCell ⟨q, 0, none⟩ (.slice v1 v2 v3)) ∧ Fr.Same L2 (Fr.outT M.T k) Fr.noG M.W (fun _ => 0)) := by
  obtain ⟨V, c0, hrow, hap⟩ := h.fair.slice
  have bd : ∀ g, V.ownBlock = some g → B ≤ g := fun g hg => own_low hrow hg
  have kd : ∀ g, V.ownBlock = some g → Kind w g 80 := fun g hg => by obtain ⟨cur, hc⟩ := owns_type hrow hg; exact ⟨cur, _, hc⟩
  refine ⟨V, c0, (Fr.del_any h.fair hs k hk c0 hb.cell (fun e => absurd (hb.kind.one (kd lb e)) (by decide))).mono ?_⟩
  rintro e w' ⟨v1, v2, v3, L2, rfl, k1, k2, k3, k4, k5, k6⟩
  have st : Still q 0 28 w (w'.setCell ⟨q, 0, none⟩ (.slice v1 v2 v3)) := (Still.of k6 h.lt (fun e => (hap q e).1 rfl)).set (by omega) (.slice v1 v2 v3)
  obtain ⟨q1, q2⟩ := h.by_fair (LF := L2) (W := M.W) k3 k5 st (fun x _ hx => hx.elim Or.inl (fun e => Or.inr (Or.inr (kd x e)))) (fun x hx => hx.elim (fun e => by subst e; exact h.fair.from'.1) (bd x))
  exact ⟨v1, v2, v3, L2, rfl, k1, k2, q1, q2, k4⟩
/-- The tasks of deadlines without one. -/
theorem cut_dead (h : RefP B w q M) (hs : De.Same M.LD M.d) {lb k : Nat} (hb : Lb w q M.U lb k) (hk : k < 17) : ∃ V, w.cell? ⟨q, 37, none⟩ = some V ∧
    Calls Tryz.prog 36 #[V, .func (.func 37) #[] #[.pointer (some ⟨lb, 0, none⟩)]] w (fun e w' => ∃ v1 v2 v3 L2, e = .returned (.slice v1 v2 v3) ∧ w'.cell? ⟨q, 37, none⟩ = some V ∧ w'.frozen? ⟨q, 37, none⟩ = false ∧
      RefP B (w'.setCell ⟨q, 37, none⟩ (.slice v1 v2 v3)) q { M with LD := L2, d := De.outT M.d k } ∧ RStep B q M.U M.U w (w'.setCell ⟨q, 37, none⟩ (.slice v1 v2 v3)) ∧ De.Same L2 (De.outT M.d k)) := by
  obtain ⟨V, c0, hrow, hap⟩ := h.dead.slice
  have bd : ∀ g, V.ownBlock = some g → B ≤ g := fun g hg => own_low hrow hg
  have kd : ∀ g, V.ownBlock = some g → Kind w g 84 := fun g hg => by obtain ⟨cur, hc⟩ := owns_type hrow hg; exact ⟨cur, _, hc⟩
  refine ⟨V, c0, (De.del_any h.dead hs k hk c0 hb.cell (fun e => absurd (hb.kind.one (kd lb e)) (by decide))).mono ?_⟩
  rintro e w' ⟨v1, v2, v3, L2, rfl, k1, k2, k3, k4, k5, k6⟩
  have st : Still q 36 2 w (w'.setCell ⟨q, 37, none⟩ (.slice v1 v2 v3)) := (Still.of k6 h.lt (fun e => (hap q e).1 rfl)).set (by omega) (.slice v1 v2 v3)
  obtain ⟨q1, q2⟩ := h.by_dead (LD := L2) (n := M.n) k3 k5 st (fun x _ hx => hx.elim Or.inl (fun e => Or.inr (Or.inr (kd x e)))) (fun x hx => hx.elim (fun e => by subst e; exact h.fair.from'.1) (bd x))
  exact ⟨v1, v2, v3, L2, rfl, k1, k2, q1, q2, k4⟩

/-- What such a call leaves of the reference. -/
structure Went (M M' : RSt) (k : Nat) : Prop where
  T : M'.T = Fr.outT M.T k
  Q : M'.Q = Pr.goneTo M.Q (k : Int) 8
  d : M'.d = De.outT M.d k
  n : M'.n = M.n
  W : M'.W = M.W
  fs : Fr.Same M'.LF (Fr.outT M.T k) Fr.noG M.W (fun _ => 0)
  ds : De.Same M'.LD (De.outT M.d k)
  C : M'.C = updN M.C k 0
  A : M'.A = M.A
  f : M'.f = M.f
  c : M'.c = M.c + 1
  now : M'.now = if M.now = k then 0 else M.now
  used : M'.used = if M.now = k then 0 else M.used
def RLeft (B q : Nat) (M : RSt) (k : Nat) (w : World) (e : Ending) (w' : World) : Prop := e = .returned (.int .i64 0) ∧ ∃ M', RefP B w' q M' ∧ RStep B q M.U M'.U w w' ∧ Went M M' k

theorem link_left {M' : RSt} (hL : Link S M) {k : Nat} (h1 : 1 ≤ k) (h2 : k ≤ 16) (h : Went M M' k) : Link (left S k) M' := by
  have ne : ∀ {j : Nat}, (left S k).C j ≠ 0 → j ≠ k ∧ S.C j ≠ 0 := fun {j} hc => by
    change Pr.upd S.C k 0 j ≠ 0 at hc
    by_cases e : j = k
    · subst e; rw [Pr.upd_same] at hc; exact absurd rfl hc
    · rw [Pr.upd_other _ _ e] at hc; exact ⟨e, hc⟩
  refine ⟨h.T.trans (by rw [hL.T]; rfl), h.Q.trans (by rw [hL.Q]; rfl), h.d.trans (by rw [hL.d]; rfl), h.n.trans hL.n, ?_, ?_, fun t => ?_, fun j j1 j2 hc => ?_, fun j v hv hm => ?_, fun j j1 j2 hc hm => ?_, ?_, fun h0 => ?_⟩
  · have := h.fs; rw [hL.T] at this; rw [h.W]; exact this
  · have := h.ds; rw [hL.d] at this; exact this
  · rw [h.C]
    show updN M.C k 0 t = if 1 ≤ t ∧ t ≤ 16 then Pr.upd S.C k 0 t.toNat else 0
    unfold updN
    by_cases e : t = k
    · subst e; rw [if_pos rfl, if_pos (by omega)]; simp [Pr.upd_same]
    · rw [if_neg e, hL.C t]
      by_cases e2 : 1 ≤ t ∧ t ≤ 16
      · rw [if_pos e2, if_pos e2, Pr.upd_other _ _ (by omega)]
      · rw [if_neg e2, if_neg e2]
  · obtain ⟨a1, a2⟩ := ne hc
    rw [h.f, ready_left, if_neg a1]; exact hL.off j j1 j2 a2
  · rw [h.A]; exact hL.inq j v hv ((mem_gone hv).1 hm).1
  · obtain ⟨a1, a2⟩ := ne (j := j) (by omega)
    have a3 : S.C j = 2 := by
      change Pr.upd S.C k 0 j = 2 at hc
      rw [Pr.upd_other _ _ a1] at hc; exact hc
    rw [h.A]; exact hL.outq j j1 j2 a3 (fun v hv hm2 => hm v hv ((mem_gone hv).2 ⟨hm2, by omega⟩))
  · rw [h.now, hL.now]; rfl
  · change (if S.now = (k : Int) then 0 else S.now) ≠ 0 at h0
    by_cases e : S.now = k
    · rw [if_pos e] at h0; exact absurd rfl h0
    · rw [if_neg e] at h0
      rw [h.used, hL.now, if_neg e]; exact hL.used h0

theorem rleave_free (h : RefP B w q M) (hL : Link S M) (t : Int) (wt0 : (Lit.int .i64 t).wf = true) (hf : Free S t) :
    Calls Tryz.prog 12 #[.pointer (some ⟨q, 0, none⟩), .int .i64 t] w (fun e w' => e = .returned (.int .i64 4) ∧ Only (fun _ => False) w w') := by
  have hO := Lib.hid ((Only.refl (fun _ => False) w).alloc (.cells #[.int .i64 t] 3)).drew
  have h2 := h.later hO.out
  have pc := h2.pc
  have cb := (Lb.made h t).cell
  have lc := h2.mc.look t wt0
  rw [show M.C t = 0 from by
    rw [hL.C]; unfold Free at hf
    by_cases e : 1 ≤ t ∧ t ≤ 16
    · rw [if_pos e]; omega
    · rw [if_neg e]] at lc
  clear h hL hf h2
  go_enter Tryz.func12, Tryz.ntmps12
  go_wp2_with fail
  go_region
  all_goals (
    (try go_wp2_with fail)
    go_ret
    exact ⟨rfl, hO.out⟩)

set_option maxHeartbeats 4000000 in
theorem rleave_yes (h : RefP B w q M) (hL : Link S M) (hI : Inv S b) (hc9 : M.c < 9000000000000000000) {k : Nat} (h1 : 1 ≤ k) (h2 : k ≤ 16) (hc : S.C k ≠ 0) :
    Calls Tryz.prog 12 #[.pointer (some ⟨q, 0, none⟩), .int .i64 k] w (RLeft B q M k w) := by
  have wt : Hid ((Lit.int .i64 (k : Int)).wf = true) := Lib.hid (i64_wf (by omega))
  have hO := Lib.hid ((Only.refl (fun _ => False) w).alloc (.cells #[.int .i64 (k : Int)] 3)).drew
  have H0 := Lib.hid (h.later hO.out)
  have LB0 := Lib.hid ((Lb.made h (k : Int)).step (B := B) (RStep.of_quiet ((Only.refl (fun _ => False) (w.alloc (.cells #[.int .i64 (k : Int)] 3))).drew)))
  have lc := H0.out.mc.look (k : Int) wt.out
  rw [C_at hL h2 hI] at lc
  have e0 : (S.C k == 0) = false := beq_eq_false_iff_ne.2 hc
  generalize S.C k = c0 at lc e0
  obtain ⟨VF, cf, KF⟩ := cut_fair H0.out (by rw [hL.T]; exact hL.fs) LB0.out (by omega)
  have KF := Lib.hid KF
  have KD := Lib.hid (fun (W : World) (M1 : RSt) (hH : RefP B W q M1) (hd : M1.LD = M.LD ∧ M1.d = M.d) (hb : Lb W q M1.U w.heap.size k) => cut_dead hH (by rw [hd.1, hd.2, hL.d]; exact hL.ds) hb (by omega))
  have KG := Lib.hid (fun (W : World) (M1 : RSt) (hH : RefP B W q M1) (hM : M1.Q = M.Q) => Pr.go_any (show Pr.QAt W q 28 44 M1.U M.Q from by have := hH.prio; rw [hM] at this; exact this) (fun j hj => by have := hI.uniq.len hj; rw [hL.Q]; omega) (k : Int))
  have HCN := Lib.hid hc9
  have S0 := Lib.hid (show RStep B q M.U M.U w _ from RStep.of_quiet hO.out)
  clear h hL hI hc9 hc
  go_enter Tryz.func12, Tryz.ntmps12
  go_wp2_with fail
  refine wp_region_still_tail 5 (by kernel_rfl) (by kernel_rfl) ?_
  show wpStill _ _ (w.alloc (.cells #[.int .i64 (k : Int)] 3)).drew (fun a' => wpList _ _ _ _ a' (w.alloc (.cells #[.int .i64 (k : Int)] 3)).drew) _ _
  generalize (w.alloc (.cells #[.int .i64 (k : Int)] 3)).drew = w0 at *
  have cb := LB0.out.cell
  have pc := H0.out.pc
  simp only [List.take_succ_cons, List.take_zero, List.drop_succ_cons, List.drop_zero]
  repeat still_step
  refine wpStill_nil ?_
  go_wp2_with (go_at_call 33; (with_reducible refine KF.out.mono ?_); rintro e w1 ⟨v1, v2, v3, L2, rfl, k1, k2, k3, k4, k5⟩; have H1 := Lib.hid k3; have S1 := Lib.hid k4; have F1 := Lib.hid k5; have LB1 := Lib.hid (LB0.out.step k4); clear k3 k4 k5)
  have hd1 := (Only.refl (fun _ => False) (w1.setCell ⟨q, 0, none⟩ (.slice v1 v2 v3))).drew
  have H2 := Lib.hid (H1.out.later hd1)
  have LB2 := Lib.hid (LB1.out.step (B := B) (RStep.of_quiet hd1))
  have S2 := Lib.hid (S1.out.trans (RStep.of_quiet hd1))
  clear H1 LB1 S1 hd1 k1 k2 cf cb pc KF LB0
  refine wp_region_still_tail 4 (by kernel_rfl) (by kernel_rfl) ?_
  show wpStill _ _ (w1.setCell ⟨q, 0, none⟩ (.slice v1 v2 v3)).drew (fun a' => wpList _ _ _ _ a' (w1.setCell ⟨q, 0, none⟩ (.slice v1 v2 v3)).drew) _ _
  generalize (w1.setCell ⟨q, 0, none⟩ (.slice v1 v2 v3)).drew = w2 at *
  have cb := LB2.out.cell
  simp only [List.take_succ_cons, List.take_zero, List.drop_succ_cons, List.drop_zero]
  repeat still_step
  refine wpStill_nil ?_
  go_wp2_with (first
    | (go_at_call 35; (with_reducible refine (KG.out _ _ H2.out rfl).mono ?_); rintro e w3 ⟨rfl, U2, hq2, hs2⟩; obtain ⟨q1, q2⟩ := H2.out.by_prio (by have := H2.out.low.1; have := (nums_map H2.out.mc).lt; omega) hq2 hs2; have H3 := Lib.hid q1; have S3 := Lib.hid q2; have LB3 := Lib.hid (LB2.out.step q2); obtain ⟨VD, cd, KDD⟩ := KD.out _ _ q1 ⟨rfl, rfl⟩ LB3.out; have KDD := Lib.hid KDD; clear hq2 hs2 q1 q2)
    | (go_at_call 36; (with_reducible refine KDD.out.mono ?_); rintro e w4 ⟨u1, u2, u3, L3, rfl, d1, d2, d3, d4, d5⟩; have H4 := Lib.hid d3; have S4 := Lib.hid d4; have F4 := Lib.hid d5; have LB4 := Lib.hid (LB3.out.step d4); clear d3 d4 d5))
  have hd4 := (Only.refl (fun _ => False) (w4.setCell ⟨q, 37, none⟩ (.slice u1 u2 u3))).drew
  have H5 := Lib.hid (H4.out.later hd4)
  have LB5 := Lib.hid (LB4.out.step (B := B) (RStep.of_quiet hd4))
  have S5 := Lib.hid (S4.out.trans (RStep.of_quiet hd4))
  clear H4 LB4 S4 hd4 d1 d2 cd cb KDD KD KG LB2 LB3
  refine wp_region_still_tail 5 (by kernel_rfl) (by kernel_rfl) ?_
  show wpStill _ _ (w4.setCell ⟨q, 37, none⟩ (.slice u1 u2 u3)).drew (fun a' => wpList _ _ _ _ a' (w4.setCell ⟨q, 37, none⟩ (.slice u1 u2 u3)).drew) _ _
  generalize (w4.setCell ⟨q, 37, none⟩ (.slice u1 u2 u3)).drew = w5 at *
  have cb := LB5.out.cell
  have pc := H5.out.pc
  simp only [List.take_succ_cons, List.take_zero, List.drop_succ_cons, List.drop_zero]
  repeat still_step
  refine wpStill_nil ?_
  refine wpList_num rfl _ _ _ rfl M.kc M.c M.C rfl H5.out.mc HCN.out (k : Int) 0 rfl rfl wt.out (by rfl) ?_
  intro w6 hM6 hO6
  obtain ⟨q1, q2⟩ := H5.out.maps (hO6.mono (fun _ _ e => Or.inl e)) hM6 ((H5.out.mv.keep hO6 (fun e => H5.out.k1 e.symm)).mono (Nat.le_succ _)) ((H5.out.mo.keep hO6 (fun e => H5.out.k2 e.symm)).mono (Nat.le_succ _))
  have H6 := Lib.hid q1
  have S6 := Lib.hid (S0.out.trans (S2.out.trans (S3.out.trans (S5.out.trans q2))))
  have LB6 := Lib.hid (LB5.out.step q2)
  clear hM6 hO6 q1 q2 S0 S2 S3 S5 LB5 pc cb H0 H2 H3 H5
  have cb := LB6.out.cell
  have cn : w6.cell? ⟨q, 41, none⟩ = some (.int .i64 M.now) := H6.out.now
  have cu : w6.cell? ⟨q, 42, none⟩ = some (.int .i64 M.used) := H6.out.used
  have cz := H6.out.fair.frozen
  by_cases e : M.now = k
  · have q0 : (M.now == (k : Int)) = true := beq_iff_eq.2 e
    go_wp2_with fail
    go_quiet (fail)
    go_wp2_with fail
    go_ret
    have hdn := fun n => only_drewN (Only.refl (fun _ => False) w6) n
    have st : ∀ n, ∃ M', RefP B (((w6.drewN n).setCell ⟨q, 41, none⟩ (.int .i64 0)).setCell ⟨q, 42, none⟩ (.int .i64 0)) q M' ∧ RStep B q M.U M'.U w (((w6.drewN n).setCell ⟨q, 41, none⟩ (.int .i64 0)).setCell ⟨q, 42, none⟩ (.int .i64 0)) ∧ Went M M' k := fun n => by
      obtain ⟨a1, a2⟩ := (H6.out.later (hdn n)).set_last 41 (Or.inl rfl) 0
      obtain ⟨b1, b2⟩ := a1.set_last 42 (Or.inr rfl) 0
      exact ⟨_, b1, S6.out.trans ((RStep.of_quiet (hdn n)).trans (a2.trans b2)), ⟨rfl, rfl, rfl, rfl, rfl, F1.out, F4.out, rfl, rfl, rfl, rfl, by rw [if_pos e]; rfl, by rw [if_pos e]; rfl⟩⟩
    exact ⟨rfl, st _⟩
  · have q0 : (M.now == (k : Int)) = false := beq_eq_false_iff_ne.2 e
    go_wp2_with fail
    go_quiet (fail)
    go_wp2_with fail
    go_ret
    have hdn := fun n => only_drewN (Only.refl (fun _ => False) w6) n
    have st : ∀ n, ∃ M', RefP B (w6.drewN n) q M' ∧ RStep B q M.U M'.U w (w6.drewN n) ∧ Went M M' k := fun n =>
      ⟨_, H6.out.later (hdn n), S6.out.trans (RStep.of_quiet (hdn n)), ⟨rfl, rfl, rfl, rfl, rfl, F1.out, F4.out, rfl, rfl, rfl, rfl, by rw [if_neg e], by rw [if_neg e]⟩⟩
    exact ⟨rfl, st _⟩
end
end Go.Proofs.YtckaebpcghaobaaGreat.Rk
/- The reference of one processor's scheduler: a task that may not come. -/
namespace Go.Proofs.YtckaebpcghaobaaGreat.Rk
open Go.ChangeShapes Go.WideShapes Go.ChangeAt Go.RowKit Go.Maps
open Go.Proofs.YtckaebpcghaobaaGreat.Of Go.Proofs.YtckaebpcghaobaaGreat.Pk Go.Proofs.YtckaebpcghaobaaGreat.Vt
set_option linter.unusedVariables false
set_option maxRecDepth 100000

section
variable {B : Nat} {w w' : World} {q : Nat} {M : RSt} {S : St} {b : Int}

theorem C_free (hL : Link S M) {t : Int} (hf : Free S t) : M.C t = 0 := by
  rw [hL.C]; unfold Free at hf
  by_cases e : 1 ≤ t ∧ t ≤ 16
  · rw [if_pos e]; omega
  · rw [if_neg e]

theorem radd_there (h : RefP B w q M) (hL : Link S M) (hI : Inv S b) {k : Nat} (h1 : 1 ≤ k) (h2 : k ≤ 16) (hc : S.C k ≠ 0) (cl x y : Int) :
    Calls Tryz.prog 10 #[.pointer (some ⟨q, 0, none⟩), .int .i64 cl, .int .i64 k, .int .i64 x, .int .i64 y] w (fun e w' => e = .returned (.int .i64 5) ∧ w = w') := by
  have wt : (Lit.int .i64 (k : Int)).wf = true := i64_wf (by omega)
  have pc := h.pc
  have lc := h.mc.look (k : Int) wt
  rw [C_at hL h2 hI] at lc
  have g0 : 0 < S.C k := by rcases hI.cls k (by omega) with c | c | c | c <;> omega
  generalize S.C k = c at lc g0
  clear h hL hI hc wt
  go_enter Tryz.func10, Tryz.ntmps10
  go_wp2_with fail
  go_ret
  exact ⟨rfl, rfl⟩

theorem radd_num (h : RefP B w q M) (t : Int) (wt0 : (Lit.int .i64 t).wf = true) (hc : M.C t = 0) (hn : isN t = false) (cl x y : Int) :
    Calls Tryz.prog 10 #[.pointer (some ⟨q, 0, none⟩), .int .i64 cl, .int .i64 t, .int .i64 x, .int .i64 y] w (fun e w' => e = .returned (.int .i64 1) ∧ w = w') := by
  have pc := h.pc
  have lc := h.mc.look t wt0
  rw [hc] at lc
  have kt := Lib.hid (ref_task t w)
  rw [hn] at kt
  clear h hc hn
  go_enter Tryz.func10, Tryz.ntmps10
  go_wp2_with (go_at_call 30; (with_reducible refine kt.out.mono ?_); rintro e w' ⟨rfl, rfl⟩)
  go_ret
  exact ⟨rfl, rfl⟩

theorem radd_bad1 (h : RefP B w q M) (t : Int) (wt0 : (Lit.int .i64 t).wf = true) (hc : M.C t = 0) (hn : isN t = true) (x y : Int) (hx : isW x = false) :
    Calls Tryz.prog 10 #[.pointer (some ⟨q, 0, none⟩), .int .i64 1, .int .i64 t, .int .i64 x, .int .i64 y] w (fun e w' => e = .returned (.int .i64 1) ∧ w = w') := by
  have pc := h.pc
  have lc := h.mc.look t wt0
  rw [hc] at lc
  have kt := Lib.hid (ref_task t w)
  rw [hn] at kt
  have kw := Lib.hid (ref_weight x w)
  rw [hx] at kw
  clear h hc hn hx
  go_enter Tryz.func10, Tryz.ntmps10
  go_wp2_with (first
    | (go_at_call 30; (with_reducible refine kt.out.mono ?_); rintro e w' ⟨rfl, rfl⟩)
    | (go_at_call 31; (with_reducible refine kw.out.mono ?_); rintro e w' ⟨rfl, rfl⟩))
  go_ret
  exact ⟨rfl, rfl⟩

theorem radd_bad2 (h : RefP B w q M) (t : Int) (wt0 : (Lit.int .i64 t).wf = true) (hc : M.C t = 0) (hn : isN t = true) (x y : Int) (hx : x < 0 ∨ 7 < x) :
    Calls Tryz.prog 10 #[.pointer (some ⟨q, 0, none⟩), .int .i64 2, .int .i64 t, .int .i64 x, .int .i64 y] w (fun e w' => e = .returned (.int .i64 1) ∧ w = w') := by
  have pc := h.pc
  have lc := h.mc.look t wt0
  rw [hc] at lc
  have kt := Lib.hid (ref_task t w)
  rw [hn] at kt
  clear h hc hn
  by_cases x1 : x < 0
  · clear hx
    go_enter Tryz.func10, Tryz.ntmps10
    go_wp2_with (go_at_call 30; (with_reducible refine kt.out.mono ?_); rintro e w' ⟨rfl, rfl⟩)
    go_ret
    exact ⟨rfl, rfl⟩
  · have x2 : 7 < x := by omega
    clear hx
    go_enter Tryz.func10, Tryz.ntmps10
    go_wp2_with (go_at_call 30; (with_reducible refine kt.out.mono ?_); rintro e w' ⟨rfl, rfl⟩)
    go_ret
    exact ⟨rfl, rfl⟩

theorem radd_bad3 (h : RefP B w q M) (t : Int) (wt0 : (Lit.int .i64 t).wf = true) (hc : M.C t = 0) (hn : isN t = true) (x y : Int) (hx : y < 1 ∨ 30 < y ∨ x < 1 ∨ y < x) :
    Calls Tryz.prog 10 #[.pointer (some ⟨q, 0, none⟩), .int .i64 3, .int .i64 t, .int .i64 x, .int .i64 y] w (fun e w' => e = .returned (.int .i64 1) ∧ w = w') := by
  have pc := h.pc
  have lc := h.mc.look t wt0
  rw [hc] at lc
  have kt := Lib.hid (ref_task t w)
  rw [hn] at kt
  clear h hc hn
  by_cases x1 : y < 1
  · clear hx
    go_enter Tryz.func10, Tryz.ntmps10
    go_wp2_with (go_at_call 30; (with_reducible refine kt.out.mono ?_); rintro e w' ⟨rfl, rfl⟩)
    go_ret
    exact ⟨rfl, rfl⟩
  · by_cases x2 : 30 < y
    · clear hx
      go_enter Tryz.func10, Tryz.ntmps10
      go_wp2_with (go_at_call 30; (with_reducible refine kt.out.mono ?_); rintro e w' ⟨rfl, rfl⟩)
      go_ret
      exact ⟨rfl, rfl⟩
    · by_cases x3 : x < 1
      · clear hx
        go_enter Tryz.func10, Tryz.ntmps10
        go_wp2_with (go_at_call 30; (with_reducible refine kt.out.mono ?_); rintro e w' ⟨rfl, rfl⟩)
        go_ret
        exact ⟨rfl, rfl⟩
      · have x4 : y < x := by omega
        clear hx
        go_enter Tryz.func10, Tryz.ntmps10
        go_wp2_with (go_at_call 30; (with_reducible refine kt.out.mono ?_); rintro e w' ⟨rfl, rfl⟩)
        go_ret
        exact ⟨rfl, rfl⟩
end
end Go.Proofs.YtckaebpcghaobaaGreat.Rk
/- A map's entry asked for and stored, as two runs. -/
namespace Go.Proofs.YtckaebpcghaobaaGreat.Of
open Go.ChangeShapes Go.WideShapes Go.ChangeAt Go.RowKit Go.Maps Go.WideElems Go.ChangeMaps Go.MapKept
set_option linter.unusedVariables false

theorem entry_runs {P : Program} {t k e : TypeId} {w : World} (K : Keyed P k) (ht : P.underlying t = some (.map k e)) {z : Value} (hz : ∀ u : World, (zeroValue e).run P u = .ok z u) (R : Value → Option (DataW Unit × List MemPlace)) (b n : Nat) (D : DataW Unit) (hown : w.ownsMap P k R b n D) (hn : n < maxLen) (key val : Value) (kl : Lit) (hkey : keyOf P k key = some kl)
    (d : DataW Unit) (ps : List MemPlace) (hval : R val = some (d, ps)) :
    ∃ (v0 s0 : Value) (w1 w2 : World), (Instr.mapEntry t (.map (some b)) key).run P w = .ok (.tuple #[v0, s0]) w1 ∧ (Instr.entryStore t (.map (some b)) s0 val).run P w1 = .ok () w2 ∧ w2.ownsMap P k R b (n + 1) (D.put kl d) ∧ Only (· = b) w w2 := by
  obtain ⟨es, clock, hb, F, hs, hD⟩ := id hown
  obtain ⟨v0, st, ob, r1, ⟨es1, c1, rfl⟩, r2⟩ := entry_store K ht hz hb F hkey
  obtain ⟨w', r3, r4, r5⟩ := hown.store K ht hn hkey hval
  have hb1 : (setBlock w b (.map es1 c1)).heap[b]? = some (.map es1 c1) := heap_setBlock_same hb _
  obtain ⟨o2', q1, q2⟩ := r2 (setBlock w b (.map es1 c1)) val hb1
  rw [r3] at q2
  have ew : w' = setBlock w b o2' := by injection q2
  rw [block_twice, ← ew] at q1
  exact ⟨v0, goInt st, _, w', r1, q1, r4, only_turned r5⟩

section
variable {w : World} {b n : Nat}
theorem NumsAt.assign {f : Int → Int} (h : NumsAt w b n f) (hn : n < 9000000000000000000) (t c : Int) (ht : (Lit.int .i64 t).wf = true) (hc : (Lit.int .i64 c).wf = true) :
    ∃ (v0 s0 : Value) (w1 w2 : World), (Instr.mapEntry 29 (.map (some b)) (.int .i64 t)).run Tryz.prog w = .ok (.tuple #[v0, s0]) w1 ∧ (Instr.entryStore 29 (.map (some b)) s0 (.int .i64 c)).run Tryz.prog w1 = .ok () w2 ∧ NumsAt w2 b (n + 1) (updN f t c) ∧ Only (· = b) w w2 := by
  obtain ⟨D, q1, q2, q3⟩ := h
  obtain ⟨v0, s0, w1, w2, r1, r2, r3, r4⟩ := entry_runs keyed_int Tryz.underlying29 zero_int _ b n D q1 (by unfold maxLen; omega) _ _ _ (keyOf_int_mk Tryz.underlying3 ht) _ [] (plainElem_int Tryz.underlying3 hc)
  exact ⟨v0, s0, w1, w2, r1, r2, NumsAt.put q2 q3 t c r3, r4⟩
theorem OffAt.assign {f : Int → Bool} (h : OffAt w b n f) (hn : n < 9000000000000000000) (t : Int) (c : Bool) (ht : (Lit.int .i64 t).wf = true) :
    ∃ (v0 s0 : Value) (w1 w2 : World), (Instr.mapEntry 30 (.map (some b)) (.int .i64 t)).run Tryz.prog w = .ok (.tuple #[v0, s0]) w1 ∧ (Instr.entryStore 30 (.map (some b)) s0 (.bool c)).run Tryz.prog w1 = .ok () w2 ∧ OffAt w2 b (n + 1) (updI f t c) ∧ Only (· = b) w w2 := by
  obtain ⟨D, q1, q2, q3⟩ := h
  obtain ⟨v0, s0, w1, w2, r1, r2, r3, r4⟩ := entry_runs keyed_int Tryz.underlying30 zero_bool _ b n D q1 (by unfold maxLen; omega) _ _ _ (keyOf_int_mk Tryz.underlying3 ht) _ [] (plainElem_bool Tryz.underlying4 c)
  exact ⟨v0, s0, w1, w2, r1, r2, OffAt.put q2 q3 t c r3, r4⟩
end
end Go.Proofs.YtckaebpcghaobaaGreat.Of
/- The reference of one processor's scheduler: a task of fixed priority comes. -/
namespace Go.Proofs.YtckaebpcghaobaaGreat.Rk
open Go.ChangeShapes Go.WideShapes Go.ChangeAt Go.RowKit Go.Maps
open Go.Proofs.YtckaebpcghaobaaGreat.Of Go.Proofs.YtckaebpcghaobaaGreat.Pk Go.Proofs.YtckaebpcghaobaaGreat.Vt
set_option linter.unusedVariables false
set_option maxRecDepth 100000

/-- What a task that comes leaves of the three maps, and of the last two numbers. -/
structure Came (M M' : RSt) (k : Nat) (cl x : Int) : Prop where
  c : M'.c = M.c + 1
  C : M'.C = updN M.C k cl
  A : M'.A = updN M.A k x
  f : M'.f = updI M.f k false
  now : M'.now = M.now
  used : M'.used = M.used
  n : M'.n = M.n
/-- The three maps tell it too. -/
theorem RefP.came {B : Nat} {w w1 w2 w3 : World} {q : Nat} {M : RSt} (h : RefP B w q M) {k : Nat} {cl x : Int} (h1 : NumsAt w1 M.kc (M.c + 1) (updN M.C k cl)) (o1 : Only (· = M.kc) w w1) (h2 : NumsAt w2 M.kv (M.c + 1) (updN M.A k x)) (o2 : Only (· = M.kv) w1 w2) (h3 : OffAt w3 M.ko (M.c + 1) (updI M.f k false)) (o3 : Only (· = M.ko) w2 w3) :
    RefP B w3 q { M with c := M.c + 1, C := updN M.C k cl, A := updN M.A k x, f := updI M.f k false } ∧ RStep B q M.U M.U w w3 :=
  h.maps (((o1.mono (T := fun k => k = M.kc ∨ k = M.kv ∨ k = M.ko) (fun _ _ e => Or.inl e)).trans o2 (fun _ _ e => Or.inr (Or.inl e))).trans o3 (fun _ _ e => Or.inr (Or.inr e)))
    ((h1.keep o2 h.k1).keep o3 h.k2) (h2.keep o3 h.k3) h3
def RCame (B q : Nat) (M : RSt) (k : Nat) (cl x : Int) (P : RSt → Prop) (w : World) (e : Ending) (w' : World) : Prop := e = .returned (.int .i64 0) ∧ ∃ M', RefP B w' q M' ∧ RStep B q M.U M'.U w w' ∧ Came M M' k cl x ∧ P M'

section
variable {B : Nat} {w w' : World} {q : Nat} {M : RSt} {S : St} {b : Int}

set_option maxHeartbeats 1500000 in
theorem radd_prio (h : RefP B w q M) (hl : ∀ v, v < 8 → (M.Q v).length ≤ 1000) (hc9 : M.c < 9000000000000000000) {k : Nat} (h1 : 1 ≤ k) (h2 : k ≤ 16) (hc : M.C k = 0) {v : Nat} (hv8 : v < 8) (y : Int) :
    Calls Tryz.prog 10 #[.pointer (some ⟨q, 0, none⟩), .int .i64 2, .int .i64 k, .int .i64 v, .int .i64 y] w (RCame B q M k 2 v (fun M' => M'.LF = M.LF ∧ M'.T = M.T ∧ M'.W = M.W ∧ M'.LD = M.LD ∧ M'.d = M.d ∧ M'.Q = Pr.upd M.Q v (M.Q v ++ [(k : Int)])) w) := by
  have H := Lib.hid h
  have wt : Hid ((Lit.int .i64 (k : Int)).wf = true) := Lib.hid (i64_wf (by omega))
  have WX : Hid ((Lit.int .i64 (v : Int)).wf = true) := Lib.hid (i64_wf (by omega))
  have pc := h.pc
  have lc := h.mc.look (k : Int) wt.out
  rw [hc] at lc
  have kt := Lib.hid (ref_task (k : Int) w)
  rw [show isN (k : Int) = true from decide_eq_true (by omega)] at kt
  have HCN := Lib.hid hc9
  have x1 : ¬ (v : Int) < 0 := by omega
  have x2 : ¬ 7 < (v : Int) := by omega
  have x3 : (v : Int) < 8 := by omega
  have c2 : w.cell? ⟨q, 28 + v, none⟩ = some (M.U v) := h.prio.cell hv8
  have hp2 := h.lt
  obtain ⟨sa, sc, hsv, -, -⟩ := (h.prio.row v hv8).shape
  have HSV := Lib.hid hsv
  rw [hsv] at c2
  have HLEN := Lib.hid (show (M.Q v).length + 1 ≤ 17000000000000 from by have := hl v hv8; omega)
  clear h hl hc hsv hc9
  go_enter Tryz.func10, Tryz.ntmps10
  go_wp2_with (go_at_call 30; (with_reducible refine kt.out.mono ?_); rintro e w' ⟨rfl, rfl⟩)
  go_region_law (refine Pr.step_add rfl (.tmp 117) (.tmp 119) rfl w q 28 44 w.heap.size M.U M.Q v (k : Int) H.out.prio hv8 ((Only.refl _ w).alloc _).drew (by rw [HSV.out]; rfl) (by rfl) (heap_alloc_new w _) HLEN.out ?_; intro g c w3 q1 q2 HA; rw [HSV.out] at q1)
  all_goals (
    (try go_wp2_with fail)
    have HB0 := Lib.hid (H.out.by_prio (by have := H.out.low.1; have := (nums_map H.out.mc).lt; omega) HA.out.at_ HA.out.step)
    clear HA q1 q2
    have H7 := Lib.hid HB0.out.1
    have S7 := Lib.hid HB0.out.2
    clear HB0
    generalize w3.setCell ⟨q, 28 + v, none⟩ (.slice (some ⟨g, 0, none⟩) ((M.Q v).length + 1) c) = w7 at *
    have hd := (Only.refl (fun _ => False) w7).drew
    have H8 := Lib.hid (H7.out.later hd)
    have S8 := Lib.hid (S7.out.trans (RStep.of_quiet hd))
    have p38 := H7.out.pc
    have p39 := H7.out.pv
    have p40 := H7.out.po
    clear hd S7
    obtain ⟨y0, z0, w8, w9, e1, e2, n9, o9⟩ := H8.out.mc.assign HCN.out (k : Int) 2 wt.out (by rfl)
    obtain ⟨y1, z1, w10, w11, e3, e4, n11, o11⟩ := (H8.out.mv.keep o9 (fun e => H8.out.k1 e.symm)).assign HCN.out (k : Int) (v : Int) wt.out WX.out
    obtain ⟨y2, z2, w12, w13, e5, e6, n13, o13⟩ := ((H8.out.mo.keep o9 (fun e => H8.out.k2 e.symm)).keep o11 (fun e => H8.out.k3 e.symm)).assign HCN.out (k : Int) false wt.out
    have q8 := Lib.hid (H8.out.came n9 o9 n11 o11 n13 o13)
    clear n9 o9 n11 o11 n13 o13 H7 pc lc x1 x2 x3 c2 hp2
    go_region
    all_goals (
      (try go_wp2_with fail)
      go_ret
      exact ⟨rfl, _, q8.out.1, S8.out.trans q8.out.2, ⟨rfl, rfl, rfl, rfl, rfl, rfl, rfl⟩, ⟨rfl, rfl, rfl, rfl, rfl, rfl⟩⟩))
end
end Go.Proofs.YtckaebpcghaobaaGreat.Rk
/- The reference's list of tasks of fair shares: one more. -/
namespace Go.Proofs.YtckaebpcghaobaaGreat.Fr
open Go.ChangeShapes Go.WideShapes Go.ChangeAt Go.RowKit Go.Maps
open Go.Proofs.YtckaebpcghaobaaGreat.Vt Go.Proofs.YtckaebpcghaobaaGreat.Pt
set_option linter.unusedVariables false

section
variable {B : Nat} {w w4 w5 : World} {q o D : Nat} {L : List (Nat × Nat)} {T : Tks} {G : Grs} {W GW : Nat → Int}

/-- The class behind the append of a task in a new block b. -/
theorem RefAt.snoc (h : RefAt B w q o D L T G W GW) (oa : Only (fun _ => False) w w4) {b t : Nat} {a c g : Int} {V V5 : Value} (hb : w4.heap[b]? = some (taskCells t a g 0 false)) (hbw : w.heap.size ≤ b) (htL : ∀ x ∈ L, x.2 ≠ t)
    (hV : w.cell? ⟨q, o, none⟩ = some V) (hr : RowAt w5 B V5 (L.map (·.1) ++ [b])) (hO : Only (fun k => V.ownBlock = some k) w4 w5) (hg : ∀ k, V5.ownBlock = some k → V.ownBlock = some k ∨ w4.heap.size ≤ k) :
    w5.cell? ⟨q, o, none⟩ = some V ∧ w5.frozen? ⟨q, o, none⟩ = false ∧ RefAt B (w5.setCell ⟨q, o, none⟩ V5) q o D (L ++ [(b, t)]) (upd T t ⟨c, 0, g, false⟩) G (upd W t a) GW ∧ Only (fun k => k = q ∨ V.ownBlock = some k) w (w5.setCell ⟨q, o, none⟩ V5) ∧ Only (fun k => V.ownBlock = some k) w w5 := by
  obtain ⟨⟨cs, V', h1, h2, h3, h4⟩, h5, h6, h7, h8, h9⟩ := h
  have hVV : V' = V := by have := cell_at h1 o; rw [hV, h2.v] at this; exact (Option.some.inj this).symm
  subst hVV
  have hqlt := block_there h1
  have hllt : ∀ y ∈ L, y.1 < w.heap.size := fun y hy => block_there (h5 y hy)
  have hvlt : ∀ g, V'.ownBlock = some g → g < w.heap.size := fun g hg => (h3.block hg).2
  have hb4 := block_there hb
  have kept : ∀ k, k < w.heap.size → V'.ownBlock ≠ some k → w5.heap[k]? = w.heap[k]? := fun k hk hn => (hO.block k (Nat.lt_of_lt_of_le hk oa.size) hn).trans (oa.block k hk (fun e => e))
  have q1 : w5.heap[q]? = some (.cells cs D (0, 0)) := (kept q hqlt (fun e => (h4 q e).1 rfl)).trans h1
  have hbV : V'.ownBlock ≠ some b := fun e => by have := hvlt b e; omega
  have hg' : ∀ k, V5.ownBlock = some k → k ≠ q ∧ (∀ x ∈ L, k ≠ x.1) ∧ k ≠ b := fun k hk => by
    rcases hg k hk with e | e
    · exact ⟨(h4 k e).1, (h4 k e).2, fun e2 => hbV (by rw [← e2]; exact e)⟩
    · have := oa.size
      exact ⟨by omega, fun x hx => by have := hllt x hx; omega, by omega⟩
  have oq : Only (fun k => k = q) w5 (w5.setCell ⟨q, o, none⟩ V5) := (Only.refl (fun k => k = q) w5).setCell (p := ⟨q, o, none⟩) rfl _
  have o0 : Only (fun k => V'.ownBlock = some k) w w5 := (oa.mono (T := fun k => V'.ownBlock = some k) (fun _ _ e => e.elim)).trans hO (fun k hk e => e)
  refine ⟨by rw [cell_at q1]; exact h2.v, frozen_at q1 o, ⟨⟨_, V5, heap_setCell_same w5 q o cs _ _ q1, ?_, ?_, ?_⟩, ?_, ?_, ?_, ?_, ?_⟩, ?_, o0⟩
  · have hs := h2.size
    refine ⟨by simp [hs], by rw [Array.getElem?_setIfInBounds, if_pos rfl, if_pos (by omega)], fun k hk => ?_, fun k hk => ?_, fun k hk => ?_⟩
    · rw [Array.getElem?_setIfInBounds, if_neg (by omega)]; exact h2.is k hk
    · rw [Array.getElem?_setIfInBounds, if_neg (by omega)]; exact h2.gw k hk
    · rw [Array.getElem?_setIfInBounds, if_neg (by omega)]; exact h2.gv k hk
  · rw [List.map_append]
    exact hr.keep oq (fun k hk e => (hg' k hk).1 e)
  · intro k hk
    refine ⟨(hg' k hk).1, fun x hx => ?_⟩
    rcases List.mem_append.1 hx with e | e
    · exact (hg' k hk).2.1 x e
    · simp at e; subst e; exact (hg' k hk).2.2
  · intro y hy
    rcases List.mem_append.1 hy with e | e
    · rw [upd_other _ _ (htL y e), upd_other _ _ (htL y e), oq.block y.1 (block_there ((kept y.1 (hllt y e) (fun e2 => (h4 _ e2).2 y e rfl)).trans (h5 y e))) (h7 y e)]
      exact (kept y.1 (hllt y e) (fun e2 => (h4 _ e2).2 y e rfl)).trans (h5 y e)
    · simp at e; subst e
      simp only
      rw [upd_same, upd_same]
      have hb5 := (hO.block b hb4 hbV).trans hb
      exact (oq.block b (block_there hb5) (by omega)).trans hb5
  · exact ⟨h6.1, fun x hx => by rcases List.mem_append.1 hx with e | e; exact h6.2 x e; simp at e; subst e; show B ≤ b; have := h6.1; omega⟩
  · intro x hx
    rcases List.mem_append.1 hx with e | e
    · exact h7 x e
    · simp at e; subst e; show b ≠ q; omega
  · rw [List.map_append, List.map_cons, List.map_nil, List.nodup_append]
    refine ⟨h8, List.nodup_cons.2 ⟨by simp, List.nodup_nil⟩, fun y hy z hz => ?_⟩
    simp at hz; subst hz
    obtain ⟨x, hx, rfl⟩ := List.mem_map.1 hy
    have := hllt x hx; omega
  · rw [List.map_append, List.map_cons, List.map_nil, List.nodup_append]
    refine ⟨h9, List.nodup_cons.2 ⟨by simp, List.nodup_nil⟩, fun y hy z hz => ?_⟩
    simp at hz; subst hz
    obtain ⟨x, hx, rfl⟩ := List.mem_map.1 hy
    exact htL x hx
  · exact (o0.mono (T := fun k => k = q ∨ V'.ownBlock = some k) (fun _ _ e => Or.inr e)).trans oq (fun k hk e => Or.inl e)

theorem Same.add (h : Same L T G W GW) {b t : Nat} (h1 : 1 ≤ t) (h2 : t ≤ 16) {a : Int} (ha : isW a = true) (hno : (T t).c = 0) : Same (L ++ [(b, t)]) (upd T t ⟨costOf a, 0, 0, false⟩) G (upd W t a) GW := by
  have hne : ∀ x ∈ L, x.2 ≠ t := fun x hx e => h.in_c hx (by rw [e]; exact hno)
  refine ⟨fun x hx => ?_, fun k hk hc => ?_, fun x hx => ?_, h.gw, h.g0, fun x hx => ?_⟩
  · rcases List.mem_append.1 hx with e | e
    · exact h.num x e
    · simp at e; subst e; exact ⟨h1, h2⟩
  · by_cases e : k = t
    · subst e; exact ⟨b, by simp⟩
    · rw [upd_other _ _ e] at hc
      obtain ⟨b', hb'⟩ := h.all k hk hc
      exact ⟨b', by simp [hb']⟩
  · rcases List.mem_append.1 hx with e | e
    · rw [upd_other _ _ (hne x e), upd_other _ _ (hne x e)]; exact h.wt x e
    · simp at e; subst e; simp only; rw [upd_same, upd_same]; exact ⟨ha, rfl⟩
  · rcases List.mem_append.1 hx with e | e
    · rw [upd_other _ _ (hne x e)]; exact h.tg x e
    · simp at e; subst e; simp only; rw [upd_same]; exact Or.inl rfl
end
end Go.Proofs.YtckaebpcghaobaaGreat.Fr
/- The reference of one processor's scheduler: a task of fair shares comes. -/
namespace Go.Proofs.YtckaebpcghaobaaGreat.Rk
open Go.ChangeShapes Go.WideShapes Go.ChangeAt Go.RowKit Go.Maps
open Go.Proofs.YtckaebpcghaobaaGreat.Of Go.Proofs.YtckaebpcghaobaaGreat.Pk Go.Proofs.YtckaebpcghaobaaGreat.Vt
set_option linter.unusedVariables false
set_option maxRecDepth 100000

section
variable {B : Nat} {w w' : World} {q : Nat} {M : RSt} {S : St} {b : Int}

set_option maxHeartbeats 4000000 in
theorem radd_fair (h : RefP B w q M) (hs : Fr.Same M.LF M.T Fr.noG M.W (fun _ => 0)) (h0 : (M.T 0).r = false) (hrc : ∀ t, t < 17 → (M.T t).r = true → (M.T t).c ≠ 0) (hc9 : M.c < 9000000000000000000) {k : Nat} (h1 : 1 ≤ k) (h2 : k ≤ 16) (hc : M.C k = 0) (hT : (M.T k).c = 0) {x : Int} (hx : isW x = true) (y : Int) :
    Calls Tryz.prog 10 #[.pointer (some ⟨q, 0, none⟩), .int .i64 1, .int .i64 k, .int .i64 x, .int .i64 y] w (RCame B q M k 1 x (fun M' => M'.T = Fr.addT M.T Fr.noG k (costOf x) 0 ∧ M'.Q = M.Q ∧ M'.LD = M.LD ∧ M'.d = M.d ∧ Fr.Same M'.LF M'.T Fr.noG M'.W (fun _ => 0)) w) := by
  have H := Lib.hid h
  have hx2 := isW_yes hx
  have wt : Hid ((Lit.int .i64 (k : Int)).wf = true) := Lib.hid (i64_wf (by omega))
  have WX : Hid ((Lit.int .i64 x).wf = true) := Lib.hid (i64_wf (by omega))
  have pc := h.pc
  have lc := h.mc.look (k : Int) wt.out
  rw [hc] at lc
  have kt := Lib.hid (ref_task (k : Int) w)
  rw [show isN (k : Int) = true from decide_eq_true (by omega)] at kt
  have kw := Lib.hid (ref_weight x w)
  rw [hx] at kw
  have HCN := Lib.hid hc9
  have hq := h.lt
  obtain ⟨V, c0, hrow, hap⟩ := h.fair.slice
  have bd : Hid (∀ g, V.ownBlock = some g → B ≤ g) := Lib.hid (fun g hg => own_low hrow hg)
  have kd : Hid (∀ g, V.ownBlock = some g → Kind w g 80) := Lib.hid (fun g hg => by obtain ⟨cur, hcur⟩ := owns_type hrow hg; exact ⟨cur, _, hcur⟩)
  have HAP := Lib.hid hap
  have oa := Lib.hid (((Only.refl (fun _ => False) w).alloc (.cells #[.int .i64 k, .int .i64 x, .int .i64 0, .int .i64 0, .bool false] 82)).alloc (.cells #[.pointer (some ⟨w.heap.size, 0, none⟩)] 80))
  have RW := Lib.hid (hrow.later oa.out)
  have HTB : Hid (((w.alloc (.cells #[.int .i64 k, .int .i64 x, .int .i64 0, .int .i64 0, .bool false] 82)).alloc (.cells #[.pointer (some ⟨w.heap.size, 0, none⟩)] 80)).heap[w.heap.size]? = some (Fr.taskCells k x 0 0 false)) := Lib.hid ((((Only.refl (fun _ => False) (w.alloc (.cells #[.int .i64 k, .int .i64 x, .int .i64 0, .int .i64 0, .bool false] 82))).alloc (.cells #[.pointer (some ⟨w.heap.size, 0, none⟩)] 80)).block w.heap.size (by simp) id).trans (heap_alloc_new w _))
  have HBK : Hid (((w.alloc (.cells #[.int .i64 k, .int .i64 x, .int .i64 0, .int .i64 0, .bool false] 82)).alloc (.cells #[.pointer (some ⟨w.heap.size, 0, none⟩)] 80)).heap[w.heap.size + 1]? = some (.cells #[Pt.pt w.heap.size] 80 (0, 0))) := Lib.hid (by have := heap_alloc_new (w.alloc (.cells #[.int .i64 k, .int .i64 x, .int .i64 0, .int .i64 0, .bool false] 82)) (.cells #[.pointer (some ⟨w.heap.size, 0, none⟩)] 80); rw [show (w.alloc (.cells #[.int .i64 k, .int .i64 x, .int .i64 0, .int .i64 0, .bool false] 82)).heap.size = w.heap.size + 1 from by simp] at this; exact this)
  have HLEN := Lib.hid (show (M.LF.map (·.1)).length + 1 ≤ 17000000000000 from by have := h.fair.len16 hs; simp; omega)
  have HZ := Lib.hid (show B ≤ ((w.alloc (.cells #[.int .i64 k, .int .i64 x, .int .i64 0, .int .i64 0, .bool false] 82)).alloc (.cells #[.pointer (some ⟨w.heap.size, 0, none⟩)] 80)).heap.size from by have := h.fair.from'.1; have := h.lt; simp; omega)
  have HTL := Lib.hid (show ∀ z ∈ M.LF, z.2 ≠ k from fun z hz e => hs.in_c hz (by rw [e]; exact hT))
  have HC0 := Lib.hid c0
  have e1 : (Fr.upd M.T k ⟨costOf x, 0, 0, false⟩ k) = ⟨costOf x, 0, 0, false⟩ := Fr.upd_same _ _ _
  have EG := Lib.hid (show Fr.wokeG (Fr.upd M.T k ⟨costOf x, 0, 0, false⟩) Fr.noG k = Fr.noG from Fr.wokeG_0 (by rw [e1]))
  have SM : Hid (∀ bb, Fr.Same (M.LF ++ [(bb, k)]) (Fr.upd M.T k ⟨costOf x, 0, 0, false⟩) Fr.noG (Fr.upd M.W k x) (fun _ => 0)) := Lib.hid (fun bb => hs.add h1 h2 hx hT)
  have WK := Lib.hid (fun (W : World) (hR : Fr.RefAt B W q 0 44 (M.LF ++ [(w.heap.size, k)]) (Fr.upd M.T k ⟨costOf x, 0, 0, false⟩) Fr.noG (Fr.upd M.W k x) (fun _ => 0)) => Fr.wokeup_solo hR (SM.out _) (by rw [Fr.upd_other _ _ (by omega)]; exact h0) (fun t ht hr => by
    by_cases e : t = k
    · subst e; rw [Fr.upd_same] at hr; cases hr
    · rw [Fr.upd_other _ _ e] at hr ⊢; exact hrc t ht hr) (b := w.heap.size) (t := k) (by simp) (by rw [e1]; exact Int.le_refl _) (by rw [e1]))
  clear h hs h0 hrc hc9 hc hT hx hx2 hrow hap e1
  go_enter Tryz.func10, Tryz.ntmps10
  go_wp2_with (first
    | (go_at_call 30; (with_reducible refine kt.out.mono ?_); rintro e w' ⟨rfl, rfl⟩)
    | (go_at_call 31; (with_reducible refine kw.out.mono ?_); rintro e w' ⟨rfl, rfl⟩)
    | (at_builtin; go_must (refine Pt.append_row rfl _ _ rfl B (w.heap.size + 1) 1 V (M.LF.map (fun z : Nat × Nat => z.1)) w.heap.size rfl (by first | rfl | simp [Act.eval]) RW.out HBK.out HLEN.out HZ.out ?_); go_must (intro v5 w5 hr5 hO5 hb5 hsh5); rw [List.length_map] at hsh5; obtain ⟨g5, c5, rfl⟩ := hsh5; obtain ⟨k1, k2, k3, k4, k5⟩ := H.out.fair.snoc (c := costOf x) oa.out HTB.out (Nat.le_refl _) HTL.out HC0.out hr5 hO5 hb5; have H5 := Lib.hid (H.out.by_fair k3 k4 ((Still.of k5 H.out.lt (fun e => (HAP.out q e).1 rfl)).set (by omega) _) (fun z _ hz => hz.elim Or.inl (fun e => Or.inr (Or.inr (kd.out z e)))) (fun z hz => hz.elim (fun e => by subst e; exact H.out.fair.from'.1) (bd.out z))); clear hr5 hO5 hb5 k3 k4 k5)
    | (go_at_call 32; (with_reducible refine (WK.out _ H5.out.1.fair).mono ?_); rintro e w6 ⟨rfl, hR6, hO6⟩; rw [EG.out] at hR6; have H6 := Lib.hid (H5.out.1.by_fair hR6 hO6 (Still.of hO6 H5.out.1.lt (fun e => H5.out.1.fair.apart (w.heap.size, k) (by simp) e.symm)) (fun z _ hz => Or.inr (Or.inl (by subst hz; exact ⟨_, _, H5.out.1.fair.task (w.heap.size, k) (by simp)⟩))) (fun z hz => by subst hz; exact H5.out.1.fair.from'.2 (w.heap.size, k) (by simp))); clear hR6 hO6))
  have SM2 := Lib.hid (fsame_congr (SM.out w.heap.size) (fun t _ => (Fr.woke_cg (Fr.upd M.T k ⟨costOf x, 0, 0, false⟩) Fr.noG k).1 t))
  have H7 := Lib.hid H6.out.1
  have S7 := Lib.hid (H5.out.2.trans H6.out.2)
  clear H6 H5
  generalize w6 = w7 at *
  have hd := (Only.refl (fun _ => False) w7).drew
  have H8 := Lib.hid (H7.out.later hd)
  have S8 := Lib.hid (S7.out.trans (RStep.of_quiet hd))
  have p38 := H7.out.pc
  have p39 := H7.out.pv
  have p40 := H7.out.po
  clear hd S7
  obtain ⟨y0, z0, w8, w9, e1, e2, n9, o9⟩ := H8.out.mc.assign HCN.out (k : Int) 1 wt.out (by rfl)
  obtain ⟨y1, z1, w10, w11, e3, e4, n11, o11⟩ := (H8.out.mv.keep o9 (fun e => H8.out.k1 e.symm)).assign HCN.out (k : Int) x wt.out WX.out
  obtain ⟨y2, z2, w12, w13, e5, e6, n13, o13⟩ := ((H8.out.mo.keep o9 (fun e => H8.out.k2 e.symm)).keep o11 (fun e => H8.out.k3 e.symm)).assign HCN.out (k : Int) false wt.out
  have q8 := Lib.hid (H8.out.came n9 o9 n11 o11 n13 o13)
  clear n9 o9 n11 o11 n13 o13 H7 pc lc c0 hq
  go_region
  all_goals (
    (try go_wp2_with fail)
    go_ret
    exact ⟨rfl, _, q8.out.1, S8.out.trans q8.out.2, ⟨rfl, rfl, rfl, rfl, rfl, rfl, rfl⟩, ⟨rfl, rfl, rfl, rfl, SM2.out⟩⟩)
end
end Go.Proofs.YtckaebpcghaobaaGreat.Rk
/- The reference's list of tasks of deadlines: one more. -/
namespace Go.Proofs.YtckaebpcghaobaaGreat.De
open Go.ChangeShapes Go.WideShapes Go.ChangeAt Go.RowKit Go.Maps
open Go.Proofs.YtckaebpcghaobaaGreat.Vt Go.Proofs.YtckaebpcghaobaaGreat.Pd
set_option linter.unusedVariables false

/-- One pointer more, at a step of a drawn region. -/
theorem step_ptr {w : World} {ops : Array Oper} {o : Oper} {a : Act} {K : Act → World → Prop} {Q : Exit → Act → World → Prop} {E : Prop} (hgd : o.guard = none) (s y : Operand)
    (ho : o.op = .call { callee := .builtin .append, args := #[s, y], argTypes := #[40, 40] })
    (base b : Nat) (v : Value) (S : List Nat) (x : Nat) (hown : RowAt w base v S) (hs : a.eval s = v) (hy : a.eval y = .slice (some ⟨b, 0, none⟩) 1 1)
    (hb : w.heap[b]? = some (.cells #[pt x] 84 (0, 0))) (hl : S.length ≤ 1000000) (hbase : base ≤ w.heap.size)
    (h : ∀ g' c' w', RowAt w' base (.slice (some ⟨g', 0, none⟩) (S.length + 1) c') (S ++ [x]) → Only (fun k => v.ownBlock = some k) w w' → (v.ownBlock = some g' ∨ g' = w.heap.size) → K (a.put o.dst (.slice (some ⟨g', 0, none⟩) (S.length + 1) c')) w') :
    if Region.wanted o (yielded ops a.tmps) = true then Oper.wp Tryz.prog o a w K Q else E := by
  obtain ⟨i0, hi, hz0, hz1, hz2⟩ := info_parts Pd.Tryz.infoElem
  refine step_append_lies w hgd s y 40 ho base 84 i0 (.pointer none) 1 8 Tryz.underlying40 hi hz0 hz1 hz2 rfl (by decide) v S.length (S.map pt) hs hown ⟨b, 0, none⟩ 1 1 [pt x] hy rfl
    (World.news_of_block (cs := #[pt x]) hb) (by intro u hu; simp at hu; subst hu; rfl) (by omega) (by unfold maxLen; omega) (by omega) hbase w.heap.size rfl ?_
  intro g cap w' hown' hg hat hlt
  refine h _ _ w' ?_ (Only.of_grown (S := fun k => v.ownBlock = some k) hg (fun k hk => hk)) hat
  unfold RowAt
  rw [List.length_append, List.map_append]
  exact hown'

section
variable {B : Nat} {w w4 w5 : World} {q o D : Nat} {L : List (Nat × Nat)} {T : Tks} {n : Int}

theorem RefAt.snoc (h : RefAt B w q o D L T n) (oa : Only (fun _ => False) w w4) {b t : Nat} {x : Tk} {V V5 : Value} (hb : w4.heap[b]? = some (taskCells t x)) (hbw : w.heap.size ≤ b) (htL : ∀ x ∈ L, x.2 ≠ t)
    (hV : w.cell? ⟨q, o + 1, none⟩ = some V) (hr : RowAt w5 B V5 (L.map (·.1) ++ [b])) (hO : Only (fun k => V.ownBlock = some k) w4 w5) (hg : ∀ k, V5.ownBlock = some k → V.ownBlock = some k ∨ w4.heap.size ≤ k) :
    w5.cell? ⟨q, o + 1, none⟩ = some V ∧ w5.frozen? ⟨q, o + 1, none⟩ = false ∧ RefAt B (w5.setCell ⟨q, o + 1, none⟩ V5) q o D (L ++ [(b, t)]) (upd T t x) n ∧ Only (fun k => k = q ∨ V.ownBlock = some k) w (w5.setCell ⟨q, o + 1, none⟩ V5) ∧ Only (fun k => V.ownBlock = some k) w w5 := by
  obtain ⟨⟨cs, V', h1, h2, h3, h4⟩, h5, h6, h7, h8, h9⟩ := h
  have hVV : V' = V := by have := cell_at h1 (o + 1); rw [hV, h2.2] at this; exact (Option.some.inj this).symm
  subst hVV
  have hqlt := block_there h1
  have hllt : ∀ y ∈ L, y.1 < w.heap.size := fun y hy => block_there (h5 y hy)
  have hvlt : ∀ g, V'.ownBlock = some g → g < w.heap.size := fun g hg => (h3.block hg).2
  have hb4 := block_there hb
  have kept : ∀ k, k < w.heap.size → V'.ownBlock ≠ some k → w5.heap[k]? = w.heap[k]? := fun k hk hn => (hO.block k (Nat.lt_of_lt_of_le hk oa.size) hn).trans (oa.block k hk (fun e => e))
  have q1 : w5.heap[q]? = some (.cells cs D (0, 0)) := (kept q hqlt (fun e => (h4 q e).1 rfl)).trans h1
  have hbV : V'.ownBlock ≠ some b := fun e => by have := hvlt b e; omega
  have hg' : ∀ k, V5.ownBlock = some k → k ≠ q ∧ (∀ x ∈ L, k ≠ x.1) ∧ k ≠ b := fun k hk => by
    rcases hg k hk with e | e
    · exact ⟨(h4 k e).1, (h4 k e).2, fun e2 => hbV (by rw [← e2]; exact e)⟩
    · have := oa.size
      exact ⟨by omega, fun x hx => by have := hllt x hx; omega, by omega⟩
  have oq : Only (fun k => k = q) w5 (w5.setCell ⟨q, o + 1, none⟩ V5) := (Only.refl (fun k => k = q) w5).setCell (p := ⟨q, o + 1, none⟩) rfl _
  have o0 : Only (fun k => V'.ownBlock = some k) w w5 := (oa.mono (T := fun k => V'.ownBlock = some k) (fun _ _ e => e.elim)).trans hO (fun k hk e => e)
  refine ⟨by rw [cell_at q1]; exact h2.2, frozen_at q1 (o + 1), ⟨⟨_, V5, heap_setCell_same w5 q (o + 1) cs _ _ q1, ?_, ?_, ?_⟩, ?_, ?_, ?_, ?_, ?_⟩, ?_, o0⟩
  · have hs := (Array.getElem?_eq_some_iff.1 h2.2).1
    exact ⟨by rw [Array.getElem?_setIfInBounds, if_neg (by omega)]; exact h2.1, by rw [Array.getElem?_setIfInBounds, if_pos rfl, if_pos (by omega)]⟩
  · rw [List.map_append]
    exact hr.keep oq (fun k hk e => (hg' k hk).1 e)
  · intro k hk
    refine ⟨(hg' k hk).1, fun x hx => ?_⟩
    rcases List.mem_append.1 hx with e | e
    · exact (hg' k hk).2.1 x e
    · simp at e; subst e; exact (hg' k hk).2.2
  · intro y hy
    rcases List.mem_append.1 hy with e | e
    · rw [upd_other _ _ (htL y e), oq.block y.1 (block_there ((kept y.1 (hllt y e) (fun e2 => (h4 _ e2).2 y e rfl)).trans (h5 y e))) (h7 y e)]
      exact (kept y.1 (hllt y e) (fun e2 => (h4 _ e2).2 y e rfl)).trans (h5 y e)
    · simp at e; subst e
      simp only
      rw [upd_same]
      have hb5 := (hO.block b hb4 hbV).trans hb
      exact (oq.block b (block_there hb5) (by omega)).trans hb5
  · exact ⟨h6.1, fun x hx => by rcases List.mem_append.1 hx with e | e; exact h6.2 x e; simp at e; subst e; show B ≤ b; have := h6.1; omega⟩
  · intro x hx
    rcases List.mem_append.1 hx with e | e
    · exact h7 x e
    · simp at e; subst e; show b ≠ q; omega
  · rw [List.map_append, List.map_cons, List.map_nil, List.nodup_append]
    refine ⟨h8, List.nodup_cons.2 ⟨by simp, List.nodup_nil⟩, fun y hy z hz => ?_⟩
    simp at hz; subst hz
    obtain ⟨x, hx, rfl⟩ := List.mem_map.1 hy
    have := hllt x hx; omega
  · rw [List.map_append, List.map_cons, List.map_nil, List.nodup_append]
    refine ⟨h9, List.nodup_cons.2 ⟨by simp, List.nodup_nil⟩, fun y hy z hz => ?_⟩
    simp at hz; subst hz
    obtain ⟨x, hx, rfl⟩ := List.mem_map.1 hy
    exact htL x hx
  · exact (o0.mono (T := fun k => k = q ∨ V'.ownBlock = some k) (fun _ _ e => Or.inr e)).trans oq (fun k hk e => Or.inl e)

theorem Same.add (h : Same L T) {b t : Nat} (h1 : 1 ≤ t) (h2 : t ≤ 16) {x : Tk} (hx : x.p ≠ 0) (hno : (T t).p = 0) : Same (L ++ [(b, t)]) (upd T t x) := by
  have hne : ∀ y ∈ L, y.2 ≠ t := fun y hy e => h.there y hy (by rw [e]; exact hno)
  refine ⟨fun y hy => ?_, fun k hk hc => ?_, fun y hy => ?_⟩
  · rcases List.mem_append.1 hy with e | e
    · exact h.num y e
    · simp at e; subst e; exact ⟨h1, h2⟩
  · by_cases e : k = t
    · subst e; exact ⟨b, by simp⟩
    · rw [upd_other _ _ e] at hc
      obtain ⟨b', hb'⟩ := h.all k hk hc
      exact ⟨b', by simp [hb']⟩
  · rcases List.mem_append.1 hy with e | e
    · rw [upd_other _ _ (hne y e)]; exact h.there y e
    · simp at e; subst e; simp only; rw [upd_same]; exact hx
end
end Go.Proofs.YtckaebpcghaobaaGreat.De
