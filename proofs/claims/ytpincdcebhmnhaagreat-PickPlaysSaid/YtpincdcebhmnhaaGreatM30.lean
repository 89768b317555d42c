/- Texts of this claim, merged: RkLeave. -/
import Derived.Test.YtpincdcebhmnhaaGreatM29
import Derived.Test.YtpincdcebhmnhaaGreatM22
/- The reference of one processor's scheduler: a task leaves. -/
namespace Go.Proofs.YtpincdcebhmnhaaGreat.Rk
open Go.ChangeShapes Go.WideShapes Go.ChangeAt Go.RowKit Go.Maps
open Go.Proofs.YtpincdcebhmnhaaGreat.Of Go.Proofs.YtpincdcebhmnhaaGreat.Pk Go.Proofs.YtpincdcebhmnhaaGreat.Vt
set_option linter.unusedVariables false
set_option maxRecDepth 100000

/-- A box with a number that is no part of the reference. -/
structure Lb (w : World) (q : Nat) (U : Nat → Value) (lb : Nat) (x : Int) : Prop where
  cell : w.cell? ⟨lb, 0, none⟩ = some (.int .i64 x)
  kind : Kind w lb 3
  far : ¬ Pr.Foot q U lb

section
variable {B : Nat} {w w' : World} {q : Nat} {M : RSt} {S : St} {b : Int}

theorem Lb.step {U U' : Nat → Value} {lb : Nat} {x : Int} (h : Lb w q U lb x) (hs : RStep B q U U' w w') : Lb w' q U' lb x := by
  have hn : ¬ RFoot w q U lb := fun e => by
    rcases e with e | e | e | e | e | e
    · exact h.far e
    · exact absurd (h.kind.one e) (by decide)
    · exact absurd (h.kind.one e) (by decide)
    · exact absurd (h.kind.one e) (by decide)
    · exact absurd (h.kind.one e) (by decide)
    · exact h.kind.no_map e
  have hb := hs.only.block lb h.kind.lt hn
  obtain ⟨cs, fr, hc⟩ := h.kind
  refine ⟨(Pr.cell_kept hs.only h.kind.lt hn).trans h.cell, ⟨cs, fr, hb.trans hc⟩, fun e => ?_⟩
  rcases hs.grow lb e with e | e
  · exact h.far e
  · have := h.kind.lt; omega
theorem Lb.made (h : RefP B w q M) (x : Int) : Lb (w.alloc (.cells #[.int .i64 x] 3)) q M.U w.heap.size x := by
  have hb := heap_alloc_new w (.cells #[.int .i64 x] 3)
  refine ⟨by rw [cell_at hb]; rfl, ⟨_, _, hb⟩, fun e => ?_⟩
  rcases e with e | ⟨i, hi, e⟩
  · have := h.lt; omega
  · have := (h.row_kind hi e).lt; omega

/-- The tasks of fair shares without one. -/
theorem cut_fair (h : RefP B w q M) (hs : Fr.Same M.LF M.T Fr.noG M.W (fun _ => 0)) {lb k : Nat} (hb : Lb w q M.U lb k) (hk : k < 17) : ∃ V, w.cell? ⟨q, 0, none⟩ = some V ∧
    Calls Tryz.prog 33 #[V, .func (.func 34) #[] #[.pointer (some ⟨lb, 0, none⟩)]] w (fun e w' => ∃ v1 v2 v3 L2, e = .returned (.slice v1 v2 v3) ∧ w'.cell? ⟨q, 0, none⟩ = some V ∧ w'.frozen? ⟨q, 0, none⟩ = false ∧
      RefP B (w'.setCell ⟨q, 0, none⟩ (.slice v1 v2 v3)) q { M with LF := L2, T := Fr.outT M.T k } ∧ RStep B q M.U M.U w (w'.setCell ⟨q, 0, none⟩ (.slice v1 v2 v3)) ∧ Fr.Same L2 (Fr.outT M.T k) Fr.noG M.W (fun _ => 0)) := by
  obtain ⟨V, c0, hrow, hap⟩ := h.fair.slice
  have bd : ∀ g, V.ownBlock = some g → B ≤ g := fun g hg => own_low hrow hg
  have kd : ∀ g, V.ownBlock = some g → Kind w g 82 := fun g hg => by obtain ⟨cur, hc⟩ := owns_type hrow hg; exact ⟨cur, _, hc⟩
  refine ⟨V, c0, (Fr.del_any h.fair hs k hk c0 hb.cell (fun e => absurd (hb.kind.one (kd lb e)) (by decide))).mono ?_⟩
  rintro e w' ⟨v1, v2, v3, L2, rfl, k1, k2, k3, k4, k5, k6⟩
  have st : Still q 0 28 w (w'.setCell ⟨q, 0, none⟩ (.slice v1 v2 v3)) := (Still.of k6 h.lt (fun e => (hap q e).1 rfl)).set (by omega) (.slice v1 v2 v3)
  obtain ⟨q1, q2⟩ := h.by_fair (LF := L2) (W := M.W) k3 k5 st (fun x _ hx => hx.elim Or.inl (fun e => Or.inr (Or.inr (kd x e)))) (fun x hx => hx.elim (fun e => by subst e; exact h.fair.from'.1) (bd x))
  exact ⟨v1, v2, v3, L2, rfl, k1, k2, q1, q2, k4⟩
/-- The tasks of deadlines without one. -/
theorem cut_dead (h : RefP B w q M) (hs : De.Same M.LD M.d) {lb k : Nat} (hb : Lb w q M.U lb k) (hk : k < 17) : ∃ V, w.cell? ⟨q, 37, none⟩ = some V ∧
    Calls Tryz.prog 36 #[V, .func (.func 37) #[] #[.pointer (some ⟨lb, 0, none⟩)]] w (fun e w' => ∃ v1 v2 v3 L2, e = .returned (.slice v1 v2 v3) ∧ w'.cell? ⟨q, 37, none⟩ = some V ∧ w'.frozen? ⟨q, 37, none⟩ = false ∧
      RefP B (w'.setCell ⟨q, 37, none⟩ (.slice v1 v2 v3)) q { M with LD := L2, d := De.outT M.d k } ∧ RStep B q M.U M.U w (w'.setCell ⟨q, 37, none⟩ (.slice v1 v2 v3)) ∧ De.Same L2 (De.outT M.d k)) := by
  obtain ⟨V, c0, hrow, hap⟩ := h.dead.slice
  have bd : ∀ g, V.ownBlock = some g → B ≤ g := fun g hg => own_low hrow hg
  have kd : ∀ g, V.ownBlock = some g → Kind w g 86 := fun g hg => by obtain ⟨cur, hc⟩ := owns_type hrow hg; exact ⟨cur, _, hc⟩
  refine ⟨V, c0, (De.del_any h.dead hs k hk c0 hb.cell (fun e => absurd (hb.kind.one (kd lb e)) (by decide))).mono ?_⟩
  rintro e w' ⟨v1, v2, v3, L2, rfl, k1, k2, k3, k4, k5, k6⟩
  have st : Still q 36 2 w (w'.setCell ⟨q, 37, none⟩ (.slice v1 v2 v3)) := (Still.of k6 h.lt (fun e => (hap q e).1 rfl)).set (by omega) (.slice v1 v2 v3)
  obtain ⟨q1, q2⟩ := h.by_dead (LD := L2) (n := M.n) k3 k5 st (fun x _ hx => hx.elim Or.inl (fun e => Or.inr (Or.inr (kd x e)))) (fun x hx => hx.elim (fun e => by subst e; exact h.fair.from'.1) (bd x))
  exact ⟨v1, v2, v3, L2, rfl, k1, k2, q1, q2, k4⟩

/-- What such a call leaves of the reference. -/
structure Went (M M' : RSt) (k : Nat) : Prop where
  T : M'.T = Fr.outT M.T k
  Q : M'.Q = Pr.goneTo M.Q (k : Int) 8
  d : M'.d = De.outT M.d k
  n : M'.n = M.n
  W : M'.W = M.W
  fs : Fr.Same M'.LF (Fr.outT M.T k) Fr.noG M.W (fun _ => 0)
  ds : De.Same M'.LD (De.outT M.d k)
  C : M'.C = updN M.C k 0
  A : M'.A = M.A
  f : M'.f = M.f
  c : M'.c = M.c + 1
  now : M'.now = if M.now = k then 0 else M.now
  used : M'.used = if M.now = k then 0 else M.used
def RLeft (B q : Nat) (M : RSt) (k : Nat) (w : World) (e : Ending) (w' : World) : Prop := e = .returned (.int .i64 0) ∧ ∃ M', RefP B w' q M' ∧ RStep B q M.U M'.U w w' ∧ Went M M' k

theorem link_left {M' : RSt} (hL : Link S M) {k : Nat} (h1 : 1 ≤ k) (h2 : k ≤ 16) (h : Went M M' k) : Link (left S k) M' := by
  have ne : ∀ {j : Nat}, (left S k).C j ≠ 0 → j ≠ k ∧ S.C j ≠ 0 := fun {j} hc => by
    change Pr.upd S.C k 0 j ≠ 0 at hc
    by_cases e : j = k
    · subst e; rw [Pr.upd_same] at hc; exact absurd rfl hc
    · rw [Pr.upd_other _ _ e] at hc; exact ⟨e, hc⟩
  refine ⟨h.T.trans (by rw [hL.T]; rfl), h.Q.trans (by rw [hL.Q]; rfl), h.d.trans (by rw [hL.d]; rfl), h.n.trans hL.n, ?_, ?_, fun t => ?_, fun j j1 j2 hc => ?_, fun j v hv hm => ?_, fun j j1 j2 hc hm => ?_, ?_, fun h0 => ?_⟩
  · have := h.fs; rw [hL.T] at this; rw [h.W]; exact this
  · have := h.ds; rw [hL.d] at this; exact this
  · rw [h.C]
    show updN M.C k 0 t = if 1 ≤ t ∧ t ≤ 16 then Pr.upd S.C k 0 t.toNat else 0
    unfold updN
    by_cases e : t = k
    · subst e; rw [if_pos rfl, if_pos (by omega)]; simp [Pr.upd_same]
    · rw [if_neg e, hL.C t]
      by_cases e2 : 1 ≤ t ∧ t ≤ 16
      · rw [if_pos e2, if_pos e2, Pr.upd_other _ _ (by omega)]
      · rw [if_neg e2, if_neg e2]
  · obtain ⟨a1, a2⟩ := ne hc
    rw [h.f, ready_left, if_neg a1]; exact hL.off j j1 j2 a2
  · rw [h.A]; exact hL.inq j v hv ((mem_gone hv).1 hm).1
  · obtain ⟨a1, a2⟩ := ne (j := j) (by omega)
    have a3 : S.C j = 2 := by
      change Pr.upd S.C k 0 j = 2 at hc
      rw [Pr.upd_other _ _ a1] at hc; exact hc
    rw [h.A]; exact hL.outq j j1 j2 a3 (fun v hv hm2 => hm v hv ((mem_gone hv).2 ⟨hm2, by omega⟩))
  · rw [h.now, hL.now]; rfl
  · change (if S.now = (k : Int) then 0 else S.now) ≠ 0 at h0
    by_cases e : S.now = k
    · rw [if_pos e] at h0; exact absurd rfl h0
    · rw [if_neg e] at h0
      rw [h.used, hL.now, if_neg e]; exact hL.used h0

theorem rleave_free (h : RefP B w q M) (hL : Link S M) (t : Int) (wt0 : (Lit.int .i64 t).wf = true) (hf : Free S t) :
    Calls Tryz.prog 12 #[.pointer (some ⟨q, 0, none⟩), .int .i64 t] w (fun e w' => e = .returned (.int .i64 4) ∧ Only (fun _ => False) w w') := by
  have hO := Lib.hid ((Only.refl (fun _ => False) w).alloc (.cells #[.int .i64 t] 3)).drew
  have h2 := h.later hO.out
  have pc := h2.pc
  have cb := (Lb.made h t).cell
  have lc := h2.mc.look t wt0
  rw [show M.C t = 0 from by
    rw [hL.C]; unfold Free at hf
    by_cases e : 1 ≤ t ∧ t ≤ 16
    · rw [if_pos e]; omega
    · rw [if_neg e]] at lc
  clear h hL hf h2
  go_enter Tryz.func12, Tryz.ntmps12
  go_wp2_with fail
  go_region
  all_goals (
    (try go_wp2_with fail)
    go_ret
    exact ⟨rfl, hO.out⟩)

set_option maxHeartbeats 4000000 in
theorem rleave_yes (h : RefP B w q M) (hL : Link S M) (hI : Inv S b) (hc9 : M.c < 9000000000000000000) {k : Nat} (h1 : 1 ≤ k) (h2 : k ≤ 16) (hc : S.C k ≠ 0) :
    Calls Tryz.prog 12 #[.pointer (some ⟨q, 0, none⟩), .int .i64 k] w (RLeft B q M k w) := by
  have wt : Hid ((Lit.int .i64 (k : Int)).wf = true) := Lib.hid (i64_wf (by omega))
  have hO := Lib.hid ((Only.refl (fun _ => False) w).alloc (.cells #[.int .i64 (k : Int)] 3)).drew
  have H0 := Lib.hid (h.later hO.out)
  have LB0 := Lib.hid ((Lb.made h (k : Int)).step (B := B) (RStep.of_quiet ((Only.refl (fun _ => False) (w.alloc (.cells #[.int .i64 (k : Int)] 3))).drew)))
  have lc := H0.out.mc.look (k : Int) wt.out
  rw [C_at hL h2 hI] at lc
  have e0 : (S.C k == 0) = false := beq_eq_false_iff_ne.2 hc
  generalize S.C k = c0 at lc e0
  obtain ⟨VF, cf, KF⟩ := cut_fair H0.out (by rw [hL.T]; exact hL.fs) LB0.out (by omega)
  have KF := Lib.hid KF
  have KD := Lib.hid (fun (W : World) (M1 : RSt) (hH : RefP B W q M1) (hd : M1.LD = M.LD ∧ M1.d = M.d) (hb : Lb W q M1.U w.heap.size k) => cut_dead hH (by rw [hd.1, hd.2, hL.d]; exact hL.ds) hb (by omega))
  have KG := Lib.hid (fun (W : World) (M1 : RSt) (hH : RefP B W q M1) (hM : M1.Q = M.Q) => Pr.go_any (show Pr.QAt W q 28 44 M1.U M.Q from by have := hH.prio; rw [hM] at this; exact this) (fun j hj => by have := hI.uniq.len hj; rw [hL.Q]; omega) (k : Int))
  have HCN := Lib.hid hc9
  have S0 := Lib.hid (show RStep B q M.U M.U w _ from RStep.of_quiet hO.out)
  clear h hL hI hc9 hc
  go_enter Tryz.func12, Tryz.ntmps12
  go_wp2_with fail
  refine wp_region_still_tail 5 (by kernel_rfl) (by kernel_rfl) ?_
  show wpStill _ _ (w.alloc (.cells #[.int .i64 (k : Int)] 3)).drew (fun a' => wpList _ _ _ _ a' (w.alloc (.cells #[.int .i64 (k : Int)] 3)).drew) _ _
  generalize (w.alloc (.cells #[.int .i64 (k : Int)] 3)).drew = w0 at *
  have cb := LB0.out.cell
  have pc := H0.out.pc
  simp only [List.take_succ_cons, List.take_zero, List.drop_succ_cons, List.drop_zero]
  repeat still_step
  refine wpStill_nil ?_
  go_wp2_with (go_at_call 33; (with_reducible refine KF.out.mono ?_); rintro e w1 ⟨v1, v2, v3, L2, rfl, k1, k2, k3, k4, k5⟩; have H1 := Lib.hid k3; have S1 := Lib.hid k4; have F1 := Lib.hid k5; have LB1 := Lib.hid (LB0.out.step k4); clear k3 k4 k5)
  have hd1 := (Only.refl (fun _ => False) (w1.setCell ⟨q, 0, none⟩ (.slice v1 v2 v3))).drew
  have H2 := Lib.hid (H1.out.later hd1)
  have LB2 := Lib.hid (LB1.out.step (B := B) (RStep.of_quiet hd1))
  have S2 := Lib.hid (S1.out.trans (RStep.of_quiet hd1))
  clear H1 LB1 S1 hd1 k1 k2 cf cb pc KF LB0
  refine wp_region_still_tail 4 (by kernel_rfl) (by kernel_rfl) ?_
  show wpStill _ _ (w1.setCell ⟨q, 0, none⟩ (.slice v1 v2 v3)).drew (fun a' => wpList _ _ _ _ a' (w1.setCell ⟨q, 0, none⟩ (.slice v1 v2 v3)).drew) _ _
  generalize (w1.setCell ⟨q, 0, none⟩ (.slice v1 v2 v3)).drew = w2 at *
  have cb := LB2.out.cell
  simp only [List.take_succ_cons, List.take_zero, List.drop_succ_cons, List.drop_zero]
  repeat still_step
  refine wpStill_nil ?_
  go_wp2_with (first
    | (go_at_call 35; (with_reducible refine (KG.out _ _ H2.out rfl).mono ?_); rintro e w3 ⟨rfl, U2, hq2, hs2⟩; obtain ⟨q1, q2⟩ := H2.out.by_prio (by have := H2.out.low.1; have := (nums_map H2.out.mc).lt; omega) hq2 hs2; have H3 := Lib.hid q1; have S3 := Lib.hid q2; have LB3 := Lib.hid (LB2.out.step q2); obtain ⟨VD, cd, KDD⟩ := KD.out _ _ q1 ⟨rfl, rfl⟩ LB3.out; have KDD := Lib.hid KDD; clear hq2 hs2 q1 q2)
    | (go_at_call 36; (with_reducible refine KDD.out.mono ?_); rintro e w4 ⟨u1, u2, u3, L3, rfl, d1, d2, d3, d4, d5⟩; have H4 := Lib.hid d3; have S4 := Lib.hid d4; have F4 := Lib.hid d5; have LB4 := Lib.hid (LB3.out.step d4); clear d3 d4 d5))
  have hd4 := (Only.refl (fun _ => False) (w4.setCell ⟨q, 37, none⟩ (.slice u1 u2 u3))).drew
  have H5 := Lib.hid (H4.out.later hd4)
  have LB5 := Lib.hid (LB4.out.step (B := B) (RStep.of_quiet hd4))
  have S5 := Lib.hid (S4.out.trans (RStep.of_quiet hd4))
  clear H4 LB4 S4 hd4 d1 d2 cd cb KDD KD KG LB2 LB3
  refine wp_region_still_tail 5 (by kernel_rfl) (by kernel_rfl) ?_
  show wpStill _ _ (w4.setCell ⟨q, 37, none⟩ (.slice u1 u2 u3)).drew (fun a' => wpList _ _ _ _ a' (w4.setCell ⟨q, 37, none⟩ (.slice u1 u2 u3)).drew) _ _
  generalize (w4.setCell ⟨q, 37, none⟩ (.slice u1 u2 u3)).drew = w5 at *
  have cb := LB5.out.cell
  have pc := H5.out.pc
  simp only [List.take_succ_cons, List.take_zero, List.drop_succ_cons, List.drop_zero]
  repeat still_step
  refine wpStill_nil ?_
  refine wpList_num rfl _ _ _ rfl M.kc M.c M.C rfl H5.out.mc HCN.out (k : Int) 0 rfl rfl wt.out (by rfl) ?_
  intro w6 hM6 hO6
  obtain ⟨q1, q2⟩ := H5.out.maps (hO6.mono (fun _ _ e => Or.inl e)) hM6 ((H5.out.mv.keep hO6 (fun e => H5.out.k1 e.symm)).mono (Nat.le_succ _)) ((H5.out.mo.keep hO6 (fun e => H5.out.k2 e.symm)).mono (Nat.le_succ _))
  have H6 := Lib.hid q1
  have S6 := Lib.hid (S0.out.trans (S2.out.trans (S3.out.trans (S5.out.trans q2))))
  have LB6 := Lib.hid (LB5.out.step q2)
  clear hM6 hO6 q1 q2 S0 S2 S3 S5 LB5 pc cb H0 H2 H3 H5
  have cb := LB6.out.cell
  have cn : w6.cell? ⟨q, 41, none⟩ = some (.int .i64 M.now) := H6.out.now
  have cu : w6.cell? ⟨q, 42, none⟩ = some (.int .i64 M.used) := H6.out.used
  have cz := H6.out.fair.frozen
  by_cases e : M.now = k
  · have q0 : (M.now == (k : Int)) = true := beq_iff_eq.2 e
    go_wp2_with fail
    go_quiet (fail)
    go_wp2_with fail
    go_ret
    have hdn := fun n => only_drewN (Only.refl (fun _ => False) w6) n
    have st : ∀ n, ∃ M', RefP B (((w6.drewN n).setCell ⟨q, 41, none⟩ (.int .i64 0)).setCell ⟨q, 42, none⟩ (.int .i64 0)) q M' ∧ RStep B q M.U M'.U w (((w6.drewN n).setCell ⟨q, 41, none⟩ (.int .i64 0)).setCell ⟨q, 42, none⟩ (.int .i64 0)) ∧ Went M M' k := fun n => by
      obtain ⟨a1, a2⟩ := (H6.out.later (hdn n)).set_last 41 (Or.inl rfl) 0
      obtain ⟨b1, b2⟩ := a1.set_last 42 (Or.inr rfl) 0
      exact ⟨_, b1, S6.out.trans ((RStep.of_quiet (hdn n)).trans (a2.trans b2)), ⟨rfl, rfl, rfl, rfl, rfl, F1.out, F4.out, rfl, rfl, rfl, rfl, by rw [if_pos e]; rfl, by rw [if_pos e]; rfl⟩⟩
    exact ⟨rfl, st _⟩
  · have q0 : (M.now == (k : Int)) = false := beq_eq_false_iff_ne.2 e
    go_wp2_with fail
    go_quiet (fail)
    go_wp2_with fail
    go_ret
    have hdn := fun n => only_drewN (Only.refl (fun _ => False) w6) n
    have st : ∀ n, ∃ M', RefP B (w6.drewN n) q M' ∧ RStep B q M.U M'.U w (w6.drewN n) ∧ Went M M' k := fun n =>
      ⟨_, H6.out.later (hdn n), S6.out.trans (RStep.of_quiet (hdn n)), ⟨rfl, rfl, rfl, rfl, rfl, F1.out, F4.out, rfl, rfl, rfl, rfl, by rw [if_neg e], by rw [if_neg e]⟩⟩
    exact ⟨rfl, st _⟩
end
end Go.Proofs.YtpincdcebhmnhaaGreat.Rk
