/- Texts of this claim, merged: RkAdd3. -/
import Derived.Test.YtpincdcebhmnhaaGreatM32
import Derived.Test.YtpincdcebhmnhaaGreatM33
/- The reference of one processor's scheduler: a task of fair shares comes. -/
namespace Go.Proofs.YtpincdcebhmnhaaGreat.Rk
open Go.ChangeShapes Go.WideShapes Go.ChangeAt Go.RowKit Go.Maps
open Go.Proofs.YtpincdcebhmnhaaGreat.Of Go.Proofs.YtpincdcebhmnhaaGreat.Pk Go.Proofs.YtpincdcebhmnhaaGreat.Vt
set_option linter.unusedVariables false
set_option maxRecDepth 100000

section
variable {B : Nat} {w w' : World} {q : Nat} {M : RSt} {S : St} {b : Int}

set_option maxHeartbeats 4000000 in
theorem radd_fair (h : RefP B w q M) (hs : Fr.Same M.LF M.T Fr.noG M.W (fun _ => 0)) (h0 : (M.T 0).r = false) (hrc : ∀ t, t < 17 → (M.T t).r = true → (M.T t).c ≠ 0) (hc9 : M.c < 9000000000000000000) {k : Nat} (h1 : 1 ≤ k) (h2 : k ≤ 16) (hc : M.C k = 0) (hT : (M.T k).c = 0) {x : Int} (hx : isW x = true) (y : Int) :
    Calls Tryz.prog 10 #[.pointer (some ⟨q, 0, none⟩), .int .i64 1, .int .i64 k, .int .i64 x, .int .i64 y] w (RCame B q M k 1 x (fun M' => M'.T = Fr.addT M.T Fr.noG k (costOf x) 0 ∧ M'.Q = M.Q ∧ M'.LD = M.LD ∧ M'.d = M.d ∧ Fr.Same M'.LF M'.T Fr.noG M'.W (fun _ => 0)) w) := by
  have H := Lib.hid h
  have hx2 := isW_yes hx
  have wt : Hid ((Lit.int .i64 (k : Int)).wf = true) := Lib.hid (i64_wf (by omega))
  have WX : Hid ((Lit.int .i64 x).wf = true) := Lib.hid (i64_wf (by omega))
  have pc := h.pc
  have lc := h.mc.look (k : Int) wt.out
  rw [hc] at lc
  have kt := Lib.hid (ref_task (k : Int) w)
  rw [show isN (k : Int) = true from decide_eq_true (by omega)] at kt
  have kw := Lib.hid (ref_weight x w)
  rw [hx] at kw
  have HCN := Lib.hid hc9
  have hq := h.lt
  obtain ⟨V, c0, hrow, hap⟩ := h.fair.slice
  have bd : Hid (∀ g, V.ownBlock = some g → B ≤ g) := Lib.hid (fun g hg => own_low hrow hg)
  have kd : Hid (∀ g, V.ownBlock = some g → Kind w g 82) := Lib.hid (fun g hg => by obtain ⟨cur, hcur⟩ := owns_type hrow hg; exact ⟨cur, _, hcur⟩)
  have HAP := Lib.hid hap
  have oa := Lib.hid (((Only.refl (fun _ => False) w).alloc (.cells #[.int .i64 k, .int .i64 x, .int .i64 0, .int .i64 0, .bool false] 84)).alloc (.cells #[.pointer (some ⟨w.heap.size, 0, none⟩)] 82))
  have RW := Lib.hid (hrow.later oa.out)
  have HTB : Hid (((w.alloc (.cells #[.int .i64 k, .int .i64 x, .int .i64 0, .int .i64 0, .bool false] 84)).alloc (.cells #[.pointer (some ⟨w.heap.size, 0, none⟩)] 82)).heap[w.heap.size]? = some (Fr.taskCells k x 0 0 false)) := Lib.hid ((((Only.refl (fun _ => False) (w.alloc (.cells #[.int .i64 k, .int .i64 x, .int .i64 0, .int .i64 0, .bool false] 84))).alloc (.cells #[.pointer (some ⟨w.heap.size, 0, none⟩)] 82)).block w.heap.size (by simp) id).trans (heap_alloc_new w _))
  have HBK : Hid (((w.alloc (.cells #[.int .i64 k, .int .i64 x, .int .i64 0, .int .i64 0, .bool false] 84)).alloc (.cells #[.pointer (some ⟨w.heap.size, 0, none⟩)] 82)).heap[w.heap.size + 1]? = some (.cells #[Pt.pt w.heap.size] 82 (0, 0))) := Lib.hid (by have := heap_alloc_new (w.alloc (.cells #[.int .i64 k, .int .i64 x, .int .i64 0, .int .i64 0, .bool false] 84)) (.cells #[.pointer (some ⟨w.heap.size, 0, none⟩)] 82); rw [show (w.alloc (.cells #[.int .i64 k, .int .i64 x, .int .i64 0, .int .i64 0, .bool false] 84)).heap.size = w.heap.size + 1 from by simp] at this; exact this)
  have HLEN := Lib.hid (show (M.LF.map (·.1)).length + 1 ≤ 17000000000000 from by have := h.fair.len16 hs; simp; omega)
  have HZ := Lib.hid (show B ≤ ((w.alloc (.cells #[.int .i64 k, .int .i64 x, .int .i64 0, .int .i64 0, .bool false] 84)).alloc (.cells #[.pointer (some ⟨w.heap.size, 0, none⟩)] 82)).heap.size from by have := h.fair.from'.1; have := h.lt; simp; omega)
  have HTL := Lib.hid (show ∀ z ∈ M.LF, z.2 ≠ k from fun z hz e => hs.in_c hz (by rw [e]; exact hT))
  have HC0 := Lib.hid c0
  have e1 : (Fr.upd M.T k ⟨costOf x, 0, 0, false⟩ k) = ⟨costOf x, 0, 0, false⟩ := Fr.upd_same _ _ _
  have EG := Lib.hid (show Fr.wokeG (Fr.upd M.T k ⟨costOf x, 0, 0, false⟩) Fr.noG k = Fr.noG from Fr.wokeG_0 (by rw [e1]))
  have SM : Hid (∀ bb, Fr.Same (M.LF ++ [(bb, k)]) (Fr.upd M.T k ⟨costOf x, 0, 0, false⟩) Fr.noG (Fr.upd M.W k x) (fun _ => 0)) := Lib.hid (fun bb => hs.add h1 h2 hx hT)
  have WK := Lib.hid (fun (W : World) (hR : Fr.RefAt B W q 0 44 (M.LF ++ [(w.heap.size, k)]) (Fr.upd M.T k ⟨costOf x, 0, 0, false⟩) Fr.noG (Fr.upd M.W k x) (fun _ => 0)) => Fr.wokeup_solo hR (SM.out _) (by rw [Fr.upd_other _ _ (by omega)]; exact h0) (fun t ht hr => by
    by_cases e : t = k
    · subst e; rw [Fr.upd_same] at hr; cases hr
    · rw [Fr.upd_other _ _ e] at hr ⊢; exact hrc t ht hr) (b := w.heap.size) (t := k) (by simp) (by rw [e1]; exact Int.le_refl _) (by rw [e1]))
  clear h hs h0 hrc hc9 hc hT hx hx2 hrow hap e1
  go_enter Tryz.func10, Tryz.ntmps10
  go_wp2_with (first
    | (go_at_call 30; (with_reducible refine kt.out.mono ?_); rintro e w' ⟨rfl, rfl⟩)
    | (go_at_call 31; (with_reducible refine kw.out.mono ?_); rintro e w' ⟨rfl, rfl⟩)
    | (at_builtin; go_must (refine Pt.append_row rfl _ _ rfl B (w.heap.size + 1) 1 V (M.LF.map (fun z : Nat × Nat => z.1)) w.heap.size rfl (by first | rfl | simp [Act.eval]) RW.out HBK.out HLEN.out HZ.out ?_); go_must (intro v5 w5 hr5 hO5 hb5 hsh5); rw [List.length_map] at hsh5; obtain ⟨g5, c5, rfl⟩ := hsh5; obtain ⟨k1, k2, k3, k4, k5⟩ := H.out.fair.snoc (c := costOf x) oa.out HTB.out (Nat.le_refl _) HTL.out HC0.out hr5 hO5 hb5; have H5 := Lib.hid (H.out.by_fair k3 k4 ((Still.of k5 H.out.lt (fun e => (HAP.out q e).1 rfl)).set (by omega) _) (fun z _ hz => hz.elim Or.inl (fun e => Or.inr (Or.inr (kd.out z e)))) (fun z hz => hz.elim (fun e => by subst e; exact H.out.fair.from'.1) (bd.out z))); clear hr5 hO5 hb5 k3 k4 k5)
    | (go_at_call 32; (with_reducible refine (WK.out _ H5.out.1.fair).mono ?_); rintro e w6 ⟨rfl, hR6, hO6⟩; rw [EG.out] at hR6; have H6 := Lib.hid (H5.out.1.by_fair hR6 hO6 (Still.of hO6 H5.out.1.lt (fun e => H5.out.1.fair.apart (w.heap.size, k) (by simp) e.symm)) (fun z _ hz => Or.inr (Or.inl (by subst hz; exact ⟨_, _, H5.out.1.fair.task (w.heap.size, k) (by simp)⟩))) (fun z hz => by subst hz; exact H5.out.1.fair.from'.2 (w.heap.size, k) (by simp))); clear hR6 hO6))
  have SM2 := Lib.hid (fsame_congr (SM.out w.heap.size) (fun t _ => (Fr.woke_cg (Fr.upd M.T k ⟨costOf x, 0, 0, false⟩) Fr.noG k).1 t))
  have H7 := Lib.hid H6.out.1
  have S7 := Lib.hid (H5.out.2.trans H6.out.2)
  clear H6 H5
  generalize w6 = w7 at *
  have hd := (Only.refl (fun _ => False) w7).drew
  have H8 := Lib.hid (H7.out.later hd)
  have S8 := Lib.hid (S7.out.trans (RStep.of_quiet hd))
  have p38 := H7.out.pc
  have p39 := H7.out.pv
  have p40 := H7.out.po
  clear hd S7
  obtain ⟨y0, z0, w8, w9, e1, e2, n9, o9⟩ := H8.out.mc.assign HCN.out (k : Int) 1 wt.out (by rfl)
  obtain ⟨y1, z1, w10, w11, e3, e4, n11, o11⟩ := (H8.out.mv.keep o9 (fun e => H8.out.k1 e.symm)).assign HCN.out (k : Int) x wt.out WX.out
  obtain ⟨y2, z2, w12, w13, e5, e6, n13, o13⟩ := ((H8.out.mo.keep o9 (fun e => H8.out.k2 e.symm)).keep o11 (fun e => H8.out.k3 e.symm)).assign HCN.out (k : Int) false wt.out
  have q8 := Lib.hid (H8.out.came n9 o9 n11 o11 n13 o13)
  clear n9 o9 n11 o11 n13 o13 H7 pc lc c0 hq
  go_region
  all_goals (
    (try go_wp2_with fail)
    go_ret
    exact ⟨rfl, _, q8.out.1, S8.out.trans q8.out.2, ⟨rfl, rfl, rfl, rfl, rfl, rfl, rfl⟩, ⟨rfl, rfl, rfl, rfl, SM2.out⟩⟩)
end
end Go.Proofs.YtpincdcebhmnhaaGreat.Rk
