/- Texts of this claim, merged: RkAdd4. -/
import Derived.Test.YtpincdcebhmnhaaGreatM34
import Derived.Test.YtpincdcebhmnhaaGreatM35
/- The reference of one processor's scheduler: a task of deadlines comes. -/
namespace Go.Proofs.YtpincdcebhmnhaaGreat.Rk
open Go.ChangeShapes Go.WideShapes Go.ChangeAt Go.RowKit Go.Maps
open Go.Proofs.YtpincdcebhmnhaaGreat.Of Go.Proofs.YtpincdcebhmnhaaGreat.Pk Go.Proofs.YtpincdcebhmnhaaGreat.Vt
set_option linter.unusedVariables false
set_option maxRecDepth 100000

section
variable {B : Nat} {w w' : World} {q : Nat} {M : RSt} {S : St} {b : Int}

set_option maxHeartbeats 4000000 in
theorem radd_dead (h : RefP B w q M) (hs : De.Same M.LD M.d) (hc9 : M.c < 9000000000000000000) {k : Nat} (h1 : 1 ≤ k) (h2 : k ≤ 16) (hc : M.C k = 0) (hT : (M.d k).p = 0) {x y : Int} (b1 : 1 ≤ x) (b2 : x ≤ y) (b3 : y ≤ 30) (n0 : 0 ≤ M.n) (nB : M.n ≤ 8000000000000000000) :
    Calls Tryz.prog 10 #[.pointer (some ⟨q, 0, none⟩), .int .i64 3, .int .i64 k, .int .i64 x, .int .i64 y] w (RCame B q M k 3 x (fun M' => M'.LF = M.LF ∧ M'.T = M.T ∧ M'.W = M.W ∧ M'.Q = M.Q ∧ M'.d = De.upd M.d k (De.came x y M.n) ∧ De.Same M'.LD M'.d) w) := by
  have H := Lib.hid h
  have wt : Hid ((Lit.int .i64 (k : Int)).wf = true) := Lib.hid (i64_wf (by omega))
  have WX : Hid ((Lit.int .i64 x).wf = true) := Lib.hid (i64_wf (by omega))
  have pc := h.pc
  have lc := h.mc.look (k : Int) wt.out
  rw [hc] at lc
  have kt := Lib.hid (ref_task (k : Int) w)
  rw [show isN (k : Int) = true from decide_eq_true (by omega)] at kt
  have HCN := Lib.hid hc9
  have hq := h.lt
  obtain ⟨V, c0, hrow, hap⟩ := h.dead.slice
  have cV : w.cell? ⟨q, 37, none⟩ = some V := c0
  have cn : w.cell? ⟨q, 36, none⟩ = some (.int .i64 M.n) := h.dead.now
  have bd : Hid (∀ g, V.ownBlock = some g → B ≤ g) := Lib.hid (fun g hg => own_low hrow hg)
  have kd : Hid (∀ g, V.ownBlock = some g → Kind w g 86) := Lib.hid (fun g hg => by obtain ⟨cur, hcur⟩ := owns_type hrow hg; exact ⟨cur, _, hcur⟩)
  have HAP := Lib.hid hap
  have oa := Lib.hid (((Only.refl (fun _ => False) w).alloc (.cells #[.int .i64 k, .int .i64 x, .int .i64 y, .int .i64 x, .int .i64 (M.n + y), .bool true, .bool false] 88)).alloc (.cells #[.pointer (some ⟨w.heap.size, 0, none⟩)] 86)).drew
  have RW := Lib.hid (hrow.later oa.out)
  have HTB : Hid ((((w.alloc (.cells #[.int .i64 k, .int .i64 x, .int .i64 y, .int .i64 x, .int .i64 (M.n + y), .bool true, .bool false] 88)).alloc (.cells #[.pointer (some ⟨w.heap.size, 0, none⟩)] 86)).drew).heap[w.heap.size]? = some (De.taskCells k (De.came x y M.n))) := Lib.hid ((((Only.refl (fun _ => False) (w.alloc (.cells #[.int .i64 k, .int .i64 x, .int .i64 y, .int .i64 x, .int .i64 (M.n + y), .bool true, .bool false] 88))).alloc (.cells #[.pointer (some ⟨w.heap.size, 0, none⟩)] 86)).block w.heap.size (by simp) id).trans (heap_alloc_new w _))
  have HBK : Hid ((((w.alloc (.cells #[.int .i64 k, .int .i64 x, .int .i64 y, .int .i64 x, .int .i64 (M.n + y), .bool true, .bool false] 88)).alloc (.cells #[.pointer (some ⟨w.heap.size, 0, none⟩)] 86)).drew).heap[w.heap.size + 1]? = some (.cells #[Pd.pt w.heap.size] 86 (0, 0))) := Lib.hid (by have := heap_alloc_new (w.alloc (.cells #[.int .i64 k, .int .i64 x, .int .i64 y, .int .i64 x, .int .i64 (M.n + y), .bool true, .bool false] 88)) (.cells #[.pointer (some ⟨w.heap.size, 0, none⟩)] 86); rw [show (w.alloc (.cells #[.int .i64 k, .int .i64 x, .int .i64 y, .int .i64 x, .int .i64 (M.n + y), .bool true, .bool false] 88)).heap.size = w.heap.size + 1 from by simp] at this; exact this)
  have HLL := Lib.hid (show (M.LD.map (fun z : Nat × Nat => z.1)).length ≤ 1000000 from by have := h.dead.len16 hs; simp; omega)
  have HZ := Lib.hid (show B ≤ (((w.alloc (.cells #[.int .i64 k, .int .i64 x, .int .i64 y, .int .i64 x, .int .i64 (M.n + y), .bool true, .bool false] 88)).alloc (.cells #[.pointer (some ⟨w.heap.size, 0, none⟩)] 86)).drew).heap.size from Nat.le_trans (by have := h.dead.from'.1; omega) oa.out.size)
  have HTL := Lib.hid (show ∀ z ∈ M.LD, z.2 ≠ k from fun z hz e => hs.there z hz (by rw [e]; exact hT))
  have HC0 := Lib.hid c0
  have SM : Hid (De.Same (M.LD ++ [(w.heap.size, k)]) (De.upd M.d k (De.came x y M.n))) := Lib.hid (hs.add h1 h2 (by show y ≠ 0; omega) hT)
  have z1 : ¬ y < 1 := by omega
  have z2 : ¬ 30 < y := by omega
  have z3 : ¬ x < 1 := by omega
  have z4 : ¬ y < x := by omega
  have hw : IntKind.i64.wrap (M.n + y) = M.n + y := IntWalk.i64_in _ (by omega)
  clear h hs hc9 hc hT hrow hap c0
  go_enter Tryz.func10, Tryz.ntmps10
  go_wp2_with (go_at_call 30; (with_reducible refine kt.out.mono ?_); rintro e w' ⟨rfl, rfl⟩)
  have dV1 : ∀ o, (w.alloc o).cell? ⟨q, 37, none⟩ = some V := fun o => (H.out.dead.later ((Only.refl (fun _ => False) w).alloc o)).slice.elim (fun V2 hV2 => (Pr.cell_kept ((Only.refl (fun _ => False) w).alloc o) hq id).trans cV)
  have dV2 : ∀ o o', ((w.alloc o).alloc o').cell? ⟨q, 37, none⟩ = some V := fun o o' => (Pr.cell_kept (((Only.refl (fun _ => False) w).alloc o).alloc o') hq id).trans cV
  have dV3 : ∀ o, (w.alloc o).drew.cell? ⟨q, 37, none⟩ = some V := dV1
  have dV4 : ∀ o o', ((w.alloc o).alloc o').drew.cell? ⟨q, 37, none⟩ = some V := dV2
  have dV5 : w.drew.cell? ⟨q, 37, none⟩ = some V := cV
  have dn5 : w.drew.cell? ⟨q, 36, none⟩ = some (.int .i64 M.n) := cn
  go_region_law (refine De.step_ptr (w := ((w.alloc (.cells #[.int .i64 k, .int .i64 x, .int .i64 y, .int .i64 x, .int .i64 (M.n + y), .bool true, .bool false] 88)).alloc (.cells #[.pointer (some ⟨w.heap.size, 0, none⟩)] 86)).drew) rfl (.tmp 24) (.tmp 38) rfl B (w.heap.size + 1) V (M.LD.map (fun z : Nat × Nat => z.1)) w.heap.size RW.out (by rfl) (by rfl) HBK.out HLL.out HZ.out ?_; intro g5 c5 w5 hr5 hO5 hat5; rw [List.length_map] at hr5; obtain ⟨k1, k2, k3, k4, k5⟩ := H.out.dead.snoc (x := De.came x y M.n) oa.out HTB.out (Nat.le_refl _) HTL.out HC0.out hr5 hO5 (fun z hz => by cases hz; exact hat5.imp_right (fun e => by rw [e]; exact Nat.le_refl _)); have k1 : w5.cell? ⟨q, 37, none⟩ = some V := k1; have k2 : w5.frozen? ⟨q, 37, none⟩ = false := k2; have H5 : Hid (RefP B (w5.setCell ⟨q, 37, none⟩ (.slice (some ⟨g5, 0, none⟩) (M.LD.length + 1) c5)) q { M with LD := M.LD ++ [(w.heap.size, k)], d := De.upd M.d k (De.came x y M.n), n := M.n } ∧ RStep B q M.U M.U w (w5.setCell ⟨q, 37, none⟩ (.slice (some ⟨g5, 0, none⟩) (M.LD.length + 1) c5))) := Lib.hid (H.out.by_dead k3 k4 ((Still.of k5 H.out.lt (fun e => (HAP.out q e).1 rfl)).set (by omega) _) (fun z _ hz => hz.elim Or.inl (fun e => Or.inr (Or.inr (kd.out z e)))) (fun z hz => hz.elim (fun e => by subst e; exact H.out.fair.from'.1) (bd.out z))); clear hr5 hO5 hat5 k3 k4 k5)
  all_goals (
    (try go_wp2_with fail)
    have H7 := Lib.hid H5.out.1
    have S7 := Lib.hid H5.out.2
    clear H5 k1 k2 dV1 dV2 dV3 dV4 dV5 dn5
    generalize w5.setCell ⟨q, 37, none⟩ (.slice (some ⟨g5, 0, none⟩) (M.LD.length + 1) c5) = w7 at *
    have hd := (Only.refl (fun _ => False) w7).drew
    have H8 := Lib.hid (H7.out.later hd)
    have S8 := Lib.hid (S7.out.trans (RStep.of_quiet hd))
    have p38 := H7.out.pc
    have p39 := H7.out.pv
    have p40 := H7.out.po
    clear hd S7
    obtain ⟨y0, z0, w8, w9, e1, e2, n9, o9⟩ := H8.out.mc.assign HCN.out (k : Int) 3 wt.out (by rfl)
    obtain ⟨y1, z1, w10, w11, e3, e4, n11, o11⟩ := (H8.out.mv.keep o9 (fun e => H8.out.k1 e.symm)).assign HCN.out (k : Int) x wt.out WX.out
    obtain ⟨y2, z2, w12, w13, e5, e6, n13, o13⟩ := ((H8.out.mo.keep o9 (fun e => H8.out.k2 e.symm)).keep o11 (fun e => H8.out.k3 e.symm)).assign HCN.out (k : Int) false wt.out
    have q8 := Lib.hid (H8.out.came n9 o9 n11 o11 n13 o13)
    clear n9 o9 n11 o11 n13 o13 H7 pc lc cV cn
    go_region
    all_goals (
      (try go_wp2_with fail)
      go_ret
      exact ⟨rfl, _, q8.out.1, S8.out.trans q8.out.2, ⟨rfl, rfl, rfl, rfl, rfl, rfl, rfl⟩, ⟨rfl, rfl, rfl, rfl, rfl, SM.out⟩⟩))
end
end Go.Proofs.YtpincdcebhmnhaaGreat.Rk
