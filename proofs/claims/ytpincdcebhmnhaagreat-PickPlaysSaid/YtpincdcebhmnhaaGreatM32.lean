/- Texts of this claim, merged: RkAdd2. -/
import Derived.Test.YtpincdcebhmnhaaGreatM31
/- The reference of one processor's scheduler: a task of fixed priority comes. -/
namespace Go.Proofs.YtpincdcebhmnhaaGreat.Rk
open Go.ChangeShapes Go.WideShapes Go.ChangeAt Go.RowKit Go.Maps
open Go.Proofs.YtpincdcebhmnhaaGreat.Of Go.Proofs.YtpincdcebhmnhaaGreat.Pk Go.Proofs.YtpincdcebhmnhaaGreat.Vt
set_option linter.unusedVariables false
set_option maxRecDepth 100000

/-- What a task that comes leaves of the three maps, and of the last two numbers. -/
structure Came (M M' : RSt) (k : Nat) (cl x : Int) : Prop where
  c : M'.c = M.c + 1
  C : M'.C = updN M.C k cl
  A : M'.A = updN M.A k x
  f : M'.f = updI M.f k false
  now : M'.now = M.now
  used : M'.used = M.used
  n : M'.n = M.n
/-- The three maps tell it too. -/
theorem RefP.came {B : Nat} {w w1 w2 w3 : World} {q : Nat} {M : RSt} (h : RefP B w q M) {k : Nat} {cl x : Int} (h1 : NumsAt w1 M.kc (M.c + 1) (updN M.C k cl)) (o1 : Only (· = M.kc) w w1) (h2 : NumsAt w2 M.kv (M.c + 1) (updN M.A k x)) (o2 : Only (· = M.kv) w1 w2) (h3 : OffAt w3 M.ko (M.c + 1) (updI M.f k false)) (o3 : Only (· = M.ko) w2 w3) :
    RefP B w3 q { M with c := M.c + 1, C := updN M.C k cl, A := updN M.A k x, f := updI M.f k false } ∧ RStep B q M.U M.U w w3 :=
  h.maps (((o1.mono (T := fun k => k = M.kc ∨ k = M.kv ∨ k = M.ko) (fun _ _ e => Or.inl e)).trans o2 (fun _ _ e => Or.inr (Or.inl e))).trans o3 (fun _ _ e => Or.inr (Or.inr e)))
    ((h1.keep o2 h.k1).keep o3 h.k2) (h2.keep o3 h.k3) h3
def RCame (B q : Nat) (M : RSt) (k : Nat) (cl x : Int) (P : RSt → Prop) (w : World) (e : Ending) (w' : World) : Prop := e = .returned (.int .i64 0) ∧ ∃ M', RefP B w' q M' ∧ RStep B q M.U M'.U w w' ∧ Came M M' k cl x ∧ P M'

section
variable {B : Nat} {w w' : World} {q : Nat} {M : RSt} {S : St} {b : Int}

set_option maxHeartbeats 1500000 in
theorem radd_prio (h : RefP B w q M) (hl : ∀ v, v < 8 → (M.Q v).length ≤ 1000) (hc9 : M.c < 9000000000000000000) {k : Nat} (h1 : 1 ≤ k) (h2 : k ≤ 16) (hc : M.C k = 0) {v : Nat} (hv8 : v < 8) (y : Int) :
    Calls Tryz.prog 10 #[.pointer (some ⟨q, 0, none⟩), .int .i64 2, .int .i64 k, .int .i64 v, .int .i64 y] w (RCame B q M k 2 v (fun M' => M'.LF = M.LF ∧ M'.T = M.T ∧ M'.W = M.W ∧ M'.LD = M.LD ∧ M'.d = M.d ∧ M'.Q = Pr.upd M.Q v (M.Q v ++ [(k : Int)])) w) := by
  have H := Lib.hid h
  have wt : Hid ((Lit.int .i64 (k : Int)).wf = true) := Lib.hid (i64_wf (by omega))
  have WX : Hid ((Lit.int .i64 (v : Int)).wf = true) := Lib.hid (i64_wf (by omega))
  have pc := h.pc
  have lc := h.mc.look (k : Int) wt.out
  rw [hc] at lc
  have kt := Lib.hid (ref_task (k : Int) w)
  rw [show isN (k : Int) = true from decide_eq_true (by omega)] at kt
  have HCN := Lib.hid hc9
  have x1 : ¬ (v : Int) < 0 := by omega
  have x2 : ¬ 7 < (v : Int) := by omega
  have x3 : (v : Int) < 8 := by omega
  have c2 : w.cell? ⟨q, 28 + v, none⟩ = some (M.U v) := h.prio.cell hv8
  have hp2 := h.lt
  obtain ⟨sa, sc, hsv, -, -⟩ := (h.prio.row v hv8).shape
  have HSV := Lib.hid hsv
  rw [hsv] at c2
  have HLEN := Lib.hid (show (M.Q v).length + 1 ≤ 17000000000000 from by have := hl v hv8; omega)
  clear h hl hc hsv hc9
  go_enter Tryz.func10, Tryz.ntmps10
  go_wp2_with (go_at_call 30; (with_reducible refine kt.out.mono ?_); rintro e w' ⟨rfl, rfl⟩)
  go_region_law (refine Pr.step_add rfl (.tmp 117) (.tmp 119) rfl w q 28 44 w.heap.size M.U M.Q v (k : Int) H.out.prio hv8 ((Only.refl _ w).alloc _).drew (by rw [HSV.out]; rfl) (by rfl) (heap_alloc_new w _) HLEN.out ?_; intro g c w3 q1 q2 HA; rw [HSV.out] at q1)
  all_goals (
    (try go_wp2_with fail)
    have HB0 := Lib.hid (H.out.by_prio (by have := H.out.low.1; have := (nums_map H.out.mc).lt; omega) HA.out.at_ HA.out.step)
    clear HA q1 q2
    have H7 := Lib.hid HB0.out.1
    have S7 := Lib.hid HB0.out.2
    clear HB0
    generalize w3.setCell ⟨q, 28 + v, none⟩ (.slice (some ⟨g, 0, none⟩) ((M.Q v).length + 1) c) = w7 at *
    have hd := (Only.refl (fun _ => False) w7).drew
    have H8 := Lib.hid (H7.out.later hd)
    have S8 := Lib.hid (S7.out.trans (RStep.of_quiet hd))
    have p38 := H7.out.pc
    have p39 := H7.out.pv
    have p40 := H7.out.po
    clear hd S7
    obtain ⟨y0, z0, w8, w9, e1, e2, n9, o9⟩ := H8.out.mc.assign HCN.out (k : Int) 2 wt.out (by rfl)
    obtain ⟨y1, z1, w10, w11, e3, e4, n11, o11⟩ := (H8.out.mv.keep o9 (fun e => H8.out.k1 e.symm)).assign HCN.out (k : Int) (v : Int) wt.out WX.out
    obtain ⟨y2, z2, w12, w13, e5, e6, n13, o13⟩ := ((H8.out.mo.keep o9 (fun e => H8.out.k2 e.symm)).keep o11 (fun e => H8.out.k3 e.symm)).assign HCN.out (k : Int) false wt.out
    have q8 := Lib.hid (H8.out.came n9 o9 n11 o11 n13 o13)
    clear n9 o9 n11 o11 n13 o13 H7 pc lc x1 x2 x3 c2 hp2
    go_region
    all_goals (
      (try go_wp2_with fail)
      go_ret
      exact ⟨rfl, _, q8.out.1, S8.out.trans q8.out.2, ⟨rfl, rfl, rfl, rfl, rfl, rfl, rfl⟩, ⟨rfl, rfl, rfl, rfl, rfl, rfl⟩⟩))
end
end Go.Proofs.YtpincdcebhmnhaaGreat.Rk
