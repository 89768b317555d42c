/- Texts of this claim, merged: OFRefSet, OFWokeUp, OFWokeUp2, PtDelT, OFFairs, OFGone, Elay, ODPtRow, ODRef. -/
import Derived.Test.YtpincdcebhmnhaaGreatM14
import Derived.Test.YtpincdcebhmnhaaGreatM18
import Derived.Test.YtpincdcebhmnhaaGreatM09
import Derived.Test.YtpincdcebhmnhaaGreatM13
import Derived.Test.YtpincdcebhmnhaaGreatRows
import Derived.Shelf.SlicesE.DeleteFunc
import Derived.Ground.SlgfProg
import Derived.Test.YtpincdcebhmnhaaGreatM01
import Derived.Shelf.GgSortFunc.Whole
import Derived.Deep.AppendLies
import Derived.Deep.RegionLaw
import Derived.Test.YtpincdcebhmnhaaGreatM07
/- Stores into the reference's class of fair shares. -/
namespace Go.Proofs.YtpincdcebhmnhaaGreat.Fr
open Go.ChangeShapes Go.WideShapes Go.ChangeAt Go.RowKit Go.Maps
open Go.Proofs.YtpincdcebhmnhaaGreat.Vt Go.Proofs.YtpincdcebhmnhaaGreat.Pt
set_option linter.unusedVariables false

section
variable {B : Nat} {w : World} {q o D : Nat} {L : List (Nat × Nat)} {T : Tks} {G : Grs} {W GW : Nat → Int} {b t : Nat}

theorem RefAt.block_of (h : RefAt B w q o D L T G W GW) (hx : (b, t) ∈ L) {y : Nat × Nat} (hy : y ∈ L) (e : y.1 = b) : y.2 = t := by
  obtain ⟨f, hf⟩ := h.numbers
  have h1 := hf _ hx
  have h2 := hf _ hy
  simp only at h1
  rw [e, h1] at h2; exact h2.symm

theorem RefAt.only_task (h : RefAt B w q o D L T G W GW) (hx : (b, t) ∈ L) (j : Nat) (u : Value) {T' : Tks} (hT : ∀ y ∈ L, y.1 ≠ b → T' y.2 = T y.2)
    (hb : (w.setCell ⟨b, j, none⟩ u).heap[b]? = some (taskCells t (W t) (T' t).g (T' t).v (T' t).r)) : RefAt B (w.setCell ⟨b, j, none⟩ u) q o D L T' G W GW := by
  have hO : Only (fun k => k = b) w (w.setCell ⟨b, j, none⟩ u) := (Only.refl (fun k => k = b) w).setCell (p := ⟨b, j, none⟩) rfl u
  have h' := h
  obtain ⟨⟨cs, V, h1, h2, h3, h4⟩, h5, h6, h7, h8, h9⟩ := h
  refine ⟨⟨cs, V, (hO.block q (block_there h1) (fun e => h7 _ hx e.symm)).trans h1, h2, h3.keep hO (fun g hg e => (h4 g hg).2 _ hx e), h4⟩, fun y hy => ?_, h6, h7, h8, h9⟩
  by_cases e : y.1 = b
  · have e2 := h'.block_of hx hy e
    rw [e, e2]; exact hb
  · rw [hT y hy e]
    exact (hO.block y.1 (block_there (h5 y hy)) e).trans (h5 y hy)

theorem RefAt.num_other (h : RefAt B w q o D L T G W GW) (hx : (b, t) ∈ L) {y : Nat × Nat} (hy : y ∈ L) (e : y.1 ≠ b) : y.2 ≠ t := fun e2 => e (h.same_num (t := t) (by rw [← e2]; exact hy) hx)

theorem RefAt.set_v (h : RefAt B w q o D L T G W GW) (hx : (b, t) ∈ L) (x : Int) : RefAt B (w.setCell ⟨b, 3, none⟩ (.int .i64 x)) q o D L (upd T t ⟨(T t).c, x, (T t).g, (T t).r⟩) G W GW := by
  refine h.only_task hx 3 _ (fun y hy e => upd_other _ _ (h.num_other hx hy e)) ?_
  have h1 := h.task _ hx
  rw [upd_same]
  exact heap_setCell_same w b 3 _ _ (.int .i64 x) h1
theorem RefAt.set_r (h : RefAt B w q o D L T G W GW) (hx : (b, t) ∈ L) (x : Bool) : RefAt B (w.setCell ⟨b, 4, none⟩ (.bool x)) q o D L (upd T t ⟨(T t).c, (T t).v, (T t).g, x⟩) G W GW := by
  refine h.only_task hx 4 _ (fun y hy e => upd_other _ _ (h.num_other hx hy e)) ?_
  have h1 := h.task _ hx
  rw [upd_same]
  exact heap_setCell_same w b 4 _ _ (.bool x) h1

/-- A store into the class itself. -/
theorem RefAt.only_self (h : RefAt B w q o D L T G W GW) (j : Nat) (u : Value) {G' : Grs} {GW' : Nat → Int} (hc : ∀ cs V, RCells o cs V G GW → RCells o (cs.setIfInBounds j u) V G' GW') : RefAt B (w.setCell ⟨q, j, none⟩ u) q o D L T G' W GW' := by
  have hO : Only (fun k => k = q) w (w.setCell ⟨q, j, none⟩ u) := (Only.refl (fun k => k = q) w).setCell (p := ⟨q, j, none⟩) rfl u
  obtain ⟨⟨cs, V, h1, h2, h3, h4⟩, h5, h6, h7, h8, h9⟩ := h
  exact ⟨⟨_, V, heap_setCell_same w q j cs _ u h1, hc cs V h2, h3.keep hO (fun g hg e => (h4 g hg).1 e), h4⟩, fun y hy => (hO.block y.1 (block_there (h5 y hy)) (h7 y hy)).trans (h5 y hy), h6, h7, h8, h9⟩

theorem RefAt.set_gv (h : RefAt B w q o D L T G W GW) (g : Nat) (hg : g < 9) (x : Int) : RefAt B (w.setCell ⟨q, o + 1 + g * 3 + 2, none⟩ (.int .i64 x)) q o D L T (upd G g ⟨(G g).c, x⟩) W GW := by
  refine h.only_self _ _ (fun cs V hc => ?_)
  have hs := hc.size
  refine ⟨by simp [hs], ?_, ?_, ?_, ?_⟩
  · rw [Array.getElem?_setIfInBounds, if_neg (by omega)]; exact hc.v
  all_goals
    intro j hj
    rw [Array.getElem?_setIfInBounds]
  · rw [if_neg (by omega), hc.is j hj]; unfold upd; split <;> simp_all
  · rw [if_neg (by omega)]; exact hc.gw j hj
  · by_cases e : j = g
    · subst e; rw [if_pos rfl, if_pos (by omega), upd_same]
    · rw [if_neg (by omega), upd_other _ _ e]; exact hc.gv j hj
theorem RefAt.set_is (h : RefAt B w q o D L T G W GW) (g : Nat) (hg : g < 9) (x : Int) (hx : x ≠ 0) : RefAt B (w.setCell ⟨q, o + 1 + g * 3, none⟩ (.bool true)) q o D L T (upd G g ⟨x, (G g).v⟩) W GW := by
  refine h.only_self _ _ (fun cs V hc => ?_)
  have hs := hc.size
  refine ⟨by simp [hs], ?_, ?_, ?_, ?_⟩
  · rw [Array.getElem?_setIfInBounds, if_neg (by omega)]; exact hc.v
  all_goals
    intro j hj
    rw [Array.getElem?_setIfInBounds]
  · by_cases e : j = g
    · subst e; rw [if_pos rfl, if_pos (by omega), upd_same]; simp [hx]
    · rw [if_neg (by omega), upd_other _ _ e]; exact hc.is j hj
  · rw [if_neg (by omega)]; exact hc.gw j hj
  · rw [if_neg (by omega), hc.gv j hj]; unfold upd; split <;> simp_all
theorem RefAt.set_gw (h : RefAt B w q o D L T G W GW) (g : Nat) (hg : g < 9) (x : Int) : RefAt B (w.setCell ⟨q, o + 1 + g * 3 + 1, none⟩ (.int .i64 x)) q o D L T G W (upd GW g x) := by
  refine h.only_self _ _ (fun cs V hc => ?_)
  have hs := hc.size
  refine ⟨by simp [hs], ?_, ?_, ?_, ?_⟩
  · rw [Array.getElem?_setIfInBounds, if_neg (by omega)]; exact hc.v
  all_goals
    intro j hj
    rw [Array.getElem?_setIfInBounds]
  · rw [if_neg (by omega)]; exact hc.is j hj
  · by_cases e : j = g
    · subst e; rw [if_pos rfl, if_pos (by omega), upd_same]
    · rw [if_neg (by omega), upd_other _ _ e]; exact hc.gw j hj
  · rw [if_neg (by omega)]; exact hc.gv j hj
end
end Go.Proofs.YtpincdcebhmnhaaGreat.Fr
/- The reference's WakeUp. -/
namespace Go.Proofs.YtpincdcebhmnhaaGreat.Fr
open Go.ChangeShapes Go.WideShapes Go.ChangeAt Go.RowKit Go.Maps
open Go.Proofs.YtpincdcebhmnhaaGreat.Vt Go.Proofs.YtpincdcebhmnhaaGreat.Pt
set_option linter.unusedVariables false

theorem nextTo_zero {T : Tks} {G : Grs} (k : Nat) : (nextTo T G k).1 = 0 → (nextTo T G k).2 = 0 := by
  induction k with
  | zero => exact fun _ => rfl
  | succ k ih =>
    unfold nextTo
    split
    · rename_i h; exact fun e => absurd e h.1
    · exact ih
theorem next_zero {T : Tks} {G : Grs} : (next T G).1 = 0 → (next T G).2 = 0 := by
  unfold next
  split
  · rename_i h; exact fun e => absurd e h.1
  · exact nextTo_zero 8

/-- What WakeUp leaves. -/
def WokeAns (B : Nat) (w : World) (q o D b : Nat) (L : List (Nat × Nat)) (T : Tks) (G : Grs) (W GW : Nat → Int) (e : Ending) (w' : World) : Prop :=
  e = .returned (.tuple #[]) ∧ RefAt B w' q o D L T G W GW ∧ Only (fun k => k = q ∨ k = b) w w'

/-- What it leaves of a task that is in no group: no more than that task has changed. -/
def WokeSolo (B : Nat) (w : World) (q o D b : Nat) (L : List (Nat × Nat)) (T : Tks) (G : Grs) (W GW : Nat → Int) (e : Ending) (w' : World) : Prop :=
  e = .returned (.tuple #[]) ∧ RefAt B w' q o D L T G W GW ∧ Only (fun k => k = b) w w'
theorem WokeSolo.any {B : Nat} {w : World} {q o D b : Nat} {L : List (Nat × Nat)} {T : Tks} {G : Grs} {W GW : Nat → Int} {e : Ending} {w' : World} (h : WokeSolo B w q o D b L T G W GW e w') : WokeAns B w q o D b L T G W GW e w' :=
  ⟨h.1, h.2.1, h.2.2.mono (fun _ _ e => Or.inr e)⟩
theorem only_bb {w w2 : World} {b : Nat} (h : Only (fun _ => False) w w2) (j : Nat) (u : Value) : Only (fun k => k = b) w (w2.setCell ⟨b, j, none⟩ u) :=
  (h.mono (T := fun k => k = b) (fun _ _ e => e.elim)).setCell (p := ⟨b, j, none⟩) rfl u
theorem only_bb2 {w w2 : World} {b : Nat} (h : Only (fun k => k = b) w w2) (j : Nat) (u : Value) : Only (fun k => k = b) w (w2.setCell ⟨b, j, none⟩ u) := h.setCell (p := ⟨b, j, none⟩) rfl u

theorem only_b {w w2 : World} {q b : Nat} (h : Only (fun _ => False) w w2) (j : Nat) (u : Value) : Only (fun k => k = q ∨ k = b) w (w2.setCell ⟨b, j, none⟩ u) :=
  (h.mono (T := fun k => k = q ∨ k = b) (fun _ _ e => e.elim)).setCell (p := ⟨b, j, none⟩) (Or.inr rfl) u
theorem only_q {w w2 : World} {q b : Nat} (h : Only (fun _ => False) w w2) (j : Nat) (u : Value) : Only (fun k => k = q ∨ k = b) w (w2.setCell ⟨q, j, none⟩ u) :=
  (h.mono (T := fun k => k = q ∨ k = b) (fun _ _ e => e.elim)).setCell (p := ⟨q, j, none⟩) (Or.inl rfl) u
theorem only_b2 {w w2 : World} {q b : Nat} (h : Only (fun k => k = q ∨ k = b) w w2) (j : Nat) (u : Value) : Only (fun k => k = q ∨ k = b) w (w2.setCell ⟨b, j, none⟩ u) := h.setCell (p := ⟨b, j, none⟩) (Or.inr rfl) u

section
variable {B : Nat} {w : World} {q o D b t : Nat} {L : List (Nat × Nat)} {T : Tks} {G : Grs} {W GW : Nat → Int}

theorem RefAt.set_vr (h : RefAt B w q o D L T G W GW) (hx : (b, t) ∈ L) (x : Int) : RefAt B ((w.setCell ⟨b, 3, none⟩ (.int .i64 x)).setCell ⟨b, 4, none⟩ (.bool true)) q o D L (upd T t ⟨(T t).c, x, (T t).g, true⟩) G W GW := by
  have := (h.set_v hx x).set_r hx true
  rwa [upd_upd, upd_same] at this
end

/-- The least of the times that compete, as Min answers it. -/
theorem least_is {T : Tks} {G : Grs} {U : List Int} {n : Nat} (h0 : (T 0).r = false) (h : Tops T G U) (hn : U.length = n) (hz : (next T G).1 ≠ 0) : 1 ≤ n ∧ leastTo U (n - 1) = (next T G).2 := by
  have h1 : U ≠ [] := fun e => hz ((tops_empty h0 h).1 e)
  have h2 := List.length_pos_iff.2 h1
  refine ⟨by omega, ?_⟩
  have hls := leastTo_spec U (n - 1) (by omega)
  exact tops_least h0 h hls.1 (fun x hx => by
    obtain ⟨i, hi, e⟩ := List.getElem_of_mem hx
    have := hls.2 i (by omega)
    rw [← e]; simpa [List.getD, hi] using this)

set_option maxRecDepth 100000 in
set_option maxHeartbeats 1000000 in
theorem wokeup_solo {B : Nat} {w : World} {q o D b t : Nat} {L : List (Nat × Nat)} {T : Tks} {G : Grs} {W GW : Nat → Int} (h : RefAt B w q o D L T G W GW) (hs : Same L T G W GW) (h0 : (T 0).r = false) (hrc : ∀ t, t < 17 → (T t).r = true → (T t).c ≠ 0) (hx : (b, t) ∈ L) (hv : 0 ≤ (T t).v) (hg : (T t).g = 0) :
    Calls Tryz.prog 32 #[.pointer (some ⟨q, o, none⟩), .pointer (some ⟨b, 0, none⟩)] w (WokeSolo B w q o D b L (wokeT T G t) (wokeG T G t) W GW) := by
  have H := Lib.hid h
  have HS := Lib.hid h0
  have HX := Lib.hid hx
  have ct := Lib.hid (topsr_any h hs h0 hrc)
  have co := Lib.hid (fun (w2 : World) (hO : Only (fun _ => False) w w2) => ofh_any (h.later hO) hs h0 hrc 0)
  have HG0 := Lib.hid hg
  have HT := Lib.hid (wokeT_0 (G := G) hg)
  have HG := Lib.hid (wokeG_0 (G := G) hg)
  have dg0 := h.tg hx
  rw [hg] at dg0
  clear h hs h0 hrc hx hg
  by_cases hz : (next T G).1 = 0
  · have HZ := Lib.hid hz
    have HE : Hid (max (T t).v (next T G).2 = (T t).v) := Lib.hid (by rw [next_zero hz]; omega)
    clear hz
    go_enter Tryz.func32, Tryz.ntmps32
    go_upto_region 6 with (first
      | (go_at_call 62; (with_reducible refine ct.out.mono ?_); rintro e w1 ⟨at1, nt, ct1, U, rfl, hU, hnt, hNU, hT, hO⟩; have HU := Lib.hid hU; have HNT := Lib.hid hnt; have HNU := Lib.hid hNU; have HTT := Lib.hid hT; have HO1 := Lib.hid hO; have dg := (H.out.later hO).tg HX.out; rw [HG0.out] at dg; clear hU hnt hNU hT hO)
      | (go_at_call 63; (with_reducible refine (co.out _ HO1.out).mono ?_); rintro e w2 ⟨a2, n2, c2, K, rfl, hK, hc1, hc2, hn16, hrow, hmem, hz, hnz, hO2⟩; have HO2 := Lib.hid (HO1.out.trans hO2 (fun _ _ h => h)); have HN2 := Lib.hid (HNU.out.later hO2); have H2 := Lib.hid (H.out.later HO2.out); have dg2 := H2.out.tg HX.out; rw [HG0.out] at dg2; skip; clear hK hrow hmem hz hnz hO2))
    have hn0 : nt = 0 := by have := (tops_empty HS.out HTT.out).2 HZ.out; have := HU.out; simp_all
    have e1 : ¬ (0 : Int) < nt := by omega
    have e2 : decide ((0 : Int) < nt) = false := decide_eq_false e1
    go_quiet (fail)
    have H3 := Lib.hid (H2.out.later (only_drewN (Only.refl (fun _ => False) w2) nq))
    have HO3 := Lib.hid (only_drewN HO2.out nq)
    have d4 := H3.out.tr HX.out
    have f4 := H3.out.tfrozen HX.out 4
    generalize w2.drewN nq = w3 at *
    go_wp2_with fail
    go_end0
    refine ⟨rfl, ?_, only_bb HO3.out _ _⟩
    rw [HT.out, HG.out, HE.out]
    exact H3.out.set_r HX.out true
  · have HZ := Lib.hid hz
    obtain ⟨m, hm⟩ : ∃ m, (next T G).2 = m := ⟨_, rfl⟩
    have HM := Lib.hid hm
    clear hz hm
    go_enter Tryz.func32, Tryz.ntmps32
    go_upto_region 6 with (first
      | (go_at_call 62; (with_reducible refine ct.out.mono ?_); rintro e w1 ⟨at1, nt, ct1, U, rfl, hU, hnt, hNU, hT, hO⟩; have HU := Lib.hid hU; have HNT := Lib.hid hnt; have HNU := Lib.hid hNU; have HTT := Lib.hid hT; have HO1 := Lib.hid hO; have dg := (H.out.later hO).tg HX.out; rw [HG0.out] at dg; clear hU hnt hNU hT hO)
      | (go_at_call 63; (with_reducible refine (co.out _ HO1.out).mono ?_); rintro e w2 ⟨a2, n2, c2, K, rfl, hK, hc1, hc2, hn16, hrow, hmem, hz, hnz, hO2⟩; have HO2 := Lib.hid (HO1.out.trans hO2 (fun _ _ h => h)); have HN2 := Lib.hid (HNU.out.later hO2); have H2 := Lib.hid (H.out.later HO2.out); have dg2 := H2.out.tg HX.out; rw [HG0.out] at dg2; skip; clear hK hrow hmem hz hnz hO2))
    have hle := least_is HS.out HTT.out HU.out HZ.out
    have e1 : (0 : Int) < nt := by omega
    have e2 : decide ((0 : Int) < nt) = true := decide_eq_true e1
    have e1n : 0 < nt := by omega
    have e2n : decide (0 < nt) = true := decide_eq_true e1n
    have cm := min_any at1 nt ct1 U
    have CM : Hid (∀ w2, Nums w2 (.slice at1 nt ct1) U → Calls Tryz.prog 64 #[.slice at1 nt ct1] w2 fun e w' => e = .returned (.int .i64 m) ∧ w2 = w') := Lib.hid (fun w2 hN => by
      have := cm w2 hN HU.out hle.1 (by have := HNT.out; omega)
      rw [hle.2, HM.out] at this; exact this)
    have dv2 := H2.out.tv HX.out
    clear cm hle
    by_cases hlt : (T t).v < m
    · have e3 : decide ((T t).v < m) = true := decide_eq_true hlt
      have HE : Hid (max (T t).v (next T G).2 = m) := Lib.hid (by rw [HM.out]; omega)
      have C1 := Lib.hid (fun n => (CM.out (w2.drewN n) (HN2.out.later (only_drewN (Only.refl (fun _ => False) w2) n))).mono (fun e w' h => (⟨h.1, h.2.symm⟩ : e = .returned (.int .i64 m) ∧ w' = w2.drewN n)))
      go_quiet ((go_at_call 64; (with_reducible exact Calls.quiet_of_same (C1.out _))))
      have H3 := Lib.hid (H2.out.later (only_drewN (Only.refl (fun _ => False) w2) nq))
      have HO3 := Lib.hid (only_drewN HO2.out nq)
      have C2 := Lib.hid (CM.out _ (HN2.out.later (only_drewN (Only.refl (fun _ => False) w2) nq)))
      have d3 := H3.out.tv HX.out
      have f3 := H3.out.tfrozen HX.out
      have d4 := H3.out.tr HX.out
      generalize w2.drewN nq = w3 at *
      go_wp2_with (go_at_call 64; (with_reducible refine C2.out.mono ?_); rintro e w' ⟨rfl, rfl⟩)
      go_end0
      refine ⟨rfl, ?_, only_bb2 (only_bb HO3.out _ _) _ _⟩
      rw [HT.out, HG.out, HE.out]
      exact H3.out.set_vr HX.out m
    · have e3 : decide ((T t).v < m) = false := decide_eq_false hlt
      have HE : Hid (max (T t).v (next T G).2 = (T t).v) := Lib.hid (by rw [HM.out]; omega)
      have C1 := Lib.hid (fun n => (CM.out (w2.drewN n) (HN2.out.later (only_drewN (Only.refl (fun _ => False) w2) n))).mono (fun e w' h => (⟨h.1, h.2.symm⟩ : e = .returned (.int .i64 m) ∧ w' = w2.drewN n)))
      go_quiet ((go_at_call 64; (with_reducible exact Calls.quiet_of_same (C1.out _))))
      have H3 := Lib.hid (H2.out.later (only_drewN (Only.refl (fun _ => False) w2) nq))
      have HO3 := Lib.hid (only_drewN HO2.out nq)
      have d4 := H3.out.tr HX.out
      have f4 := H3.out.tfrozen HX.out 4
      generalize w2.drewN nq = w3 at *
      go_wp2_with fail
      go_end0
      refine ⟨rfl, ?_, only_bb HO3.out _ _⟩
      rw [HT.out, HG.out, HE.out]
      exact H3.out.set_r HX.out true
end Go.Proofs.YtpincdcebhmnhaaGreat.Fr
/- The reference's WakeUp, of a task in a group. -/
namespace Go.Proofs.YtpincdcebhmnhaaGreat.Fr
open Go.ChangeShapes Go.WideShapes Go.ChangeAt Go.RowKit Go.Maps
open Go.Proofs.YtpincdcebhmnhaaGreat.Vt Go.Proofs.YtpincdcebhmnhaaGreat.Pt
set_option linter.unusedVariables false

theorem upd_keep {α : Type} (f : Nat → α) (k : Nat) {x : α} (h : f k = x) : upd f k x = f := by
  funext j; unfold upd; split
  · rename_i e; subst e; exact h.symm
  · rfl

set_option maxRecDepth 100000 in
set_option maxHeartbeats 1000000 in
theorem wokeup_mate {B : Nat} {w : World} {q o D b t : Nat} {L : List (Nat × Nat)} {T : Tks} {G : Grs} {W GW : Nat → Int} (h : RefAt B w q o D L T G W GW) (hs : Same L T G W GW) (h0 : (T 0).r = false) (hrc : ∀ t, t < 17 → (T t).r = true → (T t).c ≠ 0) (hx : (b, t) ∈ L) (hg1 : 1 ≤ (T t).g) (hg8 : (T t).g ≤ 8) (hf : first T (T t).g ≠ 0) :
    Calls Tryz.prog 32 #[.pointer (some ⟨q, o, none⟩), .pointer (some ⟨b, 0, none⟩)] w (WokeAns B w q o D b L (wokeT T G t) (wokeG T G t) W GW) := by
  have H := Lib.hid h
  have HS := Lib.hid h0
  have HX := Lib.hid hx
  have ct := Lib.hid (topsr_any h hs h0 hrc)
  obtain ⟨g, hgg⟩ : ∃ g : Nat, (T t).g = g := ⟨(T t).g.toNat, by omega⟩
  have co := Lib.hid (fun (w2 : World) (hO : Only (fun _ => False) w w2) => ofh_any (h.later hO) hs h0 hrc g)
  have HG0 := Lib.hid hgg
  have HT := Lib.hid (wokeT_2 (G := G) (by omega) hf)
  have HG := Lib.hid (wokeG_2 (G := G) hf)
  have dg0 := h.tg hx
  rw [hgg] at dg0
  have g3 : ((g : Int) == 0) = false := by simp; omega
  have g9 : (g : Int) < 9 := by omega
  have g9n : g < 9 := by omega
  rw [hgg] at hf
  have HF := Lib.hid hf
  obtain ⟨f, hff⟩ : ∃ f, first T (T t).g = f := ⟨_, rfl⟩
  have hff2 : first T (g : Int) = f := by rw [← hgg]; exact hff
  rw [hff] at HT
  obtain ⟨vf, hvf⟩ : ∃ vf, (T f).v = vf := ⟨_, rfl⟩
  have HFF := Lib.hid hff2
  have HVF := Lib.hid hvf
  clear h hs h0 hrc hx hg1 hg8 hgg hf hff hff2 hvf
  go_enter Tryz.func32, Tryz.ntmps32
  go_upto_region 9 with (first
    | (go_at_call 62; (with_reducible refine ct.out.mono ?_); rintro e w1 ⟨at1, nt, ct1, U, rfl, hU, hnt, hNU, hT, hO⟩; have HU := Lib.hid hU; have HNT := Lib.hid hnt; have HNU := Lib.hid hNU; have HTT := Lib.hid hT; have HO1 := Lib.hid hO; have dg := (H.out.later hO).tg HX.out; rw [HG0.out] at dg; clear hU hnt hNU hT hO)
    | (go_at_call 63; (with_reducible refine (co.out _ HO1.out).mono ?_); rintro e w2 ⟨a2, n2, c2, K, rfl, hK, hc1, hc2, hn16, hrow, hmem, hz, hnz, hO2⟩; have HO2 := Lib.hid (HO1.out.trans hO2 (fun _ _ h => h)); have HN2 := Lib.hid (HNU.out.later hO2); have H2 := Lib.hid (H.out.later HO2.out); have dg2 := H2.out.tg HX.out; rw [HG0.out] at dg2; have n0 : (0 : Int) < n2 := (by have : n2 ≠ 0 := fun h => HF.out (by have := hz h; exact this); omega); have hkn := (hnz (by omega)).2; rw [HFF.out] at hkn; obtain ⟨gk, rfl, -, -, d0⟩ := row_at hrow (j := 0) (by omega); have dv0 := H2.out.tv hkn; have dvx := H2.out.tv HX.out; have HKN := Lib.hid hkn; generalize K.getD 0 0 = b0 at *; unfold pt at d0; clear hkn; clear hK hrow hmem hz hnz hO2))
  rw [HVF.out] at dv0
  by_cases hlt : (T t).v < vf
  · have e3 : decide ((T t).v < vf) = true := decide_eq_true hlt
    have HE : Hid (max (T t).v (T f).v = vf) := Lib.hid (by rw [HVF.out]; omega)
    go_quiet (fail)
    have H3 := Lib.hid (H2.out.later (only_drewN (Only.refl (fun _ => False) w2) nq))
    have HO3 := Lib.hid (only_drewN HO2.out nq)
    have d03 : (w2.drewN nq).cell? ⟨gk, 0, none⟩ = some (.pointer (some ⟨b0, 0, none⟩)) := d0
    have d3v : (w2.drewN nq).cell? ⟨b0, 3, none⟩ = some (.int .i64 vf) := dv0
    have d3 := H3.out.tv HX.out
    have f3 := H3.out.tfrozen HX.out
    have d4 := H3.out.tr HX.out
    clear d0 dv0 dvx dg2
    generalize w2.drewN nq = w3 at *
    go_wp2_with fail
    go_end0
    refine ⟨rfl, ?_, only_b2 (only_b HO3.out _ _) _ _⟩
    rw [HT.out, HG.out, HE.out]
    exact H3.out.set_vr HX.out vf
  · have e3 : decide ((T t).v < vf) = false := decide_eq_false hlt
    have HE : Hid (max (T t).v (T f).v = (T t).v) := Lib.hid (by rw [HVF.out]; omega)
    go_quiet (fail)
    have H3 := Lib.hid (H2.out.later (only_drewN (Only.refl (fun _ => False) w2) nq))
    have HO3 := Lib.hid (only_drewN HO2.out nq)
    have d4 := H3.out.tr HX.out
    have f4 := H3.out.tfrozen HX.out 4
    clear d0 dv0 dvx dg2
    generalize w2.drewN nq = w3 at *
    go_wp2_with fail
    go_end0
    refine ⟨rfl, ?_, only_b HO3.out _ _⟩
    rw [HT.out, HG.out, HE.out]
    exact H3.out.set_r HX.out true

set_option maxRecDepth 100000 in
set_option maxHeartbeats 1000000 in
theorem wokeup_group {B : Nat} {w : World} {q o D b t : Nat} {L : List (Nat × Nat)} {T : Tks} {G : Grs} {W GW : Nat → Int} (h : RefAt B w q o D L T G W GW) (hs : Same L T G W GW) (h0 : (T 0).r = false) (hrc : ∀ t, t < 17 → (T t).r = true → (T t).c ≠ 0) (hx : (b, t) ∈ L) (hg1 : 1 ≤ (T t).g) (hg8 : (T t).g ≤ 8) (hf : first T (T t).g = 0) (hv : 0 ≤ (G (T t).g.toNat).v) :
    Calls Tryz.prog 32 #[.pointer (some ⟨q, o, none⟩), .pointer (some ⟨b, 0, none⟩)] w (WokeAns B w q o D b L (wokeT T G t) (wokeG T G t) W GW) := by
  have H := Lib.hid h
  have HS := Lib.hid h0
  have HX := Lib.hid hx
  have ct := Lib.hid (topsr_any h hs h0 hrc)
  obtain ⟨g, hgg⟩ : ∃ g : Nat, (T t).g = g := ⟨(T t).g.toNat, by omega⟩
  have co := Lib.hid (fun (w2 : World) (hO : Only (fun _ => False) w w2) => ofh_any (h.later hO) hs h0 hrc g)
  have HG0 := Lib.hid hgg
  have HT := Lib.hid (wokeT_1 (G := G) (by omega) hf)
  have HG := Lib.hid (wokeG_1 (G := G) (by omega) hf)
  have dg0 := h.tg hx
  rw [hgg] at dg0
  have g3 : ((g : Int) == 0) = false := by simp; omega
  have g9 : (g : Int) < 9 := by omega
  have g9n : g < 9 := by omega
  have hgt : (T t).g.toNat = g := by omega
  rw [hgt] at HG hv
  rw [hgg] at hf
  have HF := Lib.hid hf
  clear h hs h0 hrc hx hg1 hg8 hgg hf hgt
  by_cases hz0 : (next T G).1 = 0
  · have HZ := Lib.hid hz0
    have HE : Hid (max (G g).v (next T G).2 = (G g).v) := Lib.hid (by rw [next_zero hz0]; omega)
    clear hz0
    go_enter Tryz.func32, Tryz.ntmps32
    go_upto_region 2 with (first
    | (go_at_call 62; (with_reducible refine ct.out.mono ?_); rintro e w1 ⟨at1, nt, ct1, U, rfl, hU, hnt, hNU, hT, hO⟩; have HU := Lib.hid hU; have HNT := Lib.hid hnt; have HNU := Lib.hid hNU; have HTT := Lib.hid hT; have HO1 := Lib.hid hO; have dg := (H.out.later hO).tg HX.out; rw [HG0.out] at dg; clear hU hnt hNU hT hO)
    | (go_at_call 63; (with_reducible refine (co.out _ HO1.out).mono ?_); rintro e w2 ⟨a2, n2, c2, K, rfl, hK, hc1, hc2, hn16, hrow, hmem, hz, hnz, hO2⟩; have HO2 := Lib.hid (HO1.out.trans hO2 (fun _ _ h => h)); have HN2 := Lib.hid (HNU.out.later hO2); have H2 := Lib.hid (H.out.later HO2.out); have dg2 := H2.out.tg HX.out; rw [HG0.out] at dg2; have n0 : ¬ (0 : Int) < n2 := (by intro h; exact (hnz (by omega)).1 HF.out); have n0n : ¬ 0 < n2 := (by omega); clear hK hrow hmem hz hnz hO2))
    go_quiet (fail)
    have H3 := Lib.hid (H2.out.later (only_drewN (Only.refl (fun _ => False) w2) nq))
    have HO3 := Lib.hid (only_drewN HO2.out nq)
    have hn0 : nt = 0 := by have := (tops_empty HS.out HTT.out).2 HZ.out; have := HU.out; simp_all
    have e1 : ¬ (0 : Int) < nt := by omega
    have e2 : decide ((0 : Int) < nt) = false := decide_eq_false e1
    clear dg2
    generalize w2.drewN nq = w3 at *
    go_upto_region 3 with (fail)
    go_quiet (fail)
    have H4 := Lib.hid (H3.out.later (only_drewN (Only.refl (fun _ => False) w3) nq))
    have HO4 := Lib.hid (only_drewN HO3.out nq)
    have d4 := H4.out.tr HX.out
    have f4 := H4.out.tfrozen HX.out 4
    generalize w3.drewN nq = w4 at *
    go_wp2_with fail
    go_end0
    refine ⟨rfl, ?_, only_b HO4.out _ _⟩
    rw [HT.out, HG.out, HE.out, upd_keep _ _ rfl]
    exact H4.out.set_r HX.out true
  · have HZ := Lib.hid hz0
    obtain ⟨m, hm⟩ : ∃ m, (next T G).2 = m := ⟨_, rfl⟩
    have HM := Lib.hid hm
    clear hz0 hm
    go_enter Tryz.func32, Tryz.ntmps32
    go_upto_region 2 with (first
    | (go_at_call 62; (with_reducible refine ct.out.mono ?_); rintro e w1 ⟨at1, nt, ct1, U, rfl, hU, hnt, hNU, hT, hO⟩; have HU := Lib.hid hU; have HNT := Lib.hid hnt; have HNU := Lib.hid hNU; have HTT := Lib.hid hT; have HO1 := Lib.hid hO; have dg := (H.out.later hO).tg HX.out; rw [HG0.out] at dg; clear hU hnt hNU hT hO)
    | (go_at_call 63; (with_reducible refine (co.out _ HO1.out).mono ?_); rintro e w2 ⟨a2, n2, c2, K, rfl, hK, hc1, hc2, hn16, hrow, hmem, hz, hnz, hO2⟩; have HO2 := Lib.hid (HO1.out.trans hO2 (fun _ _ h => h)); have HN2 := Lib.hid (HNU.out.later hO2); have H2 := Lib.hid (H.out.later HO2.out); have dg2 := H2.out.tg HX.out; rw [HG0.out] at dg2; have n0 : ¬ (0 : Int) < n2 := (by intro h; exact (hnz (by omega)).1 HF.out); have n0n : ¬ 0 < n2 := (by omega); clear hK hrow hmem hz hnz hO2))
    have hle := least_is HS.out HTT.out HU.out HZ.out
    have cm := min_any at1 nt ct1 U
    have CM : Hid (∀ w2, Nums w2 (.slice at1 nt ct1) U → Calls Tryz.prog 64 #[.slice at1 nt ct1] w2 fun e w' => e = .returned (.int .i64 m) ∧ w2 = w') := Lib.hid (fun w2 hN => by
      have := cm w2 hN HU.out hle.1 (by have := HNT.out; omega)
      rw [hle.2, HM.out] at this; exact this)
    have e1 : (0 : Int) < nt := by omega
    have e2 : decide ((0 : Int) < nt) = true := decide_eq_true e1
    have e1n : 0 < nt := by omega
    have e2n : decide (0 < nt) = true := decide_eq_true e1n
    clear cm hle
    go_quiet (fail)
    have H3 := Lib.hid (H2.out.later (only_drewN (Only.refl (fun _ => False) w2) nq))
    have HO3 := Lib.hid (only_drewN HO2.out nq)
    have HN3 := Lib.hid (HN2.out.later (only_drewN (Only.refl (fun _ => False) w2) nq))
    clear dg2
    generalize w2.drewN nq = w3 at *
    have dv3 := H3.out.gv g g9n
    have C1 := Lib.hid (fun n => (CM.out (w3.drewN n) (HN3.out.later (only_drewN (Only.refl (fun _ => False) w3) n))).mono (fun e w' h => (⟨h.1, h.2.symm⟩ : e = .returned (.int .i64 m) ∧ w' = w3.drewN n)))
    by_cases hlt : (G g).v < m
    · have e3 : decide ((G g).v < m) = true := decide_eq_true hlt
      have HE : Hid (max (G g).v (next T G).2 = m) := Lib.hid (by rw [HM.out]; omega)
      go_upto_region 3 with (fail)
      go_quiet ((go_at_call 64; (with_reducible exact Calls.quiet_of_same (C1.out _))))
      have H4 := Lib.hid (H3.out.later (only_drewN (Only.refl (fun _ => False) w3) nq))
      have HO4 := Lib.hid (only_drewN HO3.out nq)
      have C2 := Lib.hid (CM.out _ (HN3.out.later (only_drewN (Only.refl (fun _ => False) w3) nq)))
      have d3 := H4.out.gv g g9n
      have f3 := H4.out.frozen
      have d4 := H4.out.tr HX.out
      have f4 := H4.out.tfrozen HX.out 4
      have HNE := Lib.hid (H4.out.apart _ HX.out)
      generalize w3.drewN nq = w4 at *
      go_upto_region 11 with (go_at_call 64; (with_reducible refine C2.out.mono ?_); rintro e w' ⟨rfl, rfl⟩)
      have H5 := Lib.hid (H4.out.set_gv g g9n m)
      have HO5 := Lib.hid (only_q (q := q) (b := b) HO4.out (o + 1 + g * 3 + 2) (.int .i64 m))
      have d5 := H5.out.tr HX.out
      have f5 := H5.out.tfrozen HX.out 4
      clear d3 f3 d4 f4
      generalize w4.setCell ⟨q, o + 1 + g * 3 + 2, none⟩ (.int .i64 m) = w5 at *
      go_wp2_with fail
      go_end0
      refine ⟨rfl, ?_, only_b2 HO5.out _ _⟩
      rw [HT.out, HG.out, HE.out]
      exact H5.out.set_r HX.out true
    · have e3 : decide ((G g).v < m) = false := decide_eq_false hlt
      have HE : Hid (max (G g).v (next T G).2 = (G g).v) := Lib.hid (by rw [HM.out]; omega)
      go_upto_region 3 with (fail)
      go_quiet ((go_at_call 64; (with_reducible exact Calls.quiet_of_same (C1.out _))))
      have H4 := Lib.hid (H3.out.later (only_drewN (Only.refl (fun _ => False) w3) nq))
      have HO4 := Lib.hid (only_drewN HO3.out nq)
      have d4 := H4.out.tr HX.out
      have f4 := H4.out.tfrozen HX.out 4
      generalize w3.drewN nq = w4 at *
      go_wp2_with fail
      go_end0
      refine ⟨rfl, ?_, only_b HO4.out _ _⟩
      rw [HT.out, HG.out, HE.out, upd_keep _ _ rfl]
      exact H4.out.set_r HX.out true

theorem wokeup_any {B : Nat} {w : World} {q o D b t : Nat} {L : List (Nat × Nat)} {T : Tks} {G : Grs} {W GW : Nat → Int} {M : Int} (h : RefAt B w q o D L T G W GW) (hs : Same L T G W GW) (hF : Fit T G M) (h0 : (T 0).r = false) (hx : (b, t) ∈ L) :
    Calls Tryz.prog 32 #[.pointer (some ⟨q, o, none⟩), .pointer (some ⟨b, 0, none⟩)] w (WokeAns B w q o D b L (wokeT T G t) (wokeG T G t) W GW) := by
  have ht := hs.num _ hx
  simp only at ht
  have hg := hF.g t (by omega)
  have hv := hF.v t (by omega)
  by_cases e : (T t).g = 0
  · exact (wokeup_solo h hs h0 hF.rc hx hv.1 e).mono fun e w' k => k.any
  · by_cases f : first T (T t).g = 0
    · exact wokeup_group h hs h0 hF.rc hx (by omega) hg.2 f (hF.gv _ (by omega)).1
    · exact wokeup_mate h hs h0 hF.rc hx (by omega) hg.2 f
end Go.Proofs.YtpincdcebhmnhaaGreat.Fr
/- slices.DeleteFunc of pointers to tasks, by a task's number. -/
namespace Go.Proofs.YtpincdcebhmnhaaGreat.Pt
open Go.ChangeShapes Go.WideShapes Go.ChangeAt Go.RowKit Go.Maps
set_option linter.unusedVariables false

/-- The closure: has a task that number? -/
theorem asks_num (x Bx : Nat) (m t : Int) (W : World) (hx : W.cell? ⟨x, 0, none⟩ = some (.int .i64 m)) (hB : W.cell? ⟨Bx, 0, none⟩ = some (.int .i64 t)) :
    Calls Tryz.prog 34 #[pt x, .pointer (some ⟨Bx, 0, none⟩)] W (fun e w' => e = .returned (.bool (m == t)) ∧ Only (fun _ => False) W w') := by
  unfold pt
  go_enter Tryz.func34, Tryz.ntmps34
  go_wp2_with fail
  go_quiet (fail)
  go_wp2_with fail
  go_ret
  exact ⟨rfl, only_drewN (Only.refl _ _) _⟩

section
variable {w w' : World} {B g n c : Nat} {S : List Nat}
theorem RowAt.there (h : RowAt w B (.slice (some ⟨g, 0, none⟩) n c) S) : n = S.length ∧ n ≤ c ∧ c ≤ 9223372036854775807 ∧ B ≤ g ∧ ∃ cur, w.heap[g]? = some (.cells cur 82 (0, 0)) ∧ cur.size = c ∧ cur.toList.take (S.length * 1) = S.map pt := by
  rcases h.2 with ⟨h1, _⟩ | ⟨g', cap', cur, h1, hb, h2, h3, h4, h5, h6⟩
  · cases h1
  · obtain ⟨e1, e2, e3⟩ := Value.slice.inj h1
    cases e1
    subst e3
    unfold maxLen at h4
    exact ⟨e2, by omega, by omega, hb, cur, h2, by omega, h6⟩
theorem RowAt.mk {cur : Array Value} (hg : w.heap[g]? = some (.cells cur 82 (0, 0))) (hB : B ≤ g) (hn : n = S.length) (hc : n ≤ c) (hm : c ≤ 9223372036854775807) (hs : cur.size = c) (hm2 : c ≤ maxLen) (ht : cur.toList.take (S.length * 1) = S.map pt) : RowAt w B (.slice (some ⟨g, 0, none⟩) n c) S := by
  subst hn
  exact ⟨by simp, Or.inr ⟨g, c, cur, rfl, hB, hg, hc, hm2, by omega, ht⟩⟩
theorem RowAt.max (h : RowAt w B (.slice (some ⟨g, 0, none⟩) n c) S) : c ≤ maxLen := by
  rcases h.2 with ⟨h1, _⟩ | ⟨g', cap', cur, h1, hb, h2, h3, h4, h5, h6⟩
  · cases h1
  · obtain ⟨e1, e2, e3⟩ := Value.slice.inj h1
    subst e3
    exact h4
/-- A pointer stored in a row. -/
theorem RowAt.set (h : RowAt w B (.slice (some ⟨g, 0, none⟩) n c) S) {i : Nat} (hi : i < n) (x : Nat) :
    (w.cell? ⟨g, i, none⟩).isSome = true ∧ w.frozen? ⟨g, i, none⟩ = false ∧ RowAt (w.setCell ⟨g, i, none⟩ (pt x)) B (.slice (some ⟨g, 0, none⟩) n c) (S.set i x) := by
  have hmax := h.max
  obtain ⟨hn, h1, h2, h3, cur, h4, h5, h6⟩ := h.there
  refine ⟨?_, frozen_at h4 _, RowAt.mk (heap_setCell_same w g i cur _ (pt x) h4) h3 (by simp [hn]) h1 h2 (by simp [h5]) hmax ?_⟩
  · rw [cell_at h4]; simp; omega
  · rw [Array.toList_setIfInBounds]
    apply List.ext_getElem?
    intro j
    rw [List.length_set, List.getElem?_take, List.map_set, List.getElem?_set, ← h6, List.getElem?_set, List.getElem?_take, List.length_take]
    simp only [Array.length_toList, Nat.mul_one]
    by_cases hj : j < S.length
    · rw [if_pos hj, if_pos hj]
      by_cases e : i = j
      · subst e; rw [if_pos rfl, if_pos rfl, if_pos (by omega), if_pos (by omega)]
      · rw [if_neg e, if_neg e]
    · rw [if_neg hj, if_neg hj, if_neg (by omega)]
/-- The row without its last pointer, whose cell is cleared. -/
theorem RowAt.cut {m : Nat} (h : RowAt w B (.slice (some ⟨g, 0, none⟩) (m + 1) c) S) :
    (w.cell? ⟨g, m, none⟩).isSome = true ∧ w.frozen? ⟨g, m, none⟩ = false ∧ RowAt (w.setCells g m [.pointer none]) B (.slice (some ⟨g, 0, none⟩) m c) (S.take m) ∧ Only (· = g) w (w.setCells g m [.pointer none]) := by
  have hmax := h.max
  obtain ⟨hn, h1, h2, h3, cur, h4, h5, h6⟩ := h.there
  obtain ⟨c2, hh2, hs2, ht2, hO2⟩ := heap_setCells [.pointer none] m w cur h4
  refine ⟨by rw [cell_at h4]; simp; omega, frozen_at h4 _, RowAt.mk hh2 h3 (by rw [List.length_take]; omega) (by omega) h2 (by omega) hmax ?_, hO2⟩
  rw [ht2, List.length_take, Nat.min_eq_left (by omega), List.map_take, ← h6]
  apply List.ext_getElem?
  intro j
  rw [List.getElem?_take, List.getElem?_take, List.getElem?_take]
  by_cases hj : j < m
  · rw [if_pos (by omega), if_pos hj, if_pos (by omega)]
    show (cur.toList.set m (.pointer none))[j]? = _
    rw [List.getElem?_set_ne (by omega)]
  · rw [if_neg (by omega), if_neg hj]
end

/-- The pointers of a row in which those behind k have moved up, as far as j. -/
def mid (S : List Nat) (k j : Nat) : List Nat := (List.range S.length).map fun p => if p < k then S.getD p 0 else if p + 1 < j then S.getD (p + 1) 0 else S.getD p 0
theorem mid_len (S : List Nat) (k j : Nat) : (mid S k j).length = S.length := by simp [mid]
theorem mid_at (S : List Nat) (k j : Nat) {p : Nat} (hp : p < S.length) : (mid S k j).getD p 0 = if p < k then S.getD p 0 else if p + 1 < j then S.getD (p + 1) 0 else S.getD p 0 := by
  unfold mid
  rw [List.getD_eq_getElem?_getD, List.getElem?_map, List.getElem?_range hp]; rfl
theorem list_ext {S R : List Nat} (hl : S.length = R.length) (h : ∀ p, p < S.length → S.getD p 0 = R.getD p 0) : S = R := by
  apply List.ext_getElem hl
  intro p h1 h2
  have := h p h1
  rw [List.getD_eq_getElem?_getD, List.getD_eq_getElem?_getD, List.getElem?_eq_getElem h1, List.getElem?_eq_getElem h2] at this
  exact this
theorem mid_start (S : List Nat) (k : Nat) : mid S k (k + 1) = S := by
  refine list_ext (mid_len _ _ _) (fun p hp => ?_)
  rw [mid_len] at hp
  rw [mid_at _ _ _ hp]
  by_cases h : p < k
  · rw [if_pos h]
  · rw [if_neg h, if_neg (by omega)]
theorem mid_next (S : List Nat) {k j : Nat} (hk : k < j) (hj : j < S.length) : (mid S k j).set (j - 1) (S.getD j 0) = mid S k (j + 1) := by
  refine list_ext (by rw [List.length_set, mid_len, mid_len]) (fun p hp => ?_)
  rw [List.length_set, mid_len] at hp
  rw [List.getD_eq_getElem?_getD, List.getElem?_set, mid_at _ _ _ hp]
  by_cases e : j - 1 = p
  · subst e
    rw [if_pos rfl, if_pos (by rw [mid_len]; omega), if_neg (by omega), if_pos (by omega), show j - 1 + 1 = j by omega]; rfl
  · rw [if_neg e, ← List.getD_eq_getElem?_getD, mid_at _ _ _ hp]
    by_cases h : p < k
    · rw [if_pos h, if_pos h]
    · rw [if_neg h, if_neg h]
      by_cases h2 : p + 1 < j
      · rw [if_pos h2, if_pos (by omega)]
      · rw [if_neg h2, if_neg (by omega)]
theorem mid_end (S : List Nat) {k m : Nat} (hm : S.length = m + 1) (hk : k ≤ m) : (mid S k (m + 1)).take m = S.eraseIdx k := by
  refine list_ext (by rw [List.length_take, mid_len, hm, List.length_eraseIdx, if_pos (by omega)]; omega) (fun p hp => ?_)
  rw [List.length_take, mid_len] at hp
  rw [List.getD_eq_getElem?_getD, List.getElem?_take, if_pos (by omega), ← List.getD_eq_getElem?_getD, mid_at _ _ _ (by omega), List.getD_eq_getElem?_getD (l := S.eraseIdx k), List.getElem?_eraseIdx]
  by_cases h : p < k
  · rw [if_pos h, if_pos h, List.getD_eq_getElem?_getD]
  · rw [if_neg h, if_neg h, if_pos (by omega), List.getD_eq_getElem?_getD]

theorem run_clear (w : World) (ty : TypeId) (b o c : Nat) (hc : (w.cell? ⟨b, o, none⟩).isSome = true) (hf : w.frozen? ⟨b, o, none⟩ = false) :
    (Builtin.clear_ #[31] ty #[.slice (some ⟨b, o, none⟩) 1 c]).run Tryz.prog w = .ok (.tuple #[]) (w.setCells b o [.pointer none]) := by
  have hst := run_storeCells_cells (P := Tryz.prog) b o [.pointer none] 0 w (by intro j hj; simp at hj; subst hj; simpa using hc) (by intro j hj; simp at hj; subst hj; simpa using hf) (by intro v hv'; simp at hv'; rcases hv' with rfl; rfl)
  simp only [Nat.add_zero] at hst
  have hzc : (Builtin.zeroCells (Value.pointer none).cells 1).toList = [.pointer none] := by
    simp [Builtin.zeroCells, Value.cells]
    try rfl
  obtain ⟨i0, hi, hz0, hz1, hz2⟩ := info_parts Tryz.infoElem
  have hze : ∀ w, (zeroValue 82).run Tryz.prog w = .ok (.pointer none) w := fun w => by simp [zeroValue, typeInfo, hi, hz0]
  simp [Builtin.clear_, run_underlying Tryz.underlying31, hze, hzc, hst]

/-- Where the first task with a number stands. -/
def Found (f : Nat → Int) (S : List Nat) (t : Int) (w : World) (e : Ending) (w' : World) : Prop :=
  ((∃ k : Nat, e = .returned (.int .i64 k) ∧ k < S.length ∧ f (S.getD k 0) = t) ∨ (e = .returned (.int .i64 (-1)) ∧ ∀ k, k < S.length → f (S.getD k 0) ≠ t)) ∧ Only (fun _ => False) w w'

theorem not_val {a b : Int} (h : a ≠ b) : (a == b) = false := beq_eq_false_iff_ne.2 h

set_option maxHeartbeats 1000000 in
theorem index_num (a : Option Addr) (n c Bx base : Nat) (f : Nat → Int) (t : Int) (S : List Nat) (w : World) (h : RowAt w base (.slice a n c) S) (hn : S.length = n) (hf : ∀ x ∈ S, w.cell? ⟨x, 0, none⟩ = some (.int .i64 (f x))) (hB : w.cell? ⟨Bx, 0, none⟩ = some (.int .i64 t)) :
    Calls Tryz.prog 65 #[.slice a n c, .func (.func 34) #[] #[.pointer (some ⟨Bx, 0, none⟩)]] w (Found f S t w) := by
  obtain ⟨a', c', e, hc1, hc2, hc3⟩ := h.shape hn
  obtain ⟨rfl, -, rfl⟩ := Value.slice.inj e
  have H := Lib.hid h
  have HF := Lib.hid (fun (W : World) (x : Nat) (hx : x ∈ S) (hO : Only (fun _ => False) w W) => show W.cell? ⟨x, 0, none⟩ = some (.int .i64 (f x)) from by
    have := hf x hx
    rw [Pr.cell_kept hO (block_lt this) id]; exact this)
  have HBX := Lib.hid (fun (W : World) (hO : Only (fun _ => False) w W) => show W.cell? ⟨Bx, 0, none⟩ = some (.int .i64 t) from by
    rw [Pr.cell_kept hO (block_lt hB) id]; exact hB)
  have HN := Lib.hid hn
  clear h hn hf hB e
  go_enter Tryz.func65, Tryz.ntmps65
  go_wp2_with fail
  go_loopw [8] (fun i wr => ∃ j : Nat, j ≤ n ∧ i = .int .i64 j ∧ (∀ k, k < j → f (S.getD k 0) ≠ t) ∧ Only (fun _ => False) w wr) (fun i _ => n - (intOf i).toNat)
  case atStart => exact ⟨0, by omega, rfl, fun k hk => absurd hk (Nat.not_lt_zero _), Only.refl _ _⟩
  case round =>
    obtain ⟨j, hj, rfl, hno, hO⟩ := hrel
    have HNO := Lib.hid hno
    have HO := Lib.hid hO
    clear hno hO
    by_cases hlt : j < n
    · obtain ⟨g, cap, e, -, -, -, -, hcell⟩ : ∃ g cap, (Value.slice a n c) = .slice (some ⟨g, 0, none⟩) S.length cap ∧ base ≤ g ∧ S.length ≤ cap ∧ cap ≤ 9223372036854775807 ∧ (∃ cur, wr.heap[g]? = some (.cells cur 82 (0, 0))) ∧ ∀ i, i < S.length → wr.cell? ⟨g, i, none⟩ = some (pt (S.getD i 0)) := by
        rcases (H.out.later HO.out).cases with ⟨h1, h2⟩ | h1
        · exfalso; have := HN.out; rw [h2] at this; simp at this; omega
        · exact h1
      obtain ⟨rfl, -, -⟩ := Value.slice.inj e
      have c0 := hcell j (by rw [HN.out]; exact hlt)
      have hmem : S.getD j 0 ∈ S := by
        have hl : j < S.length := by rw [HN.out]; exact hlt
        rw [List.getD_eq_getElem?_getD, List.getElem?_eq_getElem hl]; exact List.getElem_mem hl
      have KA := Lib.hid (fun (W : World) (hW : Only (fun _ => False) w W) => asks_num (S.getD j 0) Bx (f (S.getD j 0)) t W (HF.out W _ hmem hW) (HBX.out W hW))
      have HX := Lib.hid (fun (h : f (S.getD j 0) = t) => (show j < S.length ∧ f (S.getD j 0) = t from ⟨by rw [HN.out]; exact hlt, h⟩))
      clear hcell e hmem
      have hg : ∃ y, S.getD j 0 = y := ⟨_, rfl⟩
      obtain ⟨y, hy⟩ := hg
      rw [hy] at c0 KA HX
      have HY := Lib.hid hy
      unfold pt at *
      clear hy
      have g1 : (j : Int) < n := by omega
      have g2 : (0 : Int) ≤ j := by omega
      by_cases hv : f y = t
      · have e1 : (f y == t) = true := by simp [hv]
        rw [e1] at KA
        have HV := Lib.hid (HX.out hv)
        clear hv e1
        go_wp2_with (go_at_call 34; (with_reducible refine (KA.out _ HO.out).mono ?_); rintro e w' ⟨rfl, hO1⟩; have HO1 := Lib.hid (HO.out.trans hO1 (fun _ _ h => h)); clear hO1)
        go_ret
        exact ⟨Or.inl ⟨j, rfl, HV.out.1, by rw [HY.out]; exact HV.out.2⟩, HO1.out⟩
      · have e1 : (f y == t) = false := not_val hv
        rw [e1] at KA
        have HV := Lib.hid hv
        clear hv e1
        go_wp2_with (go_at_call 34; (with_reducible refine (KA.out _ HO.out).mono ?_); rintro e w' ⟨rfl, hO1⟩; have HO1 := Lib.hid (HO.out.trans hO1 (fun _ _ h => h)); clear hO1)
        go_roundw
        case rel =>
          refine ⟨j + 1, by omega, by go_num, fun k hk => ?_, HO1.out⟩
          by_cases ek : k = j
          · subst ek; rw [HY.out]; exact HV.out
          · exact HNO.out k (by omega)
        case measure => simp [intOf]; omega
    · obtain rfl : j = n := by omega
      go_wp2_with fail
      go_ret
      exact ⟨Or.inr ⟨rfl, fun k hk => HNO.out k (by rw [HN.out] at hk; exact hk)⟩, HO.out⟩

theorem RowAt.mid_cell {w : World} {B g n c : Nat} {S : List Nat} {k j : Nat} (h : RowAt w B (.slice (some ⟨g, 0, none⟩) n c) (mid S k j)) (hk : k < j) (hj : j < S.length) : w.cell? ⟨g, j, none⟩ = some (pt (S.getD j 0)) := by
  rw [h.cell (i := j) (by rw [mid_len]; exact hj), mid_at _ _ _ hj, if_neg (by omega), if_neg (by omega)]

/-- What is known behind the deletion of the one task with a number, that stands at k: only the row has changed. -/
def Gone (B : Nat) (S : List Nat) (k g : Nat) (w : World) (e : Ending) (w' : World) : Prop := ∃ n c, e = .returned (.slice (some ⟨g, 0, none⟩) n c) ∧ RowAt w' B (.slice (some ⟨g, 0, none⟩) n c) (S.eraseIdx k) ∧ Only (· = g) w w'

set_option maxRecDepth 100000 in
set_option maxHeartbeats 2000000 in
theorem delete_num (g m c Bx base k : Nat) (f : Nat → Int) (t : Int) (S : List Nat) (w : World) (h : RowAt w base (.slice (some ⟨g, 0, none⟩) (m + 1) c) S) (hn : S.length = m + 1) (hf : ∀ x ∈ S, w.cell? ⟨x, 0, none⟩ = some (.int .i64 (f x))) (hfg : ∀ x ∈ S, x ≠ g) (hB : w.cell? ⟨Bx, 0, none⟩ = some (.int .i64 t)) (hBg : Bx ≠ g)
    (hk : k < m + 1) (hkt : f (S.getD k 0) = t) (hone : ∀ j, j < m + 1 → f (S.getD j 0) = t → j = k) :
    Calls Tryz.prog 33 #[.slice (some ⟨g, 0, none⟩) (m + 1) c, .func (.func 34) #[] #[.pointer (some ⟨Bx, 0, none⟩)]] w (Gone base S k g w) := by
  have HI := Lib.hid (show Calls Tryz.prog 65 #[.slice (some ⟨g, 0, none⟩) (m + 1) c, .func (.func 34) #[] #[.pointer (some ⟨Bx, 0, none⟩)]] w (fun e w' => e = .returned (.int .i64 k) ∧ Only (fun _ => False) w w') from
    (index_num (some ⟨g, 0, none⟩) (m + 1) c Bx base f t S w h hn hf hB).mono (fun e w' hh => by
      obtain ⟨⟨k', rfl, h1, h2⟩ | ⟨rfl, hno⟩, hO⟩ := hh
      · rw [hone k' (by omega) h2]; exact ⟨rfl, hO⟩
      · exact absurd hkt (hno k (by omega))))
  have HH := Lib.hid h
  have hmem : ∀ j, j < m + 1 → S.getD j 0 ∈ S := fun j hj => by
    have hl : j < S.length := by rw [hn]; exact hj
    rw [List.getD_eq_getElem?_getD, List.getElem?_eq_getElem hl]; exact List.getElem_mem hl
  have HF := Lib.hid (fun (W : World) (j : Nat) (hj : j < m + 1) (hO : Only (· = g) w W) => show W.cell? ⟨S.getD j 0, 0, none⟩ = some (.int .i64 (f (S.getD j 0))) from by
    have := hf _ (hmem j hj)
    rw [Pr.cell_kept hO (block_lt this) (hfg _ (hmem j hj))]; exact this)
  have HBX := Lib.hid (fun (W : World) (hO : Only (· = g) w W) => show W.cell? ⟨Bx, 0, none⟩ = some (.int .i64 t) from by
    rw [Pr.cell_kept hO (block_lt hB) hBg]; exact hB)
  have HN := Lib.hid hn
  have HONE := Lib.hid hone
  have HKT := Lib.hid hkt
  obtain ⟨-, hc1, hc2, -, -⟩ := h.there
  have hk0 : ((k : Int) == -1) = false := not_val (by omega)
  have HK3 := Lib.hid (show k + 1 ≤ m + 1 by omega)
  have hk5 : (k : Int) + 1 ≤ 9223372036854775807 := by omega
  have hw : wrap64 ((k : Int) + 1) = (k : Int) + 1 := IntWalk.wrap64_in _ (by omega)
  clear h hn hf hfg hB hBg hkt hone hmem
  go_enter Tryz.func33, Tryz.ntmps33
  go_wp2_with (go_at_call 65; (with_reducible refine HI.out.mono ?_); rintro e w1 ⟨rfl, hO1⟩; have HO1 := Lib.hid hO1; clear hO1)
  clear hw
  go_loopw [5, 6] (fun i j wr => ∃ jj : Nat, k < jj ∧ jj ≤ m + 1 ∧ j = .int .i64 jj ∧ i = .int .i64 ((jj - 1 : Nat) : Int) ∧ RowAt wr base (.slice (some ⟨g, 0, none⟩) (m + 1) c) (mid S k jj) ∧ Only (· = g) w wr) (fun _ j _ => m + 1 - (intOf j).toNat)
  case atStart => exact ⟨k + 1, by omega, HK3.out, by go_num, by go_num, by rw [mid_start]; exact HH.out.later HO1.out, HO1.out.mono (fun _ _ e => e.elim)⟩
  case round =>
    obtain ⟨j, hkj, hj, rfl, rfl, hR, hO⟩ := hrel
    have HR := Lib.hid hR
    have HO := Lib.hid hO
    clear hR hO
    obtain ⟨i, hi⟩ : ∃ i, j - 1 = i := ⟨_, rfl⟩
    have hij : j = i + 1 := by omega
    rw [hi]
    by_cases hlt : j < m + 1
    · have c0 := HR.out.mid_cell hkj (by rw [HN.out]; exact hlt)
      have KA := Lib.hid (fun (W : World) (hW : Only (fun _ => False) wr W) => asks_num (S.getD j 0) Bx (f (S.getD j 0)) t W (HF.out W j hlt (HO.out.trans hW (fun _ _ e => e.elim))) (HBX.out W (HO.out.trans hW (fun _ _ e => e.elim))))
      have hv : (f (S.getD j 0) == t) = false := not_val (fun e => by have := HONE.out j hlt e; omega)
      rw [hv] at KA
      have HSET := Lib.hid (fun (W : World) (hW : Only (fun _ => False) wr W) => show (∃ o, W.cell? ⟨g, i, none⟩ = some o) ∧ W.frozen? ⟨g, i, none⟩ = false ∧ RowAt (W.setCell ⟨g, i, none⟩ (pt (S.getD j 0))) base (.slice (some ⟨g, 0, none⟩) (m + 1) c) (mid S k (j + 1)) ∧ Only (· = g) w (W.setCell ⟨g, i, none⟩ (pt (S.getD j 0))) from by
        obtain ⟨s1, s2, s3⟩ := (HR.out.later hW).set (i := i) (by omega) (S.getD j 0)
        refine ⟨Option.isSome_iff_exists.1 s1, s2, ?_, (HO.out.trans hW (fun _ _ e => e.elim)).setCell (p := ⟨g, i, none⟩) rfl _⟩
        rw [← mid_next S hkj (by rw [HN.out]; exact hlt), hi]; exact s3)
      generalize S.getD j 0 = y at *
      unfold pt at *
      have g1 : (j : Int) < (m : Int) + 1 := by omega
      have g2 : (0 : Int) ≤ j := by omega
      have g3 : (i : Int) < (m : Int) + 1 := by omega
      have g4 : j ≤ m := by omega
      have HIJ := Lib.hid hij
      clear hv hij hi
      go_wp2_with (go_at_call 34; (with_reducible refine (KA.out _ (Only.refl _ _)).mono ?_); rintro e w2 ⟨rfl, hO2⟩; obtain ⟨⟨o, hco⟩, hfz, h3, h4⟩ := HSET.out w2 hO2; have H3 := Lib.hid h3; have H4 := Lib.hid h4; clear h3 h4 hO2)
      go_roundw
      case rel => exact ⟨j + 1, by omega, by omega, by go_num, by have := HIJ.out; go_num, H3.out, H4.out⟩
      case measure => simp [intOf]; omega
    · have hjm : j = m + 1 := by omega
      have him : i = m := by omega
      subst hjm
      subst him
      obtain ⟨s1, s2, s3, s4⟩ := HR.out.cut
      have HC := Lib.hid (fun ty => run_clear wr ty g i (c - i) s1 s2)
      have HG := Lib.hid (show Gone base S k g w (.returned (.slice (some ⟨g, 0, none⟩) i c)) (wr.setCells g i [.pointer none]) from ⟨i, c, rfl, by
        have := mid_end S (k := k) (m := i) HN.out (by omega)
        rw [this] at s3; exact s3, HO.out.trans s4 (fun _ _ h => h)⟩)
      have hcl := HC.out
      have g4 : i ≤ c := by omega
      clear s1 s2 s3 s4 HC
      go_wp2_with fail
      go_ret
      exact HG.out

theorem delete_miss (a : Option Addr) (n c Bx base : Nat) (f : Nat → Int) (t : Int) (S : List Nat) (w : World) (h : RowAt w base (.slice a n c) S) (hn : S.length = n) (hf : ∀ x ∈ S, w.cell? ⟨x, 0, none⟩ = some (.int .i64 (f x))) (hB : w.cell? ⟨Bx, 0, none⟩ = some (.int .i64 t))
    (hno : ∀ j, j < n → f (S.getD j 0) ≠ t) :
    Calls Tryz.prog 33 #[.slice a n c, .func (.func 34) #[] #[.pointer (some ⟨Bx, 0, none⟩)]] w (fun e w' => e = .returned (.slice a n c) ∧ Only (fun _ => False) w w') := by
  have HI := Lib.hid (show Calls Tryz.prog 65 #[.slice a n c, .func (.func 34) #[] #[.pointer (some ⟨Bx, 0, none⟩)]] w (fun e w' => e = .returned (.int .i64 (-1)) ∧ Only (fun _ => False) w w') from
    (index_num a n c Bx base f t S w h hn hf hB).mono (fun e w' hh => by
      obtain ⟨⟨k', rfl, h1, h2⟩ | ⟨rfl, -⟩, hO⟩ := hh
      · exact absurd h2 (hno k' (by omega))
      · exact ⟨rfl, hO⟩))
  clear h hn hf hB hno
  go_enter Tryz.func33, Tryz.ntmps33
  go_wp2_with (go_at_call 65; (with_reducible refine HI.out.mono ?_); rintro e w1 ⟨rfl, hO1⟩; have HO1 := Lib.hid hO1; clear hO1)
  go_ret
  exact ⟨rfl, HO1.out⟩
end Go.Proofs.YtpincdcebhmnhaaGreat.Pt
/- The statements' fairs and fairBegun. -/
namespace Go.Proofs.YtpincdcebhmnhaaGreat.Fr
open Go.ChangeShapes Go.WideShapes Go.ChangeAt Go.RowKit Go.Maps
open Go.Proofs.YtpincdcebhmnhaaGreat.Vt
set_option linter.unusedVariables false

/-- The weight that a number stands for. -/
def wOf (x : Int) : Int := 1 + restOf x 100
theorem wOf_ok (x : Int) : isW (wOf x) = true := by
  have := restOf_lo x 100 (by omega); have := restOf_hi x 100 (by omega)
  unfold isW wOf; exact decide_eq_true (by omega)
theorem wOf_bd (x : Int) : 1 ≤ wOf x ∧ wOf x ≤ 100 := isW_yes (wOf_ok x)
theorem costOf_lo {x : Int} (h : isW x = true) : 10485 ≤ costOf x := by
  obtain ⟨h1, h2⟩ := isW_yes h
  unfold costOf
  rw [Int.le_ediv_iff_mul_le (by omega)]
  omega
theorem costOf_ok {x : Int} (h : isW x = true) : 10485 ≤ costOf x ∧ costOf x ≤ 1048576 := ⟨costOf_lo h, (costOf_bd h).2⟩

/-- What a tick costs task t, of the numbers xs. -/
def cw (xs : List Int) (t : Nat) : Int := costOf (wOf (xs.getD (t - 1) 0))
theorem cw_bd (xs : List Int) (t : Nat) : 10485 ≤ cw xs t ∧ cw xs t ≤ 1048576 := costOf_ok (wOf_ok _)

/-- The tasks of the numbers xs, as far as k, ere any tick. -/
def bareT (xs : List Int) (k : Nat) : Tks := mkT k (cw xs) (fun _ => 0)

theorem bare_add (xs : List Int) {k : Nat} (hk : k < 16) : addT (bareT xs k) noG (k + 1) (costOf (wOf (xs.getD k 0))) 0 = bareT xs (k + 1) ∧ addG (bareT xs k) noG (k + 1) (costOf (wOf (xs.getD k 0))) 0 = noG :=
  mkT_add hk (by simp [cw])

theorem only_new {a b c : World} {p : Nat} (h : Only (fun _ => False) a b) (k : Only (fun k => k = p) b c) (hp : a.heap.size ≤ p) : Only (fun _ => False) a c := h.trans k (fun x h1 h2 => by subst h2; omega)

theorem add_next {w : World} {p : Nat} {T : Tks} {G : Grs} (h : FairAt w p 0 60 T G) (k : Nat) (x : Int) (hx : isW x = true) (h2 : k + 1 ≤ 16) (hc : (T (k + 1)).c = 0) :
    Calls Tryz.prog 23 #[.pointer (some ⟨p, 0, none⟩), .int .i64 ((k : Int) + 1), .int .i64 x, .int .i64 0] w (FKeep w p 0 60 (.int .i64 0) (addT T G (k + 1) (costOf x) 0) (addG T G (k + 1) (costOf x) 0)) :=
  add_yes h (k + 1) x 0 hx (by omega) h2 (by omega) hc (Or.inl rfl)

/-- The first two ticks of two tasks that weigh the same. -/
theorem two_ticks : next (bareT [0, 0] 2) noG = (1, 0) ∧ next (tickT (bareT [0, 0] 2) 1) noG = (2, 0) ∧ tickG (bareT [0, 0] 2) noG 1 = noG := by
  unfold bareT
  refine ⟨?_, ?_, mkT_tickG (by omega) (by omega)⟩
  · rw [mkT_next (by omega) (by omega), mkT_first_is 1 (by omega) (by omega) (by omega) (fun t h1 h2 => Or.inr ⟨rfl, h1⟩)]
  · rw [mkT_tick (by omega) (by omega), mkT_next (by omega) (by omega), mkT_first_is 2 (by omega) (by omega) (by omega) ?_]
    · rfl
    · intro t h1 h2
      rcases (show t = 1 ∨ t = 2 by omega) with rfl | rfl
      · left; decide
      · right; exact ⟨rfl, by omega⟩

theorem bare_fit (xs : List Int) {m : Nat} (hm : m ≤ 16) : Fit (bareT xs m) noG 0 :=
  mkT_fit hm (fun t _ _ => by have := cw_bd xs t; omega) (fun t _ _ => by simp) (by omega)

theorem tick_is {w : World} {p : Nat} {T T' : Tks} {G G' : Grs} {B : Int} {n : Nat} {v k : Int} (h : FairAt w p 0 60 T G) (hb : Fit T G B) (hB : B ≤ 9000000000000000000) (hn : next T G = (n, v)) (h0 : n ≠ 0) (hk : (n : Int) = k) (eT : tickT T n = T') (eG : tickG T G n = G') :
    Calls Tryz.prog 27 #[.pointer (some ⟨p, 0, none⟩)] w (FKeep w p 0 60 (.tuple #[.int .i64 k, .int .i64 0]) T' G') := by
  subst hk eT eG
  have := tick_yes h hb hB (by rw [hn]; exact h0)
  rwa [hn] at this

end Go.Proofs.YtpincdcebhmnhaaGreat.Fr
/- The reference's list of tasks of fair shares: one less, by its number. -/
namespace Go.Proofs.YtpincdcebhmnhaaGreat.Fr
open Go.ChangeShapes Go.WideShapes Go.ChangeAt Go.RowKit Go.Maps
open Go.Proofs.YtpincdcebhmnhaaGreat.Vt Go.Proofs.YtpincdcebhmnhaaGreat.Pt
set_option linter.unusedVariables false

theorem map_del {α β : Type} (f : α → β) : ∀ (l : List α) (k : Nat), (l.map f).eraseIdx k = (l.eraseIdx k).map f
  | [], k => rfl
  | a :: l, 0 => rfl
  | a :: l, k + 1 => by simp only [List.map_cons, List.eraseIdx_cons_succ, map_del f l k]
theorem nodup_inj {l : List Nat} (h : l.Nodup) {i j : Nat} (hi : i < l.length) (hj : j < l.length) (e : l[i] = l[j]) : i = j := by
  have h := List.pairwise_iff_getElem.1 h
  rcases Nat.lt_trichotomy i j with c | c | c
  · exact absurd e (h i j hi hj c)
  · exact c
  · exact absurd e.symm (h j i hj hi c)

/-- A task is not there any more. -/
def outT (T : Tks) (t : Nat) : Tks := if (T t).c = 0 then T else upd T t ⟨0, 0, 0, false⟩

section
variable {B : Nat} {w w5 : World} {q o D : Nat} {L : List (Nat × Nat)} {T : Tks} {G : Grs} {W GW : Nat → Int}

theorem Same.in_c (hs : Same L T G W GW) {x : Nat × Nat} (hx : x ∈ L) : (T x.2).c ≠ 0 := by
  have h1 := hs.wt x hx
  have := costOf_lo h1.1
  omega

/-- The class with its list cut, or none, the row stored anew. -/
theorem RefAt.row_set (h : RefAt B w q o D L T G W GW) {L2 : List (Nat × Nat)} {T2 : Tks} {V V5 : Value} (hV : w.cell? ⟨q, o, none⟩ = some V) (hr : RowAt w5 B V5 (L2.map (·.1))) (hO : Only (fun k => V.ownBlock = some k) w w5) (hg : ∀ g, V5.ownBlock = some g → V.ownBlock = some g)
    (hL : L2.Sublist L) (hT : ∀ x ∈ L2, T2 x.2 = T x.2) :
    w5.cell? ⟨q, o, none⟩ = some V ∧ w5.frozen? ⟨q, o, none⟩ = false ∧ RefAt B (w5.setCell ⟨q, o, none⟩ V5) q o D L2 T2 G W GW ∧ Only (fun k => k = q ∨ V.ownBlock = some k) w (w5.setCell ⟨q, o, none⟩ V5) := by
  obtain ⟨⟨cs, V', h1, h2, h3, h4⟩, h5, h6, h7, h8, h9⟩ := h
  have hVV : V' = V := by have := cell_at h1 o; rw [hV, h2.v] at this; exact (Option.some.inj this).symm
  subst hVV
  have hsub : ∀ x ∈ L2, x ∈ L := fun x hx => hL.subset hx
  have q1 : w5.heap[q]? = some (.cells cs D (0, 0)) := (hO.block q (block_there h1) (fun e => (h4 q e).1 rfl)).trans h1
  have oq : Only (fun k => k = q) w5 (w5.setCell ⟨q, o, none⟩ V5) := (Only.refl (fun k => k = q) w5).setCell (p := ⟨q, o, none⟩) rfl _
  refine ⟨by rw [cell_at q1]; exact h2.v, frozen_at q1 o, ⟨⟨_, V5, heap_setCell_same w5 q o cs _ _ q1, ?_, ?_, ?_⟩, ?_, ⟨h6.1, fun x hx => h6.2 x (hsub x hx)⟩, fun x hx => h7 x (hsub x hx), (hL.map _).nodup h8, (hL.map _).nodup h9⟩, ?_⟩
  · have hs := h2.size
    refine ⟨by simp [hs], by rw [Array.getElem?_setIfInBounds, if_pos rfl, if_pos (by omega)], fun k hk => ?_, fun k hk => ?_, fun k hk => ?_⟩
    · rw [Array.getElem?_setIfInBounds, if_neg (by omega)]; exact h2.is k hk
    · rw [Array.getElem?_setIfInBounds, if_neg (by omega)]; exact h2.gw k hk
    · rw [Array.getElem?_setIfInBounds, if_neg (by omega)]; exact h2.gv k hk
  · exact hr.keep oq (fun k hk e => (h4 k (hg k hk)).1 e)
  · intro k hk
    exact ⟨(h4 k (hg k hk)).1, fun x hx => (h4 k (hg k hk)).2 x (hsub x hx)⟩
  · intro x hx
    rw [hT x hx]
    have hx5 := (hO.block x.1 (block_there (h5 x (hsub x hx))) (fun e => (h4 x.1 e).2 x (hsub x hx) rfl)).trans (h5 x (hsub x hx))
    exact (oq.block x.1 (block_there hx5) (h7 x (hsub x hx))).trans hx5
  · have o1 : Only (fun k => k = q ∨ V'.ownBlock = some k) w w5 := hO.mono (fun k _ e => Or.inr e)
    exact o1.trans oq (fun k hk e => Or.inl e)

/-- What is known behind the delete, ahead of the store. -/
def Cut (B q o D : Nat) (V : Value) (t : Nat) (T : Tks) (G : Grs) (W GW : Nat → Int) (w : World) (e : Ending) (w' : World) : Prop := ∃ v1 v2 v3 L2, e = .returned (.slice v1 v2 v3) ∧ w'.cell? ⟨q, o, none⟩ = some V ∧ w'.frozen? ⟨q, o, none⟩ = false ∧ RefAt B (w'.setCell ⟨q, o, none⟩ (.slice v1 v2 v3)) q o D L2 (outT T t) G W GW ∧ Same L2 (outT T t) G W GW ∧ Only (fun k => k = q ∨ V.ownBlock = some k) w (w'.setCell ⟨q, o, none⟩ (.slice v1 v2 v3)) ∧ Only (fun k => V.ownBlock = some k) w w'

theorem del_any (h : RefAt B w q o D L T G W GW) (hs : Same L T G W GW) (t : Nat) (ht : t < 17) {V : Value} (hV : w.cell? ⟨q, o, none⟩ = some V) {Bx : Nat} (hB : w.cell? ⟨Bx, 0, none⟩ = some (.int .i64 t)) (hBg : V.ownBlock ≠ some Bx) :
    Calls Tryz.prog 33 #[V, .func (.func 34) #[] #[.pointer (some ⟨Bx, 0, none⟩)]] w (Cut B q o D V t T G W GW w) := by
  obtain ⟨V', e1, hrow, hap⟩ := h.slice
  have hVV : V' = V := by rw [hV] at e1; exact (Option.some.inj e1).symm
  subst hVV
  obtain ⟨f, hff⟩ := h.numbers
  have hf : ∀ x ∈ L.map (·.1), w.cell? ⟨x, 0, none⟩ = some (.int .i64 ((fun y => ((f y : Nat) : Int)) x)) := fun x hx => by
    obtain ⟨⟨b, k⟩, hy, rfl⟩ := List.mem_map.1 hx
    have := h.tn hy
    rw [this]
    exact congrArg (fun z : Nat => some (Value.int .i64 (z : Int))) (hff _ hy).symm
  have gd : ∀ j (hj : j < L.length), (L.map (·.1)).getD j 0 = L[j].1 := fun j hj => by
    rw [List.getD_eq_getElem?_getD, List.getElem?_map, List.getElem?_eq_getElem hj]; rfl
  have fd : ∀ j (hj : j < L.length), f ((L.map (·.1)).getD j 0) = L[j].2 := fun j hj => by rw [gd j hj]; exact hff _ (List.getElem_mem hj)
  by_cases hc : (T t).c = 0
  · have eT : outT T t = T := by unfold outT; rw [if_pos hc]
    obtain ⟨a, c, rfl, -, -, -⟩ := hrow.shape (n := L.length) (by simp)
    refine (Pt.delete_miss a L.length c Bx B _ t (L.map (·.1)) w hrow (by simp) hf hB (fun j hj e => ?_)).mono ?_
    · have e2 := fd j hj
      have := hs.in_c (List.getElem_mem hj)
      rw [← e2, show f ((L.map (·.1)).getD j 0) = t from by have e : ((f ((L.map (·.1)).getD j 0) : Nat) : Int) = t := e; omega] at this
      exact this hc
    · rintro e w' ⟨rfl, hO⟩
      obtain ⟨k1, k2, k3, k4⟩ := h.row_set (L2 := L) (T2 := T) hV (hrow.later hO) (hO.mono (fun _ _ e => e.elim)) (fun _ e => e) (List.Sublist.refl L) (fun x _ => rfl)
      unfold Cut
      rw [eT]
      exact ⟨_, _, _, L, rfl, k1, k2, k3, hs, k4, hO.mono (fun _ _ e => e.elim)⟩
  · have eT : outT T t = upd T t ⟨0, 0, 0, false⟩ := by unfold outT; rw [if_neg hc]
    obtain ⟨b, hb⟩ := hs.all t ht hc
    obtain ⟨k, hk, hkb⟩ := List.getElem_of_mem hb
    obtain ⟨m, hm⟩ : ∃ m, L.length = m + 1 := ⟨L.length - 1, by omega⟩
    obtain ⟨g, c, rfl, -, -, -, -, hrow2⟩ := hrow.at_block (n := m + 1) (by simp [hm]) (by omega)
    have one : ∀ j (hj : j < L.length), L[j].2 = t → j = k := fun j hj e => by
      refine nodup_inj h.nums (i := j) (j := k) (by simpa using hj) (by simpa using hk) ?_
      simp only [List.getElem_map]
      rw [e, hkb]
    refine (Pt.delete_num g m c Bx B k _ t (L.map (·.1)) w hrow2 (by simp [hm]) hf (fun x hx e => ?_) hB (fun e => hBg (by rw [e]; rfl)) (by omega) ?_ (fun j hj e => one j (by omega) ?_)).mono ?_
    · obtain ⟨y, hy, rfl⟩ := List.mem_map.1 hx
      exact (hap g rfl).2 y hy e.symm
    · show ((f ((L.map (·.1)).getD k 0) : Nat) : Int) = t
      rw [fd k hk, hkb]
    · have := fd j (by omega)
      have e : ((f ((L.map (·.1)).getD j 0) : Nat) : Int) = t := e
      omega
    · rintro e w' ⟨n5, c5, rfl, hr, hO⟩
      rw [map_del] at hr
      have hne : ∀ x ∈ L.eraseIdx k, x.2 ≠ t := fun x hx e => by
        obtain ⟨i, hi, hik, rfl⟩ := List.mem_eraseIdx_iff_getElem.1 hx
        exact hik (one i hi e)
      obtain ⟨k1, k2, k3, k4⟩ := h.row_set (L2 := L.eraseIdx k) (T2 := upd T t ⟨0, 0, 0, false⟩) hV hr (hO.mono (fun x _ e => by show some g = some x; rw [e])) (fun _ e => e) (List.eraseIdx_sublist L k) (fun x hx => upd_other _ _ (hne x hx))
      unfold Cut
      rw [eT]
      refine ⟨_, _, _, L.eraseIdx k, rfl, k1, k2, k3, ?_, k4, hO.mono (fun x _ e => by show some g = some x; rw [e])⟩
      have sub : ∀ x ∈ L.eraseIdx k, x ∈ L := fun x hx => (List.eraseIdx_sublist L k).subset hx
      refine ⟨fun x hx => hs.num x (sub x hx), fun j hj hcj => ?_, fun x hx => ?_, hs.gw, hs.g0, fun x hx => ?_⟩
      · by_cases e : j = t
        · subst e; rw [upd_same] at hcj; exact absurd rfl hcj
        · rw [upd_other _ _ e] at hcj
          obtain ⟨b', hb'⟩ := hs.all j hj hcj
          refine ⟨b', ?_⟩
          obtain ⟨i, hi, hib⟩ := List.getElem_of_mem hb'
          refine List.mem_eraseIdx_iff_getElem.2 ⟨i, hi, fun e2 => ?_, hib⟩
          subst e2
          rw [hib] at hkb
          exact e (congrArg Prod.snd hkb)
      · rw [upd_other _ _ (hne x hx)]; exact hs.wt x (sub x hx)
      · rw [upd_other _ _ (hne x hx)]; exact hs.tg x (sub x hx)
end
end Go.Proofs.YtpincdcebhmnhaaGreat.Fr
/-
  DERIVED: THE SHELF's CONTRACTS AT THIS DUMP, IN PLAIN WORDS (tools/lay-plain.mjs out of 'YtpincdcebhmnhaaGreatElay.lean', which tools/lay-shelf.mjs wrote): THE SAME DECLARATIONS UNDER THE SAME NAMES: 'import', 'namespace', 'open', 'def', 'theorem' AND NOTHING ELSE: no command of the shelf's: FOR A HAND-IN. Each laying: the table of numbers ('.._ren') and one theorem, a field a fact of the dump's own or the kernel's comparison; each contract: ONE APPLICATION.
-/
namespace Go.Proofs.YtpincdcebhmnhaaGreat
open Go.Shelf
def delD_ren : Go.Shelf.Ren := ⟨fun | 10 => 36 | 6 => 66 | n => n, fun | 22 => 40 | 23 => 86 | 25 => 93 | 3 => 3 | 4 => 4 | 0 => 0 | n => n, fun | n => n⟩
theorem delD : Go.Proofs.SlLaysH.n10 Tryz.prog delD_ren := {
  mixed := by kernel_rfl
  f6 := ⟨Tryz.f66.name, by decide, Tryz.func66.trans (congrArg some (by kernel_rfl))⟩
  f10 := ⟨Tryz.f36.name, by decide, Tryz.func36.trans (congrArg some (by kernel_rfl))⟩
  t0 := Tryz.underlying0
  a0 := Tryz.isAgg0
  z0 := Tryz.sizeOf0
  v0 := Tryz.zeroValue0
  t3 := Tryz.underlying3
  a3 := Tryz.isAgg3
  z3 := Tryz.sizeOf3
  v3 := Tryz.zeroValue3
  t4 := Tryz.underlying4
  a4 := Tryz.isAgg4
  z4 := Tryz.sizeOf4
  v4 := Tryz.zeroValue4
  t22 := Tryz.underlying40
  a22 := Tryz.isAgg40
  z22 := Tryz.sizeOf40
  v22 := Tryz.zeroValue40
  a23 := Tryz.isAgg86
  z23 := Tryz.sizeOf86
  t25 := Tryz.underlying93
  a25 := Tryz.isAgg93
  z25 := Tryz.sizeOf93
  v25 := Tryz.zeroValue93 }
end Go.Proofs.YtpincdcebhmnhaaGreat
/- Rows of pointers to tasks of the reference: made by append, sorted, one struck. -/
namespace Go.Proofs.YtpincdcebhmnhaaGreat.Pd
open Go.ChangeShapes Go.WideShapes Go.ChangeAt Go.RowKit Go.Shelf Go.Sort
set_option linter.unusedVariables false

theorem Tryz.infoElem : (Tryz.prog.info? 86).map (fun i => (i.zero, i.size, i.bytes)) = some (some (.pointer none), 1, 8) := by kernel_rfl

/-- The pointer to a block. -/
def pt (x : Nat) : Value := .pointer (some ⟨x, 0, none⟩)

/-- A row of the call's own, from block B on. -/
def RowAt (w : World) (B : Nat) (V : Value) (S : List Nat) : Prop := w.ownsRow B 86 1 V S.length (S.map pt)

theorem row_nil (w : World) (B : Nat) : RowAt w B (.slice none 0 0) [] := World.ownsRow_nil w B 86 1

section
variable {w w' : World} {B : Nat} {V : Value} {S : List Nat}
theorem RowAt.cases (h : RowAt w B V S) : (V = .slice none 0 0 ∧ S = []) ∨
    ∃ g cap, V = .slice (some ⟨g, 0, none⟩) S.length cap ∧ B ≤ g ∧ S.length ≤ cap ∧ cap ≤ 9223372036854775807 ∧ (∃ cur, w.heap[g]? = some (.cells cur 86 (0, 0))) ∧ ∀ i, i < S.length → w.cell? ⟨g, i, none⟩ = some (pt (S.getD i 0)) := by
  rcases h with ⟨hl, ⟨rfl, h0⟩ | ⟨g, cap, cur, rfl, hb, h2, h3, h4, h5, h6⟩⟩
  · exact Or.inl ⟨rfl, List.eq_nil_of_length_eq_zero h0⟩
  · refine Or.inr ⟨g, cap, rfl, hb, h3, by unfold maxLen at h4; omega, ⟨cur, h2⟩, fun i hi => ?_⟩
    rw [cell_at h2, ← Array.getElem?_toList]
    have : cur.toList[i]? = (S.map pt)[i]? := by rw [← h6, List.getElem?_take_of_lt (by omega)]
    rw [this]
    simp [List.getD, hi]

theorem RowAt.later (h : RowAt w B V S) (hO : Only (fun _ => False) w w') : RowAt w' B V S := owns_kept h hO (fun _ _ e => e)
theorem RowAt.keep {N : Nat → Prop} (h : RowAt w B V S) (hO : Only N w w') (hN : ∀ g, V.ownBlock = some g → ¬ N g) : RowAt w' B V S := owns_kept h hO hN
theorem RowAt.base {B' : Nat} (h : RowAt w B V S) (hb : B' ≤ B) : RowAt w B' V S := owns_base h hb
theorem RowAt.block (h : RowAt w B V S) {g : Nat} (hg : V.ownBlock = some g) : B ≤ g ∧ g < w.heap.size := h.lt g hg
theorem RowAt.shape (h : RowAt w B V S) {n : Nat} (hn : S.length = n) : ∃ a c, V = .slice a n c ∧ n ≤ c ∧ c ≤ 9223372036854775807 ∧ (a = none → c = 0) := by
  subst hn
  rcases h.cases with ⟨rfl, rfl⟩ | ⟨g, cap, rfl, -, h1, h2, -⟩
  · exact ⟨none, 0, rfl, Nat.le_refl _, by omega, fun _ => rfl⟩
  · exact ⟨_, cap, rfl, h1, h2, fun e => by cases e⟩
theorem RowAt.at_block (h : RowAt w B V S) {n : Nat} (hn : S.length = n) (h0 : 0 < n) : ∃ g c, V = .slice (some ⟨g, 0, none⟩) n c ∧ B ≤ g ∧ g < w.heap.size ∧ n ≤ c ∧ c ≤ 9223372036854775807 ∧ RowAt w B (.slice (some ⟨g, 0, none⟩) n c) S := by
  subst hn
  rcases h.cases with ⟨rfl, rfl⟩ | ⟨g, cap, rfl, hb, h1, h2, ⟨cur, h3⟩, -⟩
  · simp at h0
  · exact ⟨g, cap, rfl, hb, block_there h3, h1, h2, h⟩
end
theorem RowAt.cell {w : World} {B g n c : Nat} {S : List Nat} (h : RowAt w B (.slice (some ⟨g, 0, none⟩) n c) S) {i : Nat} (hi : i < S.length) : w.cell? ⟨g, i, none⟩ = some (pt (S.getD i 0)) := by
  rcases h.cases with ⟨h1, -⟩ | ⟨g', cap', h1, -, -, -, -, h2⟩
  · cases h1
  · cases h1; exact h2 i hi

theorem lim_of {n : Nat} (h : n ≤ 17000000000000) : n ≤ maxLen ∧ n * 8 ≤ 140737488355328 := by unfold maxLen; omega

/-- append(a, b..): one more element, which lies in a block of its own. -/
theorem append_row {w : World} {ops : Array Oper} {rest : List Oper} {o : Oper} {a : Act} {Q : Exit → Act → World → Prop} (hgd : o.guard = none) (s x : Operand)
    (ho : o.op = .call { callee := .builtin .append, args := #[s, x], argTypes := #[40, 40] })
    (base b c : Nat) (v : Value) (S : List Nat) (y : Nat) (hs : a.eval s = v) (hx : a.eval x = .slice (some ⟨b, 0, none⟩) 1 c) (hown : RowAt w base v S) (hb : w.heap[b]? = some (.cells #[pt y] 86 (0, 0)))
    (hn : S.length + 1 ≤ 17000000000000) (hbase : base ≤ w.heap.size)
    (h : ∀ v' w', RowAt w' base v' (S ++ [y]) → Only (fun k => v.ownBlock = some k) w w' → (∀ k, v'.ownBlock = some k → v.ownBlock = some k ∨ w.heap.size ≤ k) → (∃ g' c', v' = .slice (some ⟨g', 0, none⟩) (S.length + 1) c') → wpList Tryz.prog ops Q rest (a.put o.dst v') w') : wpList Tryz.prog ops Q (o :: rest) a w := by
  obtain ⟨i0, hi, hz0, hz1, hz2⟩ := info_parts Tryz.infoElem
  refine wpList_append_lies w hgd s x 40 ho base 86 i0 (.pointer none) 1 8 Tryz.underlying40 hi hz0 hz1 hz2 rfl (by decide) v S.length (S.map pt) hs hown ⟨b, 0, none⟩ 1 c [pt y] hx rfl ?_ (by intro u hu; simp at hu; subst hu; rfl) Nat.one_pos (lim_of hn).1 (lim_of hn).2 hbase _ rfl ?_
  · intro j u hj
    rw [add_plain, cell_at hb, Nat.zero_add, ← Array.getElem?_toList]
    exact hj
  · intro g' cap' w' hown' hg hat _
    refine h _ w' ?_ (Only.of_grown hg (fun k hk => hk)) (fun k hk => by cases hk; exact hat.imp_right (fun e => by rw [e]; exact Nat.le_refl _)) ⟨_, _, rfl⟩
    unfold RowAt
    rw [List.length_append, List.map_append]
    exact hown'

section
variable {P : Nat → Prop}
/-- The pointer to one of the blocks. -/
def ptv (x : {x // P x}) : Value := pt x.1
def vals (S : List {x // P x}) : List Nat := S.map (·.1)

theorem holds_row {w : World} {B g n c : Nat} {S : List {x // P x}} [Inhabited {x // P x}] (h : RowAt w B (.slice (some ⟨g, 0, none⟩) n c) (vals S)) : Holds ptv w g 0 S.toArray := by
  rcases h.cases with ⟨h1, -⟩ | ⟨g', cap, h1, hb, h3, h4, ⟨cur, h2⟩, hc⟩
  · cases h1
  · cases h1
    intro j hj
    have hj2 : j < S.length := by simpa using hj
    rw [Nat.zero_add]
    refine ⟨?_, frozen_at h2 j⟩
    rw [hc j (by unfold vals; simpa using hj2), getElem!_pos _ j (by simpa using hj)]
    simp [List.getD, hj2, vals, ptv]

/-- The world with other elements in the row. -/
theorem row_put {w : World} {B g n c m : Nat} {S T : List {x // P x}} [Inhabited {x // P x}] {os : Array Obj} (h : RowAt w B (.slice (some ⟨g, 0, none⟩) n c) (vals S)) (hn : T.length = S.length) :
    RowAt (Sort.grow (putRow ptv (Sort.ahead w m) g 0 T.toArray) os) B (.slice (some ⟨g, 0, none⟩) n c) (vals T) ∧ Only (· = g) w (Sort.grow (putRow ptv (Sort.ahead w m) g 0 T.toArray) os) := by
  rcases h with ⟨hl, ⟨h1, _⟩ | ⟨g', cap, cur, h1, hb, h2, h3, h4, h5, h6⟩⟩
  · cases h1
  · cases h1
    have hgw := block_there h2
    have hvl : (vals T).length = T.length := by simp [vals]
    have hvs : (vals S).length = S.length := by simp [vals]
    have hblk : (Sort.grow (putRow ptv (Sort.ahead w m) g 0 T.toArray) os).heap[g]? = some (.cells (putCells ptv 0 T.toArray cur) 86 (0, 0)) := by
      rw [Sort.heap_grow_old _ os (by show g < (putRow _ _ _ _ _).heap.size; rw [size_putRow]; exact hgw)]
      unfold putRow mapBlock
      show (w.heap.modify g _)[g]? = _
      rw [Array.getElem?_modify, if_pos rfl, h2]
      rfl
    have hsz : (putCells ptv 0 T.toArray cur).size = cur.size := by unfold putCells; simp
    refine ⟨⟨by simp, Or.inr ⟨g, c, _, by rw [hvl, hn, ← hvs], hb, hblk, by omega, h4, by rw [hsz, h5], ?_⟩⟩, rfl, rfl, rfl, ?_, fun k hk hne => ?_⟩
    · apply List.ext_getElem?
      intro t
      rw [List.getElem?_take]
      by_cases ht : t < (vals T).length * 1
      · rw [if_pos ht, Array.getElem?_toList]
        unfold putCells
        rw [Array.getElem?_mapIdx, Array.getElem?_eq_getElem (show t < cur.size by omega)]
        simp only [Option.map_some]
        rw [if_pos ⟨Nat.zero_le _, by simp; omega⟩, Nat.sub_zero, getElem!_pos _ t (by simp; omega)]
        simp [show t < T.length by omega, vals, ptv]
      · rw [if_neg ht, List.getElem?_eq_none (by simp; omega)]
    · show w.heap.size ≤ ((w.heap.modify g _) ++ os).size
      rw [Array.size_append, Array.size_modify]; omega
    · rw [Sort.heap_grow_old _ os (by show k < (putRow _ _ _ _ _).heap.size; rw [size_putRow]; exact hk)]
      unfold putRow mapBlock
      show (w.heap.modify g _)[k]? = _
      rw [Array.getElem?_modify, if_neg (Ne.symm hne)]
end

noncomputable def sortT : TypeInfo := (Tryz.prog.info? 40).get (by kernel_rfl)
noncomputable def sortE : TypeInfo := (Tryz.prog.info? 86).get (by kernel_rfl)
theorem sortK (n : Nat) (h2 : 2 ≤ n) : Lib.swapperK n sortE 22 = 3 := by
  have a : sortE.hasPointers = true := by kernel_rfl
  have b : sortE.bytes = 8 := by kernel_rfl
  have c : (n == 0) = false := by simp; omega
  have d : (n == 1) = false := by simp; omega
  simp [Lib.swapperK, a, b, c, d]

theorem perm_of_in {α : Type} [Inhabited α] {d d' : Array α} (h : Sort.PermIn 0 d.size d d') : d'.size = d.size ∧ d'.toList.Perm d.toList := by
  obtain ⟨h1, -, h2⟩ := h
  rw [Array.extract_eq_self_of_le (by omega), Array.extract_eq_self_of_le (by omega)] at h2
  exact ⟨h1, h2⟩

theorem pairs_of_in {α : Type} [Inhabited α] {lt : α → α → Bool} {d : Array α} (h : Sort.SortedIn lt 0 d.size d) : d.toList.Pairwise fun x y => lt y x = false := by
  rw [List.pairwise_iff_getElem]
  intro i j hi hj hij
  simp only [Array.length_toList] at hi hj
  have := h i j (Nat.zero_le _) hij hj
  rw [getElem!_pos d i hi, getElem!_pos d j hj] at this
  simpa using this

/-- What is known behind a sort: the row holds the same elements, in order. -/
def Ordered (lt : Nat → Nat → Bool) (B g n c : Nat) (S : List Nat) (w : World) (e : Ending) (w' : World) : Prop :=
  e = .returned (.tuple #[]) ∧ ∃ T : List Nat, T.Perm S ∧ (T.Pairwise fun x y => lt y x = false) ∧ RowAt w' B (.slice (some ⟨g, 0, none⟩) n c) T ∧ Only (· = g) w w'

set_option maxRecDepth 100000 in
theorem sort_of (P : Nat → Prop) (lt : Nat → Nat → Bool) (hO : Sort.SWO lt) (B g n c : Nat) (lb : Array Value) (S : List Nat) (w : World) (h : RowAt w B (.slice (some ⟨g, 0, none⟩) n c) S) (hP : ∀ x ∈ S, P x) (hn : S.length = n) (hl : n ≤ 6000000000000)
    (hless : ∀ (W : World) (T : List Nat), T.length = n → (∀ x ∈ T, P x) → RowAt W B (.slice (some ⟨g, 0, none⟩) n c) T → Only (· = g) w W → ∀ i j : Nat, i < n → j < n →
      Calls Tryz.prog 70 (#[.int .i64 i, .int .i64 j] ++ lb) W fun e w' => e = .returned (.bool (lt (T.getD i 0) (T.getD j 0))) ∧ ∃ q, w' = W.drewN q) :
    Calls Tryz.prog 69 #[.iface 40 (.slice (some ⟨g, 0, none⟩) n c), .func (.func 70) #[] lb] w (Ordered lt B g n c S w) := by
  have eg : ∀ args w, (callFunc 70 args).run Tryz.prog w = .ok (.enter 70 args) w := enters_of Tryz.func70 (by kernel_rfl) rfl
  have hgw : g < w.heap.size := (h.block rfl).2
  by_cases h2 : 2 ≤ n
  · obtain ⟨S', hS'⟩ : ∃ S' : List {x // P x}, S = vals S' := ⟨S.attach.map (fun x => ⟨x.1, hP x.1 x.2⟩), by unfold vals; simp [List.map_map, Function.comp_def]⟩
    subst hS'
    have hln : S'.length = n := by rw [← hn]; simp [vals]
    clear hn
    subst hln
    haveI : Inhabited {x // P x} := ⟨S'[0]'(by omega)⟩
    have hH := holds_row h
    have hlr : LessReads Tryz.prog 70 lb ptv (fun x y : {x // P x} => lt x.1 y.1) g 0 S'.toArray.size w := by
      intro m os dk hdk i j hi hj
      have hdk2 : dk.toList.length = S'.length := by rw [Array.length_toList, hdk]; simp
      have hput := row_put (m := m) (os := os) (T := dk.toList) h hdk2
      have e1 : Sort.grow (putRow ptv (Sort.ahead w m) g 0 dk.toList.toArray) os = sortWorld ptv w g 0 m dk os := by simp [sortWorld]
      rw [e1] at hput
      have hi2 : i < S'.length := by simpa using hi
      have hj2 : j < S'.length := by simpa using hj
      have ei : dk[i]!.1 = (vals dk.toList).getD i 0 := by rw [getElem!_pos dk i (by rw [hdk]; exact hi)]; simp [vals, List.getD, show i < dk.size by rw [hdk]; exact hi]
      have ej : dk[j]!.1 = (vals dk.toList).getD j 0 := by rw [getElem!_pos dk j (by rw [hdk]; exact hj)]; simp [vals, List.getD, show j < dk.size by rw [hdk]; exact hj]
      have := hless _ (vals dk.toList) (by unfold vals; rw [List.length_map]; exact hdk2) (fun x hx => by unfold vals at hx; obtain ⟨y, -, rfl⟩ := List.mem_map.1 hx; exact y.2) hput.1 hput.2 i j hi2 hj2
      rw [← ei, ← ej] at this
      exact this
    have hS := Any.sort_Slice_sorted sliceL 40 86 sortT sortE (by kernel_rfl) (by kernel_rfl) (by kernel_rfl) (by kernel_rfl) 22 (fun _ => by kernel_rfl) (by kernel_rfl) (fun _ => by kernel_rfl) ptv (fun _ => rfl)
      (fun x y : {x // P x} => lt x.1 y.1) ⟨fun x => hO.irrefl x.1, fun x y z => hO.trans x.1 y.1 z.1, fun x y z => hO.ntrans x.1 y.1 z.1⟩ 70 lb eg g 0 c S'.toArray (by simpa using h2) (by simp; omega) 83 (by rw [sortK _ (by simpa using h2)]; kernel_rfl) true
      (fun args W => run_callFunc_extern Tryz.func83 (by kernel_rfl) (by kernel_rfl) (by kernel_rfl) (e := Extern.ReflectliteSwapper.swap true) (by kernel_rfl) args W) w hlr hH hgw
    change Calls Tryz.prog 69 _ _ _ at hS
    have e0 : S'.toArray.size = S'.length := by simp
    rw [e0] at hS
    refine hS.mono ?_
    rintro e w' ⟨rfl, d', m, os, hPm, hSo, rfl⟩
    rw [← e0] at hPm hSo
    obtain ⟨h3, h4⟩ := perm_of_in hPm
    have h5 : d'.toList.length = S'.length := by rw [Array.length_toList, h3]; simp
    have hput := row_put (m := m) (os := os) (T := d'.toList) h h5
    have hpw := pairs_of_in (lt := fun x y : {x // P x} => lt x.1 y.1) (d := d') (by rw [h3]; exact hSo)
    refine ⟨rfl, vals d'.toList, (by simpa using h4 : d'.toList.Perm S').map _, ?_, by have := hput.1; rwa [Array.toArray_toList] at this, by have := hput.2; rwa [Array.toArray_toList] at this⟩
    unfold vals
    rw [List.pairwise_map]
    exact hpw
  · subst hn
    have hP : S.Pairwise fun x y => lt y x = false := by
      match S, h2 with
      | [], _ => exact List.Pairwise.nil
      | [x], _ => exact List.pairwise_singleton _ _
      | x :: y :: r, h2 => simp at h2
    have hF : ∀ os, Ordered lt B g S.length c S w (.returned (.tuple #[])) (Sort.grow w os) := fun os => by
      have hO2 : Only (fun _ => False) w (Sort.grow w os) := ⟨rfl, rfl, rfl, by show w.heap.size ≤ (w.heap ++ os).size; rw [Array.size_append]; omega, fun k hk _ => Sort.heap_grow_old w os hk⟩
      exact ⟨rfl, S, List.Perm.refl S, hP, h.later hO2, hO2.mono (fun _ _ e => e.elim)⟩
    have h01 : S.length = 0 ∨ S.length = 1 := by omega
    rcases h01 with h0 | h0
    · have hS := Any.sort_Slice_tiny sliceL 40 86 sortT sortE (by kernel_rfl) (by kernel_rfl) (by kernel_rfl) (by kernel_rfl) 22 (fun _ => by kernel_rfl) (some ⟨g, 0, none⟩) S.length c (by omega) 81 (by rw [h0]; kernel_rfl) (.func 70) #[] lb w
      change Calls Tryz.prog 69 _ _ _ at hS
      refine hS.mono ?_
      rintro e w' ⟨rfl, os, rfl⟩
      exact hF os
    · have hS := Any.sort_Slice_tiny sliceL 40 86 sortT sortE (by kernel_rfl) (by kernel_rfl) (by kernel_rfl) (by kernel_rfl) 22 (fun _ => by kernel_rfl) (some ⟨g, 0, none⟩) S.length c (by omega) 82 (by rw [h0]; kernel_rfl) (.func 70) #[] lb w
      change Calls Tryz.prog 69 _ _ _ at hS
      refine hS.mono ?_
      rintro e w' ⟨rfl, os, rfl⟩
      exact hF os

theorem sort_nil (lb : Array Value) (w : World) :
    Calls Tryz.prog 69 #[.iface 40 (.slice none 0 0), .func (.func 70) #[] lb] w (fun e w' => e = .returned (.tuple #[]) ∧ Only (fun _ => False) w w') := by
  have hS := Any.sort_Slice_tiny sliceL 40 86 sortT sortE (by kernel_rfl) (by kernel_rfl) (by kernel_rfl) (by kernel_rfl) 22 (fun _ => by kernel_rfl) none 0 0 (by omega) 81 (by kernel_rfl) (.func 70) #[] lb w
  change Calls Tryz.prog 69 _ _ _ at hS
  refine hS.mono ?_
  rintro e w' ⟨rfl, os, rfl⟩
  exact ⟨rfl, rfl, rfl, rfl, by show w.heap.size ≤ (w.heap ++ os).size; rw [Array.size_append]; omega, fun k hk _ => Sort.heap_grow_old w os hk⟩
end Go.Proofs.YtpincdcebhmnhaaGreat.Pd
/- The reference's class of deadlines in memory: the time, and a list of tasks, each in a block of its own. -/
namespace Go.Proofs.YtpincdcebhmnhaaGreat.De
open Go.ChangeShapes Go.WideShapes Go.ChangeAt Go.RowKit Go.Maps
open Go.Proofs.YtpincdcebhmnhaaGreat.Pd
set_option linter.unusedVariables false

/-- The cells of a task of the reference. -/
def taskCells (t : Int) (x : Tk) : Obj := .cells #[.int .i64 t, .int .i64 x.b, .int .i64 x.p, .int .i64 x.l, .int .i64 x.d, .bool x.r, .bool x.o] 88 (0, 0)

/-- A class of the reference in block q: its tasks are those of L (blocks and numbers). -/
structure RefAt (B : Nat) (w : World) (q o D : Nat) (L : List (Nat × Nat)) (T : Tks) (n : Int) : Prop where
  self : ∃ cs V, w.heap[q]? = some (.cells cs D (0, 0)) ∧ (cs[o]? = some (.int .i64 n) ∧ cs[o + 1]? = some V) ∧ RowAt w B V (L.map (·.1)) ∧ (∀ g, V.ownBlock = some g → g ≠ q ∧ ∀ x ∈ L, g ≠ x.1)
  task : ∀ x ∈ L, w.heap[x.1]? = some (taskCells x.2 (T x.2))
  from' : B ≤ q ∧ ∀ x ∈ L, B ≤ x.1
  apart : ∀ x ∈ L, x.1 ≠ q
  blocks : (L.map (·.1)).Nodup
  nums : (L.map (·.2)).Nodup

theorem any_set1 {w w2 : World} {p : Nat} (h : Only (fun _ => False) w w2) (i : Nat) (u : Value) : Only (fun k => k = p) w (w2.setCell ⟨p, i, none⟩ u) :=
  (h.mono (T := fun k => k = p) (fun _ _ h => h.elim)).setCell (p := ⟨p, i, none⟩) rfl _
theorem any_set2 {w w2 : World} {p : Nat} (h : Only (fun _ => False) w w2) (i j : Nat) (u v : Value) : Only (fun k => k = p) w ((w2.setCell ⟨p, i, none⟩ u).setCell ⟨p, j, none⟩ v) :=
  (any_set1 h i u).setCell (p := ⟨p, j, none⟩) rfl _
theorem any_set3 {w w2 : World} {p : Nat} (h : Only (fun _ => False) w w2) (i j k : Nat) (u v x : Value) : Only (fun k => k = p) w (((w2.setCell ⟨p, i, none⟩ u).setCell ⟨p, j, none⟩ v).setCell ⟨p, k, none⟩ x) :=
  (any_set2 h i j u v).setCell (p := ⟨p, k, none⟩) rfl _

theorem set_head {cs : Array Value} {o : Nat} {x y V : Value} (h : cs[o]? = some x ∧ cs[o + 1]? = some V) : (cs.setIfInBounds o y)[o]? = some y ∧ (cs.setIfInBounds o y)[o + 1]? = some V := by
  have h1 := (Array.getElem?_eq_some_iff.1 h.1).1
  refine ⟨?_, ?_⟩
  · rw [Array.getElem?_setIfInBounds, if_pos rfl, if_pos h1]
  · rw [Array.getElem?_setIfInBounds, if_neg (by omega)]; exact h.2

/-- The list has the tasks that are there. -/
structure Same (L : List (Nat × Nat)) (T : Tks) : Prop where
  num : ∀ x ∈ L, 1 ≤ x.2 ∧ x.2 ≤ 16
  all : ∀ t, t < 17 → (T t).p ≠ 0 → ∃ b, (b, t) ∈ L
  there : ∀ x ∈ L, (T x.2).p ≠ 0

section
variable {B : Nat} {w w' : World} {q o D : Nat} {L : List (Nat × Nat)} {T : Tks} {n : Int}
theorem RefAt.keep {S : Nat → Prop} (h : RefAt B w q o D L T n) (hO : Only S w w') (hS : ∀ k, B ≤ k → k < w.heap.size → ¬ S k) : RefAt B w' q o D L T n := by
  obtain ⟨⟨cs, V, h1, hc, h3, h4⟩, h5, h6, h7, h8, h9⟩ := h
  refine ⟨⟨cs, V, (hO.block q (block_there h1) (hS q h6.1 (block_there h1))).trans h1, hc, h3.keep hO (fun g hg => hS g (h3.block hg).1 (h3.block hg).2), h4⟩, fun x hx => ?_, h6, h7, h8, h9⟩
  have := h5 x hx
  exact (hO.block x.1 (block_there this) (hS x.1 (h6.2 x hx) (block_there this))).trans this
theorem RefAt.later (h : RefAt B w q o D L T n) (hO : Only (fun _ => False) w w') : RefAt B w' q o D L T n := h.keep hO (fun _ _ _ e => e)
theorem RefAt.lt (h : RefAt B w q o D L T n) : q < w.heap.size := by obtain ⟨⟨cs, V, h1, -⟩, -⟩ := h; exact block_there h1
theorem RefAt.frozen (h : RefAt B w q o D L T n) (j : Nat) : w.frozen? ⟨q, j, none⟩ = false := by obtain ⟨⟨cs, V, h1, -⟩, -⟩ := h; exact frozen_at h1 j
theorem RefAt.slice (h : RefAt B w q o D L T n) : ∃ V, w.cell? ⟨q, o + 1, none⟩ = some V ∧ RowAt w B V (L.map (·.1)) ∧ (∀ g, V.ownBlock = some g → g ≠ q ∧ ∀ x ∈ L, g ≠ x.1) := by
  obtain ⟨⟨cs, V, h1, hc, h3, h4⟩, -⟩ := h
  exact ⟨V, by rw [cell_at h1]; exact hc.2, h3, h4⟩
theorem RefAt.now (h : RefAt B w q o D L T n) : w.cell? ⟨q, o, none⟩ = some (.int .i64 n) := by obtain ⟨⟨cs, V, h1, hc, -⟩, -⟩ := h; rw [cell_at h1]; exact hc.1
theorem RefAt.low (h : RefAt B w q o D L T n) : B ≤ w.heap.size := by have := h.lt; have := h.from'.1; omega
theorem RefAt.congr {T' : Tks} (h : RefAt B w q o D L T n) (hT : ∀ x ∈ L, T' x.2 = T x.2) : RefAt B w q o D L T' n := ⟨h.self, fun x hx => by rw [hT x hx]; exact h.task x hx, h.from', h.apart, h.blocks, h.nums⟩
section
variable {b t : Nat}
theorem RefAt.tn (h : RefAt B w q o D L T n) (hx : (b, t) ∈ L) : w.cell? ⟨b, 0, none⟩ = some (.int .i64 t) := by rw [cell_at (h.task _ hx)]; rfl
theorem RefAt.tl (h : RefAt B w q o D L T n) (hx : (b, t) ∈ L) : w.cell? ⟨b, 3, none⟩ = some (.int .i64 (T t).l) := by rw [cell_at (h.task _ hx)]; rfl
theorem RefAt.td (h : RefAt B w q o D L T n) (hx : (b, t) ∈ L) : w.cell? ⟨b, 4, none⟩ = some (.int .i64 (T t).d) := by rw [cell_at (h.task _ hx)]; rfl
theorem RefAt.tr (h : RefAt B w q o D L T n) (hx : (b, t) ∈ L) : w.cell? ⟨b, 5, none⟩ = some (.bool (T t).r) := by rw [cell_at (h.task _ hx)]; rfl
theorem RefAt.to (h : RefAt B w q o D L T n) (hx : (b, t) ∈ L) : w.cell? ⟨b, 6, none⟩ = some (.bool (T t).o) := by rw [cell_at (h.task _ hx)]; rfl
theorem RefAt.tfrozen (h : RefAt B w q o D L T n) (hx : (b, t) ∈ L) (j : Nat) : w.frozen? ⟨b, j, none⟩ = false := frozen_at (h.task _ hx) j
theorem RefAt.tlt (h : RefAt B w q o D L T n) (hx : (b, t) ∈ L) : b < w.heap.size := block_there (h.task _ hx)
end
theorem RefAt.same_num (h : RefAt B w q o D L T n) {b b' t : Nat} (h1 : (b, t) ∈ L) (h2 : (b', t) ∈ L) : b = b' := by
  have hn := h.nums
  clear h
  induction L with
  | nil => cases h1
  | cons x xs ih =>
    rw [List.map_cons, List.nodup_cons] at hn
    rcases List.mem_cons.1 h1 with e1 | e1
    · rcases List.mem_cons.1 h2 with e2 | e2
      · rw [← e1] at e2; exact (Prod.mk.inj e2).1.symm
      · exact absurd (List.mem_map.2 ⟨_, e2, by rw [← e1]⟩) hn.1
    · rcases List.mem_cons.1 h2 with e2 | e2
      · exact absurd (List.mem_map.2 ⟨_, e1, by rw [← e2]⟩) hn.1
      · exact ih e1 e2 hn.2
/-- The number of a block's task. -/
theorem RefAt.numbers (h : RefAt B w q o D L T n) : ∃ f : Nat → Nat, ∀ x ∈ L, f x.1 = x.2 := by
  have hn := h.blocks
  clear h
  induction L with
  | nil => exact ⟨fun _ => 0, fun x hx => by cases hx⟩
  | cons x xs ih =>
    rw [List.map_cons, List.nodup_cons] at hn
    obtain ⟨f, hf⟩ := ih hn.2
    refine ⟨fun b => if b = x.1 then x.2 else f b, fun y hy => ?_⟩
    rcases List.mem_cons.1 hy with e | e
    · subst e; exact if_pos rfl
    · have : y.1 ≠ x.1 := fun e' => hn.1 (List.mem_map.2 ⟨y, e, e'⟩)
      show (if y.1 = x.1 then x.2 else f y.1) = y.2
      rw [if_neg this]; exact hf y e

theorem RefAt.len16 (h : RefAt B w q o D L T n) (hs : Same L T) : L.length ≤ 16 := by
  have h1 := h.nums
  have h2 : (L.map (·.2)).length ≤ (List.range' 1 16).length := by
    apply List.Nodup.length_le_of_subset h1
    intro x hx
    obtain ⟨y, hy, rfl⟩ := List.mem_map.1 hx
    have := hs.num y hy
    rw [List.mem_range'_1]; omega
  simpa using h2
end

section
variable {B : Nat} {w : World} {q o D : Nat} {L : List (Nat × Nat)} {T : Tks} {m0 : Int}

theorem mem_getD {L : List (Nat × Nat)} {j : Nat} (h : j < L.length) : ∃ t, ((L.map (·.1)).getD j 0, t) ∈ L ∧ L[j]? = some ((L.map (·.1)).getD j 0, t) := by
  refine ⟨(L[j]).2, ?_, ?_⟩
  · have : (L.map (·.1)).getD j 0 = (L[j]).1 := by simp [List.getD, h]
    rw [this]; exact List.getElem_mem h
  · simp [List.getD, h]

theorem row_at {w : World} {B n c : Nat} {a : Option Addr} {S : List Nat} (h : RowAt w B (.slice a n c) S) {j : Nat} (hj : j < S.length) : ∃ g, a = some ⟨g, 0, none⟩ ∧ B ≤ g ∧ g < w.heap.size ∧ w.cell? ⟨g, j, none⟩ = some (pt (S.getD j 0)) := by
  rcases h.cases with ⟨h1, h2⟩ | ⟨g, cap, h1, hb, -, -, ⟨cur, h3⟩, h2⟩
  · subst h2; cases hj
  · cases h1; exact ⟨g, rfl, hb, block_there h3, h2 j hj⟩

/-- Find: the pointer to a task, or nil. -/
theorem findr_any (h : RefAt B w q o D L T m0) (hl : L.length ≤ 16) (t : Int) :
    Calls Tryz.prog 39 #[.pointer (some ⟨q, o, none⟩), .int .i64 t] w fun e w' => ((∃ b n : Nat, e = .returned (pt b) ∧ (b, n) ∈ L ∧ (n : Int) = t) ∨ (e = .returned (.pointer none) ∧ ∀ x ∈ L, (x.2 : Int) ≠ t)) ∧ w = w' := by
  obtain ⟨V, c0, hr, -⟩ := h.slice
  obtain ⟨n, hn⟩ : ∃ n, (L.map (·.1)).length = n := ⟨_, rfl⟩
  obtain ⟨a, c, rfl, hc1, hc2, hc3⟩ := hr.shape hn
  have hln : L.length = n := by rw [← hn]; simp
  have H := Lib.hid h
  have HR := Lib.hid hr
  have HLN := Lib.hid hln
  have hn16 : n ≤ 16 := by omega
  clear h hr hn hln hl
  go_enter Tryz.func39, Tryz.ntmps39
  go_wp2_with fail
  go_loopw [12] (fun i wr => ∃ j : Nat, j ≤ n ∧ i = .int .i64 j ∧ (∀ k, k < j → ∀ x, L[k]? = some x → (x.2 : Int) ≠ t) ∧ wr = w) (fun i _ => n - (intOf i).toNat)
  case atStart => exact ⟨0, by omega, rfl, fun k hk => absurd hk (Nat.not_lt_zero _), rfl⟩
  case round =>
    obtain ⟨j, hj, rfl, hno, rfl⟩ := hrel
    have HN := Lib.hid hno
    clear hno
    by_cases hlt : j < n
    · obtain ⟨m, hm, hm2⟩ := mem_getD (L := L) (j := j) (by rw [HLN.out]; exact hlt)
      obtain ⟨g, rfl, -, -, d0⟩ := row_at HR.out (j := j) (by rw [List.length_map, HLN.out]; exact hlt)
      have d1 := H.out.tn hm
      generalize (L.map (·.1)).getD j 0 = b at *
      have HM := Lib.hid hm
      have HM2 := Lib.hid hm2
      unfold pt at *
      have g1 : (j : Int) < n := by omega
      have g2 : (0 : Int) ≤ j := by omega
      clear hm hm2
      by_cases e : (m : Int) = t
      · have e1 : ((m : Int) == t) = true := by simp [e]
        have HE := Lib.hid e
        clear e
        go_wp2_with fail
        go_ret
        exact ⟨Or.inl ⟨b, m, rfl, HM.out, HE.out⟩, rfl⟩
      · have e1 : ((m : Int) == t) = false := by simp [e]
        have HE := Lib.hid e
        clear e
        go_wp2_with fail
        go_roundw
        case rel =>
          refine ⟨j + 1, by omega, by go_num, fun k hk x hx => ?_, trivial⟩
          by_cases ek : k = j
          · subst ek
            rw [HM2.out] at hx
            cases hx
            exact HE.out
          · exact HN.out k (by omega) x hx
        case measure => simp [intOf]; omega
    · obtain rfl : j = n := by omega
      go_wp2_with fail
      go_ret
      exact ⟨Or.inr ⟨rfl, fun x hx => by
        obtain ⟨k, hk, hk2⟩ := List.getElem_of_mem hx
        exact HN.out k (by rw [← HLN.out]; exact hk) x (by rw [List.getElem?_eq_getElem hk, hk2])⟩, rfl⟩
end


section
variable {B : Nat} {w w' : World} {q o D : Nat} {L : List (Nat × Nat)} {T : Tks} {n : Int} {b t : Nat}
theorem RefAt.block_of (h : RefAt B w q o D L T n) (hx : (b, t) ∈ L) {y : Nat × Nat} (hy : y ∈ L) (e : y.1 = b) : y.2 = t := by
  obtain ⟨f, hf⟩ := h.numbers
  have h1 := hf _ hx
  have h2 := hf _ hy
  simp only at h1
  rw [e, h1] at h2; exact h2.symm
theorem RefAt.num_other (h : RefAt B w q o D L T n) (hx : (b, t) ∈ L) {y : Nat × Nat} (hy : y ∈ L) (e : y.1 ≠ b) : y.2 ≠ t := fun e2 => e (h.same_num (t := t) (by rw [← e2]; exact hy) hx)
/-- One task has turned. -/
theorem RefAt.turn (h : RefAt B w q o D L T n) (hx : (b, t) ∈ L) {x : Tk} (hO : Only (fun k => k = b) w w') (hb : w'.heap[b]? = some (taskCells t x)) : RefAt B w' q o D L (upd T t x) n := by
  have h' := h
  obtain ⟨⟨cs, V, h1, hc, h3, h4⟩, h5, h6, h7, h8, h9⟩ := h
  refine ⟨⟨cs, V, (hO.block q (block_there h1) (fun e => h7 _ hx e.symm)).trans h1, hc, h3.keep hO (fun g hg e => (h4 g hg).2 _ hx e), h4⟩, fun y hy => ?_, h6, h7, h8, h9⟩
  by_cases e : y.1 = b
  · have e2 := h'.block_of hx hy e
    rw [e, e2, upd_same]; exact hb
  · rw [upd_other _ _ (h'.num_other hx hy e)]
    exact (hO.block y.1 (block_there (h5 y hy)) e).trans (h5 y hy)
/-- The time is set. -/
theorem RefAt.set_now (h : RefAt B w q o D L T n) (m : Int) : RefAt B (w.setCell ⟨q, o, none⟩ (.int .i64 m)) q o D L T m := by
  have hO : Only (fun k => k = q) w (w.setCell ⟨q, o, none⟩ (.int .i64 m)) := (Only.refl (fun k => k = q) w).setCell (p := ⟨q, o, none⟩) rfl _
  obtain ⟨⟨cs, V, h1, hc, h3, h4⟩, h5, h6, h7, h8, h9⟩ := h
  exact ⟨⟨_, V, heap_setCell_same w q o _ _ (.int .i64 m) h1, set_head hc, h3.keep hO (fun g hg e => (h4 g hg).1 e), h4⟩, fun y hy => (hO.block y.1 (block_there (h5 y hy)) (h7 y hy)).trans (h5 y hy), h6, h7, h8, h9⟩
end
end Go.Proofs.YtpincdcebhmnhaaGreat.De
