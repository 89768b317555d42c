/- The reference's WakeUp. -/
import Derived.Test.YtkjcaainbomemaaFTops2
import Derived.Test.YtkjcaainbomemaaFRefSet
namespace Go.Proofs.Ytkjcaainbomemaa.Fr
open Go.ChangeShapes Go.WideShapes Go.ChangeAt Go.RowKit Go.Maps
open Go.Proofs.Ytkjcaainbomemaa.Vt Go.Proofs.Ytkjcaainbomemaa.Pt
set_option linter.unusedVariables false

theorem nextTo_zero {T : Tks} {G : Grs} (k : Nat) : (nextTo T G k).1 = 0 → (nextTo T G k).2 = 0 := by
  induction k with
  | zero => exact fun _ => rfl
  | succ k ih =>
    unfold nextTo
    split
    · rename_i h; exact fun e => absurd e h.1
    · exact ih
theorem next_zero {T : Tks} {G : Grs} : (next T G).1 = 0 → (next T G).2 = 0 := by
  unfold next
  split
  · rename_i h; exact fun e => absurd e h.1
  · exact nextTo_zero 8

/-- What WakeUp leaves. -/
def WokeAns (B : Nat) (w : World) (q b : Nat) (L : List (Nat × Nat)) (T : Tks) (G : Grs) (W GW : Nat → Int) (e : Ending) (w' : World) : Prop :=
  e = .returned (.tuple #[]) ∧ RefAt B w' q L T G W GW ∧ Only (fun k => k = q ∨ k = b) w w'

theorem only_b {w w2 : World} {q b : Nat} (h : Only (fun _ => False) w w2) (j : Nat) (u : Value) : Only (fun k => k = q ∨ k = b) w (w2.setCell ⟨b, j, none⟩ u) :=
  (h.mono (T := fun k => k = q ∨ k = b) (fun _ _ e => e.elim)).setCell (p := ⟨b, j, none⟩) (Or.inr rfl) u
theorem only_q {w w2 : World} {q b : Nat} (h : Only (fun _ => False) w w2) (j : Nat) (u : Value) : Only (fun k => k = q ∨ k = b) w (w2.setCell ⟨q, j, none⟩ u) :=
  (h.mono (T := fun k => k = q ∨ k = b) (fun _ _ e => e.elim)).setCell (p := ⟨q, j, none⟩) (Or.inl rfl) u
theorem only_b2 {w w2 : World} {q b : Nat} (h : Only (fun k => k = q ∨ k = b) w w2) (j : Nat) (u : Value) : Only (fun k => k = q ∨ k = b) w (w2.setCell ⟨b, j, none⟩ u) := h.setCell (p := ⟨b, j, none⟩) (Or.inr rfl) u

section
variable {B : Nat} {w : World} {q b t : Nat} {L : List (Nat × Nat)} {T : Tks} {G : Grs} {W GW : Nat → Int}

theorem RefAt.set_vr (h : RefAt B w q L T G W GW) (hx : (b, t) ∈ L) (x : Int) : RefAt B ((w.setCell ⟨b, 3, none⟩ (.int .i64 x)).setCell ⟨b, 4, none⟩ (.bool true)) q L (upd T t ⟨(T t).c, x, (T t).g, true⟩) G W GW := by
  have := (h.set_v hx x).set_r hx true
  rwa [upd_upd, upd_same] at this
end

/-- The least of the times that compete, as Min answers it. -/
theorem least_is {T : Tks} {G : Grs} {U : List Int} {n : Nat} (h0 : (T 0).r = false) (h : Tops T G U) (hn : U.length = n) (hz : (next T G).1 ≠ 0) : 1 ≤ n ∧ leastTo U (n - 1) = (next T G).2 := by
  have h1 : U ≠ [] := fun e => hz ((tops_empty h0 h).1 e)
  have h2 := List.length_pos_iff.2 h1
  refine ⟨by omega, ?_⟩
  have hls := leastTo_spec U (n - 1) (by omega)
  exact tops_least h0 h hls.1 (fun x hx => by
    obtain ⟨i, hi, e⟩ := List.getElem_of_mem hx
    have := hls.2 i (by omega)
    rw [← e]; simpa [List.getD, hi] using this)

set_option maxRecDepth 100000 in
set_option maxHeartbeats 1000000 in
theorem wokeup_solo {B : Nat} {w : World} {q b t : Nat} {L : List (Nat × Nat)} {T : Tks} {G : Grs} {W GW : Nat → Int} (h : RefAt B w q L T G W GW) (hs : Same L T G W GW) (h0 : (T 0).r = false) (hrc : ∀ t, t < 17 → (T t).r = true → (T t).c ≠ 0) (hx : (b, t) ∈ L) (hv : 0 ≤ (T t).v) (hg : (T t).g = 0) :
    Calls Try.prog 17 #[.pointer (some ⟨q, 0, none⟩), .pointer (some ⟨b, 0, none⟩)] w (WokeAns B w q b L (wokeT T G t) (wokeG T G t) W GW) := by
  have H := Lib.hid h
  have HS := Lib.hid h0
  have HX := Lib.hid hx
  have ct := Lib.hid (topsr_any h hs h0 hrc)
  have co := Lib.hid (fun (w2 : World) (hO : Only (fun _ => False) w w2) => ofh_any (h.later hO) hs h0 hrc 0)
  have HG0 := Lib.hid hg
  have HT := Lib.hid (wokeT_0 (G := G) hg)
  have HG := Lib.hid (wokeG_0 (G := G) hg)
  have dg0 := h.tg hx
  rw [hg] at dg0
  clear h hs h0 hrc hx hg
  by_cases hz : (next T G).1 = 0
  · have HZ := Lib.hid hz
    have HE : Hid (max (T t).v (next T G).2 = (T t).v) := Lib.hid (by rw [next_zero hz]; omega)
    clear hz
    go_enter Try.func17, Try.ntmps17
    go_upto_region 6 with (first
      | (go_at_call 37; (with_reducible refine ct.out.mono ?_); rintro e w1 ⟨at1, nt, ct1, U, rfl, hU, hnt, hNU, hT, hO⟩; have HU := Lib.hid hU; have HNT := Lib.hid hnt; have HNU := Lib.hid hNU; have HTT := Lib.hid hT; have HO1 := Lib.hid hO; have dg := (H.out.later hO).tg HX.out; rw [HG0.out] at dg; clear hU hnt hNU hT hO)
      | (go_at_call 38; (with_reducible refine (co.out _ HO1.out).mono ?_); rintro e w2 ⟨a2, n2, c2, K, rfl, hK, hc1, hc2, hn16, hrow, hmem, hz, hnz, hO2⟩; have HO2 := Lib.hid (HO1.out.trans hO2 (fun _ _ h => h)); have HN2 := Lib.hid (HNU.out.later hO2); have H2 := Lib.hid (H.out.later HO2.out); have dg2 := H2.out.tg HX.out; rw [HG0.out] at dg2; skip; clear hK hrow hmem hz hnz hO2))
    have hn0 : nt = 0 := by have := (tops_empty HS.out HTT.out).2 HZ.out; have := HU.out; simp_all
    have e1 : ¬ (0 : Int) < nt := by omega
    have e2 : decide ((0 : Int) < nt) = false := decide_eq_false e1
    go_quiet (fail)
    have H3 := Lib.hid (H2.out.later (only_drewN (Only.refl (fun _ => False) w2) nq))
    have HO3 := Lib.hid (only_drewN HO2.out nq)
    have d4 := H3.out.tr HX.out
    have f4 := H3.out.tfrozen HX.out 4
    generalize w2.drewN nq = w3 at *
    go_wp2_with fail
    go_end0
    refine ⟨rfl, ?_, only_b HO3.out _ _⟩
    rw [HT.out, HG.out, HE.out]
    exact H3.out.set_r HX.out true
  · have HZ := Lib.hid hz
    obtain ⟨m, hm⟩ : ∃ m, (next T G).2 = m := ⟨_, rfl⟩
    have HM := Lib.hid hm
    clear hz hm
    go_enter Try.func17, Try.ntmps17
    go_upto_region 6 with (first
      | (go_at_call 37; (with_reducible refine ct.out.mono ?_); rintro e w1 ⟨at1, nt, ct1, U, rfl, hU, hnt, hNU, hT, hO⟩; have HU := Lib.hid hU; have HNT := Lib.hid hnt; have HNU := Lib.hid hNU; have HTT := Lib.hid hT; have HO1 := Lib.hid hO; have dg := (H.out.later hO).tg HX.out; rw [HG0.out] at dg; clear hU hnt hNU hT hO)
      | (go_at_call 38; (with_reducible refine (co.out _ HO1.out).mono ?_); rintro e w2 ⟨a2, n2, c2, K, rfl, hK, hc1, hc2, hn16, hrow, hmem, hz, hnz, hO2⟩; have HO2 := Lib.hid (HO1.out.trans hO2 (fun _ _ h => h)); have HN2 := Lib.hid (HNU.out.later hO2); have H2 := Lib.hid (H.out.later HO2.out); have dg2 := H2.out.tg HX.out; rw [HG0.out] at dg2; skip; clear hK hrow hmem hz hnz hO2))
    have hle := least_is HS.out HTT.out HU.out HZ.out
    have e1 : (0 : Int) < nt := by omega
    have e2 : decide ((0 : Int) < nt) = true := decide_eq_true e1
    have e1n : 0 < nt := by omega
    have e2n : decide (0 < nt) = true := decide_eq_true e1n
    have cm := min_any at1 nt ct1 U
    have CM : Hid (∀ w2, Nums w2 (.slice at1 nt ct1) U → Calls Try.prog 39 #[.slice at1 nt ct1] w2 fun e w' => e = .returned (.int .i64 m) ∧ w2 = w') := Lib.hid (fun w2 hN => by
      have := cm w2 hN HU.out hle.1 (by have := HNT.out; omega)
      rw [hle.2, HM.out] at this; exact this)
    have dv2 := H2.out.tv HX.out
    clear cm hle
    by_cases hlt : (T t).v < m
    · have e3 : decide ((T t).v < m) = true := decide_eq_true hlt
      have HE : Hid (max (T t).v (next T G).2 = m) := Lib.hid (by rw [HM.out]; omega)
      have C1 := Lib.hid (fun n => (CM.out (w2.drewN n) (HN2.out.later (only_drewN (Only.refl (fun _ => False) w2) n))).mono (fun e w' h => (⟨h.1, h.2.symm⟩ : e = .returned (.int .i64 m) ∧ w' = w2.drewN n)))
      go_quiet ((go_at_call 39; (with_reducible exact Calls.quiet_of_same (C1.out _))))
      have H3 := Lib.hid (H2.out.later (only_drewN (Only.refl (fun _ => False) w2) nq))
      have HO3 := Lib.hid (only_drewN HO2.out nq)
      have C2 := Lib.hid (CM.out _ (HN2.out.later (only_drewN (Only.refl (fun _ => False) w2) nq)))
      have d3 := H3.out.tv HX.out
      have f3 := H3.out.tfrozen HX.out
      have d4 := H3.out.tr HX.out
      generalize w2.drewN nq = w3 at *
      go_wp2_with (go_at_call 39; (with_reducible refine C2.out.mono ?_); rintro e w' ⟨rfl, rfl⟩)
      go_end0
      refine ⟨rfl, ?_, only_b2 (only_b HO3.out _ _) _ _⟩
      rw [HT.out, HG.out, HE.out]
      exact H3.out.set_vr HX.out m
    · have e3 : decide ((T t).v < m) = false := decide_eq_false hlt
      have HE : Hid (max (T t).v (next T G).2 = (T t).v) := Lib.hid (by rw [HM.out]; omega)
      have C1 := Lib.hid (fun n => (CM.out (w2.drewN n) (HN2.out.later (only_drewN (Only.refl (fun _ => False) w2) n))).mono (fun e w' h => (⟨h.1, h.2.symm⟩ : e = .returned (.int .i64 m) ∧ w' = w2.drewN n)))
      go_quiet ((go_at_call 39; (with_reducible exact Calls.quiet_of_same (C1.out _))))
      have H3 := Lib.hid (H2.out.later (only_drewN (Only.refl (fun _ => False) w2) nq))
      have HO3 := Lib.hid (only_drewN HO2.out nq)
      have d4 := H3.out.tr HX.out
      have f4 := H3.out.tfrozen HX.out 4
      generalize w2.drewN nq = w3 at *
      go_wp2_with fail
      go_end0
      refine ⟨rfl, ?_, only_b HO3.out _ _⟩
      rw [HT.out, HG.out, HE.out]
      exact H3.out.set_r HX.out true
end Go.Proofs.Ytkjcaainbomemaa.Fr
