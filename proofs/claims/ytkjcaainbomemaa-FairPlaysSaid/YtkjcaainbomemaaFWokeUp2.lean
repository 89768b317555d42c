/- The reference's WakeUp, of a task in a group. -/
import Derived.Test.YtkjcaainbomemaaFWokeUp
namespace Go.Proofs.Ytkjcaainbomemaa.Fr
open Go.ChangeShapes Go.WideShapes Go.ChangeAt Go.RowKit Go.Maps
open Go.Proofs.Ytkjcaainbomemaa.Vt Go.Proofs.Ytkjcaainbomemaa.Pt
set_option linter.unusedVariables false

theorem upd_keep {α : Type} (f : Nat → α) (k : Nat) {x : α} (h : f k = x) : upd f k x = f := by
  funext j; unfold upd; split
  · rename_i e; subst e; exact h.symm
  · rfl

set_option maxRecDepth 100000 in
set_option maxHeartbeats 1000000 in
theorem wokeup_mate {B : Nat} {w : World} {q b t : Nat} {L : List (Nat × Nat)} {T : Tks} {G : Grs} {W GW : Nat → Int} (h : RefAt B w q L T G W GW) (hs : Same L T G W GW) (h0 : (T 0).r = false) (hrc : ∀ t, t < 17 → (T t).r = true → (T t).c ≠ 0) (hx : (b, t) ∈ L) (hg1 : 1 ≤ (T t).g) (hg8 : (T t).g ≤ 8) (hf : first T (T t).g ≠ 0) :
    Calls Try.prog 17 #[.pointer (some ⟨q, 0, none⟩), .pointer (some ⟨b, 0, none⟩)] w (WokeAns B w q b L (wokeT T G t) (wokeG T G t) W GW) := by
  have H := Lib.hid h
  have HS := Lib.hid h0
  have HX := Lib.hid hx
  have ct := Lib.hid (topsr_any h hs h0 hrc)
  obtain ⟨g, hgg⟩ : ∃ g : Nat, (T t).g = g := ⟨(T t).g.toNat, by omega⟩
  have co := Lib.hid (fun (w2 : World) (hO : Only (fun _ => False) w w2) => ofh_any (h.later hO) hs h0 hrc g)
  have HG0 := Lib.hid hgg
  have HT := Lib.hid (wokeT_2 (G := G) (by omega) hf)
  have HG := Lib.hid (wokeG_2 (G := G) hf)
  have dg0 := h.tg hx
  rw [hgg] at dg0
  have g3 : ((g : Int) == 0) = false := by simp; omega
  have g9 : (g : Int) < 9 := by omega
  have g9n : g < 9 := by omega
  rw [hgg] at hf
  have HF := Lib.hid hf
  obtain ⟨f, hff⟩ : ∃ f, first T (T t).g = f := ⟨_, rfl⟩
  have hff2 : first T (g : Int) = f := by rw [← hgg]; exact hff
  rw [hff] at HT
  obtain ⟨vf, hvf⟩ : ∃ vf, (T f).v = vf := ⟨_, rfl⟩
  have HFF := Lib.hid hff2
  have HVF := Lib.hid hvf
  clear h hs h0 hrc hx hg1 hg8 hgg hf hff hff2 hvf
  go_enter Try.func17, Try.ntmps17
  go_upto_region 9 with (first
    | (go_at_call 37; (with_reducible refine ct.out.mono ?_); rintro e w1 ⟨at1, nt, ct1, U, rfl, hU, hnt, hNU, hT, hO⟩; have HU := Lib.hid hU; have HNT := Lib.hid hnt; have HNU := Lib.hid hNU; have HTT := Lib.hid hT; have HO1 := Lib.hid hO; have dg := (H.out.later hO).tg HX.out; rw [HG0.out] at dg; clear hU hnt hNU hT hO)
    | (go_at_call 38; (with_reducible refine (co.out _ HO1.out).mono ?_); rintro e w2 ⟨a2, n2, c2, K, rfl, hK, hc1, hc2, hn16, hrow, hmem, hz, hnz, hO2⟩; have HO2 := Lib.hid (HO1.out.trans hO2 (fun _ _ h => h)); have HN2 := Lib.hid (HNU.out.later hO2); have H2 := Lib.hid (H.out.later HO2.out); have dg2 := H2.out.tg HX.out; rw [HG0.out] at dg2; have n0 : (0 : Int) < n2 := (by have : n2 ≠ 0 := fun h => HF.out (by have := hz h; exact this); omega); have hkn := (hnz (by omega)).2; rw [HFF.out] at hkn; obtain ⟨gk, rfl, -, -, d0⟩ := row_at hrow (j := 0) (by omega); have dv0 := H2.out.tv hkn; have dvx := H2.out.tv HX.out; have HKN := Lib.hid hkn; generalize K.getD 0 0 = b0 at *; unfold pt at d0; clear hkn; clear hK hrow hmem hz hnz hO2))
  rw [HVF.out] at dv0
  by_cases hlt : (T t).v < vf
  · have e3 : decide ((T t).v < vf) = true := decide_eq_true hlt
    have HE : Hid (max (T t).v (T f).v = vf) := Lib.hid (by rw [HVF.out]; omega)
    go_quiet (fail)
    have H3 := Lib.hid (H2.out.later (only_drewN (Only.refl (fun _ => False) w2) nq))
    have HO3 := Lib.hid (only_drewN HO2.out nq)
    have d03 : (w2.drewN nq).cell? ⟨gk, 0, none⟩ = some (.pointer (some ⟨b0, 0, none⟩)) := d0
    have d3v : (w2.drewN nq).cell? ⟨b0, 3, none⟩ = some (.int .i64 vf) := dv0
    have d3 := H3.out.tv HX.out
    have f3 := H3.out.tfrozen HX.out
    have d4 := H3.out.tr HX.out
    clear d0 dv0 dvx dg2
    generalize w2.drewN nq = w3 at *
    go_wp2_with fail
    go_end0
    refine ⟨rfl, ?_, only_b2 (only_b HO3.out _ _) _ _⟩
    rw [HT.out, HG.out, HE.out]
    exact H3.out.set_vr HX.out vf
  · have e3 : decide ((T t).v < vf) = false := decide_eq_false hlt
    have HE : Hid (max (T t).v (T f).v = (T t).v) := Lib.hid (by rw [HVF.out]; omega)
    go_quiet (fail)
    have H3 := Lib.hid (H2.out.later (only_drewN (Only.refl (fun _ => False) w2) nq))
    have HO3 := Lib.hid (only_drewN HO2.out nq)
    have d4 := H3.out.tr HX.out
    have f4 := H3.out.tfrozen HX.out 4
    clear d0 dv0 dvx dg2
    generalize w2.drewN nq = w3 at *
    go_wp2_with fail
    go_end0
    refine ⟨rfl, ?_, only_b HO3.out _ _⟩
    rw [HT.out, HG.out, HE.out]
    exact H3.out.set_r HX.out true

set_option maxRecDepth 100000 in
set_option maxHeartbeats 1000000 in
theorem wokeup_group {B : Nat} {w : World} {q b t : Nat} {L : List (Nat × Nat)} {T : Tks} {G : Grs} {W GW : Nat → Int} (h : RefAt B w q L T G W GW) (hs : Same L T G W GW) (h0 : (T 0).r = false) (hrc : ∀ t, t < 17 → (T t).r = true → (T t).c ≠ 0) (hx : (b, t) ∈ L) (hg1 : 1 ≤ (T t).g) (hg8 : (T t).g ≤ 8) (hf : first T (T t).g = 0) (hv : 0 ≤ (G (T t).g.toNat).v) :
    Calls Try.prog 17 #[.pointer (some ⟨q, 0, none⟩), .pointer (some ⟨b, 0, none⟩)] w (WokeAns B w q b L (wokeT T G t) (wokeG T G t) W GW) := by
  have H := Lib.hid h
  have HS := Lib.hid h0
  have HX := Lib.hid hx
  have ct := Lib.hid (topsr_any h hs h0 hrc)
  obtain ⟨g, hgg⟩ : ∃ g : Nat, (T t).g = g := ⟨(T t).g.toNat, by omega⟩
  have co := Lib.hid (fun (w2 : World) (hO : Only (fun _ => False) w w2) => ofh_any (h.later hO) hs h0 hrc g)
  have HG0 := Lib.hid hgg
  have HT := Lib.hid (wokeT_1 (G := G) (by omega) hf)
  have HG := Lib.hid (wokeG_1 (G := G) (by omega) hf)
  have dg0 := h.tg hx
  rw [hgg] at dg0
  have g3 : ((g : Int) == 0) = false := by simp; omega
  have g9 : (g : Int) < 9 := by omega
  have g9n : g < 9 := by omega
  have hgt : (T t).g.toNat = g := by omega
  rw [hgt] at HG hv
  rw [hgg] at hf
  have HF := Lib.hid hf
  clear h hs h0 hrc hx hg1 hg8 hgg hf hgt
  by_cases hz0 : (next T G).1 = 0
  · have HZ := Lib.hid hz0
    have HE : Hid (max (G g).v (next T G).2 = (G g).v) := Lib.hid (by rw [next_zero hz0]; omega)
    clear hz0
    go_enter Try.func17, Try.ntmps17
    go_upto_region 2 with (first
    | (go_at_call 37; (with_reducible refine ct.out.mono ?_); rintro e w1 ⟨at1, nt, ct1, U, rfl, hU, hnt, hNU, hT, hO⟩; have HU := Lib.hid hU; have HNT := Lib.hid hnt; have HNU := Lib.hid hNU; have HTT := Lib.hid hT; have HO1 := Lib.hid hO; have dg := (H.out.later hO).tg HX.out; rw [HG0.out] at dg; clear hU hnt hNU hT hO)
    | (go_at_call 38; (with_reducible refine (co.out _ HO1.out).mono ?_); rintro e w2 ⟨a2, n2, c2, K, rfl, hK, hc1, hc2, hn16, hrow, hmem, hz, hnz, hO2⟩; have HO2 := Lib.hid (HO1.out.trans hO2 (fun _ _ h => h)); have HN2 := Lib.hid (HNU.out.later hO2); have H2 := Lib.hid (H.out.later HO2.out); have dg2 := H2.out.tg HX.out; rw [HG0.out] at dg2; have n0 : ¬ (0 : Int) < n2 := (by intro h; exact (hnz (by omega)).1 HF.out); have n0n : ¬ 0 < n2 := (by omega); clear hK hrow hmem hz hnz hO2))
    go_quiet (fail)
    have H3 := Lib.hid (H2.out.later (only_drewN (Only.refl (fun _ => False) w2) nq))
    have HO3 := Lib.hid (only_drewN HO2.out nq)
    have hn0 : nt = 0 := by have := (tops_empty HS.out HTT.out).2 HZ.out; have := HU.out; simp_all
    have e1 : ¬ (0 : Int) < nt := by omega
    have e2 : decide ((0 : Int) < nt) = false := decide_eq_false e1
    clear dg2
    generalize w2.drewN nq = w3 at *
    go_upto_region 3 with (fail)
    go_quiet (fail)
    have H4 := Lib.hid (H3.out.later (only_drewN (Only.refl (fun _ => False) w3) nq))
    have HO4 := Lib.hid (only_drewN HO3.out nq)
    have d4 := H4.out.tr HX.out
    have f4 := H4.out.tfrozen HX.out 4
    generalize w3.drewN nq = w4 at *
    go_wp2_with fail
    go_end0
    refine ⟨rfl, ?_, only_b HO4.out _ _⟩
    rw [HT.out, HG.out, HE.out, upd_keep _ _ rfl]
    exact H4.out.set_r HX.out true
  · have HZ := Lib.hid hz0
    obtain ⟨m, hm⟩ : ∃ m, (next T G).2 = m := ⟨_, rfl⟩
    have HM := Lib.hid hm
    clear hz0 hm
    go_enter Try.func17, Try.ntmps17
    go_upto_region 2 with (first
    | (go_at_call 37; (with_reducible refine ct.out.mono ?_); rintro e w1 ⟨at1, nt, ct1, U, rfl, hU, hnt, hNU, hT, hO⟩; have HU := Lib.hid hU; have HNT := Lib.hid hnt; have HNU := Lib.hid hNU; have HTT := Lib.hid hT; have HO1 := Lib.hid hO; have dg := (H.out.later hO).tg HX.out; rw [HG0.out] at dg; clear hU hnt hNU hT hO)
    | (go_at_call 38; (with_reducible refine (co.out _ HO1.out).mono ?_); rintro e w2 ⟨a2, n2, c2, K, rfl, hK, hc1, hc2, hn16, hrow, hmem, hz, hnz, hO2⟩; have HO2 := Lib.hid (HO1.out.trans hO2 (fun _ _ h => h)); have HN2 := Lib.hid (HNU.out.later hO2); have H2 := Lib.hid (H.out.later HO2.out); have dg2 := H2.out.tg HX.out; rw [HG0.out] at dg2; have n0 : ¬ (0 : Int) < n2 := (by intro h; exact (hnz (by omega)).1 HF.out); have n0n : ¬ 0 < n2 := (by omega); clear hK hrow hmem hz hnz hO2))
    have hle := least_is HS.out HTT.out HU.out HZ.out
    have cm := min_any at1 nt ct1 U
    have CM : Hid (∀ w2, Nums w2 (.slice at1 nt ct1) U → Calls Try.prog 39 #[.slice at1 nt ct1] w2 fun e w' => e = .returned (.int .i64 m) ∧ w2 = w') := Lib.hid (fun w2 hN => by
      have := cm w2 hN HU.out hle.1 (by have := HNT.out; omega)
      rw [hle.2, HM.out] at this; exact this)
    have e1 : (0 : Int) < nt := by omega
    have e2 : decide ((0 : Int) < nt) = true := decide_eq_true e1
    have e1n : 0 < nt := by omega
    have e2n : decide (0 < nt) = true := decide_eq_true e1n
    clear cm hle
    go_quiet (fail)
    have H3 := Lib.hid (H2.out.later (only_drewN (Only.refl (fun _ => False) w2) nq))
    have HO3 := Lib.hid (only_drewN HO2.out nq)
    have HN3 := Lib.hid (HN2.out.later (only_drewN (Only.refl (fun _ => False) w2) nq))
    clear dg2
    generalize w2.drewN nq = w3 at *
    have dv3 := H3.out.gv g g9n
    have C1 := Lib.hid (fun n => (CM.out (w3.drewN n) (HN3.out.later (only_drewN (Only.refl (fun _ => False) w3) n))).mono (fun e w' h => (⟨h.1, h.2.symm⟩ : e = .returned (.int .i64 m) ∧ w' = w3.drewN n)))
    by_cases hlt : (G g).v < m
    · have e3 : decide ((G g).v < m) = true := decide_eq_true hlt
      have HE : Hid (max (G g).v (next T G).2 = m) := Lib.hid (by rw [HM.out]; omega)
      go_upto_region 3 with (fail)
      go_quiet ((go_at_call 39; (with_reducible exact Calls.quiet_of_same (C1.out _))))
      have H4 := Lib.hid (H3.out.later (only_drewN (Only.refl (fun _ => False) w3) nq))
      have HO4 := Lib.hid (only_drewN HO3.out nq)
      have C2 := Lib.hid (CM.out _ (HN3.out.later (only_drewN (Only.refl (fun _ => False) w3) nq)))
      have d3 := H4.out.gv g g9n
      have f3 := H4.out.frozen
      have d4 := H4.out.tr HX.out
      have f4 := H4.out.tfrozen HX.out 4
      have HNE := Lib.hid (H4.out.apart _ HX.out)
      generalize w3.drewN nq = w4 at *
      go_upto_region 11 with (go_at_call 39; (with_reducible refine C2.out.mono ?_); rintro e w' ⟨rfl, rfl⟩)
      have H5 := Lib.hid (H4.out.set_gv g g9n m)
      have HO5 := Lib.hid (only_q (q := q) (b := b) HO4.out (1 + g * 3 + 2) (.int .i64 m))
      have d5 := H5.out.tr HX.out
      have f5 := H5.out.tfrozen HX.out 4
      clear d3 f3 d4 f4
      generalize w4.setCell ⟨q, 1 + g * 3 + 2, none⟩ (.int .i64 m) = w5 at *
      go_wp2_with fail
      go_end0
      refine ⟨rfl, ?_, only_b2 HO5.out _ _⟩
      rw [HT.out, HG.out, HE.out]
      exact H5.out.set_r HX.out true
    · have e3 : decide ((G g).v < m) = false := decide_eq_false hlt
      have HE : Hid (max (G g).v (next T G).2 = (G g).v) := Lib.hid (by rw [HM.out]; omega)
      go_upto_region 3 with (fail)
      go_quiet ((go_at_call 39; (with_reducible exact Calls.quiet_of_same (C1.out _))))
      have H4 := Lib.hid (H3.out.later (only_drewN (Only.refl (fun _ => False) w3) nq))
      have HO4 := Lib.hid (only_drewN HO3.out nq)
      have d4 := H4.out.tr HX.out
      have f4 := H4.out.tfrozen HX.out 4
      generalize w3.drewN nq = w4 at *
      go_wp2_with fail
      go_end0
      refine ⟨rfl, ?_, only_b HO4.out _ _⟩
      rw [HT.out, HG.out, HE.out, upd_keep _ _ rfl]
      exact H4.out.set_r HX.out true

theorem wokeup_any {B : Nat} {w : World} {q b t : Nat} {L : List (Nat × Nat)} {T : Tks} {G : Grs} {W GW : Nat → Int} {M : Int} (h : RefAt B w q L T G W GW) (hs : Same L T G W GW) (hF : Fit T G M) (h0 : (T 0).r = false) (hx : (b, t) ∈ L) :
    Calls Try.prog 17 #[.pointer (some ⟨q, 0, none⟩), .pointer (some ⟨b, 0, none⟩)] w (WokeAns B w q b L (wokeT T G t) (wokeG T G t) W GW) := by
  have ht := hs.num _ hx
  simp only at ht
  have hg := hF.g t (by omega)
  have hv := hF.v t (by omega)
  by_cases e : (T t).g = 0
  · exact wokeup_solo h hs h0 hF.rc hx hv.1 e
  · by_cases f : first T (T t).g = 0
    · exact wokeup_group h hs h0 hF.rc hx (by omega) hg.2 f (hF.gv _ (by omega)).1
    · exact wokeup_mate h hs h0 hF.rc hx (by omega) hg.2 f
end Go.Proofs.Ytkjcaainbomemaa.Fr
