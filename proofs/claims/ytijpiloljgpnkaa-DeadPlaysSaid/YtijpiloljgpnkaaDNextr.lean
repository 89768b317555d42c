/- The reference's Next: whoever may go, and goes first. -/
import Derived.Test.YtijpiloljgpnkaaDLess
namespace Go.Proofs.Ytijpiloljgpnkaa.De
open Go.ChangeShapes Go.WideShapes Go.ChangeAt Go.RowKit Go.Maps
open Go.Proofs.Ytijpiloljgpnkaa.Pt
set_option linter.unusedVariables false

/-- What Next answers. -/
def NextAns (w : World) (L : List (Nat × Nat)) (T : Tks) (e : Ending) (w' : World) : Prop :=
  ((e = .returned (.pointer none) ∧ pick T = 0) ∨ ∃ b, ((b, pick T) ∈ L ∧ pick T ≠ 0) ∧ e = .returned (pt b)) ∧ Only (fun _ => False) w w'

section
variable {L : List (Nat × Nat)} {T : Tks} {n : Int} {K : List Nat}
theorem next_empty (hs : Same L T) (hf : Fit T n) (hK : ∀ b : Nat, b ∈ ([] : List Nat) ↔ ∃ t, (b, t) ∈ L ∧ Can (T t)) : pick T = 0 := by
  apply Decidable.byContradiction
  intro h
  have hc := pick_can h
  obtain ⟨b, hb⟩ := hs.all _ (pick_lt T) (hf.rp _ (pick_lt T) hc.1)
  have := (hK b).2 ⟨_, hb, hc⟩
  cases this

theorem next_first (hs : Same L T) (hf : Fit T n) (hK : ∀ b : Nat, b ∈ K ↔ ∃ t, (b, t) ∈ L ∧ Can (T t)) {f : Nat → Nat} (hF : ∀ x ∈ L, f x.1 = x.2) {S : List Nat} (hP : S.Perm K) (hS : S.Pairwise fun x y => goesLt T f y x = false) (h0 : 0 < S.length) :
    (S.getD 0 0, pick T) ∈ L ∧ pick T ≠ 0 := by
  match S, h0 with
  | b :: r, _ =>
    show (b, pick T) ∈ L ∧ pick T ≠ 0
    obtain ⟨t, hb, hc⟩ := (hK b).1 (hP.mem_iff.1 (by simp))
    have ht := hs.num _ hb
    simp only at ht
    obtain ⟨h1, h2⟩ := pick_first hf.zero (show t < 17 by omega) hc
    refine ⟨?_, h1⟩
    have hc2 := pick_can h1
    obtain ⟨b2, hb2⟩ := hs.all _ (pick_lt T) (hf.rp _ (pick_lt T) hc2.1)
    have e1 := hF _ hb
    have e2 := hF _ hb2
    simp only at e1 e2
    have hm : b2 ∈ b :: r := hP.mem_iff.2 ((hK b2).2 ⟨_, hb2, hc2⟩)
    rcases List.mem_cons.1 hm with e | e
    · subst e
      exact hb2
    · have h3 := (List.pairwise_cons.1 hS).1 b2 e
      unfold goesLt at h3
      rw [e1, e2] at h3
      have h4 := of_decide_eq_false h3
      have : t = pick T := by omega
      rw [← this]; exact hb
end

set_option maxRecDepth 100000 in
set_option maxHeartbeats 1000000 in
theorem nextr_any {B : Nat} {w : World} {q : Nat} {L : List (Nat × Nat)} {T : Tks} {m0 : Int} (h : RefAt B w q L T m0) (hl : L.length ≤ 16) (hs : Same L T) (hf : Fit T m0) :
    Calls Try.prog 24 #[.pointer (some ⟨q, 0, none⟩)] w (NextAns w L T) := by
  obtain ⟨V, c0, hr, -⟩ := h.slice
  obtain ⟨n, hn⟩ : ∃ n, (L.map (·.1)).length = n := ⟨_, rfl⟩
  obtain ⟨a, c, rfl, hc1, hc2, hc3⟩ := hr.shape hn
  have hln : L.length = n := by rw [← hn]; simp
  have HQ := Lib.hid h.lt
  have hq := h.lt
  have H := Lib.hid h
  have HR := Lib.hid hr
  have HLN := Lib.hid hln
  have hn16 : n ≤ 16 := by omega
  have HB0 : Hid (OfBox w.heap.size (w.alloc (.cells #[.slice none 0 0] 29)) (.slice none 0 0) (kept L T 0)) := Lib.hid ⟨heap_alloc_new w _, by unfold kept; simp only [List.take_zero, List.filter_nil, List.map_nil]; exact row_nil _ _⟩
  have HO0 := Lib.hid ((Only.refl (fun _ => False) w).alloc (.cells #[.slice none 0 0] 29))
  have HSM := Lib.hid hs
  have HFT := Lib.hid hf
  clear h hr hn hln hl hs hf
  go_enter Try.func24, Try.ntmps24
  go_wp2_with fail
  obtain ⟨Bo, hBo⟩ : ∃ Bo, w.heap.size = Bo := ⟨_, rfl⟩
  have HBo := Lib.hid hBo
  rw [hBo] at HB0
  rw [hBo]
  clear hBo
  go_loopw [11] (fun i wr => ∃ (j : Nat) (v : Value), j ≤ n ∧ i = .int .i64 j ∧ OfBox Bo wr v (kept L T j) ∧ Only (fun _ => False) w wr) (fun i _ => n - (intOf i).toNat)
  case atStart => exact ⟨0, _, by omega, rfl, HB0.out, HO0.out⟩
  case round =>
    obtain ⟨j, v, hj, rfl, hB, hO⟩ := hrel
    have HB := Lib.hid hB
    have HO := Lib.hid hO
    clear hB hO
    by_cases hlt : j < n
    · obtain ⟨m, hm, hm2⟩ := mem_getD (L := L) (j := j) (by rw [HLN.out]; exact hlt)
      obtain ⟨g, rfl, -, -, d0⟩ := row_at (HR.out.later HO.out) (j := j) (by rw [List.length_map, HLN.out]; exact hlt)
      have H2 := Lib.hid (H.out.later HO.out)
      have dr := H2.out.tr hm
      have dg := H2.out.to hm
      have HK := Lib.hid (kept_succ (T := T) hm2)
      have HKL := Lib.hid (kept_len L T j)
      generalize (L.map (·.1)).getD j 0 = b at *
      unfold pt at *
      have g1 : (j : Int) < n := by omega
      have g2 : (0 : Int) ≤ j := by omega
      clear hm hm2
      by_cases hc : Can (T m)
      · have HE : Hid (kept L T (j + 1) = kept L T j ++ [b]) := by have := HK.out; rw [if_pos hc] at this; exact Lib.hid this
        rw [hc.1] at dr
        rw [hc.2] at dg
        have db : wr.cell? ⟨Bo, 0, none⟩ = some v := by rw [cell_at HB.out.box]; rfl
        have hbw : Bo < wr.heap.size := block_there HB.out.box
        have hbz : Bo + 1 ≤ wr.heap.size := hbw
        clear hc HK
        generalize kept L T j = K at *
        have hk1 : K.length + 1 ≤ 17000000000000 := by have := HKL.out; have := HLN.out; omega
        have HK1 := Lib.hid hk1
        have HBZ := Lib.hid (show Bo + 1 ≤ (wr.alloc (.cells #[pt b] 34)).heap.size by simp; omega)
        clear hk1 hbz
        go_wp2_with (at_builtin; go_must (refine append_row rfl _ _ rfl (Bo + 1) wr.heap.size 1 v K b rfl rfl (HB.out.row.later ((Only.refl _ wr).alloc _)) ?_ HK1.out HBZ.out ?_); (go_must (exact heap_alloc_new wr _)); go_must (intro v5 w5 hr5 hO5 hV5 hsh); go_must (obtain ⟨g5, c5, rfl⟩ := hsh); go_must (have hst := HB.out.step HBo.out.symm HO.out hr5 hO5); go_must (obtain ⟨d1, d2, hB6, hO6⟩ := hst); have HB6 := Lib.hid hB6; have HO6 := Lib.hid hO6; clear hr5 hO5 hV5 hB6 hO6)
        go_roundw
        case rel => exact ⟨j + 1, _, by omega, by go_num, by rw [HE.out]; exact HB6.out, HO6.out⟩
        case measure => simp [intOf]; omega
      · have HE : Hid (kept L T (j + 1) = kept L T j) := by have := HK.out; rw [if_neg hc] at this; exact Lib.hid this
        clear HK
        cases hr2 : (T m).r with
        | false =>
          rw [hr2] at dr
          clear hc hr2
          go_wp2_with fail
          go_roundw
          case rel => exact ⟨j + 1, _, by omega, by go_num, by rw [HE.out]; exact HB.out, HO.out⟩
          case measure => simp [intOf]; omega
        | true =>
          rw [hr2] at dr
          have hg3 : (T m).o = true := by
            cases ho : (T m).o with
            | true => rfl
            | false => exact absurd ⟨hr2, ho⟩ hc
          rw [hg3] at dg
          clear hc hr2 hg3
          go_wp2_with fail
          go_roundw
          case rel => exact ⟨j + 1, _, by omega, by go_num, by rw [HE.out]; exact HB.out, HO.out⟩
          case measure => simp [intOf]; omega
    · obtain rfl : j = n := by omega
      have HK16 := Lib.hid (kept_len L T j)
      have HKM : Hid (∀ b, b ∈ kept L T j ↔ ∃ t, (b, t) ∈ L ∧ Can (T t)) := Lib.hid (fun b => ⟨fun hb => kept_mem hb, fun ⟨t, h1, h2⟩ => by have := mem_kept h1 h2; rwa [HLN.out] at this⟩)
      obtain ⟨f, hf⟩ := H.out.numbers
      have HFN := Lib.hid hf
      have db : wr.cell? ⟨Bo, 0, none⟩ = some v := by rw [cell_at HB.out.box]; rfl
      clear hf hlt
      generalize kept L T j = K at *
      rcases HB.out.row.cases with ⟨rfl, rfl⟩ | ⟨g, cap, hv, hg1, hg2, hg3, -, -⟩
      · go_wp2_with (go_at_call 38; (with_reducible refine (sort_nil _ _).mono ?_); rintro e w3 ⟨rfl, hO3⟩; have HB3 := Lib.hid (HB.out.later hO3); have HO3 := Lib.hid (HO.out.trans hO3 (fun _ _ h => h)); have db3 : w3.cell? ⟨Bo, 0, none⟩ = some (.slice none 0 0) := (by rw [cell_at HB3.out.box]; rfl); clear hO3)
        go_ret
        exact ⟨Or.inl ⟨rfl, next_empty HSM.out HFT.out HKM.out⟩, HO3.out⟩
      · by_cases hk0 : K = []
        · subst hk0
          obtain rfl : v = .slice (some ⟨g, 0, none⟩) 0 cap := hv
          have hsort := Lib.hid (sort_of (fun b => ∃ t, (b, t) ∈ L) (goesLt T f) (swo_goes T f) (Bo + 1) g 0 cap #[.pointer (some ⟨Bo, 0, none⟩)] [] wr HB.out.row (fun b hb => by cases hb) rfl (by omega) (fun W T' hT hP hrow hOW i j hi hj => by omega))
          have HGB := Lib.hid hg1
          clear hg1
          go_wp2_with (go_at_call 38; (with_reducible refine hsort.out.mono ?_); rintro e w3 ⟨rfl, T', hP, hS, hr3, hO3⟩; have HO3 := Lib.hid (HO.out.trans hO3 (fun x hx e => by have := HGB.out; have := HBo.out; omega)); have db3 : w3.cell? ⟨Bo, 0, none⟩ = some (.slice (some ⟨g, 0, none⟩) 0 cap) := (by rw [cell_at ((hO3.block Bo (block_there HB.out.box) (by have := HGB.out; omega)).trans HB.out.box)]; rfl); clear hO3 hP hS hr3)
          go_ret
          exact ⟨Or.inl ⟨rfl, next_empty HSM.out HFT.out HKM.out⟩, HO3.out⟩
        have hkpos := List.length_pos_iff.2 hk0
        obtain ⟨k, hk⟩ : ∃ k, K.length = k := ⟨_, rfl⟩
        rw [hk] at hkpos
        have HKP := Lib.hid hkpos
        have kp1 : ¬ (k : Int) = 0 := by omega
        have kp2 : ((k : Int) == 0) = false := by simp; omega
        have kp3 : (0 : Int) < k := by omega
        rw [hk] at hv hg2
        subst hv
        have HKL := Lib.hid hk
        have HGB := Lib.hid hg1
        have hk16 : k ≤ 16 := by have := HK16.out; have := HLN.out; omega
        have hsort := Lib.hid (sort_of (fun b => ∃ t, (b, t) ∈ L) (goesLt T f) (swo_goes T f) (Bo + 1) g k cap #[.pointer (some ⟨Bo, 0, none⟩)] K wr HB.out.row (fun b hb => by obtain ⟨t, h1, -⟩ := (HKM.out b).1 hb; exact ⟨t, h1⟩) HKL.out (by omega)
          (fun W T' hT hP hrow hOW i j hi hj => by
            have hOw : Only (fun _ => False) w W := HO.out.trans hOW (fun x hx e => by have := HGB.out; have := HBo.out; omega)
            have H3 := H.out.later hOw
            have hb3 := (hOW.block Bo (block_there HB.out.box) (by have := HGB.out; omega)).trans HB.out.box
            have ci := hrow.cell (i := i) (by omega)
            have cj := hrow.cell (i := j) (by omega)
            have mi : T'.getD i 0 ∈ T' := by simp [List.getD, show i < T'.length by omega]
            have mj : T'.getD j 0 ∈ T' := by simp [List.getD, show j < T'.length by omega]
            obtain ⟨ni, hni⟩ := hP _ mi
            obtain ⟨nj, hnj⟩ := hP _ mj
            have ei := HFN.out _ hni
            have ej := HFN.out _ hnj
            have := less_goes Bo g k cap i j _ _ (T ni).d (T nj).d ni nj W hi hj (by omega) (by rw [cell_at hb3]; rfl) ci cj (H3.tn hni) (H3.tn hnj) (H3.td hni) (H3.td hnj)
            have e2 : goesLt T f (T'.getD i 0) (T'.getD j 0) = decide ((T ni).d < (T nj).d ∨ (T ni).d = (T nj).d ∧ ni < nj) := by unfold goesLt; rw [ei, ej]
            rw [e2]
            exact this))
        clear hk hg1
        go_wp2_with (go_at_call 38; (with_reducible refine hsort.out.mono ?_); rintro e w3 ⟨rfl, T', hP, hS, hr3, hO3⟩; have HP := Lib.hid hP; have HS := Lib.hid hS; have HR3 := Lib.hid hr3; have HO3 := Lib.hid (HO.out.trans hO3 (fun x hx e => by have := HGB.out; have := HBo.out; omega)); have db3 : w3.cell? ⟨Bo, 0, none⟩ = some (.slice (some ⟨g, 0, none⟩) k cap) := (by rw [cell_at ((hO3.block Bo (block_there HB.out.box) (by have := HGB.out; omega)).trans HB.out.box)]; rfl); have hlx : 0 < T'.length := (by rw [hP.length_eq, HKL.out]; exact HKP.out); have dx := hr3.cell (i := 0) hlx; have HLX := Lib.hid hlx; unfold pt at dx; clear hO3 hP hS hr3 hlx)
        go_ret
        refine ⟨Or.inr ?_, HO3.out⟩
        have hm := next_first HSM.out HFT.out HKM.out HFN.out HP.out HS.out HLX.out
        exact ⟨_, hm, rfl⟩
end Go.Proofs.Ytijpiloljgpnkaa.De
