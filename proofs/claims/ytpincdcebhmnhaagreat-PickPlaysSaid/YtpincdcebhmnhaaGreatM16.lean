/- Texts of this claim, merged: OFOf. -/
import Derived.Test.YtpincdcebhmnhaaGreatM15
/- The reference's of: the ready tasks of a group, who goes first first. -/
namespace Go.Proofs.YtpincdcebhmnhaaGreat.Fr
open Go.ChangeShapes Go.WideShapes Go.ChangeAt Go.RowKit Go.Maps
open Go.Proofs.YtpincdcebhmnhaaGreat.Vt Go.Proofs.YtpincdcebhmnhaaGreat.Pt
set_option linter.unusedVariables false

/-- The box of the slice that is collected. -/
structure OfBox (Bo : Nat) (wr : World) (v : Value) (K : List Nat) : Prop where
  box : wr.heap[Bo]? = some (.cells #[v] 31 (0, 0))
  row : RowAt wr (Bo + 1) v K

theorem OfBox.later {Bo : Nat} {wr w' : World} {v : Value} {K : List Nat} (h : OfBox Bo wr v K) (hO : Only (fun _ => False) wr w') : OfBox Bo w' v K :=
  ⟨(hO.block Bo (block_there h.box) (fun e => e)).trans h.box, h.row.later hO⟩

theorem OfBox.step {Bo b : Nat} {w wr w5 : World} {v v' : Value} {K : List Nat} {o : Obj} (h : OfBox Bo wr v K) (hB : Bo = w.heap.size) (hw : Only (fun _ => False) w wr) (hr : RowAt w5 (Bo + 1) v' (K ++ [b])) (hO : Only (fun k => v.ownBlock = some k) (wr.alloc o) w5) :
    w5.cell? ⟨Bo, 0, none⟩ = some v ∧ w5.frozen? ⟨Bo, 0, none⟩ = false ∧ OfBox Bo (w5.setCell ⟨Bo, 0, none⟩ v') v' (K ++ [b]) ∧ Only (fun _ => False) w (w5.setCell ⟨Bo, 0, none⟩ v') := by
  have h1 := (h.later ((Only.refl _ wr).alloc o)).box
  have h2 : w5.heap[Bo]? = some (.cells #[v] 31 (0, 0)) := (hO.block Bo (block_there h1) (fun e => by have := (h.row.block e).1; omega)).trans h1
  refine ⟨by rw [cell_at h2]; rfl, frozen_at h2 0, ⟨heap_setCell_same w5 Bo 0 _ _ v' h2, hr.keep (N := fun k => k = Bo) ((Only.refl (fun k => k = Bo) w5).setCell (p := ⟨Bo, 0, none⟩) rfl v') (fun g hg e => by have := (hr.block hg).1; omega)⟩, ?_⟩
  have h3 : Only (fun _ => False) w (wr.alloc o) := hw.alloc o
  have h4 : Only (fun _ => False) w w5 := h3.trans hO (fun k hk e => by have := (h.row.block e).1; omega)
  exact h4.trans ((Only.refl (fun k => k = Bo) w5).setCell (p := ⟨Bo, 0, none⟩) rfl v') (fun k hk e => by omega)

/-- The blocks of the ready tasks of a group, as far as j. -/
def kept (L : List (Nat × Nat)) (T : Tks) (g : Int) (j : Nat) : List Nat := ((L.take j).filter fun x => (T x.2).r && decide ((T x.2).g = g)).map (·.1)

theorem kept_succ {L : List (Nat × Nat)} {T : Tks} {g : Int} {j : Nat} {x : Nat × Nat} (h : L[j]? = some x) : kept L T g (j + 1) = if (T x.2).r = true ∧ (T x.2).g = g then kept L T g j ++ [x.1] else kept L T g j := by
  unfold kept
  rw [List.take_add_one, h]
  simp only [Option.toList_some, List.filter_append, List.map_append]
  by_cases hc : (T x.2).r = true ∧ (T x.2).g = g
  · rw [if_pos hc]; simp [hc.1, hc.2]
  · rw [if_neg hc]
    have : ((T x.2).r && decide ((T x.2).g = g)) = false := by
      cases hr : (T x.2).r with
      | false => rfl
      | true => simp only [Bool.true_and]; exact decide_eq_false (fun e => hc ⟨hr, e⟩)
    simp [this]

theorem kept_len (L : List (Nat × Nat)) (T : Tks) (g : Int) (j : Nat) : (kept L T g j).length ≤ L.length := by
  unfold kept
  rw [List.length_map]
  exact Nat.le_trans (List.length_filter_le _ _) (by rw [List.length_take]; omega)

theorem kept_mem {L : List (Nat × Nat)} {T : Tks} {g : Int} {j b : Nat} (h : b ∈ kept L T g j) : ∃ t, (b, t) ∈ L ∧ isOf T g t := by
  unfold kept at h
  obtain ⟨x, hx, rfl⟩ := List.mem_map.1 h
  obtain ⟨h1, h2⟩ := List.mem_filter.1 hx
  simp only [Bool.and_eq_true, decide_eq_true_eq] at h2
  exact ⟨x.2, List.mem_of_mem_take h1, h2⟩

theorem mem_kept {L : List (Nat × Nat)} {T : Tks} {g : Int} {b t : Nat} (h : (b, t) ∈ L) (ho : isOf T g t) : b ∈ kept L T g L.length := by
  unfold kept
  rw [List.take_length]
  refine List.mem_map.2 ⟨(b, t), List.mem_filter.2 ⟨h, ?_⟩, rfl⟩
  simp only [Bool.and_eq_true, decide_eq_true_eq]
  exact ho

/-- What of answers: the blocks of the ready tasks of a group, in order. -/
def OfAns (w : World) (L : List (Nat × Nat)) (T : Tks) (g : Int) (e : Ending) (w' : World) : Prop :=
  ∃ a n c K, e = .returned (.slice a n c) ∧ K.length = n ∧ n ≤ c ∧ c ≤ 9223372036854775807 ∧ n ≤ 16 ∧ RowAt w' (w.heap.size + 1) (.slice a n c) K ∧ (∀ b, b ∈ K ↔ ∃ t, (b, t) ∈ L ∧ isOf T g t) ∧ (∃ f : Nat → Nat, (∀ x ∈ L, f x.1 = x.2) ∧ K.Pairwise fun x y => goesLt T f y x = false) ∧ Only (fun _ => False) w w'

set_option maxRecDepth 100000 in
set_option maxHeartbeats 1000000 in
theorem of_any {B : Nat} {w : World} {q o D : Nat} {L : List (Nat × Nat)} {T : Tks} {G : Grs} {W GW : Nat → Int} (h : RefAt B w q o D L T G W GW) (hl : L.length ≤ 16) (gr : Int) :
    Calls Tryz.prog 63 #[.pointer (some ⟨q, o, none⟩), .int .i64 gr] w (OfAns w L T gr) := by
  obtain ⟨V, c0, hr, -⟩ := h.slice
  obtain ⟨n, hn⟩ : ∃ n, (L.map (·.1)).length = n := ⟨_, rfl⟩
  obtain ⟨a, c, rfl, hc1, hc2, hc3⟩ := hr.shape hn
  have hln : L.length = n := by rw [← hn]; simp
  have HQ := Lib.hid h.lt
  have hq := h.lt
  have H := Lib.hid h
  have HR := Lib.hid hr
  have HLN := Lib.hid hln
  have hn16 : n ≤ 16 := by omega
  have HB0 : Hid (OfBox w.heap.size (w.alloc (.cells #[.slice none 0 0] 31)) (.slice none 0 0) (kept L T gr 0)) := Lib.hid ⟨heap_alloc_new w _, by unfold kept; simp only [List.take_zero, List.filter_nil, List.map_nil]; exact row_nil _ _⟩
  have HO0 := Lib.hid ((Only.refl (fun _ => False) w).alloc (.cells #[.slice none 0 0] 31))
  clear h hr hn hln hl
  go_enter Tryz.func63, Tryz.ntmps63
  go_wp2_with fail
  obtain ⟨Bo, hBo⟩ : ∃ Bo, w.heap.size = Bo := ⟨_, rfl⟩
  have HBo := Lib.hid hBo
  rw [hBo] at HB0
  rw [hBo]
  clear hBo
  go_loopw [13] (fun i wr => ∃ (j : Nat) (v : Value), j ≤ n ∧ i = .int .i64 j ∧ OfBox Bo wr v (kept L T gr j) ∧ Only (fun _ => False) w wr) (fun i _ => n - (intOf i).toNat)
  case atStart => exact ⟨0, _, by omega, rfl, HB0.out, HO0.out⟩
  case round =>
    obtain ⟨j, v, hj, rfl, hB, hO⟩ := hrel
    have HB := Lib.hid hB
    have HO := Lib.hid hO
    clear hB hO
    by_cases hlt : j < n
    · obtain ⟨m, hm, hm2⟩ := mem_getD (L := L) (j := j) (by rw [HLN.out]; exact hlt)
      obtain ⟨g, rfl, -, -, d0⟩ := row_at (HR.out.later HO.out) (j := j) (by rw [List.length_map, HLN.out]; exact hlt)
      have H2 := Lib.hid (H.out.later HO.out)
      have dr := H2.out.tr hm
      have dg := H2.out.tg hm
      have HK := Lib.hid (kept_succ (T := T) (g := gr) hm2)
      have HKL := Lib.hid (kept_len L T gr j)
      generalize (L.map (·.1)).getD j 0 = b at *
      unfold pt at *
      have g1 : (j : Int) < n := by omega
      have g2 : (0 : Int) ≤ j := by omega
      clear hm hm2
      by_cases hc : (T m).r = true ∧ (T m).g = gr
      · have HE : Hid (kept L T gr (j + 1) = kept L T gr j ++ [b]) := by have := HK.out; rw [if_pos hc] at this; exact Lib.hid this
        rw [hc.1] at dr
        rw [hc.2] at dg
        have db : wr.cell? ⟨Bo, 0, none⟩ = some v := by rw [cell_at HB.out.box]; rfl
        have hbw : Bo < wr.heap.size := block_there HB.out.box
        have hbz : Bo + 1 ≤ wr.heap.size := hbw
        clear hc HK
        generalize kept L T gr j = K at *
        have hk1 : K.length + 1 ≤ 17000000000000 := by have := HKL.out; have := HLN.out; omega
        have HK1 := Lib.hid hk1
        have HBZ := Lib.hid (show Bo + 1 ≤ (wr.alloc (.cells #[pt b] 82)).heap.size by simp; omega)
        clear hk1 hbz
        go_wp2_with (at_builtin; go_must (refine append_row rfl _ _ rfl (Bo + 1) wr.heap.size 1 v K b rfl rfl (HB.out.row.later ((Only.refl _ wr).alloc _)) ?_ HK1.out HBZ.out ?_); (go_must (exact heap_alloc_new wr _)); go_must (intro v5 w5 hr5 hO5 hV5 hsh); go_must (obtain ⟨g5, c5, rfl⟩ := hsh); go_must (have hst := HB.out.step HBo.out.symm HO.out hr5 hO5); go_must (obtain ⟨d1, d2, hB6, hO6⟩ := hst); have HB6 := Lib.hid hB6; have HO6 := Lib.hid hO6; clear hr5 hO5 hV5 hB6 hO6)
        go_roundw
        case rel => exact ⟨j + 1, _, by omega, by go_num, by rw [HE.out]; exact HB6.out, HO6.out⟩
        case measure => simp [intOf]; omega
      · have HE : Hid (kept L T gr (j + 1) = kept L T gr j) := by have := HK.out; rw [if_neg hc] at this; exact Lib.hid this
        clear HK
        cases hr2 : (T m).r with
        | false =>
          rw [hr2] at dr
          clear hc hr2
          go_wp2_with fail
          go_roundw
          case rel => exact ⟨j + 1, _, by omega, by go_num, by rw [HE.out]; exact HB.out, HO.out⟩
          case measure => simp [intOf]; omega
        | true =>
          rw [hr2] at dr
          have hg3 : ((T m).g == gr) = false := by simp; exact fun e => hc ⟨hr2, e⟩
          clear hc hr2
          go_wp2_with fail
          go_roundw
          case rel => exact ⟨j + 1, _, by omega, by go_num, by rw [HE.out]; exact HB.out, HO.out⟩
          case measure => simp [intOf]; omega
    · obtain rfl : j = n := by omega
      have HK16 := Lib.hid (kept_len L T gr j)
      have HKM : Hid (∀ b, b ∈ kept L T gr j ↔ ∃ t, (b, t) ∈ L ∧ isOf T gr t) := Lib.hid (fun b => ⟨fun hb => kept_mem hb, fun ⟨t, h1, h2⟩ => by have := mem_kept h1 h2; rwa [HLN.out] at this⟩)
      obtain ⟨f, hf⟩ := H.out.numbers
      have HFN := Lib.hid hf
      have db : wr.cell? ⟨Bo, 0, none⟩ = some v := by rw [cell_at HB.out.box]; rfl
      clear hf hlt
      generalize kept L T gr j = K at *
      rcases HB.out.row.cases with ⟨rfl, rfl⟩ | ⟨g, cap, hv, hg1, hg2, hg3, -, -⟩
      · go_wp2_with (go_at_call 69; (with_reducible refine (sort_nil _ _).mono ?_); rintro e w3 ⟨rfl, hO3⟩; have HB3 := Lib.hid (HB.out.later hO3); have HO3 := Lib.hid (HO.out.trans hO3 (fun _ _ h => h)); have db3 : w3.cell? ⟨Bo, 0, none⟩ = some (.slice none 0 0) := (by rw [cell_at HB3.out.box]; rfl); clear hO3)
        go_ret
        exact ⟨none, 0, 0, [], rfl, rfl, Nat.le_refl _, by omega, by omega, row_nil _ _, HKM.out, ⟨f, HFN.out, List.Pairwise.nil⟩, HO3.out⟩
      · obtain ⟨k, hk⟩ : ∃ k, K.length = k := ⟨_, rfl⟩
        rw [hk] at hv hg2
        subst hv
        have HKL := Lib.hid hk
        have HGB := Lib.hid hg1
        have hk16 : k ≤ 16 := by have := HK16.out; have := HLN.out; omega
        have hsort := Lib.hid (sort_of (fun b => ∃ t, (b, t) ∈ L) (goesLt T f) (swo_goes T f) (Bo + 1) g k cap #[.pointer (some ⟨Bo, 0, none⟩)] K wr HB.out.row (fun b hb => by obtain ⟨t, h1, -⟩ := (HKM.out b).1 hb; exact ⟨t, h1⟩) HKL.out (by omega)
          (fun W T' hT hP hrow hOW i j hi hj => by
            have hOw : Only (fun _ => False) w W := HO.out.trans hOW (fun x hx e => by have := HGB.out; have := HBo.out; omega)
            have H3 := H.out.later hOw
            have hb3 := (hOW.block Bo (block_there HB.out.box) (by have := HGB.out; omega)).trans HB.out.box
            have ci := hrow.cell (i := i) (by omega)
            have cj := hrow.cell (i := j) (by omega)
            have mi : T'.getD i 0 ∈ T' := by simp [List.getD, show i < T'.length by omega]
            have mj : T'.getD j 0 ∈ T' := by simp [List.getD, show j < T'.length by omega]
            obtain ⟨ni, hni⟩ := hP _ mi
            obtain ⟨nj, hnj⟩ := hP _ mj
            have ei := HFN.out _ hni
            have ej := HFN.out _ hnj
            have := less_goes Bo g k cap i j _ _ (T ni).v (T nj).v ni nj W hi hj (by omega) (by rw [cell_at hb3]; rfl) ci cj (H3.tn hni) (H3.tn hnj) (H3.tv hni) (H3.tv hnj)
            have e2 : goesLt T f (T'.getD i 0) (T'.getD j 0) = decide ((T ni).v < (T nj).v ∨ (T ni).v = (T nj).v ∧ ni < nj) := by unfold goesLt; rw [ei, ej]
            rw [e2]
            exact this))
        clear hk hg1
        go_wp2_with (go_at_call 69; (with_reducible refine hsort.out.mono ?_); rintro e w3 ⟨rfl, T', hP, hS, hr3, hO3⟩; have HP := Lib.hid hP; have HS := Lib.hid hS; have HR3 := Lib.hid hr3; have HO3 := Lib.hid (HO.out.trans hO3 (fun x hx e => by have := HGB.out; have := HBo.out; omega)); have db3 : w3.cell? ⟨Bo, 0, none⟩ = some (.slice (some ⟨g, 0, none⟩) k cap) := (by rw [cell_at ((hO3.block Bo (block_there HB.out.box) (by have := HGB.out; omega)).trans HB.out.box)]; rfl); clear hO3 hP hS hr3)
        go_ret
        exact ⟨_, _, _, T', rfl, by rw [HP.out.length_eq]; exact HKL.out, hg2, hg3, hk16, by rw [HBo.out]; exact HR3.out, fun b => by rw [HP.out.mem_iff]; exact HKM.out b, ⟨f, HFN.out, HS.out⟩, HO3.out⟩
end Go.Proofs.YtpincdcebhmnhaaGreat.Fr
