/- Texts of this claim, merged: OFOf, OFTops, OFTops2, OFRefSet, OFWokeUp, OFWokeUp2, PtDelT, OFFairs, OFGone. -/
import Derived.Test.YtckaebpcghaobaaGreatM11
import Derived.Test.YtckaebpcghaobaaGreatM04
import Derived.Test.YtckaebpcghaobaaGreatM10
import Derived.Test.YtckaebpcghaobaaGreatM05
import Derived.Test.YtckaebpcghaobaaGreatM09
/- The reference's of: the ready tasks of a group, who goes first first. -/
namespace Go.Proofs.YtckaebpcghaobaaGreat.Fr
open Go.ChangeShapes Go.WideShapes Go.ChangeAt Go.RowKit Go.Maps
open Go.Proofs.YtckaebpcghaobaaGreat.Vt Go.Proofs.YtckaebpcghaobaaGreat.Pt
set_option linter.unusedVariables false

/-- The box of the slice that is collected. -/
structure OfBox (Bo : Nat) (wr : World) (v : Value) (K : List Nat) : Prop where
  box : wr.heap[Bo]? = some (.cells #[v] 31 (0, 0))
  row : RowAt wr (Bo + 1) v K

theorem OfBox.later {Bo : Nat} {wr w' : World} {v : Value} {K : List Nat} (h : OfBox Bo wr v K) (hO : Only (fun _ => False) wr w') : OfBox Bo w' v K :=
  ⟨(hO.block Bo (block_there h.box) (fun e => e)).trans h.box, h.row.later hO⟩

theorem OfBox.step {Bo b : Nat} {w wr w5 : World} {v v' : Value} {K : List Nat} {o : Obj} (h : OfBox Bo wr v K) (hB : Bo = w.heap.size) (hw : Only (fun _ => False) w wr) (hr : RowAt w5 (Bo + 1) v' (K ++ [b])) (hO : Only (fun k => v.ownBlock = some k) (wr.alloc o) w5) :
    w5.cell? ⟨Bo, 0, none⟩ = some v ∧ w5.frozen? ⟨Bo, 0, none⟩ = false ∧ OfBox Bo (w5.setCell ⟨Bo, 0, none⟩ v') v' (K ++ [b]) ∧ Only (fun _ => False) w (w5.setCell ⟨Bo, 0, none⟩ v') := by
  have h1 := (h.later ((Only.refl _ wr).alloc o)).box
  have h2 : w5.heap[Bo]? = some (.cells #[v] 31 (0, 0)) := (hO.block Bo (block_there h1) (fun e => by have := (h.row.block e).1; omega)).trans h1
  refine ⟨by rw [cell_at h2]; rfl, frozen_at h2 0, ⟨heap_setCell_same w5 Bo 0 _ _ v' h2, hr.keep (N := fun k => k = Bo) ((Only.refl (fun k => k = Bo) w5).setCell (p := ⟨Bo, 0, none⟩) rfl v') (fun g hg e => by have := (hr.block hg).1; omega)⟩, ?_⟩
  have h3 : Only (fun _ => False) w (wr.alloc o) := hw.alloc o
  have h4 : Only (fun _ => False) w w5 := h3.trans hO (fun k hk e => by have := (h.row.block e).1; omega)
  exact h4.trans ((Only.refl (fun k => k = Bo) w5).setCell (p := ⟨Bo, 0, none⟩) rfl v') (fun k hk e => by omega)

/-- The blocks of the ready tasks of a group, as far as j. -/
def kept (L : List (Nat × Nat)) (T : Tks) (g : Int) (j : Nat) : List Nat := ((L.take j).filter fun x => (T x.2).r && decide ((T x.2).g = g)).map (·.1)

theorem kept_succ {L : List (Nat × Nat)} {T : Tks} {g : Int} {j : Nat} {x : Nat × Nat} (h : L[j]? = some x) : kept L T g (j + 1) = if (T x.2).r = true ∧ (T x.2).g = g then kept L T g j ++ [x.1] else kept L T g j := by
  unfold kept
  rw [List.take_add_one, h]
  simp only [Option.toList_some, List.filter_append, List.map_append]
  by_cases hc : (T x.2).r = true ∧ (T x.2).g = g
  · rw [if_pos hc]; simp [hc.1, hc.2]
  · rw [if_neg hc]
    have : ((T x.2).r && decide ((T x.2).g = g)) = false := by
      cases hr : (T x.2).r with
      | false => rfl
      | true => simp only [Bool.true_and]; exact decide_eq_false (fun e => hc ⟨hr, e⟩)
    simp [this]

theorem kept_len (L : List (Nat × Nat)) (T : Tks) (g : Int) (j : Nat) : (kept L T g j).length ≤ L.length := by
  unfold kept
  rw [List.length_map]
  exact Nat.le_trans (List.length_filter_le _ _) (by rw [List.length_take]; omega)

theorem kept_mem {L : List (Nat × Nat)} {T : Tks} {g : Int} {j b : Nat} (h : b ∈ kept L T g j) : ∃ t, (b, t) ∈ L ∧ isOf T g t := by
  unfold kept at h
  obtain ⟨x, hx, rfl⟩ := List.mem_map.1 h
  obtain ⟨h1, h2⟩ := List.mem_filter.1 hx
  simp only [Bool.and_eq_true, decide_eq_true_eq] at h2
  exact ⟨x.2, List.mem_of_mem_take h1, h2⟩

theorem mem_kept {L : List (Nat × Nat)} {T : Tks} {g : Int} {b t : Nat} (h : (b, t) ∈ L) (ho : isOf T g t) : b ∈ kept L T g L.length := by
  unfold kept
  rw [List.take_length]
  refine List.mem_map.2 ⟨(b, t), List.mem_filter.2 ⟨h, ?_⟩, rfl⟩
  simp only [Bool.and_eq_true, decide_eq_true_eq]
  exact ho

/-- What of answers: the blocks of the ready tasks of a group, in order. -/
def OfAns (w : World) (L : List (Nat × Nat)) (T : Tks) (g : Int) (e : Ending) (w' : World) : Prop :=
  ∃ a n c K, e = .returned (.slice a n c) ∧ K.length = n ∧ n ≤ c ∧ c ≤ 9223372036854775807 ∧ n ≤ 16 ∧ RowAt w' (w.heap.size + 1) (.slice a n c) K ∧ (∀ b, b ∈ K ↔ ∃ t, (b, t) ∈ L ∧ isOf T g t) ∧ (∃ f : Nat → Nat, (∀ x ∈ L, f x.1 = x.2) ∧ K.Pairwise fun x y => goesLt T f y x = false) ∧ Only (fun _ => False) w w'

set_option maxRecDepth 100000 in
set_option maxHeartbeats 1000000 in
theorem of_any {B : Nat} {w : World} {q o D : Nat} {L : List (Nat × Nat)} {T : Tks} {G : Grs} {W GW : Nat → Int} (h : RefAt B w q o D L T G W GW) (hl : L.length ≤ 16) (gr : Int) :
    Calls Tryz.prog 62 #[.pointer (some ⟨q, o, none⟩), .int .i64 gr] w (OfAns w L T gr) := by
  obtain ⟨V, c0, hr, -⟩ := h.slice
  obtain ⟨n, hn⟩ : ∃ n, (L.map (·.1)).length = n := ⟨_, rfl⟩
  obtain ⟨a, c, rfl, hc1, hc2, hc3⟩ := hr.shape hn
  have hln : L.length = n := by rw [← hn]; simp
  have HQ := Lib.hid h.lt
  have hq := h.lt
  have H := Lib.hid h
  have HR := Lib.hid hr
  have HLN := Lib.hid hln
  have hn16 : n ≤ 16 := by omega
  have HB0 : Hid (OfBox w.heap.size (w.alloc (.cells #[.slice none 0 0] 31)) (.slice none 0 0) (kept L T gr 0)) := Lib.hid ⟨heap_alloc_new w _, by unfold kept; simp only [List.take_zero, List.filter_nil, List.map_nil]; exact row_nil _ _⟩
  have HO0 := Lib.hid ((Only.refl (fun _ => False) w).alloc (.cells #[.slice none 0 0] 31))
  clear h hr hn hln hl
  go_enter Tryz.func62, Tryz.ntmps62
  go_wp2_with fail
  obtain ⟨Bo, hBo⟩ : ∃ Bo, w.heap.size = Bo := ⟨_, rfl⟩
  have HBo := Lib.hid hBo
  rw [hBo] at HB0
  rw [hBo]
  clear hBo
  go_loopw [13] (fun i wr => ∃ (j : Nat) (v : Value), j ≤ n ∧ i = .int .i64 j ∧ OfBox Bo wr v (kept L T gr j) ∧ Only (fun _ => False) w wr) (fun i _ => n - (intOf i).toNat)
  case atStart => exact ⟨0, _, by omega, rfl, HB0.out, HO0.out⟩
  case round =>
    obtain ⟨j, v, hj, rfl, hB, hO⟩ := hrel
    have HB := Lib.hid hB
    have HO := Lib.hid hO
    clear hB hO
    by_cases hlt : j < n
    · obtain ⟨m, hm, hm2⟩ := mem_getD (L := L) (j := j) (by rw [HLN.out]; exact hlt)
      obtain ⟨g, rfl, -, -, d0⟩ := row_at (HR.out.later HO.out) (j := j) (by rw [List.length_map, HLN.out]; exact hlt)
      have H2 := Lib.hid (H.out.later HO.out)
      have dr := H2.out.tr hm
      have dg := H2.out.tg hm
      have HK := Lib.hid (kept_succ (T := T) (g := gr) hm2)
      have HKL := Lib.hid (kept_len L T gr j)
      generalize (L.map (·.1)).getD j 0 = b at *
      unfold pt at *
      have g1 : (j : Int) < n := by omega
      have g2 : (0 : Int) ≤ j := by omega
      clear hm hm2
      by_cases hc : (T m).r = true ∧ (T m).g = gr
      · have HE : Hid (kept L T gr (j + 1) = kept L T gr j ++ [b]) := by have := HK.out; rw [if_pos hc] at this; exact Lib.hid this
        rw [hc.1] at dr
        rw [hc.2] at dg
        have db : wr.cell? ⟨Bo, 0, none⟩ = some v := by rw [cell_at HB.out.box]; rfl
        have hbw : Bo < wr.heap.size := block_there HB.out.box
        have hbz : Bo + 1 ≤ wr.heap.size := hbw
        clear hc HK
        generalize kept L T gr j = K at *
        have hk1 : K.length + 1 ≤ 17000000000000 := by have := HKL.out; have := HLN.out; omega
        have HK1 := Lib.hid hk1
        have HBZ := Lib.hid (show Bo + 1 ≤ (wr.alloc (.cells #[pt b] 80)).heap.size by simp; omega)
        clear hk1 hbz
        go_wp2_with (at_builtin; go_must (refine append_row rfl _ _ rfl (Bo + 1) wr.heap.size 1 v K b rfl rfl (HB.out.row.later ((Only.refl _ wr).alloc _)) ?_ HK1.out HBZ.out ?_); (go_must (exact heap_alloc_new wr _)); go_must (intro v5 w5 hr5 hO5 hV5 hsh); go_must (obtain ⟨g5, c5, rfl⟩ := hsh); go_must (have hst := HB.out.step HBo.out.symm HO.out hr5 hO5); go_must (obtain ⟨d1, d2, hB6, hO6⟩ := hst); have HB6 := Lib.hid hB6; have HO6 := Lib.hid hO6; clear hr5 hO5 hV5 hB6 hO6)
        go_roundw
        case rel => exact ⟨j + 1, _, by omega, by go_num, by rw [HE.out]; exact HB6.out, HO6.out⟩
        case measure => simp [intOf]; omega
      · have HE : Hid (kept L T gr (j + 1) = kept L T gr j) := by have := HK.out; rw [if_neg hc] at this; exact Lib.hid this
        clear HK
        cases hr2 : (T m).r with
        | false =>
          rw [hr2] at dr
          clear hc hr2
          go_wp2_with fail
          go_roundw
          case rel => exact ⟨j + 1, _, by omega, by go_num, by rw [HE.out]; exact HB.out, HO.out⟩
          case measure => simp [intOf]; omega
        | true =>
          rw [hr2] at dr
          have hg3 : ((T m).g == gr) = false := by simp; exact fun e => hc ⟨hr2, e⟩
          clear hc hr2
          go_wp2_with fail
          go_roundw
          case rel => exact ⟨j + 1, _, by omega, by go_num, by rw [HE.out]; exact HB.out, HO.out⟩
          case measure => simp [intOf]; omega
    · obtain rfl : j = n := by omega
      have HK16 := Lib.hid (kept_len L T gr j)
      have HKM : Hid (∀ b, b ∈ kept L T gr j ↔ ∃ t, (b, t) ∈ L ∧ isOf T gr t) := Lib.hid (fun b => ⟨fun hb => kept_mem hb, fun ⟨t, h1, h2⟩ => by have := mem_kept h1 h2; rwa [HLN.out] at this⟩)
      obtain ⟨f, hf⟩ := H.out.numbers
      have HFN := Lib.hid hf
      have db : wr.cell? ⟨Bo, 0, none⟩ = some v := by rw [cell_at HB.out.box]; rfl
      clear hf hlt
      generalize kept L T gr j = K at *
      rcases HB.out.row.cases with ⟨rfl, rfl⟩ | ⟨g, cap, hv, hg1, hg2, hg3, -, -⟩
      · go_wp2_with (go_at_call 68; (with_reducible refine (sort_nil _ _).mono ?_); rintro e w3 ⟨rfl, hO3⟩; have HB3 := Lib.hid (HB.out.later hO3); have HO3 := Lib.hid (HO.out.trans hO3 (fun _ _ h => h)); have db3 : w3.cell? ⟨Bo, 0, none⟩ = some (.slice none 0 0) := (by rw [cell_at HB3.out.box]; rfl); clear hO3)
        go_ret
        exact ⟨none, 0, 0, [], rfl, rfl, Nat.le_refl _, by omega, by omega, row_nil _ _, HKM.out, ⟨f, HFN.out, List.Pairwise.nil⟩, HO3.out⟩
      · obtain ⟨k, hk⟩ : ∃ k, K.length = k := ⟨_, rfl⟩
        rw [hk] at hv hg2
        subst hv
        have HKL := Lib.hid hk
        have HGB := Lib.hid hg1
        have hk16 : k ≤ 16 := by have := HK16.out; have := HLN.out; omega
        have hsort := Lib.hid (sort_of (fun b => ∃ t, (b, t) ∈ L) (goesLt T f) (swo_goes T f) (Bo + 1) g k cap #[.pointer (some ⟨Bo, 0, none⟩)] K wr HB.out.row (fun b hb => by obtain ⟨t, h1, -⟩ := (HKM.out b).1 hb; exact ⟨t, h1⟩) HKL.out (by omega)
          (fun W T' hT hP hrow hOW i j hi hj => by
            have hOw : Only (fun _ => False) w W := HO.out.trans hOW (fun x hx e => by have := HGB.out; have := HBo.out; omega)
            have H3 := H.out.later hOw
            have hb3 := (hOW.block Bo (block_there HB.out.box) (by have := HGB.out; omega)).trans HB.out.box
            have ci := hrow.cell (i := i) (by omega)
            have cj := hrow.cell (i := j) (by omega)
            have mi : T'.getD i 0 ∈ T' := by simp [List.getD, show i < T'.length by omega]
            have mj : T'.getD j 0 ∈ T' := by simp [List.getD, show j < T'.length by omega]
            obtain ⟨ni, hni⟩ := hP _ mi
            obtain ⟨nj, hnj⟩ := hP _ mj
            have ei := HFN.out _ hni
            have ej := HFN.out _ hnj
            have := less_goes Bo g k cap i j _ _ (T ni).v (T nj).v ni nj W hi hj (by omega) (by rw [cell_at hb3]; rfl) ci cj (H3.tn hni) (H3.tn hnj) (H3.tv hni) (H3.tv hnj)
            have e2 : goesLt T f (T'.getD i 0) (T'.getD j 0) = decide ((T ni).v < (T nj).v ∨ (T ni).v = (T nj).v ∧ ni < nj) := by unfold goesLt; rw [ei, ej]
            rw [e2]
            exact this))
        clear hk hg1
        go_wp2_with (go_at_call 68; (with_reducible refine hsort.out.mono ?_); rintro e w3 ⟨rfl, T', hP, hS, hr3, hO3⟩; have HP := Lib.hid hP; have HS := Lib.hid hS; have HR3 := Lib.hid hr3; have HO3 := Lib.hid (HO.out.trans hO3 (fun x hx e => by have := HGB.out; have := HBo.out; omega)); have db3 : w3.cell? ⟨Bo, 0, none⟩ = some (.slice (some ⟨g, 0, none⟩) k cap) := (by rw [cell_at ((hO3.block Bo (block_there HB.out.box) (by have := HGB.out; omega)).trans HB.out.box)]; rfl); clear hO3 hP hS hr3)
        go_ret
        exact ⟨_, _, _, T', rfl, by rw [HP.out.length_eq]; exact HKL.out, hg2, hg3, hk16, by rw [HBo.out]; exact HR3.out, fun b => by rw [HP.out.mem_iff]; exact HKM.out b, ⟨f, HFN.out, HS.out⟩, HO3.out⟩
end Go.Proofs.YtckaebpcghaobaaGreat.Fr
/- The reference's tops, and slices.Min of numbers. -/
namespace Go.Proofs.YtckaebpcghaobaaGreat.Fr
open Go.ChangeShapes Go.WideShapes Go.ChangeAt Go.RowKit Go.Maps
open Go.Proofs.YtckaebpcghaobaaGreat.Vt Go.Proofs.YtckaebpcghaobaaGreat.Pt
set_option linter.unusedVariables false

theorem run_min2 (x y m : Int) (h : min x y = m) (w : World) (ts : Array TypeId) (t : TypeId) : (Builtin.min_ ts t #[.int .i64 x, .int .i64 y]).run Tryz.prog w = .ok (.int .i64 m) w := by
  subst h
  have e : (if y < x then y else x) = min x y := by rw [Int.min_def]; split <;> split <;> omega
  simp [Builtin.min_, Builtin.min2, e]

/-- The least of the first j + 1 numbers. -/
def leastTo (U : List Int) : Nat → Int
  | 0 => U.getD 0 0
  | j + 1 => min (leastTo U j) (U.getD (j + 1) 0)
theorem leastTo_spec (U : List Int) (j : Nat) (hj : j < U.length) : leastTo U j ∈ U ∧ ∀ i, i ≤ j → leastTo U j ≤ U.getD i 0 := by
  have hm : ∀ i, i < U.length → U.getD i 0 ∈ U := fun i hi => by simp [List.getD, hi]
  induction j with
  | zero => exact ⟨hm 0 hj, fun i hi => by rw [show i = 0 by omega]; exact Int.le_refl _⟩
  | succ j ih =>
    obtain ⟨h1, h2⟩ := ih (by omega)
    unfold leastTo
    refine ⟨?_, fun i hi => ?_⟩
    · by_cases h : leastTo U j ≤ U.getD (j + 1) 0
      · rw [Int.min_eq_left h]; exact h1
      · rw [Int.min_eq_right (by omega)]; exact hm _ hj
    · by_cases e : i = j + 1
      · subst e; exact Int.min_le_right _ _
      · have := h2 i (by omega); have := Int.min_le_left (leastTo U j) (U.getD (j + 1) 0); omega

theorem min_any (a : Option Addr) (n c : Nat) (U : List Int) (w : World) (h : Nums w (.slice a n c) U) (hn : U.length = n) (h1 : 1 ≤ n) (hm : n ≤ 100) :
    Calls Tryz.prog 63 #[.slice a n c] w fun e w' => e = .returned (.int .i64 (leastTo U (n - 1))) ∧ w = w' := by
  have H := Lib.hid h
  have HN := Lib.hid hn
  obtain ⟨b, off, rfl, -, d0⟩ := h.at (j := 0) (by omega)
  clear h hn
  have e1 : ¬ (n : Int) < 1 := by omega
  have L0 : Hid (leastTo U 0 = U.getD 0 0) := Lib.hid rfl
  have g0 : (0 : Int) < n := by omega
  simp only [Nat.add_zero] at d0
  go_enter Tryz.func63, Tryz.ntmps63
  go_wp2_with fail
  go_loopw [3, 4] (fun m i wr => ∃ j : Nat, j < n ∧ i = .int .i64 ((j : Int) + 1) ∧ m = .int .i64 (leastTo U j) ∧ wr = w) (fun _ i _ => n + 1 - (intOf i).toNat)
  case atStart => exact ⟨0, by omega, rfl, rfl, rfl⟩
  case round =>
    obtain ⟨j, hj, rfl, rfl, rfl⟩ := hrel
    by_cases hlt : j + 1 < n
    · obtain ⟨b', off', e, -, d⟩ := H.out.at (j := j + 1) (by rw [HN.out]; exact hlt)
      cases e
      have LS : Hid (leastTo U (j + 1) = min (leastTo U j) (U.getD (j + 1) 0)) := Lib.hid rfl
      obtain ⟨m, hm⟩ : ∃ m, min (leastTo U j) (U.getD (j + 1) 0) = m := ⟨_, rfl⟩
      rw [hm] at LS
      have q := run_min2 _ _ _ hm
      clear hm
      generalize leastTo U j = x at *
      generalize U.getD (j + 1) 0 = y at *
      have g1 : (j : Int) + 1 < n := by omega
      have g2 : (0 : Int) ≤ (j : Int) + 1 := by omega
      go_wp2_with fail
      go_roundw
      case rel => exact ⟨j + 1, by omega, by go_num, by rw [LS.out], trivial⟩
      case measure => simp [intOf]; omega
    · obtain rfl : n = j + 1 := by omega
      have g1 : ¬ (j : Int) + 1 < ((j + 1 : Nat) : Int) := by omega
      go_wp2_with fail
      go_ret
      exact ⟨rfl, rfl⟩

/-- Who is first of what of answers. -/
theorem of_first {L : List (Nat × Nat)} {T : Tks} {g : Int} {K : List Nat} (h0 : (T 0).r = false) (hnum : ∀ x ∈ L, x.2 ≤ 16) (hall : ∀ t, t < 17 → isOf T g t → ∃ b, (b, t) ∈ L) (hK : ∀ b, b ∈ K ↔ ∃ t, (b, t) ∈ L ∧ isOf T g t)
    (hS : ∃ f : Nat → Nat, (∀ x ∈ L, f x.1 = x.2) ∧ K.Pairwise fun x y => goesLt T f y x = false) : (K = [] → first T g = 0) ∧ (K ≠ [] → first T g ≠ 0 ∧ (K.getD 0 0, first T g) ∈ L) := by
  obtain ⟨f, hf, hp⟩ := hS
  constructor
  · intro e
    exact first_none h0 (fun t ht ho => by
      obtain ⟨b, hb⟩ := hall t ht ho
      have := (hK b).2 ⟨t, hb, ho⟩
      rw [e] at this; cases this)
  · intro e
    match K, e, hK, hp with
    | b0 :: r, _, hK, hp =>
      obtain ⟨t0, h1, h2⟩ := (hK b0).1 (by simp)
      have hf0 := hf _ h1
      have hlt0 := hnum _ h1
      have hfi : first T g = t0 := first_is h0 t0 (by simp only at hlt0; omega) h2 (fun t ht ho => by
        obtain ⟨b, hb⟩ := hall t ht ho
        have hfb := hf _ hb
        have hm := (hK b).2 ⟨t, hb, ho⟩
        rcases List.mem_cons.1 hm with e | e
        · subst e
          have : t = t0 := hfb.symm.trans hf0
          subst this
          exact Or.inr ⟨rfl, Nat.le_refl _⟩
        · have := (List.pairwise_cons.1 hp).1 b e
          unfold goesLt at this
          simp only at hf0 hfb
          rw [hf0, hfb] at this
          have := of_decide_eq_false this
          omega)
      have hz : t0 ≠ 0 := by rintro rfl; rw [h2.1] at h0; cases h0
      rw [hfi]
      exact ⟨hz, h1⟩

/-- What of answers, with who is first. -/
def OfHead (w : World) (L : List (Nat × Nat)) (T : Tks) (g : Int) (e : Ending) (w' : World) : Prop :=
  ∃ a n c K, e = .returned (.slice a n c) ∧ K.length = n ∧ n ≤ c ∧ c ≤ 9223372036854775807 ∧ n ≤ 16 ∧ RowAt w' (w.heap.size + 1) (.slice a n c) K ∧ (∀ b, b ∈ K ↔ ∃ t, (b, t) ∈ L ∧ isOf T g t) ∧ (n = 0 → first T g = 0) ∧ (n ≠ 0 → first T g ≠ 0 ∧ (K.getD 0 0, first T g) ∈ L) ∧ Only (fun _ => False) w w'

theorem ofh_any {B : Nat} {w : World} {q o D : Nat} {L : List (Nat × Nat)} {T : Tks} {G : Grs} {W GW : Nat → Int} (h : RefAt B w q o D L T G W GW) (hs : Same L T G W GW) (h0 : (T 0).r = false) (hrc : ∀ t, t < 17 → (T t).r = true → (T t).c ≠ 0) (gr : Int) :
    Calls Tryz.prog 62 #[.pointer (some ⟨q, o, none⟩), .int .i64 gr] w (OfHead w L T gr) := by
  refine (of_any h (h.len16 hs) gr).mono ?_
  rintro e w' ⟨a, n, c, K, rfl, h1, h2, h3, h4, h5, h6, h7, h8⟩
  have hf := of_first h0 (fun x hx => (hs.num x hx).2) (fun t ht ho => hs.all t ht (hrc t ht ho.1)) h6 h7
  exact ⟨a, n, c, K, rfl, h1, h2, h3, h4, h5, h6, fun e => hf.1 (List.eq_nil_of_length_eq_zero (by omega)), fun e => hf.2 (fun e' => by rw [e'] at h1; simp at h1; omega), h8⟩
end Go.Proofs.YtckaebpcghaobaaGreat.Fr
/- The reference's tops: the times that compete. -/
namespace Go.Proofs.YtckaebpcghaobaaGreat.Fr
open Go.ChangeShapes Go.WideShapes Go.ChangeAt Go.RowKit Go.Maps
open Go.Proofs.YtckaebpcghaobaaGreat.Vt Go.Proofs.YtckaebpcghaobaaGreat.Pt
set_option linter.unusedVariables false

/-- append(a, x): one number more, which lies in a block of its own. -/
theorem append_one {w : World} {ops : Array Oper} {rest : List Oper} {o : Oper} {a : Act} {Q : Exit → Act → World → Prop} (hgd : o.guard = none) (s x : Operand)
    (ho : o.op = .call { callee := .builtin .append, args := #[s, x], argTypes := #[37, 37] })
    (base b c : Nat) (v : Value) (S : List Int) (y : Int) (hs : a.eval s = v) (hx : a.eval x = .slice (some ⟨b, 0, none⟩) 1 c) (hown : Ints w base v S) (hb : w.heap[b]? = some (.cells #[.int .i64 y] 3 (0, 0)))
    (hn : S.length + 1 ≤ 17000000000000) (hbase : base ≤ w.heap.size)
    (h : ∀ v' w', Ints w' base v' (S ++ [y]) → Only (fun k => v.ownBlock = some k) w w' → (∀ k, v'.ownBlock = some k → v.ownBlock = some k ∨ w.heap.size ≤ k) → wpList Tryz.prog ops Q rest (a.put o.dst v') w') : wpList Tryz.prog ops Q (o :: rest) a w := by
  obtain ⟨i0, hi, hz0, hz1, hz2⟩ := info_parts Tryz.infoInt
  refine wpList_append_lies w hgd s x 37 ho base 3 i0 (.int .i64 0) 1 8 Tryz.underlying37 hi hz0 hz1 hz2 rfl (by decide) v S.length (numCells S) hs hown ⟨b, 0, none⟩ 1 c [.int .i64 y] hx rfl ?_ (one_num y) Nat.one_pos (max_of hn).1 (max_of hn).2 hbase _ rfl ?_
  · intro j u hj
    rw [add_plain, cell_at hb, Nat.zero_add, ← Array.getElem?_toList]
    exact hj
  · intro g' cap' w' hown' hg hat _
    refine h _ w' ?_ (Only.of_grown hg (fun k hk => hk)) (fun k hk => by cases hk; exact hat.imp_right (fun e => by rw [e]; exact Nat.le_refl _))
    unfold Ints
    rw [List.length_append, numCells_snoc]
    exact hown'

/-- The times of the groups that compete, as far as k. -/
def GTops (T : Tks) (G : Grs) (k : Nat) (U : List Int) : Prop := ∀ x, x ∈ U ↔ ∃ g : Nat, (1 ≤ g ∧ g ≤ k) ∧ first T g ≠ 0 ∧ x = (G g).v

theorem gtops_yes {T : Tks} {G : Grs} {k : Nat} {U : List Int} (h : GTops T G k U) (hf : first T ((k : Int) + 1) ≠ 0) : GTops T G (k + 1) (U ++ [(G (k + 1)).v]) := by
  intro x
  rw [List.mem_append, h x]
  constructor
  · rintro (⟨g, h1, h2, h3⟩ | hx)
    · exact ⟨g, ⟨h1.1, by omega⟩, h2, h3⟩
    · simp at hx; exact ⟨k + 1, by omega, hf, hx⟩
  · rintro ⟨g, h1, h2, h3⟩
    by_cases e : g = k + 1
    · subst e; right; simp [h3]
    · exact Or.inl ⟨g, by omega, h2, h3⟩
theorem gtops_no {T : Tks} {G : Grs} {k : Nat} {U : List Int} (h : GTops T G k U) (hf : first T ((k : Int) + 1) = 0) : GTops T G (k + 1) U := by
  intro x
  rw [h x]
  constructor
  · rintro ⟨g, h1, h2, h3⟩; exact ⟨g, by omega, h2, h3⟩
  · rintro ⟨g, h1, h2, h3⟩
    by_cases e : g = k + 1
    · subst e; exact absurd hf h2
    · exact ⟨g, by omega, h2, h3⟩

/-- The times that compete, of groups and of the first j of K. -/
def KTops (T : Tks) (G : Grs) (L : List (Nat × Nat)) (K : List Nat) (j : Nat) (U : List Int) : Prop := ∀ x, x ∈ U ↔ (∃ g : Nat, (1 ≤ g ∧ g ≤ 8) ∧ first T g ≠ 0 ∧ x = (G g).v) ∨ ∃ i, i < j ∧ ∃ t, (K.getD i 0, t) ∈ L ∧ x = (T t).v

theorem ktops_more {T : Tks} {G : Grs} {L : List (Nat × Nat)} {K : List Nat} {j t : Nat} {U : List Int} (h : KTops T G L K j U) (ht : (K.getD j 0, t) ∈ L) (hu : ∀ t', (K.getD j 0, t') ∈ L → t' = t) : KTops T G L K (j + 1) (U ++ [(T t).v]) := by
  intro x
  rw [List.mem_append, h x]
  constructor
  · rintro ((h1 | ⟨i, h1, h2⟩) | hx)
    · exact Or.inl h1
    · exact Or.inr ⟨i, by omega, h2⟩
    · simp at hx; exact Or.inr ⟨j, by omega, t, ht, hx⟩
  · rintro (h1 | ⟨i, h1, t', h2, h3⟩)
    · exact Or.inl (Or.inl h1)
    · by_cases e : i = j
      · subst e; right; rw [hu t' h2] at h3; simp [h3]
      · exact Or.inl (Or.inr ⟨i, by omega, t', h2, h3⟩)

theorem ktops_all {T : Tks} {G : Grs} {L : List (Nat × Nat)} {K : List Nat} {U : List Int} (h : KTops T G L K K.length U) (hnum : ∀ x ∈ L, x.2 ≤ 16) (hall : ∀ t, t < 17 → isOf T 0 t → ∃ b, (b, t) ∈ L) (hK : ∀ b, b ∈ K ↔ ∃ t, (b, t) ∈ L ∧ isOf T 0 t) (hu : ∀ b t t', (b, t) ∈ L → (b, t') ∈ L → t' = t) : Tops T G U := by
  intro x
  rw [h x]
  constructor
  · rintro (h1 | ⟨i, h1, t, h2, h3⟩)
    · exact Or.inl h1
    · have hm : K.getD i 0 ∈ K := by simp [List.getD, h1]
      obtain ⟨t', h4, h5⟩ := (hK _).1 hm
      have e := hu _ _ _ h2 h4
      subst e
      have := hnum _ h4
      exact Or.inr ⟨t', by simp only at this; omega, h5, h3⟩
  · rintro (h1 | ⟨t, h1, h2, h3⟩)
    · exact Or.inl h1
    · obtain ⟨b, hb⟩ := hall t h1 h2
      have hm := (hK b).2 ⟨t, hb, h2⟩
      obtain ⟨i, hi, hi2⟩ := List.getElem_of_mem hm
      exact Or.inr ⟨i, hi, t, by simp [List.getD, hi, hi2, hb], h3⟩

/-- What tops answers. -/
def TopsAns (w : World) (T : Tks) (G : Grs) (e : Ending) (w' : World) : Prop :=
  ∃ a n c U, e = .returned (.slice a n c) ∧ U.length = n ∧ n ≤ 24 ∧ Nums w' (.slice a n c) U ∧ Tops T G U ∧ Only (fun _ => False) w w'

set_option maxRecDepth 100000 in
set_option maxHeartbeats 1000000 in
theorem topsr_any {B : Nat} {w : World} {q o D : Nat} {L : List (Nat × Nat)} {T : Tks} {G : Grs} {W GW : Nat → Int} (h : RefAt B w q o D L T G W GW) (hs : Same L T G W GW) (h0 : (T 0).r = false) (hrc : ∀ t, t < 17 → (T t).r = true → (T t).c ≠ 0) :
    Calls Tryz.prog 61 #[.pointer (some ⟨q, o, none⟩)] w (TopsAns w T G) := by
  have H := Lib.hid h
  have HS := Lib.hid (⟨hs, h0, hrc⟩ : Same L T G W GW ∧ (T 0).r = false ∧ ∀ t, t < 17 → (T t).r = true → (T t).c ≠ 0)
  clear h hs h0 hrc
  go_enter Tryz.func61, Tryz.ntmps61
  go_wp2_with fail
  go_loopw [3, 4] (fun v i wr => ∃ (k : Nat) (U : List Int), k ≤ 8 ∧ i = .int .i64 ((k : Int) + 1) ∧ Ints wr w.heap.size v U ∧ U.length ≤ k ∧ GTops T G k U ∧ Only (fun _ => False) w wr) (fun _ i _ => 9 - (intOf i).toNat)
  case atStart => exact ⟨0, [], by omega, rfl, ints_nil _ _, Nat.le_refl _, fun x => ⟨(fun h => by cases h), (fun h => by obtain ⟨g, h1, -⟩ := h; omega)⟩, Only.refl _ w⟩
  case round =>
    obtain ⟨k, U, hk, rfl, hI, hUl, hG, hO⟩ := hrel
    have HI := Lib.hid hI
    have HUL := Lib.hid hUl
    have HG := Lib.hid hG
    have HO := Lib.hid hO
    clear hI hUl hG hO
    by_cases hlt : k < 8
    · have co := Lib.hid (ofh_any (H.out.later HO.out) HS.out.1 HS.out.2.1 HS.out.2.2 ((k : Int) + 1))
      have g1 : (k : Int) + 1 < 9 := by omega
      by_cases hf : first T ((k : Int) + 1) = 0
      · have HF := Lib.hid hf
        have HG2 := Lib.hid (gtops_no HG.out hf)
        clear hf
        go_wp2_with (go_at_call 62; (with_reducible refine co.out.mono ?_); rintro e w1 ⟨a, n, c, K, rfl, hK, hc1, hc2, hn16, hrow, hmem, hz, hnz, hO1⟩; have HO1 := Lib.hid (HO.out.trans hO1 (fun _ _ h => h)); have HI1 := Lib.hid (HI.out.later hO1); have hn0 : ¬ (0 : Int) < n := (by intro h; exact (hnz (by omega)).1 HF.out); clear hK hrow hmem hz hnz hO1)
        go_roundw
        case rel => exact ⟨k + 1, U, by omega, by go_num, HI1.out, by have := HUL.out; omega, HG2.out, HO1.out⟩
        case measure => simp [intOf]; omega
      · have HF := Lib.hid hf
        have HG2 := Lib.hid (gtops_yes HG.out hf)
        have HLE := Lib.hid (show U.length + 1 ≤ 17000000000000 by have := HUL.out; omega)
        clear hf
        go_wp2_with (first
          | (go_at_call 62; (with_reducible refine co.out.mono ?_); rintro e w1 ⟨a, n, c, K, rfl, hK, hc1, hc2, hn16, hrow, hmem, hz, hnz, hO1⟩; have HO1 := Lib.hid (HO.out.trans hO1 (fun _ _ h => h)); have HI1 := Lib.hid (HI.out.later hO1); have hn0 : (0 : Int) < n := (by have : n ≠ 0 := fun h => HF.out (hz h); omega); have dv := (H.out.later HO1.out).gv (k + 1) (by omega); have HZ1 := Lib.hid HO1.out.size; clear hK hrow hmem hz hnz hO1)
          | (at_builtin; go_must (refine append_one rfl _ _ rfl w.heap.size w1.heap.size 1 _ U (G (k + 1)).v rfl rfl (HI1.out.later ((Only.refl _ w1).alloc _)) ?_ HLE.out ?_ ?_); (go_must (exact heap_alloc_new w1 _)); (go_must (exact Nat.le_trans HZ1.out (by simp))); go_must (intro v5 w5 hr5 hO5 hV5); have HR5 := Lib.hid hr5; have HO5 := Lib.hid ((HO1.out.alloc _).trans hO5 (fun x hx e => by have := (HI1.out.block e).1; omega)); clear hr5 hO5 hV5))
        go_roundw
        case rel => exact ⟨k + 1, _, by omega, by go_num, HR5.out, by rw [List.length_append]; have := HUL.out; simp; omega, HG2.out, HO5.out⟩
        case measure => simp [intOf]; omega
    · obtain rfl : k = 8 := by omega
      have co := Lib.hid (ofh_any (H.out.later HO.out) HS.out.1 HS.out.2.1 HS.out.2.2 0)
      go_wp2_with (go_at_call 62; (with_reducible refine co.out.mono ?_); rintro e w1 ⟨a, n, c, K, rfl, hK, hc1, hc2, hn16, hrow, hmem, hz, hnz, hO1⟩; have HO1 := Lib.hid (HO.out.trans hO1 (fun _ _ h => h)); have HI1 := Lib.hid (HI.out.later hO1); have HKN := Lib.hid hK; have HROW := Lib.hid hrow; have HMEM := Lib.hid hmem; have HSZ := Lib.hid hO1.size; clear hK hrow hmem hz hnz hO1)
      have HZ8 := Lib.hid (HO.out.size)
      clear co
      go_loopw [3, 29] (fun v i wr => ∃ (j : Nat) (U : List Int), j ≤ n ∧ i = .int .i64 j ∧ Ints wr w.heap.size v U ∧ U.length ≤ 8 + j ∧ KTops T G L K j U ∧ RowAt wr w.heap.size (.slice a n c) K ∧ (∀ g, v.ownBlock = some g → ∀ ad, a = some ad → ad.block ≠ g) ∧ Only (fun _ => False) w wr) (fun _ i _ => n - (intOf i).toNat)
      case atStart =>
        refine ⟨0, U, by omega, rfl, HI1.out, by have := HUL.out; omega, fun x => ?_, HROW.out.base (by have := HZ8.out; omega), fun g hg ad ha => ?_, HO1.out⟩
        · rw [HG.out x]
          constructor
          · exact Or.inl
          · rintro (h1 | ⟨i, h1, -⟩)
            · exact h1
            · omega
        · subst ha
          have h1 := (HI.out.block hg).2
          obtain ⟨gk, hgk⟩ : ∃ gk, (Value.slice (some ad) n c).ownBlock = some gk := by
            rcases HROW.out.cases with ⟨e, -⟩ | ⟨gk, cap, e, -⟩
            · cases e
            · cases e; exact ⟨gk, rfl⟩
          have h2 := (HROW.out.block hgk).1
          rcases HROW.out.cases with ⟨e, -⟩ | ⟨gk', cap, e, -⟩
          · cases e
          · cases e; cases hgk; have h3 : wr.heap.size + 1 ≤ gk' := h2; show gk' ≠ g; omega
      case round =>
        obtain ⟨j, U2, hj, rfl, hI, hUl, hKT, hRw, hap, hO⟩ := hrel
        have HI2 := Lib.hid hI
        have HUL2 := Lib.hid hUl
        have HKT := Lib.hid hKT
        have HRW := Lib.hid hRw
        have HAP := Lib.hid hap
        have HO2 := Lib.hid hO
        clear hI hUl hKT hRw hap hO
        by_cases hlt : j < n
        · obtain ⟨gk, rfl, -, hgk, d0⟩ := row_at HRW.out (j := j) (by rw [HKN.out]; exact hlt)
          have hmem : K.getD j 0 ∈ K := by simp [List.getD, show j < K.length by rw [HKN.out]; exact hlt]
          obtain ⟨t, ht, -⟩ := (HMEM.out _).1 hmem
          obtain ⟨f, hf⟩ := H.out.numbers
          have HK2 := Lib.hid (ktops_more HKT.out ht (fun t' ht' => by have a := hf _ ht; have b := hf _ ht'; simp only at a b; omega))
          have dv := (H.out.later HO2.out).tv ht
          have HLE := Lib.hid (show U2.length + 1 ≤ 17000000000000 by have := HUL2.out; omega)
          have HBS := Lib.hid (show w.heap.size ≤ (wr.alloc (.cells #[.int .i64 (T t).v] 3)).heap.size from Nat.le_trans HO2.out.size (by simp))
          have HGK := Lib.hid hgk
          generalize K.getD j 0 = b at *
          unfold pt at d0
          have g1 : (j : Int) < n := by omega
          have g2 : (0 : Int) ≤ j := by omega
          clear ht hf hmem hgk
          go_wp2_with (at_builtin; go_must (refine append_one rfl _ _ rfl w.heap.size wr.heap.size 1 _ U2 (T t).v rfl rfl (HI2.out.later ((Only.refl _ wr).alloc _)) ?_ HLE.out HBS.out ?_); (go_must (exact heap_alloc_new wr _)); go_must (intro v5 w5 hr5 hO5 hV5); have HR5 := Lib.hid hr5; have HRW5 := Lib.hid ((HRW.out.later ((Only.refl (fun _ => False) wr).alloc _)).keep hO5 (fun g hg e => by cases hg; exact HAP.out _ e _ rfl rfl)); have HAP5 : Hid (∀ g, v5.ownBlock = some g → ∀ ad : Addr, some (⟨gk, 0, none⟩ : Addr) = some ad → ad.block ≠ g) := Lib.hid (fun g hg ad ha => by cases ha; rcases hV5 g hg with e | e; exact HAP.out g e _ rfl; have h1 := HGK.out; have h2 : wr.heap.size ≤ g := (by simp at e; omega); show gk ≠ g; omega); have HO5 := Lib.hid ((HO2.out.alloc _).trans hO5 (fun x hx e => by have := (HI2.out.block e).1; omega)); clear hr5 hO5 hV5)
          go_roundw
          case rel => exact ⟨j + 1, _, by omega, by go_num, HR5.out, by rw [List.length_append]; have := HUL2.out; simp; omega, HK2.out, HRW5.out, HAP5.out, HO5.out⟩
          case measure => simp [intOf]; omega
        · obtain rfl : j = n := by omega
          have hTT : Tops T G U2 := ktops_all (by rw [HKN.out]; exact HKT.out) (fun x hx => (HS.out.1.num x hx).2) (fun t ht ho => HS.out.1.all t ht (HS.out.2.2 t ht ho.1)) HMEM.out (fun b t t' h1 h2 => by
            obtain ⟨f, hf⟩ := H.out.numbers
            have a := hf _ h1; have b := hf _ h2; simp only at a b; omega)
          have HTT := Lib.hid hTT
          obtain ⟨a2, c3, hv, -⟩ := HI2.out.shape
          obtain ⟨n2, hn2⟩ : ∃ n2, U2.length = n2 := ⟨_, rfl⟩
          rw [hn2] at hv
          have HN2 := Lib.hid hn2
          have hnm := HI2.out.nums
          have HNM := Lib.hid hnm
          clear hTT hn2 hnm
          subst hv
          go_wp2_with fail
          go_ret
          exact ⟨_, _, _, U2, rfl, HN2.out, by have := HUL2.out; have := HN2.out; omega, HNM.out, HTT.out, HO2.out⟩
end Go.Proofs.YtckaebpcghaobaaGreat.Fr
/- Stores into the reference's class of fair shares. -/
namespace Go.Proofs.YtckaebpcghaobaaGreat.Fr
open Go.ChangeShapes Go.WideShapes Go.ChangeAt Go.RowKit Go.Maps
open Go.Proofs.YtckaebpcghaobaaGreat.Vt Go.Proofs.YtckaebpcghaobaaGreat.Pt
set_option linter.unusedVariables false

section
variable {B : Nat} {w : World} {q o D : Nat} {L : List (Nat × Nat)} {T : Tks} {G : Grs} {W GW : Nat → Int} {b t : Nat}

theorem RefAt.block_of (h : RefAt B w q o D L T G W GW) (hx : (b, t) ∈ L) {y : Nat × Nat} (hy : y ∈ L) (e : y.1 = b) : y.2 = t := by
  obtain ⟨f, hf⟩ := h.numbers
  have h1 := hf _ hx
  have h2 := hf _ hy
  simp only at h1
  rw [e, h1] at h2; exact h2.symm

theorem RefAt.only_task (h : RefAt B w q o D L T G W GW) (hx : (b, t) ∈ L) (j : Nat) (u : Value) {T' : Tks} (hT : ∀ y ∈ L, y.1 ≠ b → T' y.2 = T y.2)
    (hb : (w.setCell ⟨b, j, none⟩ u).heap[b]? = some (taskCells t (W t) (T' t).g (T' t).v (T' t).r)) : RefAt B (w.setCell ⟨b, j, none⟩ u) q o D L T' G W GW := by
  have hO : Only (fun k => k = b) w (w.setCell ⟨b, j, none⟩ u) := (Only.refl (fun k => k = b) w).setCell (p := ⟨b, j, none⟩) rfl u
  have h' := h
  obtain ⟨⟨cs, V, h1, h2, h3, h4⟩, h5, h6, h7, h8, h9⟩ := h
  refine ⟨⟨cs, V, (hO.block q (block_there h1) (fun e => h7 _ hx e.symm)).trans h1, h2, h3.keep hO (fun g hg e => (h4 g hg).2 _ hx e), h4⟩, fun y hy => ?_, h6, h7, h8, h9⟩
  by_cases e : y.1 = b
  · have e2 := h'.block_of hx hy e
    rw [e, e2]; exact hb
  · rw [hT y hy e]
    exact (hO.block y.1 (block_there (h5 y hy)) e).trans (h5 y hy)

theorem RefAt.num_other (h : RefAt B w q o D L T G W GW) (hx : (b, t) ∈ L) {y : Nat × Nat} (hy : y ∈ L) (e : y.1 ≠ b) : y.2 ≠ t := fun e2 => e (h.same_num (t := t) (by rw [← e2]; exact hy) hx)

theorem RefAt.set_v (h : RefAt B w q o D L T G W GW) (hx : (b, t) ∈ L) (x : Int) : RefAt B (w.setCell ⟨b, 3, none⟩ (.int .i64 x)) q o D L (upd T t ⟨(T t).c, x, (T t).g, (T t).r⟩) G W GW := by
  refine h.only_task hx 3 _ (fun y hy e => upd_other _ _ (h.num_other hx hy e)) ?_
  have h1 := h.task _ hx
  rw [upd_same]
  exact heap_setCell_same w b 3 _ _ (.int .i64 x) h1
theorem RefAt.set_r (h : RefAt B w q o D L T G W GW) (hx : (b, t) ∈ L) (x : Bool) : RefAt B (w.setCell ⟨b, 4, none⟩ (.bool x)) q o D L (upd T t ⟨(T t).c, (T t).v, (T t).g, x⟩) G W GW := by
  refine h.only_task hx 4 _ (fun y hy e => upd_other _ _ (h.num_other hx hy e)) ?_
  have h1 := h.task _ hx
  rw [upd_same]
  exact heap_setCell_same w b 4 _ _ (.bool x) h1

/-- A store into the class itself. -/
theorem RefAt.only_self (h : RefAt B w q o D L T G W GW) (j : Nat) (u : Value) {G' : Grs} {GW' : Nat → Int} (hc : ∀ cs V, RCells o cs V G GW → RCells o (cs.setIfInBounds j u) V G' GW') : RefAt B (w.setCell ⟨q, j, none⟩ u) q o D L T G' W GW' := by
  have hO : Only (fun k => k = q) w (w.setCell ⟨q, j, none⟩ u) := (Only.refl (fun k => k = q) w).setCell (p := ⟨q, j, none⟩) rfl u
  obtain ⟨⟨cs, V, h1, h2, h3, h4⟩, h5, h6, h7, h8, h9⟩ := h
  exact ⟨⟨_, V, heap_setCell_same w q j cs _ u h1, hc cs V h2, h3.keep hO (fun g hg e => (h4 g hg).1 e), h4⟩, fun y hy => (hO.block y.1 (block_there (h5 y hy)) (h7 y hy)).trans (h5 y hy), h6, h7, h8, h9⟩

theorem RefAt.set_gv (h : RefAt B w q o D L T G W GW) (g : Nat) (hg : g < 9) (x : Int) : RefAt B (w.setCell ⟨q, o + 1 + g * 3 + 2, none⟩ (.int .i64 x)) q o D L T (upd G g ⟨(G g).c, x⟩) W GW := by
  refine h.only_self _ _ (fun cs V hc => ?_)
  have hs := hc.size
  refine ⟨by simp [hs], ?_, ?_, ?_, ?_⟩
  · rw [Array.getElem?_setIfInBounds, if_neg (by omega)]; exact hc.v
  all_goals
    intro j hj
    rw [Array.getElem?_setIfInBounds]
  · rw [if_neg (by omega), hc.is j hj]; unfold upd; split <;> simp_all
  · rw [if_neg (by omega)]; exact hc.gw j hj
  · by_cases e : j = g
    · subst e; rw [if_pos rfl, if_pos (by omega), upd_same]
    · rw [if_neg (by omega), upd_other _ _ e]; exact hc.gv j hj
theorem RefAt.set_is (h : RefAt B w q o D L T G W GW) (g : Nat) (hg : g < 9) (x : Int) (hx : x ≠ 0) : RefAt B (w.setCell ⟨q, o + 1 + g * 3, none⟩ (.bool true)) q o D L T (upd G g ⟨x, (G g).v⟩) W GW := by
  refine h.only_self _ _ (fun cs V hc => ?_)
  have hs := hc.size
  refine ⟨by simp [hs], ?_, ?_, ?_, ?_⟩
  · rw [Array.getElem?_setIfInBounds, if_neg (by omega)]; exact hc.v
  all_goals
    intro j hj
    rw [Array.getElem?_setIfInBounds]
  · by_cases e : j = g
    · subst e; rw [if_pos rfl, if_pos (by omega), upd_same]; simp [hx]
    · rw [if_neg (by omega), upd_other _ _ e]; exact hc.is j hj
  · rw [if_neg (by omega)]; exact hc.gw j hj
  · rw [if_neg (by omega), hc.gv j hj]; unfold upd; split <;> simp_all
theorem RefAt.set_gw (h : RefAt B w q o D L T G W GW) (g : Nat) (hg : g < 9) (x : Int) : RefAt B (w.setCell ⟨q, o + 1 + g * 3 + 1, none⟩ (.int .i64 x)) q o D L T G W (upd GW g x) := by
  refine h.only_self _ _ (fun cs V hc => ?_)
  have hs := hc.size
  refine ⟨by simp [hs], ?_, ?_, ?_, ?_⟩
  · rw [Array.getElem?_setIfInBounds, if_neg (by omega)]; exact hc.v
  all_goals
    intro j hj
    rw [Array.getElem?_setIfInBounds]
  · rw [if_neg (by omega)]; exact hc.is j hj
  · by_cases e : j = g
    · subst e; rw [if_pos rfl, if_pos (by omega), upd_same]
    · rw [if_neg (by omega), upd_other _ _ e]; exact hc.gw j hj
  · rw [if_neg (by omega)]; exact hc.gv j hj
end
end Go.Proofs.YtckaebpcghaobaaGreat.Fr
/- The reference's WakeUp. -/
namespace Go.Proofs.YtckaebpcghaobaaGreat.Fr
open Go.ChangeShapes Go.WideShapes Go.ChangeAt Go.RowKit Go.Maps
open Go.Proofs.YtckaebpcghaobaaGreat.Vt Go.Proofs.YtckaebpcghaobaaGreat.Pt
set_option linter.unusedVariables false

theorem nextTo_zero {T : Tks} {G : Grs} (k : Nat) : (nextTo T G k).1 = 0 → (nextTo T G k).2 = 0 := by
  induction k with
  | zero => exact fun _ => rfl
  | succ k ih =>
    unfold nextTo
    split
    · rename_i h; exact fun e => absurd e h.1
    · exact ih
theorem next_zero {T : Tks} {G : Grs} : (next T G).1 = 0 → (next T G).2 = 0 := by
  unfold next
  split
  · rename_i h; exact fun e => absurd e h.1
  · exact nextTo_zero 8

/-- What WakeUp leaves. -/
def WokeAns (B : Nat) (w : World) (q o D b : Nat) (L : List (Nat × Nat)) (T : Tks) (G : Grs) (W GW : Nat → Int) (e : Ending) (w' : World) : Prop :=
  e = .returned (.tuple #[]) ∧ RefAt B w' q o D L T G W GW ∧ Only (fun k => k = q ∨ k = b) w w'

/-- What it leaves of a task that is in no group: no more than that task has changed. -/
def WokeSolo (B : Nat) (w : World) (q o D b : Nat) (L : List (Nat × Nat)) (T : Tks) (G : Grs) (W GW : Nat → Int) (e : Ending) (w' : World) : Prop :=
  e = .returned (.tuple #[]) ∧ RefAt B w' q o D L T G W GW ∧ Only (fun k => k = b) w w'
theorem WokeSolo.any {B : Nat} {w : World} {q o D b : Nat} {L : List (Nat × Nat)} {T : Tks} {G : Grs} {W GW : Nat → Int} {e : Ending} {w' : World} (h : WokeSolo B w q o D b L T G W GW e w') : WokeAns B w q o D b L T G W GW e w' :=
  ⟨h.1, h.2.1, h.2.2.mono (fun _ _ e => Or.inr e)⟩
theorem only_bb {w w2 : World} {b : Nat} (h : Only (fun _ => False) w w2) (j : Nat) (u : Value) : Only (fun k => k = b) w (w2.setCell ⟨b, j, none⟩ u) :=
  (h.mono (T := fun k => k = b) (fun _ _ e => e.elim)).setCell (p := ⟨b, j, none⟩) rfl u
theorem only_bb2 {w w2 : World} {b : Nat} (h : Only (fun k => k = b) w w2) (j : Nat) (u : Value) : Only (fun k => k = b) w (w2.setCell ⟨b, j, none⟩ u) := h.setCell (p := ⟨b, j, none⟩) rfl u

theorem only_b {w w2 : World} {q b : Nat} (h : Only (fun _ => False) w w2) (j : Nat) (u : Value) : Only (fun k => k = q ∨ k = b) w (w2.setCell ⟨b, j, none⟩ u) :=
  (h.mono (T := fun k => k = q ∨ k = b) (fun _ _ e => e.elim)).setCell (p := ⟨b, j, none⟩) (Or.inr rfl) u
theorem only_q {w w2 : World} {q b : Nat} (h : Only (fun _ => False) w w2) (j : Nat) (u : Value) : Only (fun k => k = q ∨ k = b) w (w2.setCell ⟨q, j, none⟩ u) :=
  (h.mono (T := fun k => k = q ∨ k = b) (fun _ _ e => e.elim)).setCell (p := ⟨q, j, none⟩) (Or.inl rfl) u
theorem only_b2 {w w2 : World} {q b : Nat} (h : Only (fun k => k = q ∨ k = b) w w2) (j : Nat) (u : Value) : Only (fun k => k = q ∨ k = b) w (w2.setCell ⟨b, j, none⟩ u) := h.setCell (p := ⟨b, j, none⟩) (Or.inr rfl) u

section
variable {B : Nat} {w : World} {q o D b t : Nat} {L : List (Nat × Nat)} {T : Tks} {G : Grs} {W GW : Nat → Int}

theorem RefAt.set_vr (h : RefAt B w q o D L T G W GW) (hx : (b, t) ∈ L) (x : Int) : RefAt B ((w.setCell ⟨b, 3, none⟩ (.int .i64 x)).setCell ⟨b, 4, none⟩ (.bool true)) q o D L (upd T t ⟨(T t).c, x, (T t).g, true⟩) G W GW := by
  have := (h.set_v hx x).set_r hx true
  rwa [upd_upd, upd_same] at this
end

/-- The least of the times that compete, as Min answers it. -/
theorem least_is {T : Tks} {G : Grs} {U : List Int} {n : Nat} (h0 : (T 0).r = false) (h : Tops T G U) (hn : U.length = n) (hz : (next T G).1 ≠ 0) : 1 ≤ n ∧ leastTo U (n - 1) = (next T G).2 := by
  have h1 : U ≠ [] := fun e => hz ((tops_empty h0 h).1 e)
  have h2 := List.length_pos_iff.2 h1
  refine ⟨by omega, ?_⟩
  have hls := leastTo_spec U (n - 1) (by omega)
  exact tops_least h0 h hls.1 (fun x hx => by
    obtain ⟨i, hi, e⟩ := List.getElem_of_mem hx
    have := hls.2 i (by omega)
    rw [← e]; simpa [List.getD, hi] using this)

set_option maxRecDepth 100000 in
set_option maxHeartbeats 1000000 in
theorem wokeup_solo {B : Nat} {w : World} {q o D b t : Nat} {L : List (Nat × Nat)} {T : Tks} {G : Grs} {W GW : Nat → Int} (h : RefAt B w q o D L T G W GW) (hs : Same L T G W GW) (h0 : (T 0).r = false) (hrc : ∀ t, t < 17 → (T t).r = true → (T t).c ≠ 0) (hx : (b, t) ∈ L) (hv : 0 ≤ (T t).v) (hg : (T t).g = 0) :
    Calls Tryz.prog 32 #[.pointer (some ⟨q, o, none⟩), .pointer (some ⟨b, 0, none⟩)] w (WokeSolo B w q o D b L (wokeT T G t) (wokeG T G t) W GW) := by
  have H := Lib.hid h
  have HS := Lib.hid h0
  have HX := Lib.hid hx
  have ct := Lib.hid (topsr_any h hs h0 hrc)
  have co := Lib.hid (fun (w2 : World) (hO : Only (fun _ => False) w w2) => ofh_any (h.later hO) hs h0 hrc 0)
  have HG0 := Lib.hid hg
  have HT := Lib.hid (wokeT_0 (G := G) hg)
  have HG := Lib.hid (wokeG_0 (G := G) hg)
  have dg0 := h.tg hx
  rw [hg] at dg0
  clear h hs h0 hrc hx hg
  by_cases hz : (next T G).1 = 0
  · have HZ := Lib.hid hz
    have HE : Hid (max (T t).v (next T G).2 = (T t).v) := Lib.hid (by rw [next_zero hz]; omega)
    clear hz
    go_enter Tryz.func32, Tryz.ntmps32
    go_upto_region 6 with (first
      | (go_at_call 61; (with_reducible refine ct.out.mono ?_); rintro e w1 ⟨at1, nt, ct1, U, rfl, hU, hnt, hNU, hT, hO⟩; have HU := Lib.hid hU; have HNT := Lib.hid hnt; have HNU := Lib.hid hNU; have HTT := Lib.hid hT; have HO1 := Lib.hid hO; have dg := (H.out.later hO).tg HX.out; rw [HG0.out] at dg; clear hU hnt hNU hT hO)
      | (go_at_call 62; (with_reducible refine (co.out _ HO1.out).mono ?_); rintro e w2 ⟨a2, n2, c2, K, rfl, hK, hc1, hc2, hn16, hrow, hmem, hz, hnz, hO2⟩; have HO2 := Lib.hid (HO1.out.trans hO2 (fun _ _ h => h)); have HN2 := Lib.hid (HNU.out.later hO2); have H2 := Lib.hid (H.out.later HO2.out); have dg2 := H2.out.tg HX.out; rw [HG0.out] at dg2; skip; clear hK hrow hmem hz hnz hO2))
    have hn0 : nt = 0 := by have := (tops_empty HS.out HTT.out).2 HZ.out; have := HU.out; simp_all
    have e1 : ¬ (0 : Int) < nt := by omega
    have e2 : decide ((0 : Int) < nt) = false := decide_eq_false e1
    go_quiet (fail)
    have H3 := Lib.hid (H2.out.later (only_drewN (Only.refl (fun _ => False) w2) nq))
    have HO3 := Lib.hid (only_drewN HO2.out nq)
    have d4 := H3.out.tr HX.out
    have f4 := H3.out.tfrozen HX.out 4
    generalize w2.drewN nq = w3 at *
    go_wp2_with fail
    go_end0
    refine ⟨rfl, ?_, only_bb HO3.out _ _⟩
    rw [HT.out, HG.out, HE.out]
    exact H3.out.set_r HX.out true
  · have HZ := Lib.hid hz
    obtain ⟨m, hm⟩ : ∃ m, (next T G).2 = m := ⟨_, rfl⟩
    have HM := Lib.hid hm
    clear hz hm
    go_enter Tryz.func32, Tryz.ntmps32
    go_upto_region 6 with (first
      | (go_at_call 61; (with_reducible refine ct.out.mono ?_); rintro e w1 ⟨at1, nt, ct1, U, rfl, hU, hnt, hNU, hT, hO⟩; have HU := Lib.hid hU; have HNT := Lib.hid hnt; have HNU := Lib.hid hNU; have HTT := Lib.hid hT; have HO1 := Lib.hid hO; have dg := (H.out.later hO).tg HX.out; rw [HG0.out] at dg; clear hU hnt hNU hT hO)
      | (go_at_call 62; (with_reducible refine (co.out _ HO1.out).mono ?_); rintro e w2 ⟨a2, n2, c2, K, rfl, hK, hc1, hc2, hn16, hrow, hmem, hz, hnz, hO2⟩; have HO2 := Lib.hid (HO1.out.trans hO2 (fun _ _ h => h)); have HN2 := Lib.hid (HNU.out.later hO2); have H2 := Lib.hid (H.out.later HO2.out); have dg2 := H2.out.tg HX.out; rw [HG0.out] at dg2; skip; clear hK hrow hmem hz hnz hO2))
    have hle := least_is HS.out HTT.out HU.out HZ.out
    have e1 : (0 : Int) < nt := by omega
    have e2 : decide ((0 : Int) < nt) = true := decide_eq_true e1
    have e1n : 0 < nt := by omega
    have e2n : decide (0 < nt) = true := decide_eq_true e1n
    have cm := min_any at1 nt ct1 U
    have CM : Hid (∀ w2, Nums w2 (.slice at1 nt ct1) U → Calls Tryz.prog 63 #[.slice at1 nt ct1] w2 fun e w' => e = .returned (.int .i64 m) ∧ w2 = w') := Lib.hid (fun w2 hN => by
      have := cm w2 hN HU.out hle.1 (by have := HNT.out; omega)
      rw [hle.2, HM.out] at this; exact this)
    have dv2 := H2.out.tv HX.out
    clear cm hle
    by_cases hlt : (T t).v < m
    · have e3 : decide ((T t).v < m) = true := decide_eq_true hlt
      have HE : Hid (max (T t).v (next T G).2 = m) := Lib.hid (by rw [HM.out]; omega)
      have C1 := Lib.hid (fun n => (CM.out (w2.drewN n) (HN2.out.later (only_drewN (Only.refl (fun _ => False) w2) n))).mono (fun e w' h => (⟨h.1, h.2.symm⟩ : e = .returned (.int .i64 m) ∧ w' = w2.drewN n)))
      go_quiet ((go_at_call 63; (with_reducible exact Calls.quiet_of_same (C1.out _))))
      have H3 := Lib.hid (H2.out.later (only_drewN (Only.refl (fun _ => False) w2) nq))
      have HO3 := Lib.hid (only_drewN HO2.out nq)
      have C2 := Lib.hid (CM.out _ (HN2.out.later (only_drewN (Only.refl (fun _ => False) w2) nq)))
      have d3 := H3.out.tv HX.out
      have f3 := H3.out.tfrozen HX.out
      have d4 := H3.out.tr HX.out
      generalize w2.drewN nq = w3 at *
      go_wp2_with (go_at_call 63; (with_reducible refine C2.out.mono ?_); rintro e w' ⟨rfl, rfl⟩)
      go_end0
      refine ⟨rfl, ?_, only_bb2 (only_bb HO3.out _ _) _ _⟩
      rw [HT.out, HG.out, HE.out]
      exact H3.out.set_vr HX.out m
    · have e3 : decide ((T t).v < m) = false := decide_eq_false hlt
      have HE : Hid (max (T t).v (next T G).2 = (T t).v) := Lib.hid (by rw [HM.out]; omega)
      have C1 := Lib.hid (fun n => (CM.out (w2.drewN n) (HN2.out.later (only_drewN (Only.refl (fun _ => False) w2) n))).mono (fun e w' h => (⟨h.1, h.2.symm⟩ : e = .returned (.int .i64 m) ∧ w' = w2.drewN n)))
      go_quiet ((go_at_call 63; (with_reducible exact Calls.quiet_of_same (C1.out _))))
      have H3 := Lib.hid (H2.out.later (only_drewN (Only.refl (fun _ => False) w2) nq))
      have HO3 := Lib.hid (only_drewN HO2.out nq)
      have d4 := H3.out.tr HX.out
      have f4 := H3.out.tfrozen HX.out 4
      generalize w2.drewN nq = w3 at *
      go_wp2_with fail
      go_end0
      refine ⟨rfl, ?_, only_bb HO3.out _ _⟩
      rw [HT.out, HG.out, HE.out]
      exact H3.out.set_r HX.out true
end Go.Proofs.YtckaebpcghaobaaGreat.Fr
/- The reference's WakeUp, of a task in a group. -/
namespace Go.Proofs.YtckaebpcghaobaaGreat.Fr
open Go.ChangeShapes Go.WideShapes Go.ChangeAt Go.RowKit Go.Maps
open Go.Proofs.YtckaebpcghaobaaGreat.Vt Go.Proofs.YtckaebpcghaobaaGreat.Pt
set_option linter.unusedVariables false

theorem upd_keep {α : Type} (f : Nat → α) (k : Nat) {x : α} (h : f k = x) : upd f k x = f := by
  funext j; unfold upd; split
  · rename_i e; subst e; exact h.symm
  · rfl

set_option maxRecDepth 100000 in
set_option maxHeartbeats 1000000 in
theorem wokeup_mate {B : Nat} {w : World} {q o D b t : Nat} {L : List (Nat × Nat)} {T : Tks} {G : Grs} {W GW : Nat → Int} (h : RefAt B w q o D L T G W GW) (hs : Same L T G W GW) (h0 : (T 0).r = false) (hrc : ∀ t, t < 17 → (T t).r = true → (T t).c ≠ 0) (hx : (b, t) ∈ L) (hg1 : 1 ≤ (T t).g) (hg8 : (T t).g ≤ 8) (hf : first T (T t).g ≠ 0) :
    Calls Tryz.prog 32 #[.pointer (some ⟨q, o, none⟩), .pointer (some ⟨b, 0, none⟩)] w (WokeAns B w q o D b L (wokeT T G t) (wokeG T G t) W GW) := by
  have H := Lib.hid h
  have HS := Lib.hid h0
  have HX := Lib.hid hx
  have ct := Lib.hid (topsr_any h hs h0 hrc)
  obtain ⟨g, hgg⟩ : ∃ g : Nat, (T t).g = g := ⟨(T t).g.toNat, by omega⟩
  have co := Lib.hid (fun (w2 : World) (hO : Only (fun _ => False) w w2) => ofh_any (h.later hO) hs h0 hrc g)
  have HG0 := Lib.hid hgg
  have HT := Lib.hid (wokeT_2 (G := G) (by omega) hf)
  have HG := Lib.hid (wokeG_2 (G := G) hf)
  have dg0 := h.tg hx
  rw [hgg] at dg0
  have g3 : ((g : Int) == 0) = false := by simp; omega
  have g9 : (g : Int) < 9 := by omega
  have g9n : g < 9 := by omega
  rw [hgg] at hf
  have HF := Lib.hid hf
  obtain ⟨f, hff⟩ : ∃ f, first T (T t).g = f := ⟨_, rfl⟩
  have hff2 : first T (g : Int) = f := by rw [← hgg]; exact hff
  rw [hff] at HT
  obtain ⟨vf, hvf⟩ : ∃ vf, (T f).v = vf := ⟨_, rfl⟩
  have HFF := Lib.hid hff2
  have HVF := Lib.hid hvf
  clear h hs h0 hrc hx hg1 hg8 hgg hf hff hff2 hvf
  go_enter Tryz.func32, Tryz.ntmps32
  go_upto_region 9 with (first
    | (go_at_call 61; (with_reducible refine ct.out.mono ?_); rintro e w1 ⟨at1, nt, ct1, U, rfl, hU, hnt, hNU, hT, hO⟩; have HU := Lib.hid hU; have HNT := Lib.hid hnt; have HNU := Lib.hid hNU; have HTT := Lib.hid hT; have HO1 := Lib.hid hO; have dg := (H.out.later hO).tg HX.out; rw [HG0.out] at dg; clear hU hnt hNU hT hO)
    | (go_at_call 62; (with_reducible refine (co.out _ HO1.out).mono ?_); rintro e w2 ⟨a2, n2, c2, K, rfl, hK, hc1, hc2, hn16, hrow, hmem, hz, hnz, hO2⟩; have HO2 := Lib.hid (HO1.out.trans hO2 (fun _ _ h => h)); have HN2 := Lib.hid (HNU.out.later hO2); have H2 := Lib.hid (H.out.later HO2.out); have dg2 := H2.out.tg HX.out; rw [HG0.out] at dg2; have n0 : (0 : Int) < n2 := (by have : n2 ≠ 0 := fun h => HF.out (by have := hz h; exact this); omega); have hkn := (hnz (by omega)).2; rw [HFF.out] at hkn; obtain ⟨gk, rfl, -, -, d0⟩ := row_at hrow (j := 0) (by omega); have dv0 := H2.out.tv hkn; have dvx := H2.out.tv HX.out; have HKN := Lib.hid hkn; generalize K.getD 0 0 = b0 at *; unfold pt at d0; clear hkn; clear hK hrow hmem hz hnz hO2))
  rw [HVF.out] at dv0
  by_cases hlt : (T t).v < vf
  · have e3 : decide ((T t).v < vf) = true := decide_eq_true hlt
    have HE : Hid (max (T t).v (T f).v = vf) := Lib.hid (by rw [HVF.out]; omega)
    go_quiet (fail)
    have H3 := Lib.hid (H2.out.later (only_drewN (Only.refl (fun _ => False) w2) nq))
    have HO3 := Lib.hid (only_drewN HO2.out nq)
    have d03 : (w2.drewN nq).cell? ⟨gk, 0, none⟩ = some (.pointer (some ⟨b0, 0, none⟩)) := d0
    have d3v : (w2.drewN nq).cell? ⟨b0, 3, none⟩ = some (.int .i64 vf) := dv0
    have d3 := H3.out.tv HX.out
    have f3 := H3.out.tfrozen HX.out
    have d4 := H3.out.tr HX.out
    clear d0 dv0 dvx dg2
    generalize w2.drewN nq = w3 at *
    go_wp2_with fail
    go_end0
    refine ⟨rfl, ?_, only_b2 (only_b HO3.out _ _) _ _⟩
    rw [HT.out, HG.out, HE.out]
    exact H3.out.set_vr HX.out vf
  · have e3 : decide ((T t).v < vf) = false := decide_eq_false hlt
    have HE : Hid (max (T t).v (T f).v = (T t).v) := Lib.hid (by rw [HVF.out]; omega)
    go_quiet (fail)
    have H3 := Lib.hid (H2.out.later (only_drewN (Only.refl (fun _ => False) w2) nq))
    have HO3 := Lib.hid (only_drewN HO2.out nq)
    have d4 := H3.out.tr HX.out
    have f4 := H3.out.tfrozen HX.out 4
    clear d0 dv0 dvx dg2
    generalize w2.drewN nq = w3 at *
    go_wp2_with fail
    go_end0
    refine ⟨rfl, ?_, only_b HO3.out _ _⟩
    rw [HT.out, HG.out, HE.out]
    exact H3.out.set_r HX.out true

set_option maxRecDepth 100000 in
set_option maxHeartbeats 1000000 in
theorem wokeup_group {B : Nat} {w : World} {q o D b t : Nat} {L : List (Nat × Nat)} {T : Tks} {G : Grs} {W GW : Nat → Int} (h : RefAt B w q o D L T G W GW) (hs : Same L T G W GW) (h0 : (T 0).r = false) (hrc : ∀ t, t < 17 → (T t).r = true → (T t).c ≠ 0) (hx : (b, t) ∈ L) (hg1 : 1 ≤ (T t).g) (hg8 : (T t).g ≤ 8) (hf : first T (T t).g = 0) (hv : 0 ≤ (G (T t).g.toNat).v) :
    Calls Tryz.prog 32 #[.pointer (some ⟨q, o, none⟩), .pointer (some ⟨b, 0, none⟩)] w (WokeAns B w q o D b L (wokeT T G t) (wokeG T G t) W GW) := by
  have H := Lib.hid h
  have HS := Lib.hid h0
  have HX := Lib.hid hx
  have ct := Lib.hid (topsr_any h hs h0 hrc)
  obtain ⟨g, hgg⟩ : ∃ g : Nat, (T t).g = g := ⟨(T t).g.toNat, by omega⟩
  have co := Lib.hid (fun (w2 : World) (hO : Only (fun _ => False) w w2) => ofh_any (h.later hO) hs h0 hrc g)
  have HG0 := Lib.hid hgg
  have HT := Lib.hid (wokeT_1 (G := G) (by omega) hf)
  have HG := Lib.hid (wokeG_1 (G := G) (by omega) hf)
  have dg0 := h.tg hx
  rw [hgg] at dg0
  have g3 : ((g : Int) == 0) = false := by simp; omega
  have g9 : (g : Int) < 9 := by omega
  have g9n : g < 9 := by omega
  have hgt : (T t).g.toNat = g := by omega
  rw [hgt] at HG hv
  rw [hgg] at hf
  have HF := Lib.hid hf
  clear h hs h0 hrc hx hg1 hg8 hgg hf hgt
  by_cases hz0 : (next T G).1 = 0
  · have HZ := Lib.hid hz0
    have HE : Hid (max (G g).v (next T G).2 = (G g).v) := Lib.hid (by rw [next_zero hz0]; omega)
    clear hz0
    go_enter Tryz.func32, Tryz.ntmps32
    go_upto_region 2 with (first
    | (go_at_call 61; (with_reducible refine ct.out.mono ?_); rintro e w1 ⟨at1, nt, ct1, U, rfl, hU, hnt, hNU, hT, hO⟩; have HU := Lib.hid hU; have HNT := Lib.hid hnt; have HNU := Lib.hid hNU; have HTT := Lib.hid hT; have HO1 := Lib.hid hO; have dg := (H.out.later hO).tg HX.out; rw [HG0.out] at dg; clear hU hnt hNU hT hO)
    | (go_at_call 62; (with_reducible refine (co.out _ HO1.out).mono ?_); rintro e w2 ⟨a2, n2, c2, K, rfl, hK, hc1, hc2, hn16, hrow, hmem, hz, hnz, hO2⟩; have HO2 := Lib.hid (HO1.out.trans hO2 (fun _ _ h => h)); have HN2 := Lib.hid (HNU.out.later hO2); have H2 := Lib.hid (H.out.later HO2.out); have dg2 := H2.out.tg HX.out; rw [HG0.out] at dg2; have n0 : ¬ (0 : Int) < n2 := (by intro h; exact (hnz (by omega)).1 HF.out); have n0n : ¬ 0 < n2 := (by omega); clear hK hrow hmem hz hnz hO2))
    go_quiet (fail)
    have H3 := Lib.hid (H2.out.later (only_drewN (Only.refl (fun _ => False) w2) nq))
    have HO3 := Lib.hid (only_drewN HO2.out nq)
    have hn0 : nt = 0 := by have := (tops_empty HS.out HTT.out).2 HZ.out; have := HU.out; simp_all
    have e1 : ¬ (0 : Int) < nt := by omega
    have e2 : decide ((0 : Int) < nt) = false := decide_eq_false e1
    clear dg2
    generalize w2.drewN nq = w3 at *
    go_upto_region 3 with (fail)
    go_quiet (fail)
    have H4 := Lib.hid (H3.out.later (only_drewN (Only.refl (fun _ => False) w3) nq))
    have HO4 := Lib.hid (only_drewN HO3.out nq)
    have d4 := H4.out.tr HX.out
    have f4 := H4.out.tfrozen HX.out 4
    generalize w3.drewN nq = w4 at *
    go_wp2_with fail
    go_end0
    refine ⟨rfl, ?_, only_b HO4.out _ _⟩
    rw [HT.out, HG.out, HE.out, upd_keep _ _ rfl]
    exact H4.out.set_r HX.out true
  · have HZ := Lib.hid hz0
    obtain ⟨m, hm⟩ : ∃ m, (next T G).2 = m := ⟨_, rfl⟩
    have HM := Lib.hid hm
    clear hz0 hm
    go_enter Tryz.func32, Tryz.ntmps32
    go_upto_region 2 with (first
    | (go_at_call 61; (with_reducible refine ct.out.mono ?_); rintro e w1 ⟨at1, nt, ct1, U, rfl, hU, hnt, hNU, hT, hO⟩; have HU := Lib.hid hU; have HNT := Lib.hid hnt; have HNU := Lib.hid hNU; have HTT := Lib.hid hT; have HO1 := Lib.hid hO; have dg := (H.out.later hO).tg HX.out; rw [HG0.out] at dg; clear hU hnt hNU hT hO)
    | (go_at_call 62; (with_reducible refine (co.out _ HO1.out).mono ?_); rintro e w2 ⟨a2, n2, c2, K, rfl, hK, hc1, hc2, hn16, hrow, hmem, hz, hnz, hO2⟩; have HO2 := Lib.hid (HO1.out.trans hO2 (fun _ _ h => h)); have HN2 := Lib.hid (HNU.out.later hO2); have H2 := Lib.hid (H.out.later HO2.out); have dg2 := H2.out.tg HX.out; rw [HG0.out] at dg2; have n0 : ¬ (0 : Int) < n2 := (by intro h; exact (hnz (by omega)).1 HF.out); have n0n : ¬ 0 < n2 := (by omega); clear hK hrow hmem hz hnz hO2))
    have hle := least_is HS.out HTT.out HU.out HZ.out
    have cm := min_any at1 nt ct1 U
    have CM : Hid (∀ w2, Nums w2 (.slice at1 nt ct1) U → Calls Tryz.prog 63 #[.slice at1 nt ct1] w2 fun e w' => e = .returned (.int .i64 m) ∧ w2 = w') := Lib.hid (fun w2 hN => by
      have := cm w2 hN HU.out hle.1 (by have := HNT.out; omega)
      rw [hle.2, HM.out] at this; exact this)
    have e1 : (0 : Int) < nt := by omega
    have e2 : decide ((0 : Int) < nt) = true := decide_eq_true e1
    have e1n : 0 < nt := by omega
    have e2n : decide (0 < nt) = true := decide_eq_true e1n
    clear cm hle
    go_quiet (fail)
    have H3 := Lib.hid (H2.out.later (only_drewN (Only.refl (fun _ => False) w2) nq))
    have HO3 := Lib.hid (only_drewN HO2.out nq)
    have HN3 := Lib.hid (HN2.out.later (only_drewN (Only.refl (fun _ => False) w2) nq))
    clear dg2
    generalize w2.drewN nq = w3 at *
    have dv3 := H3.out.gv g g9n
    have C1 := Lib.hid (fun n => (CM.out (w3.drewN n) (HN3.out.later (only_drewN (Only.refl (fun _ => False) w3) n))).mono (fun e w' h => (⟨h.1, h.2.symm⟩ : e = .returned (.int .i64 m) ∧ w' = w3.drewN n)))
    by_cases hlt : (G g).v < m
    · have e3 : decide ((G g).v < m) = true := decide_eq_true hlt
      have HE : Hid (max (G g).v (next T G).2 = m) := Lib.hid (by rw [HM.out]; omega)
      go_upto_region 3 with (fail)
      go_quiet ((go_at_call 63; (with_reducible exact Calls.quiet_of_same (C1.out _))))
      have H4 := Lib.hid (H3.out.later (only_drewN (Only.refl (fun _ => False) w3) nq))
      have HO4 := Lib.hid (only_drewN HO3.out nq)
      have C2 := Lib.hid (CM.out _ (HN3.out.later (only_drewN (Only.refl (fun _ => False) w3) nq)))
      have d3 := H4.out.gv g g9n
      have f3 := H4.out.frozen
      have d4 := H4.out.tr HX.out
      have f4 := H4.out.tfrozen HX.out 4
      have HNE := Lib.hid (H4.out.apart _ HX.out)
      generalize w3.drewN nq = w4 at *
      go_upto_region 11 with (go_at_call 63; (with_reducible refine C2.out.mono ?_); rintro e w' ⟨rfl, rfl⟩)
      have H5 := Lib.hid (H4.out.set_gv g g9n m)
      have HO5 := Lib.hid (only_q (q := q) (b := b) HO4.out (o + 1 + g * 3 + 2) (.int .i64 m))
      have d5 := H5.out.tr HX.out
      have f5 := H5.out.tfrozen HX.out 4
      clear d3 f3 d4 f4
      generalize w4.setCell ⟨q, o + 1 + g * 3 + 2, none⟩ (.int .i64 m) = w5 at *
      go_wp2_with fail
      go_end0
      refine ⟨rfl, ?_, only_b2 HO5.out _ _⟩
      rw [HT.out, HG.out, HE.out]
      exact H5.out.set_r HX.out true
    · have e3 : decide ((G g).v < m) = false := decide_eq_false hlt
      have HE : Hid (max (G g).v (next T G).2 = (G g).v) := Lib.hid (by rw [HM.out]; omega)
      go_upto_region 3 with (fail)
      go_quiet ((go_at_call 63; (with_reducible exact Calls.quiet_of_same (C1.out _))))
      have H4 := Lib.hid (H3.out.later (only_drewN (Only.refl (fun _ => False) w3) nq))
      have HO4 := Lib.hid (only_drewN HO3.out nq)
      have d4 := H4.out.tr HX.out
      have f4 := H4.out.tfrozen HX.out 4
      generalize w3.drewN nq = w4 at *
      go_wp2_with fail
      go_end0
      refine ⟨rfl, ?_, only_b HO4.out _ _⟩
      rw [HT.out, HG.out, HE.out, upd_keep _ _ rfl]
      exact H4.out.set_r HX.out true

theorem wokeup_any {B : Nat} {w : World} {q o D b t : Nat} {L : List (Nat × Nat)} {T : Tks} {G : Grs} {W GW : Nat → Int} {M : Int} (h : RefAt B w q o D L T G W GW) (hs : Same L T G W GW) (hF : Fit T G M) (h0 : (T 0).r = false) (hx : (b, t) ∈ L) :
    Calls Tryz.prog 32 #[.pointer (some ⟨q, o, none⟩), .pointer (some ⟨b, 0, none⟩)] w (WokeAns B w q o D b L (wokeT T G t) (wokeG T G t) W GW) := by
  have ht := hs.num _ hx
  simp only at ht
  have hg := hF.g t (by omega)
  have hv := hF.v t (by omega)
  by_cases e : (T t).g = 0
  · exact (wokeup_solo h hs h0 hF.rc hx hv.1 e).mono fun e w' k => k.any
  · by_cases f : first T (T t).g = 0
    · exact wokeup_group h hs h0 hF.rc hx (by omega) hg.2 f (hF.gv _ (by omega)).1
    · exact wokeup_mate h hs h0 hF.rc hx (by omega) hg.2 f
end Go.Proofs.YtckaebpcghaobaaGreat.Fr
/- slices.DeleteFunc of pointers to tasks, by a task's number. -/
namespace Go.Proofs.YtckaebpcghaobaaGreat.Pt
open Go.ChangeShapes Go.WideShapes Go.ChangeAt Go.RowKit Go.Maps
set_option linter.unusedVariables false

/-- The closure: has a task that number? -/
theorem asks_num (x Bx : Nat) (m t : Int) (W : World) (hx : W.cell? ⟨x, 0, none⟩ = some (.int .i64 m)) (hB : W.cell? ⟨Bx, 0, none⟩ = some (.int .i64 t)) :
    Calls Tryz.prog 34 #[pt x, .pointer (some ⟨Bx, 0, none⟩)] W (fun e w' => e = .returned (.bool (m == t)) ∧ Only (fun _ => False) W w') := by
  unfold pt
  go_enter Tryz.func34, Tryz.ntmps34
  go_wp2_with fail
  go_quiet (fail)
  go_wp2_with fail
  go_ret
  exact ⟨rfl, only_drewN (Only.refl _ _) _⟩

section
variable {w w' : World} {B g n c : Nat} {S : List Nat}
theorem RowAt.there (h : RowAt w B (.slice (some ⟨g, 0, none⟩) n c) S) : n = S.length ∧ n ≤ c ∧ c ≤ 9223372036854775807 ∧ B ≤ g ∧ ∃ cur, w.heap[g]? = some (.cells cur 80 (0, 0)) ∧ cur.size = c ∧ cur.toList.take (S.length * 1) = S.map pt := by
  rcases h.2 with ⟨h1, _⟩ | ⟨g', cap', cur, h1, hb, h2, h3, h4, h5, h6⟩
  · cases h1
  · obtain ⟨e1, e2, e3⟩ := Value.slice.inj h1
    cases e1
    subst e3
    unfold maxLen at h4
    exact ⟨e2, by omega, by omega, hb, cur, h2, by omega, h6⟩
theorem RowAt.mk {cur : Array Value} (hg : w.heap[g]? = some (.cells cur 80 (0, 0))) (hB : B ≤ g) (hn : n = S.length) (hc : n ≤ c) (hm : c ≤ 9223372036854775807) (hs : cur.size = c) (hm2 : c ≤ maxLen) (ht : cur.toList.take (S.length * 1) = S.map pt) : RowAt w B (.slice (some ⟨g, 0, none⟩) n c) S := by
  subst hn
  exact ⟨by simp, Or.inr ⟨g, c, cur, rfl, hB, hg, hc, hm2, by omega, ht⟩⟩
theorem RowAt.max (h : RowAt w B (.slice (some ⟨g, 0, none⟩) n c) S) : c ≤ maxLen := by
  rcases h.2 with ⟨h1, _⟩ | ⟨g', cap', cur, h1, hb, h2, h3, h4, h5, h6⟩
  · cases h1
  · obtain ⟨e1, e2, e3⟩ := Value.slice.inj h1
    subst e3
    exact h4
/-- A pointer stored in a row. -/
theorem RowAt.set (h : RowAt w B (.slice (some ⟨g, 0, none⟩) n c) S) {i : Nat} (hi : i < n) (x : Nat) :
    (w.cell? ⟨g, i, none⟩).isSome = true ∧ w.frozen? ⟨g, i, none⟩ = false ∧ RowAt (w.setCell ⟨g, i, none⟩ (pt x)) B (.slice (some ⟨g, 0, none⟩) n c) (S.set i x) := by
  have hmax := h.max
  obtain ⟨hn, h1, h2, h3, cur, h4, h5, h6⟩ := h.there
  refine ⟨?_, frozen_at h4 _, RowAt.mk (heap_setCell_same w g i cur _ (pt x) h4) h3 (by simp [hn]) h1 h2 (by simp [h5]) hmax ?_⟩
  · rw [cell_at h4]; simp; omega
  · rw [Array.toList_setIfInBounds]
    apply List.ext_getElem?
    intro j
    rw [List.length_set, List.getElem?_take, List.map_set, List.getElem?_set, ← h6, List.getElem?_set, List.getElem?_take, List.length_take]
    simp only [Array.length_toList, Nat.mul_one]
    by_cases hj : j < S.length
    · rw [if_pos hj, if_pos hj]
      by_cases e : i = j
      · subst e; rw [if_pos rfl, if_pos rfl, if_pos (by omega), if_pos (by omega)]
      · rw [if_neg e, if_neg e]
    · rw [if_neg hj, if_neg hj, if_neg (by omega)]
/-- The row without its last pointer, whose cell is cleared. -/
theorem RowAt.cut {m : Nat} (h : RowAt w B (.slice (some ⟨g, 0, none⟩) (m + 1) c) S) :
    (w.cell? ⟨g, m, none⟩).isSome = true ∧ w.frozen? ⟨g, m, none⟩ = false ∧ RowAt (w.setCells g m [.pointer none]) B (.slice (some ⟨g, 0, none⟩) m c) (S.take m) ∧ Only (· = g) w (w.setCells g m [.pointer none]) := by
  have hmax := h.max
  obtain ⟨hn, h1, h2, h3, cur, h4, h5, h6⟩ := h.there
  obtain ⟨c2, hh2, hs2, ht2, hO2⟩ := heap_setCells [.pointer none] m w cur h4
  refine ⟨by rw [cell_at h4]; simp; omega, frozen_at h4 _, RowAt.mk hh2 h3 (by rw [List.length_take]; omega) (by omega) h2 (by omega) hmax ?_, hO2⟩
  rw [ht2, List.length_take, Nat.min_eq_left (by omega), List.map_take, ← h6]
  apply List.ext_getElem?
  intro j
  rw [List.getElem?_take, List.getElem?_take, List.getElem?_take]
  by_cases hj : j < m
  · rw [if_pos (by omega), if_pos hj, if_pos (by omega)]
    show (cur.toList.set m (.pointer none))[j]? = _
    rw [List.getElem?_set_ne (by omega)]
  · rw [if_neg (by omega), if_neg hj]
end

/-- The pointers of a row in which those behind k have moved up, as far as j. -/
def mid (S : List Nat) (k j : Nat) : List Nat := (List.range S.length).map fun p => if p < k then S.getD p 0 else if p + 1 < j then S.getD (p + 1) 0 else S.getD p 0
theorem mid_len (S : List Nat) (k j : Nat) : (mid S k j).length = S.length := by simp [mid]
theorem mid_at (S : List Nat) (k j : Nat) {p : Nat} (hp : p < S.length) : (mid S k j).getD p 0 = if p < k then S.getD p 0 else if p + 1 < j then S.getD (p + 1) 0 else S.getD p 0 := by
  unfold mid
  rw [List.getD_eq_getElem?_getD, List.getElem?_map, List.getElem?_range hp]; rfl
theorem list_ext {S R : List Nat} (hl : S.length = R.length) (h : ∀ p, p < S.length → S.getD p 0 = R.getD p 0) : S = R := by
  apply List.ext_getElem hl
  intro p h1 h2
  have := h p h1
  rw [List.getD_eq_getElem?_getD, List.getD_eq_getElem?_getD, List.getElem?_eq_getElem h1, List.getElem?_eq_getElem h2] at this
  exact this
theorem mid_start (S : List Nat) (k : Nat) : mid S k (k + 1) = S := by
  refine list_ext (mid_len _ _ _) (fun p hp => ?_)
  rw [mid_len] at hp
  rw [mid_at _ _ _ hp]
  by_cases h : p < k
  · rw [if_pos h]
  · rw [if_neg h, if_neg (by omega)]
theorem mid_next (S : List Nat) {k j : Nat} (hk : k < j) (hj : j < S.length) : (mid S k j).set (j - 1) (S.getD j 0) = mid S k (j + 1) := by
  refine list_ext (by rw [List.length_set, mid_len, mid_len]) (fun p hp => ?_)
  rw [List.length_set, mid_len] at hp
  rw [List.getD_eq_getElem?_getD, List.getElem?_set, mid_at _ _ _ hp]
  by_cases e : j - 1 = p
  · subst e
    rw [if_pos rfl, if_pos (by rw [mid_len]; omega), if_neg (by omega), if_pos (by omega), show j - 1 + 1 = j by omega]; rfl
  · rw [if_neg e, ← List.getD_eq_getElem?_getD, mid_at _ _ _ hp]
    by_cases h : p < k
    · rw [if_pos h, if_pos h]
    · rw [if_neg h, if_neg h]
      by_cases h2 : p + 1 < j
      · rw [if_pos h2, if_pos (by omega)]
      · rw [if_neg h2, if_neg (by omega)]
theorem mid_end (S : List Nat) {k m : Nat} (hm : S.length = m + 1) (hk : k ≤ m) : (mid S k (m + 1)).take m = S.eraseIdx k := by
  refine list_ext (by rw [List.length_take, mid_len, hm, List.length_eraseIdx, if_pos (by omega)]; omega) (fun p hp => ?_)
  rw [List.length_take, mid_len] at hp
  rw [List.getD_eq_getElem?_getD, List.getElem?_take, if_pos (by omega), ← List.getD_eq_getElem?_getD, mid_at _ _ _ (by omega), List.getD_eq_getElem?_getD (l := S.eraseIdx k), List.getElem?_eraseIdx]
  by_cases h : p < k
  · rw [if_pos h, if_pos h, List.getD_eq_getElem?_getD]
  · rw [if_neg h, if_neg h, if_pos (by omega), List.getD_eq_getElem?_getD]

theorem run_clear (w : World) (ty : TypeId) (b o c : Nat) (hc : (w.cell? ⟨b, o, none⟩).isSome = true) (hf : w.frozen? ⟨b, o, none⟩ = false) :
    (Builtin.clear_ #[31] ty #[.slice (some ⟨b, o, none⟩) 1 c]).run Tryz.prog w = .ok (.tuple #[]) (w.setCells b o [.pointer none]) := by
  have hst := run_storeCells_cells (P := Tryz.prog) b o [.pointer none] 0 w (by intro j hj; simp at hj; subst hj; simpa using hc) (by intro j hj; simp at hj; subst hj; simpa using hf) (by intro v hv'; simp at hv'; rcases hv' with rfl; rfl)
  simp only [Nat.add_zero] at hst
  have hzc : (Builtin.zeroCells (Value.pointer none).cells 1).toList = [.pointer none] := by
    simp [Builtin.zeroCells, Value.cells]
    try rfl
  obtain ⟨i0, hi, hz0, hz1, hz2⟩ := info_parts Tryz.infoElem
  have hze : ∀ w, (zeroValue 80).run Tryz.prog w = .ok (.pointer none) w := fun w => by simp [zeroValue, typeInfo, hi, hz0]
  simp [Builtin.clear_, run_underlying Tryz.underlying31, hze, hzc, hst]

/-- Where the first task with a number stands. -/
def Found (f : Nat → Int) (S : List Nat) (t : Int) (w : World) (e : Ending) (w' : World) : Prop :=
  ((∃ k : Nat, e = .returned (.int .i64 k) ∧ k < S.length ∧ f (S.getD k 0) = t) ∨ (e = .returned (.int .i64 (-1)) ∧ ∀ k, k < S.length → f (S.getD k 0) ≠ t)) ∧ Only (fun _ => False) w w'

theorem not_val {a b : Int} (h : a ≠ b) : (a == b) = false := beq_eq_false_iff_ne.2 h

set_option maxHeartbeats 1000000 in
theorem index_num (a : Option Addr) (n c Bx base : Nat) (f : Nat → Int) (t : Int) (S : List Nat) (w : World) (h : RowAt w base (.slice a n c) S) (hn : S.length = n) (hf : ∀ x ∈ S, w.cell? ⟨x, 0, none⟩ = some (.int .i64 (f x))) (hB : w.cell? ⟨Bx, 0, none⟩ = some (.int .i64 t)) :
    Calls Tryz.prog 64 #[.slice a n c, .func (.func 34) #[] #[.pointer (some ⟨Bx, 0, none⟩)]] w (Found f S t w) := by
  obtain ⟨a', c', e, hc1, hc2, hc3⟩ := h.shape hn
  obtain ⟨rfl, -, rfl⟩ := Value.slice.inj e
  have H := Lib.hid h
  have HF := Lib.hid (fun (W : World) (x : Nat) (hx : x ∈ S) (hO : Only (fun _ => False) w W) => show W.cell? ⟨x, 0, none⟩ = some (.int .i64 (f x)) from by
    have := hf x hx
    rw [Pr.cell_kept hO (block_lt this) id]; exact this)
  have HBX := Lib.hid (fun (W : World) (hO : Only (fun _ => False) w W) => show W.cell? ⟨Bx, 0, none⟩ = some (.int .i64 t) from by
    rw [Pr.cell_kept hO (block_lt hB) id]; exact hB)
  have HN := Lib.hid hn
  clear h hn hf hB e
  go_enter Tryz.func64, Tryz.ntmps64
  go_wp2_with fail
  go_loopw [8] (fun i wr => ∃ j : Nat, j ≤ n ∧ i = .int .i64 j ∧ (∀ k, k < j → f (S.getD k 0) ≠ t) ∧ Only (fun _ => False) w wr) (fun i _ => n - (intOf i).toNat)
  case atStart => exact ⟨0, by omega, rfl, fun k hk => absurd hk (Nat.not_lt_zero _), Only.refl _ _⟩
  case round =>
    obtain ⟨j, hj, rfl, hno, hO⟩ := hrel
    have HNO := Lib.hid hno
    have HO := Lib.hid hO
    clear hno hO
    by_cases hlt : j < n
    · obtain ⟨g, cap, e, -, -, -, -, hcell⟩ : ∃ g cap, (Value.slice a n c) = .slice (some ⟨g, 0, none⟩) S.length cap ∧ base ≤ g ∧ S.length ≤ cap ∧ cap ≤ 9223372036854775807 ∧ (∃ cur, wr.heap[g]? = some (.cells cur 80 (0, 0))) ∧ ∀ i, i < S.length → wr.cell? ⟨g, i, none⟩ = some (pt (S.getD i 0)) := by
        rcases (H.out.later HO.out).cases with ⟨h1, h2⟩ | h1
        · exfalso; have := HN.out; rw [h2] at this; simp at this; omega
        · exact h1
      obtain ⟨rfl, -, -⟩ := Value.slice.inj e
      have c0 := hcell j (by rw [HN.out]; exact hlt)
      have hmem : S.getD j 0 ∈ S := by
        have hl : j < S.length := by rw [HN.out]; exact hlt
        rw [List.getD_eq_getElem?_getD, List.getElem?_eq_getElem hl]; exact List.getElem_mem hl
      have KA := Lib.hid (fun (W : World) (hW : Only (fun _ => False) w W) => asks_num (S.getD j 0) Bx (f (S.getD j 0)) t W (HF.out W _ hmem hW) (HBX.out W hW))
      have HX := Lib.hid (fun (h : f (S.getD j 0) = t) => (show j < S.length ∧ f (S.getD j 0) = t from ⟨by rw [HN.out]; exact hlt, h⟩))
      clear hcell e hmem
      have hg : ∃ y, S.getD j 0 = y := ⟨_, rfl⟩
      obtain ⟨y, hy⟩ := hg
      rw [hy] at c0 KA HX
      have HY := Lib.hid hy
      unfold pt at *
      clear hy
      have g1 : (j : Int) < n := by omega
      have g2 : (0 : Int) ≤ j := by omega
      by_cases hv : f y = t
      · have e1 : (f y == t) = true := by simp [hv]
        rw [e1] at KA
        have HV := Lib.hid (HX.out hv)
        clear hv e1
        go_wp2_with (go_at_call 34; (with_reducible refine (KA.out _ HO.out).mono ?_); rintro e w' ⟨rfl, hO1⟩; have HO1 := Lib.hid (HO.out.trans hO1 (fun _ _ h => h)); clear hO1)
        go_ret
        exact ⟨Or.inl ⟨j, rfl, HV.out.1, by rw [HY.out]; exact HV.out.2⟩, HO1.out⟩
      · have e1 : (f y == t) = false := not_val hv
        rw [e1] at KA
        have HV := Lib.hid hv
        clear hv e1
        go_wp2_with (go_at_call 34; (with_reducible refine (KA.out _ HO.out).mono ?_); rintro e w' ⟨rfl, hO1⟩; have HO1 := Lib.hid (HO.out.trans hO1 (fun _ _ h => h)); clear hO1)
        go_roundw
        case rel =>
          refine ⟨j + 1, by omega, by go_num, fun k hk => ?_, HO1.out⟩
          by_cases ek : k = j
          · subst ek; rw [HY.out]; exact HV.out
          · exact HNO.out k (by omega)
        case measure => simp [intOf]; omega
    · obtain rfl : j = n := by omega
      go_wp2_with fail
      go_ret
      exact ⟨Or.inr ⟨rfl, fun k hk => HNO.out k (by rw [HN.out] at hk; exact hk)⟩, HO.out⟩

theorem RowAt.mid_cell {w : World} {B g n c : Nat} {S : List Nat} {k j : Nat} (h : RowAt w B (.slice (some ⟨g, 0, none⟩) n c) (mid S k j)) (hk : k < j) (hj : j < S.length) : w.cell? ⟨g, j, none⟩ = some (pt (S.getD j 0)) := by
  rw [h.cell (i := j) (by rw [mid_len]; exact hj), mid_at _ _ _ hj, if_neg (by omega), if_neg (by omega)]

/-- What is known behind the deletion of the one task with a number, that stands at k: only the row has changed. -/
def Gone (B : Nat) (S : List Nat) (k g : Nat) (w : World) (e : Ending) (w' : World) : Prop := ∃ n c, e = .returned (.slice (some ⟨g, 0, none⟩) n c) ∧ RowAt w' B (.slice (some ⟨g, 0, none⟩) n c) (S.eraseIdx k) ∧ Only (· = g) w w'

set_option maxRecDepth 100000 in
set_option maxHeartbeats 2000000 in
theorem delete_num (g m c Bx base k : Nat) (f : Nat → Int) (t : Int) (S : List Nat) (w : World) (h : RowAt w base (.slice (some ⟨g, 0, none⟩) (m + 1) c) S) (hn : S.length = m + 1) (hf : ∀ x ∈ S, w.cell? ⟨x, 0, none⟩ = some (.int .i64 (f x))) (hfg : ∀ x ∈ S, x ≠ g) (hB : w.cell? ⟨Bx, 0, none⟩ = some (.int .i64 t)) (hBg : Bx ≠ g)
    (hk : k < m + 1) (hkt : f (S.getD k 0) = t) (hone : ∀ j, j < m + 1 → f (S.getD j 0) = t → j = k) :
    Calls Tryz.prog 33 #[.slice (some ⟨g, 0, none⟩) (m + 1) c, .func (.func 34) #[] #[.pointer (some ⟨Bx, 0, none⟩)]] w (Gone base S k g w) := by
  have HI := Lib.hid (show Calls Tryz.prog 64 #[.slice (some ⟨g, 0, none⟩) (m + 1) c, .func (.func 34) #[] #[.pointer (some ⟨Bx, 0, none⟩)]] w (fun e w' => e = .returned (.int .i64 k) ∧ Only (fun _ => False) w w') from
    (index_num (some ⟨g, 0, none⟩) (m + 1) c Bx base f t S w h hn hf hB).mono (fun e w' hh => by
      obtain ⟨⟨k', rfl, h1, h2⟩ | ⟨rfl, hno⟩, hO⟩ := hh
      · rw [hone k' (by omega) h2]; exact ⟨rfl, hO⟩
      · exact absurd hkt (hno k (by omega))))
  have HH := Lib.hid h
  have hmem : ∀ j, j < m + 1 → S.getD j 0 ∈ S := fun j hj => by
    have hl : j < S.length := by rw [hn]; exact hj
    rw [List.getD_eq_getElem?_getD, List.getElem?_eq_getElem hl]; exact List.getElem_mem hl
  have HF := Lib.hid (fun (W : World) (j : Nat) (hj : j < m + 1) (hO : Only (· = g) w W) => show W.cell? ⟨S.getD j 0, 0, none⟩ = some (.int .i64 (f (S.getD j 0))) from by
    have := hf _ (hmem j hj)
    rw [Pr.cell_kept hO (block_lt this) (hfg _ (hmem j hj))]; exact this)
  have HBX := Lib.hid (fun (W : World) (hO : Only (· = g) w W) => show W.cell? ⟨Bx, 0, none⟩ = some (.int .i64 t) from by
    rw [Pr.cell_kept hO (block_lt hB) hBg]; exact hB)
  have HN := Lib.hid hn
  have HONE := Lib.hid hone
  have HKT := Lib.hid hkt
  obtain ⟨-, hc1, hc2, -, -⟩ := h.there
  have hk0 : ((k : Int) == -1) = false := not_val (by omega)
  have HK3 := Lib.hid (show k + 1 ≤ m + 1 by omega)
  have hk5 : (k : Int) + 1 ≤ 9223372036854775807 := by omega
  have hw : wrap64 ((k : Int) + 1) = (k : Int) + 1 := IntWalk.wrap64_in _ (by omega)
  clear h hn hf hfg hB hBg hkt hone hmem
  go_enter Tryz.func33, Tryz.ntmps33
  go_wp2_with (go_at_call 64; (with_reducible refine HI.out.mono ?_); rintro e w1 ⟨rfl, hO1⟩; have HO1 := Lib.hid hO1; clear hO1)
  clear hw
  go_loopw [5, 6] (fun i j wr => ∃ jj : Nat, k < jj ∧ jj ≤ m + 1 ∧ j = .int .i64 jj ∧ i = .int .i64 ((jj - 1 : Nat) : Int) ∧ RowAt wr base (.slice (some ⟨g, 0, none⟩) (m + 1) c) (mid S k jj) ∧ Only (· = g) w wr) (fun _ j _ => m + 1 - (intOf j).toNat)
  case atStart => exact ⟨k + 1, by omega, HK3.out, by go_num, by go_num, by rw [mid_start]; exact HH.out.later HO1.out, HO1.out.mono (fun _ _ e => e.elim)⟩
  case round =>
    obtain ⟨j, hkj, hj, rfl, rfl, hR, hO⟩ := hrel
    have HR := Lib.hid hR
    have HO := Lib.hid hO
    clear hR hO
    obtain ⟨i, hi⟩ : ∃ i, j - 1 = i := ⟨_, rfl⟩
    have hij : j = i + 1 := by omega
    rw [hi]
    by_cases hlt : j < m + 1
    · have c0 := HR.out.mid_cell hkj (by rw [HN.out]; exact hlt)
      have KA := Lib.hid (fun (W : World) (hW : Only (fun _ => False) wr W) => asks_num (S.getD j 0) Bx (f (S.getD j 0)) t W (HF.out W j hlt (HO.out.trans hW (fun _ _ e => e.elim))) (HBX.out W (HO.out.trans hW (fun _ _ e => e.elim))))
      have hv : (f (S.getD j 0) == t) = false := not_val (fun e => by have := HONE.out j hlt e; omega)
      rw [hv] at KA
      have HSET := Lib.hid (fun (W : World) (hW : Only (fun _ => False) wr W) => show (∃ o, W.cell? ⟨g, i, none⟩ = some o) ∧ W.frozen? ⟨g, i, none⟩ = false ∧ RowAt (W.setCell ⟨g, i, none⟩ (pt (S.getD j 0))) base (.slice (some ⟨g, 0, none⟩) (m + 1) c) (mid S k (j + 1)) ∧ Only (· = g) w (W.setCell ⟨g, i, none⟩ (pt (S.getD j 0))) from by
        obtain ⟨s1, s2, s3⟩ := (HR.out.later hW).set (i := i) (by omega) (S.getD j 0)
        refine ⟨Option.isSome_iff_exists.1 s1, s2, ?_, (HO.out.trans hW (fun _ _ e => e.elim)).setCell (p := ⟨g, i, none⟩) rfl _⟩
        rw [← mid_next S hkj (by rw [HN.out]; exact hlt), hi]; exact s3)
      generalize S.getD j 0 = y at *
      unfold pt at *
      have g1 : (j : Int) < (m : Int) + 1 := by omega
      have g2 : (0 : Int) ≤ j := by omega
      have g3 : (i : Int) < (m : Int) + 1 := by omega
      have g4 : j ≤ m := by omega
      have HIJ := Lib.hid hij
      clear hv hij hi
      go_wp2_with (go_at_call 34; (with_reducible refine (KA.out _ (Only.refl _ _)).mono ?_); rintro e w2 ⟨rfl, hO2⟩; obtain ⟨⟨o, hco⟩, hfz, h3, h4⟩ := HSET.out w2 hO2; have H3 := Lib.hid h3; have H4 := Lib.hid h4; clear h3 h4 hO2)
      go_roundw
      case rel => exact ⟨j + 1, by omega, by omega, by go_num, by have := HIJ.out; go_num, H3.out, H4.out⟩
      case measure => simp [intOf]; omega
    · have hjm : j = m + 1 := by omega
      have him : i = m := by omega
      subst hjm
      subst him
      obtain ⟨s1, s2, s3, s4⟩ := HR.out.cut
      have HC := Lib.hid (fun ty => run_clear wr ty g i (c - i) s1 s2)
      have HG := Lib.hid (show Gone base S k g w (.returned (.slice (some ⟨g, 0, none⟩) i c)) (wr.setCells g i [.pointer none]) from ⟨i, c, rfl, by
        have := mid_end S (k := k) (m := i) HN.out (by omega)
        rw [this] at s3; exact s3, HO.out.trans s4 (fun _ _ h => h)⟩)
      have hcl := HC.out
      have g4 : i ≤ c := by omega
      clear s1 s2 s3 s4 HC
      go_wp2_with fail
      go_ret
      exact HG.out

theorem delete_miss (a : Option Addr) (n c Bx base : Nat) (f : Nat → Int) (t : Int) (S : List Nat) (w : World) (h : RowAt w base (.slice a n c) S) (hn : S.length = n) (hf : ∀ x ∈ S, w.cell? ⟨x, 0, none⟩ = some (.int .i64 (f x))) (hB : w.cell? ⟨Bx, 0, none⟩ = some (.int .i64 t))
    (hno : ∀ j, j < n → f (S.getD j 0) ≠ t) :
    Calls Tryz.prog 33 #[.slice a n c, .func (.func 34) #[] #[.pointer (some ⟨Bx, 0, none⟩)]] w (fun e w' => e = .returned (.slice a n c) ∧ Only (fun _ => False) w w') := by
  have HI := Lib.hid (show Calls Tryz.prog 64 #[.slice a n c, .func (.func 34) #[] #[.pointer (some ⟨Bx, 0, none⟩)]] w (fun e w' => e = .returned (.int .i64 (-1)) ∧ Only (fun _ => False) w w') from
    (index_num a n c Bx base f t S w h hn hf hB).mono (fun e w' hh => by
      obtain ⟨⟨k', rfl, h1, h2⟩ | ⟨rfl, -⟩, hO⟩ := hh
      · exact absurd h2 (hno k' (by omega))
      · exact ⟨rfl, hO⟩))
  clear h hn hf hB hno
  go_enter Tryz.func33, Tryz.ntmps33
  go_wp2_with (go_at_call 64; (with_reducible refine HI.out.mono ?_); rintro e w1 ⟨rfl, hO1⟩; have HO1 := Lib.hid hO1; clear hO1)
  go_ret
  exact ⟨rfl, HO1.out⟩
end Go.Proofs.YtckaebpcghaobaaGreat.Pt
/- The statements' fairs and fairBegun. -/
namespace Go.Proofs.YtckaebpcghaobaaGreat.Fr
open Go.ChangeShapes Go.WideShapes Go.ChangeAt Go.RowKit Go.Maps
open Go.Proofs.YtckaebpcghaobaaGreat.Vt
set_option linter.unusedVariables false

/-- The weight that a number stands for. -/
def wOf (x : Int) : Int := 1 + restOf x 100
theorem wOf_ok (x : Int) : isW (wOf x) = true := by
  have := restOf_lo x 100 (by omega); have := restOf_hi x 100 (by omega)
  unfold isW wOf; exact decide_eq_true (by omega)
theorem wOf_bd (x : Int) : 1 ≤ wOf x ∧ wOf x ≤ 100 := isW_yes (wOf_ok x)
theorem costOf_lo {x : Int} (h : isW x = true) : 10485 ≤ costOf x := by
  obtain ⟨h1, h2⟩ := isW_yes h
  unfold costOf
  rw [Int.le_ediv_iff_mul_le (by omega)]
  omega
theorem costOf_ok {x : Int} (h : isW x = true) : 10485 ≤ costOf x ∧ costOf x ≤ 1048576 := ⟨costOf_lo h, (costOf_bd h).2⟩

/-- What a tick costs task t, of the numbers xs. -/
def cw (xs : List Int) (t : Nat) : Int := costOf (wOf (xs.getD (t - 1) 0))
theorem cw_bd (xs : List Int) (t : Nat) : 10485 ≤ cw xs t ∧ cw xs t ≤ 1048576 := costOf_ok (wOf_ok _)

/-- The tasks of the numbers xs, as far as k, ere any tick. -/
def bareT (xs : List Int) (k : Nat) : Tks := mkT k (cw xs) (fun _ => 0)

theorem bare_add (xs : List Int) {k : Nat} (hk : k < 16) : addT (bareT xs k) noG (k + 1) (costOf (wOf (xs.getD k 0))) 0 = bareT xs (k + 1) ∧ addG (bareT xs k) noG (k + 1) (costOf (wOf (xs.getD k 0))) 0 = noG :=
  mkT_add hk (by simp [cw])

theorem only_new {a b c : World} {p : Nat} (h : Only (fun _ => False) a b) (k : Only (fun k => k = p) b c) (hp : a.heap.size ≤ p) : Only (fun _ => False) a c := h.trans k (fun x h1 h2 => by subst h2; omega)

theorem add_next {w : World} {p : Nat} {T : Tks} {G : Grs} (h : FairAt w p 0 60 T G) (k : Nat) (x : Int) (hx : isW x = true) (h2 : k + 1 ≤ 16) (hc : (T (k + 1)).c = 0) :
    Calls Tryz.prog 23 #[.pointer (some ⟨p, 0, none⟩), .int .i64 ((k : Int) + 1), .int .i64 x, .int .i64 0] w (FKeep w p 0 60 (.int .i64 0) (addT T G (k + 1) (costOf x) 0) (addG T G (k + 1) (costOf x) 0)) :=
  add_yes h (k + 1) x 0 hx (by omega) h2 (by omega) hc (Or.inl rfl)

/-- The first two ticks of two tasks that weigh the same. -/
theorem two_ticks : next (bareT [0, 0] 2) noG = (1, 0) ∧ next (tickT (bareT [0, 0] 2) 1) noG = (2, 0) ∧ tickG (bareT [0, 0] 2) noG 1 = noG := by
  unfold bareT
  refine ⟨?_, ?_, mkT_tickG (by omega) (by omega)⟩
  · rw [mkT_next (by omega) (by omega), mkT_first_is 1 (by omega) (by omega) (by omega) (fun t h1 h2 => Or.inr ⟨rfl, h1⟩)]
  · rw [mkT_tick (by omega) (by omega), mkT_next (by omega) (by omega), mkT_first_is 2 (by omega) (by omega) (by omega) ?_]
    · rfl
    · intro t h1 h2
      rcases (show t = 1 ∨ t = 2 by omega) with rfl | rfl
      · left; decide
      · right; exact ⟨rfl, by omega⟩

theorem bare_fit (xs : List Int) {m : Nat} (hm : m ≤ 16) : Fit (bareT xs m) noG 0 :=
  mkT_fit hm (fun t _ _ => by have := cw_bd xs t; omega) (fun t _ _ => by simp) (by omega)

theorem tick_is {w : World} {p : Nat} {T T' : Tks} {G G' : Grs} {B : Int} {n : Nat} {v k : Int} (h : FairAt w p 0 60 T G) (hb : Fit T G B) (hB : B ≤ 9000000000000000000) (hn : next T G = (n, v)) (h0 : n ≠ 0) (hk : (n : Int) = k) (eT : tickT T n = T') (eG : tickG T G n = G') :
    Calls Tryz.prog 27 #[.pointer (some ⟨p, 0, none⟩)] w (FKeep w p 0 60 (.tuple #[.int .i64 k, .int .i64 0]) T' G') := by
  subst hk eT eG
  have := tick_yes h hb hB (by rw [hn]; exact h0)
  rwa [hn] at this

end Go.Proofs.YtckaebpcghaobaaGreat.Fr
/- The reference's list of tasks of fair shares: one less, by its number. -/
namespace Go.Proofs.YtckaebpcghaobaaGreat.Fr
open Go.ChangeShapes Go.WideShapes Go.ChangeAt Go.RowKit Go.Maps
open Go.Proofs.YtckaebpcghaobaaGreat.Vt Go.Proofs.YtckaebpcghaobaaGreat.Pt
set_option linter.unusedVariables false

theorem map_del {α β : Type} (f : α → β) : ∀ (l : List α) (k : Nat), (l.map f).eraseIdx k = (l.eraseIdx k).map f
  | [], k => rfl
  | a :: l, 0 => rfl
  | a :: l, k + 1 => by simp only [List.map_cons, List.eraseIdx_cons_succ, map_del f l k]
theorem nodup_inj {l : List Nat} (h : l.Nodup) {i j : Nat} (hi : i < l.length) (hj : j < l.length) (e : l[i] = l[j]) : i = j := by
  have h := List.pairwise_iff_getElem.1 h
  rcases Nat.lt_trichotomy i j with c | c | c
  · exact absurd e (h i j hi hj c)
  · exact c
  · exact absurd e.symm (h j i hj hi c)

/-- A task is not there any more. -/
def outT (T : Tks) (t : Nat) : Tks := if (T t).c = 0 then T else upd T t ⟨0, 0, 0, false⟩

section
variable {B : Nat} {w w5 : World} {q o D : Nat} {L : List (Nat × Nat)} {T : Tks} {G : Grs} {W GW : Nat → Int}

theorem Same.in_c (hs : Same L T G W GW) {x : Nat × Nat} (hx : x ∈ L) : (T x.2).c ≠ 0 := by
  have h1 := hs.wt x hx
  have := costOf_lo h1.1
  omega

/-- The class with its list cut, or none, the row stored anew. -/
theorem RefAt.row_set (h : RefAt B w q o D L T G W GW) {L2 : List (Nat × Nat)} {T2 : Tks} {V V5 : Value} (hV : w.cell? ⟨q, o, none⟩ = some V) (hr : RowAt w5 B V5 (L2.map (·.1))) (hO : Only (fun k => V.ownBlock = some k) w w5) (hg : ∀ g, V5.ownBlock = some g → V.ownBlock = some g)
    (hL : L2.Sublist L) (hT : ∀ x ∈ L2, T2 x.2 = T x.2) :
    w5.cell? ⟨q, o, none⟩ = some V ∧ w5.frozen? ⟨q, o, none⟩ = false ∧ RefAt B (w5.setCell ⟨q, o, none⟩ V5) q o D L2 T2 G W GW ∧ Only (fun k => k = q ∨ V.ownBlock = some k) w (w5.setCell ⟨q, o, none⟩ V5) := by
  obtain ⟨⟨cs, V', h1, h2, h3, h4⟩, h5, h6, h7, h8, h9⟩ := h
  have hVV : V' = V := by have := cell_at h1 o; rw [hV, h2.v] at this; exact (Option.some.inj this).symm
  subst hVV
  have hsub : ∀ x ∈ L2, x ∈ L := fun x hx => hL.subset hx
  have q1 : w5.heap[q]? = some (.cells cs D (0, 0)) := (hO.block q (block_there h1) (fun e => (h4 q e).1 rfl)).trans h1
  have oq : Only (fun k => k = q) w5 (w5.setCell ⟨q, o, none⟩ V5) := (Only.refl (fun k => k = q) w5).setCell (p := ⟨q, o, none⟩) rfl _
  refine ⟨by rw [cell_at q1]; exact h2.v, frozen_at q1 o, ⟨⟨_, V5, heap_setCell_same w5 q o cs _ _ q1, ?_, ?_, ?_⟩, ?_, ⟨h6.1, fun x hx => h6.2 x (hsub x hx)⟩, fun x hx => h7 x (hsub x hx), (hL.map _).nodup h8, (hL.map _).nodup h9⟩, ?_⟩
  · have hs := h2.size
    refine ⟨by simp [hs], by rw [Array.getElem?_setIfInBounds, if_pos rfl, if_pos (by omega)], fun k hk => ?_, fun k hk => ?_, fun k hk => ?_⟩
    · rw [Array.getElem?_setIfInBounds, if_neg (by omega)]; exact h2.is k hk
    · rw [Array.getElem?_setIfInBounds, if_neg (by omega)]; exact h2.gw k hk
    · rw [Array.getElem?_setIfInBounds, if_neg (by omega)]; exact h2.gv k hk
  · exact hr.keep oq (fun k hk e => (h4 k (hg k hk)).1 e)
  · intro k hk
    exact ⟨(h4 k (hg k hk)).1, fun x hx => (h4 k (hg k hk)).2 x (hsub x hx)⟩
  · intro x hx
    rw [hT x hx]
    have hx5 := (hO.block x.1 (block_there (h5 x (hsub x hx))) (fun e => (h4 x.1 e).2 x (hsub x hx) rfl)).trans (h5 x (hsub x hx))
    exact (oq.block x.1 (block_there hx5) (h7 x (hsub x hx))).trans hx5
  · have o1 : Only (fun k => k = q ∨ V'.ownBlock = some k) w w5 := hO.mono (fun k _ e => Or.inr e)
    exact o1.trans oq (fun k hk e => Or.inl e)

/-- What is known behind the delete, ahead of the store. -/
def Cut (B q o D : Nat) (V : Value) (t : Nat) (T : Tks) (G : Grs) (W GW : Nat → Int) (w : World) (e : Ending) (w' : World) : Prop := ∃ v1 v2 v3 L2, e = .returned (.slice v1 v2 v3) ∧ w'.cell? ⟨q, o, none⟩ = some V ∧ w'.frozen? ⟨q, o, none⟩ = false ∧ RefAt B (w'.setCell ⟨q, o, none⟩ (.slice v1 v2 v3)) q o D L2 (outT T t) G W GW ∧ Same L2 (outT T t) G W GW ∧ Only (fun k => k = q ∨ V.ownBlock = some k) w (w'.setCell ⟨q, o, none⟩ (.slice v1 v2 v3)) ∧ Only (fun k => V.ownBlock = some k) w w'

theorem del_any (h : RefAt B w q o D L T G W GW) (hs : Same L T G W GW) (t : Nat) (ht : t < 17) {V : Value} (hV : w.cell? ⟨q, o, none⟩ = some V) {Bx : Nat} (hB : w.cell? ⟨Bx, 0, none⟩ = some (.int .i64 t)) (hBg : V.ownBlock ≠ some Bx) :
    Calls Tryz.prog 33 #[V, .func (.func 34) #[] #[.pointer (some ⟨Bx, 0, none⟩)]] w (Cut B q o D V t T G W GW w) := by
  obtain ⟨V', e1, hrow, hap⟩ := h.slice
  have hVV : V' = V := by rw [hV] at e1; exact (Option.some.inj e1).symm
  subst hVV
  obtain ⟨f, hff⟩ := h.numbers
  have hf : ∀ x ∈ L.map (·.1), w.cell? ⟨x, 0, none⟩ = some (.int .i64 ((fun y => ((f y : Nat) : Int)) x)) := fun x hx => by
    obtain ⟨⟨b, k⟩, hy, rfl⟩ := List.mem_map.1 hx
    have := h.tn hy
    rw [this]
    exact congrArg (fun z : Nat => some (Value.int .i64 (z : Int))) (hff _ hy).symm
  have gd : ∀ j (hj : j < L.length), (L.map (·.1)).getD j 0 = L[j].1 := fun j hj => by
    rw [List.getD_eq_getElem?_getD, List.getElem?_map, List.getElem?_eq_getElem hj]; rfl
  have fd : ∀ j (hj : j < L.length), f ((L.map (·.1)).getD j 0) = L[j].2 := fun j hj => by rw [gd j hj]; exact hff _ (List.getElem_mem hj)
  by_cases hc : (T t).c = 0
  · have eT : outT T t = T := by unfold outT; rw [if_pos hc]
    obtain ⟨a, c, rfl, -, -, -⟩ := hrow.shape (n := L.length) (by simp)
    refine (Pt.delete_miss a L.length c Bx B _ t (L.map (·.1)) w hrow (by simp) hf hB (fun j hj e => ?_)).mono ?_
    · have e2 := fd j hj
      have := hs.in_c (List.getElem_mem hj)
      rw [← e2, show f ((L.map (·.1)).getD j 0) = t from by have e : ((f ((L.map (·.1)).getD j 0) : Nat) : Int) = t := e; omega] at this
      exact this hc
    · rintro e w' ⟨rfl, hO⟩
      obtain ⟨k1, k2, k3, k4⟩ := h.row_set (L2 := L) (T2 := T) hV (hrow.later hO) (hO.mono (fun _ _ e => e.elim)) (fun _ e => e) (List.Sublist.refl L) (fun x _ => rfl)
      unfold Cut
      rw [eT]
      exact ⟨_, _, _, L, rfl, k1, k2, k3, hs, k4, hO.mono (fun _ _ e => e.elim)⟩
  · have eT : outT T t = upd T t ⟨0, 0, 0, false⟩ := by unfold outT; rw [if_neg hc]
    obtain ⟨b, hb⟩ := hs.all t ht hc
    obtain ⟨k, hk, hkb⟩ := List.getElem_of_mem hb
    obtain ⟨m, hm⟩ : ∃ m, L.length = m + 1 := ⟨L.length - 1, by omega⟩
    obtain ⟨g, c, rfl, -, -, -, -, hrow2⟩ := hrow.at_block (n := m + 1) (by simp [hm]) (by omega)
    have one : ∀ j (hj : j < L.length), L[j].2 = t → j = k := fun j hj e => by
      refine nodup_inj h.nums (i := j) (j := k) (by simpa using hj) (by simpa using hk) ?_
      simp only [List.getElem_map]
      rw [e, hkb]
    refine (Pt.delete_num g m c Bx B k _ t (L.map (·.1)) w hrow2 (by simp [hm]) hf (fun x hx e => ?_) hB (fun e => hBg (by rw [e]; rfl)) (by omega) ?_ (fun j hj e => one j (by omega) ?_)).mono ?_
    · obtain ⟨y, hy, rfl⟩ := List.mem_map.1 hx
      exact (hap g rfl).2 y hy e.symm
    · show ((f ((L.map (·.1)).getD k 0) : Nat) : Int) = t
      rw [fd k hk, hkb]
    · have := fd j (by omega)
      have e : ((f ((L.map (·.1)).getD j 0) : Nat) : Int) = t := e
      omega
    · rintro e w' ⟨n5, c5, rfl, hr, hO⟩
      rw [map_del] at hr
      have hne : ∀ x ∈ L.eraseIdx k, x.2 ≠ t := fun x hx e => by
        obtain ⟨i, hi, hik, rfl⟩ := List.mem_eraseIdx_iff_getElem.1 hx
        exact hik (one i hi e)
      obtain ⟨k1, k2, k3, k4⟩ := h.row_set (L2 := L.eraseIdx k) (T2 := upd T t ⟨0, 0, 0, false⟩) hV hr (hO.mono (fun x _ e => by show some g = some x; rw [e])) (fun _ e => e) (List.eraseIdx_sublist L k) (fun x hx => upd_other _ _ (hne x hx))
      unfold Cut
      rw [eT]
      refine ⟨_, _, _, L.eraseIdx k, rfl, k1, k2, k3, ?_, k4, hO.mono (fun x _ e => by show some g = some x; rw [e])⟩
      have sub : ∀ x ∈ L.eraseIdx k, x ∈ L := fun x hx => (List.eraseIdx_sublist L k).subset hx
      refine ⟨fun x hx => hs.num x (sub x hx), fun j hj hcj => ?_, fun x hx => ?_, hs.gw, hs.g0, fun x hx => ?_⟩
      · by_cases e : j = t
        · subst e; rw [upd_same] at hcj; exact absurd rfl hcj
        · rw [upd_other _ _ e] at hcj
          obtain ⟨b', hb'⟩ := hs.all j hj hcj
          refine ⟨b', ?_⟩
          obtain ⟨i, hi, hib⟩ := List.getElem_of_mem hb'
          refine List.mem_eraseIdx_iff_getElem.2 ⟨i, hi, fun e2 => ?_, hib⟩
          subst e2
          rw [hib] at hkb
          exact e (congrArg Prod.snd hkb)
      · rw [upd_other _ _ (hne x hx)]; exact hs.wt x (sub x hx)
      · rw [upd_other _ _ (hne x hx)]; exact hs.tg x (sub x hx)
end
end Go.Proofs.YtckaebpcghaobaaGreat.Fr
