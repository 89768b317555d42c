/- The contract of swap. -/
import Derived.Test.YtiodfpoaakcejaaHRep
namespace Go.Proofs.Ytiodfpoaakcejaa.Hp
open Go.ChangeShapes Go.WideShapes Go.ChangeAt Go.RowKit Go.Maps
set_option linter.unusedVariables false

theorem take_set {α : Type} (l : List α) (n i : Nat) (v : α) (h : i < n) : (l.set i v).take n = (l.take n).set i v := by
  rw [List.take_set]

/-- An item stored: the row behind it. -/
theorem row_set {w : World} {g n cap i : Nat} {L : List (Int × Int)} {x : Int × Int} (ho : w.ownsRow 0 79 2 (.slice (some ⟨g, 0, none⟩) n cap) n (cellsOf L)) (hi : i < L.length) (hn : n = L.length) :
    ((w.setCell ⟨g, i * 2, none⟩ (.int .i64 x.1)).setCell ⟨g, i * 2 + 1, none⟩ (.int .i64 x.2)).ownsRow 0 79 2 (.slice (some ⟨g, 0, none⟩) n cap) n (cellsOf (L.set i x)) := by
  rcases ho with ⟨hl, ⟨h1, _⟩ | ⟨g', cap', cur, h1, hb, h2, h3, h4, h5, h6⟩⟩
  · cases h1
  · cases h1
    refine ⟨by rw [cellsOf_len, List.length_set, hn], Or.inr ⟨g, cap, _, rfl, hb, heap_setCell_same _ g _ _ 79 _ (heap_setCell_same _ g _ _ 79 _ h2), h3, h4, by simpa using h5, ?_⟩⟩
    rw [Array.toList_setIfInBounds, Array.toList_setIfInBounds, take_set _ _ _ _ (by omega), take_set _ _ _ _ (by omega), h6, cellsOf_set hi]

theorem only_item (w : World) (g i : Nat) (x : Int × Int) : Only (· = g) w ((w.setCell ⟨g, i * 2, none⟩ (.int .i64 x.1)).setCell ⟨g, i * 2 + 1, none⟩ (.int .i64 x.2)) :=
  ((Only.refl (S := fun k => k = g) w).setCell (p := ⟨g, i * 2, none⟩) rfl _).setCell (p := ⟨g, i * 2 + 1, none⟩) rfl _

/-- What is known of memory in the middle of an exchange: the items are exchanged, the map is as it was. -/
structure Mid (p o T : Nat) (F : Nat → Option Value) (g b cap : Nat) (w : World) (L K : List (Int × Int)) (D : DataW Unit) (w1 : World) : Prop where
  self : Host w1 p o T F (.slice (some ⟨g, 0, none⟩) L.length cap) (.map (some b))
  items : w1.ownsRow 0 79 2 (.slice (some ⟨g, 0, none⟩) L.length cap) L.length (cellsOf K)
  map : w1.ownsMap Try.prog 3 (plainElem Try.prog 3) b L.length D
  only : Only (fun k => k = g ∨ k = b) w w1

theorem Rep.apart_blocks {p o T : Nat} {F : Nat → Option Value} {g b cap : Nat} {w : World} {L : List (Int × Int)} (h : Rep p o T F g b cap w L) : p ≠ g ∧ p ≠ b ∧ g ≠ b := by
  obtain ⟨cur, h1, -⟩ := h.block
  obtain ⟨D, ⟨es, clock, h2, -⟩, -⟩ := h.map
  refine ⟨?_, ?_, ?_⟩
  · rintro rfl; exact h.self.not_item h1
  · rintro rfl; exact h.self.not_map h2 (fun _ _ _ q => by cases q)
  · rintro rfl; rw [h1] at h2; cases h2

theorem mid_one {p o T : Nat} {F : Nat → Option Value} {g b cap i : Nat} {w w0 : World} {L K : List (Int × Int)} {D : DataW Unit} {x : Int × Int} (h : Mid p o T F g b cap w0 L K D w) (hi : i < L.length) (hK : K.length = L.length) (hpg : p ≠ g) (hgb : g ≠ b) :
    Mid p o T F g b cap w0 L (K.set i x) D ((w.setCell ⟨g, i * 2, none⟩ (.int .i64 x.1)).setCell ⟨g, i * 2 + 1, none⟩ (.int .i64 x.2)) := by
  have hO := only_item w g i x
  refine ⟨?_, row_set h.items (by omega) hK.symm, (h.map.setCell (a := ⟨g, i * 2, none⟩) hgb.symm _).setCell (a := ⟨g, i * 2 + 1, none⟩) hgb.symm _, h.only.trans hO (fun _ _ e => Or.inl e)⟩
  exact h.self.moved (by rw [heap_setCell_other _ _ _ _ hpg, heap_setCell_other _ _ _ _ hpg])

/-- The first half of an exchange. -/
theorem mid_swap {p o T : Nat} {F : Nat → Option Value} {g b cap i j : Nat} {w : World} {L : List (Int × Int)} (h : Rep p o T F g b cap w L) (hi : i < L.length) (hj : j < L.length) :
    ∃ D, Placed D L ∧ Mid p o T F g b cap w L (swapL L i j) D ((((w.setCell ⟨g, i * 2, none⟩ (.int .i64 (it L j).1)).setCell ⟨g, i * 2 + 1, none⟩ (.int .i64 (it L j).2)).setCell ⟨g, j * 2, none⟩ (.int .i64 (it L i).1)).setCell ⟨g, j * 2 + 1, none⟩ (.int .i64 (it L i).2)).drew := by
  obtain ⟨D, hD, hP⟩ := h.map
  obtain ⟨h1, h2, h3⟩ := h.apart_blocks
  have m0 : Mid p o T F g b cap w L L D w := ⟨h.self, h.items, hD, Only.refl _ w⟩
  have m2 := mid_one (x := it L i) (mid_one (x := it L j) m0 hi rfl h1 h3) hj (by simp) h1 h3
  exact ⟨D, hP, ⟨m2.self, m2.items, m2.map, m2.only.drew⟩⟩

theorem row_cell {w : World} {g n cap : Nat} {K : List (Int × Int)} (ho : w.ownsRow 0 79 2 (.slice (some ⟨g, 0, none⟩) n cap) n (cellsOf K)) {i : Nat} (hi : i < K.length) :
    w.cell? ⟨g, i * 2, none⟩ = some (.int .i64 (it K i).1) ∧ w.cell? ⟨g, i * 2 + 1, none⟩ = some (.int .i64 (it K i).2) ∧ ∀ k, w.frozen? ⟨g, k, none⟩ = false := by
  rcases ho with ⟨hl, ⟨h1, _⟩ | ⟨g', cap', cur, h1, hb, h2, h3, h4, h5, h6⟩⟩
  · cases h1
  · cases h1
    have hc := cellsOf_at hi
    have hlen : i * 2 + 1 < n * 2 := by
      have := cellsOf_len K
      omega
    rw [← h6, List.getElem?_take_of_lt (by omega), List.getElem?_take_of_lt hlen] at hc
    rw [cell_at h2, cell_at h2]
    exact ⟨by simpa using hc.1, by simpa using hc.2, fun k => frozen_at h2 k⟩

/-- What is known behind an exchange, or behind whatever leaves a heap of other items at the same places of memory. -/
def Turned (p o T : Nat) (F : Nat → Option Value) (g b cap : Nat) (w : World) (P : List (Int × Int) → Prop) (e : Ending) (w' : World) : Prop :=
  e = .returned (.tuple #[]) ∧ ∃ L, P L ∧ Rep p o T F g b cap w' L ∧ Only (fun k => k = g ∨ k = b) w w'

theorem Mid.cells {p o T : Nat} {F : Nat → Option Value} {g b cap : Nat} {w w1 : World} {L K : List (Int × Int)} {D : DataW Unit} (h : Mid p o T F g b cap w L K D w1) :
    w1.cell? ⟨p, o, none⟩ = some (.slice (some ⟨g, 0, none⟩) L.length cap) ∧ w1.cell? ⟨p, o + 1, none⟩ = some (.map (some b)) := by
  exact ⟨h.self.c0, h.self.c1⟩

theorem only_turned {w w' : World} {b : Nat} (h : w.mapTurned w' b) : Only (· = b) w w' :=
  Only.of_grown (S := fun k => k = b) h.grown (fun k hk => by cases hk; rfl)

/-- A map written in the middle of an exchange. -/
theorem mid_map {p o T : Nat} {F : Nat → Option Value} {g b cap : Nat} {w w1 w2 : World} {L K : List (Int × Int)} {D D' : DataW Unit} {n : Nat} (h : Mid p o T F g b cap w L K D w1) (hp : p ≠ b) (hg : g ≠ b)
    (ho : w2.ownsMap Try.prog 3 (plainElem Try.prog 3) b n D') (ht : w1.mapTurned w2 b) (hs : Maps.size D' = L.length) : Mid p o T F g b cap w L K D' w2 := by
  have hO := only_turned ht
  refine ⟨h.self.moved (hO.block p h.self.there hp), owns_kept h.items hO (fun k hk e => ?_), hs ▸ own_tight ho, h.only.trans hO (fun _ _ e => Or.inr e)⟩
  cases hk; exact hg e

theorem Mid.drew {p o T : Nat} {F : Nat → Option Value} {g b cap : Nat} {w w1 : World} {L K : List (Int × Int)} {D : DataW Unit} (h : Mid p o T F g b cap w L K D w1) : Mid p o T F g b cap w L K D w1.drew := ⟨h.self, h.items, h.map, h.only.drew⟩

theorem size_one {D : DataW Unit} {L : List (Int × Int)} (h : Placed D L) {j : Nat} (hj : j < L.length) (i : Int) : Maps.size (D.put (key (it L j).1) (spot i)) = L.length := by
  rw [size_put h.tidy, if_pos (h.there j hj).1, h.size]

theorem spot_elem (i : Nat) (h : i ≤ 6000000000000) : plainElem (H := Unit) Try.prog 3 (.int .i64 (i : Int)) = some (spot i, []) := plainElem_int Try.underlying3 (i64_wf (by omega))

theorem wf_swap {L : List (Int × Int)} {i j : Nat} (hi : i < L.length) (hj : j < L.length) (h : ∀ i, i < L.length → (Lit.int .i64 (it L i).1).wf = true) : ∀ k, k < (swapL L i j).length → (Lit.int .i64 (it (swapL L i j) k).1).wf = true := by
  intro k hk
  rw [swapL_len] at hk
  rw [it_swap hi hj]
  split
  · exact h j hj
  · split
    · exact h i hi
    · exact h k hk

theorem rep_of_mid {p o T : Nat} {F : Nat → Option Value} {g b cap : Nat} {w w1 : World} {L K : List (Int × Int)} {D : DataW Unit} (hl : K.length = L.length) (h : Mid p o T F g b cap w L K D w1) (hP : Placed D K) (ha : Apart K)
    (hw : ∀ k, k < K.length → (Lit.int .i64 (it K k).1).wf = true) (hn : L.length ≤ 6000000000000) : Rep p o T F g b cap w1 K :=
  ⟨by rw [hl]; exact h.self, by rw [hl]; exact h.items, ⟨D, by rw [hl]; exact h.map, hP⟩, ha, hw, by omega⟩

set_option maxRecDepth 100000 in
set_option maxHeartbeats 1000000 in
theorem swap_any (p o T : Nat) (F : Nat → Option Value) (g b cap i j : Nat) (L : List (Int × Int)) (w : World) (h : Rep p o T F g b cap w L) (hi : i < L.length) (hj : j < L.length) :
    Calls Try.prog 48 #[.pointer (some ⟨p, o, none⟩), .int .i64 i, .int .i64 j] w (Turned p o T F g b cap w (fun K => K = swapL L i j)) := by
  obtain ⟨D, hP, hM⟩ := mid_swap h hi hj
  have HM := Lib.hid hM
  have HP := Lib.hid hP
  have HR := Lib.hid h
  have c0 : w.cell? ⟨p, o, none⟩ = some (.slice (some ⟨g, 0, none⟩) L.length cap) := h.self.c0
  have c1 : w.cell? ⟨p, o + 1, none⟩ = some (.map (some b)) := h.self.c1
  obtain ⟨x0, x1, hgf⟩ := row_cell h.items hi
  obtain ⟨y0, y1, -⟩ := row_cell h.items hj
  have hln := h.len
  clear h hP hM
  have e1 : (i : Int) < L.length := by omega
  have e2 : (j : Int) < L.length := by omega
  have e3 : (0 : Int) ≤ i := by omega
  have e4 : (0 : Int) ≤ j := by omega
  obtain ⟨v1, z1⟩ : ∃ v1, (w.setCell ⟨g, i * 2, none⟩ (.int .i64 (it L j).1)).cell? ⟨g, j * 2, none⟩ = some v1 := cell?_setCell_some y0
  obtain ⟨v2, z2⟩ : ∃ v2, ((w.setCell ⟨g, i * 2, none⟩ (.int .i64 (it L j).1)).setCell ⟨g, i * 2 + 1, none⟩ (.int .i64 (it L j).2)).cell? ⟨g, j * 2 + 1, none⟩ = some v2 := by
    obtain ⟨u, hu⟩ := cell?_setCell_some (p := ⟨g, i * 2, none⟩) (x := .int .i64 (it L j).1) y1
    exact cell?_setCell_some hu
  go_enter Try.func48, Try.ntmps48
  go_upto_region 1 with fail
  go_cut [0, 1, 2] (fun s0 s1 s2 wx => s0 = .pointer (some ⟨p, o, none⟩) ∧ s1 = .int .i64 i ∧ s2 = .int .i64 j ∧ Mid p o T F g b cap w L (swapL L i j) D wx)
  case first =>
    go_region
    all_goals (go_wp2; go_meet; exact ⟨rfl, rfl, rfl, HM.out⟩)
  case rest =>
    obtain ⟨rfl, rfl, rfl, hm⟩ := hcut
    clear c0 c1 x0 x1 y0 y1 z1 z2 hgf
    have hm2 := hm.drew
    obtain ⟨c0, c1⟩ := hm2.cells
    obtain ⟨x0, -⟩ := row_cell hm2.items (i := i) (by rw [swapL_len]; exact hi)
    have HM2 := Lib.hid hm2
    have hkey : keyOf Try.prog 3 (.int .i64 (it (swapL L i j) i).1) = some (key (it L j).1) := by
      rw [it_swap hi hj, if_pos rfl]
      exact keyOf_int_mk Try.underlying3 (HR.out.wf j hj)
    have hval := spot_elem i (by omega)
    have hB := HR.out.apart_blocks.2
    go_upto_region 2 with fail
    go_cut [0, 1, 2] (fun s0 s1 s2 wx => s0 = .pointer (some ⟨p, o, none⟩) ∧ s1 = .int .i64 i ∧ s2 = .int .i64 j ∧ Mid p o T F g b cap w L (swapL L i j) (D.put (key (it L j).1) (spot i)) wx)
    case first =>
      refine wp_region_still_tail 13 (by kernel_rfl) (by kernel_rfl) ?_
      show wpStill _ _ wc.drew (fun a' => wpList _ _ _ _ a' wc.drew) _ _
      generalize wc.drew = w2 at *
      simp only [List.take_succ_cons, List.take_zero, List.drop_succ_cons, List.drop_zero]
      repeat still_step
      refine wpStill_nil ?_
      go_wp2_with (at_mapUpdate; refine wpList_mapUpdate_in _ rfl _ _ _ 59 rfl 3 3 law3 Try.underlying59 _ b L.length D rfl HM2.out.map (by unfold maxLen; omega) _ _ _ rfl rfl hkey _ [] hval ?_; intro w3 hown3 hturn3)
      go_wp2
      go_meet
      exact ⟨rfl, rfl, rfl, mid_map HM2.out hB.1 hB.2 hown3 hturn3 (size_one HP.out hj i)⟩
    case rest =>
      clear hm2 HM2 c0 c1 x0 hkey hval hm
      obtain ⟨rfl, rfl, rfl, hm⟩ := hcut
      have hm2 := hm.drew
      obtain ⟨c0, c1⟩ := hm2.cells
      obtain ⟨x0, -⟩ := row_cell hm2.items (i := j) (by rw [swapL_len]; exact hj)
      have HM2 := Lib.hid hm2
      have hid : (it (swapL L i j) j).1 = (it L i).1 := by
        rw [it_swap hi hj]
        by_cases hji : j = i
        · subst hji; rw [if_pos rfl]
        · rw [if_neg hji, if_pos rfl]
      have hkey : keyOf Try.prog 3 (.int .i64 (it (swapL L i j) j).1) = some (key (it L i).1) := by
        rw [hid]
        exact keyOf_int_mk Try.underlying3 (HR.out.wf i hi)
      have hval := spot_elem j (by omega)
      have hP2 := placed_swap hi hj HR.out.apart HP.out
      have HP2 := Lib.hid hP2
      have HD := Lib.hid (show Maps.size ((D.put (key (it L j).1) (spot i)).put (key (it L i).1) (spot j)) = L.length by rw [hP2.size, swapL_len])
      clear hP2 hid
      go_upto_region 3 with fail
      refine wp_region_still_tail 13 (by kernel_rfl) (by kernel_rfl) ?_
      show wpStill _ _ wc.drew (fun a' => wpList _ _ _ _ a' wc.drew) _ _
      generalize wc.drew = w2 at *
      simp only [List.take_succ_cons, List.take_zero, List.drop_succ_cons, List.drop_zero]
      repeat still_step
      refine wpStill_nil ?_
      go_wp2_with (at_mapUpdate; refine wpList_mapUpdate_in _ rfl _ _ _ 59 rfl 3 3 law3 Try.underlying59 _ b L.length _ rfl HM2.out.map (by unfold maxLen; omega) _ _ _ rfl rfl hkey _ [] hval ?_; intro w3 hown3 hturn3)
      go_wp2
      go_end0
      exact ⟨rfl, _, rfl, rep_of_mid (by rw [swapL_len]) (mid_map HM2.out hB.1 hB.2 hown3 hturn3 HD.out) HP2.out (apart_swap hi hj HR.out.apart) (wf_swap hi hj HR.out.wf) hln, (mid_map HM2.out hB.1 hB.2 hown3 hturn3 HD.out).only⟩
end Go.Proofs.Ytiodfpoaakcejaa.Hp
