/- The contracts of settle and remove. -/
import Derived.Test.YtiodfpoaakcejaaHDel
namespace Go.Proofs.Ytiodfpoaakcejaa.Hp
open Go.ChangeShapes Go.WideShapes Go.ChangeAt Go.RowKit Go.Maps
set_option linter.unusedVariables false

theorem settle_any (p o T : Nat) (F : Nat → Option Value) (g b cap i : Nat) (L : List (Int × Int)) (w : World) (h : Rep p o T F g b cap w L) (hi : i < L.length) (hR : RiseOk L i i) :
    Calls Try.prog 50 #[.pointer (some ⟨p, o, none⟩), .int .i64 i] w (Turned p o T F g b cap w (fun K => K.Perm L ∧ Ordered K)) := by
  have HR := Lib.hid h
  have H0 := Lib.hid hR
  clear h hR
  go_enter Try.func50, Try.ntmps50
  go_wp2_with (first
    | (go_at_call 40; refine (rise_any p o T F g b cap i L _ HR.out hi H0.out).mono ?_; rintro e w1 ⟨rfl, L1, ⟨hp1, hs1⟩, hr1, ho1⟩; have HP1 := Lib.hid hp1; have HS1 := Lib.hid hs1; have HR1 := Lib.hid hr1; have HO1 := Lib.hid ho1; clear hp1 hs1 hr1 ho1)
    | (go_at_call 72; refine (sink_any p o T F g b cap i L1 _ HR1.out (by rw [HP1.out.length_eq]; exact hi) HS1.out).mono ?_; rintro e w2 ⟨rfl, L2, ⟨hp2, hs2⟩, hr2, ho2⟩; have HP2 := Lib.hid hp2; have HS2 := Lib.hid hs2; have HR2 := Lib.hid hr2; have HO2 := Lib.hid ho2; clear hp2 hs2 hr2 ho2))
  go_end0
  exact ⟨rfl, L2, ⟨HP2.out.trans HP1.out, HS2.out⟩, HR2.out, HO1.out.trans HO2.out (fun _ _ e => e)⟩

/-- The map without the id of the last item. -/
theorem placed_drop {D : DataW Unit} {L : List (Int × Int)} {n : Nat} (hn : L.length = n + 1) (ha : Apart L) (h : Placed D L) : Placed (D.del (key (it L n).1)) (L.take n) := by
  have hl : (L.take n).length = n := by simp; omega
  have hit : ∀ k, k < n → it (L.take n) k = it L k := fun k hk => by simp [it, List.getD, hk]
  have hne : ∀ k, k < n → (it L k).1 ≠ (it L n).1 := fun k hk e => by have := ha k n (by omega) (by omega) e; omega
  refine ⟨h.tidy.del _, ?_, fun k hk => ?_, fun id hid => ?_⟩
  · have := size_del (k := key (it L n).1) h.tidy
    rw [if_pos (h.there n (by omega)).1, h.size] at this
    omega
  · rw [hl] at hk
    rw [hit k hk, has_del_other (key_ne (hne k hk))]
    refine ⟨(h.there k (by omega)).1, fun z => ?_⟩
    rw [atKey_del_other (key_ne (hne k hk))]
    exact (h.there k (by omega)).2 z
  · by_cases e : id = (it L n).1
    · subst e; rw [has_del_same] at hid; cases hid
    · rw [has_del_other (key_ne e)] at hid
      obtain ⟨k, hk, he⟩ := h.only id hid
      have : k ≠ n := by rintro rfl; exact e he.symm
      exact ⟨k, by omega, by rw [hit k (by omega)]; exact he⟩

theorem apart_take {L : List (Int × Int)} {n : Nat} (ha : Apart L) : Apart (L.take n) := by
  intro i j hi hj he
  simp at hi hj
  have hit : ∀ k, k < n → it (L.take n) k = it L k := fun k hk => by simp [it, List.getD, hk]
  rw [hit i (by omega), hit j (by omega)] at he
  exact ha i j (by omega) (by omega) he

theorem cellsOf_take (L : List (Int × Int)) (n : Nat) : (cellsOf L).take (n * 2) = cellsOf (L.take n) := by
  induction L generalizing n with
  | nil => simp [cellsOf]
  | cons x xs ih =>
    cases n with
    | zero => simp [cellsOf]
    | succ n =>
      have e : (n + 1) * 2 = n * 2 + 2 := by omega
      have := ih n
      rw [e]
      simpa [cellsOf] using this

/-- What is behind a swap with the last item and the cut of the last. -/
theorem removed_perm {L : List (Int × Int)} {i n : Nat} (hn : L.length = n + 1) (hi : i < L.length) : (it L i :: (swapL L i n).take n).Perm L := by
  have h1 := swap_perm hi (show n < L.length by omega)
  have h2 : swapL L i n = (swapL L i n).take n ++ [it L i] := by
    have h3 := List.take_append_drop n (swapL L i n)
    rw [List.drop_eq_getElem_cons (by rw [swapL_len]; omega), List.drop_eq_nil_of_le (by rw [swapL_len]; omega)] at h3
    have h4 : (swapL L i n)[n]'(by rw [swapL_len]; omega) = it L i := by
      rw [← it_eq, it_swap hi (by omega)]
      by_cases h : n = i
      · subst h; rw [if_pos rfl]
      · rw [if_neg h, if_pos rfl]
    rw [h4] at h3
    exact h3.symm
  refine List.Perm.trans ?_ h1
  conv => rhs; rw [h2]
  exact (List.perm_append_singleton _ _).symm

theorem removed_rise {L : List (Int × Int)} {i n : Nat} (ho : Ordered L) (hn : L.length = n + 1) (hi : i < n) : RiseOk ((swapL L i n).take n) i i := by
  have hl : ((swapL L i n).take n).length = n := by rw [List.length_take, swapL_len]; omega
  refine rise_of_change ho (by omega) (fun j hj hjl => ?_) (by omega)
  rw [hl] at hjl
  have hit : it ((swapL L i n).take n) j = it (swapL L i n) j := by simp [it, List.getD, hjl]
  rw [hit, it_swap (by omega) (by omega), if_neg hj, if_neg (by omega)]

theorem removed_order {L : List (Int × Int)} {n : Nat} (ho : Ordered L) (hn : L.length = n + 1) : Ordered ((swapL L n n).take n) := by
  have hl : ((swapL L n n).take n).length = n := by rw [List.length_take, swapL_len]; omega
  intro j hj hjl
  rw [hl] at hjl
  have hit : ∀ k, k < n → it ((swapL L n n).take n) k = it L k := fun k hk => by
    have : it ((swapL L n n).take n) k = it (swapL L n n) k := by simp [it, List.getD, hk]
    rw [this, it_swap (by omega) (by omega), if_neg (by omega), if_neg (by omega)]
  unfold okAt
  rw [hit j hjl, hit _ (by omega)]
  exact ho j hj (by omega)

/-- What is known of a heap whose last item's id has left the map. -/
structure Half (p o T : Nat) (F : Nat → Option Value) (g b cap n : Nat) (w : World) (L : List (Int × Int)) (w1 : World) : Prop where
  self : Host w1 p o T F (.slice (some ⟨g, 0, none⟩) (n + 1) cap) (.map (some b))
  items : w1.ownsRow 0 79 2 (.slice (some ⟨g, 0, none⟩) (n + 1) cap) (n + 1) (cellsOf L)
  map : ∃ D, w1.ownsMap Try.prog 3 (plainElem Try.prog 3) b n D ∧ Placed D (L.take n)
  only : Only (fun k => k = g ∨ k = b) w w1
  apart : p ≠ g ∧ p ≠ b ∧ g ≠ b

theorem half_of {p o T : Nat} {F : Nat → Option Value} {g b cap n m : Nat} {w w1 w2 : World} {L : List (Int × Int)} {D : DataW Unit} (h : Rep p o T F g b cap w1 L) (hn : L.length = n + 1) (hO : Only (fun k => k = g ∨ k = b) w w1) (hP : Placed D L)
    (ho : w2.ownsMap Try.prog 3 (plainElem Try.prog 3) b m (D.del (key (it L n).1))) (ht : w1.mapTurned w2 b) : Half p o T F g b cap n w L w2 := by
  have hT := only_turned ht
  obtain ⟨h1, h2, h3⟩ := h.apart_blocks
  have hP2 := placed_drop hn h.apart hP
  have hl : (L.take n).length = n := by simp; omega
  refine ⟨(hn ▸ h.self).moved (hT.block p h.self.there h2), owns_kept (hn ▸ h.items) hT (fun k hk e => ?_), ⟨_, ?_, hP2⟩, hO.trans hT (fun _ _ e => Or.inr e), h1, h2, h3⟩
  · cases hk; exact h3 e
  · have := own_tight ho
    rw [hP2.size, hl] at this
    exact this

theorem rep_of_half {p o T : Nat} {F : Nat → Option Value} {g b cap n : Nat} {w w1 w2 : World} {L : List (Int × Int)} (hn : L.length = n + 1) (h : Half p o T F g b cap n w L w1) (ha : Apart L) (hw : ∀ i, i < L.length → (Lit.int .i64 (it L i).1).wf = true) (hl : L.length ≤ 6000000000000)
    (ho : w2.ownsRow 0 79 2 (.slice (some ⟨g, 0, none⟩) n cap) n ((cellsOf L).take (n * 2))) (hO : Only (· = g) w1 w2) :
    (∃ u, w2.cell? ⟨p, o, none⟩ = some u) ∧ w2.frozen? ⟨p, o, none⟩ = false ∧ Rep p o T F g b cap (w2.setCell ⟨p, o, none⟩ (.slice (some ⟨g, 0, none⟩) n cap)) (L.take n) ∧
      Only (fun k => k = p ∨ k = g ∨ k = b) w (w2.setCell ⟨p, o, none⟩ (.slice (some ⟨g, 0, none⟩) n cap)) := by
  obtain ⟨h1, h2, h3⟩ := h.apart
  have hs := h.self.moved (hO.block p h.self.there h1)
  have hlen : (L.take n).length = n := by simp; omega
  obtain ⟨D, hD, hP⟩ := h.map
  have hD2 : w2.ownsMap Try.prog 3 (plainElem Try.prog 3) b n D := by
    obtain ⟨es, clock, q1, q2⟩ := hD
    exact ⟨es, clock, (hO.block b (block_there q1) h3.symm).trans q1, q2⟩
  have hS : Only (· = p) w2 (w2.setCell ⟨p, o, none⟩ (.slice (some ⟨g, 0, none⟩) n cap)) := Only.setCell (S := fun x => x = p) (Only.refl _ w2) (p := ⟨p, o, none⟩) rfl _
  refine ⟨⟨_, hs.c0⟩, hs.frozen o, ⟨?_, ?_, ⟨D, by rw [hlen]; exact hD2.setCell h2.symm _, hP⟩, apart_take ha, fun i hi => ?_, by omega⟩, ?_⟩
  · rw [hlen]; exact hs.set0 _
  · rw [hlen]
    rw [cellsOf_take] at ho
    exact owns_kept ho hS (fun k hk e => by cases hk; exact h1 e.symm)
  · rw [hlen] at hi
    have : it (L.take n) i = it L i := by simp [it, List.getD, hi]
    rw [this]; exact hw i (by omega)
  · exact ((h.only.mono (T := fun k => k = p ∨ k = g ∨ k = b) (fun _ _ e => Or.inr e)).trans hO (fun _ _ e => Or.inr (Or.inl e))).trans hS (fun _ _ e => Or.inl e)

/-- What is known behind a remove, and behind whatever else leaves a heap in the same blocks. -/
def Gone (p o T : Nat) (F : Nat → Option Value) (g b cap : Nat) (w : World) (P : List (Int × Int) → Prop) (e : Ending) (w' : World) : Prop :=
  e = .returned (.tuple #[]) ∧ ∃ L, P L ∧ Rep p o T F g b cap w' L ∧ Only (fun k => k = p ∨ k = g ∨ k = b) w w'

set_option maxRecDepth 100000 in
set_option maxHeartbeats 1000000 in
theorem remove_any (p o T : Nat) (F : Nat → Option Value) (g b cap i : Nat) (L : List (Int × Int)) (w : World) (h : Rep p o T F g b cap w L) (hi : i < L.length) (hR : Ordered L) :
    Calls Try.prog 41 #[.pointer (some ⟨p, o, none⟩), .int .i64 i] w (Gone p o T F g b cap w (fun K => (it L i :: K).Perm L ∧ Ordered K)) := by
  obtain ⟨n, hn⟩ : ∃ n, L.length = n + 1 := ⟨L.length - 1, by omega⟩
  have hln := h.len
  have HR := Lib.hid h
  have H0 := Lib.hid hR
  have HN := Lib.hid hn
  obtain ⟨c0, -⟩ := h.cells
  rw [hn] at c0 hi hln
  clear h hR
  have hnl : n < L.length := by omega
  clear hn
  have hl1 : (swapL L i n).length = n + 1 := by rw [swapL_len, HN.out]
  have HL1 := Lib.hid hl1
  clear hl1
  go_enter Try.func41, Try.ntmps41
  go_wp2_with (go_at_call 48; refine (swap_any p o T F g b cap i n L _ HR.out (by rw [HN.out]; exact hi) hnl).mono ?_; rintro e w1 ⟨rfl, L1, hL1, hr1, ho1⟩; have HQ := Lib.hid hL1; have HR1 := Lib.hid hr1; have HO1 := Lib.hid ho1; clear hL1 hr1 ho1)
  obtain rfl := HQ.out
  go_cut [0, 1, 4] (fun s0 s1 s4 wx => s0 = .pointer (some ⟨p, o, none⟩) ∧ s1 = .int .i64 i ∧ s4 = .int .i64 n ∧ Half p o T F g b cap n w (swapL L i n) wx)
  case first =>
    have hrd : Rep p o T F g b cap w1.drew (swapL L i n) := HR1.out.later ((Only.refl _ w1).drew)
    have HS : Hid (Only (fun k => k = g ∨ k = b) w w1.drew) := Lib.hid HO1.out.drew
    obtain ⟨d0, d1⟩ := hrd.cells
    rw [HL1.out] at d0
    obtain ⟨x0, -⟩ := row_cell hrd.items (i := n) (by rw [HL1.out]; omega)
    have hkey : keyOf Try.prog 3 (.int .i64 (it (swapL L i n) n).1) = some (key (it (swapL L i n) n).1) := keyOf_int_mk Try.underlying3 (hrd.wf n (by rw [HL1.out]; omega))
    obtain ⟨D, hD, hP⟩ := hrd.map
    have HRD := Lib.hid hrd
    have HD := Lib.hid hD
    have HP := Lib.hid hP
    clear hrd hD hP c0
    have g1 : (n : Int) < n + 1 := by omega
    have g2 : (0 : Int) ≤ n := by omega
    refine wp_region_still_tail 12 (by kernel_rfl) (by kernel_rfl) ?_
    show wpStill _ _ w1.drew (fun a' => wpList _ _ _ _ a' w1.drew) _ _
    generalize w1.drew = w2 at *
    simp only [List.take_succ_cons, List.take_zero, List.drop_succ_cons, List.drop_zero]
    repeat still_step
    refine wpStill_nil ?_
    go_wp2_with (at_delete; refine wpList_delete_own _ rfl _ _ 59 3 rfl 3 law3 Try.underlying59 _ b _ D rfl HD.out _ _ rfl hkey ?_; intro w3 hown3 hturn3)
    go_wp2
    go_meet
    exact ⟨rfl, rfl, rfl, half_of HRD.out HL1.out HS.out HP.out hown3 hturn3⟩
  case rest =>
    obtain ⟨rfl, rfl, rfl, hh⟩ := hcut
    have c0 : wc.cell? ⟨p, o, none⟩ = some (.slice (some ⟨g, 0, none⟩) (n + 1) cap) := hh.self.c0
    have HH := Lib.hid hh
    clear hh
    have HW := Lib.hid HR1.out.wf
    have HA := Lib.hid HR1.out.apart
    have HPM := Lib.hid (removed_perm (L := L) (i := i) HN.out (by rw [HN.out]; exact hi))
    by_cases hin : i < n
    · have HRI := Lib.hid (removed_rise H0.out HN.out hin)
      go_wp2_with (first
        | (go_at_call 49; refine (delete_last g n cap _ _ HH.out.items (by omega)).mono ?_; rintro e w3 ⟨rfl, ho3, hO3⟩; have hbox := rep_of_half HL1.out HH.out HA.out HW.out (by rw [HL1.out]; omega) ho3 hO3; obtain ⟨u, hu⟩ := hbox.1; have hfz := hbox.2.1; have HRW := Lib.hid hbox.2.2.1; have HOW := Lib.hid hbox.2.2.2; clear hbox ho3 hO3)
        | (go_at_call 50; refine (settle_any p o T F g b cap i _ _ HRW.out (by simp [HL1.out]; omega) HRI.out).mono ?_; rintro e w4 ⟨rfl, L4, hL4, hr4, ho4⟩; have HL4 := Lib.hid hL4; have HR4 := Lib.hid hr4; have HO4 := Lib.hid ho4; clear hL4 hr4 ho4))
      go_end0
      exact ⟨rfl, L4, ⟨(HL4.out.1.cons _).trans HPM.out, HL4.out.2⟩, HR4.out, HOW.out.trans HO4.out (fun _ _ e => Or.inr e)⟩
    · have e : i = n := by omega
      go_wp2_with (go_at_call 49; refine (delete_last g n cap _ _ HH.out.items (by omega)).mono ?_; rintro e w3 ⟨rfl, ho3, hO3⟩; have hbox := rep_of_half HL1.out HH.out HA.out HW.out (by rw [HL1.out]; omega) ho3 hO3; obtain ⟨u, hu⟩ := hbox.1; have hfz := hbox.2.1; have HRW := Lib.hid hbox.2.2.1; have HOW := Lib.hid hbox.2.2.2; clear hbox ho3 hO3)
      go_end0
      exact ⟨rfl, _, ⟨HPM.out, by subst e; exact removed_order H0.out HN.out⟩, HRW.out, HOW.out⟩
end Go.Proofs.Ytiodfpoaakcejaa.Hp
