/- The contracts of Turn, Out and Pop. -/
import Derived.Test.YtonlhcebnbdjjaaSAsk
namespace Go.Proofs.Ytonlhcebnbdjjaa.S
open Go.ChangeShapes Go.WideShapes Go.ChangeAt Go.RowKit Go.Maps
set_option linter.unusedVariables false

/-- The items with another key at place i. -/
def setKey (L : List (Int × ByteArray)) (i : Nat) (k : ByteArray) : List (Int × ByteArray) := L.set i ((it L i).1, k)

theorem setKey_len (L : List (Int × ByteArray)) (i : Nat) (k : ByteArray) : (setKey L i k).length = L.length := by simp [setKey]

theorem it_setKey {L : List (Int × ByteArray)} {i : Nat} (hi : i < L.length) (k : ByteArray) (j : Nat) : it (setKey L i k) j = if j = i then ((it L i).1, k) else it L j := by
  simp only [it, setKey, List.getD, List.getElem?_set]
  by_cases h : i = j
  · subst h; simp [hi]
  · simp [h, Ne.symm h]

theorem id_setKey {L : List (Int × ByteArray)} {i : Nat} (hi : i < L.length) (k : ByteArray) (j : Nat) : (it (setKey L i k) j).1 = (it L j).1 := by
  rw [it_setKey hi]; split
  · rename_i h; subst h; rfl
  · rfl

theorem rep_setKey {p g b cap i : Nat} {w : World} {L : List (Int × ByteArray)} (h : Rep p g b cap w L) (hi : i < L.length) (k : ByteArray) :
    Rep p g b cap (w.setCell ⟨g, i * 2 + 1, none⟩ (.string k)) (setKey L i k) ∧ Only (fun k => k = g ∨ k = b) w (w.setCell ⟨g, i * 2 + 1, none⟩ (.string k)) := by
  obtain ⟨h1, h2, h3⟩ := h.apart_blocks
  obtain ⟨D, hD, hP⟩ := h.map
  have hl := setKey_len L i k
  refine ⟨⟨?_, ?_, ⟨D, by rw [hl]; exact hD.setCell h3.symm _, hP.tidy, by rw [hl]; exact hP.size, fun j hj => ?_, fun id hid => ?_⟩, fun a c ha hc he => ?_, fun j hj => ?_, by rw [hl]; exact h.len⟩, ?_⟩
  · rw [hl, heap_setCell_other _ _ _ _ h1]; exact h.self
  · rw [hl]
    rcases h.items with ⟨hlen, ⟨q1, _⟩ | ⟨g', cap', cur, q1, hb, q2, q3, q4, q5, q6⟩⟩
    · cases q1
    · cases q1
      refine ⟨by rw [cellsOf_len, hl], Or.inr ⟨g, cap, _, rfl, hb, heap_setCell_same _ g _ _ 69 _ q2, q3, q4, by simpa using q5, ?_⟩⟩
      rw [Array.toList_setIfInBounds, take_set _ _ _ _ (by omega), q6]
      unfold setKey
      rw [← cellsOf_set (x := ((it L i).1, k)) hi]
      congr 1
      have hc := (cellsOf_at hi).1
      apply List.ext_getElem?
      intro j
      rw [List.getElem?_set]
      split
      · rename_i e; subst e
        rw [hc, if_pos (List.getElem?_eq_some_iff.1 hc).1]
      · rfl
  · rw [hl] at hj; rw [id_setKey hi]; exact hP.there j hj
  · obtain ⟨j, hj, he⟩ := hP.only id hid
    exact ⟨j, by rw [hl]; exact hj, by rw [id_setKey hi]; exact he⟩
  · rw [hl] at ha hc
    rw [id_setKey hi, id_setKey hi] at he
    exact h.apart a c ha hc he
  · rw [hl] at hj; rw [id_setKey hi]; exact h.wf j hj
  · exact (Only.setCell (S := fun x => x = g ∨ x = b) (Only.refl _ w) (p := ⟨g, i * 2 + 1, none⟩) (Or.inl rfl) _)

theorem turn_none (p g b cap : Nat) (id : Int) (k : ByteArray) (L : List (Int × ByteArray)) (w : World) (h : Rep p g b cap w L) (hw : (Lit.int .i64 id).wf = true) (hno : ∀ i, i < L.length → (it L i).1 ≠ id) :
    Calls Try.prog 41 #[.pointer (some ⟨p, 0, none⟩), .int .i64 id, .string k] w fun e w' => e = .returned (.int .i64 4) ∧ w = w' := by
  obtain ⟨-, c1⟩ := h.cells
  obtain ⟨D, hD, hP⟩ := h.map
  have hh : Maps.has D (.int .i64 id) = false := by
    rcases Bool.eq_false_or_eq_true (Maps.has D (key id)) with hx | hx
    · obtain ⟨i, hi, he⟩ := hP.only id hx
      exact absurd he (hno i hi)
    · exact hx
  have hkey := keyOf_int_mk Try.underlying3 hw
  clear h hP
  go_enter Try.func41, Try.ntmps41
  go_wp2_with (at_lookup; refine wpList_lookup_own_ok_int _ rfl _ _ 49 rfl 3 3 .i64 law3 Try.underlying49 Try.underlying3 (zero3 _) b L.length D rfl hD _ _ rfl hkey ?_; intro c hat hwc)
  go_ret
  exact ⟨rfl, rfl⟩

theorem turn_fresh (p : Nat) (id : Int) (k : ByteArray) (w : World) (h : Fresh p w) (hw : (Lit.int .i64 id).wf = true) :
    Calls Try.prog 41 #[.pointer (some ⟨p, 0, none⟩), .int .i64 id, .string k] w fun e w' => e = .returned (.int .i64 4) ∧ w = w' := by
  have c1 : w.cell? ⟨p, 1, none⟩ = some (.map none) := by rw [cell_at h]; rfl
  have hrun := look_nil (w := w) true law3 Try.underlying49 (zero3 _) (keyOf_int_mk Try.underlying3 hw)
  clear h
  go_enter Try.func41, Try.ntmps41
  go_wp2
  go_ret
  exact ⟨rfl, rfl⟩

/-- What is known behind a Turn, a Push, an Out or a Pop of a heap with a map. -/
def Stays (p g b cap : Nat) (w : World) (v : Value) (P : List (Int × ByteArray) → Prop) (e : Ending) (w' : World) : Prop :=
  e = .returned v ∧ ∃ L, P L ∧ Rep p g b cap w' L ∧ Only (fun k => k = p ∨ k = g ∨ k = b) w w'

set_option maxRecDepth 100000 in
set_option maxHeartbeats 1000000 in
theorem turn_some (p g b cap i : Nat) (k : ByteArray) (L : List (Int × ByteArray)) (w : World) (h : Rep p g b cap w L) (hi : i < L.length) (hR : Ordered L) :
    Calls Try.prog 41 #[.pointer (some ⟨p, 0, none⟩), .int .i64 (it L i).1, .string k] w (Stays p g b cap w (.int .i64 0) (fun K => K.Perm (setKey L i k) ∧ Ordered K)) := by
  have hln := h.len
  obtain ⟨c0, c1⟩ := h.cells
  obtain ⟨D, hD, hP⟩ := h.map
  have hh : Maps.has D (.int .i64 (it L i).1) = true := (hP.there i hi).1
  have hkey := keyOf_int_mk Try.underlying3 (h.wf i hi)
  obtain ⟨x0, x1, hgf⟩ := row_cell h.items hi
  have HP := Lib.hid hP
  have HRI := Lib.hid (show RiseOk (setKey L i k) i i from rise_of_change hR (by rw [setKey_len]; omega) (fun j hj _ => by rw [it_setKey hi, if_neg hj]) (by rw [setKey_len]; exact hi))
  have hbox := rep_setKey h hi k
  have HRK := Lib.hid hbox.1
  have HOK := Lib.hid hbox.2
  clear h hP hbox hR
  have e1 : (i : Int) < L.length := by omega
  have e2 : (0 : Int) ≤ i := by omega
  go_enter Try.func41, Try.ntmps41
  go_wp2_with (first
    | (at_lookup; refine wpList_lookup_own_ok_int _ rfl _ _ 49 rfl 3 3 .i64 law3 Try.underlying49 Try.underlying3 (zero3 _) b L.length D rfl hD _ _ rfl hkey ?_; intro c hat hwc; obtain rfl := spot_int HP.out hi hat)
    | (go_at_call 56; refine (settle_any p g b cap i _ _ HRK.out (by rw [setKey_len]; exact hi) HRI.out).mono ?_; rintro e w4 ⟨rfl, L4, hL4, hr4, ho4⟩; have HL4 := Lib.hid hL4; have HR4 := Lib.hid hr4; have HO4 := Lib.hid ho4; clear hL4 hr4 ho4))
  go_ret
  exact ⟨rfl, L4, HL4.out, HR4.out, (HOK.out.trans HO4.out (fun _ _ e => e)).mono (fun _ _ e => Or.inr e)⟩

theorem out_none (p g b cap : Nat) (id : Int) (L : List (Int × ByteArray)) (w : World) (h : Rep p g b cap w L) (hw : (Lit.int .i64 id).wf = true) (hno : ∀ i, i < L.length → (it L i).1 ≠ id) :
    Calls Try.prog 42 #[.pointer (some ⟨p, 0, none⟩), .int .i64 id] w fun e w' => e = .returned (.tuple #[.string ByteArray.empty, .int .i64 4]) ∧ w = w' := by
  go_enter Try.func42, Try.ntmps42
  go_wp2_with (go_at_call 44; refine (key_none p g b cap id L _ h hw hno).mono ?_; rintro e w1 ⟨rfl, rfl⟩)
  go_ret2
  exact ⟨rfl, rfl⟩

theorem out_fresh (p : Nat) (id : Int) (w : World) (h : Fresh p w) (hw : (Lit.int .i64 id).wf = true) :
    Calls Try.prog 42 #[.pointer (some ⟨p, 0, none⟩), .int .i64 id] w fun e w' => e = .returned (.tuple #[.string ByteArray.empty, .int .i64 4]) ∧ w = w' := by
  go_enter Try.func42, Try.ntmps42
  go_wp2_with (go_at_call 44; refine (key_fresh p id _ h hw).mono ?_; rintro e w1 ⟨rfl, rfl⟩)
  go_ret2
  exact ⟨rfl, rfl⟩

set_option maxRecDepth 100000 in
set_option maxHeartbeats 1000000 in
theorem out_some (p g b cap i : Nat) (L : List (Int × ByteArray)) (w : World) (h : Rep p g b cap w L) (hi : i < L.length) (hR : Ordered L) :
    Calls Try.prog 42 #[.pointer (some ⟨p, 0, none⟩), .int .i64 (it L i).1] w (Stays p g b cap w (.tuple #[.string (it L i).2, .int .i64 0]) (fun K => (it L i :: K).Perm L ∧ Ordered K)) := by
  have hkey := keyOf_int_mk Try.underlying3 (h.wf i hi)
  have HR := Lib.hid h
  have H0 := Lib.hid hR
  clear h hR
  go_enter Try.func42, Try.ntmps42
  go_wp2_with (first
    | (go_at_call 44; refine (key_some p g b cap i L _ HR.out hi).mono ?_; rintro e w1 ⟨rfl, ho1⟩; have hr1 := HR.out.later ho1; have hc1 := hr1.cells.2; obtain ⟨D, hD, hP⟩ := hr1.map; have HR1 := Lib.hid hr1; have HO1 := Lib.hid ho1; have HP := Lib.hid hP; clear hr1 ho1 hP)
    | (at_lookup; refine wpList_lookup_own_int _ rfl _ _ 49 rfl 3 3 .i64 law3 Try.underlying49 Try.underlying3 (zero3 _) b L.length D rfl hD _ _ rfl hkey ?_; intro c hat hwc; obtain rfl := spot_int HP.out hi hat)
    | (go_at_call 55; refine (remove_any p g b cap i L _ HR1.out hi H0.out).mono ?_; rintro e w4 ⟨rfl, L4, hL4, hr4, ho4⟩; have HL4 := Lib.hid hL4; have HR4 := Lib.hid hr4; have HO4 := Lib.hid ho4; clear hL4 hr4 ho4))
  go_ret2
  exact ⟨rfl, L4, HL4.out, HR4.out, (HO1.out.mono (fun _ _ e => e.elim)).trans HO4.out (fun _ _ e => e)⟩

theorem pop_none (p cap : Nat) (a : Option Addr) (w : World) (c0 : w.cell? ⟨p, 0, none⟩ = some (.slice a 0 cap)) :
    Calls Try.prog 38 #[.pointer (some ⟨p, 0, none⟩)] w fun e w' => e = .returned (.tuple #[.int .i64 0, .string ByteArray.empty, .int .i64 4]) ∧ w = w' := by
  go_enter Try.func38, Try.ntmps38
  go_wp2_with (go_at_call 43; refine (peek_none p cap a _ c0).mono ?_; rintro e w1 ⟨rfl, rfl⟩)
  go_ret3
  exact ⟨rfl, rfl⟩

set_option maxRecDepth 100000 in
set_option maxHeartbeats 1000000 in
theorem pop_some (p g b cap n : Nat) (L : List (Int × ByteArray)) (w : World) (h : Rep p g b cap w L) (hn : L.length = n + 1) (hR : Ordered L) :
    Calls Try.prog 38 #[.pointer (some ⟨p, 0, none⟩)] w (Stays p g b cap w (.tuple #[.int .i64 (it L 0).1, .string (it L 0).2, .int .i64 0]) (fun K => (it L 0 :: K).Perm L ∧ Ordered K)) := by
  have HR := Lib.hid h
  have H0 := Lib.hid hR
  have HN := Lib.hid hn
  clear h hR hn
  have hrm : ∀ w1, Rep p g b cap w1 L → Calls Try.prog 55 #[.pointer (some ⟨p, 0, none⟩), .int .i64 0] w1 (Gone p g b cap w1 (fun K => (it L 0 :: K).Perm L ∧ Ordered K)) :=
    fun w1 h1 => remove_any p g b cap 0 L w1 h1 (by rw [HN.out]; omega) H0.out
  have HM := Lib.hid hrm
  clear hrm
  go_enter Try.func38, Try.ntmps38
  go_wp2_with (first
    | (go_at_call 43; refine (peek_some p g b cap n L _ HR.out HN.out).mono ?_; rintro e w1 ⟨rfl, ho1⟩; have hr1 := HR.out.later ho1; have HR1 := Lib.hid hr1; have HO1 := Lib.hid ho1; clear hr1 ho1)
    | (go_at_call 55; refine (HM.out _ HR1.out).mono ?_; rintro e w4 ⟨rfl, L4, hL4, hr4, ho4⟩; have HL4 := Lib.hid hL4; have HR4 := Lib.hid hr4; have HO4 := Lib.hid ho4; clear hL4 hr4 ho4))
  go_ret3
  exact ⟨rfl, L4, HL4.out, HR4.out, (HO1.out.mono (fun _ _ e => e.elim)).trans HO4.out (fun _ _ e => e)⟩
end Go.Proofs.Ytonlhcebnbdjjaa.S
