/- Stores into the reference's class of fair shares. -/
import Derived.Test.YtkjcaainbomemaaFRef
namespace Go.Proofs.Ytkjcaainbomemaa.Fr
open Go.ChangeShapes Go.WideShapes Go.ChangeAt Go.RowKit Go.Maps
open Go.Proofs.Ytkjcaainbomemaa.Vt Go.Proofs.Ytkjcaainbomemaa.Pt
set_option linter.unusedVariables false

section
variable {B : Nat} {w : World} {q : Nat} {L : List (Nat × Nat)} {T : Tks} {G : Grs} {W GW : Nat → Int} {b t : Nat}

theorem RefAt.block_of (h : RefAt B w q L T G W GW) (hx : (b, t) ∈ L) {y : Nat × Nat} (hy : y ∈ L) (e : y.1 = b) : y.2 = t := by
  obtain ⟨f, hf⟩ := h.numbers
  have h1 := hf _ hx
  have h2 := hf _ hy
  simp only at h1
  rw [e, h1] at h2; exact h2.symm

theorem RefAt.only_task (h : RefAt B w q L T G W GW) (hx : (b, t) ∈ L) (j : Nat) (u : Value) {T' : Tks} (hT : ∀ y ∈ L, y.1 ≠ b → T' y.2 = T y.2)
    (hb : (w.setCell ⟨b, j, none⟩ u).heap[b]? = some (taskCells t (W t) (T' t).g (T' t).v (T' t).r)) : RefAt B (w.setCell ⟨b, j, none⟩ u) q L T' G W GW := by
  have hO : Only (fun k => k = b) w (w.setCell ⟨b, j, none⟩ u) := (Only.refl (fun k => k = b) w).setCell (p := ⟨b, j, none⟩) rfl u
  have h' := h
  obtain ⟨⟨cs, V, h1, h2, h3, h4⟩, h5, h6, h7, h8, h9⟩ := h
  refine ⟨⟨cs, V, (hO.block q (block_there h1) (fun e => h7 _ hx e.symm)).trans h1, h2, h3.keep hO (fun g hg e => (h4 g hg).2 _ hx e), h4⟩, fun y hy => ?_, h6, h7, h8, h9⟩
  by_cases e : y.1 = b
  · have e2 := h'.block_of hx hy e
    rw [e, e2]; exact hb
  · rw [hT y hy e]
    exact (hO.block y.1 (block_there (h5 y hy)) e).trans (h5 y hy)

theorem RefAt.num_other (h : RefAt B w q L T G W GW) (hx : (b, t) ∈ L) {y : Nat × Nat} (hy : y ∈ L) (e : y.1 ≠ b) : y.2 ≠ t := fun e2 => e (h.same_num (t := t) (by rw [← e2]; exact hy) hx)

theorem RefAt.set_v (h : RefAt B w q L T G W GW) (hx : (b, t) ∈ L) (x : Int) : RefAt B (w.setCell ⟨b, 3, none⟩ (.int .i64 x)) q L (upd T t ⟨(T t).c, x, (T t).g, (T t).r⟩) G W GW := by
  refine h.only_task hx 3 _ (fun y hy e => upd_other _ _ (h.num_other hx hy e)) ?_
  have h1 := h.task _ hx
  rw [upd_same]
  exact heap_setCell_same w b 3 _ _ (.int .i64 x) h1
theorem RefAt.set_r (h : RefAt B w q L T G W GW) (hx : (b, t) ∈ L) (x : Bool) : RefAt B (w.setCell ⟨b, 4, none⟩ (.bool x)) q L (upd T t ⟨(T t).c, (T t).v, (T t).g, x⟩) G W GW := by
  refine h.only_task hx 4 _ (fun y hy e => upd_other _ _ (h.num_other hx hy e)) ?_
  have h1 := h.task _ hx
  rw [upd_same]
  exact heap_setCell_same w b 4 _ _ (.bool x) h1

/-- A store into the class itself. -/
theorem RefAt.only_self (h : RefAt B w q L T G W GW) (j : Nat) (u : Value) {G' : Grs} {GW' : Nat → Int} (hc : ∀ cs V, RCells cs V G GW → RCells (cs.setIfInBounds j u) V G' GW') : RefAt B (w.setCell ⟨q, j, none⟩ u) q L T G' W GW' := by
  have hO : Only (fun k => k = q) w (w.setCell ⟨q, j, none⟩ u) := (Only.refl (fun k => k = q) w).setCell (p := ⟨q, j, none⟩) rfl u
  obtain ⟨⟨cs, V, h1, h2, h3, h4⟩, h5, h6, h7, h8, h9⟩ := h
  exact ⟨⟨_, V, heap_setCell_same w q j cs _ u h1, hc cs V h2, h3.keep hO (fun g hg e => (h4 g hg).1 e), h4⟩, fun y hy => (hO.block y.1 (block_there (h5 y hy)) (h7 y hy)).trans (h5 y hy), h6, h7, h8, h9⟩

theorem RefAt.set_gv (h : RefAt B w q L T G W GW) (g : Nat) (hg : g < 9) (x : Int) : RefAt B (w.setCell ⟨q, 1 + g * 3 + 2, none⟩ (.int .i64 x)) q L T (upd G g ⟨(G g).c, x⟩) W GW := by
  refine h.only_self _ _ (fun cs V hc => ?_)
  have hs := hc.size
  refine ⟨by simp [hs], ?_, ?_, ?_, ?_⟩
  · rw [Array.getElem?_setIfInBounds, if_neg (by omega)]; exact hc.v
  all_goals
    intro j hj
    rw [Array.getElem?_setIfInBounds]
  · rw [if_neg (by omega), hc.is j hj]; unfold upd; split <;> simp_all
  · rw [if_neg (by omega)]; exact hc.gw j hj
  · by_cases e : j = g
    · subst e; rw [if_pos rfl, if_pos (by omega), upd_same]
    · rw [if_neg (by omega), upd_other _ _ e]; exact hc.gv j hj
theorem RefAt.set_is (h : RefAt B w q L T G W GW) (g : Nat) (hg : g < 9) (x : Int) (hx : x ≠ 0) : RefAt B (w.setCell ⟨q, 1 + g * 3, none⟩ (.bool true)) q L T (upd G g ⟨x, (G g).v⟩) W GW := by
  refine h.only_self _ _ (fun cs V hc => ?_)
  have hs := hc.size
  refine ⟨by simp [hs], ?_, ?_, ?_, ?_⟩
  · rw [Array.getElem?_setIfInBounds, if_neg (by omega)]; exact hc.v
  all_goals
    intro j hj
    rw [Array.getElem?_setIfInBounds]
  · by_cases e : j = g
    · subst e; rw [if_pos rfl, if_pos (by omega), upd_same]; simp [hx]
    · rw [if_neg (by omega), upd_other _ _ e]; exact hc.is j hj
  · rw [if_neg (by omega)]; exact hc.gw j hj
  · rw [if_neg (by omega), hc.gv j hj]; unfold upd; split <;> simp_all
theorem RefAt.set_gw (h : RefAt B w q L T G W GW) (g : Nat) (hg : g < 9) (x : Int) : RefAt B (w.setCell ⟨q, 1 + g * 3 + 1, none⟩ (.int .i64 x)) q L T G W (upd GW g x) := by
  refine h.only_self _ _ (fun cs V hc => ?_)
  have hs := hc.size
  refine ⟨by simp [hs], ?_, ?_, ?_, ?_⟩
  · rw [Array.getElem?_setIfInBounds, if_neg (by omega)]; exact hc.v
  all_goals
    intro j hj
    rw [Array.getElem?_setIfInBounds]
  · rw [if_neg (by omega)]; exact hc.is j hj
  · by_cases e : j = g
    · subst e; rw [if_pos rfl, if_pos (by omega), upd_same]
    · rw [if_neg (by omega), upd_other _ _ e]; exact hc.gw j hj
  · rw [if_neg (by omega)]; exact hc.gv j hj
end
end Go.Proofs.Ytkjcaainbomemaa.Fr
