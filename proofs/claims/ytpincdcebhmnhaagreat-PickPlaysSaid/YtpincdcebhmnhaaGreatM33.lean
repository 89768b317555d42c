/- Texts of this claim, merged: OFSnoc. -/
import Derived.Test.YtpincdcebhmnhaaGreatM19
/- The reference's list of tasks of fair shares: one more. -/
namespace Go.Proofs.YtpincdcebhmnhaaGreat.Fr
open Go.ChangeShapes Go.WideShapes Go.ChangeAt Go.RowKit Go.Maps
open Go.Proofs.YtpincdcebhmnhaaGreat.Vt Go.Proofs.YtpincdcebhmnhaaGreat.Pt
set_option linter.unusedVariables false

section
variable {B : Nat} {w w4 w5 : World} {q o D : Nat} {L : List (Nat × Nat)} {T : Tks} {G : Grs} {W GW : Nat → Int}

/-- The class behind the append of a task in a new block b. -/
theorem RefAt.snoc (h : RefAt B w q o D L T G W GW) (oa : Only (fun _ => False) w w4) {b t : Nat} {a c g : Int} {V V5 : Value} (hb : w4.heap[b]? = some (taskCells t a g 0 false)) (hbw : w.heap.size ≤ b) (htL : ∀ x ∈ L, x.2 ≠ t)
    (hV : w.cell? ⟨q, o, none⟩ = some V) (hr : RowAt w5 B V5 (L.map (·.1) ++ [b])) (hO : Only (fun k => V.ownBlock = some k) w4 w5) (hg : ∀ k, V5.ownBlock = some k → V.ownBlock = some k ∨ w4.heap.size ≤ k) :
    w5.cell? ⟨q, o, none⟩ = some V ∧ w5.frozen? ⟨q, o, none⟩ = false ∧ RefAt B (w5.setCell ⟨q, o, none⟩ V5) q o D (L ++ [(b, t)]) (upd T t ⟨c, 0, g, false⟩) G (upd W t a) GW ∧ Only (fun k => k = q ∨ V.ownBlock = some k) w (w5.setCell ⟨q, o, none⟩ V5) ∧ Only (fun k => V.ownBlock = some k) w w5 := by
  obtain ⟨⟨cs, V', h1, h2, h3, h4⟩, h5, h6, h7, h8, h9⟩ := h
  have hVV : V' = V := by have := cell_at h1 o; rw [hV, h2.v] at this; exact (Option.some.inj this).symm
  subst hVV
  have hqlt := block_there h1
  have hllt : ∀ y ∈ L, y.1 < w.heap.size := fun y hy => block_there (h5 y hy)
  have hvlt : ∀ g, V'.ownBlock = some g → g < w.heap.size := fun g hg => (h3.block hg).2
  have hb4 := block_there hb
  have kept : ∀ k, k < w.heap.size → V'.ownBlock ≠ some k → w5.heap[k]? = w.heap[k]? := fun k hk hn => (hO.block k (Nat.lt_of_lt_of_le hk oa.size) hn).trans (oa.block k hk (fun e => e))
  have q1 : w5.heap[q]? = some (.cells cs D (0, 0)) := (kept q hqlt (fun e => (h4 q e).1 rfl)).trans h1
  have hbV : V'.ownBlock ≠ some b := fun e => by have := hvlt b e; omega
  have hg' : ∀ k, V5.ownBlock = some k → k ≠ q ∧ (∀ x ∈ L, k ≠ x.1) ∧ k ≠ b := fun k hk => by
    rcases hg k hk with e | e
    · exact ⟨(h4 k e).1, (h4 k e).2, fun e2 => hbV (by rw [← e2]; exact e)⟩
    · have := oa.size
      exact ⟨by omega, fun x hx => by have := hllt x hx; omega, by omega⟩
  have oq : Only (fun k => k = q) w5 (w5.setCell ⟨q, o, none⟩ V5) := (Only.refl (fun k => k = q) w5).setCell (p := ⟨q, o, none⟩) rfl _
  have o0 : Only (fun k => V'.ownBlock = some k) w w5 := (oa.mono (T := fun k => V'.ownBlock = some k) (fun _ _ e => e.elim)).trans hO (fun k hk e => e)
  refine ⟨by rw [cell_at q1]; exact h2.v, frozen_at q1 o, ⟨⟨_, V5, heap_setCell_same w5 q o cs _ _ q1, ?_, ?_, ?_⟩, ?_, ?_, ?_, ?_, ?_⟩, ?_, o0⟩
  · have hs := h2.size
    refine ⟨by simp [hs], by rw [Array.getElem?_setIfInBounds, if_pos rfl, if_pos (by omega)], fun k hk => ?_, fun k hk => ?_, fun k hk => ?_⟩
    · rw [Array.getElem?_setIfInBounds, if_neg (by omega)]; exact h2.is k hk
    · rw [Array.getElem?_setIfInBounds, if_neg (by omega)]; exact h2.gw k hk
    · rw [Array.getElem?_setIfInBounds, if_neg (by omega)]; exact h2.gv k hk
  · rw [List.map_append]
    exact hr.keep oq (fun k hk e => (hg' k hk).1 e)
  · intro k hk
    refine ⟨(hg' k hk).1, fun x hx => ?_⟩
    rcases List.mem_append.1 hx with e | e
    · exact (hg' k hk).2.1 x e
    · simp at e; subst e; exact (hg' k hk).2.2
  · intro y hy
    rcases List.mem_append.1 hy with e | e
    · rw [upd_other _ _ (htL y e), upd_other _ _ (htL y e), oq.block y.1 (block_there ((kept y.1 (hllt y e) (fun e2 => (h4 _ e2).2 y e rfl)).trans (h5 y e))) (h7 y e)]
      exact (kept y.1 (hllt y e) (fun e2 => (h4 _ e2).2 y e rfl)).trans (h5 y e)
    · simp at e; subst e
      simp only
      rw [upd_same, upd_same]
      have hb5 := (hO.block b hb4 hbV).trans hb
      exact (oq.block b (block_there hb5) (by omega)).trans hb5
  · exact ⟨h6.1, fun x hx => by rcases List.mem_append.1 hx with e | e; exact h6.2 x e; simp at e; subst e; show B ≤ b; have := h6.1; omega⟩
  · intro x hx
    rcases List.mem_append.1 hx with e | e
    · exact h7 x e
    · simp at e; subst e; show b ≠ q; omega
  · rw [List.map_append, List.map_cons, List.map_nil, List.nodup_append]
    refine ⟨h8, List.nodup_cons.2 ⟨by simp, List.nodup_nil⟩, fun y hy z hz => ?_⟩
    simp at hz; subst hz
    obtain ⟨x, hx, rfl⟩ := List.mem_map.1 hy
    have := hllt x hx; omega
  · rw [List.map_append, List.map_cons, List.map_nil, List.nodup_append]
    refine ⟨h9, List.nodup_cons.2 ⟨by simp, List.nodup_nil⟩, fun y hy z hz => ?_⟩
    simp at hz; subst hz
    obtain ⟨x, hx, rfl⟩ := List.mem_map.1 hy
    exact htL x hx
  · exact (o0.mono (T := fun k => k = q ∨ V'.ownBlock = some k) (fun _ _ e => Or.inr e)).trans oq (fun k hk e => Or.inl e)

theorem Same.add (h : Same L T G W GW) {b t : Nat} (h1 : 1 ≤ t) (h2 : t ≤ 16) {a : Int} (ha : isW a = true) (hno : (T t).c = 0) : Same (L ++ [(b, t)]) (upd T t ⟨costOf a, 0, 0, false⟩) G (upd W t a) GW := by
  have hne : ∀ x ∈ L, x.2 ≠ t := fun x hx e => h.in_c hx (by rw [e]; exact hno)
  refine ⟨fun x hx => ?_, fun k hk hc => ?_, fun x hx => ?_, h.gw, h.g0, fun x hx => ?_⟩
  · rcases List.mem_append.1 hx with e | e
    · exact h.num x e
    · simp at e; subst e; exact ⟨h1, h2⟩
  · by_cases e : k = t
    · subst e; exact ⟨b, by simp⟩
    · rw [upd_other _ _ e] at hc
      obtain ⟨b', hb'⟩ := h.all k hk hc
      exact ⟨b', by simp [hb']⟩
  · rcases List.mem_append.1 hx with e | e
    · rw [upd_other _ _ (hne x e), upd_other _ _ (hne x e)]; exact h.wt x e
    · simp at e; subst e; simp only; rw [upd_same, upd_same]; exact ⟨ha, rfl⟩
  · rcases List.mem_append.1 hx with e | e
    · rw [upd_other _ _ (hne x e)]; exact h.tg x e
    · simp at e; subst e; simp only; rw [upd_same]; exact Or.inl rfl
end
end Go.Proofs.YtpincdcebhmnhaaGreat.Fr
