/- The reference's list of tasks: one more, one less. -/
import Derived.Test.YtkjcaainbomemaaFPlay
namespace Go.Proofs.Ytkjcaainbomemaa.Fr
open Go.ChangeShapes Go.WideShapes Go.ChangeAt Go.RowKit Go.Maps
open Go.Proofs.Ytkjcaainbomemaa.Vt Go.Proofs.Ytkjcaainbomemaa.Pt
set_option linter.unusedVariables false

/-- One pointer more, at a step of a drawn region. -/
theorem step_ptr {w : World} {ops : Array Oper} {o : Oper} {a : Act} {K : Act → World → Prop} {Q : Exit → Act → World → Prop} {E : Prop} (hgd : o.guard = none) (s y : Operand)
    (ho : o.op = .call { callee := .builtin .append, args := #[s, y], argTypes := #[28, 28] })
    (base b : Nat) (v : Value) (S : List Nat) (x : Nat) (hown : RowAt w base v S) (hs : a.eval s = v) (hy : a.eval y = .slice (some ⟨b, 0, none⟩) 1 1)
    (hb : w.heap[b]? = some (.cells #[pt x] 36 (0, 0))) (hl : S.length ≤ 1000000) (hbase : base ≤ w.heap.size)
    (h : ∀ g' c' w', RowAt w' base (.slice (some ⟨g', 0, none⟩) (S.length + 1) c') (S ++ [x]) → Only (fun k => v.ownBlock = some k) w w' → (v.ownBlock = some g' ∨ g' = w.heap.size) → K (a.put o.dst (.slice (some ⟨g', 0, none⟩) (S.length + 1) c')) w') :
    if Region.wanted o (yielded ops a.tmps) = true then Oper.wp Try.prog o a w K Q else E := by
  obtain ⟨i0, hi, hz0, hz1, hz2⟩ := info_parts Pt.Try.infoElem
  refine step_append_lies w hgd s y 28 ho base 36 i0 (.pointer none) 1 8 Try.underlying28 hi hz0 hz1 hz2 rfl (by decide) v S.length (S.map pt) hs hown ⟨b, 0, none⟩ 1 1 [pt x] hy rfl
    (World.news_of_block (cs := #[pt x]) hb) (by intro u hu; simp at hu; subst hu; rfl) (by omega) (by unfold maxLen; omega) (by omega) hbase w.heap.size rfl ?_
  intro g cap w' hown' hg hat hlt
  refine h _ _ w' ?_ (Only.of_grown (S := fun k => v.ownBlock = some k) hg (fun k hk => hk)) hat
  unfold RowAt
  rw [List.length_append, List.map_append]
  exact hown'

section
variable {B : Nat} {w w4 w5 : World} {p q : Nat} {L : List (Nat × Nat)} {T : Tks} {G : Grs} {W GW : Nat → Int}

/-- Whoever is of another number is as he was. -/
theorem task_other {x : Nat × Nat} {t : Nat} {a : Int} {y : Tk} (h : x.2 ≠ t) : taskCells x.2 (upd W t a x.2) (upd T t y x.2).g (upd T t y x.2).v (upd T t y x.2).r = taskCells x.2 (W x.2) (T x.2).g (T x.2).v (T x.2).r := by
  rw [upd_other _ _ h, upd_other _ _ h]

/-- The class behind the append of a task in block b. -/
theorem RefAt.snoc (h : RefAt B w4 q L T G W GW) {b t : Nat} {a c g : Int} {V : Value} {g' c' n' : Nat} {o : Obj} (hb : w4.heap[b]? = some (taskCells t a g 0 false)) (hbL : ∀ x ∈ L, x.1 ≠ b) (hbB : B ≤ b) (hbq : b ≠ q) (hbV : V.ownBlock ≠ some b) (htL : ∀ x ∈ L, x.2 ≠ t)
    (hV : w4.cell? ⟨q, 0, none⟩ = some V) (hr : RowAt w5 B (.slice (some ⟨g', 0, none⟩) n' c') (L.map (·.1) ++ [b])) (hO : Only (fun k => V.ownBlock = some k) (w4.alloc o) w5) (hat : V.ownBlock = some g' ∨ g' = (w4.alloc o).heap.size) :
    w5.cell? ⟨q, 0, none⟩ = some V ∧ w5.frozen? ⟨q, 0, none⟩ = false ∧ RefAt B (w5.setCell ⟨q, 0, none⟩ (.slice (some ⟨g', 0, none⟩) n' c')) q (L ++ [(b, t)]) (upd T t ⟨c, 0, g, false⟩) G (upd W t a) GW ∧ Only (fun k => k = q ∨ V.ownBlock = some k) w4 (w5.setCell ⟨q, 0, none⟩ (.slice (some ⟨g', 0, none⟩) n' c')) := by
  obtain ⟨⟨cs, V', h1, h2, h3, h4⟩, h5, h6, h7, h8, h9⟩ := h
  have hVV : V' = V := by have := cell_at h1 0; rw [hV, h2.v] at this; exact (Option.some.inj this).symm
  subst hVV
  have oa : Only (fun _ => False) w4 (w4.alloc o) := (Only.refl _ w4).alloc o
  have kept : ∀ k, k < w4.heap.size → V'.ownBlock ≠ some k → w5.heap[k]? = w4.heap[k]? := fun k hk hn => (hO.block k (Nat.lt_of_lt_of_le hk oa.size) hn).trans (oa.block k hk (fun e => e))
  have q1 : w5.heap[q]? = some (.cells cs 33 (0, 0)) := (kept q (block_there h1) (fun e => (h4 q e).1 rfl)).trans h1
  have hg' : g' ≠ q ∧ (∀ x ∈ L, g' ≠ x.1) ∧ g' ≠ b := by
    rcases hat with e | e
    · exact ⟨(h4 g' e).1, (h4 g' e).2, fun e2 => hbV (by rw [← e2]; exact e)⟩
    · have hs : (w4.alloc o).heap.size = w4.heap.size + 1 := by simp
      have := block_there h1
      have := block_there hb
      exact ⟨by omega, fun x hx => by have := block_there (h5 x hx); omega, by omega⟩
  have oq : Only (fun k => k = q) w5 (w5.setCell ⟨q, 0, none⟩ (.slice (some ⟨g', 0, none⟩) n' c')) := (Only.refl (fun k => k = q) w5).setCell (p := ⟨q, 0, none⟩) rfl _
  refine ⟨by rw [cell_at q1]; exact h2.v, frozen_at q1 0, ⟨⟨_, .slice (some ⟨g', 0, none⟩) n' c', heap_setCell_same w5 q 0 cs _ _ q1, ?_, ?_, ?_⟩, ?_, ?_, ?_, ?_, ?_⟩, ?_⟩
  · have hs := h2.size
    refine ⟨by simp [hs], by rw [Array.getElem?_setIfInBounds, if_pos rfl, if_pos (by omega)], fun k hk => ?_, fun k hk => ?_, fun k hk => ?_⟩
    · rw [Array.getElem?_setIfInBounds, if_neg (by omega)]; exact h2.is k hk
    · rw [Array.getElem?_setIfInBounds, if_neg (by omega)]; exact h2.gw k hk
    · rw [Array.getElem?_setIfInBounds, if_neg (by omega)]; exact h2.gv k hk
  · rw [List.map_append]
    exact hr.keep oq (fun k hk e => by cases hk; exact hg'.1 e)
  · intro k hk
    cases hk
    refine ⟨hg'.1, fun x hx => ?_⟩
    rcases List.mem_append.1 hx with e | e
    · exact hg'.2.1 x e
    · simp at e; subst e; exact hg'.2.2
  · intro x hx
    rcases List.mem_append.1 hx with e | e
    · rw [task_other (htL x e), oq.block x.1 (block_there ((kept x.1 (block_there (h5 x e)) (fun e2 => (h4 _ e2).2 x e rfl)).trans (h5 x e))) (h7 x e)]
      exact (kept x.1 (block_there (h5 x e)) (fun e2 => (h4 _ e2).2 x e rfl)).trans (h5 x e)
    · simp at e; subst e
      simp only
      rw [upd_same, upd_same]
      have hb5 := (kept b (block_there hb) hbV).trans hb
      exact (oq.block b (block_there hb5) hbq).trans hb5
  · exact ⟨h6.1, fun x hx => by rcases List.mem_append.1 hx with e | e; exact h6.2 x e; simp at e; subst e; exact hbB⟩
  · intro x hx
    rcases List.mem_append.1 hx with e | e
    · exact h7 x e
    · simp at e; subst e; exact hbq
  · rw [List.map_append, List.map_cons, List.map_nil, List.nodup_append]
    refine ⟨h8, List.nodup_cons.2 ⟨by simp, List.nodup_nil⟩, fun y hy z hz => ?_⟩
    simp at hz; subst hz
    obtain ⟨x, hx, rfl⟩ := List.mem_map.1 hy
    exact hbL x hx
  · rw [List.map_append, List.map_cons, List.map_nil, List.nodup_append]
    refine ⟨h9, List.nodup_cons.2 ⟨by simp, List.nodup_nil⟩, fun y hy z hz => ?_⟩
    simp at hz; subst hz
    obtain ⟨x, hx, rfl⟩ := List.mem_map.1 hy
    exact htL x hx
  · have o1 : Only (fun k => k = q ∨ V'.ownBlock = some k) w4 w5 := (oa.mono (T := fun k => k = q ∨ V'.ownBlock = some k) (fun _ _ e => e.elim)).trans hO (fun k hk e => Or.inr e)
    exact o1.trans oq (fun k hk e => Or.inl e)

/-- The class with its list cut, the row stored anew. -/
theorem RefAt.struck (h : RefAt B w q L T G W GW) {L2 : List (Nat × Nat)} {T2 : Tks} {V : Value} {g n c : Nat} (hV : w.cell? ⟨q, 0, none⟩ = some V) (hg : V.ownBlock = some g) (hr : RowAt w5 B (.slice (some ⟨g, 0, none⟩) n c) (L2.map (·.1))) (hO : Only (fun k => k = g) w w5)
    (hL : L2.Sublist L) (hT : ∀ x ∈ L2, T2 x.2 = T x.2) :
    w5.cell? ⟨q, 0, none⟩ = some V ∧ w5.frozen? ⟨q, 0, none⟩ = false ∧ RefAt B (w5.setCell ⟨q, 0, none⟩ (.slice (some ⟨g, 0, none⟩) n c)) q L2 T2 G W GW ∧ Only (fun k => k = q ∨ V.ownBlock = some k) w (w5.setCell ⟨q, 0, none⟩ (.slice (some ⟨g, 0, none⟩) n c)) := by
  obtain ⟨⟨cs, V', h1, h2, h3, h4⟩, h5, h6, h7, h8, h9⟩ := h
  have hVV : V' = V := by have := cell_at h1 0; rw [hV, h2.v] at this; exact (Option.some.inj this).symm
  subst hVV
  have hsub : ∀ x ∈ L2, x ∈ L := fun x hx => hL.subset hx
  have q1 : w5.heap[q]? = some (.cells cs 33 (0, 0)) := (hO.block q (block_there h1) (fun e => (h4 g hg).1 e.symm)).trans h1
  have oq : Only (fun k => k = q) w5 (w5.setCell ⟨q, 0, none⟩ (.slice (some ⟨g, 0, none⟩) n c)) := (Only.refl (fun k => k = q) w5).setCell (p := ⟨q, 0, none⟩) rfl _
  refine ⟨by rw [cell_at q1]; exact h2.v, frozen_at q1 0, ⟨⟨_, .slice (some ⟨g, 0, none⟩) n c, heap_setCell_same w5 q 0 cs _ _ q1, ?_, ?_, ?_⟩, ?_, ⟨h6.1, fun x hx => h6.2 x (hsub x hx)⟩, fun x hx => h7 x (hsub x hx), (hL.map _).nodup h8, (hL.map _).nodup h9⟩, ?_⟩
  · have hs := h2.size
    refine ⟨by simp [hs], by rw [Array.getElem?_setIfInBounds, if_pos rfl, if_pos (by omega)], fun k hk => ?_, fun k hk => ?_, fun k hk => ?_⟩
    · rw [Array.getElem?_setIfInBounds, if_neg (by omega)]; exact h2.is k hk
    · rw [Array.getElem?_setIfInBounds, if_neg (by omega)]; exact h2.gw k hk
    · rw [Array.getElem?_setIfInBounds, if_neg (by omega)]; exact h2.gv k hk
  · exact hr.keep oq (fun k hk e => by cases hk; exact (h4 g hg).1 e)
  · intro k hk
    cases hk
    exact ⟨(h4 g hg).1, fun x hx => (h4 g hg).2 x (hsub x hx)⟩
  · intro x hx
    rw [hT x hx]
    have hx5 := (hO.block x.1 (block_there (h5 x (hsub x hx))) (fun e => (h4 g hg).2 x (hsub x hx) e.symm)).trans (h5 x (hsub x hx))
    exact (oq.block x.1 (block_there hx5) (h7 x (hsub x hx))).trans hx5
  · have o1 : Only (fun k => k = q ∨ V'.ownBlock = some k) w w5 := hO.mono (fun k hk e => Or.inr (by rw [e]; exact hg))
    exact o1.trans oq (fun k hk e => Or.inl e)
end

theorem not_none (S : List Nat) : notOne S none = S := by unfold notOne; simp
theorem without_map (L : List (Nat × Nat)) (b : Nat) : notOne (L.map (·.1)) (some b) = (without L b).map (·.1) := by
  unfold notOne without
  rw [List.filter_map]
  congr 1
  apply List.filter_congr
  intro x hx
  simp

theorem delete_nil (lb : Array Value) (w : World) :
    Calls Try.prog 19 #[.slice none 0 0, .func (.func 20) #[] lb] w fun e w' => e = .returned (.slice none 0 0) ∧ Only (fun _ => False) w w' := by
  have hix : ∀ w, Calls Try.prog 40 #[.slice none 0 0, .func (.func 20) #[] lb] w fun e w' => e = .returned (.int .i64 (-1)) ∧ w = w' := by
    intro w
    go_enter Try.func40, Try.ntmps40
    go_wp2_with fail
    go_loopw [8] (fun i wr => i = .int .i64 0 ∧ wr = w) (fun _ _ => 0)
    case atStart => exact ⟨rfl, rfl⟩
    case round =>
      obtain ⟨rfl, rfl⟩ := hrel
      go_wp2_with fail
      go_ret
      exact ⟨rfl, rfl⟩
  have HI := Lib.hid hix
  clear hix
  go_enter Try.func19, Try.ntmps19
  go_wp2_with (go_at_call 40; (with_reducible refine (HI.out _).mono ?_); rintro e w' ⟨rfl, rfl⟩)
  go_ret
  exact ⟨rfl, Only.refl _ _⟩
end Go.Proofs.Ytkjcaainbomemaa.Fr
