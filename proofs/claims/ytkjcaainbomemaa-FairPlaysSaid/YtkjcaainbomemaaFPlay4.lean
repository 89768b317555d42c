/- How Leave and Add end in FairPlays. -/
import Derived.Test.YtkjcaainbomemaaFPlay3
namespace Go.Proofs.Ytkjcaainbomemaa.Fr
open Go.ChangeShapes Go.WideShapes Go.ChangeAt Go.RowKit Go.Maps
open Go.Proofs.Ytkjcaainbomemaa.Vt Go.Proofs.Ytkjcaainbomemaa.Pt
set_option linter.unusedVariables false

section
variable {B Bx : Nat} {w w' w1 w0 w5 : World} {p q b t k n g m c : Nat} {L : List (Nat × Nat)} {T T' : Tks} {G G' : Grs} {W GW : Nat → Int} {M M' a : Int} {ox : Option Addr} {V : Value}

theorem RefAt.apart_row (h : RefAt B w q L T G W GW) (hV : w.cell? ⟨q, 0, none⟩ = some V) : ∀ g, V.ownBlock = some g → g ≠ q ∧ ∀ x ∈ L, g ≠ x.1 := by
  obtain ⟨V', h1, h2, h3⟩ := h.slice
  have : V' = V := by rw [hV] at h1; exact (Option.some.inj h1).symm
  subst this
  exact h3

theorem leave_calls (hR : RefAt B w q L T G W GW) (hX : Boxed B Bx p q w L (.slice (some ⟨g, 0, none⟩) L.length c) ox) (hl : L.length ≤ 16) (i : Option Nat) (ho : ox = match (generalizing := false) i with | none => none | some x => some ⟨x, 0, none⟩) (hi : ∀ x, i = some x → ∃ y ∈ L, y.1 = x) :
    Calls Try.prog 19 #[.slice (some ⟨g, 0, none⟩) L.length c, .func (.func 20) #[] #[.pointer (some ⟨Bx, 0, none⟩)]] w (Struck B (L.map (·.1)) i g w) := by
  have ha := hR.apart_row hX.vq g rfl
  have th : ∀ y ∈ L, There w g y.1 := fun y hy => ⟨fun e => ha.2 y hy e.symm, _, _, hR.task y hy⟩
  refine delete_one g L.length c i (.pointer ox) Bx B (L.map (·.1)) w hX.row (by simp) (block_there hX.box) (by have := hX.vlt g rfl; omega) (fun x hx => ?_) (fun x hx => ?_) ?_ hX.cell (by simp; omega)
  · obtain ⟨y, hy, rfl⟩ := List.mem_map.1 hx
    exact th y hy
  · obtain ⟨y, hy, rfl⟩ := hi x hx
    exact th y hy
  · cases i with
    | none => rw [ho]
    | some x => rw [ho]; rfl

/-- A row that is not nil. -/
theorem Boxed.full (hX : Boxed B Bx p q w L V ox) : (V = .slice none 0 0 ∧ L = []) ∨ ∃ g c, V = .slice (some ⟨g, 0, none⟩) L.length c := by
  rcases hX.row.cases with ⟨h1, h2⟩ | ⟨g, c, h1, -⟩
  · exact Or.inl ⟨h1, List.map_eq_nil_iff.1 h2⟩
  · exact Or.inr ⟨g, c, by rw [h1, List.length_map]⟩

/-- The nil row is stored again. -/
theorem nil_end (hb : Both B w p q L T G W GW M) (hM : M ≤ M') (hL : L = []) (hbl : Below B w0 w) :
    Both B (w.setCell ⟨q, 0, none⟩ (.slice none 0 0)) p q L T G W GW M' ∧ Below B w0 (w.setCell ⟨q, 0, none⟩ (.slice none 0 0)) := by
  subst hL
  have hD := hb.duet
  obtain ⟨⟨cs, V, h1, h2, h3, h4⟩, h5, h6, h7, h8, h9⟩ := hb.ref
  have oq : Only (fun k => k = q) w (w.setCell ⟨q, 0, none⟩ (.slice none 0 0)) := (Only.refl (fun k => k = q) w).setCell (p := ⟨q, 0, none⟩) rfl _
  have r : RefAt B (w.setCell ⟨q, 0, none⟩ (.slice none 0 0)) q [] T G W GW := by
    refine ⟨⟨_, .slice none 0 0, heap_setCell_same w q 0 cs _ _ h1, ?_, row_nil _ _, fun g hg => by cases hg⟩, fun x hx => (List.not_mem_nil hx).elim, h6, fun x hx => (List.not_mem_nil hx).elim, h8, h9⟩
    have hs := h2.size
    refine ⟨by simp [hs], by rw [Array.getElem?_setIfInBounds, if_pos rfl, if_pos (by omega)], fun k hk => ?_, fun k hk => ?_, fun k hk => ?_⟩
    · rw [Array.getElem?_setIfInBounds, if_neg (by omega)]; exact h2.is k hk
    · rw [Array.getElem?_setIfInBounds, if_neg (by omega)]; exact h2.gw k hk
    · rw [Array.getElem?_setIfInBounds, if_neg (by omega)]; exact h2.gv k hk
  exact ⟨(hD.follow r oq hD.apart.1).both hb.same (hb.fit.mono hM), hbl.trans (oq.below hb.ref.low (fun x e => by rw [e]; exact hb.ref.from'.1))⟩

/-- Whoever was nobody's task leaves the list as it is. -/
theorem leave_end0 (hb : Both B w p q L T G W GW M) (hM : M ≤ M') (hX : Boxed B Bx p q w L (.slice (some ⟨g, 0, none⟩) L.length c) ox) {e : Ending} (h : Struck B (L.map (·.1)) none g w e w5) (hbl : Below B w0 w) :
    ∃ n' c', e = .returned (.slice (some ⟨g, 0, none⟩) n' c') ∧ w5.cell? ⟨q, 0, none⟩ = some (.slice (some ⟨g, 0, none⟩) L.length c) ∧ w5.frozen? ⟨q, 0, none⟩ = false ∧ Both B (w5.setCell ⟨q, 0, none⟩ (.slice (some ⟨g, 0, none⟩) n' c')) p q L T G W GW M' ∧ Below B w0 (w5.setCell ⟨q, 0, none⟩ (.slice (some ⟨g, 0, none⟩) n' c')) := by
  obtain ⟨n', c', rfl, hr, hO⟩ := h
  rw [not_none] at hr
  obtain ⟨k1, k2, r, o⟩ := hb.ref.struck hX.vq rfl hr hO (List.Sublist.refl L) (fun x _ => rfl)
  refine ⟨_, _, rfl, k1, k2, (hb.duet.follow r o (fun e => ?_)).both hb.same (hb.fit.mono hM), hbl.trans (o.below hb.ref.low (fun x e => ?_))⟩
  · rcases e with e | e
    · exact hb.duet.apart.1 e
    · exact hb.duet.apart.2.2 _ hX.row _ e rfl
  · rcases e with e | e
    · rw [e]; exact hb.ref.from'.1
    · exact (hX.row.block e).1

theorem leave_end1 (hD : Duet B w p q L T G W GW (upd T t ⟨0, 0, 0, false⟩) G) (hb : Both B w1 p q L T G W GW M) (hM : M ≤ M') (hm : (b, t) ∈ L) (hX : Boxed B Bx p q w L (.slice (some ⟨g, 0, none⟩) L.length c) ox) {e : Ending} (h : Struck B (L.map (·.1)) (some b) g w e w5) (hbl : Below B w0 w) :
    ∃ n' c', e = .returned (.slice (some ⟨g, 0, none⟩) n' c') ∧ w5.cell? ⟨q, 0, none⟩ = some (.slice (some ⟨g, 0, none⟩) L.length c) ∧ w5.frozen? ⟨q, 0, none⟩ = false ∧ Both B (w5.setCell ⟨q, 0, none⟩ (.slice (some ⟨g, 0, none⟩) n' c')) p q (without L b) (upd T t ⟨0, 0, 0, false⟩) G W GW M' ∧ Below B w0 (w5.setCell ⟨q, 0, none⟩ (.slice (some ⟨g, 0, none⟩) n' c')) := by
  obtain ⟨n', c', rfl, hr, hO⟩ := h
  rw [without_map] at hr
  have hbt : ∀ y ∈ L, y.1 = b ↔ y.2 = t := fun y hy => ⟨fun e => hD.ref.block_of hm hy e, fun e => hD.ref.same_num (t := t) (by rw [← e]; exact hy) hm⟩
  obtain ⟨k1, k2, r, o⟩ := hD.ref.struck (T2 := upd T t ⟨0, 0, 0, false⟩) hX.vq rfl hr hO List.filter_sublist (fun x hx => by
    have := mem_without.1 hx
    rw [upd_other _ _ (fun e => this.2 ((hbt x this.1).2 e))])
  have ht := hb.same.num _ hm
  simp only at ht
  have hp := hb.fit.pos
  refine ⟨_, _, rfl, k1, k2, (hD.follow r o (fun e => ?_)).both (hb.same.leave hm hbt) ((hb.fit.mono hM).upd_t ht.1 _ ⟨by simp, by simp⟩ ⟨by simp, by simp only; omega⟩ ⟨by simp, by simp⟩ (fun e => by cases e)), hbl.trans (o.below hD.ref.low (fun x e => ?_))⟩
  · rcases e with e | e
    · exact hD.apart.1 e
    · exact hD.apart.2.2 _ hX.row _ e rfl
  · rcases e with e | e
    · rw [e]; exact hD.ref.from'.1
    · exact (hX.row.block e).1

/-- The row with the new task is stored. -/
theorem add_row {w4 : World} {m : Int} {g' n' c' : Nat} {o : Obj} (hD : Duet B w4 p q L T G W GW T' G') (hX : Boxed B Bx p q w4 L V (some ⟨b, 0, none⟩)) (hb4 : w4.heap[b]? = some (taskCells n a m 0 false)) (hlt : Bx < b) (hs : Same L T G W GW) (hno : (T n).c = 0) (cc : Int)
    (hr : RowAt w5 B (.slice (some ⟨g', 0, none⟩) n' c') (L.map (·.1) ++ [b])) (hO : Only (fun k => V.ownBlock = some k) (w4.alloc o) w5) (hat : V.ownBlock = some g' ∨ g' = (w4.alloc o).heap.size) (hbl : Below B w0 w4) :
    w5.cell? ⟨q, 0, none⟩ = some V ∧ w5.frozen? ⟨q, 0, none⟩ = false ∧ Duet B (w5.setCell ⟨q, 0, none⟩ (.slice (some ⟨g', 0, none⟩) n' c')) p q (L ++ [(b, n)]) (upd T n ⟨cc, 0, m, false⟩) G (upd W n a) GW T' G' ∧ (w5.setCell ⟨q, 0, none⟩ (.slice (some ⟨g', 0, none⟩) n' c')).cell? ⟨Bx, 0, none⟩ = some (.pointer (some ⟨b, 0, none⟩)) ∧ Below B w0 (w5.setCell ⟨q, 0, none⟩ (.slice (some ⟨g', 0, none⟩) n' c')) := by
  have hlow := hX.low
  have hq := hX.qlt
  obtain ⟨k1, k2, r, o1⟩ := hD.ref.snoc (c := cc) hb4 (fun x hx => by have := hX.llt x hx; omega) (by omega) (by omega) (fun e => by have := hX.vlt _ e; omega) (fun x hx e => hs.there hx (by rw [e]; exact hno)) hX.vq hr hO hat
  refine ⟨k1, k2, hD.follow r o1 (fun e => ?_), ?_, hbl.trans (o1.below hD.ref.low (fun x e => ?_))⟩
  · rcases e with e | e
    · exact hD.apart.1 e
    · exact hD.apart.2.2 _ hX.row _ e rfl
  · have := (o1.block Bx (block_there hX.box) (fun e => by
      rcases e with e | e
      · omega
      · have := hX.vlt _ e; omega)).trans hX.box
    rw [cell_at this]; rfl
  · rcases e with e | e
    · rw [e]; exact hD.ref.from'.1
    · exact (hX.row.block e).1

theorem Fit.add (h : Fit T G M) {t : Nat} (h1 : 1 ≤ t) (ha : isW a = true) {m : Int} (h0 : 0 ≤ m) (h8 : m ≤ 8) : Fit (upd T t ⟨costOf a, 0, m, false⟩) G M :=
  h.upd_t h1 _ (costOf_bd ha) ⟨by simp, by have := h.pos; simp only; omega⟩ ⟨h0, h8⟩ (fun e => by cases e)
theorem Same.add0 (h : Same L T G W GW) (h1 : 1 ≤ t) (h2 : t ≤ 16) (ha : isW a = true) (hno : (T t).c = 0) : Same (L ++ [(b, t)]) (upd T t ⟨costOf a, 0, 0, false⟩) G (upd W t a) GW := h.add (g := 0) h1 h2 ha (Or.inl rfl) hno
theorem add_yes0 (h : FairAt w p T G) (t : Nat) (x : Int) (hx : isW x = true) (h1 : 1 ≤ t) (h2 : t ≤ 16) (hc : (T t).c = 0) : Calls Try.prog 11 #[.pointer (some ⟨p, 0, none⟩), .int .i64 t, .int .i64 x, .int .i64 0] w (FKeep w p (.int .i64 0) (addT T G t (costOf x) 0) (addG T G t (costOf x) 0)) :=
  add_yes h t x 0 hx h1 h2 (by omega) hc (Or.inl rfl)
theorem add_mem : (b, t) ∈ L ++ [(b, t)] := by simp
end
end Go.Proofs.Ytkjcaainbomemaa.Fr
