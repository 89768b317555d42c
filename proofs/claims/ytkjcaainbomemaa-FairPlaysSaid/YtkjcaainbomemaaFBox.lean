/- What a play of FairPlays knows: the class, its reference, and the box of the task that was found. -/
import Derived.Test.YtkjcaainbomemaaFPlay2
namespace Go.Proofs.Ytkjcaainbomemaa.Fr
open Go.ChangeShapes Go.WideShapes Go.ChangeAt Go.RowKit Go.Maps
open Go.Proofs.Ytkjcaainbomemaa.Vt Go.Proofs.Ytkjcaainbomemaa.Pt
set_option linter.unusedVariables false

/-- What Find has found. -/
def Known (L : List (Nat × Nat)) (T : Tks) (t : Int) (ox : Option Addr) : Prop := (∃ b n : Nat, ox = some ⟨b, 0, none⟩ ∧ (b, n) ∈ L ∧ t = n) ∨ (ox = none ∧ ¬ isTask T t)

theorem find_known {B : Nat} {w : World} {p q : Nat} {L : List (Nat × Nat)} {T : Tks} {G : Grs} {W GW : Nat → Int} {M : Int} (h : Both B w p q L T G W GW M) (t : Int) :
    Calls Try.prog 13 #[.pointer (some ⟨q, 0, none⟩), .int .i64 t] w fun e w' => ∃ ox, e = .returned (.pointer ox) ∧ Known L T t ox ∧ w = w' := by
  by_cases hT : isTask T t
  · obtain ⟨b, hb⟩ := h.same.all t.toNat (by have := hT.2.1; omega) hT.2.2
    have e : t = (t.toNat : Int) := by have := hT.1; omega
    have := findr_yes h.ref h.same hb
    rw [← e] at this
    exact this.mono fun _ _ hh => ⟨_, hh.1, Or.inl ⟨b, t.toNat, rfl, hb, e⟩, hh.2⟩
  · exact (findr_no h.ref h.same (h.same.not_there hT)).mono fun _ _ hh => ⟨none, hh.1, Or.inr ⟨rfl, hT⟩, hh.2⟩

/-- The box of the pointer that was found, younger than all else. -/
structure Boxed (B Bx p q : Nat) (w : World) (L : List (Nat × Nat)) (V : Value) (ox : Option Addr) : Prop where
  box : w.heap[Bx]? = some (.cells #[.pointer ox] 36 (0, 0))
  vq : w.cell? ⟨q, 0, none⟩ = some V
  row : RowAt w B V (L.map (·.1))
  vlt : ∀ g, V.ownBlock = some g → g < Bx
  plt : p < Bx
  qlt : q < Bx
  llt : ∀ x ∈ L, x.1 < Bx
  low : B ≤ Bx

section
variable {B Bx p q : Nat} {w w' : World} {L : List (Nat × Nat)} {T T' : Tks} {G G' : Grs} {W GW : Nat → Int} {V : Value} {ox : Option Addr}
theorem Boxed.later (h : Boxed B Bx p q w L V ox) (hO : Only (fun _ => False) w w') : Boxed B Bx p q w' L V ox := by
  refine ⟨(hO.block Bx (block_there h.box) (fun e => e)).trans h.box, ?_, h.row.later hO, h.vlt, h.plt, h.qlt, h.llt, h.low⟩
  rw [← h.vq]; unfold World.cell?
  rw [hO.block q (by have := block_there h.box; have := h.qlt; omega) (fun e => e)]
theorem Boxed.ahead (h : Boxed B Bx p q w L V ox) (hD : Duet B w p q L T G W GW T' G') (hO : Only (fun k => k = p) w w') : Boxed B Bx p q w' L V ox := by
  obtain ⟨a1, a2, a3⟩ := hD.apart
  have hb := block_there h.box
  refine ⟨(hO.block Bx hb (by have := h.plt; omega)).trans h.box, ?_, h.row.keep hO (fun g hg e => a3 V h.row g hg e), h.vlt, h.plt, h.qlt, h.llt, h.low⟩
  rw [← h.vq]; unfold World.cell?
  rw [hO.block q (by have := h.qlt; omega) (Ne.symm a1)]
theorem Boxed.cell (h : Boxed B Bx p q w L V ox) : w.cell? ⟨Bx, 0, none⟩ = some (.pointer ox) := by rw [cell_at h.box]; rfl
theorem Boxed.frozen (h : Boxed B Bx p q w L V ox) : w.frozen? ⟨Bx, 0, none⟩ = false := frozen_at h.box 0

/-- The reference stays where only the box changes. -/
theorem RefAt.keep_box (h : RefAt B w q L T G W GW) (hx : Boxed B Bx p q w L V ox) (hO : Only (fun k => k = Bx) w w') : RefAt B w' q L T G W GW := by
  obtain ⟨⟨cs, V', h1, h2, h3, h4⟩, h5, h6, h7, h8, h9⟩ := h
  have hVV : V' = V := by have := cell_at h1 0; rw [hx.vq, h2.v] at this; exact (Option.some.inj this).symm
  subst hVV
  exact ⟨⟨cs, V', (hO.block q (block_there h1) (by have := hx.qlt; omega)).trans h1, h2, h3.keep hO (fun g hg e => by have := hx.vlt g hg; omega), h4⟩, fun x hxL => (hO.block x.1 (block_there (h5 x hxL)) (by have := hx.llt x hxL; omega)).trans (h5 x hxL), h6, h7, h8, h9⟩

/-- The new task is laid, and the box holds it. -/
theorem Boxed.new (h : Boxed B Bx p q w L V ox) (hD : Duet B w p q L T G W GW T' G') (t : Nat) (a g : Int) {w4 : World}
    (e : w4 = (w.alloc (.cells #[.int .i64 t, .int .i64 a, .int .i64 g, .int .i64 0, .bool false] 41)).setCell ⟨Bx, 0, none⟩ (.pointer (some ⟨w.heap.size, 0, none⟩))) :
    w4.heap[w.heap.size]? = some (taskCells t a g 0 false) ∧ Boxed B Bx p q w4 L V (some ⟨w.heap.size, 0, none⟩) ∧ Duet B w4 p q L T G W GW T' G' ∧ Only (fun k => k = Bx) w w4 ∧ w4.heap.size = w.heap.size + 1 := by
  subst e
  have hb := block_there h.box
  have oa : Only (fun _ => False) w (w.alloc (.cells #[.int .i64 t, .int .i64 a, .int .i64 g, .int .i64 0, .bool false] 41)) := (Only.refl _ w).alloc _
  have h1 := h.later oa
  have hD1 := hD.later oa
  have ob : Only (fun k => k = Bx) (w.alloc (.cells #[.int .i64 t, .int .i64 a, .int .i64 g, .int .i64 0, .bool false] 41)) ((w.alloc (.cells #[.int .i64 t, .int .i64 a, .int .i64 g, .int .i64 0, .bool false] 41)).setCell ⟨Bx, 0, none⟩ (.pointer (some ⟨w.heap.size, 0, none⟩))) := (Only.refl (fun k => k = Bx) _).setCell (p := ⟨Bx, 0, none⟩) rfl _
  refine ⟨?_, ⟨heap_setCell_same _ Bx 0 _ _ _ h1.box, ?_, h1.row.keep ob (fun k hk e => by have := h.vlt k hk; omega), h.vlt, h.plt, h.qlt, h.llt, h.low⟩, hD1.follow (hD1.ref.keep_box h1 ob) ob (by have := h.plt; omega), ?_, by simp [World.setCell]⟩
  · rw [ob.block w.heap.size (by simp) (by omega)]
    exact heap_alloc_new w _
  · rw [← h1.vq]; unfold World.cell?
    rw [ob.block q (by have := h.qlt; simp; omega) (by have := h.qlt; omega)]
  · exact (oa.mono (fun _ _ e => e.elim)).trans ob (fun _ _ e => e)

theorem Known.task {t : Nat} {b : Nat} (hs : Same L T G W GW) (h : Known L T t (some ⟨b, 0, none⟩)) : (b, t) ∈ L := by
  rcases h with ⟨b', n, e, hm, en⟩ | ⟨e, -⟩
  · cases e
    have : n = t := by omega
    subst this; exact hm
  · cases e
end
end Go.Proofs.Ytkjcaainbomemaa.Fr
