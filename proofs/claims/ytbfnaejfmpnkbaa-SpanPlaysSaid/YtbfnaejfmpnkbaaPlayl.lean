/- SpanPlays: where in the list a thing stands or would stand; the tree and the list side by side. -/
import Derived.Test.YtbfnaejfmpnkbaaTells
namespace Go.Proofs.Ytbfnaejfmpnkbaa
open Go.ChangeShapes Go.WideShapes Go.ChangeAt Go.RowKit
set_option linter.unusedVariables false

/-- How many things stand ahead of a place, at the head of a list. -/
def pI (L : List El) (k i : Int) : Nat := L.findIdx fun x => !decide (bef x k i)

theorem pI_bef {x : El} {l : List El} {k i : Int} (h : bef x k i) : pI (x :: l) k i = pI l k i + 1 := by simp [pI, List.findIdx_cons, h]
theorem pI_not {x : El} {l : List El} {k i : Int} (h : ¬ bef x k i) : pI (x :: l) k i = 0 := by simp [pI, List.findIdx_cons, h]
theorem pI_le (L : List El) (k i : Int) : pI L k i ≤ L.length := List.findIdx_le_length

theorem pI_at {L : List El} {k i : Int} {j : Nat} (hj : j < L.length) (h : j ≤ pI L k i) : j < pI L k i ↔ bef (thg L j) k i := by
  induction L generalizing j with
  | nil => cases hj
  | cons x l ih =>
    by_cases hx : bef x k i
    · rw [pI_bef hx] at h ⊢
      cases j with
      | zero => exact ⟨fun _ => hx, fun _ => by omega⟩
      | succ j =>
        have := ih (j := j) (by simpa using hj) (by omega)
        rw [show thg (x :: l) (j + 1) = thg l j from rfl, ← this]; omega
    · rw [pI_not hx] at h ⊢
      obtain rfl : j = 0 := by omega
      exact ⟨fun h => by omega, fun h => absurd h hx⟩

theorem put_idx {L : List El} {z : El} (hs : Sorted L) (hno : ¬ Is L z.k z.i) : put z L = L.take (pI L z.k z.i) ++ z :: L.drop (pI L z.k z.i) := by
  induction L with
  | nil => rfl
  | cons x l ih =>
    have hnl : ¬ Is l z.k z.i := fun ⟨y, hy, g⟩ => hno ⟨y, by simp [hy], g⟩
    have hx : ¬ (x.k = z.k ∧ x.i = z.i) := fun g => hno ⟨x, by simp, g⟩
    by_cases h : bef x z.k z.i
    · rw [pI_bef h]
      simp only [put, List.take_succ_cons, List.drop_succ_cons, List.cons_append]
      rw [if_neg (by rw [ordv_pos]; unfold bef aft at *; omega), ih (List.pairwise_cons.1 hs).2 hnl]
    · rw [pI_not h]
      simp only [put, List.take_zero, List.drop_zero, List.nil_append]
      rw [if_pos (by rw [ordv_pos]; unfold bef aft at *; omega)]

theorem is_idx {L : List El} {k i : Int} (hs : Sorted L) : Is L k i ↔ pI L k i < L.length ∧ (thg L (pI L k i)).k = k ∧ (thg L (pI L k i)).i = i := by
  constructor
  · rintro ⟨y, hy, h1, h2⟩
    induction L with
    | nil => cases hy
    | cons x l ih =>
      obtain ⟨g1, g2⟩ := List.pairwise_cons.1 hs
      rcases List.mem_cons.1 hy with e | hy2
      · subst e
        rw [pI_not (by unfold bef; omega)]
        exact ⟨by simp, h1, h2⟩
      · have hb : bef x k i := by have := g1 y hy2; unfold lt bef at *; omega
        rw [pI_bef hb]
        have := ih g2 hy2
        exact ⟨by simpa using this.1, this.2⟩
  · rintro ⟨h1, h2, h3⟩
    exact ⟨_, thg_mem h1, h2, h3⟩

theorem cut_idx {L : List El} {k i : Int} (hs : Sorted L) (h : Is L k i) : cut k i L = L.eraseIdx (pI L k i) := by
  induction L with
  | nil => rfl
  | cons x l ih =>
    obtain ⟨g1, g2⟩ := List.pairwise_cons.1 hs
    by_cases e : x.k = k ∧ x.i = i
    · rw [pI_not (by unfold bef; omega)]
      simp only [cut]; rw [if_pos e]; rfl
    · obtain ⟨y, hy, h1⟩ := h
      rcases List.mem_cons.1 hy with q | hy2
      · subst q; exact absurd h1 e
      · have hb : bef x k i := by have := g1 y hy2; unfold lt bef at *; omega
        rw [pI_bef hb]
        simp only [cut]; rw [if_neg e, ih g2 ⟨y, hy2, h1⟩]; rfl

/-- The tree and the list, in blocks from B on that have nothing to do with each other. -/
def Play (B : Nat) (w : World) (p : Nat) (V : Value) (L : List El) : Prop :=
  ∃ M : Nat → Prop, TreeAt M w p L ∧ ThingsAt w B V L ∧ (∀ k, V.ownBlock = some k → ¬ M k) ∧ ∀ k, M k → B ≤ k

section
variable {B p : Nat} {w w' : World} {V : Value} {L L' : List El}
theorem Play.later (h : Play B w p V L) (hO : Only (fun _ => False) w w') : Play B w' p V L := by
  obtain ⟨M, h1, h2, h3, h4⟩ := h
  exact ⟨M, h1.later hO, h2.later hO, h3, h4⟩
theorem Play.below (h : Play B w p V L) (hb : Below w.heap.size w w') : Play B w' p V L := h.later (Only.of_below hb)
theorem Play.sorted (h : Play B w p V L) : Sorted L := by obtain ⟨M, h1, -⟩ := h; exact h1.sorted
theorem Play.light (h : Play B w p V L) : Light L := by obtain ⟨M, h1, -⟩ := h; exact h1.light
theorem Play.things (h : Play B w p V L) : ThingsAt w B V L := by obtain ⟨M, -, h2, -⟩ := h; exact h2

theorem own_lt (h : ThingsAt w B V L) {k : Nat} (hk : V.ownBlock = some k) : k < w.heap.size := by
  obtain ⟨cur, hc⟩ := owns_type h hk
  exact block_there hc
theorem own_lo (h : ThingsAt w B V L) {k : Nat} (hk : V.ownBlock = some k) : B ≤ k := by
  rcases h.cases with ⟨rfl, -⟩ | ⟨g, cap, cur, rfl, hb, -⟩
  · cases hk
  · cases hk; exact hb

/-- The tree behind a call that changes it; the list is as it was. -/

theorem Play.tree {M : Nat → Prop} (h1 : TreeAt M w p L) (h2 : ThingsAt w B V L) (h3 : ∀ k, V.ownBlock = some k → ¬ M k) (h4 : ∀ k, M k → B ≤ k) (hB : B ≤ w.heap.size)
    (ht : TreeAt (fun k => M k ∨ w.heap.size ≤ k) w' p L') (ho : Only M w w') :
    TreeAt (fun k => M k ∨ w.heap.size ≤ k) w' p L' ∧ ThingsAt w' B V L ∧ (∀ k, V.ownBlock = some k → ¬ (M k ∨ w.heap.size ≤ k)) ∧ (∀ k, (M k ∨ w.heap.size ≤ k) → B ≤ k) ∧ Below B w w' := by
  refine ⟨ht, h2.keep ho h3, fun k hk e => ?_, fun k hk => ?_, ho.below hB h4⟩
  · rcases e with e | e
    · exact h3 k hk e
    · have := own_lt h2 hk; omega
  · rcases hk with hk | hk
    · exact h4 k hk
    · exact Nat.le_trans hB hk

/-- The list behind a call that changes it; the tree is as it was. -/
theorem Play.list {M : Nat → Prop} {V' : Value} (h1 : TreeAt M w p L') (h2 : ThingsAt w B V L) (h3 : ∀ k, V.ownBlock = some k → ¬ M k) (h4 : ∀ k, M k → B ≤ k) (hB : B ≤ w.heap.size)
    (hl : ThingsAt w' B V' L') (ho : Only (fun k => V.ownBlock = some k) w w') (hat : ∀ g, V'.ownBlock = some g → V.ownBlock = some g ∨ w.heap.size ≤ g) : Play B w' p V' L' ∧ Below B w w' := by
  refine ⟨⟨fun k => M k ∧ k < w.heap.size, (h1.there).keep ho (fun k hk hm e => h3 k e hm.1), hl, fun k hk e => ?_, fun k hk => h4 k hk.1⟩, ho.below hB (fun k hk => own_lo h2 hk)⟩
  rcases hat k hk with q | q
  · exact h3 k q e.1
  · omega
end

theorem tout_is {M : Nat → Prop} {w : World} {p : Nat} {L : List El} (h : TreeAt M w p L) {x : El} {k i v : Int} (hx : x ∈ L) (hk : x.k = k) (hi : x.i = i) (hv : x.w = v) :
    Calls Try.prog 15 #[.pointer (some ⟨p, 0, none⟩), .int .i64 k, .int .i64 i] w (TAns M w p (.tuple #[.int .i64 v, .int .i64 0]) (cut k i L)) := by
  subst hk hi hv; exact tout h hx
end Go.Proofs.Ytbfnaejfmpnkbaa
