/- SpanPlays: the calls that a play makes, told of the tree and the list together. -/
import Derived.Test.YtbfnaejfmpnkbaaPlayl
namespace Go.Proofs.Ytbfnaejfmpnkbaa
open Go.ChangeShapes Go.WideShapes Go.ChangeAt Go.RowKit
set_option linter.unusedVariables false

/-- The tree is ahead of the list by one change. -/
def Ahead (B : Nat) (w : World) (p : Nat) (V : Value) (L L' : List El) : Prop :=
  ∃ M : Nat → Prop, TreeAt M w p L' ∧ ThingsAt w B V L ∧ (∀ k, V.ownBlock = some k → ¬ M k) ∧ ∀ k, M k → B ≤ k

section
variable {B p : Nat} {w w' : World} {V : Value} {L L' : List El}
theorem Ahead.things (h : Ahead B w p V L L') : ThingsAt w B V L := by obtain ⟨M, -, h2, -⟩ := h; exact h2
theorem Ahead.later (h : Ahead B w p V L L') (hO : Only (fun _ => False) w w') : Ahead B w' p V L L' := by
  obtain ⟨M, h1, h2, h3, h4⟩ := h
  exact ⟨M, h1.later hO, h2.later hO, h3, h4⟩

theorem play_arg (h : Play B w p V L) (k i v : Int) (hv : v < 0 ∨ 1000000 < v) :
    Calls Try.prog 10 #[.pointer (some ⟨p, 0, none⟩), .int .i64 k, .int .i64 i, .int .i64 v] w fun e w' => e = .returned (.int .i64 1) ∧ w = w' := tput_arg k i v hv w

theorem play_there (h : Play B w p V L) {k i : Int} (hk : Is L k i) {v : Int} (v0 : 0 ≤ v) (v1 : v ≤ 1000000) (hB : B ≤ w.heap.size) :
    Calls Try.prog 10 #[.pointer (some ⟨p, 0, none⟩), .int .i64 k, .int .i64 i, .int .i64 v] w fun e w' => e = .returned (.int .i64 5) ∧ Play B w' p V L ∧ Below B w w' := by
  have hp := h
  obtain ⟨M, h1, -⟩ := h
  have hc := tput_there h1 hk v v0 v1
  refine hc.mono ?_
  rintro e w' ⟨rfl, ho⟩
  exact ⟨rfl, hp.later ho, ho.below hB (fun _ e => e.elim)⟩

theorem play_none (h : Play B w p V L) {k i : Int} (hk : ¬ Is L k i) (hB : B ≤ w.heap.size) :
    Calls Try.prog 15 #[.pointer (some ⟨p, 0, none⟩), .int .i64 k, .int .i64 i] w fun e w' => e = .returned (.tuple #[.int .i64 0, .int .i64 4]) ∧ Play B w' p V L ∧ Below B w w' := by
  have hp := h
  obtain ⟨M, h1, -⟩ := h
  have hc := tout_none h1 hk
  refine hc.mono ?_
  rintro e w' ⟨rfl, ho⟩
  exact ⟨rfl, hp.later ho, ho.below hB (fun _ e => e.elim)⟩

theorem play_put (h : Play B w p V L) {k i v : Int} (hno : ¬ Is L k i) (v0 : 0 ≤ v) (v1 : v ≤ 1000000) (hn : L.length + 1 ≤ 6000000000000) (hB : B ≤ w.heap.size) :
    Calls Try.prog 10 #[.pointer (some ⟨p, 0, none⟩), .int .i64 k, .int .i64 i, .int .i64 v] w fun e w' => e = .returned (.int .i64 0) ∧ Ahead B w' p V L (put ⟨k, i, v⟩ L) ∧ Below B w w' := by
  obtain ⟨M, h1, h2, h3, h4⟩ := h
  have hc := tput h1 hno v0 v1 hn
  refine hc.mono ?_
  rintro e w' ⟨rfl, ht, ho⟩
  obtain ⟨g1, g2, g3, g4, g5⟩ := Play.tree h1 h2 h3 h4 hB ht ho
  exact ⟨rfl, ⟨_, g1, g2, g3, g4⟩, g5⟩

theorem play_out (h : Play B w p V L) {k i v : Int} {x : El} (hx : x ∈ L) (hk : x.k = k) (hi : x.i = i) (hv : x.w = v) (hB : B ≤ w.heap.size) :
    Calls Try.prog 15 #[.pointer (some ⟨p, 0, none⟩), .int .i64 k, .int .i64 i] w fun e w' => e = .returned (.tuple #[.int .i64 v, .int .i64 0]) ∧ Ahead B w' p V L (cut k i L) ∧ Below B w w' := by
  obtain ⟨M, h1, h2, h3, h4⟩ := h
  have hc := tout_is h1 hx hk hi hv
  refine hc.mono ?_
  rintro e w' ⟨rfl, ht, ho⟩
  obtain ⟨g1, g2, g3, g4, g5⟩ := Play.tree h1 h2 h3 h4 hB ht ho
  exact ⟨rfl, ⟨_, g1, g2, g3, g4⟩, g5⟩

theorem play_ins (h : Ahead B w p V L L') {k i v : Int} {j : Nat} (hj : j ≤ L.length) (hL : L' = L.take j ++ ⟨k, i, v⟩ :: L.drop j) (hB : B ≤ w.heap.size) (hbig : (L.length + 1) * 24 ≤ 140737488355328) :
    Calls Try.prog 14 #[V, .int .i64 j, .slice (some ⟨w.heap.size, 0, none⟩) 1 1] (w.alloc (.cells #[.int .i64 k, .int .i64 i, .int .i64 v] 32)) fun e w' => ∃ V', e = .returned V' ∧ Play B w' p V' L' ∧ Below B w w' := by
  have hO : Only (fun _ => False) w (w.alloc (.cells #[.int .i64 k, .int .i64 i, .int .i64 v] 32)) := (Only.refl _ w).alloc _
  have hown := h.things
  have h2 := h.later hO
  obtain ⟨M, g1, g2, g3, g4⟩ := h2
  have hB2 : B ≤ (w.alloc (.cells #[.int .i64 k, .int .i64 i, .int .i64 v] 32)).heap.size := Nat.le_trans hB (by simp)
  have hc := insert_any B w.heap.size j V L ⟨k, i, v⟩ _ g2 (heap_alloc_new w _) (fun g hg e => by have := own_lt hown hg; omega) hj hB2 hbig
  refine hc.mono ?_
  rintro e w' ⟨V', rfl, hl, ho, hat⟩
  rw [← hL] at hl
  have := Play.list g1 g2 g3 g4 hB2 hl ho hat
  exact ⟨V', rfl, this.1, (hO.below hB (fun _ e => e.elim)).trans this.2⟩

theorem play_del {g m cap j : Nat} (h : Ahead B w p (.slice (some ⟨g, 0, none⟩) (m + 1) cap) L L') (hm : L.length = m + 1) (hj : j < m + 1) (hL : L' = L.eraseIdx j) (hB : B ≤ w.heap.size) (hb : m ≤ 6000000000000) :
    Calls Try.prog 16 #[.slice (some ⟨g, 0, none⟩) (m + 1) cap, .int .i64 j, .int .i64 ((j : Int) + 1)] w fun e w' => e = .returned (.slice (some ⟨g, 0, none⟩) m cap) ∧ Play B w' p (.slice (some ⟨g, 0, none⟩) m cap) L' ∧ Below B w w' := by
  obtain ⟨M, g1, g2, g3, g4⟩ := h
  have hc := delete_thing B g m cap j L w g2 hm hj hb
  refine hc.mono ?_
  rintro e w' ⟨rfl, hl, ho⟩
  rw [← hL] at hl
  have := Play.list (V' := .slice (some ⟨g, 0, none⟩) m cap) g1 g2 g3 g4 hB hl (ho.mono (fun k _ e => by subst e; rfl)) (fun q hq => Or.inl (by cases hq; rfl))
  exact ⟨rfl, this.1, this.2⟩
end
end Go.Proofs.Ytbfnaejfmpnkbaa
