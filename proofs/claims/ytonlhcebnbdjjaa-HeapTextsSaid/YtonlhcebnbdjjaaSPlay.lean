/- A heap and the list of pairs beside it. -/
import Derived.Test.YtonlhcebnbdjjaaSPdel
namespace Go.Proofs.Ytonlhcebnbdjjaa.S
open Go.ChangeShapes Go.WideShapes Go.ChangeAt Go.RowKit Go.Maps
set_option linter.unusedVariables false

/-- A heap with the items Sh, a row of the pairs Sp, and boxes X of numbers, in blocks from B on that have nothing to do with each other. -/
def Play (B : Nat) (w : World) (p : Nat) (V : Value) (Sh Sp : List (Int × ByteArray)) (X : List (Nat × Int)) : Prop :=
  ∃ M : Nat → Prop, HeapAt M w p Sh ∧ PairsAt w B V Sp ∧ (∀ k, V.ownBlock = some k → ¬ M k) ∧ (∀ k, M k → B ≤ k) ∧ ∀ x ∈ X, B ≤ x.1 ∧ ¬ M x.1 ∧ w.heap[x.1]? = some (.cells #[.int .i64 x.2] 3 (0, 0))

def PAns (B : Nat) (w : World) (p : Nat) (V v : Value) (Sh Sp : List (Int × ByteArray)) (X : List (Nat × Int)) (e : Ending) (w' : World) : Prop :=
  e = .returned v ∧ Play B w' p V Sh Sp X ∧ Below B w w'

section
variable {B : Nat} {w w' : World} {p : Nat} {V : Value} {Sh Sp : List (Int × ByteArray)} {X : List (Nat × Int)}

theorem Play.low (h : Play B w p V Sh Sp X) : B ≤ w.heap.size := by
  obtain ⟨M, ⟨L, -, -, hm, ⟨-, hf⟩ | ⟨g, b, cap, -, -, hr⟩⟩, -, -, h4, -⟩ := h
  · have := h4 _ hm; have := block_there hf; omega
  · have := h4 _ hm; have := block_there hr.self; omega

theorem Play.later (h : Play B w p V Sh Sp X) (hO : Only (fun _ => False) w w') : Play B w' p V Sh Sp X := by
  obtain ⟨M, h1, h2, h3, h4, h5⟩ := h
  exact ⟨M, h1.later hO, h2.later hO, h3, h4, fun x hx => ⟨(h5 x hx).1, (h5 x hx).2.1, (hO.block _ (block_there (h5 x hx).2.2) (fun e => e)).trans (h5 x hx).2.2⟩⟩

theorem Play.below (h : Play B w p V Sh Sp X) (hb : Below w.heap.size w w') : Play B w' p V Sh Sp X := h.later (Only.of_below hb)

theorem Play.forget (h : Play B w p V Sh Sp X) : Play B w p V Sh Sp [] := by
  obtain ⟨M, h1, h2, h3, h4, h5⟩ := h
  exact ⟨M, h1, h2, h3, h4, fun x hx => absurd hx (by simp)⟩

theorem Play.box (h : Play B w p V Sh Sp []) (id : Int) : Play B (w.alloc (.cells #[.int .i64 id] 3)) p V Sh Sp [(w.heap.size, id)] := by
  have hB := h.low
  obtain ⟨M, h1, h2, h3, h4, h5⟩ := h
  have hO : Only (fun _ => False) w (w.alloc (.cells #[.int .i64 id] 3)) := (Only.refl _ w).alloc _
  refine ⟨_, h1.there.later hO, h2.later hO, fun k hk e => h3 k hk e.1, fun k hk => h4 k hk.1, fun x hx => ?_⟩
  simp only [List.mem_singleton] at hx
  subst hx
  exact ⟨hB, fun e => absurd e.2 (Nat.lt_irrefl _), heap_alloc_new w _⟩

theorem play_heap {f : Nat} {args : Array Value} {v : Value} {Sh' : List (Int × ByteArray)} (h : Play B w p V Sh Sp X) (hc : ∀ M, HeapAt M w p Sh → Calls Try.prog f args w (HAns M w p v Sh')) :
    Calls Try.prog f args w (PAns B w p V v Sh' Sp X) := by
  have hB := h.low
  obtain ⟨M, h1, h2, h3, h4, h5⟩ := h
  refine (hc M h1).mono ?_
  rintro e w' ⟨rfl, ha, hO⟩
  refine ⟨rfl, ⟨_, ha, owns_kept h2 hO h3, ?_, ?_, fun x hx => ?_⟩, hO.below hB h4⟩
  · rintro k hk (e | e)
    · exact h3 k hk e
    · have := (h2.lt k hk).2; omega
  · rintro k (e | e)
    · exact h4 k e
    · omega
  · obtain ⟨q1, q2, q3⟩ := h5 x hx
    refine ⟨q1, ?_, (hO.block _ (block_there q3) q2).trans q3⟩
    rintro (e | e)
    · exact q2 e
    · have := block_there q3; omega

theorem play_quiet {f : Nat} {args : Array Value} {v : Value} (h : Play B w p V Sh Sp X) (hc : ∀ M, HeapAt M w p Sh → Calls Try.prog f args w (fun e w' => e = .returned v ∧ w = w')) :
    Calls Try.prog f args w (PAns B w p V v Sh Sp X) := by
  have h0 := h
  obtain ⟨M, h1, h2⟩ := h
  refine (hc M h1).mono ?_
  rintro e w' ⟨rfl, rfl⟩
  exact ⟨rfl, h0, Below.refl _ _⟩

theorem play_read {f : Nat} {args : Array Value} {v : Value} (h : Play B w p V Sh Sp X) (hc : ∀ M, HeapAt M w p Sh → Calls Try.prog f args w (fun e w' => e = .returned v ∧ Only (fun _ => False) w w')) :
    Calls Try.prog f args w (PAns B w p V v Sh Sp X) := by
  have h0 := h
  have hB := h.low
  obtain ⟨M, h1, h2⟩ := h
  refine (hc M h1).mono ?_
  rintro e w' ⟨rfl, hO⟩
  exact ⟨rfl, h0.later hO, hO.below hB (fun _ e => e.elim)⟩

theorem Play.pairs (h : Play B w p V Sh Sp X) : PairsAt w B V Sp := by obtain ⟨M, h1, h2, h3⟩ := h; exact h2
theorem Play.ids (h : Play B w p V Sh Sp X) : Ids Sh := by obtain ⟨M, h1, h2⟩ := h; exact h1.ids
theorem Play.boxed {Bx : Nat} {id : Int} (h : Play B w p V Sh Sp [(Bx, id)]) : w.heap[Bx]? = some (.cells #[.int .i64 id] 3 (0, 0)) := by
  obtain ⟨M, h1, h2, h3, h4, h5⟩ := h
  exact (h5 (Bx, id) (by simp)).2.2

/-- The pairs' row turned, and nothing else. -/
theorem Play.turned {g : Nat} {V' : Value} {Sp' : List (Int × ByteArray)} (h : Play B w p V Sh Sp X) (hV : V.ownBlock = some g) (hO : Only (· = g) w w') (hP : PairsAt w' B V' Sp') (hV' : ∀ k, V'.ownBlock = some k → k = g) : Play B w' p V' Sh Sp' X ∧ Below B w w' := by
  have hB := h.low
  obtain ⟨M, h1, h2, h3, h4, h5⟩ := h
  refine ⟨⟨M, h1.keep hO (fun k _ hk e => h3 g hV (e ▸ hk)), hP, fun k hk => by rw [hV' k hk]; exact h3 g hV, h4, fun x hx => ?_⟩, hO.below hB (fun k e => ?_)⟩
  · obtain ⟨q1, q2, q3⟩ := h5 x hx
    refine ⟨q1, q2, (hO.block _ (block_there q3) ?_).trans q3⟩
    rintro e
    obtain ⟨cur, hc⟩ := owns_type h2 hV
    rw [← e, q3] at hc; cases hc
  · subst e; exact (h2.lt _ hV).1

theorem play_del {g m cap i : Nat} (h : Play B w p (.slice (some ⟨g, 0, none⟩) (m + 1) cap) Sh Sp X) (hS : Sp.length = m + 1) (hi : i < m + 1) (hb : m ≤ 5864062014700) :
    Calls Try.prog 40 #[.slice (some ⟨g, 0, none⟩) (m + 1) cap, .int .i64 i, .int .i64 ((i : Int) + 1)] w (PAns B w p (.slice (some ⟨g, 0, none⟩) m cap) (.slice (some ⟨g, 0, none⟩) m cap) Sh (Sp.eraseIdx i) X) := by
  refine (delete_pair B g m cap i Sp w h.pairs hS hi hb).mono ?_
  rintro e w' ⟨rfl, hP, hO⟩
  obtain ⟨h1, h2⟩ := h.turned (g := g) rfl hO hP (fun k hk => by cases hk; rfl)
  exact ⟨rfl, h1, h2⟩

theorem Play.store {g n cap i : Nat} (h : Play B w p (.slice (some ⟨g, 0, none⟩) n cap) Sh Sp X) (hS : Sp.length = n) (hi : i < n) (k : ByteArray) :
    Play B (w.setCell ⟨g, i * 2 + 1, none⟩ (.string k)) p (.slice (some ⟨g, 0, none⟩) n cap) Sh (setKey Sp i k) X ∧ Below B w (w.setCell ⟨g, i * 2 + 1, none⟩ (.string k)) := by
  refine h.turned (g := g) rfl (Only.setCell (S := fun x => x = g) (Only.refl _ w) (p := ⟨g, i * 2 + 1, none⟩) rfl _) ?_ (fun k hk => by cases hk; rfl)
  have hl := setKey_len Sp i k
  rcases h.pairs with ⟨hlen, ⟨q1, _⟩ | ⟨g', cap', cur, q1, hb, q2, q3, q4, q5, q6⟩⟩
  · cases q1
  · cases q1
    unfold PairsAt
    rw [hl]
    refine ⟨by rw [cellsOf_len, hl], Or.inr ⟨g, cap, _, by rw [hS], hb, heap_setCell_same _ g _ _ 73 _ q2, by omega, q4, by simpa using q5, ?_⟩⟩
    rw [Array.toList_setIfInBounds, take_set _ _ _ _ (by omega), q6]
    unfold setKey
    rw [← cellsOf_set (x := ((it Sp i).1, k)) (by omega)]
    congr 1
    have hc := (cellsOf_at (L := Sp) (i := i) (by omega)).1
    apply List.ext_getElem?
    intro j
    rw [List.getElem?_set]
    split
    · rename_i e; subst e
      rw [hc, if_pos (List.getElem?_eq_some_iff.1 hc).1]
    · rfl

theorem Play.append {g cap : Nat} {x : Int × ByteArray} {w3 : World} (h : Play B w p V Sh Sp X)
    (ho3 : w3.ownsRow B 73 2 (.slice (some ⟨g, 0, none⟩) (Sp.length + 1) cap) (Sp.length + 1) (cellsOf Sp ++ [.int .i64 x.1, .string x.2]))
    (hg : (w.alloc (.cells #[.int .i64 x.1, .string x.2] 73)).grownBy w3 V.ownBlock) (hat : V.ownBlock = some g ∨ g = (w.alloc (.cells #[.int .i64 x.1, .string x.2] 73)).heap.size) :
    Play B w3 p (.slice (some ⟨g, 0, none⟩) (Sp.length + 1) cap) Sh (Sp ++ [x]) X ∧ Below B w w3 := by
  have hB := h.low
  obtain ⟨M, h1, h2, h3, h4, h5⟩ := h
  have hO3 : Only (fun k => V.ownBlock = some k) w w3 := ((Only.refl (fun _ => False) w).alloc _ |>.mono (T := fun k => V.ownBlock = some k) (fun _ _ h => h.elim)).trans (Only.of_grown (S := fun k => V.ownBlock = some k) hg (fun k hk => hk)) (fun _ _ h => h)
  have hP : PairsAt w3 B (.slice (some ⟨g, 0, none⟩) (Sp.length + 1) cap) (Sp ++ [x]) := by
    unfold PairsAt
    rw [cellsOf_append, List.length_append]
    exact ho3
  refine ⟨⟨_, h1.there.keep hO3 (fun k _ hk e => h3 k e hk.1), hP, ?_, fun k hk => h4 k hk.1, fun y hy => ?_⟩, hO3.below hB (fun k e => (h2.lt k e).1)⟩
  · rintro k hk e
    cases hk
    rcases hat with q | q
    · exact h3 _ q e.1
    · have e2 : g < w.heap.size := e.2
      simp at q; omega
  · obtain ⟨q1, q2, q3⟩ := h5 y hy
    refine ⟨q1, fun e => q2 e.1, (hO3.block _ (block_there q3) (fun e => ?_)).trans q3⟩
    obtain ⟨cur, hc⟩ := owns_type h2 e
    rw [q3] at hc; cases hc
end

theorem erase_mid {l r : List (Int × ByteArray)} {x : Int × ByteArray} (h : Ids (l ++ x :: r)) : l ++ r = without (l ++ x :: r) x.1 := by
  have hn : Ids (x :: (l ++ r)) := h.perm List.perm_middle
  simp only [Ids, List.map_cons, List.nodup_cons] at hn
  have hw : ∀ y ∈ l ++ r, y.1 ≠ x.1 := fun y hy e => hn.1 (List.mem_map.2 ⟨y, hy, e⟩)
  unfold without
  rw [List.filter_append, List.filter_cons_of_neg (by simp), List.filter_eq_self.2, List.filter_eq_self.2]
  · intro y hy; simpa using hw y (List.mem_append_right _ hy)
  · intro y hy; simpa using hw y (List.mem_append_left _ hy)

theorem erase_without {S : List (Int × ByteArray)} (h : Ids S) {i : Nat} (hi : i < S.length) : S.eraseIdx i = without S (it S i).1 := by
  have hs : S = S.take i ++ it S i :: S.drop (i + 1) := by
    rw [it_eq hi, ← List.drop_eq_getElem_cons hi, List.take_append_drop]
  rw [List.eraseIdx_eq_take_drop_succ]
  generalize it S i = x at hs ⊢
  have h2 := erase_mid (l := S.take i) (r := S.drop (i + 1)) (x := x) (hs ▸ h)
  rw [h2, ← hs]
end Go.Proofs.Ytonlhcebnbdjjaa.S
