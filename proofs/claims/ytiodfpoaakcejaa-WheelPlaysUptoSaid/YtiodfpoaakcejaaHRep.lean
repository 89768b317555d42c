/- The heap in memory: a struct, the row of its items, and the map from each id to its place. -/
import Derived.Test.YtiodfpoaakcejaaHPure
import Derived.BigRegion
import Derived.IntWalk
namespace Go.Proofs.Ytiodfpoaakcejaa.Hp
open Go.ChangeShapes Go.WideShapes Go.ChangeAt Go.RowKit Go.Maps
set_option linter.unusedVariables false

/-- The cells of a row of items. -/
def cellsOf (L : List (Int × Int)) : List Value := L.flatMap fun x => [.int .i64 x.1, .int .i64 x.2]

theorem cellsOf_len (L : List (Int × Int)) : (cellsOf L).length = L.length * 2 := by
  induction L with
  | nil => rfl
  | cons x xs ih => simp only [cellsOf, List.flatMap_cons, List.length_append, List.length_cons, List.length_nil] at *; omega

theorem cellsOf_at {L : List (Int × Int)} : ∀ {i : Nat}, i < L.length → (cellsOf L)[i * 2]? = some (.int .i64 (it L i).1) ∧ (cellsOf L)[i * 2 + 1]? = some (.int .i64 (it L i).2) := by
  induction L with
  | nil => intro i h; cases h
  | cons x xs ih =>
    intro i h
    cases i with
    | zero => exact ⟨rfl, rfl⟩
    | succ i =>
      have := ih (i := i) (by simpa using h)
      have e1 : (i + 1) * 2 = i * 2 + 2 := by omega
      rw [e1]
      simpa [cellsOf, it, List.getD] using this

theorem cellsOf_append (L K : List (Int × Int)) : cellsOf (L ++ K) = cellsOf L ++ cellsOf K := by simp [cellsOf]

theorem cellsOf_set {L : List (Int × Int)} {x : Int × Int} : ∀ {i : Nat}, i < L.length → ((cellsOf L).set (i * 2) (.int .i64 x.1)).set (i * 2 + 1) (.int .i64 x.2) = cellsOf (L.set i x) := by
  induction L with
  | nil => intro i h; cases h
  | cons y ys ih =>
    intro i h
    cases i with
    | zero => rfl
    | succ i =>
      have := ih (i := i) (by simpa using h)
      have e1 : (i + 1) * 2 = i * 2 + 2 := by omega
      rw [e1]
      simpa [cellsOf] using this

/-- An id as a key. -/
abbrev key (id : Int) : Lit := .int .i64 id

/-- A place as what a map reads at a key. -/
abbrev spot (i : Int) : DataW Unit := .lit (.int .i64 i)

/-- The map tells of each id, and of no other, where it is. -/
structure Placed (D : DataW Unit) (L : List (Int × Int)) : Prop where
  tidy : Tidy D
  size : Maps.size D = L.length
  there : ∀ i, i < L.length → Maps.has D (key (it L i).1) = true ∧ ∀ z, D.atKey (key (it L i).1) z = spot i
  only : ∀ id, Maps.has D (key id) = true → ∃ i, i < L.length ∧ (it L i).1 = id

theorem key_ne {a b : Int} (h : a ≠ b) : key a ≠ key b := by intro e; cases e; exact h rfl

theorem key_lit (a : Int) : WideAt.IsKeyLit (key a) := by simp [WideAt.IsKeyLit]

/-- The ids of the items are all different. -/
def Apart (L : List (Int × Int)) : Prop := ∀ i j, i < L.length → j < L.length → (it L i).1 = (it L j).1 → i = j

theorem apart_swap {L : List (Int × Int)} {i j : Nat} (hi : i < L.length) (hj : j < L.length) (h : Apart L) : Apart (swapL L i j) := by
  intro a b ha hb he
  rw [swapL_len] at ha hb
  rw [it_swap hi hj, it_swap hi hj] at he
  have h1 := h a b ha hb
  have h2 := h a i ha hi
  have h3 := h a j ha hj
  have h4 := h i b hi hb
  have h5 := h j b hj hb
  have h6 := h i j hi hj
  have h7 := h j i hj hi
  repeat' split at he
  all_goals first | omega | (have := h1 he; omega) | (have := h2 he; omega) | (have := h3 he; omega) | (have := h4 he; omega) | (have := h5 he; omega) | (have := h6 he; omega) | (have := h7 he; omega)

/-- The map behind an exchange. -/
theorem placed_swap {D : DataW Unit} {L : List (Int × Int)} {i j : Nat} (hi : i < L.length) (hj : j < L.length) (ha : Apart L) (h : Placed D L) :
    Placed ((D.put (key (it L j).1) (spot i)).put (key (it L i).1) (spot j)) (swapL L i j) := by
  have hti := h.there i hi
  have htj := h.there j hj
  have t1 : Tidy (D.put (key (it L j).1) (spot i)) := h.tidy.put (key_lit _) _
  have s1 : Maps.size (D.put (key (it L j).1) (spot i)) = L.length := by rw [size_put h.tidy, if_pos htj.1, h.size]
  have hh : ∀ id, Maps.has ((D.put (key (it L j).1) (spot i)).put (key (it L i).1) (spot j)) (key id) = Maps.has D (key id) := by
    intro id
    by_cases h1 : id = (it L i).1
    · subst h1; rw [has_put_same t1.isMap (key_lit _), hti.1]
    · rw [has_put_other (key_ne h1)]
      by_cases h2 : id = (it L j).1
      · subst h2; rw [has_put_same h.tidy.isMap (key_lit _), htj.1]
      · rw [has_put_other (key_ne h2)]
  refine ⟨t1.put (key_lit _) _, ?_, fun k hk => ?_, fun id hid => ?_⟩
  · rw [size_put t1, if_pos, s1, swapL_len]
    by_cases h1 : (it L i).1 = (it L j).1
    · rw [h1]; exact has_put_same h.tidy.isMap (key_lit _) _
    · rw [has_put_other (key_ne h1)]; exact hti.1
  · rw [swapL_len] at hk
    rw [hh, it_swap hi hj]
    by_cases h1 : k = i
    · subst h1
      rw [if_pos rfl]
      refine ⟨htj.1, fun z => ?_⟩
      by_cases h2 : (it L j).1 = (it L k).1
      · have := ha j k hj hi h2; subst this
        rw [atKey_put_same t1.isMap (key_lit _)]
      · rw [atKey_put_other (key_ne h2), atKey_put_same h.tidy.isMap (key_lit _)]
    · rw [if_neg h1]
      by_cases h2 : k = j
      · subst h2
        rw [if_pos rfl]
        exact ⟨hti.1, fun z => by rw [atKey_put_same t1.isMap (key_lit _)]⟩
      · rw [if_neg h2]
        have hk2 := h.there k hk
        refine ⟨hk2.1, fun z => ?_⟩
        rw [atKey_put_other (key_ne fun e => h1 (ha k i hk hi e)), atKey_put_other (key_ne fun e => h2 (ha k j hk hj e)), hk2.2]
  · rw [hh] at hid
    obtain ⟨k, hk, he⟩ := h.only id hid
    rw [swapL_len]
    by_cases h1 : k = i
    · exact ⟨j, hj, by rw [it_swap hi hj]; subst h1; by_cases h2 : j = k; · subst h2; rw [if_pos rfl]; exact he
                       · rw [if_neg h2, if_pos rfl]; exact he⟩
    · by_cases h2 : k = j
      · exact ⟨i, hi, by rw [it_swap hi hj, if_pos rfl, ← h2]; exact he⟩
      · exact ⟨k, hk, by rw [it_swap hi hj, if_neg h1, if_neg h2]; exact he⟩

/-- A map's size is the least bound on it. -/
theorem own_tight {w : World} {P : Program} {k : TypeId} {R : Value → Option (DataW Unit × List MemPlace)} {b n : Nat} {D : DataW Unit} (h : w.ownsMap P k R b n D) : w.ownsMap P k R b (Maps.size D) D := by
  obtain ⟨es, clock, h1, h2, h3, rfl⟩ := h
  refine ⟨es, clock, h1, h2, ?_, rfl⟩
  rw [size_eq, length_sorted]
  simp

/-- Where the two cells of a heap lie: at o of block p, which is of type T, and whose other cells are as F says. -/
def Host (w : World) (p o T : Nat) (F : Nat → Option Value) (v m : Value) : Prop :=
  T ≠ 79 ∧ ∃ cs : Array Value, w.heap[p]? = some (.cells cs T (0, 0)) ∧ cs[o]? = some v ∧ cs[o + 1]? = some m ∧ ∀ i, i ≠ o → i ≠ o + 1 → cs[i]? = F i

section
variable {w w' : World} {p o T : Nat} {F : Nat → Option Value} {v m : Value}
theorem Host.there (h : Host w p o T F v m) : p < w.heap.size := by
  obtain ⟨-, cs, h, -⟩ := h; exact block_there h
theorem Host.moved (h : Host w p o T F v m) (e : w'.heap[p]? = w.heap[p]?) : Host w' p o T F v m := by
  obtain ⟨t, cs, h, r⟩ := h; exact ⟨t, cs, e.trans h, r⟩
theorem Host.c0 (h : Host w p o T F v m) : w.cell? ⟨p, o, none⟩ = some v := by
  obtain ⟨-, cs, h, h0, -⟩ := h; rw [cell_at h]; exact h0
theorem Host.c1 (h : Host w p o T F v m) : w.cell? ⟨p, o + 1, none⟩ = some m := by
  obtain ⟨-, cs, h, -, h1, -⟩ := h; rw [cell_at h]; exact h1
theorem Host.cell (h : Host w p o T F v m) (i : Nat) (h0 : i ≠ o) (h1 : i ≠ o + 1) : w.cell? ⟨p, i, none⟩ = F i := by
  obtain ⟨-, cs, h, -, -, h2⟩ := h; rw [cell_at h]; exact h2 i h0 h1
theorem Host.frozen (h : Host w p o T F v m) (i : Nat) : w.frozen? ⟨p, i, none⟩ = false := by
  obtain ⟨-, cs, h, -⟩ := h; exact frozen_at h i
theorem Host.not_item (h : Host w p o T F v m) {cs : Array Value} (e : w.heap[p]? = some (.cells cs 79 (0, 0))) : False := by
  obtain ⟨t, cs', h, -⟩ := h; rw [e] at h; cases h; exact t rfl
theorem Host.not_map (h : Host w p o T F v m) {o1 : Obj} (e : w.heap[p]? = some o1) (hn : ∀ cs t fr, o1 ≠ .cells cs t fr) : False := by
  obtain ⟨t, cs', h, -⟩ := h; rw [e] at h; cases h; exact hn _ _ _ rfl
theorem Host.set0 (h : Host w p o T F v m) (v' : Value) : Host (w.setCell ⟨p, o, none⟩ v') p o T F v' m := by
  obtain ⟨t, cs, h, h0, h1, h2⟩ := h
  refine ⟨t, _, heap_setCell_same w p o _ T _ h, ?_, ?_, fun i a b => ?_⟩
  · have := (Array.getElem?_eq_some_iff.1 h0).1; simp [this]
  · rw [Array.getElem?_setIfInBounds, if_neg (by omega)]; exact h1
  · rw [Array.getElem?_setIfInBounds, if_neg (by omega)]; exact h2 i a b
theorem Host.set1 (h : Host w p o T F v m) (m' : Value) : Host (w.setCell ⟨p, o + 1, none⟩ m') p o T F v m' := by
  obtain ⟨t, cs, h, h0, h1, h2⟩ := h
  refine ⟨t, _, heap_setCell_same w p (o + 1) _ T _ h, ?_, ?_, fun i a b => ?_⟩
  · rw [Array.getElem?_setIfInBounds, if_neg (by omega)]; exact h0
  · have := (Array.getElem?_eq_some_iff.1 h1).1; simp [this]
  · rw [Array.getElem?_setIfInBounds, if_neg (by omega)]; exact h2 i a b
/-- Another cell of the block is written. -/
theorem Host.set (h : Host w p o T F v m) (j : Nat) (h0 : j ≠ o) (h1 : j ≠ o + 1) (hj : (F j).isSome = true) (u : Value) : Host (w.setCell ⟨p, j, none⟩ u) p o T (fun i => if i = j then some u else F i) v m := by
  obtain ⟨t, cs, h, q0, q1, q2⟩ := h
  refine ⟨t, _, heap_setCell_same w p j _ T _ h, ?_, ?_, fun i a b => ?_⟩
  · rw [Array.getElem?_setIfInBounds, if_neg h0]; exact q0
  · rw [Array.getElem?_setIfInBounds, if_neg h1]; exact q1
  · rw [Array.getElem?_setIfInBounds]
    show _ = if i = j then some u else F i
    by_cases e : j = i
    · subst e
      have := q2 j h0 h1
      rw [← this] at hj
      obtain ⟨x, hx⟩ := Option.isSome_iff_exists.1 hj
      simp [(Array.getElem?_eq_some_iff.1 hx).1]
    · rw [if_neg e, if_neg (fun q => e q.symm)]; exact q2 i a b
end

/-- A heap with items, in memory: the struct in block p, the items in block g, the map in block b. -/
structure Rep (p o T : Nat) (F : Nat → Option Value) (g b cap : Nat) (w : World) (L : List (Int × Int)) : Prop where
  self : Host w p o T F (.slice (some ⟨g, 0, none⟩) L.length cap) (.map (some b))
  items : w.ownsRow 0 79 2 (.slice (some ⟨g, 0, none⟩) L.length cap) L.length (cellsOf L)
  map : ∃ D, w.ownsMap Try.prog 3 (plainElem Try.prog 3) b L.length D ∧ Placed D L
  apart : Apart L
  wf : ∀ i, i < L.length → (Lit.int .i64 (it L i).1).wf = true
  len : L.length ≤ 6000000000000

theorem law3 : Keyed Try.prog 3 := int_keyed Try.underlying3
theorem zero3 (w : World) : (zeroValue 3).run Try.prog w = .ok (.int .i64 0) w := by kernel_rfl

section
variable {p o T : Nat} {F : Nat → Option Value} {g b cap : Nat} {w : World} {L : List (Int × Int)}
theorem Rep.block (h : Rep p o T F g b cap w L) : ∃ cur, w.heap[g]? = some (.cells cur 79 (0, 0)) ∧ L.length ≤ cap ∧ cap ≤ maxLen ∧ cur.size = cap * 2 ∧ cur.toList.take (L.length * 2) = cellsOf L := by
  rcases h.items.2 with ⟨h1, _⟩ | ⟨g', cap', cur, h1, _, h2, h3, h4, h5, h6⟩
  · cases h1
  · cases h1; exact ⟨cur, h2, h3, h4, h5, h6⟩

theorem Rep.cell (h : Rep p o T F g b cap w L) {i : Nat} (hi : i < L.length) : w.cell? ⟨g, i * 2, none⟩ = some (.int .i64 (it L i).1) ∧ w.cell? ⟨g, i * 2 + 1, none⟩ = some (.int .i64 (it L i).2) := by
  obtain ⟨cur, h1, h2, h3, h4, h5⟩ := h.block
  rw [cell_at h1, cell_at h1]
  have hc := cellsOf_at hi
  rw [← h5, List.getElem?_take_of_lt (by omega), List.getElem?_take_of_lt (by omega)] at hc
  simpa using hc
end
end Go.Proofs.Ytiodfpoaakcejaa.Hp
