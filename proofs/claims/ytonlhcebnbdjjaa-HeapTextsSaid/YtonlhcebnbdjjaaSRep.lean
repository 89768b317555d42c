/- The heap in memory: a struct, the row of its items, and the map from each id to its place. -/
import Derived.Test.YtonlhcebnbdjjaaSPure
import Derived.BigRegion
import Derived.IntWalk
namespace Go.Proofs.Ytonlhcebnbdjjaa.S
open Go.ChangeShapes Go.WideShapes Go.ChangeAt Go.RowKit Go.Maps
set_option linter.unusedVariables false

/-- The cells of a row of items. -/
def cellsOf (L : List (Int × ByteArray)) : List Value := L.flatMap fun x => [.int .i64 x.1, .string x.2]

theorem cellsOf_len (L : List (Int × ByteArray)) : (cellsOf L).length = L.length * 2 := by
  induction L with
  | nil => rfl
  | cons x xs ih => simp only [cellsOf, List.flatMap_cons, List.length_append, List.length_cons, List.length_nil] at *; omega

theorem cellsOf_at {L : List (Int × ByteArray)} : ∀ {i : Nat}, i < L.length → (cellsOf L)[i * 2]? = some (.int .i64 (it L i).1) ∧ (cellsOf L)[i * 2 + 1]? = some (.string (it L i).2) := by
  induction L with
  | nil => intro i h; cases h
  | cons x xs ih =>
    intro i h
    cases i with
    | zero => exact ⟨rfl, rfl⟩
    | succ i =>
      have := ih (i := i) (by simpa using h)
      have e1 : (i + 1) * 2 = i * 2 + 2 := by omega
      rw [e1]
      simpa [cellsOf, it, List.getD] using this

theorem cellsOf_append (L K : List (Int × ByteArray)) : cellsOf (L ++ K) = cellsOf L ++ cellsOf K := by simp [cellsOf]

theorem cellsOf_set {L : List (Int × ByteArray)} {x : Int × ByteArray} : ∀ {i : Nat}, i < L.length → ((cellsOf L).set (i * 2) (.int .i64 x.1)).set (i * 2 + 1) (.string x.2) = cellsOf (L.set i x) := by
  induction L with
  | nil => intro i h; cases h
  | cons y ys ih =>
    intro i h
    cases i with
    | zero => rfl
    | succ i =>
      have := ih (i := i) (by simpa using h)
      have e1 : (i + 1) * 2 = i * 2 + 2 := by omega
      rw [e1]
      simpa [cellsOf] using this

/-- An id as a key. -/
abbrev key (id : Int) : Lit := .int .i64 id

/-- A place as what a map reads at a key. -/
abbrev spot (i : Int) : DataW Unit := .lit (.int .i64 i)

/-- The map tells of each id, and of no other, where it is. -/
structure Placed (D : DataW Unit) (L : List (Int × ByteArray)) : Prop where
  tidy : Tidy D
  size : Maps.size D = L.length
  there : ∀ i, i < L.length → Maps.has D (key (it L i).1) = true ∧ ∀ z, D.atKey (key (it L i).1) z = spot i
  only : ∀ id, Maps.has D (key id) = true → ∃ i, i < L.length ∧ (it L i).1 = id

theorem key_ne {a b : Int} (h : a ≠ b) : key a ≠ key b := by intro e; cases e; exact h rfl

theorem key_lit (a : Int) : WideAt.IsKeyLit (key a) := by simp [WideAt.IsKeyLit]

/-- The ids of the items are all different. -/
def Apart (L : List (Int × ByteArray)) : Prop := ∀ i j, i < L.length → j < L.length → (it L i).1 = (it L j).1 → i = j

theorem apart_swap {L : List (Int × ByteArray)} {i j : Nat} (hi : i < L.length) (hj : j < L.length) (h : Apart L) : Apart (swapL L i j) := by
  intro a b ha hb he
  rw [swapL_len] at ha hb
  rw [it_swap hi hj, it_swap hi hj] at he
  have h1 := h a b ha hb
  have h2 := h a i ha hi
  have h3 := h a j ha hj
  have h4 := h i b hi hb
  have h5 := h j b hj hb
  have h6 := h i j hi hj
  have h7 := h j i hj hi
  repeat' split at he
  all_goals first | omega | (have := h1 he; omega) | (have := h2 he; omega) | (have := h3 he; omega) | (have := h4 he; omega) | (have := h5 he; omega) | (have := h6 he; omega) | (have := h7 he; omega)

/-- The map behind an exchange. -/
theorem placed_swap {D : DataW Unit} {L : List (Int × ByteArray)} {i j : Nat} (hi : i < L.length) (hj : j < L.length) (ha : Apart L) (h : Placed D L) :
    Placed ((D.put (key (it L j).1) (spot i)).put (key (it L i).1) (spot j)) (swapL L i j) := by
  have hti := h.there i hi
  have htj := h.there j hj
  have t1 : Tidy (D.put (key (it L j).1) (spot i)) := h.tidy.put (key_lit _) _
  have s1 : Maps.size (D.put (key (it L j).1) (spot i)) = L.length := by rw [size_put h.tidy, if_pos htj.1, h.size]
  have hh : ∀ id, Maps.has ((D.put (key (it L j).1) (spot i)).put (key (it L i).1) (spot j)) (key id) = Maps.has D (key id) := by
    intro id
    by_cases h1 : id = (it L i).1
    · subst h1; rw [has_put_same t1.isMap (key_lit _), hti.1]
    · rw [has_put_other (key_ne h1)]
      by_cases h2 : id = (it L j).1
      · subst h2; rw [has_put_same h.tidy.isMap (key_lit _), htj.1]
      · rw [has_put_other (key_ne h2)]
  refine ⟨t1.put (key_lit _) _, ?_, fun k hk => ?_, fun id hid => ?_⟩
  · rw [size_put t1, if_pos, s1, swapL_len]
    by_cases h1 : (it L i).1 = (it L j).1
    · rw [h1]; exact has_put_same h.tidy.isMap (key_lit _) _
    · rw [has_put_other (key_ne h1)]; exact hti.1
  · rw [swapL_len] at hk
    rw [hh, it_swap hi hj]
    by_cases h1 : k = i
    · subst h1
      rw [if_pos rfl]
      refine ⟨htj.1, fun z => ?_⟩
      by_cases h2 : (it L j).1 = (it L k).1
      · have := ha j k hj hi h2; subst this
        rw [atKey_put_same t1.isMap (key_lit _)]
      · rw [atKey_put_other (key_ne h2), atKey_put_same h.tidy.isMap (key_lit _)]
    · rw [if_neg h1]
      by_cases h2 : k = j
      · subst h2
        rw [if_pos rfl]
        exact ⟨hti.1, fun z => by rw [atKey_put_same t1.isMap (key_lit _)]⟩
      · rw [if_neg h2]
        have hk2 := h.there k hk
        refine ⟨hk2.1, fun z => ?_⟩
        rw [atKey_put_other (key_ne fun e => h1 (ha k i hk hi e)), atKey_put_other (key_ne fun e => h2 (ha k j hk hj e)), hk2.2]
  · rw [hh] at hid
    obtain ⟨k, hk, he⟩ := h.only id hid
    rw [swapL_len]
    by_cases h1 : k = i
    · exact ⟨j, hj, by rw [it_swap hi hj]; subst h1; by_cases h2 : j = k; · subst h2; rw [if_pos rfl]; exact he
                       · rw [if_neg h2, if_pos rfl]; exact he⟩
    · by_cases h2 : k = j
      · exact ⟨i, hi, by rw [it_swap hi hj, if_pos rfl, ← h2]; exact he⟩
      · exact ⟨k, hk, by rw [it_swap hi hj, if_neg h1, if_neg h2]; exact he⟩

/-- A map's size is the least bound on it. -/
theorem own_tight {w : World} {P : Program} {k : TypeId} {R : Value → Option (DataW Unit × List MemPlace)} {b n : Nat} {D : DataW Unit} (h : w.ownsMap P k R b n D) : w.ownsMap P k R b (Maps.size D) D := by
  obtain ⟨es, clock, h1, h2, h3, rfl⟩ := h
  refine ⟨es, clock, h1, h2, ?_, rfl⟩
  rw [size_eq, length_sorted]
  simp

/-- A heap with items, in memory: the struct in block p, the items in block g, the map in block b. -/
structure Rep (p g b cap : Nat) (w : World) (L : List (Int × ByteArray)) : Prop where
  self : w.heap[p]? = some (.cells #[.slice (some ⟨g, 0, none⟩) L.length cap, .map (some b)] 67 (0, 0))
  items : w.ownsRow 0 69 2 (.slice (some ⟨g, 0, none⟩) L.length cap) L.length (cellsOf L)
  map : ∃ D, w.ownsMap Try.prog 3 (plainElem Try.prog 3) b L.length D ∧ Placed D L
  apart : Apart L
  wf : ∀ i, i < L.length → (Lit.int .i64 (it L i).1).wf = true
  len : L.length ≤ 5864062014700

theorem law3 : Keyed Try.prog 3 := int_keyed Try.underlying3
theorem zero3 (w : World) : (zeroValue 3).run Try.prog w = .ok (.int .i64 0) w := by kernel_rfl

section
variable {p g b cap : Nat} {w : World} {L : List (Int × ByteArray)}
theorem Rep.block (h : Rep p g b cap w L) : ∃ cur, w.heap[g]? = some (.cells cur 69 (0, 0)) ∧ L.length ≤ cap ∧ cap ≤ maxLen ∧ cur.size = cap * 2 ∧ cur.toList.take (L.length * 2) = cellsOf L := by
  rcases h.items.2 with ⟨h1, _⟩ | ⟨g', cap', cur, h1, _, h2, h3, h4, h5, h6⟩
  · cases h1
  · cases h1; exact ⟨cur, h2, h3, h4, h5, h6⟩

theorem Rep.cell (h : Rep p g b cap w L) {i : Nat} (hi : i < L.length) : w.cell? ⟨g, i * 2, none⟩ = some (.int .i64 (it L i).1) ∧ w.cell? ⟨g, i * 2 + 1, none⟩ = some (.string (it L i).2) := by
  obtain ⟨cur, h1, h2, h3, h4, h5⟩ := h.block
  rw [cell_at h1, cell_at h1]
  have hc := cellsOf_at hi
  rw [← h5, List.getElem?_take_of_lt (by omega), List.getElem?_take_of_lt (by omega)] at hc
  simpa using hc
end
end Go.Proofs.Ytonlhcebnbdjjaa.S
