/- The contract of slices.Sort at numbers of the call's own. (Mlay: shelf.sh NAME Mlay "Derived.Shelf.SortM.Plain Derived.Shelf.SortM.SortNone Derived.Ground.SlgmProg" "shelf_lay_g SlLaysM.n5 Slgm 5 at Try <number of slices.Sort> as sortL") -/
import Derived.Test.YtddfdnhlghmapaaOne
import Derived.Test.YtddfdnhlghmapaaMlay
namespace Go.Proofs.Ytddfdnhlghmapaa
open Go.ChangeShapes Go.WideShapes Go.ChangeAt Go.RowKit Go.Shelf Go.Sort
set_option linter.unusedVariables false

abbrev leI : Int → Int → Bool := fun x y => decide (x ≤ y)
theorem sort_of_perm {l l' : List Int} (h : l.Perm l') : l.mergeSort leI = l'.mergeSort leI := by
  have tr : ∀ a b c : Int, leI a b = true → leI b c = true → leI a c = true := fun a b c h1 h2 => by simp only [leI, decide_eq_true_eq] at *; omega
  have tot : ∀ a b : Int, (leI a b || leI b a) = true := fun a b => by simp only [leI, Bool.or_eq_true, decide_eq_true_eq]; omega
  refine List.Perm.eq_of_pairwise (le := fun a b => leI a b = true) (fun a b _ _ h1 h2 => ?_) (List.pairwise_mergeSort tr tot l) (List.pairwise_mergeSort tr tot l') (((List.mergeSort_perm l leI).trans h).trans (List.mergeSort_perm l' leI).symm)
  simp only [leI, decide_eq_true_eq] at h1 h2
  omega

theorem sort_holds {w : World} {base g n c : Nat} {xs : List Int} (h : Ints w base (.slice (some ⟨g, 0, none⟩) n c) xs) : Holds (Value.int .i64) w g 0 xs.toArray := by
  intro j hj
  have hj2 : j < xs.length := by simpa using hj
  obtain ⟨g', e, hc⟩ := h.cell hj2
  cases e
  obtain ⟨cur, hb⟩ := owns_type h rfl
  rw [Nat.zero_add]
  refine ⟨?_, frozen_at hb j⟩
  rw [hc, getElem!_pos _ j (by simpa using hj)]
  simp [List.getD, hj2]

/-- The world with other numbers in the row. -/
theorem ints_put {w : World} {B g n c m : Nat} {S T : List Int} {os : Array Obj} (h : Ints w B (.slice (some ⟨g, 0, none⟩) n c) S) (hn : T.length = S.length) :
    Ints (Sort.grow (Sort.putRow (Value.int .i64) (Sort.ahead w m) g 0 T.toArray) os) B (.slice (some ⟨g, 0, none⟩) n c) T ∧ Only (· = g) w (Sort.grow (Sort.putRow (Value.int .i64) (Sort.ahead w m) g 0 T.toArray) os) := by
  rcases h with ⟨hl, ⟨h1, _⟩ | ⟨g', cap, cur, h1, hb, h2, h3, h4, h5, h6⟩⟩
  · cases h1
  · cases h1
    have hgw := block_there h2
    have hblk : (Sort.grow (Sort.putRow (Value.int .i64) (Sort.ahead w m) g 0 T.toArray) os).heap[g]? = some (.cells (Sort.putCells (Value.int .i64) 0 T.toArray cur) 3 (0, 0)) := by
      rw [Sort.heap_grow_old _ os (by show g < (Sort.putRow _ _ _ _ _).heap.size; rw [Sort.size_putRow]; exact hgw)]
      unfold Sort.putRow Sort.mapBlock
      show (w.heap.modify g _)[g]? = _
      rw [Array.getElem?_modify, if_pos rfl, h2]
      rfl
    have hsz : (Sort.putCells (Value.int .i64) 0 T.toArray cur).size = cur.size := by unfold Sort.putCells; simp
    refine ⟨⟨by rw [numCells_len, Nat.mul_one], Or.inr ⟨g, c, _, by rw [hn], hb, hblk, by omega, h4, by rw [hsz, h5], ?_⟩⟩, rfl, rfl, rfl, ?_, fun k hk hne => ?_⟩
    · rw [Nat.mul_one]
      apply List.ext_getElem?
      intro t
      rw [List.getElem?_take]
      by_cases ht : t < T.length
      · rw [if_pos ht, Array.getElem?_toList]
        unfold Sort.putCells
        rw [Array.getElem?_mapIdx, Array.getElem?_eq_getElem (show t < cur.size by omega)]
        simp only [Option.map_some]
        rw [if_pos ⟨Nat.zero_le _, by simpa using ht⟩, Nat.sub_zero, getElem!_pos _ t (by simpa using ht)]
        simp [numCells, ht]
      · rw [if_neg ht, List.getElem?_eq_none (by rw [numCells_len]; omega)]
    · show w.heap.size ≤ ((w.heap.modify g _) ++ os).size
      rw [Array.size_append, Array.size_modify]; omega
    · rw [Sort.heap_grow_old _ os (by show k < (Sort.putRow _ _ _ _ _).heap.size; rw [Sort.size_putRow]; exact hk)]
      unfold Sort.putRow Sort.mapBlock
      show (w.heap.modify g _)[k]? = _
      rw [Array.getElem?_modify, if_neg (Ne.symm hne)]

theorem sort_any (v : Value) (xs : List Int) (base : Nat) (w : World) (h : Ints w base v xs) (hl : xs.length ≤ 1000000) :
    Calls Try.prog 26 #[v] w fun e w' => e = .returned (.tuple #[]) ∧ Ints w' base v (xs.mergeSort leI) ∧ Only (fun k => v.ownBlock = some k) w w' := by
  obtain ⟨a, c, rfl, h1, h2⟩ := h.shape
  by_cases h0 : xs = []
  · subst h0
    have hc := AnyM.slices_Sort_int_none sortL a c w
    change Calls Try.prog 26 _ _ _ at hc
    refine hc.mono ?_
    rintro e w' ⟨rfl, rfl⟩
    exact ⟨rfl, by simpa using h, Only.refl _ _⟩
  · cases a with
    | none => exact absurd (h1 rfl) h0
    | some ad =>
      obtain ⟨g, rfl, hb, hg⟩ := h2 ad rfl
      have hc := AnyM.slices_Sort_int sortL g 0 c xs w (sort_holds h) hg (by omega)
      change Calls Try.prog 26 _ _ _ at hc
      refine hc.mono ?_
      rintro e w' ⟨rfl, m, os, rfl⟩
      obtain ⟨p1, p2⟩ := ints_put (m := m) (os := os) (T := xs.mergeSort leI) h (List.length_mergeSort _)
      exact ⟨rfl, p1, p2.mono (fun k _ e => by rw [e]; rfl)⟩
end Go.Proofs.Ytddfdnhlghmapaa
