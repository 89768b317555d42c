/- Rows of integers that a call makes: the numbers of a slice, its cells, one more appended. -/
import Derived.Test.YtpincdcebhmnhaaRow
namespace Go.Proofs.Ytpincdcebhmnhaa
open Go.ChangeShapes Go.WideShapes Go.ChangeAt Go.RowKit
set_option linter.unusedVariables false

theorem Try.infoInt : (Try.prog.info? 3).map (fun i => (i.zero, i.size, i.bytes)) = some (some (.int .i64 0), 1, 8) := by kernel_rfl

/-- The cells of a row of numbers. -/
def numCells (xs : List Int) : List Value := xs.map (Value.int .i64)

theorem numCells_len (xs : List Int) : (numCells xs).length = xs.length := by simp [numCells]
theorem numCells_snoc (xs : List Int) (x : Int) : numCells (xs ++ [x]) = numCells xs ++ [.int .i64 x] := by simp [numCells]

/-- A slice of the call's own: its numbers are xs, its row lies from block base on. -/
def Ints (w : World) (base : Nat) (v : Value) (xs : List Int) : Prop := w.ownsRow base 3 1 v xs.length (numCells xs)

theorem ints_nil (w : World) (base : Nat) : Ints w base (.slice none 0 0) [] := World.ownsRow_nil w base 3 1

theorem Ints.shape {w : World} {base : Nat} {v : Value} {xs : List Int} (h : Ints w base v xs) : ∃ a c, v = .slice a xs.length c ∧ (a = none → xs = []) ∧ ∀ ad, a = some ad → ∃ g, ad = ⟨g, 0, none⟩ ∧ base ≤ g ∧ g < w.heap.size := by
  rcases h.2 with ⟨rfl, h0⟩ | ⟨g, cap, cur, rfl, hb, hg, _⟩
  · exact ⟨none, 0, by rw [h0], fun _ => List.length_eq_zero_iff.1 h0, (fun _ e => by cases e)⟩
  · exact ⟨some ⟨g, 0, none⟩, cap, rfl, (fun e => by cases e), (fun ad e => by cases e; exact ⟨g, rfl, hb, block_there hg⟩)⟩

theorem Ints.cell {w : World} {base : Nat} {v : Value} {xs : List Int} (h : Ints w base v xs) {j : Nat} (hj : j < xs.length) : ∃ g, v.ownBlock = some g ∧ w.cell? ⟨g, j, none⟩ = some (.int .i64 (xs.getD j 0)) := by
  rcases h.2 with ⟨rfl, h0⟩ | ⟨g, cap, cur, rfl, hb, hg, h1, h2, h3, h4⟩
  · omega
  · refine ⟨g, rfl, ?_⟩
    rw [cell_at hg]
    have : cur.toList[j]? = (numCells xs)[j]? := by
      rw [← h4, List.getElem?_take_of_lt (by omega)]
    rw [← Array.getElem?_toList, this]
    simp [numCells, List.getD, hj]

theorem Ints.at_block {w : World} {base : Nat} {v : Value} {xs : List Int} (h : Ints w base v xs) {n : Nat} (hn : xs.length = n) (hx : 0 < n) : ∃ g c, v = .slice (some ⟨g, 0, none⟩) n c ∧ base ≤ g ∧ g < w.heap.size ∧ Ints w base (.slice (some ⟨g, 0, none⟩) n c) xs := by
  subst hn
  obtain ⟨a, c, rfl, h1, h2⟩ := h.shape
  cases a with
  | none => rw [h1 rfl] at hx; simp at hx
  | some ad =>
    obtain ⟨g, rfl, hb, hg⟩ := h2 ad rfl
    exact ⟨g, c, rfl, hb, hg, h⟩

theorem Ints.keep {S : Nat → Prop} {w w' : World} {base : Nat} {v : Value} {xs : List Int} (h : Ints w base v xs) (hO : Only S w w') (hS : ∀ g, v.ownBlock = some g → ¬ S g) : Ints w' base v xs := owns_kept h hO hS

theorem Ints.later {w w' : World} {base : Nat} {v : Value} {xs : List Int} (h : Ints w base v xs) (hO : Only (fun _ => False) w w') : Ints w' base v xs := h.keep hO (fun _ _ e => e)

theorem Ints.base {w : World} {b b' : Nat} {v : Value} {xs : List Int} (h : Ints w b v xs) (hb : b' ≤ b) : Ints w b' v xs := owns_base h hb

theorem Ints.block {w : World} {base : Nat} {v : Value} {xs : List Int} (h : Ints w base v xs) {g : Nat} (hg : v.ownBlock = some g) : base ≤ g ∧ g < w.heap.size := h.lt g hg

/-- A slice whose numbers are xs, wherever they lie. -/
def Nums (w : World) (v : Value) (xs : List Int) : Prop :=
  ∃ a c, v = .slice a xs.length c ∧ ∀ j, j < xs.length → ∃ b off, a = some ⟨b, off, none⟩ ∧ w.cell? ⟨b, off + j, none⟩ = some (.int .i64 (xs.getD j 0))

theorem Ints.nums {w : World} {base : Nat} {v : Value} {xs : List Int} (h : Ints w base v xs) : Nums w v xs := by
  obtain ⟨a, c, rfl, h1, h2⟩ := h.shape
  refine ⟨a, c, rfl, fun j hj => ?_⟩
  obtain ⟨g, hg, hc⟩ := h.cell hj
  cases a with
  | none => cases hg
  | some ad =>
    obtain ⟨g', rfl, -⟩ := h2 ad rfl
    cases hg
    exact ⟨g', 0, rfl, by rw [Nat.zero_add]; exact hc⟩

theorem Nums.at {w : World} {a : Option Addr} {n c : Nat} {xs : List Int} (h : Nums w (.slice a n c) xs) {j : Nat} (hj : j < xs.length) : ∃ b off, a = some ⟨b, off, none⟩ ∧ b < w.heap.size ∧ w.cell? ⟨b, off + j, none⟩ = some (.int .i64 (xs.getD j 0)) := by
  obtain ⟨a', c', e, h1⟩ := h
  cases e
  obtain ⟨b, off, rfl, hc⟩ := h1 j hj
  exact ⟨b, off, rfl, block_lt hc, hc⟩

theorem Nums.keep {S : Nat → Prop} {w w' : World} {v : Value} {xs : List Int} (h : Nums w v xs) (hO : Only S w w') (hS : ∀ a l c, v = .slice (some a) l c → ¬ S a.block) : Nums w' v xs := by
  obtain ⟨a, c, rfl, h1⟩ := h
  refine ⟨a, c, rfl, fun j hj => ?_⟩
  obtain ⟨b, off, rfl, hc⟩ := h1 j hj
  have hb : b < w.heap.size := block_lt hc
  refine ⟨b, off, rfl, ?_⟩
  have := hO.block b hb (hS _ _ _ rfl)
  rw [← hc]
  unfold World.cell?
  rw [this]

theorem Nums.later {w w' : World} {v : Value} {xs : List Int} (h : Nums w v xs) (hO : Only (fun _ => False) w w') : Nums w' v xs := h.keep hO (fun _ _ _ _ e => e)

/-- A slice of numbers that came in, cut at its first m. -/
theorem nums_cut {w : World} {a : Option Addr} {len cap : Nat} {zs : List Int} (h : IsRow .i64 w a len cap zs) (m : Nat) :
    ∃ xs : List Int, xs.length = min len m ∧ Nums w (.slice a xs.length cap) xs ∧ len ≤ cap ∧ cap ≤ 9223372036854775807 := by
  have hcap : len ≤ cap ∧ cap ≤ maxLen := by
    rcases h with ⟨h1, h2, h3, h4⟩ | ⟨x, rfl, h1, h2, h3, h4, h5⟩
    · subst h2 h3; exact ⟨Nat.le_refl _, by unfold maxLen; omega⟩
    · exact ⟨h1, h2⟩
  rcases row_cases h with h0 | ⟨b, off, ys, e, hl, hne, hc, hb, hm, hw, hcell⟩
  · subst h0
    exact ⟨[], by simp, ⟨a, cap, rfl, fun j hj => absurd hj (Nat.not_lt_zero _)⟩, hcap.1, hcap.2⟩
  · refine ⟨ys.take m, by rw [List.length_take, hl]; omega, ⟨a, cap, rfl, fun j hj => ⟨b, off, e, ?_⟩⟩, hcap.1, hcap.2⟩
    rw [List.length_take] at hj
    rw [hcell j (by omega)]
    congr 2
    simp [List.getD, show j < m by omega]

theorem Nums.nil (w : World) : Nums w (.slice none 0 0) [] := ⟨none, 0, rfl, fun j hj => absurd hj (Nat.not_lt_zero _)⟩

/-- A slice of numbers laid by the call in a block of its own. -/
theorem nums_block {w : World} {b : Nat} {cs : Array Value} {t : TypeId} {fr : Nat × Nat} {xs : List Int} {c : Nat} (h : w.heap[b]? = some (.cells cs t fr)) (hc : cs.toList = numCells xs) : Nums w (.slice (some ⟨b, 0, none⟩) xs.length c) xs := by
  refine ⟨_, c, rfl, fun j hj => ⟨b, 0, rfl, ?_⟩⟩
  rw [cell_at h, Nat.zero_add, ← Array.getElem?_toList, hc]
  simp [numCells, List.getD, hj]

theorem one_num (x : Int) : ∀ u ∈ ([.int .i64 x] : List Value), u.oneCell' = true := by intro u hu; simp at hu; subst hu; rfl

theorem max_of {n : Nat} (h : n ≤ 17000000000000) : n ≤ maxLen ∧ n * 8 ≤ 140737488355328 := by unfold maxLen; omega
end Go.Proofs.Ytpincdcebhmnhaa
