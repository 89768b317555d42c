/- Texts of this claim, merged: Ints, Append, One, Eq, Clone, PQ, PIdx, Flat, PDel. -/
import Derived.Test.YtpincdcebhmnhaaGreatM01
import Derived.Deep.QuietTactic
import Derived.BigQuiet
import Derived.WalkSpells
import Derived.IntWalk
import Derived.Deep.RegionLaw
import Derived.Lib.SliceRun
/- Rows of integers that a call makes: the numbers of a slice, its cells, one more appended. -/
namespace Go.Proofs.YtpincdcebhmnhaaGreat
open Go.ChangeShapes Go.WideShapes Go.ChangeAt Go.RowKit
set_option linter.unusedVariables false

theorem Tryz.infoInt : (Tryz.prog.info? 3).map (fun i => (i.zero, i.size, i.bytes)) = some (some (.int .i64 0), 1, 8) := by kernel_rfl

/-- The cells of a row of numbers. -/
def numCells (xs : List Int) : List Value := xs.map (Value.int .i64)

theorem numCells_len (xs : List Int) : (numCells xs).length = xs.length := by simp [numCells]
theorem numCells_snoc (xs : List Int) (x : Int) : numCells (xs ++ [x]) = numCells xs ++ [.int .i64 x] := by simp [numCells]

/-- A slice of the call's own: its numbers are xs, its row lies from block base on. -/
def Ints (w : World) (base : Nat) (v : Value) (xs : List Int) : Prop := w.ownsRow base 3 1 v xs.length (numCells xs)

theorem ints_nil (w : World) (base : Nat) : Ints w base (.slice none 0 0) [] := World.ownsRow_nil w base 3 1

theorem Ints.shape {w : World} {base : Nat} {v : Value} {xs : List Int} (h : Ints w base v xs) : ∃ a c, v = .slice a xs.length c ∧ (a = none → xs = []) ∧ ∀ ad, a = some ad → ∃ g, ad = ⟨g, 0, none⟩ ∧ base ≤ g ∧ g < w.heap.size := by
  rcases h.2 with ⟨rfl, h0⟩ | ⟨g, cap, cur, rfl, hb, hg, _⟩
  · exact ⟨none, 0, by rw [h0], fun _ => List.length_eq_zero_iff.1 h0, (fun _ e => by cases e)⟩
  · exact ⟨some ⟨g, 0, none⟩, cap, rfl, (fun e => by cases e), (fun ad e => by cases e; exact ⟨g, rfl, hb, block_there hg⟩)⟩

theorem Ints.cell {w : World} {base : Nat} {v : Value} {xs : List Int} (h : Ints w base v xs) {j : Nat} (hj : j < xs.length) : ∃ g, v.ownBlock = some g ∧ w.cell? ⟨g, j, none⟩ = some (.int .i64 (xs.getD j 0)) := by
  rcases h.2 with ⟨rfl, h0⟩ | ⟨g, cap, cur, rfl, hb, hg, h1, h2, h3, h4⟩
  · omega
  · refine ⟨g, rfl, ?_⟩
    rw [cell_at hg]
    have : cur.toList[j]? = (numCells xs)[j]? := by
      rw [← h4, List.getElem?_take_of_lt (by omega)]
    rw [← Array.getElem?_toList, this]
    simp [numCells, List.getD, hj]

theorem Ints.at_block {w : World} {base : Nat} {v : Value} {xs : List Int} (h : Ints w base v xs) {n : Nat} (hn : xs.length = n) (hx : 0 < n) : ∃ g c, v = .slice (some ⟨g, 0, none⟩) n c ∧ base ≤ g ∧ g < w.heap.size ∧ Ints w base (.slice (some ⟨g, 0, none⟩) n c) xs := by
  subst hn
  obtain ⟨a, c, rfl, h1, h2⟩ := h.shape
  cases a with
  | none => rw [h1 rfl] at hx; simp at hx
  | some ad =>
    obtain ⟨g, rfl, hb, hg⟩ := h2 ad rfl
    exact ⟨g, c, rfl, hb, hg, h⟩

theorem Ints.keep {S : Nat → Prop} {w w' : World} {base : Nat} {v : Value} {xs : List Int} (h : Ints w base v xs) (hO : Only S w w') (hS : ∀ g, v.ownBlock = some g → ¬ S g) : Ints w' base v xs := owns_kept h hO hS

theorem Ints.later {w w' : World} {base : Nat} {v : Value} {xs : List Int} (h : Ints w base v xs) (hO : Only (fun _ => False) w w') : Ints w' base v xs := h.keep hO (fun _ _ e => e)

theorem Ints.base {w : World} {b b' : Nat} {v : Value} {xs : List Int} (h : Ints w b v xs) (hb : b' ≤ b) : Ints w b' v xs := owns_base h hb

theorem Ints.block {w : World} {base : Nat} {v : Value} {xs : List Int} (h : Ints w base v xs) {g : Nat} (hg : v.ownBlock = some g) : base ≤ g ∧ g < w.heap.size := h.lt g hg

/-- A slice whose numbers are xs, wherever they lie. -/
def Nums (w : World) (v : Value) (xs : List Int) : Prop :=
  ∃ a c, v = .slice a xs.length c ∧ ∀ j, j < xs.length → ∃ b off, a = some ⟨b, off, none⟩ ∧ w.cell? ⟨b, off + j, none⟩ = some (.int .i64 (xs.getD j 0))

theorem Ints.nums {w : World} {base : Nat} {v : Value} {xs : List Int} (h : Ints w base v xs) : Nums w v xs := by
  obtain ⟨a, c, rfl, h1, h2⟩ := h.shape
  refine ⟨a, c, rfl, fun j hj => ?_⟩
  obtain ⟨g, hg, hc⟩ := h.cell hj
  cases a with
  | none => cases hg
  | some ad =>
    obtain ⟨g', rfl, -⟩ := h2 ad rfl
    cases hg
    exact ⟨g', 0, rfl, by rw [Nat.zero_add]; exact hc⟩

theorem Nums.at {w : World} {a : Option Addr} {n c : Nat} {xs : List Int} (h : Nums w (.slice a n c) xs) {j : Nat} (hj : j < xs.length) : ∃ b off, a = some ⟨b, off, none⟩ ∧ b < w.heap.size ∧ w.cell? ⟨b, off + j, none⟩ = some (.int .i64 (xs.getD j 0)) := by
  obtain ⟨a', c', e, h1⟩ := h
  cases e
  obtain ⟨b, off, rfl, hc⟩ := h1 j hj
  exact ⟨b, off, rfl, block_lt hc, hc⟩

theorem Nums.keep {S : Nat → Prop} {w w' : World} {v : Value} {xs : List Int} (h : Nums w v xs) (hO : Only S w w') (hS : ∀ a l c, v = .slice (some a) l c → ¬ S a.block) : Nums w' v xs := by
  obtain ⟨a, c, rfl, h1⟩ := h
  refine ⟨a, c, rfl, fun j hj => ?_⟩
  obtain ⟨b, off, rfl, hc⟩ := h1 j hj
  have hb : b < w.heap.size := block_lt hc
  refine ⟨b, off, rfl, ?_⟩
  have := hO.block b hb (hS _ _ _ rfl)
  rw [← hc]
  unfold World.cell?
  rw [this]

theorem Nums.later {w w' : World} {v : Value} {xs : List Int} (h : Nums w v xs) (hO : Only (fun _ => False) w w') : Nums w' v xs := h.keep hO (fun _ _ _ _ e => e)

/-- A slice of numbers that came in, cut at its first m. -/
theorem nums_cut {w : World} {a : Option Addr} {len cap : Nat} {zs : List Int} (h : IsRow .i64 w a len cap zs) (m : Nat) :
    ∃ xs : List Int, xs.length = min len m ∧ Nums w (.slice a xs.length cap) xs ∧ len ≤ cap ∧ cap ≤ 9223372036854775807 := by
  have hcap : len ≤ cap ∧ cap ≤ maxLen := by
    rcases h with ⟨h1, h2, h3, h4⟩ | ⟨x, rfl, h1, h2, h3, h4, h5⟩
    · subst h2 h3; exact ⟨Nat.le_refl _, by unfold maxLen; omega⟩
    · exact ⟨h1, h2⟩
  rcases row_cases h with h0 | ⟨b, off, ys, e, hl, hne, hc, hb, hm, hw, hcell⟩
  · subst h0
    exact ⟨[], by simp, ⟨a, cap, rfl, fun j hj => absurd hj (Nat.not_lt_zero _)⟩, hcap.1, hcap.2⟩
  · refine ⟨ys.take m, by rw [List.length_take, hl]; omega, ⟨a, cap, rfl, fun j hj => ⟨b, off, e, ?_⟩⟩, hcap.1, hcap.2⟩
    rw [List.length_take] at hj
    rw [hcell j (by omega)]
    congr 2
    simp [List.getD, show j < m by omega]

theorem Nums.nil (w : World) : Nums w (.slice none 0 0) [] := ⟨none, 0, rfl, fun j hj => absurd hj (Nat.not_lt_zero _)⟩

/-- A slice of numbers laid by the call in a block of its own. -/
theorem nums_block {w : World} {b : Nat} {cs : Array Value} {t : TypeId} {fr : Nat × Nat} {xs : List Int} {c : Nat} (h : w.heap[b]? = some (.cells cs t fr)) (hc : cs.toList = numCells xs) : Nums w (.slice (some ⟨b, 0, none⟩) xs.length c) xs := by
  refine ⟨_, c, rfl, fun j hj => ⟨b, 0, rfl, ?_⟩⟩
  rw [cell_at h, Nat.zero_add, ← Array.getElem?_toList, hc]
  simp [numCells, List.getD, hj]

theorem one_num (x : Int) : ∀ u ∈ ([.int .i64 x] : List Value), u.oneCell' = true := by intro u hu; simp at hu; subst hu; rfl

theorem max_of {n : Nat} (h : n ≤ 17000000000000) : n ≤ maxLen ∧ n * 8 ≤ 140737488355328 := by unfold maxLen; omega
end Go.Proofs.YtpincdcebhmnhaaGreat
/- append(a, b...) of slices of numbers, the first of the call's own. -/
namespace Go.Proofs.YtpincdcebhmnhaaGreat
open Go.ChangeShapes Go.WideShapes Go.ChangeAt Go.RowKit
set_option linter.unusedVariables false

theorem append_nums {w : World} {ops : Array Oper} {rest : List Oper} {o : Oper} {a : Act} {Q : Exit → Act → World → Prop} (hgd : o.guard = none) (s x : Operand)
    (ho : o.op = .call { callee := .builtin .append, args := #[s, x], argTypes := #[37, 37] })
    (base : Nat) (v vx : Value) (xs zs : List Int) (hs : a.eval s = v) (hx : a.eval x = vx) (hown : Ints w base v xs) (hr : Nums w vx zs) (hnil : ∀ l c, vx = .slice none l c → c = 0)
    (hn : xs.length + zs.length ≤ 17000000000000) (hbase : base ≤ w.heap.size)
    (h : ∀ v' w', Ints w' base v' (xs ++ zs) → Only (fun k => v.ownBlock = some k) w w' → wpList Tryz.prog ops Q rest (a.put o.dst v') w') : wpList Tryz.prog ops Q (o :: rest) a w := by
  obtain ⟨i0, hi, hz0, hz1, hz2⟩ := info_parts Tryz.infoInt
  obtain ⟨ad, cap, rfl, h2⟩ := hr
  cases ad with
  | none =>
    have hz : zs = [] := by
      by_cases e : zs = []
      · exact e
      · obtain ⟨b, off, hh, _⟩ := h2 0 (List.length_pos_iff.2 e); cases hh
    subst hz
    have := hnil _ _ rfl; subst this
    refine wpList_append_own_none hgd s x 37 ho base 3 i0 1 Tryz.underlying37 hi v xs.length (numCells xs) hs hown hx ?_
    exact h v w (by rw [List.append_nil]; exact hown) (Only.refl _ w)
  | some ad =>
    have hlen : (numCells zs).length = zs.length := numCells_len zs
    refine wpList_append_own w hgd s x 37 ho base 3 i0 (.int .i64 0) 1 8 Tryz.underlying37 hi hz0 hz1 hz2 rfl (by decide) v xs.length (numCells xs) hs hown ad zs.length cap (numCells zs) hx (by simp [numCells]) ?_ (by simp [numCells]; intro z _; rfl) (max_of hn).1 (max_of hn).2 hbase ?_
    · intro j u hj
      have hlt : j < zs.length := by
        by_cases hlt : j < zs.length
        · exact hlt
        · rw [List.getElem?_eq_none (by omega)] at hj; cases hj
      obtain ⟨b, off, hh, hc⟩ := h2 j hlt
      cases hh
      rw [add_plain, hc]
      simp [numCells, List.getElem?_eq_getElem hlt] at hj
      simp [List.getD, List.getElem?_eq_getElem hlt, hj]
    · intro v' w' hown' hg _
      refine h v' w' ?_ (Only.of_grown hg (fun k hk => hk))
      unfold Ints
      rw [List.length_append, show numCells (xs ++ zs) = numCells xs ++ numCells zs by simp [numCells]]
      exact hown'

theorem Ints.nil_cap {w : World} {base : Nat} {v : Value} {xs : List Int} (h : Ints w base v xs) : ∀ l c, v = .slice none l c → c = 0 := by
  intro l c e
  rcases h.2 with ⟨rfl, h0⟩ | ⟨g, cap, cur, rfl, _⟩
  · cases e; rfl
  · cases e
end Go.Proofs.YtpincdcebhmnhaaGreat
/- append(a, x) of one number; a number of one's own row set, read. -/
namespace Go.Proofs.YtpincdcebhmnhaaGreat
open Go.ChangeShapes Go.WideShapes Go.ChangeAt Go.RowKit Go.Maps
set_option linter.unusedVariables false

/-- append(a, x): one number more, which lies in a block of its own. -/
theorem append_one {w : World} {ops : Array Oper} {rest : List Oper} {o : Oper} {a : Act} {Q : Exit → Act → World → Prop} (hgd : o.guard = none) (s x : Operand)
    (ho : o.op = .call { callee := .builtin .append, args := #[s, x], argTypes := #[37, 37] })
    (base b c : Nat) (v : Value) (S : List Int) (y : Int) (hs : a.eval s = v) (hx : a.eval x = .slice (some ⟨b, 0, none⟩) 1 c) (hown : Ints w base v S) (hb : w.heap[b]? = some (.cells #[.int .i64 y] 3 (0, 0)))
    (hn : S.length + 1 ≤ 17000000000000) (hbase : base ≤ w.heap.size)
    (h : ∀ v' w', Ints w' base v' (S ++ [y]) → Only (fun k => v.ownBlock = some k) w w' → (∀ k, v'.ownBlock = some k → v.ownBlock = some k ∨ w.heap.size ≤ k) → wpList Tryz.prog ops Q rest (a.put o.dst v') w') : wpList Tryz.prog ops Q (o :: rest) a w := by
  obtain ⟨i0, hi, hz0, hz1, hz2⟩ := info_parts Tryz.infoInt
  refine wpList_append_lies w hgd s x 37 ho base 3 i0 (.int .i64 0) 1 8 Tryz.underlying37 hi hz0 hz1 hz2 rfl (by decide) v S.length (numCells S) hs hown ⟨b, 0, none⟩ 1 c [.int .i64 y] hx rfl ?_ (one_num y) Nat.one_pos (max_of hn).1 (max_of hn).2 hbase _ rfl ?_
  · intro j u hj
    rw [add_plain, cell_at hb, Nat.zero_add, ← Array.getElem?_toList]
    exact hj
  · intro g' cap' w' hown' hg hat _
    refine h _ w' ?_ (Only.of_grown hg (fun k hk => hk)) (fun k hk => by cases hk; exact hat.imp_right (fun e => by rw [e]; exact Nat.le_refl _))
    unfold Ints
    rw [List.length_append, numCells_snoc]
    exact hown'

theorem ints_set {w : World} {base g n c : Nat} {xs : List Int} (h : Ints w base (.slice (some ⟨g, 0, none⟩) n c) xs) (j : Nat) (x : Int) : Ints (w.setCell ⟨g, j, none⟩ (.int .i64 x)) base (.slice (some ⟨g, 0, none⟩) n c) (xs.set j x) := by
  obtain ⟨h1, h2⟩ := h
  refine ⟨by rw [numCells_len, List.length_set, Nat.mul_one], ?_⟩
  rcases h2 with ⟨e, _⟩ | ⟨g', cap, cur, e, hb, hg, r1, r2, r3, r4⟩
  · cases e
  · cases e
    right
    refine ⟨g, c, _, by rw [List.length_set], hb, heap_setCell_same w g j cur _ _ hg, by rw [List.length_set]; exact r1, r2, by simpa using r3, ?_⟩
    rw [Array.toList_setIfInBounds, List.take_set, List.length_set, r4]
    unfold numCells
    rw [List.map_set]

theorem ints_frozen {w : World} {base g n c : Nat} {xs : List Int} (h : Ints w base (.slice (some ⟨g, 0, none⟩) n c) xs) (j : Nat) : w.frozen? ⟨g, j, none⟩ = false := by
  obtain ⟨cur, hg⟩ := owns_type h rfl
  exact frozen_at hg j

theorem ints_cell {w : World} {base g n c : Nat} {xs : List Int} (h : Ints w base (.slice (some ⟨g, 0, none⟩) n c) xs) {j : Nat} (hj : j < xs.length) : w.cell? ⟨g, j, none⟩ = some (.int .i64 (xs.getD j 0)) := by
  obtain ⟨g', e, hc⟩ := h.cell hj
  cases e
  exact hc
end Go.Proofs.YtpincdcebhmnhaaGreat
/- The contract of slices.Equal at numbers. -/
namespace Go.Proofs.YtpincdcebhmnhaaGreat
open Go.ChangeShapes Go.WideShapes Go.ChangeAt Go.RowKit
set_option linter.unusedVariables false

theorem take_more {xs ys : List Int} {k : Nat} (h : xs.take k = ys.take k) (hx : k < xs.length) (hy : k < ys.length) (he : xs.getD k 0 = ys.getD k 0) : xs.take (k + 1) = ys.take (k + 1) := by
  rw [List.take_succ_eq_append_getElem hx, List.take_succ_eq_append_getElem hy, h]
  have : xs[k] = ys[k] := by simpa [List.getD, hx, hy] using he
  rw [this]

/-- A bool was answered, and memory is as it was. -/
def BoolOnly (b : Bool) (w : World) (e : Ending) (w' : World) : Prop := e = .returned (.bool b) ∧ Only (fun _ => False) w w'

theorem bool_is {b c : Bool} {w w' : World} (h : c = b) (hO : Only (fun _ => False) w w') : BoolOnly c w (.returned (.bool b)) w' := by subst h; exact ⟨rfl, hO⟩

end Go.Proofs.YtpincdcebhmnhaaGreat
/- slices.Clone of numbers. -/
namespace Go.Proofs.YtpincdcebhmnhaaGreat
open Go.ChangeShapes Go.WideShapes Go.ChangeAt Go.RowKit
set_option linter.unusedVariables false

/-- The numbers were answered in a row of the call's own, and nothing that was there changed. -/
def FreshInts (xs : List Int) (w : World) (e : Ending) (w' : World) : Prop := ∃ v, e = .returned v ∧ Ints w' w.heap.size v xs ∧ Only (fun _ => False) w w'

end Go.Proofs.YtpincdcebhmnhaaGreat
/- Queues of numbers side by side in memory: eight slices as cells o .. o + 7 of a block; and what is to be said of such queues. -/
namespace Go.Proofs.YtpincdcebhmnhaaGreat.Pr
open Go.ChangeShapes Go.WideShapes Go.ChangeAt Go.RowKit Go.Maps
set_option linter.unusedVariables false

abbrev Qs := Nat → List Int

/-- A function with another value at one place. -/
def upd {α : Type} (f : Nat → α) (k : Nat) (x : α) : Nat → α := fun j => if j = k then x else f j
theorem upd_same {α : Type} (f : Nat → α) (k : Nat) (x : α) : upd f k x k = x := by simp [upd]
theorem upd_other {α : Type} (f : Nat → α) {k j : Nat} (x : α) (h : j ≠ k) : upd f k x j = f j := by simp [upd, h]
theorem upd_upd {α : Type} (f : Nat → α) (k : Nat) (x y : α) : upd (upd f k x) k y = upd f k y := by
  funext j; unfold upd; split <;> simp_all
theorem upd_self {α : Type} (f : Nat → α) (k : Nat) : upd f k (f k) = f := by
  funext j; unfold upd; split <;> simp_all

/-- Eight queues: cells o .. o + 7 of block p (whose type is T) hold the slices V, and these the numbers Q. -/
structure QAt (w : World) (p o T : Nat) (V : Nat → Value) (Q : Qs) : Prop where
  block : ∃ cs, w.heap[p]? = some (.cells cs T (0, 0)) ∧ ∀ i, i < 8 → cs[o + i]? = some (V i)
  type : T ≠ 3
  row : ∀ i, i < 8 → Ints w 0 (V i) (Q i)
  apart : ∀ i j k, i < 8 → j < 8 → i ≠ j → (V i).ownBlock = some k → (V j).ownBlock ≠ some k

/-- The blocks of such queues. -/
def Foot (p : Nat) (V : Nat → Value) (k : Nat) : Prop := k = p ∨ ∃ i, i < 8 ∧ (V i).ownBlock = some k

/-- What a call that changes queues leaves: nothing else changes, and their blocks are the old ones or new ones. -/
structure Step (p o : Nat) (V V' : Nat → Value) (w w' : World) : Prop where
  only : Only (Foot p V) w w'
  still : ∀ j, j < o ∨ o + 8 ≤ j → w'.cell? ⟨p, j, none⟩ = w.cell? ⟨p, j, none⟩
  grow : ∀ k, Foot p V' k → Foot p V k ∨ w.heap.size ≤ k

theorem cell_kept {S : Nat → Prop} {w w' : World} (h : Only S w w') {p j : Nat} (hp : p < w.heap.size) (hS : ¬ S p) : w'.cell? ⟨p, j, none⟩ = w.cell? ⟨p, j, none⟩ := by
  unfold World.cell?
  rw [h.block p hp hS]

section
variable {w w' : World} {p o T : Nat} {V : Nat → Value} {Q : Qs}

theorem QAt.lt (h : QAt w p o T V Q) : p < w.heap.size := by obtain ⟨cs, h1, -⟩ := h.block; exact block_there h1
theorem QAt.cell (h : QAt w p o T V Q) {i : Nat} (hi : i < 8) : w.cell? ⟨p, o + i, none⟩ = some (V i) := by
  obtain ⟨cs, h1, h2⟩ := h.block
  rw [cell_at h1]; exact h2 i hi
theorem QAt.frozen (h : QAt w p o T V Q) (j : Nat) : w.frozen? ⟨p, j, none⟩ = false := by obtain ⟨cs, h1, -⟩ := h.block; exact frozen_at h1 j
theorem QAt.not_row (h : QAt w p o T V Q) {i : Nat} (hi : i < 8) : (V i).ownBlock ≠ some p := by
  intro e
  obtain ⟨cs, h1, -⟩ := h.block
  obtain ⟨cur, h2⟩ := owns_type (h.row i hi) e
  rw [h1] at h2
  cases h2
  exact h.type rfl
theorem QAt.foot_lt (h : QAt w p o T V Q) {k : Nat} (hk : Foot p V k) : k < w.heap.size := by
  rcases hk with rfl | ⟨i, hi, e⟩
  · exact h.lt
  · exact ((h.row i hi).block e).2
theorem QAt.keep {S : Nat → Prop} (h : QAt w p o T V Q) (hO : Only S w w') (hS : ∀ k, Foot p V k → ¬ S k) : QAt w' p o T V Q := by
  obtain ⟨cs, h1, h2⟩ := h.block
  exact ⟨⟨cs, by rw [hO.block p h.lt (hS p (Or.inl rfl))]; exact h1, h2⟩, h.type, fun i hi => (h.row i hi).keep hO (fun g hg => hS g (Or.inr ⟨i, hi, hg⟩)), h.apart⟩
theorem QAt.later (h : QAt w p o T V Q) (hO : Only (fun _ => False) w w') : QAt w' p o T V Q := h.keep hO (fun _ _ e => e)

theorem Step.refl (p o : Nat) (V : Nat → Value) (w : World) : Step p o V V w w := ⟨Only.refl _ w, fun _ _ => rfl, fun _ h => Or.inl h⟩
theorem Step.later (h : QAt w p o T V Q) (hO : Only (fun _ => False) w w') : Step p o V V w w' :=
  ⟨hO.mono (fun _ _ e => e.elim), fun j _ => cell_kept hO h.lt id, fun _ h => Or.inl h⟩
theorem Step.trans {V' V'' : Nat → Value} {a b c : World} (h : Step p o V V' a b) (k : Step p o V' V'' b c) : Step p o V V'' a c := by
  refine ⟨h.only.trans k.only (fun x hx e => ?_), fun j hj => (k.still j hj).trans (h.still j hj), fun x hx => ?_⟩
  · rcases h.grow x e with e | e
    · exact e
    · omega
  · rcases k.grow x hx with e | e
    · exact h.grow x e
    · exact Or.inr (Nat.le_trans h.only.size e)

/-- One queue's row has changed in its own block. -/
theorem QAt.row_in (h : QAt w p o T V Q) {i : Nat} (hi : i < 8) {S' : List Int} (hr : Ints w' 0 (V i) S') (hO : Only (fun k => (V i).ownBlock = some k) w w') :
    QAt w' p o T V (upd Q i S') ∧ Step p o V V w w' := by
  obtain ⟨cs, h1, h2⟩ := h.block
  have hp : w'.heap[p]? = w.heap[p]? := hO.block p h.lt (h.not_row hi)
  refine ⟨⟨⟨cs, hp.trans h1, h2⟩, h.type, fun j hj => ?_, h.apart⟩, hO.mono (fun k _ e => Or.inr ⟨i, hi, e⟩), fun j _ => cell_kept hO h.lt (h.not_row hi), fun k e => Or.inl e⟩
  by_cases e : j = i
  · subst e; rw [upd_same]; exact hr
  · rw [upd_other _ _ e]
    exact (h.row j hj).keep hO (fun g hg e2 => h.apart j i g hj hi e hg e2)

/-- One queue has got another row, in its own block or in a new one, and this is stored. -/
theorem QAt.row_set (h : QAt w p o T V Q) {i : Nat} (hi : i < 8) {v' : Value} {S' : List Int} (hr : Ints w' 0 v' S') (hO : Only (fun k => (V i).ownBlock = some k) w w')
    (hb : ∀ k, v'.ownBlock = some k → (V i).ownBlock = some k ∨ w.heap.size ≤ k) :
    QAt (w'.setCell ⟨p, o + i, none⟩ v') p o T (upd V i v') (upd Q i S') ∧ Step p o V (upd V i v') w (w'.setCell ⟨p, o + i, none⟩ v') := by
  obtain ⟨cs, h1, h2⟩ := h.block
  have hp : w'.heap[p]? = w.heap[p]? := hO.block p h.lt (h.not_row hi)
  have hlt := h.lt
  have hw := hO.size
  have hO2 : Only (fun k => k = p) w' (w'.setCell ⟨p, o + i, none⟩ v') := Only.setCell (S := fun x => x = p) (Only.refl _ w') (p := ⟨p, o + i, none⟩) rfl _
  have hnp : ∀ k, v'.ownBlock = some k → k ≠ p := by
    rintro k hk rfl
    rcases hb _ hk with e | e
    · exact h.not_row hi e
    · omega
  refine ⟨⟨⟨_, heap_setCell_same w' p (o + i) cs T v' (hp.trans h1), fun j hj => ?_⟩, h.type, fun j hj => ?_, fun a b k ha hb' hab ea eb => ?_⟩, ?_, fun j hj => ?_, fun k hk => ?_⟩
  · rw [Array.getElem?_setIfInBounds]
    by_cases e : j = i
    · subst e
      have : o + j < cs.size := by
        have := h2 j hi
        exact (Array.getElem?_eq_some_iff.1 this).1
      rw [if_pos rfl, if_pos this, upd_same]
    · rw [if_neg (by omega), upd_other _ _ e]; exact h2 j hj
  · by_cases e : j = i
    · subst e
      rw [upd_same, upd_same]
      exact hr.keep hO2 (fun g hg e => hnp g hg e)
    · rw [upd_other _ _ e, upd_other _ _ e]
      refine ((h.row j hj).keep hO (fun g hg e2 => h.apart j i g hj hi e hg e2)).keep hO2 (fun g hg e2 => ?_)
      subst e2; exact h.not_row hj hg
  · by_cases e1 : a = i
    · subst e1
      rw [upd_same] at ea
      rw [upd_other _ _ (Ne.symm hab)] at eb
      rcases hb k ea with e | e
      · exact h.apart a b k ha hb' hab e eb
      · have := ((h.row b hb').block eb).2; omega
    · rw [upd_other _ _ e1] at ea
      by_cases e2 : b = i
      · subst e2
        rw [upd_same] at eb
        rcases hb k eb with e | e
        · exact h.apart a b k ha hb' hab ea e
        · have := ((h.row a ha).block ea).2; omega
      · rw [upd_other _ _ e2] at eb
        exact h.apart a b k ha hb' hab ea eb
  · exact (hO.mono (T := Foot p V) (fun k _ e => Or.inr ⟨i, hi, e⟩)).trans hO2 (fun _ _ e => Or.inl e)
  · rw [show (w'.setCell ⟨p, o + i, none⟩ v').cell? ⟨p, j, none⟩ = w'.cell? ⟨p, j, none⟩ from by
      rw [cell_at (heap_setCell_same w' p (o + i) cs T v' (hp.trans h1)), cell_at (hp.trans h1), Array.getElem?_setIfInBounds, if_neg (by omega)]]
    exact cell_kept hO hlt (h.not_row hi)
  · rcases hk with rfl | ⟨j, hj, e⟩
    · exact Or.inl (Or.inl rfl)
    · by_cases e1 : j = i
      · subst e1
        rw [upd_same] at e
        rcases hb k e with e | e
        · exact Or.inl (Or.inr ⟨j, hj, e⟩)
        · exact Or.inr e
      · rw [upd_other _ _ e1] at e
        exact Or.inl (Or.inr ⟨j, hj, e⟩)
end

/-- The array's cells as one value. -/
def arrOf (V : Nat → Value) : Array Value := #[V 0, V 1, V 2, V 3, V 4, V 5, V 6, V 7]

theorem arrOf_get (V : Nat → Value) (k : Nat) (h : k < 8) : (arrOf V)[k]? = some (V k) := by
  rcases (show k = 0 ∨ k = 1 ∨ k = 2 ∨ k = 3 ∨ k = 4 ∨ k = 5 ∨ k = 6 ∨ k = 7 by omega) with rfl | rfl | rfl | rfl | rfl | rfl | rfl | rfl <;> rfl

theorem load_arr {w : World} {p o T : Nat} {V : Nat → Value} {Q : Qs} (h : QAt w p o T V Q) :
    (loadVar 38 ⟨p, o, none⟩).run Tryz.prog w = .ok (.agg (arrOf V)) w := by
  have hl : (loadCells ⟨p, o, none⟩ 8).run Tryz.prog w = .ok ((List.range 8).map V).toArray w :=
    run_loadCells w ⟨p, o, none⟩ 8 V (fun j hj => by rw [add_plain]; exact h.cell hj)
  have hagg : (isAgg 38).run Tryz.prog w = .ok true w := by kernel_rfl
  rw [show ((List.range 8).map V).toArray = arrOf V from rfl] at hl
  simp [loadVar, Sem.run_bind, hagg, hl]

theorem index_arr (V : Nat → Value) (k : Nat) (hk : k < 8) (w : World) :
    (Instr.index 38 (.agg (arrOf V)) (.int .i64 k)).run Tryz.prog w = .ok (V k) w := by
  have hsz : (sizeOf 37).run Tryz.prog w = .ok 1 w := by kernel_rfl
  unfold Instr.index
  rw [Sem.run_bind]
  simp only [asIntOf, Sem.run_pure, Result.andThen_ok, Sem.run_bind, run_underlying Tryz.underlying38]
  have h1 : (0 : Int) ≤ k ∧ (k : Int) < ((8 : Nat) : Int) := by omega
  rw [if_pos h1]
  rcases (show k = 0 ∨ k = 1 ∨ k = 2 ∨ k = 3 ∨ k = 4 ∨ k = 5 ∨ k = 6 ∨ k = 7 by omega) with rfl | rfl | rfl | rfl | rfl | rfl | rfl | rfl <;> simp [Sem.run_bind, hsz, part, arrOf]

section
variable {P : Program}
/-- A load whose run is known. -/
theorem wpList_load_known {ops : Array Oper} {rest : List Oper} {o : Oper} {a : Act} {w : World} {Q : Exit → Act → World → Prop} (hgd : o.guard = none) (ty : TypeId) (x : Operand) (ho : o.op = .load ty x)
    (ad : Addr) (hx : a.eval x = .pointer (some ad)) (v : Value) (hl : (loadVar ty ad).run P w = .ok v w)
    (h : wpList P ops Q rest (a.put o.dst v) w) : wpList P ops Q (o :: rest) a w := by
  refine wpList_plain hgd fun _ hK => ?_
  unfold Oper.wp execOp
  simp only [ho, hx, Instr.loadAt, Instr.sureAddr, Sem.run_bind, Sem.run_pure, Result.andThen_ok, hl]
  exact hK _ _ h
end

theorem results_tmp3 {fn : Func} {t u v : Tmp} (h : fn.results = #[.tmp t, .tmp u, .tmp v]) (tmps : Array Value) (P : Program) (w : World) :
    (results fn tmps).run P w = .ok (.tuple #[tmps.getD t undef, tmps.getD u undef, tmps.getD v undef]) w := by
  simp [results, h]
end Go.Proofs.YtpincdcebhmnhaaGreat.Pr
/- Contracts of slices.Index and slices.Contains at numbers, of package prio's valid and find, and of ringref1's Of. -/
namespace Go.Proofs.YtpincdcebhmnhaaGreat.Pr
open Go.ChangeShapes Go.WideShapes Go.ChangeAt Go.RowKit Go.Maps
set_option linter.unusedVariables false

/-- Where a list has a number; -1: nowhere. -/
def idx (xs : List Int) (t : Int) : Int := if t ∈ xs then (xs.idxOf t : Nat) else -1

theorem idx_hit {xs : List Int} {t : Int} {k : Nat} (hk : k < xs.length) (hx : xs.getD k 0 = t) (hn : ∀ j, j < k → xs.getD j 0 ≠ t) : idx xs t = k := by
  have hx' : xs[k] = t := by simpa [List.getD, hk] using hx
  have hm : t ∈ xs := by rw [← hx']; exact List.getElem_mem hk
  unfold idx
  rw [if_pos hm]
  congr 1
  unfold List.idxOf
  rw [List.findIdx_eq hk]
  refine ⟨by simp [hx'], fun j hj => ?_⟩
  have := hn j hj
  simpa [List.getD, show j < xs.length by omega] using this

theorem idx_miss {xs : List Int} {t : Int} (hn : ∀ j, j < xs.length → xs.getD j 0 ≠ t) : idx xs t = -1 := by
  unfold idx
  rw [if_neg]
  intro hm
  obtain ⟨j, hj, e⟩ := List.getElem_of_mem hm
  exact hn j hj (by simpa [List.getD, hj] using e)

theorem idx_nonneg {xs : List Int} {t : Int} (h : t ∈ xs) : idx xs t = (xs.idxOf t : Nat) ∧ xs.idxOf t < xs.length := by
  unfold idx; rw [if_pos h]; exact ⟨rfl, List.idxOf_lt_length_iff.2 h⟩
theorem idx_neg {xs : List Int} {t : Int} (h : t ∉ xs) : idx xs t = -1 := by unfold idx; rw [if_neg h]

/-- A number was answered, and memory is as it was. -/
def IntOnly (x : Int) (w : World) (e : Ending) (w' : World) : Prop := e = .returned (.int .i64 x) ∧ Only (fun _ => False) w w'
theorem int_is {b c : Int} {w w' : World} (h : c = b) (hO : Only (fun _ => False) w w') : IntOnly c w (.returned (.int .i64 b)) w' := by subst h; exact ⟨rfl, hO⟩
def Triple (x y z : Int) (w : World) (e : Ending) (w' : World) : Prop := e = .returned (.tuple #[.int .i64 x, .int .i64 y, .int .i64 z]) ∧ Only (fun _ => False) w w'
theorem triple_is {x y z x' y' z' : Int} {w w' : World} (h : x = x') (h2 : y = y') (h3 : z = z') (hO : Only (fun _ => False) w w') : Triple x y z w (.returned (.tuple #[.int .i64 x', .int .i64 y', .int .i64 z'])) w' := by subst h h2 h3; exact ⟨rfl, hO⟩
def Pair (x y : Int) (w : World) (e : Ending) (w' : World) : Prop := e = .returned (.tuple #[.int .i64 x, .int .i64 y]) ∧ Only (fun _ => False) w w'
theorem pair_is {x y x' y' : Int} {w w' : World} (h : x = x') (h2 : y = y') (hO : Only (fun _ => False) w w') : Pair x y w (.returned (.tuple #[.int .i64 x', .int .i64 y'])) w' := by subst h h2; exact ⟨rfl, hO⟩
theorem results_tmp2 {fn : Func} {t u : Tmp} (h : fn.results = #[.tmp t, .tmp u]) (tmps : Array Value) (P : Program) (w : World) :
    (results fn tmps).run P w = .ok (.tuple #[tmps.getD t undef, tmps.getD u undef]) w := by
  simp [results, h]

set_option maxHeartbeats 1000000 in
theorem index_any (v : Value) (xs : List Int) (t : Int) (w : World) (h : Nums w v xs) (hl : xs.length ≤ 9223372036854775807) :
    Calls Tryz.prog 73 #[v, .int .i64 t] w (IntOnly (idx xs t) w) := by
  obtain ⟨a, c, rfl, hr⟩ := h
  have HR := Lib.hid hr
  clear hr
  go_enter Tryz.func73, Tryz.ntmps73
  go_wp2_with fail
  go_loopw [5, 8] (fun _ i wr => ∃ k : Nat, k ≤ xs.length ∧ i = .int .i64 k ∧ (∀ j, j < k → xs.getD j 0 ≠ t) ∧ Only (fun _ => False) w wr) (fun _ i _ => xs.length - (intOf i).toNat)
  case atStart => exact ⟨0, Nat.zero_le _, rfl, fun j hj => absurd hj (Nat.not_lt_zero _), Only.refl _ w⟩
  case round =>
    obtain ⟨k, hk, rfl, ht, hO⟩ := hrel
    have HT := Lib.hid ht
    have HO := Lib.hid hO
    clear ht hO
    by_cases hlt : k < xs.length
    · obtain ⟨b, off, rfl, hc⟩ := HR.out k hlt
      have d0 : wr.cell? ⟨b, off + k, none⟩ = some (.int .i64 (xs.getD k 0)) := by
        rw [← hc]; unfold World.cell?; rw [HO.out.block b (block_lt hc) (fun e => e)]
      clear hc
      have g1 : (k : Int) < xs.length := by omega
      have g2 : (0 : Int) ≤ k := by omega
      generalize hx : xs.getD k 0 = x at *
      have EX := Lib.hid hx
      clear hx
      by_cases hxt : t = x
      · subst hxt
        go_wp2_with fail
        go_ret
        exact int_is (idx_hit hlt EX.out HT.out) HO.out
      · have hne : (t == x) = false := by simpa using hxt
        have HN := Lib.hid hxt
        clear hxt
        go_wp2_with fail
        go_roundw
        case rel => exact ⟨k + 1, by omega, by go_num, fun j hj => by
          by_cases e : j = k
          · subst e; rw [EX.out]; exact fun e => HN.out e.symm
          · exact HT.out j (by omega), HO.out⟩
        case measure => simp [intOf]; omega
    · obtain rfl : k = xs.length := by omega
      go_wp2_with fail
      go_ret
      exact int_is (idx_miss HT.out) HO.out

/-- Is there such a priority? -/
def valid (v : Int) : Bool := decide (0 ≤ v ∧ v < 8)
theorem valid_any (v : Int) (w : World) : Calls Tryz.prog 54 #[.int .i64 v] w fun e w' => e = .returned (.bool (valid v)) ∧ w = w' := by
  by_cases h1 : 0 ≤ v
  · by_cases h2 : v < 8
    · have E := Lib.hid (show valid v = true from decide_eq_true ⟨h1, h2⟩)
      go_enter Tryz.func54, Tryz.ntmps54
      go_wp2
      go_ret
      rw [E.out]; exact ⟨rfl, rfl⟩
    · have E := Lib.hid (show valid v = false from decide_eq_false (by omega))
      go_enter Tryz.func54, Tryz.ntmps54
      go_wp2
      go_ret
      rw [E.out]; exact ⟨rfl, rfl⟩
  · have E := Lib.hid (show valid v = false from decide_eq_false (by omega))
    go_enter Tryz.func54, Tryz.ntmps54
    go_wp2
    go_ret
    rw [E.out]; exact ⟨rfl, rfl⟩

/-- The first queue, from the first k, that has a task. -/
def seekTo (Q : Qs) (t : Int) : Nat → Option Nat
  | 0 => none
  | k + 1 => match seekTo Q t k with
    | some i => some i
    | none => if t ∈ Q k then some k else none
def seek (Q : Qs) (t : Int) : Option Nat := seekTo Q t 8

theorem seekTo_none {Q : Qs} {t : Int} {k : Nat} : seekTo Q t k = none ↔ ∀ j, j < k → t ∉ Q j := by
  induction k with
  | zero => simp [seekTo]
  | succ k ih =>
    unfold seekTo
    constructor
    · intro h j hj
      cases hs : seekTo Q t k with
      | some i => rw [hs] at h; cases h
      | none =>
        rw [hs] at h
        by_cases e : j = k
        · subst e
          intro hm
          simp [hm] at h
        · exact ih.1 hs j (by omega)
    · intro h
      rw [ih.2 (fun j hj => h j (by omega))]
      simp [h k (by omega)]

theorem seekTo_some {Q : Qs} {t : Int} {k i : Nat} (hi : i < k) (ht : t ∈ Q i) (hb : ∀ j, j < i → t ∉ Q j) : seekTo Q t k = some i := by
  induction k with
  | zero => omega
  | succ k ih =>
    unfold seekTo
    by_cases e : i = k
    · subst e
      rw [seekTo_none.2 hb]
      simp [ht]
    · rw [ih (by omega)]

theorem seekTo_is {Q : Qs} {t : Int} {k i : Nat} (h : seekTo Q t k = some i) : i < k ∧ t ∈ Q i := by
  induction k with
  | zero => cases h
  | succ k ih =>
    unfold seekTo at h
    cases hs : seekTo Q t k with
    | some j =>
      rw [hs] at h
      cases h
      have := ih hs
      exact ⟨by omega, this.2⟩
    | none =>
      rw [hs] at h
      by_cases hm : t ∈ Q k
      · simp [hm] at h; subst h; exact ⟨by omega, hm⟩
      · simp [hm] at h

theorem seek_is {Q : Qs} {t : Int} {i : Nat} (h : seek Q t = some i) : i < 8 ∧ t ∈ Q i := seekTo_is h
theorem seek_no {Q : Qs} {t : Int} (h : seek Q t = none) {i : Nat} (hi : i < 8) : t ∉ Q i := seekTo_none.1 h i hi
theorem seek_none {Q : Qs} {t : Int} (h : ∀ i, i < 8 → t ∉ Q i) : seek Q t = none := seekTo_none.2 h

section
variable {w : World} {p o T : Nat} {V : Nat → Value} {Q : Qs}

def FindNo (w : World) (e : Ending) (w' : World) : Prop := e = .returned (.tuple #[.int .i64 0, .int .i64 0, .bool false]) ∧ Only (fun _ => False) w w'
def FindYes (i : Nat) (j : Nat) (w : World) (e : Ending) (w' : World) : Prop := e = .returned (.tuple #[.int .i64 i, .int .i64 j, .bool true]) ∧ Only (fun _ => False) w w'
/-- What find answers. -/
def FindAns (Q : Qs) (t : Int) (w : World) (e : Ending) (w' : World) : Prop :=
  match seek Q t with
  | some i => FindYes i ((Q i).idxOf t) w e w'
  | none => FindNo w e w'

set_option maxHeartbeats 1000000 in
set_option maxRecDepth 100000 in
theorem find_any (h : QAt w p o T V Q) (hl : ∀ i, i < 8 → (Q i).length ≤ 17000000000000) (t : Int) :
    Calls Tryz.prog 55 #[.pointer (some ⟨p, o, none⟩), .int .i64 t] w (FindAns Q t w) := by
  have H := Lib.hid h
  have HL := Lib.hid hl
  have HX := Lib.hid (index_arr V)
  have HA := Lib.hid (load_arr h)
  clear hl h
  generalize arrOf V = arr at *
  go_enter Tryz.func55, Tryz.ntmps55
  go_wp2_with (refine wpList_load_known rfl 38 _ rfl ⟨p, o, none⟩ rfl (.agg arr) HA.out ?_)
  go_loopw [7, 8, 9, 14] (fun _ _ _ i wr => ∃ k : Nat, k ≤ 8 ∧ i = .int .i64 k ∧ (∀ j, j < k → t ∉ Q j) ∧ Only (fun _ => False) w wr) (fun _ _ _ i _ => 8 - (intOf i).toNat)
  case atStart => exact ⟨0, Nat.zero_le _, rfl, fun j hj => absurd hj (Nat.not_lt_zero _), Only.refl _ w⟩
  case round =>
    obtain ⟨k, hk, rfl, ht, hO⟩ := hrel
    have HT := Lib.hid ht
    have HO := Lib.hid hO
    clear ht hO
    by_cases hlt : k < 8
    · have ix := HX.out k hlt
      have C := Lib.hid (index_any (V k) (Q k) t wr ((H.out.later HO.out).row k hlt).nums (by have := HL.out k hlt; omega))
      have g1 : (k : Int) < 8 := by omega
      generalize hv : V k = v at *
      clear hv
      by_cases hm : t ∈ Q k
      · obtain ⟨e1, e2⟩ := idx_nonneg hm
        have HE := Lib.hid e1
        have HS := Lib.hid (show seek Q t = some k from seekTo_some hlt hm HT.out)
        have h0 : 0 ≤ idx (Q k) t := by omega
        clear e1 e2 hm
        generalize idx (Q k) t = x at *
        go_wp2_with (go_at_call 73; (with_reducible refine C.out.mono ?_); rintro e w1 ⟨rfl, hO1⟩; have HO1 := Lib.hid (HO.out.trans hO1 (fun _ _ h => h)); clear hO1)
        (try simp only [Exit.inBlock, Exit.then])
        refine bodyPost_ret (results_tmp3 rfl _ _ _) rfl ?_
        unfold FindAns
        rw [HS.out]
        have := HE.out
        subst this
        exact ⟨rfl, HO1.out⟩
      · have e1 := idx_neg hm
        have HM := Lib.hid hm
        have h0 : ¬ 0 ≤ idx (Q k) t := by omega
        clear e1 hm
        generalize idx (Q k) t = x at *
        go_wp2_with (go_at_call 73; (with_reducible refine C.out.mono ?_); rintro e w1 ⟨rfl, hO1⟩; have HO1 := Lib.hid (HO.out.trans hO1 (fun _ _ h => h)); clear hO1)
        go_roundw
        case rel => exact ⟨k + 1, by omega, by go_num, fun j hj => by
          by_cases e : j = k
          · subst e; exact HM.out
          · exact HT.out j (by omega), HO1.out⟩
        case measure => simp [intOf]; omega
    · obtain rfl : k = 8 := by omega
      go_wp2_with fail
      (try simp only [Exit.inBlock, Exit.then])
      refine bodyPost_ret (results_tmp3 rfl _ _ _) rfl ?_
      unfold FindAns
      rw [seek_none HT.out]
      exact ⟨rfl, HO.out⟩
end
end Go.Proofs.YtpincdcebhmnhaaGreat.Pr
/- Rows of elements of several cells: the cells of a list, one element behind the other; cells laid over a row. Of no type and no program. -/
namespace Go.Proofs.YtpincdcebhmnhaaGreat
open Go.ChangeShapes Go.WideShapes Go.ChangeAt Go.RowKit
set_option linter.unusedVariables false

section
variable {α : Type} {enc : α → List Value} {k : Nat}

/-- The cells of a list. -/
def flat (enc : α → List Value) (L : List α) : List Value := L.flatMap enc

theorem flat_len (hk : ∀ x, (enc x).length = k) (L : List α) : (flat enc L).length = L.length * k := by
  induction L with
  | nil => simp [flat]
  | cons x xs ih => simp only [flat, List.flatMap_cons, List.length_append, List.length_cons, hk] at *; rw [ih, Nat.succ_mul]; omega

theorem flat_cons (x : α) (L : List α) : flat enc (x :: L) = enc x ++ flat enc L := rfl
theorem flat_append (L M : List α) : flat enc (L ++ M) = flat enc L ++ flat enc M := by simp [flat]

theorem flat_at (hk : ∀ x, (enc x).length = k) : ∀ (L : List α) (i j : Nat) (hi : i < L.length), j < k → (flat enc L)[i * k + j]? = (enc L[i])[j]? := by
  intro L
  induction L with
  | nil => intro i j hi; cases hi
  | cons x xs ih =>
    intro i j hi hj
    rw [flat_cons]
    cases i with
    | zero =>
      rw [List.getElem?_append_left (by rw [hk]; omega)]
      simp
    | succ i =>
      rw [List.getElem?_append_right (by rw [hk, Nat.succ_mul]; omega), hk]
      have := ih i j (by simpa using hi) hj
      rw [show (i + 1) * k + j - k = i * k + j by rw [Nat.succ_mul]; omega, this]
      simp

theorem flat_take (hk : ∀ x, (enc x).length = k) (L : List α) (n : Nat) : (flat enc L).take (n * k) = flat enc (L.take n) := by
  induction L generalizing n with
  | nil => simp [flat]
  | cons x xs ih =>
    cases n with
    | zero => simp [flat]
    | succ n =>
      rw [flat_cons, List.take_succ_cons, flat_cons, Nat.succ_mul, Nat.add_comm, List.take_append, hk, List.take_of_length_le (by rw [hk]; omega), show k + n * k - k = n * k by omega, ih]

theorem flat_drop (hk : ∀ x, (enc x).length = k) (L : List α) (n : Nat) : (flat enc L).drop (n * k) = flat enc (L.drop n) := by
  induction L generalizing n with
  | nil => simp [flat]
  | cons x xs ih =>
    cases n with
    | zero => simp [flat]
    | succ n =>
      rw [flat_cons, List.drop_succ_cons, Nat.succ_mul, Nat.add_comm, List.drop_append, hk, List.drop_eq_nil_of_le (by rw [hk]; omega), show k + n * k - k = n * k by omega, ih, List.nil_append]

theorem flat_one (x : α) : flat enc [x] = enc x := by simp [flat]

theorem flat_cells (hc : ∀ x, ∀ u ∈ enc x, u.oneCell' = true) (L : List α) : ∀ u ∈ flat enc L, u.oneCell' = true := by
  intro u hu
  obtain ⟨x, hx, hu⟩ := List.mem_flatMap.1 hu
  exact hc x u hu

theorem mul_lt {i n k : Nat} (h : i < n) : i * k + k ≤ n * k := by
  have : (i + 1) * k ≤ n * k := Nat.mul_le_mul_right k h
  rwa [Nat.succ_mul] at this
end

/-- Some elements laid over a list from a place on. -/
def over : Nat → List Value → List Value → List Value
  | _, [], xs => xs
  | o, v :: r, xs => over (o + 1) r (xs.set o v)

theorem over_length (o : Nat) (vs xs : List Value) : (over o vs xs).length = xs.length := by
  induction vs generalizing o xs with
  | nil => rfl
  | cons v r ih => rw [over, ih]; simp

theorem over_get (o : Nat) (vs xs : List Value) (i : Nat) (h : o + vs.length ≤ xs.length) : (over o vs xs)[i]? = if o ≤ i ∧ i < o + vs.length then vs[i - o]? else xs[i]? := by
  induction vs generalizing o xs with
  | nil => rw [over, if_neg (by simp)]
  | cons v r ih =>
    simp only [List.length_cons] at h
    rw [over, ih _ _ (by simp; omega)]
    simp only [List.length_cons]
    by_cases h1 : o + 1 ≤ i ∧ i < o + 1 + r.length
    · rw [if_pos h1, if_pos (by omega), show i - o = (i - (o + 1)) + 1 by omega]
      simp
    · rw [if_neg h1]
      by_cases h2 : i = o
      · subst h2
        rw [if_pos (by omega)]
        simp [show i < xs.length by omega]
      · rw [if_neg (by omega)]
        simp [Ne.symm h2]

theorem heap_setCells {g : Nat} {t : TypeId} (vs : List Value) : ∀ (o : Nat) (w : World) (cs : Array Value), w.heap[g]? = some (.cells cs t (0, 0)) →
    ∃ cs', (w.setCells g o vs).heap[g]? = some (.cells cs' t (0, 0)) ∧ cs'.size = cs.size ∧ cs'.toList = over o vs cs.toList ∧ Only (· = g) w (w.setCells g o vs) := by
  induction vs with
  | nil => exact fun o w cs h => ⟨cs, h, rfl, rfl, Only.refl _ w⟩
  | cons v r ih =>
    intro o w cs h
    obtain ⟨cs', h1, h2, h3, h4⟩ := ih (o + 1) (w.setCell ⟨g, o, none⟩ v) _ (heap_setCell_same w g o cs t v h)
    refine ⟨cs', h1, by simpa using h2, by rw [h3, Array.toList_setIfInBounds]; rfl, ?_⟩
    exact (Only.setCell (S := fun x => x = g) (Only.refl _ w) (p := ⟨g, o, none⟩) rfl v).trans h4 (fun _ _ h => h)

/-- A row without its element i: what lay behind it moved up, the last place cleared. -/
theorem flat_erased {α : Type} {enc : α → List Value} {k : Nat} (hk : ∀ x, (enc x).length = k) {S : List α} {cur : List Value} {i m : Nat} (z : List Value) (hz : z.length = k) (hS : S.length = m + 1) (hi : i < m + 1)
    (hcl : (m + 1) * k ≤ cur.length) (ht : cur.take ((m + 1) * k) = flat enc S) :
    (over (m * k) z (over (i * k) (flat enc (S.drop (i + 1))) cur)).take (m * k) = flat enc (S.eraseIdx i) := by
  have hl : (flat enc (S.drop (i + 1))).length = (m - i) * k := by rw [flat_len hk, List.length_drop, hS, show m + 1 - (i + 1) = m - i by omega]
  have hs := flat_len hk S
  rw [hS] at hs
  have hc : ∀ j, j < (m + 1) * k → cur[j]? = (flat enc S)[j]? := fun j hj => by rw [← ht, List.getElem?_take_of_lt hj]
  have hmk : (m + 1) * k = m * k + k := Nat.succ_mul m k
  have hik : i * k ≤ m * k := Nat.mul_le_mul_right k (by omega)
  have hmi : (m - i) * k = m * k - i * k := Nat.sub_mul m i k
  have hi1 : (i + 1) * k = i * k + k := Nat.succ_mul i k
  rw [List.eraseIdx_eq_take_drop_succ, flat_append, ← flat_take hk]
  apply List.ext_getElem?
  intro j
  rw [List.getElem?_take]
  by_cases h : j < m * k
  · rw [if_pos h, over_get _ _ _ _ (by rw [over_length]; omega), if_neg (by omega), over_get _ _ _ _ (by omega)]
    by_cases h2 : j < i * k
    · rw [if_neg (by omega), List.getElem?_append_left (by rw [List.length_take]; omega), List.getElem?_take_of_lt h2, hc j (by omega)]
    · rw [if_pos (by omega), List.getElem?_append_right (by rw [List.length_take]; omega), ← flat_drop hk, List.length_take]
      rw [Nat.min_eq_left (by omega)]
  · rw [if_neg h, List.getElem?_eq_none]
    rw [List.length_append, hl, List.length_take]; omega
end Go.Proofs.YtpincdcebhmnhaaGreat
/- slices.Delete of one number. -/
namespace Go.Proofs.YtpincdcebhmnhaaGreat.Pr
open Go.ChangeShapes Go.WideShapes Go.ChangeAt Go.RowKit Go.Maps
set_option linter.unusedVariables false

def enc (x : Int) : List Value := [.int .i64 x]
theorem enc_len (x : Int) : (enc x).length = 1 := rfl
theorem enc_one (x : Int) : ∀ u ∈ enc x, u.oneCell' = true := one_num x
theorem flat_is (L : List Int) : flat enc L = numCells L := by
  induction L with
  | nil => rfl
  | cons x xs ih => rw [flat_cons, ih]; rfl

theorem run_clear (w : World) (ty : TypeId) (b o c : Nat) (hc : (w.cell? ⟨b, o, none⟩).isSome = true) (hf : w.frozen? ⟨b, o, none⟩ = false) :
    (Builtin.clear_ #[37] ty #[.slice (some ⟨b, o, none⟩) 1 c]).run Tryz.prog w = .ok (.tuple #[]) (w.setCells b o [.int .i64 0]) := by
  have hst := run_storeCells_cells (P := Tryz.prog) b o [.int .i64 0] 0 w (by intro j hj; simp at hj; subst hj; simpa using hc) (by intro j hj; simp at hj; subst hj; simpa using hf) (by intro v hv'; simp at hv'; rcases hv' with rfl; rfl)
  simp only [Nat.add_zero] at hst
  have hzc : (Builtin.zeroCells (Value.int .i64 0).cells 1).toList = [.int .i64 0] := by
    simp [Builtin.zeroCells, Value.cells]
    try rfl
  obtain ⟨i0, hi, hz0, hz1, hz2⟩ := info_parts Tryz.infoInt
  have hze : ∀ w, (zeroValue 3).run Tryz.prog w = .ok (.int .i64 0) w := fun w => by simp [zeroValue, typeInfo, hi, hz0]
  simp [Builtin.clear_, run_underlying Tryz.underlying37, hze, hzc, hst]

/-- What is known behind Delete. -/
def Deleted (lo g m cap i : Nat) (S : List Int) (w : World) (e : Ending) (w' : World) : Prop :=
  e = .returned (.slice (some ⟨g, 0, none⟩) m cap) ∧ Ints w' lo (.slice (some ⟨g, 0, none⟩) m cap) (S.eraseIdx i) ∧ Only (· = g) w w'

set_option maxRecDepth 100000 in
set_option maxHeartbeats 1000000 in
theorem delete_row (lo g m cap i : Nat) (S : List Int) (w : World) (hown : Ints w lo (.slice (some ⟨g, 0, none⟩) (m + 1) cap) S) (hS : S.length = m + 1) (hi : i < m + 1) (hb : m ≤ 6000000000000) :
    Calls Tryz.prog 128 #[.slice (some ⟨g, 0, none⟩) (m + 1) cap, .int .i64 i, .int .i64 ((i : Int) + 1)] w (Deleted lo g m cap i S w) := by
  obtain ⟨i0, hi0, hz0, hz1, hz2⟩ := info_parts Tryz.infoInt
  unfold Ints at hown
  rw [hS] at hown
  rcases hown with ⟨hlen, ⟨h1, _⟩ | ⟨g', cap', cur, h1, hlo, hg, hnc, hcm, hcs, htake⟩⟩
  · cases h1
  · cases h1
    rw [← flat_is] at htake
    have hcapm : cap ≤ 9223372036854775807 := by unfold maxLen at hcm; omega
    have hself : w.drew.heap[g]? = some (.cells cur 3 (0, 0)) := hg
    have hel : (S.eraseIdx i).length = m := by rw [List.length_eraseIdx, if_pos (by omega)]; omega
    obtain ⟨c1, hh1, hs1, ht1, hO1⟩ := heap_setCells (flat enc (S.drop (i + 1))) (0 + i * 1) w.drew cur hself
    obtain ⟨W1, hW1⟩ : ∃ W1, W1 = w.drew.setCells g (0 + i * 1) (flat enc (S.drop (i + 1))) := ⟨_, rfl⟩
    rw [← hW1] at hh1 hO1
    obtain ⟨c2, hh2, hs2, ht2, hO2⟩ := heap_setCells [.int .i64 0] m W1 c1 hh1
    have hcl : ∀ ty, (Builtin.clear_ #[37] ty #[.slice (some ⟨g, m, none⟩) 1 (cap - m)]).run Tryz.prog W1 = .ok (.tuple #[]) (W1.setCells g m [.int .i64 0]) := by
      intro ty
      refine run_clear _ ty g _ _ ?_ (frozen_at hh1 _)
      rw [cell_at hh1]
      simp; omega
    have HF := Lib.hid (show Deleted lo g m cap i S w (.returned (.slice (some ⟨g, 0, none⟩) m cap)) (W1.setCells g m [.int .i64 0]) from by
      refine ⟨rfl, ?_, ((Only.refl _ w).drew.trans hO1 (fun _ _ h => h)).trans hO2 (fun _ _ h => h)⟩
      unfold Ints
      rw [hel]
      refine ⟨by rw [numCells_len, hel, Nat.mul_one], Or.inr ⟨g, cap, c2, rfl, hlo, hh2, by omega, hcm, by omega, ?_⟩⟩
      have := flat_erased enc_len (i := i) [.int .i64 0] rfl hS hi (by rw [Array.length_toList, hcs]; omega) htake
      rw [ht2, ht1, Nat.zero_add, ← flat_is]
      simpa using this)
    have s1 : Hid ((flat enc (S.drop (i + 1))).length = m - i) := by show _ = _; rw [flat_len enc_len]; simp; omega
    have s2 : Hid (∀ u ∈ flat enc (S.drop (i + 1)), u.oneCell' = true) := flat_cells enc_one _
    have s3 : Hid (∀ j, j < (flat enc (S.drop (i + 1))).length → (w.drew.cell? ⟨g, 0 + i * 1 + j, none⟩).isSome = true ∧ w.drew.frozen? ⟨g, 0 + i * 1 + j, none⟩ = false) := by
      intro j hj
      have := s1.out
      refine ⟨?_, frozen_at hself _⟩
      rw [cell_at hself]
      simp; omega
    obtain ⟨A, hA, hsrc⟩ : ∃ A : Addr, (if cap = i + 1 then some (⟨g, 0, none⟩ : Addr) else some ⟨g, i + 1, none⟩) = some A ∧ Hid (∀ j u, (flat enc (S.drop (i + 1)))[j]? = some u → w.drew.cell? (A.add j) = some u) := by
      by_cases h : cap = i + 1
      · refine ⟨⟨g, 0, none⟩, by rw [if_pos h], fun j u hu => ?_⟩
        have := (List.getElem?_eq_some_iff.1 hu).1
        have := s1.out
        omega
      · refine ⟨⟨g, i + 1, none⟩, by rw [if_neg h], fun j u hu => ?_⟩
        have hj := (List.getElem?_eq_some_iff.1 hu).1
        have := s1.out
        have hsl := flat_len enc_len S
        rw [add_plain, cell_at hself]
        rw [← flat_drop enc_len, List.getElem?_drop, ← htake, List.getElem?_take_of_lt (by omega)] at hu
        simpa using hu
    have hW : Hid (W1 = w.drew.setCells g (0 + i * 1) (flat enc (S.drop (i + 1)))) := hW1
    clear hlen hg hcs htake hcm hself hh1 hs1 ht1 hO1 hW1 hh2 hs2 ht2 hO2 hS hel hz0 hz2
    generalize flat enc (S.drop (i + 1)) = news at *
    have e1 : (i : Int) + 1 ≤ (m : Int) + 1 := by omega
    have e2 : (i : Int) ≤ (m : Int) + 1 := by omega
    have e3 : ((i : Int) == (i : Int) + 1) = false := by simp; omega
    have e4 : ((i : Int) + 1).toNat = i + 1 := by omega
    have e5 : (0 : Int) ≤ (i : Int) + 1 := by omega
    have e6 : i ≤ m + 1 := by omega
    have e7 : i + 1 ≤ m + 1 := by omega
    have e8 : i ≤ cap := by omega
    go_enter Tryz.func128, Tryz.ntmps128
    go_wp2_with fail
    go_region_law (refine step_append_room rfl (.tmp 22) (.tmp 25) 37 rfl 3 i0 1 Tryz.underlying37 hi0 hz1 g 0 i cap (by simp [Act.eval, Act.put]) A (m - i) (cap - (i + 1)) news (by simp [Act.eval, Act.put]) (by rw [Nat.mul_one]; exact s1.out) hsrc.out s2.out (by omega) s3.out ?_; rw [← hW.out, show i + (m - i) = m from by omega])
    go_wp2
    go_ret
    exact HF.out
end Go.Proofs.YtpincdcebhmnhaaGreat.Pr
