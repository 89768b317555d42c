/- The list of things that a play keeps beside the tree: its row in memory; copying whole things. -/
import Derived.Test.YtbfnaejfmpnkbaaGrow
import Derived.Test.YtbfnaejfmpnkbaaArgs
import Derived.Laws.IdiomCopy
import Derived.Laws.Externs
import Derived.Lib.AppendZerosOnto
import Derived.Lib.Overlaps
import Derived.Shelf.Spec.SlicesInsert
import Derived.Laws.NewBlocks
import Derived.Deep.RegionLaw
namespace Go.Proofs.Ytbfnaejfmpnkbaa
open Go.ChangeShapes Go.WideShapes Go.ChangeAt Go.RowKit
set_option linter.unusedVariables false

/-- The cells of a list of things. -/
def cells3 (L : List El) : List Value := L.flatMap fun x => [.int .i64 x.k, .int .i64 x.i, .int .i64 x.w]

theorem cells3_len (L : List El) : (cells3 L).length = L.length * 3 := by
  induction L with
  | nil => rfl
  | cons x xs ih => simp only [cells3, List.flatMap_cons, List.length_append, List.length_cons, List.length_nil] at *; omega

/-- The thing at a place. -/
def thg (L : List El) (i : Nat) : El := L.getD i ⟨0, 0, 0⟩

theorem thg_eq {L : List El} {i : Nat} (h : i < L.length) : thg L i = L[i] := by simp [thg, List.getD, h]
theorem thg_mem {L : List El} {i : Nat} (h : i < L.length) : thg L i ∈ L := by rw [thg_eq h]; exact List.getElem_mem h

theorem cells3_at {L : List El} : ∀ {i : Nat}, i < L.length → (cells3 L)[i * 3]? = some (.int .i64 (thg L i).k) ∧ (cells3 L)[i * 3 + 1]? = some (.int .i64 (thg L i).i) ∧ (cells3 L)[i * 3 + 2]? = some (.int .i64 (thg L i).w) := by
  induction L with
  | nil => intro i h; cases h
  | cons x xs ih =>
    intro i h
    cases i with
    | zero => exact ⟨rfl, rfl, rfl⟩
    | succ i =>
      have := ih (i := i) (by simpa using h)
      have e1 : (i + 1) * 3 = i * 3 + 3 := by omega
      rw [e1]
      simpa [cells3, thg, List.getD] using this

theorem cells3_append (L K : List El) : cells3 (L ++ K) = cells3 L ++ cells3 K := by simp [cells3]
theorem cells3_drop (L : List El) (n : Nat) : (cells3 L).drop (n * 3) = cells3 (L.drop n) := by
  induction L generalizing n with
  | nil => simp [cells3]
  | cons x xs ih =>
    cases n with
    | zero => simp [cells3]
    | succ n =>
      have e : (n + 1) * 3 = n * 3 + 3 := by omega
      have := ih n
      rw [e]
      simpa [cells3] using this
theorem cells3_take (L : List El) (n : Nat) : (cells3 L).take (n * 3) = cells3 (L.take n) := by
  induction L generalizing n with
  | nil => simp [cells3]
  | cons x xs ih =>
    cases n with
    | zero => simp [cells3]
    | succ n =>
      have e : (n + 1) * 3 = n * 3 + 3 := by omega
      have := ih n
      rw [e]
      simpa [cells3] using this
theorem cells3_one {L : List El} : ∀ u ∈ cells3 L, u.oneCell' = true := by
  intro u hu
  obtain ⟨x, hx, hu⟩ := List.mem_flatMap.1 hu
  simp at hu
  rcases hu with rfl | rfl | rfl <;> rfl

/-- Some elements laid over a list from a place on. -/
def over : Nat → List Value → List Value → List Value
  | _, [], xs => xs
  | o, v :: r, xs => over (o + 1) r (xs.set o v)

theorem over_length (o : Nat) (vs xs : List Value) : (over o vs xs).length = xs.length := by
  induction vs generalizing o xs with
  | nil => rfl
  | cons v r ih => rw [over, ih]; simp

theorem over_get (o : Nat) (vs xs : List Value) (i : Nat) (h : o + vs.length ≤ xs.length) : (over o vs xs)[i]? = if o ≤ i ∧ i < o + vs.length then vs[i - o]? else xs[i]? := by
  induction vs generalizing o xs with
  | nil => rw [over, if_neg (by simp)]
  | cons v r ih =>
    simp only [List.length_cons] at h
    rw [over, ih _ _ (by simp; omega)]
    simp only [List.length_cons]
    by_cases h1 : o + 1 ≤ i ∧ i < o + 1 + r.length
    · rw [if_pos h1, if_pos (by omega), show i - o = (i - (o + 1)) + 1 by omega]
      simp
    · rw [if_neg h1]
      by_cases h2 : i = o
      · subst h2
        rw [if_pos (by omega)]
        simp [show i < xs.length by omega]
      · rw [if_neg (by omega)]
        simp [Ne.symm h2]

theorem heap_setCells {g : Nat} {t : TypeId} (vs : List Value) : ∀ (o : Nat) (w : World) (cs : Array Value), w.heap[g]? = some (.cells cs t (0, 0)) →
    ∃ cs', (w.setCells g o vs).heap[g]? = some (.cells cs' t (0, 0)) ∧ cs'.size = cs.size ∧ cs'.toList = over o vs cs.toList ∧ Only (· = g) w (w.setCells g o vs) := by
  induction vs with
  | nil => exact fun o w cs h => ⟨cs, h, rfl, rfl, Only.refl _ w⟩
  | cons v r ih =>
    intro o w cs h
    obtain ⟨cs', h1, h2, h3, h4⟩ := ih (o + 1) (w.setCell ⟨g, o, none⟩ v) _ (heap_setCell_same w g o cs t v h)
    refine ⟨cs', h1, by simpa using h2, by rw [h3, Array.toList_setIfInBounds]; rfl, ?_⟩
    exact (Only.setCell (S := fun x => x = g) (Only.refl _ w) (p := ⟨g, o, none⟩) rfl v).trans h4 (fun _ _ h => h)

/-- A row of things. -/
def ThingsAt (w : World) (B : Nat) (V : Value) (L : List El) : Prop := w.ownsRow B 32 3 V L.length (cells3 L)

theorem ThingsAt.cases {w : World} {B : Nat} {V : Value} {L : List El} (h : ThingsAt w B V L) : (V = .slice none 0 0 ∧ L = []) ∨
    ∃ g cap cur, V = .slice (some ⟨g, 0, none⟩) L.length cap ∧ B ≤ g ∧ L.length ≤ cap ∧ cap ≤ 9223372036854775807 ∧ w.heap[g]? = some (.cells cur 32 (0, 0)) ∧ cur.size = cap * 3 ∧ cur.toList.take (L.length * 3) = cells3 L ∧
      ∀ i, i < L.length → w.cell? ⟨g, i * 3, none⟩ = some (.int .i64 (thg L i).k) ∧ w.cell? ⟨g, i * 3 + 1, none⟩ = some (.int .i64 (thg L i).i) ∧ w.cell? ⟨g, i * 3 + 2, none⟩ = some (.int .i64 (thg L i).w) := by
  rcases h with ⟨hl, ⟨rfl, h0⟩ | ⟨g, cap, cur, rfl, hb, h2, h3, h4, h5, h6⟩⟩
  · exact Or.inl ⟨rfl, List.eq_nil_of_length_eq_zero h0⟩
  · refine Or.inr ⟨g, cap, cur, rfl, hb, h3, by unfold maxLen at h4; omega, h2, h5, h6, fun i hi => ?_⟩
    have hc := cells3_at hi
    have hlen := cells3_len L
    rw [← h6, List.getElem?_take_of_lt (by omega), List.getElem?_take_of_lt (by omega), List.getElem?_take_of_lt (by omega)] at hc
    rw [cell_at h2, cell_at h2, cell_at h2]
    exact ⟨by simpa using hc.1, by simpa using hc.2.1, by simpa using hc.2.2⟩

theorem ThingsAt.keep {S : Nat → Prop} {w w' : World} {B : Nat} {V : Value} {L : List El} (h : ThingsAt w B V L) (hO : Only S w w') (hS : ∀ g, V.ownBlock = some g → ¬ S g) : ThingsAt w' B V L := owns_kept h hO hS
theorem ThingsAt.later {w w' : World} {B : Nat} {V : Value} {L : List El} (h : ThingsAt w B V L) (hO : Only (fun _ => False) w w') : ThingsAt w' B V L := owns_kept h hO (fun _ _ e => e)

theorem Try.info32 : (Try.prog.info? 32).map (fun i => (i.zero, i.size, i.bytes)) = some (some (.agg #[.int .i64 0, .int .i64 0, .int .i64 0]), 3, 24) := by kernel_rfl
theorem Try.size32 : (Try.prog.info? 32).map (·.size) = some 3 := by
  obtain ⟨i0, hi, hz0, hz1, hz2⟩ := info_parts Try.info32
  rw [hi]; simp [hz1]

theorem run_copy3 (w : World) (ty : TypeId) (b o dLen dCap : Nat) (a : Addr) (sLen sCap : Nat) (cs : List Value) (hn : cs.length = Nat.min sLen dLen * 3)
    (hsrc : ∀ j v, cs[j]? = some v → w.cell? (a.add j) = some v) (hc : ∀ j, j < cs.length → (w.cell? ⟨b, o + j, none⟩).isSome = true) (hf : ∀ j, j < cs.length → w.frozen? ⟨b, o + j, none⟩ = false) (h1 : ∀ v ∈ cs, v.oneCell' = true) :
    (Builtin.copy_ #[28, 28] ty #[.slice (some ⟨b, o, none⟩) dLen dCap, .slice (some a) sLen sCap]).run Try.prog w = .ok (goInt (Nat.min sLen dLen)) (w.setCells b o cs) := by
  have hl := run_loadCells_list (P := Try.prog) w a cs hsrc
  have hst := run_storeCells_cells (P := Try.prog) b o cs 0 w (by simpa using hc) (by simpa using hf) h1
  obtain ⟨i0, hi, hz0, hz1, hz2⟩ := info_parts Try.info32
  simp [Builtin.copy_, run_underlying Try.underlying28, Builtin.lenOf, Builtin.firstCells, sizeOf, typeInfo, hi, hz1, ← hn, hl, hst]

end Go.Proofs.Ytbfnaejfmpnkbaa
