/- Rows of admit.Use. -/
import Derived.Test.YtddfdnhlghmapaaAUse
import Derived.Shelf.SlSortCmp.SmallK
import Derived.Shelf.SlSortCmp.NoneTotal
import Derived.Test.YtddfdnhlghmapaaRow
import Derived.Deep.AppendLies
namespace Go.Proofs.Ytddfdnhlghmapaa.Up
open Go.ChangeShapes Go.WideShapes Go.ChangeAt Go.RowKit
open Go.Shelf

set_option linter.unusedVariables false

/-- A budget and a period of no more than 30. -/
abbrev U30 := { u : Int × Int // 1 ≤ u.2 ∧ u.2 ≤ 30 }
def u0 : U30 := ⟨(0, 1), by decide⟩
instance : Inhabited U30 := ⟨u0⟩

theorem Try.infoElem : (Try.prog.info? 71).map (fun i => (i.zero, i.size, i.bytes)) = some (some (.agg #[.int .i64 0, .int .i64 0]), 2, 16) := by kernel_rfl

/-- The cells of one element. -/
def enc (x : U30) : List Value := [.int .i64 x.1.1, .int .i64 x.1.2]

theorem enc_len (x : U30) : (enc x).length = 2 := rfl
theorem enc_one (x : U30) : ∀ u ∈ enc x, u.oneCell' = true := by intro u hu; simp [enc] at hu; rcases hu with rfl | rfl <;> rfl

/-- A row of the call's own, from block B on. -/
def RowAt (w : World) (B : Nat) (V : Value) (S : List (U30)) : Prop := w.ownsRow B 71 2 V S.length (flat enc S)

theorem row_nil (w : World) (B : Nat) : RowAt w B (.slice none 0 0) [] := World.ownsRow_nil w B 71 2

theorem RowAt.cases {w : World} {B : Nat} {V : Value} {S : List (U30)} (h : RowAt w B V S) : (V = .slice none 0 0 ∧ S = []) ∨
    ∃ g cap, V = .slice (some ⟨g, 0, none⟩) S.length cap ∧ B ≤ g ∧ S.length ≤ cap ∧ cap ≤ 9223372036854775807 ∧ (∃ cur, w.heap[g]? = some (.cells cur 71 (0, 0))) ∧ ∀ i, i < S.length → w.cell? ⟨g, i * 2, none⟩ = some (.int .i64 (S.getD i u0).1.1) ∧ w.cell? ⟨g, i * 2 + 1, none⟩ = some (.int .i64 (S.getD i u0).1.2) := by
  rcases h with ⟨hl, ⟨rfl, h0⟩ | ⟨g, cap, cur, rfl, hb, h2, h3, h4, h5, h6⟩⟩
  · exact Or.inl ⟨rfl, List.eq_nil_of_length_eq_zero h0⟩
  · refine Or.inr ⟨g, cap, rfl, hb, h3, by unfold maxLen at h4; omega, ⟨cur, h2⟩, fun i hi => ?_⟩
    have hm := mul_lt (k := 2) hi
    have hcell : ∀ j, j < 2 → w.cell? ⟨g, i * 2 + j, none⟩ = (enc (S.getD i u0))[j]? := fun j hj => by
      rw [cell_at h2, ← Array.getElem?_toList]
      have := flat_at enc_len S i j hi hj
      rw [← h6, List.getElem?_take_of_lt (by omega)] at this
      rw [this]
      simp [List.getD, hi]
    exact ⟨hcell 0 (by decide), hcell 1 (by decide)⟩

theorem RowAt.later {w w' : World} {B : Nat} {V : Value} {S : List (U30)} (h : RowAt w B V S) (hO : Only (fun _ => False) w w') : RowAt w' B V S := owns_kept h hO (fun _ _ e => e)
theorem RowAt.keep {N : Nat → Prop} {w w' : World} {B : Nat} {V : Value} {S : List (U30)} (h : RowAt w B V S) (hO : Only N w w') (hN : ∀ g, V.ownBlock = some g → ¬ N g) : RowAt w' B V S := owns_kept h hO hN
theorem RowAt.base {w : World} {B B' : Nat} {V : Value} {S : List (U30)} (h : RowAt w B V S) (hb : B' ≤ B) : RowAt w B' V S := owns_base h hb
theorem RowAt.block {w : World} {B : Nat} {V : Value} {S : List (U30)} (h : RowAt w B V S) {g : Nat} (hg : V.ownBlock = some g) : B ≤ g ∧ g < w.heap.size := h.lt g hg
theorem RowAt.type {w : World} {B : Nat} {V : Value} {S : List (U30)} (h : RowAt w B V S) {g : Nat} (hg : V.ownBlock = some g) : ∃ cur, w.heap[g]? = some (.cells cur 71 (0, 0)) := owns_type h hg

theorem RowAt.shape {w : World} {B : Nat} {V : Value} {S : List (U30)} (h : RowAt w B V S) {n : Nat} (hn : S.length = n) : ∃ a c, V = .slice a n c ∧ n ≤ c ∧ c ≤ 9223372036854775807 ∧ (a = none → c = 0) := by
  subst hn
  rcases h.cases with ⟨rfl, rfl⟩ | ⟨g, cap, rfl, -, h1, h2, -⟩
  · exact ⟨none, 0, rfl, Nat.le_refl _, by omega, fun _ => rfl⟩
  · exact ⟨_, cap, rfl, h1, h2, fun e => by cases e⟩

theorem RowAt.at_block {w : World} {B : Nat} {V : Value} {S : List (U30)} (h : RowAt w B V S) {n : Nat} (hn : S.length = n) (h0 : 0 < n) : ∃ g c, V = .slice (some ⟨g, 0, none⟩) n c ∧ B ≤ g ∧ g < w.heap.size ∧ n ≤ c ∧ c ≤ 9223372036854775807 ∧ RowAt w B (.slice (some ⟨g, 0, none⟩) n c) S := by
  subst hn
  rcases h.cases with ⟨rfl, rfl⟩ | ⟨g, cap, rfl, hb, h1, h2, ⟨cur, h3⟩, -⟩
  · simp at h0
  · exact ⟨g, cap, rfl, hb, block_there h3, h1, h2, h⟩

theorem RowAt.cell {w : World} {B g n c : Nat} {S : List (U30)} (h : RowAt w B (.slice (some ⟨g, 0, none⟩) n c) S) {i : Nat} (hi : i < S.length) : w.cell? ⟨g, i * 2, none⟩ = some (.int .i64 (S.getD i u0).1.1) ∧ w.cell? ⟨g, i * 2 + 1, none⟩ = some (.int .i64 (S.getD i u0).1.2) := by
  rcases h.cases with ⟨h1, -⟩ | ⟨g', cap', h1, -, -, -, -, h2⟩
  · cases h1
  · cases h1; exact h2 i hi

theorem lim_of {n : Nat} (h : n ≤ 8796093022144) : n ≤ maxLen ∧ n * 16 ≤ 140737488355328 := by unfold maxLen; omega

/-- append(a, b..): one more element, which lies in a block of its own. -/
theorem append_row {w : World} {ops : Array Oper} {rest : List Oper} {o : Oper} {a : Act} {Q : Exit → Act → World → Prop} (hgd : o.guard = none) (s x : Operand)
    (ho : o.op = .call { callee := .builtin .append, args := #[s, x], argTypes := #[67, 67] })
    (base b c : Nat) (v : Value) (S : List (U30)) (y : U30) (hs : a.eval s = v) (hx : a.eval x = .slice (some ⟨b, 0, none⟩) 1 c) (hown : RowAt w base v S) (hb : w.heap[b]? = some (.cells (enc y).toArray 71 (0, 0)))
    (hn : S.length + 1 ≤ 8796093022144) (hbase : base ≤ w.heap.size)
    (h : ∀ v' w', RowAt w' base v' (S ++ [y]) → Only (fun k => v.ownBlock = some k) w w' → (∀ k, v'.ownBlock = some k → v.ownBlock = some k ∨ w.heap.size ≤ k) → wpList Try.prog ops Q rest (a.put o.dst v') w') : wpList Try.prog ops Q (o :: rest) a w := by
  obtain ⟨i0, hi, hz0, hz1, hz2⟩ := info_parts Try.infoElem
  refine wpList_append_lies w hgd s x 67 ho base 71 i0 (.agg #[.int .i64 0, .int .i64 0]) 2 16 Try.underlying67 hi hz0 hz1 hz2 rfl (by decide) v S.length (flat enc S) hs hown ⟨b, 0, none⟩ 1 c (enc y) hx (by rw [enc_len]) ?_ (enc_one y) Nat.one_pos (lim_of hn).1 (lim_of hn).2 hbase _ rfl ?_
  · intro j u hj
    rw [add_plain, cell_at hb, Nat.zero_add, ← Array.getElem?_toList]
    exact hj
  · intro g' cap' w' hown' hg hat _
    refine h _ w' ?_ (Only.of_grown hg (fun k hk => hk)) (fun k hk => by cases hk; exact hat.imp_right (fun e => by rw [e]; exact Nat.le_refl _))
    unfold RowAt
    rw [List.length_append, flat_append, flat_one]
    exact hown'

/-- append(a, b..): all elements of another row. -/
theorem append_rows {w : World} {ops : Array Oper} {rest : List Oper} {o : Oper} {a : Act} {Q : Exit → Act → World → Prop} (hgd : o.guard = none) (s x : Operand)
    (ho : o.op = .call { callee := .builtin .append, args := #[s, x], argTypes := #[67, 67] })
    (base base' : Nat) (v vx : Value) (S Z : List (U30)) (hs : a.eval s = v) (hx : a.eval x = vx) (hown : RowAt w base v S) (hr : RowAt w base' vx Z)
    (hn : S.length + Z.length ≤ 8796093022144) (hbase : base ≤ w.heap.size)
    (h : ∀ v' w', RowAt w' base v' (S ++ Z) → Only (fun k => v.ownBlock = some k) w w' → wpList Try.prog ops Q rest (a.put o.dst v') w') : wpList Try.prog ops Q (o :: rest) a w := by
  obtain ⟨i0, hi, hz0, hz1, hz2⟩ := info_parts Try.infoElem
  rcases hr with ⟨hl, ⟨rfl, h0⟩ | ⟨g, cap, cur, rfl, hb, h2, h3, h4, h5, h6⟩⟩
  · have hz : Z = [] := List.eq_nil_of_length_eq_zero h0
    subst hz
    refine wpList_append_own_none hgd s x 67 ho base 71 i0 2 Try.underlying67 hi v S.length (flat enc S) hs hown hx ?_
    exact h v w (by rw [List.append_nil]; exact hown) (Only.refl _ w)
  · refine wpList_append_own w hgd s x 67 ho base 71 i0 (.agg #[.int .i64 0, .int .i64 0]) 2 16 Try.underlying67 hi hz0 hz1 hz2 rfl (by decide) v S.length (flat enc S) hs hown ⟨g, 0, none⟩ Z.length cap (flat enc Z) hx (flat_len enc_len Z) ?_ (flat_cells enc_one Z) (lim_of hn).1 (lim_of hn).2 hbase ?_
    · intro j u hj
      have hlt := (List.getElem?_eq_some_iff.1 hj).1
      rw [flat_len enc_len] at hlt
      rw [add_plain, cell_at h2, Nat.zero_add, ← Array.getElem?_toList]
      rw [← h6, List.getElem?_take_of_lt hlt] at hj
      exact hj
    · intro v' w' hown' hg _
      refine h v' w' ?_ (Only.of_grown hg (fun k hk => hk))
      unfold RowAt
      rw [List.length_append, flat_append]
      exact hown'
theorem flatK_eq (S : List (U30)) : (Sort.flatK enc 2 S.toArray).toList = flat enc S := by
  apply List.ext_getElem?
  intro t
  have hl := flat_len enc_len S
  have hs : (Sort.flatK enc 2 S.toArray).size = S.length * 2 := by simp
  by_cases ht : t < S.length * 2
  · have hq : t / 2 < S.length := by omega
    have hr : t % 2 < 2 := by omega
    have h1 := flat_at enc_len S (t / 2) (t % 2) hq hr
    rw [show t / 2 * 2 + t % 2 = t by omega] at h1
    have hg := Sort.get_flatK enc 2 S.toArray t (by simpa using ht)
    rw [Array.getElem?_toList, Array.getElem?_eq_getElem (by rw [hs]; exact ht), h1]
    rw [getElem!_pos _ t (by rw [hs]; exact ht)] at hg
    rw [hg, getElem!_pos S.toArray (t / 2) (by simpa using hq)]
    have : t % 2 < (enc S[t / 2]).length := by rw [enc_len]; exact hr
    simp [this]
  · rw [List.getElem?_eq_none (by rw [Array.length_toList, hs]; omega), List.getElem?_eq_none (by omega)]

theorem holds_row {w : World} {B g n c : Nat} {S : List (U30)} (h : RowAt w B (.slice (some ⟨g, 0, none⟩) n c) S) : Sort.HoldsK enc 2 w g 0 S.toArray := by
  rcases h with ⟨hl, ⟨h1, _⟩ | ⟨g', cap, cur, h1, hb, h2, h3, h4, h5, h6⟩⟩
  · cases h1
  · cases h1
    intro t ht
    have hs : (Sort.flatK enc 2 S.toArray).size = S.length * 2 := by simp
    rw [hs] at ht
    rw [Nat.zero_add]
    refine ⟨?_, frozen_at h2 t⟩
    rw [cell_at h2, ← Array.getElem?_toList]
    have : cur.toList[t]? = (flat enc S)[t]? := by rw [← h6, List.getElem?_take_of_lt ht]
    rw [this, ← flatK_eq, Array.getElem?_toList, Array.getElem?_eq_getElem (by rw [hs]; exact ht), getElem!_pos _ t (by rw [hs]; exact ht)]
    rfl

/-- The world with other elements in the row. -/
theorem row_put {w : World} {B g n c m : Nat} {S T : List (U30)} {os : Array Obj} (h : RowAt w B (.slice (some ⟨g, 0, none⟩) n c) S) (hn : T.length = S.length) :
    RowAt (Sort.grow (Sort.putRowK enc 2 (Sort.ahead w m) g 0 T.toArray) os) B (.slice (some ⟨g, 0, none⟩) n c) T ∧ Only (· = g) w (Sort.grow (Sort.putRowK enc 2 (Sort.ahead w m) g 0 T.toArray) os) := by
  have hH := holds_row h
  rcases h with ⟨hl, ⟨h1, _⟩ | ⟨g', cap, cur, h1, hb, h2, h3, h4, h5, h6⟩⟩
  · cases h1
  · cases h1
    have hgw := block_there h2
    have hblk : (Sort.grow (Sort.putRowK enc 2 (Sort.ahead w m) g 0 T.toArray) os).heap[g]? = some (.cells (Sort.putCells id 0 (Sort.flatK enc 2 T.toArray) cur) 71 (0, 0)) := by
      rw [Sort.heap_grow_old _ os (by show g < (Sort.putRow _ _ _ _ _).heap.size; rw [Sort.size_putRow]; exact hgw)]
      unfold Sort.putRowK Sort.putRow Sort.mapBlock
      show (w.heap.modify g _)[g]? = _
      rw [Array.getElem?_modify, if_pos rfl, h2]
      rfl
    have hsz : (Sort.putCells id 0 (Sort.flatK enc 2 T.toArray) cur).size = cur.size := by unfold Sort.putCells; simp
    have hfs : (Sort.flatK enc 2 T.toArray).size = T.length * 2 := by simp
    refine ⟨⟨flat_len enc_len T, Or.inr ⟨g, c, _, by rw [hn], hb, hblk, by omega, h4, by rw [hsz, h5], ?_⟩⟩, rfl, rfl, rfl, ?_, fun k hk hne => ?_⟩
    · rw [← flatK_eq]
      apply List.ext_getElem?
      intro t
      rw [List.getElem?_take]
      by_cases ht : t < T.length * 2
      · rw [if_pos ht, Array.getElem?_toList, Array.getElem?_toList]
        unfold Sort.putCells
        have hmul : T.length * 2 ≤ c * 2 := Nat.mul_le_mul_right 2 (by omega)
        rw [Array.getElem?_mapIdx, Array.getElem?_eq_getElem (show t < cur.size by omega), Array.getElem?_eq_getElem (show t < (Sort.flatK enc 2 T.toArray).size by omega)]
        simp only [Option.map_some]
        rw [if_pos ⟨Nat.zero_le _, by rw [hfs]; omega⟩, Nat.sub_zero, getElem!_pos _ t (by rw [hfs]; exact ht)]
        rfl
      · rw [if_neg ht, List.getElem?_eq_none (by rw [Array.length_toList, hfs]; omega)]
    · show w.heap.size ≤ ((w.heap.modify g _) ++ os).size
      rw [Array.size_append, Array.size_modify]; omega
    · rw [Sort.heap_grow_old _ os (by show k < (Sort.putRow _ _ _ _ _).heap.size; rw [Sort.size_putRow]; exact hk)]
      unfold Sort.putRowK Sort.putRow Sort.mapBlock
      show (w.heap.modify g _)[k]? = _
      rw [Array.getElem?_modify, if_neg (Ne.symm hne)]

theorem perm_of_in {d d' : Array (U30)} (h : Sort.PermIn 0 d.size d d') : d'.size = d.size ∧ d'.toList.Perm d.toList := by
  obtain ⟨h1, -, h2⟩ := h
  rw [Array.extract_eq_self_of_le (by omega), Array.extract_eq_self_of_le (by omega)] at h2
  exact ⟨h1, h2⟩

theorem pairs_of_in {lt : U30 → U30 → Bool} {d : Array (U30)} (h : Sort.SortedIn lt 0 d.size d) : d.toList.Pairwise fun x y => lt y x = false := by
  rw [List.pairwise_iff_getElem]
  intro i j hi hj hij
  simp only [Array.length_toList] at hi hj
  have := h i j (Nat.zero_le _) hij hj
  rw [getElem!_pos d i hi, getElem!_pos d j hj] at this
  simpa using this


/-- The rows of budgets and periods are these rows, where the periods are no more than 30. -/
theorem lift_row : ∀ (S : List (Int × Int)), (∀ u ∈ S, 1 ≤ u.2 ∧ u.2 ≤ 30) → ∃ T : List U30, T.map (·.1) = S := by
  intro S
  induction S with
  | nil => exact fun _ => ⟨[], rfl⟩
  | cons x r ih =>
    intro h
    obtain ⟨T, hT⟩ := ih (fun u hu => h u (List.mem_cons_of_mem _ hu))
    exact ⟨⟨x, h x (List.mem_cons_self ..)⟩ :: T, by rw [List.map_cons, hT]⟩
theorem flat_val (T : List U30) : flat Us.enc (T.map (·.1)) = flat enc T := by
  unfold flat
  rw [List.flatMap_map]; rfl
theorem row_iff {w : World} {B : Nat} {V : Value} {T : List U30} : Us.RowAt w B V (T.map (·.1)) ↔ RowAt w B V T := by
  unfold Us.RowAt RowAt
  rw [flat_val, List.length_map]
end Go.Proofs.Ytddfdnhlghmapaa.Up
