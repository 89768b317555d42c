/- Rows of ringref1.job. -/
import Derived.Test.YtlohjlhopbhnoaaFlat
import Derived.Test.YtlohjlhopbhnoaaRow
import Derived.Test.YtlohjlhopbhnoaaSlay
import Derived.Deep.AppendLies
namespace Go.Proofs.Ytlohjlhopbhnoaa.Jb
open Go.ChangeShapes Go.WideShapes Go.ChangeAt Go.RowKit
open Go.Shelf
set_option linter.unusedVariables false

theorem Try.infoElem : (Try.prog.info? 83).map (fun i => (i.zero, i.size, i.bytes)) = some (some (.agg #[.int .i64 0, .int .i64 0, .int .i64 0]), 3, 24) := by kernel_rfl

/-- The cells of one element. -/
def enc (x : Nat × Nat × Nat) : List Value := [.int .i64 (x.1 : Int), .int .i64 (x.2.1 : Int), .int .i64 (x.2.2 : Int)]

theorem enc_len (x : Nat × Nat × Nat) : (enc x).length = 3 := rfl
theorem enc_one (x : Nat × Nat × Nat) : ∀ u ∈ enc x, u.oneCell' = true := by intro u hu; simp [enc] at hu; rcases hu with rfl | rfl | rfl <;> rfl

/-- A row of the call's own, from block B on. -/
def RowAt (w : World) (B : Nat) (V : Value) (S : List (Nat × Nat × Nat)) : Prop := w.ownsRow B 83 3 V S.length (flat enc S)

theorem row_nil (w : World) (B : Nat) : RowAt w B (.slice none 0 0) [] := World.ownsRow_nil w B 83 3

theorem RowAt.cases {w : World} {B : Nat} {V : Value} {S : List (Nat × Nat × Nat)} (h : RowAt w B V S) : (V = .slice none 0 0 ∧ S = []) ∨
    ∃ g cap, V = .slice (some ⟨g, 0, none⟩) S.length cap ∧ B ≤ g ∧ S.length ≤ cap ∧ cap ≤ 9223372036854775807 ∧ (∃ cur, w.heap[g]? = some (.cells cur 83 (0, 0))) ∧ ∀ i, i < S.length → w.cell? ⟨g, i * 3, none⟩ = some (.int .i64 ((S.getD i (0, 0, 0)).1 : Int)) ∧ w.cell? ⟨g, i * 3 + 1, none⟩ = some (.int .i64 ((S.getD i (0, 0, 0)).2.1 : Int)) ∧ w.cell? ⟨g, i * 3 + 2, none⟩ = some (.int .i64 ((S.getD i (0, 0, 0)).2.2 : Int)) := by
  rcases h with ⟨hl, ⟨rfl, h0⟩ | ⟨g, cap, cur, rfl, hb, h2, h3, h4, h5, h6⟩⟩
  · exact Or.inl ⟨rfl, List.eq_nil_of_length_eq_zero h0⟩
  · refine Or.inr ⟨g, cap, rfl, hb, h3, by unfold maxLen at h4; omega, ⟨cur, h2⟩, fun i hi => ?_⟩
    have hm := mul_lt (k := 3) hi
    have hcell : ∀ j, j < 3 → w.cell? ⟨g, i * 3 + j, none⟩ = (enc (S.getD i (0, 0, 0)))[j]? := fun j hj => by
      rw [cell_at h2, ← Array.getElem?_toList]
      have := flat_at enc_len S i j hi hj
      rw [← h6, List.getElem?_take_of_lt (by omega)] at this
      rw [this]
      simp [List.getD, hi]
    exact ⟨hcell 0 (by decide), hcell 1 (by decide), hcell 2 (by decide)⟩

theorem RowAt.later {w w' : World} {B : Nat} {V : Value} {S : List (Nat × Nat × Nat)} (h : RowAt w B V S) (hO : Only (fun _ => False) w w') : RowAt w' B V S := owns_kept h hO (fun _ _ e => e)
theorem RowAt.keep {N : Nat → Prop} {w w' : World} {B : Nat} {V : Value} {S : List (Nat × Nat × Nat)} (h : RowAt w B V S) (hO : Only N w w') (hN : ∀ g, V.ownBlock = some g → ¬ N g) : RowAt w' B V S := owns_kept h hO hN
theorem RowAt.base {w : World} {B B' : Nat} {V : Value} {S : List (Nat × Nat × Nat)} (h : RowAt w B V S) (hb : B' ≤ B) : RowAt w B' V S := owns_base h hb
theorem RowAt.block {w : World} {B : Nat} {V : Value} {S : List (Nat × Nat × Nat)} (h : RowAt w B V S) {g : Nat} (hg : V.ownBlock = some g) : B ≤ g ∧ g < w.heap.size := h.lt g hg
theorem RowAt.type {w : World} {B : Nat} {V : Value} {S : List (Nat × Nat × Nat)} (h : RowAt w B V S) {g : Nat} (hg : V.ownBlock = some g) : ∃ cur, w.heap[g]? = some (.cells cur 83 (0, 0)) := owns_type h hg

theorem RowAt.shape {w : World} {B : Nat} {V : Value} {S : List (Nat × Nat × Nat)} (h : RowAt w B V S) {n : Nat} (hn : S.length = n) : ∃ a c, V = .slice a n c ∧ n ≤ c ∧ c ≤ 9223372036854775807 ∧ (a = none → c = 0) := by
  subst hn
  rcases h.cases with ⟨rfl, rfl⟩ | ⟨g, cap, rfl, -, h1, h2, -⟩
  · exact ⟨none, 0, rfl, Nat.le_refl _, by omega, fun _ => rfl⟩
  · exact ⟨_, cap, rfl, h1, h2, fun e => by cases e⟩

theorem RowAt.at_block {w : World} {B : Nat} {V : Value} {S : List (Nat × Nat × Nat)} (h : RowAt w B V S) {n : Nat} (hn : S.length = n) (h0 : 0 < n) : ∃ g c, V = .slice (some ⟨g, 0, none⟩) n c ∧ B ≤ g ∧ g < w.heap.size ∧ n ≤ c ∧ c ≤ 9223372036854775807 ∧ RowAt w B (.slice (some ⟨g, 0, none⟩) n c) S := by
  subst hn
  rcases h.cases with ⟨rfl, rfl⟩ | ⟨g, cap, rfl, hb, h1, h2, ⟨cur, h3⟩, -⟩
  · simp at h0
  · exact ⟨g, cap, rfl, hb, block_there h3, h1, h2, h⟩

theorem RowAt.cell {w : World} {B g n c : Nat} {S : List (Nat × Nat × Nat)} (h : RowAt w B (.slice (some ⟨g, 0, none⟩) n c) S) {i : Nat} (hi : i < S.length) : w.cell? ⟨g, i * 3, none⟩ = some (.int .i64 ((S.getD i (0, 0, 0)).1 : Int)) ∧ w.cell? ⟨g, i * 3 + 1, none⟩ = some (.int .i64 ((S.getD i (0, 0, 0)).2.1 : Int)) ∧ w.cell? ⟨g, i * 3 + 2, none⟩ = some (.int .i64 ((S.getD i (0, 0, 0)).2.2 : Int)) := by
  rcases h.cases with ⟨h1, -⟩ | ⟨g', cap', h1, -, -, -, -, h2⟩
  · cases h1
  · cases h1; exact h2 i hi

theorem lim_of {n : Nat} (h : n ≤ 5864062014741) : n ≤ maxLen ∧ n * 24 ≤ 140737488355328 := by unfold maxLen; omega

/-- append(a, b..): one more element, which lies in a block of its own. -/
theorem append_row {w : World} {ops : Array Oper} {rest : List Oper} {o : Oper} {a : Act} {Q : Exit → Act → World → Prop} (hgd : o.guard = none) (s x : Operand)
    (ho : o.op = .call { callee := .builtin .append, args := #[s, x], argTypes := #[81, 81] })
    (base b c : Nat) (v : Value) (S : List (Nat × Nat × Nat)) (y : Nat × Nat × Nat) (hs : a.eval s = v) (hx : a.eval x = .slice (some ⟨b, 0, none⟩) 1 c) (hown : RowAt w base v S) (hb : w.heap[b]? = some (.cells (enc y).toArray 83 (0, 0)))
    (hn : S.length + 1 ≤ 5864062014741) (hbase : base ≤ w.heap.size)
    (h : ∀ v' w', RowAt w' base v' (S ++ [y]) → Only (fun k => v.ownBlock = some k) w w' → (∀ k, v'.ownBlock = some k → v.ownBlock = some k ∨ w.heap.size ≤ k) → wpList Try.prog ops Q rest (a.put o.dst v') w') : wpList Try.prog ops Q (o :: rest) a w := by
  obtain ⟨i0, hi, hz0, hz1, hz2⟩ := info_parts Try.infoElem
  refine wpList_append_lies w hgd s x 81 ho base 83 i0 (.agg #[.int .i64 0, .int .i64 0, .int .i64 0]) 3 24 Try.underlying81 hi hz0 hz1 hz2 rfl (by decide) v S.length (flat enc S) hs hown ⟨b, 0, none⟩ 1 c (enc y) hx (by rw [enc_len]) ?_ (enc_one y) Nat.one_pos (lim_of hn).1 (lim_of hn).2 hbase _ rfl ?_
  · intro j u hj
    rw [add_plain, cell_at hb, Nat.zero_add, ← Array.getElem?_toList]
    exact hj
  · intro g' cap' w' hown' hg hat _
    refine h _ w' ?_ (Only.of_grown hg (fun k hk => hk)) (fun k hk => by cases hk; exact hat.imp_right (fun e => by rw [e]; exact Nat.le_refl _))
    unfold RowAt
    rw [List.length_append, flat_append, flat_one]
    exact hown'

/-- append(a, b..): all elements of another row. -/
theorem append_rows {w : World} {ops : Array Oper} {rest : List Oper} {o : Oper} {a : Act} {Q : Exit → Act → World → Prop} (hgd : o.guard = none) (s x : Operand)
    (ho : o.op = .call { callee := .builtin .append, args := #[s, x], argTypes := #[81, 81] })
    (base base' : Nat) (v vx : Value) (S Z : List (Nat × Nat × Nat)) (hs : a.eval s = v) (hx : a.eval x = vx) (hown : RowAt w base v S) (hr : RowAt w base' vx Z)
    (hn : S.length + Z.length ≤ 5864062014741) (hbase : base ≤ w.heap.size)
    (h : ∀ v' w', RowAt w' base v' (S ++ Z) → Only (fun k => v.ownBlock = some k) w w' → wpList Try.prog ops Q rest (a.put o.dst v') w') : wpList Try.prog ops Q (o :: rest) a w := by
  obtain ⟨i0, hi, hz0, hz1, hz2⟩ := info_parts Try.infoElem
  rcases hr with ⟨hl, ⟨rfl, h0⟩ | ⟨g, cap, cur, rfl, hb, h2, h3, h4, h5, h6⟩⟩
  · have hz : Z = [] := List.eq_nil_of_length_eq_zero h0
    subst hz
    refine wpList_append_own_none hgd s x 81 ho base 83 i0 3 Try.underlying81 hi v S.length (flat enc S) hs hown hx ?_
    exact h v w (by rw [List.append_nil]; exact hown) (Only.refl _ w)
  · refine wpList_append_own w hgd s x 81 ho base 83 i0 (.agg #[.int .i64 0, .int .i64 0, .int .i64 0]) 3 24 Try.underlying81 hi hz0 hz1 hz2 rfl (by decide) v S.length (flat enc S) hs hown ⟨g, 0, none⟩ Z.length cap (flat enc Z) hx (flat_len enc_len Z) ?_ (flat_cells enc_one Z) (lim_of hn).1 (lim_of hn).2 hbase ?_
    · intro j u hj
      have hlt := (List.getElem?_eq_some_iff.1 hj).1
      rw [flat_len enc_len] at hlt
      rw [add_plain, cell_at h2, Nat.zero_add, ← Array.getElem?_toList]
      rw [← h6, List.getElem?_take_of_lt hlt] at hj
      exact hj
    · intro v' w' hown' hg _
      refine h v' w' ?_ (Only.of_grown hg (fun k hk => hk))
      unfold RowAt
      rw [List.length_append, flat_append]
      exact hown'

theorem flatK_eq (S : List (Nat × Nat × Nat)) : (Sort.flatK enc 3 S.toArray).toList = flat enc S := by
  apply List.ext_getElem?
  intro t
  have hl := flat_len enc_len S
  have hs : (Sort.flatK enc 3 S.toArray).size = S.length * 3 := by simp
  by_cases ht : t < S.length * 3
  · have hq : t / 3 < S.length := by omega
    have hr : t % 3 < 3 := by omega
    have h1 := flat_at enc_len S (t / 3) (t % 3) hq hr
    rw [show t / 3 * 3 + t % 3 = t by omega] at h1
    have hg := Sort.get_flatK enc 3 S.toArray t (by simpa using ht)
    rw [Array.getElem?_toList, Array.getElem?_eq_getElem (by rw [hs]; exact ht), h1]
    rw [getElem!_pos _ t (by rw [hs]; exact ht)] at hg
    rw [hg, getElem!_pos S.toArray (t / 3) (by simpa using hq)]
    have : t % 3 < (enc S[t / 3]).length := by rw [enc_len]; exact hr
    simp [this]
  · rw [List.getElem?_eq_none (by rw [Array.length_toList, hs]; omega), List.getElem?_eq_none (by omega)]

theorem holds_row {w : World} {B g n c : Nat} {S : List (Nat × Nat × Nat)} (h : RowAt w B (.slice (some ⟨g, 0, none⟩) n c) S) : Sort.HoldsK enc 3 w g 0 S.toArray := by
  rcases h with ⟨hl, ⟨h1, _⟩ | ⟨g', cap, cur, h1, hb, h2, h3, h4, h5, h6⟩⟩
  · cases h1
  · cases h1
    intro t ht
    have hs : (Sort.flatK enc 3 S.toArray).size = S.length * 3 := by simp
    rw [hs] at ht
    rw [Nat.zero_add]
    refine ⟨?_, frozen_at h2 t⟩
    rw [cell_at h2, ← Array.getElem?_toList]
    have : cur.toList[t]? = (flat enc S)[t]? := by rw [← h6, List.getElem?_take_of_lt ht]
    rw [this, ← flatK_eq, Array.getElem?_toList, Array.getElem?_eq_getElem (by rw [hs]; exact ht), getElem!_pos _ t (by rw [hs]; exact ht)]
    rfl

/-- The world with other elements in the row. -/
theorem row_put {w : World} {B g n c m : Nat} {S T : List (Nat × Nat × Nat)} {os : Array Obj} (h : RowAt w B (.slice (some ⟨g, 0, none⟩) n c) S) (hn : T.length = S.length) :
    RowAt (Sort.grow (Sort.putRowK enc 3 (Sort.ahead w m) g 0 T.toArray) os) B (.slice (some ⟨g, 0, none⟩) n c) T ∧ Only (· = g) w (Sort.grow (Sort.putRowK enc 3 (Sort.ahead w m) g 0 T.toArray) os) := by
  have hH := holds_row h
  rcases h with ⟨hl, ⟨h1, _⟩ | ⟨g', cap, cur, h1, hb, h2, h3, h4, h5, h6⟩⟩
  · cases h1
  · cases h1
    have hgw := block_there h2
    have hblk : (Sort.grow (Sort.putRowK enc 3 (Sort.ahead w m) g 0 T.toArray) os).heap[g]? = some (.cells (Sort.putCells id 0 (Sort.flatK enc 3 T.toArray) cur) 83 (0, 0)) := by
      rw [Sort.heap_grow_old _ os (by show g < (Sort.putRow _ _ _ _ _).heap.size; rw [Sort.size_putRow]; exact hgw)]
      unfold Sort.putRowK Sort.putRow Sort.mapBlock
      show (w.heap.modify g _)[g]? = _
      rw [Array.getElem?_modify, if_pos rfl, h2]
      rfl
    have hsz : (Sort.putCells id 0 (Sort.flatK enc 3 T.toArray) cur).size = cur.size := by unfold Sort.putCells; simp
    have hfs : (Sort.flatK enc 3 T.toArray).size = T.length * 3 := by simp
    refine ⟨⟨flat_len enc_len T, Or.inr ⟨g, c, _, by rw [hn], hb, hblk, by omega, h4, by rw [hsz, h5], ?_⟩⟩, rfl, rfl, rfl, ?_, fun k hk hne => ?_⟩
    · rw [← flatK_eq]
      apply List.ext_getElem?
      intro t
      rw [List.getElem?_take]
      by_cases ht : t < T.length * 3
      · rw [if_pos ht, Array.getElem?_toList, Array.getElem?_toList]
        unfold Sort.putCells
        have hmul : T.length * 3 ≤ c * 3 := Nat.mul_le_mul_right 3 (by omega)
        rw [Array.getElem?_mapIdx, Array.getElem?_eq_getElem (show t < cur.size by omega), Array.getElem?_eq_getElem (show t < (Sort.flatK enc 3 T.toArray).size by omega)]
        simp only [Option.map_some]
        rw [if_pos ⟨Nat.zero_le _, by rw [hfs]; omega⟩, Nat.sub_zero, getElem!_pos _ t (by rw [hfs]; exact ht)]
        rfl
      · rw [if_neg ht, List.getElem?_eq_none (by rw [Array.length_toList, hfs]; omega)]
    · show w.heap.size ≤ ((w.heap.modify g _) ++ os).size
      rw [Array.size_append, Array.size_modify]; omega
    · rw [Sort.heap_grow_old _ os (by show k < (Sort.putRow _ _ _ _ _).heap.size; rw [Sort.size_putRow]; exact hk)]
      unfold Sort.putRowK Sort.putRow Sort.mapBlock
      show (w.heap.modify g _)[k]? = _
      rw [Array.getElem?_modify, if_neg (Ne.symm hne)]

noncomputable def sortT : TypeInfo := (Try.prog.info? 81).get (by kernel_rfl)
noncomputable def sortE : TypeInfo := (Try.prog.info? 83).get (by kernel_rfl)
theorem sortK (n : Nat) (h2 : 2 ≤ n) : Lib.swapperK n sortE 25 = 9 := by
  have a : sortE.hasPointers = false := by kernel_rfl
  have b : sortE.bytes = 24 := by kernel_rfl
  have c : (n == 0) = false := by simp; omega
  have d : (n == 1) = false := by simp; omega
  simp [Lib.swapperK, a, b, c, d]

theorem perm_of_in {d d' : Array (Nat × Nat × Nat)} (h : Sort.PermIn 0 d.size d d') : d'.size = d.size ∧ d'.toList.Perm d.toList := by
  obtain ⟨h1, -, h2⟩ := h
  rw [Array.extract_eq_self_of_le (by omega), Array.extract_eq_self_of_le (by omega)] at h2
  exact ⟨h1, h2⟩

theorem pairs_of_in {lt : Nat × Nat × Nat → Nat × Nat × Nat → Bool} {d : Array (Nat × Nat × Nat)} (h : Sort.SortedIn lt 0 d.size d) : d.toList.Pairwise fun x y => lt y x = false := by
  rw [List.pairwise_iff_getElem]
  intro i j hi hj hij
  simp only [Array.length_toList] at hi hj
  have := h i j (Nat.zero_le _) hij hj
  rw [getElem!_pos d i hi, getElem!_pos d j hj] at this
  simpa using this

/-- What is known behind a sort: the row holds the same elements, in order. -/
def Ordered (lt : Nat × Nat × Nat → Nat × Nat × Nat → Bool) (B g n c : Nat) (S : List (Nat × Nat × Nat)) (w : World) (e : Ending) (w' : World) : Prop :=
  e = .returned (.tuple #[]) ∧ ∃ T : List (Nat × Nat × Nat), T.Perm S ∧ (T.Pairwise fun x y => lt y x = false) ∧ RowAt w' B (.slice (some ⟨g, 0, none⟩) n c) T ∧ Only (· = g) w w'

set_option maxRecDepth 100000 in
theorem sort_job (lt : Nat × Nat × Nat → Nat × Nat × Nat → Bool) (hO : Sort.SWO lt) (B g n c : Nat) (lb : Array Value) (S : List (Nat × Nat × Nat)) (w : World) (h : RowAt w B (.slice (some ⟨g, 0, none⟩) n c) S) (hn : S.length = n) (hl : n ≤ 6000000000000)
    (hless : ∀ (W : World) (T : List (Nat × Nat × Nat)), T.length = n → RowAt W B (.slice (some ⟨g, 0, none⟩) n c) T → Only (· = g) w W → ∀ i j : Nat, i < n → j < n →
      Calls Try.prog 51 (#[.int .i64 i, .int .i64 j] ++ lb) W fun e w' => e = .returned (.bool (lt (T.getD i (0, 0, 0)) (T.getD j (0, 0, 0)))) ∧ ∃ q, w' = W.drewN q) :
    Calls Try.prog 50 #[.iface 81 (.slice (some ⟨g, 0, none⟩) n c), .func (.func 51) #[] lb] w (Ordered lt B g n c S w) := by
  have eg : ∀ args w, (callFunc 51 args).run Try.prog w = .ok (.enter 51 args) w := enters_of Try.func51 (by kernel_rfl) rfl
  have hgw : g < w.heap.size := (h.block rfl).2
  have hH := holds_row h
  subst hn
  by_cases h2 : 2 ≤ S.length
  · have hlr : LessReadsK Try.prog 51 lb enc 3 lt g 0 S.toArray.size w := by
      intro m os dk hdk i j hi hj
      have hdk2 : dk.toList.length = S.length := by rw [Array.length_toList, hdk]; simp
      have hput := row_put (m := m) (os := os) (T := dk.toList) h hdk2
      have e1 : Sort.grow (Sort.putRowK enc 3 (Sort.ahead w m) g 0 dk.toList.toArray) os = sortWorldK enc 3 w g 0 m dk os := by simp [sortWorldK]
      rw [e1] at hput
      have hi2 : i < S.length := by simpa using hi
      have hj2 : j < S.length := by simpa using hj
      have ei : dk[i]! = dk.toList.getD i (0, 0, 0) := by rw [getElem!_pos dk i (by rw [hdk]; exact hi)]; simp [List.getD, show i < dk.size by rw [hdk]; exact hi]
      have ej : dk[j]! = dk.toList.getD j (0, 0, 0) := by rw [getElem!_pos dk j (by rw [hdk]; exact hj)]; simp [List.getD, show j < dk.size by rw [hdk]; exact hj]
      rw [ei, ej]
      exact hless _ dk.toList hdk2 hput.1 hput.2 i j hi2 hj2
    have hS := Any.sort_Slice_cells_sorted sliceL 81 83 sortT sortE (by kernel_rfl) (by kernel_rfl) (by kernel_rfl) (by kernel_rfl) 25 (fun _ => by kernel_rfl) enc 3 enc_len (by kernel_rfl) (fun _ => by kernel_rfl)
      enc_one lt hO 51 lb eg g 0 c S.toArray (by simpa using h2) (by simp; omega) 74 (by rw [sortK _ (by simpa using h2)]; kernel_rfl) false
      (fun args W => run_callFunc_extern Try.func74 (by kernel_rfl) (by kernel_rfl) (by kernel_rfl) (e := Extern.ReflectliteSwapper.swap false) (by kernel_rfl) args W) w hlr hH hgw
    change Calls Try.prog 50 _ _ _ at hS
    have e0 : S.toArray.size = S.length := by simp
    rw [e0] at hS
    refine hS.mono ?_
    rintro e w' ⟨rfl, d', m, os, hP, hSo, rfl⟩
    rw [← e0] at hP hSo
    obtain ⟨h3, h4⟩ := perm_of_in hP
    have h5 : d'.toList.length = S.length := by rw [Array.length_toList, h3]; simp
    have hput := row_put (m := m) (os := os) (T := d'.toList) h h5
    refine ⟨rfl, d'.toList, by simpa using h4, pairs_of_in (by rw [h3]; exact hSo), by simpa using hput.1, by simpa using hput.2⟩
  · have hP : S.Pairwise fun x y => lt y x = false := by
      match S, h2 with
      | [], _ => exact List.Pairwise.nil
      | [x], _ => exact List.pairwise_singleton _ _
      | x :: y :: r, h2 => simp at h2
    have hF : ∀ os, Ordered lt B g S.length c S w (.returned (.tuple #[])) (Sort.grow w os) := fun os => by
      have hO2 : Only (fun _ => False) w (Sort.grow w os) := ⟨rfl, rfl, rfl, by show w.heap.size ≤ (w.heap ++ os).size; rw [Array.size_append]; omega, fun k hk _ => Sort.heap_grow_old w os hk⟩
      exact ⟨rfl, S, List.Perm.refl S, hP, h.later hO2, hO2.mono (fun _ _ e => e.elim)⟩
    have h01 : S.length = 0 ∨ S.length = 1 := by omega
    rcases h01 with h0 | h0
    · have hS := Any.sort_Slice_tiny sliceL 81 83 sortT sortE (by kernel_rfl) (by kernel_rfl) (by kernel_rfl) (by kernel_rfl) 25 (fun _ => by kernel_rfl) (some ⟨g, 0, none⟩) S.length c (by omega) 66 (by rw [h0]; kernel_rfl) (.func 51) #[] lb w
      change Calls Try.prog 50 _ _ _ at hS
      refine hS.mono ?_
      rintro e w' ⟨rfl, os, rfl⟩
      exact hF os
    · have hS := Any.sort_Slice_tiny sliceL 81 83 sortT sortE (by kernel_rfl) (by kernel_rfl) (by kernel_rfl) (by kernel_rfl) 25 (fun _ => by kernel_rfl) (some ⟨g, 0, none⟩) S.length c (by omega) 67 (by rw [h0]; kernel_rfl) (.func 51) #[] lb w
      change Calls Try.prog 50 _ _ _ at hS
      refine hS.mono ?_
      rintro e w' ⟨rfl, os, rfl⟩
      exact hF os

theorem sort_job_nil (lb : Array Value) (w : World) :
    Calls Try.prog 50 #[.iface 81 (.slice none 0 0), .func (.func 51) #[] lb] w (fun e w' => e = .returned (.tuple #[]) ∧ Only (fun _ => False) w w') := by
  have hS := Any.sort_Slice_tiny sliceL 81 83 sortT sortE (by kernel_rfl) (by kernel_rfl) (by kernel_rfl) (by kernel_rfl) 25 (fun _ => by kernel_rfl) none 0 0 (by omega) 66 (by kernel_rfl) (.func 51) #[] lb w
  change Calls Try.prog 50 _ _ _ at hS
  refine hS.mono ?_
  rintro e w' ⟨rfl, os, rfl⟩
  exact ⟨rfl, rfl, rfl, rfl, by show w.heap.size ≤ (w.heap ++ os).size; rw [Array.size_append]; omega, fun k hk _ => Sort.heap_grow_old w os hk⟩
end Go.Proofs.Ytlohjlhopbhnoaa.Jb
