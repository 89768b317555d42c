/- Rows of pointers to tasks of the reference: made by append, sorted, one struck. -/
import Derived.Test.YtijpiloljgpnkaaRow
import Derived.Test.YtijpiloljgpnkaaSlay
import Derived.Test.YtijpiloljgpnkaaDlay
import Derived.Shelf.GgSortFunc.Whole
import Derived.Deep.AppendLies
import Derived.Deep.RegionLaw
namespace Go.Proofs.Ytijpiloljgpnkaa.Pt
open Go.ChangeShapes Go.WideShapes Go.ChangeAt Go.RowKit Go.Shelf Go.Sort
set_option linter.unusedVariables false

theorem Try.infoElem : (Try.prog.info? 34).map (fun i => (i.zero, i.size, i.bytes)) = some (some (.pointer none), 1, 8) := by kernel_rfl

/-- The pointer to a block. -/
def pt (x : Nat) : Value := .pointer (some ⟨x, 0, none⟩)

/-- A row of the call's own, from block B on. -/
def RowAt (w : World) (B : Nat) (V : Value) (S : List Nat) : Prop := w.ownsRow B 34 1 V S.length (S.map pt)

theorem row_nil (w : World) (B : Nat) : RowAt w B (.slice none 0 0) [] := World.ownsRow_nil w B 34 1

section
variable {w w' : World} {B : Nat} {V : Value} {S : List Nat}
theorem RowAt.cases (h : RowAt w B V S) : (V = .slice none 0 0 ∧ S = []) ∨
    ∃ g cap, V = .slice (some ⟨g, 0, none⟩) S.length cap ∧ B ≤ g ∧ S.length ≤ cap ∧ cap ≤ 9223372036854775807 ∧ (∃ cur, w.heap[g]? = some (.cells cur 34 (0, 0))) ∧ ∀ i, i < S.length → w.cell? ⟨g, i, none⟩ = some (pt (S.getD i 0)) := by
  rcases h with ⟨hl, ⟨rfl, h0⟩ | ⟨g, cap, cur, rfl, hb, h2, h3, h4, h5, h6⟩⟩
  · exact Or.inl ⟨rfl, List.eq_nil_of_length_eq_zero h0⟩
  · refine Or.inr ⟨g, cap, rfl, hb, h3, by unfold maxLen at h4; omega, ⟨cur, h2⟩, fun i hi => ?_⟩
    rw [cell_at h2, ← Array.getElem?_toList]
    have : cur.toList[i]? = (S.map pt)[i]? := by rw [← h6, List.getElem?_take_of_lt (by omega)]
    rw [this]
    simp [List.getD, hi]

theorem RowAt.later (h : RowAt w B V S) (hO : Only (fun _ => False) w w') : RowAt w' B V S := owns_kept h hO (fun _ _ e => e)
theorem RowAt.keep {N : Nat → Prop} (h : RowAt w B V S) (hO : Only N w w') (hN : ∀ g, V.ownBlock = some g → ¬ N g) : RowAt w' B V S := owns_kept h hO hN
theorem RowAt.base {B' : Nat} (h : RowAt w B V S) (hb : B' ≤ B) : RowAt w B' V S := owns_base h hb
theorem RowAt.block (h : RowAt w B V S) {g : Nat} (hg : V.ownBlock = some g) : B ≤ g ∧ g < w.heap.size := h.lt g hg
theorem RowAt.shape (h : RowAt w B V S) {n : Nat} (hn : S.length = n) : ∃ a c, V = .slice a n c ∧ n ≤ c ∧ c ≤ 9223372036854775807 ∧ (a = none → c = 0) := by
  subst hn
  rcases h.cases with ⟨rfl, rfl⟩ | ⟨g, cap, rfl, -, h1, h2, -⟩
  · exact ⟨none, 0, rfl, Nat.le_refl _, by omega, fun _ => rfl⟩
  · exact ⟨_, cap, rfl, h1, h2, fun e => by cases e⟩
theorem RowAt.at_block (h : RowAt w B V S) {n : Nat} (hn : S.length = n) (h0 : 0 < n) : ∃ g c, V = .slice (some ⟨g, 0, none⟩) n c ∧ B ≤ g ∧ g < w.heap.size ∧ n ≤ c ∧ c ≤ 9223372036854775807 ∧ RowAt w B (.slice (some ⟨g, 0, none⟩) n c) S := by
  subst hn
  rcases h.cases with ⟨rfl, rfl⟩ | ⟨g, cap, rfl, hb, h1, h2, ⟨cur, h3⟩, -⟩
  · simp at h0
  · exact ⟨g, cap, rfl, hb, block_there h3, h1, h2, h⟩
end
theorem RowAt.cell {w : World} {B g n c : Nat} {S : List Nat} (h : RowAt w B (.slice (some ⟨g, 0, none⟩) n c) S) {i : Nat} (hi : i < S.length) : w.cell? ⟨g, i, none⟩ = some (pt (S.getD i 0)) := by
  rcases h.cases with ⟨h1, -⟩ | ⟨g', cap', h1, -, -, -, -, h2⟩
  · cases h1
  · cases h1; exact h2 i hi

theorem lim_of {n : Nat} (h : n ≤ 17000000000000) : n ≤ maxLen ∧ n * 8 ≤ 140737488355328 := by unfold maxLen; omega

/-- append(a, b..): one more element, which lies in a block of its own. -/
theorem append_row {w : World} {ops : Array Oper} {rest : List Oper} {o : Oper} {a : Act} {Q : Exit → Act → World → Prop} (hgd : o.guard = none) (s x : Operand)
    (ho : o.op = .call { callee := .builtin .append, args := #[s, x], argTypes := #[29, 29] })
    (base b c : Nat) (v : Value) (S : List Nat) (y : Nat) (hs : a.eval s = v) (hx : a.eval x = .slice (some ⟨b, 0, none⟩) 1 c) (hown : RowAt w base v S) (hb : w.heap[b]? = some (.cells #[pt y] 34 (0, 0)))
    (hn : S.length + 1 ≤ 17000000000000) (hbase : base ≤ w.heap.size)
    (h : ∀ v' w', RowAt w' base v' (S ++ [y]) → Only (fun k => v.ownBlock = some k) w w' → (∀ k, v'.ownBlock = some k → v.ownBlock = some k ∨ w.heap.size ≤ k) → (∃ g' c', v' = .slice (some ⟨g', 0, none⟩) (S.length + 1) c') → wpList Try.prog ops Q rest (a.put o.dst v') w') : wpList Try.prog ops Q (o :: rest) a w := by
  obtain ⟨i0, hi, hz0, hz1, hz2⟩ := info_parts Try.infoElem
  refine wpList_append_lies w hgd s x 29 ho base 34 i0 (.pointer none) 1 8 Try.underlying29 hi hz0 hz1 hz2 rfl (by decide) v S.length (S.map pt) hs hown ⟨b, 0, none⟩ 1 c [pt y] hx rfl ?_ (by intro u hu; simp at hu; subst hu; rfl) Nat.one_pos (lim_of hn).1 (lim_of hn).2 hbase _ rfl ?_
  · intro j u hj
    rw [add_plain, cell_at hb, Nat.zero_add, ← Array.getElem?_toList]
    exact hj
  · intro g' cap' w' hown' hg hat _
    refine h _ w' ?_ (Only.of_grown hg (fun k hk => hk)) (fun k hk => by cases hk; exact hat.imp_right (fun e => by rw [e]; exact Nat.le_refl _)) ⟨_, _, rfl⟩
    unfold RowAt
    rw [List.length_append, List.map_append]
    exact hown'

section
variable {P : Nat → Prop}
/-- The pointer to one of the blocks. -/
def ptv (x : {x // P x}) : Value := pt x.1
def vals (S : List {x // P x}) : List Nat := S.map (·.1)

theorem holds_row {w : World} {B g n c : Nat} {S : List {x // P x}} [Inhabited {x // P x}] (h : RowAt w B (.slice (some ⟨g, 0, none⟩) n c) (vals S)) : Holds ptv w g 0 S.toArray := by
  rcases h.cases with ⟨h1, -⟩ | ⟨g', cap, h1, hb, h3, h4, ⟨cur, h2⟩, hc⟩
  · cases h1
  · cases h1
    intro j hj
    have hj2 : j < S.length := by simpa using hj
    rw [Nat.zero_add]
    refine ⟨?_, frozen_at h2 j⟩
    rw [hc j (by unfold vals; simpa using hj2), getElem!_pos _ j (by simpa using hj)]
    simp [List.getD, hj2, vals, ptv]

/-- The world with other elements in the row. -/
theorem row_put {w : World} {B g n c m : Nat} {S T : List {x // P x}} [Inhabited {x // P x}] {os : Array Obj} (h : RowAt w B (.slice (some ⟨g, 0, none⟩) n c) (vals S)) (hn : T.length = S.length) :
    RowAt (Sort.grow (putRow ptv (Sort.ahead w m) g 0 T.toArray) os) B (.slice (some ⟨g, 0, none⟩) n c) (vals T) ∧ Only (· = g) w (Sort.grow (putRow ptv (Sort.ahead w m) g 0 T.toArray) os) := by
  rcases h with ⟨hl, ⟨h1, _⟩ | ⟨g', cap, cur, h1, hb, h2, h3, h4, h5, h6⟩⟩
  · cases h1
  · cases h1
    have hgw := block_there h2
    have hvl : (vals T).length = T.length := by simp [vals]
    have hvs : (vals S).length = S.length := by simp [vals]
    have hblk : (Sort.grow (putRow ptv (Sort.ahead w m) g 0 T.toArray) os).heap[g]? = some (.cells (putCells ptv 0 T.toArray cur) 34 (0, 0)) := by
      rw [Sort.heap_grow_old _ os (by show g < (putRow _ _ _ _ _).heap.size; rw [size_putRow]; exact hgw)]
      unfold putRow mapBlock
      show (w.heap.modify g _)[g]? = _
      rw [Array.getElem?_modify, if_pos rfl, h2]
      rfl
    have hsz : (putCells ptv 0 T.toArray cur).size = cur.size := by unfold putCells; simp
    refine ⟨⟨by simp, Or.inr ⟨g, c, _, by rw [hvl, hn, ← hvs], hb, hblk, by omega, h4, by rw [hsz, h5], ?_⟩⟩, rfl, rfl, rfl, ?_, fun k hk hne => ?_⟩
    · apply List.ext_getElem?
      intro t
      rw [List.getElem?_take]
      by_cases ht : t < (vals T).length * 1
      · rw [if_pos ht, Array.getElem?_toList]
        unfold putCells
        rw [Array.getElem?_mapIdx, Array.getElem?_eq_getElem (show t < cur.size by omega)]
        simp only [Option.map_some]
        rw [if_pos ⟨Nat.zero_le _, by simp; omega⟩, Nat.sub_zero, getElem!_pos _ t (by simp; omega)]
        simp [show t < T.length by omega, vals, ptv]
      · rw [if_neg ht, List.getElem?_eq_none (by simp; omega)]
    · show w.heap.size ≤ ((w.heap.modify g _) ++ os).size
      rw [Array.size_append, Array.size_modify]; omega
    · rw [Sort.heap_grow_old _ os (by show k < (putRow _ _ _ _ _).heap.size; rw [size_putRow]; exact hk)]
      unfold putRow mapBlock
      show (w.heap.modify g _)[k]? = _
      rw [Array.getElem?_modify, if_neg (Ne.symm hne)]
end

noncomputable def sortT : TypeInfo := (Try.prog.info? 29).get (by kernel_rfl)
noncomputable def sortE : TypeInfo := (Try.prog.info? 34).get (by kernel_rfl)
theorem sortK (n : Nat) (h2 : 2 ≤ n) : Lib.swapperK n sortE 22 = 3 := by
  have a : sortE.hasPointers = true := by kernel_rfl
  have b : sortE.bytes = 8 := by kernel_rfl
  have c : (n == 0) = false := by simp; omega
  have d : (n == 1) = false := by simp; omega
  simp [Lib.swapperK, a, b, c, d]

theorem perm_of_in {α : Type} [Inhabited α] {d d' : Array α} (h : Sort.PermIn 0 d.size d d') : d'.size = d.size ∧ d'.toList.Perm d.toList := by
  obtain ⟨h1, -, h2⟩ := h
  rw [Array.extract_eq_self_of_le (by omega), Array.extract_eq_self_of_le (by omega)] at h2
  exact ⟨h1, h2⟩

theorem pairs_of_in {α : Type} [Inhabited α] {lt : α → α → Bool} {d : Array α} (h : Sort.SortedIn lt 0 d.size d) : d.toList.Pairwise fun x y => lt y x = false := by
  rw [List.pairwise_iff_getElem]
  intro i j hi hj hij
  simp only [Array.length_toList] at hi hj
  have := h i j (Nat.zero_le _) hij hj
  rw [getElem!_pos d i hi, getElem!_pos d j hj] at this
  simpa using this

/-- What is known behind a sort: the row holds the same elements, in order. -/
def Ordered (lt : Nat → Nat → Bool) (B g n c : Nat) (S : List Nat) (w : World) (e : Ending) (w' : World) : Prop :=
  e = .returned (.tuple #[]) ∧ ∃ T : List Nat, T.Perm S ∧ (T.Pairwise fun x y => lt y x = false) ∧ RowAt w' B (.slice (some ⟨g, 0, none⟩) n c) T ∧ Only (· = g) w w'

set_option maxRecDepth 100000 in
theorem sort_of (P : Nat → Prop) (lt : Nat → Nat → Bool) (hO : Sort.SWO lt) (B g n c : Nat) (lb : Array Value) (S : List Nat) (w : World) (h : RowAt w B (.slice (some ⟨g, 0, none⟩) n c) S) (hP : ∀ x ∈ S, P x) (hn : S.length = n) (hl : n ≤ 6000000000000)
    (hless : ∀ (W : World) (T : List Nat), T.length = n → (∀ x ∈ T, P x) → RowAt W B (.slice (some ⟨g, 0, none⟩) n c) T → Only (· = g) w W → ∀ i j : Nat, i < n → j < n →
      Calls Try.prog 39 (#[.int .i64 i, .int .i64 j] ++ lb) W fun e w' => e = .returned (.bool (lt (T.getD i 0) (T.getD j 0))) ∧ ∃ q, w' = W.drewN q) :
    Calls Try.prog 38 #[.iface 29 (.slice (some ⟨g, 0, none⟩) n c), .func (.func 39) #[] lb] w (Ordered lt B g n c S w) := by
  have eg : ∀ args w, (callFunc 39 args).run Try.prog w = .ok (.enter 39 args) w := enters_of Try.func39 (by kernel_rfl) rfl
  have hgw : g < w.heap.size := (h.block rfl).2
  by_cases h2 : 2 ≤ n
  · obtain ⟨S', hS'⟩ : ∃ S' : List {x // P x}, S = vals S' := ⟨S.attach.map (fun x => ⟨x.1, hP x.1 x.2⟩), by unfold vals; simp [List.map_map, Function.comp_def]⟩
    subst hS'
    have hln : S'.length = n := by rw [← hn]; simp [vals]
    clear hn
    subst hln
    haveI : Inhabited {x // P x} := ⟨S'[0]'(by omega)⟩
    have hH := holds_row h
    have hlr : LessReads Try.prog 39 lb ptv (fun x y : {x // P x} => lt x.1 y.1) g 0 S'.toArray.size w := by
      intro m os dk hdk i j hi hj
      have hdk2 : dk.toList.length = S'.length := by rw [Array.length_toList, hdk]; simp
      have hput := row_put (m := m) (os := os) (T := dk.toList) h hdk2
      have e1 : Sort.grow (putRow ptv (Sort.ahead w m) g 0 dk.toList.toArray) os = sortWorld ptv w g 0 m dk os := by simp [sortWorld]
      rw [e1] at hput
      have hi2 : i < S'.length := by simpa using hi
      have hj2 : j < S'.length := by simpa using hj
      have ei : dk[i]!.1 = (vals dk.toList).getD i 0 := by rw [getElem!_pos dk i (by rw [hdk]; exact hi)]; simp [vals, List.getD, show i < dk.size by rw [hdk]; exact hi]
      have ej : dk[j]!.1 = (vals dk.toList).getD j 0 := by rw [getElem!_pos dk j (by rw [hdk]; exact hj)]; simp [vals, List.getD, show j < dk.size by rw [hdk]; exact hj]
      have := hless _ (vals dk.toList) (by unfold vals; rw [List.length_map]; exact hdk2) (fun x hx => by unfold vals at hx; obtain ⟨y, -, rfl⟩ := List.mem_map.1 hx; exact y.2) hput.1 hput.2 i j hi2 hj2
      rw [← ei, ← ej] at this
      exact this
    have hS := Any.sort_Slice_sorted sliceL 29 34 sortT sortE (by kernel_rfl) (by kernel_rfl) (by kernel_rfl) (by kernel_rfl) 22 (fun _ => by kernel_rfl) (by kernel_rfl) (fun _ => by kernel_rfl) ptv (fun _ => rfl)
      (fun x y : {x // P x} => lt x.1 y.1) ⟨fun x => hO.irrefl x.1, fun x y z => hO.trans x.1 y.1 z.1, fun x y z => hO.ntrans x.1 y.1 z.1⟩ 39 lb eg g 0 c S'.toArray (by simpa using h2) (by simp; omega) 52 (by rw [sortK _ (by simpa using h2)]; kernel_rfl) true
      (fun args W => run_callFunc_extern Try.func52 (by kernel_rfl) (by kernel_rfl) (by kernel_rfl) (e := Extern.ReflectliteSwapper.swap true) (by kernel_rfl) args W) w hlr hH hgw
    change Calls Try.prog 38 _ _ _ at hS
    have e0 : S'.toArray.size = S'.length := by simp
    rw [e0] at hS
    refine hS.mono ?_
    rintro e w' ⟨rfl, d', m, os, hPm, hSo, rfl⟩
    rw [← e0] at hPm hSo
    obtain ⟨h3, h4⟩ := perm_of_in hPm
    have h5 : d'.toList.length = S'.length := by rw [Array.length_toList, h3]; simp
    have hput := row_put (m := m) (os := os) (T := d'.toList) h h5
    have hpw := pairs_of_in (lt := fun x y : {x // P x} => lt x.1 y.1) (d := d') (by rw [h3]; exact hSo)
    refine ⟨rfl, vals d'.toList, (by simpa using h4 : d'.toList.Perm S').map _, ?_, by have := hput.1; rwa [Array.toArray_toList] at this, by have := hput.2; rwa [Array.toArray_toList] at this⟩
    unfold vals
    rw [List.pairwise_map]
    exact hpw
  · subst hn
    have hP : S.Pairwise fun x y => lt y x = false := by
      match S, h2 with
      | [], _ => exact List.Pairwise.nil
      | [x], _ => exact List.pairwise_singleton _ _
      | x :: y :: r, h2 => simp at h2
    have hF : ∀ os, Ordered lt B g S.length c S w (.returned (.tuple #[])) (Sort.grow w os) := fun os => by
      have hO2 : Only (fun _ => False) w (Sort.grow w os) := ⟨rfl, rfl, rfl, by show w.heap.size ≤ (w.heap ++ os).size; rw [Array.size_append]; omega, fun k hk _ => Sort.heap_grow_old w os hk⟩
      exact ⟨rfl, S, List.Perm.refl S, hP, h.later hO2, hO2.mono (fun _ _ e => e.elim)⟩
    have h01 : S.length = 0 ∨ S.length = 1 := by omega
    rcases h01 with h0 | h0
    · have hS := Any.sort_Slice_tiny sliceL 29 34 sortT sortE (by kernel_rfl) (by kernel_rfl) (by kernel_rfl) (by kernel_rfl) 22 (fun _ => by kernel_rfl) (some ⟨g, 0, none⟩) S.length c (by omega) 50 (by rw [h0]; kernel_rfl) (.func 39) #[] lb w
      change Calls Try.prog 38 _ _ _ at hS
      refine hS.mono ?_
      rintro e w' ⟨rfl, os, rfl⟩
      exact hF os
    · have hS := Any.sort_Slice_tiny sliceL 29 34 sortT sortE (by kernel_rfl) (by kernel_rfl) (by kernel_rfl) (by kernel_rfl) 22 (fun _ => by kernel_rfl) (some ⟨g, 0, none⟩) S.length c (by omega) 51 (by rw [h0]; kernel_rfl) (.func 39) #[] lb w
      change Calls Try.prog 38 _ _ _ at hS
      refine hS.mono ?_
      rintro e w' ⟨rfl, os, rfl⟩
      exact hF os

theorem sort_nil (lb : Array Value) (w : World) :
    Calls Try.prog 38 #[.iface 29 (.slice none 0 0), .func (.func 39) #[] lb] w (fun e w' => e = .returned (.tuple #[]) ∧ Only (fun _ => False) w w') := by
  have hS := Any.sort_Slice_tiny sliceL 29 34 sortT sortE (by kernel_rfl) (by kernel_rfl) (by kernel_rfl) (by kernel_rfl) 22 (fun _ => by kernel_rfl) none 0 0 (by omega) 50 (by kernel_rfl) (.func 39) #[] lb w
  change Calls Try.prog 38 _ _ _ at hS
  refine hS.mono ?_
  rintro e w' ⟨rfl, os, rfl⟩
  exact ⟨rfl, rfl, rfl, rfl, by show w.heap.size ≤ (w.heap ++ os).size; rw [Array.size_append]; omega, fun k hk _ => Sort.heap_grow_old w os hk⟩
end Go.Proofs.Ytijpiloljgpnkaa.Pt
