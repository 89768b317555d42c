/- Texts of this claim, merged: Slay, Dlay, PtRow, OFRef. -/
import Derived.Test.YtpincdcebhmnhaaGreatRows
import Derived.Shelf.SlSortFuncK.WholeK
import Derived.Shelf.GgSortFunc.Tiny
import Derived.Ground.GgsProg
import Derived.Shelf.SlicesE.DeleteFunc
import Derived.Ground.SlgfProg
import Derived.Test.YtpincdcebhmnhaaGreatM01
import Derived.Shelf.GgSortFunc.Whole
import Derived.Deep.AppendLies
import Derived.Deep.RegionLaw
import Derived.Test.YtpincdcebhmnhaaGreatM13
import Derived.Test.YtpincdcebhmnhaaGreatM09
import Derived.Test.YtpincdcebhmnhaaGreatM02
/-
  DERIVED: THE SHELF's CONTRACTS AT THIS DUMP, IN PLAIN WORDS (tools/lay-plain.mjs out of 'YtpincdcebhmnhaaGreatSlay.lean', which tools/lay-shelf.mjs wrote): THE SAME DECLARATIONS UNDER THE SAME NAMES: 'import', 'namespace', 'open', 'def', 'theorem' AND NOTHING ELSE: no command of the shelf's: FOR A HAND-IN. Each laying: the table of numbers ('.._ren') and one theorem, a field a fact of the dump's own or the kernel's comparison; each contract: ONE APPLICATION.
-/
namespace Go.Proofs.YtpincdcebhmnhaaGreat
open Go.Shelf
def sliceL_ren : Go.Shelf.Ren := ⟨fun | 6 => 69 | 10 => 76 | 11 => 77 | 12 => 78 | 13 => 79 | 14 => 80 | 24 => 90 | 25 => 91 | 26 => 92 | 27 => 93 | 28 => 94 | 29 => 95 | 30 => 96 | 31 => 97 | 32 => 98 | 33 => 99 | 34 => 100 | 35 => 101 | 36 => 102 | 37 => 103 | 38 => 104 | 39 => 105 | n => n, fun | 20 => 20 | 26 => 130 | 35 => 135 | 0 => 0 | 37 => 137 | 3 => 3 | 41 => 140 | 44 => 143 | 49 => 148 | 51 => 150 | 4 => 4 | 54 => 153 | 53 => 152 | 58 => 157 | 5 => 5 | 9 => 9 | 60 => 159 | 64 => 163 | 66 => 165 | 67 => 101 | 17 => 17 | 32 => 132 | 33 => 133 | 82 => 180 | 12 => 12 | 75 => 173 | 76 => 174 | 77 => 175 | 78 => 176 | 79 => 177 | 80 => 178 | n => n, fun | n => n⟩
theorem sliceL : Go.Proofs.LaysGg.n6 Tryz.prog sliceL_ren := {
  mixed := by kernel_rfl
  f6 := Tryz.func69.trans (congrArg some (by kernel_rfl))
  f10 := Tryz.func76.trans (congrArg some (by kernel_rfl))
  f11 := Tryz.func77.trans (congrArg some (by kernel_rfl))
  f12 := Tryz.func78.trans (congrArg some (by kernel_rfl))
  f13 := Tryz.func79.trans (congrArg some (by kernel_rfl))
  f14 := Tryz.func80.trans (congrArg some (by kernel_rfl))
  f24 := Tryz.func90.trans (congrArg some (by kernel_rfl))
  f25 := Tryz.func91.trans (congrArg some (by kernel_rfl))
  f26 := Tryz.func92.trans (congrArg some (by kernel_rfl))
  f27 := Tryz.func93.trans (congrArg some (by kernel_rfl))
  f28 := Tryz.func94.trans (congrArg some (by kernel_rfl))
  f29 := Tryz.func95.trans (congrArg some (by kernel_rfl))
  f30 := Tryz.func96.trans (congrArg some (by kernel_rfl))
  f31 := Tryz.func97.trans (congrArg some (by kernel_rfl))
  f32 := Tryz.func98.trans (congrArg some (by kernel_rfl))
  f33 := Tryz.func99.trans (congrArg some (by kernel_rfl))
  f34 := Tryz.func100.trans (congrArg some (by kernel_rfl))
  f35 := Tryz.func101.trans (congrArg some (by kernel_rfl))
  f36 := Tryz.func102.trans (congrArg some (by kernel_rfl))
  f37 := Tryz.func103.trans (congrArg some (by kernel_rfl))
  f38 := Tryz.func104.trans (congrArg some (by kernel_rfl))
  f39 := Tryz.func105.trans (congrArg some (by kernel_rfl))
  t0 := Tryz.underlying0
  a0 := Tryz.isAgg0
  z0 := Tryz.sizeOf0
  v0 := Tryz.zeroValue0
  i0 := by kernel_rfl
  t3 := Tryz.underlying3
  a3 := Tryz.isAgg3
  z3 := Tryz.sizeOf3
  v3 := Tryz.zeroValue3
  i3 := by kernel_rfl
  t4 := Tryz.underlying4
  a4 := Tryz.isAgg4
  z4 := Tryz.sizeOf4
  v4 := Tryz.zeroValue4
  i4 := by kernel_rfl
  t5 := Tryz.underlying5
  a5 := Tryz.isAgg5
  z5 := Tryz.sizeOf5
  v5 := Tryz.zeroValue5
  i5 := by kernel_rfl
  t9 := Tryz.underlying9
  a9 := Tryz.isAgg9
  z9 := Tryz.sizeOf9
  v9 := Tryz.zeroValue9
  i9 := by kernel_rfl
  t12 := Tryz.underlying12
  a12 := Tryz.isAgg12
  z12 := Tryz.sizeOf12
  v12 := Tryz.zeroValue12
  i12 := by kernel_rfl
  t17 := Tryz.underlying17
  a17 := Tryz.isAgg17
  z17 := Tryz.sizeOf17
  v17 := Tryz.zeroValue17
  i17 := by kernel_rfl
  t20 := Tryz.underlying20
  a20 := Tryz.isAgg20
  z20 := Tryz.sizeOf20
  v20 := Tryz.zeroValue20
  i20 := by kernel_rfl
  t26 := Tryz.underlying130
  a26 := Tryz.isAgg130
  z26 := Tryz.sizeOf130
  v26 := Tryz.zeroValue130
  i26 := by kernel_rfl
  t32 := Tryz.underlying132
  a32 := Tryz.isAgg132
  z32 := Tryz.sizeOf132
  v32 := Tryz.zeroValue132
  i32 := by kernel_rfl
  t33 := Tryz.underlying133
  a33 := Tryz.isAgg133
  z33 := Tryz.sizeOf133
  v33 := Tryz.zeroValue133
  i33 := by kernel_rfl
  t35 := Tryz.underlying135
  a35 := Tryz.isAgg135
  z35 := Tryz.sizeOf135
  v35 := Tryz.zeroValue135
  i35 := by kernel_rfl
  t37 := Tryz.underlying137
  a37 := Tryz.isAgg137
  z37 := Tryz.sizeOf137
  v37 := Tryz.zeroValue137
  i37 := by kernel_rfl
  t41 := Tryz.underlying140
  a41 := Tryz.isAgg140
  z41 := Tryz.sizeOf140
  v41 := Tryz.zeroValue140
  i41 := by kernel_rfl
  t44 := Tryz.underlying143
  a44 := Tryz.isAgg143
  z44 := Tryz.sizeOf143
  v44 := Tryz.zeroValue143
  i44 := by kernel_rfl
  t49 := Tryz.underlying148
  a49 := Tryz.isAgg148
  z49 := Tryz.sizeOf148
  v49 := Tryz.zeroValue148
  i49 := by kernel_rfl
  t51 := Tryz.underlying150
  a51 := Tryz.isAgg150
  z51 := Tryz.sizeOf150
  v51 := Tryz.zeroValue150
  i51 := by kernel_rfl
  t53 := Tryz.underlying152
  a53 := Tryz.isAgg152
  z53 := Tryz.sizeOf152
  v53 := Tryz.zeroValue152
  i53 := by kernel_rfl
  t54 := Tryz.underlying153
  a54 := Tryz.isAgg153
  z54 := Tryz.sizeOf153
  v54 := Tryz.zeroValue153
  i54 := by kernel_rfl
  t58 := Tryz.underlying157
  a58 := Tryz.isAgg157
  z58 := Tryz.sizeOf157
  v58 := Tryz.zeroValue157
  i58 := by kernel_rfl
  t60 := Tryz.underlying159
  a60 := Tryz.isAgg159
  z60 := Tryz.sizeOf159
  v60 := Tryz.zeroValue159
  i60 := by kernel_rfl
  t64 := Tryz.underlying163
  a64 := Tryz.isAgg163
  z64 := Tryz.sizeOf163
  v64 := Tryz.zeroValue163
  i64 := by kernel_rfl
  t66 := Tryz.underlying165
  a66 := Tryz.isAgg165
  z66 := Tryz.sizeOf165
  v66 := Tryz.zeroValue165
  i66 := by kernel_rfl
  t67 := Tryz.underlying101
  a67 := Tryz.isAgg101
  z67 := Tryz.sizeOf101
  v67 := Tryz.zeroValue101
  i67 := by kernel_rfl
  t75 := Tryz.underlying173
  a75 := Tryz.isAgg173
  z75 := Tryz.sizeOf173
  v75 := Tryz.zeroValue173
  i75 := by kernel_rfl
  t76 := Tryz.underlying174
  a76 := Tryz.isAgg174
  z76 := Tryz.sizeOf174
  v76 := Tryz.zeroValue174
  i76 := by kernel_rfl
  t77 := Tryz.underlying175
  a77 := Tryz.isAgg175
  z77 := Tryz.sizeOf175
  v77 := Tryz.zeroValue175
  i77 := by kernel_rfl
  t78 := Tryz.underlying176
  a78 := Tryz.isAgg176
  z78 := Tryz.sizeOf176
  v78 := Tryz.zeroValue176
  i78 := by kernel_rfl
  t79 := Tryz.underlying177
  a79 := Tryz.isAgg177
  z79 := Tryz.sizeOf177
  v79 := Tryz.zeroValue177
  i79 := by kernel_rfl
  t80 := Tryz.underlying178
  a80 := Tryz.isAgg178
  z80 := Tryz.sizeOf178
  v80 := Tryz.zeroValue178
  i80 := by kernel_rfl
  t82 := Tryz.underlying180
  a82 := Tryz.isAgg180
  z82 := Tryz.sizeOf180
  v82 := Tryz.zeroValue180
  i82 := by kernel_rfl }
end Go.Proofs.YtpincdcebhmnhaaGreat
/-
  DERIVED: THE SHELF's CONTRACTS AT THIS DUMP, IN PLAIN WORDS (tools/lay-plain.mjs out of 'YtpincdcebhmnhaaGreatDlay.lean', which tools/lay-shelf.mjs wrote): THE SAME DECLARATIONS UNDER THE SAME NAMES: 'import', 'namespace', 'open', 'def', 'theorem' AND NOTHING ELSE: no command of the shelf's: FOR A HAND-IN. Each laying: the table of numbers ('.._ren') and one theorem, a field a fact of the dump's own or the kernel's comparison; each contract: ONE APPLICATION.
-/
namespace Go.Proofs.YtpincdcebhmnhaaGreat
open Go.Shelf
def delL_ren : Go.Shelf.Ren := ⟨fun | 10 => 33 | 6 => 65 | n => n, fun | 22 => 31 | 23 => 82 | 25 => 90 | 3 => 3 | 4 => 4 | 0 => 0 | n => n, fun | n => n⟩
theorem delL : Go.Proofs.SlLaysH.n10 Tryz.prog delL_ren := {
  mixed := by kernel_rfl
  f6 := ⟨Tryz.f65.name, by decide, Tryz.func65.trans (congrArg some (by kernel_rfl))⟩
  f10 := ⟨Tryz.f33.name, by decide, Tryz.func33.trans (congrArg some (by kernel_rfl))⟩
  t0 := Tryz.underlying0
  a0 := Tryz.isAgg0
  z0 := Tryz.sizeOf0
  v0 := Tryz.zeroValue0
  t3 := Tryz.underlying3
  a3 := Tryz.isAgg3
  z3 := Tryz.sizeOf3
  v3 := Tryz.zeroValue3
  t4 := Tryz.underlying4
  a4 := Tryz.isAgg4
  z4 := Tryz.sizeOf4
  v4 := Tryz.zeroValue4
  t22 := Tryz.underlying31
  a22 := Tryz.isAgg31
  z22 := Tryz.sizeOf31
  v22 := Tryz.zeroValue31
  a23 := Tryz.isAgg82
  z23 := Tryz.sizeOf82
  t25 := Tryz.underlying90
  a25 := Tryz.isAgg90
  z25 := Tryz.sizeOf90
  v25 := Tryz.zeroValue90 }
end Go.Proofs.YtpincdcebhmnhaaGreat
/- Rows of pointers to tasks of the reference: made by append, sorted, one struck. -/
namespace Go.Proofs.YtpincdcebhmnhaaGreat.Pt
open Go.ChangeShapes Go.WideShapes Go.ChangeAt Go.RowKit Go.Shelf Go.Sort
set_option linter.unusedVariables false

theorem Tryz.infoElem : (Tryz.prog.info? 82).map (fun i => (i.zero, i.size, i.bytes)) = some (some (.pointer none), 1, 8) := by kernel_rfl

/-- The pointer to a block. -/
def pt (x : Nat) : Value := .pointer (some ⟨x, 0, none⟩)

/-- A row of the call's own, from block B on. -/
def RowAt (w : World) (B : Nat) (V : Value) (S : List Nat) : Prop := w.ownsRow B 82 1 V S.length (S.map pt)

theorem row_nil (w : World) (B : Nat) : RowAt w B (.slice none 0 0) [] := World.ownsRow_nil w B 82 1

section
variable {w w' : World} {B : Nat} {V : Value} {S : List Nat}
theorem RowAt.cases (h : RowAt w B V S) : (V = .slice none 0 0 ∧ S = []) ∨
    ∃ g cap, V = .slice (some ⟨g, 0, none⟩) S.length cap ∧ B ≤ g ∧ S.length ≤ cap ∧ cap ≤ 9223372036854775807 ∧ (∃ cur, w.heap[g]? = some (.cells cur 82 (0, 0))) ∧ ∀ i, i < S.length → w.cell? ⟨g, i, none⟩ = some (pt (S.getD i 0)) := by
  rcases h with ⟨hl, ⟨rfl, h0⟩ | ⟨g, cap, cur, rfl, hb, h2, h3, h4, h5, h6⟩⟩
  · exact Or.inl ⟨rfl, List.eq_nil_of_length_eq_zero h0⟩
  · refine Or.inr ⟨g, cap, rfl, hb, h3, by unfold maxLen at h4; omega, ⟨cur, h2⟩, fun i hi => ?_⟩
    rw [cell_at h2, ← Array.getElem?_toList]
    have : cur.toList[i]? = (S.map pt)[i]? := by rw [← h6, List.getElem?_take_of_lt (by omega)]
    rw [this]
    simp [List.getD, hi]

theorem RowAt.later (h : RowAt w B V S) (hO : Only (fun _ => False) w w') : RowAt w' B V S := owns_kept h hO (fun _ _ e => e)
theorem RowAt.keep {N : Nat → Prop} (h : RowAt w B V S) (hO : Only N w w') (hN : ∀ g, V.ownBlock = some g → ¬ N g) : RowAt w' B V S := owns_kept h hO hN
theorem RowAt.base {B' : Nat} (h : RowAt w B V S) (hb : B' ≤ B) : RowAt w B' V S := owns_base h hb
theorem RowAt.block (h : RowAt w B V S) {g : Nat} (hg : V.ownBlock = some g) : B ≤ g ∧ g < w.heap.size := h.lt g hg
theorem RowAt.shape (h : RowAt w B V S) {n : Nat} (hn : S.length = n) : ∃ a c, V = .slice a n c ∧ n ≤ c ∧ c ≤ 9223372036854775807 ∧ (a = none → c = 0) := by
  subst hn
  rcases h.cases with ⟨rfl, rfl⟩ | ⟨g, cap, rfl, -, h1, h2, -⟩
  · exact ⟨none, 0, rfl, Nat.le_refl _, by omega, fun _ => rfl⟩
  · exact ⟨_, cap, rfl, h1, h2, fun e => by cases e⟩
theorem RowAt.at_block (h : RowAt w B V S) {n : Nat} (hn : S.length = n) (h0 : 0 < n) : ∃ g c, V = .slice (some ⟨g, 0, none⟩) n c ∧ B ≤ g ∧ g < w.heap.size ∧ n ≤ c ∧ c ≤ 9223372036854775807 ∧ RowAt w B (.slice (some ⟨g, 0, none⟩) n c) S := by
  subst hn
  rcases h.cases with ⟨rfl, rfl⟩ | ⟨g, cap, rfl, hb, h1, h2, ⟨cur, h3⟩, -⟩
  · simp at h0
  · exact ⟨g, cap, rfl, hb, block_there h3, h1, h2, h⟩
end
theorem RowAt.cell {w : World} {B g n c : Nat} {S : List Nat} (h : RowAt w B (.slice (some ⟨g, 0, none⟩) n c) S) {i : Nat} (hi : i < S.length) : w.cell? ⟨g, i, none⟩ = some (pt (S.getD i 0)) := by
  rcases h.cases with ⟨h1, -⟩ | ⟨g', cap', h1, -, -, -, -, h2⟩
  · cases h1
  · cases h1; exact h2 i hi

theorem lim_of {n : Nat} (h : n ≤ 17000000000000) : n ≤ maxLen ∧ n * 8 ≤ 140737488355328 := by unfold maxLen; omega

/-- append(a, b..): one more element, which lies in a block of its own. -/
theorem append_row {w : World} {ops : Array Oper} {rest : List Oper} {o : Oper} {a : Act} {Q : Exit → Act → World → Prop} (hgd : o.guard = none) (s x : Operand)
    (ho : o.op = .call { callee := .builtin .append, args := #[s, x], argTypes := #[31, 31] })
    (base b c : Nat) (v : Value) (S : List Nat) (y : Nat) (hs : a.eval s = v) (hx : a.eval x = .slice (some ⟨b, 0, none⟩) 1 c) (hown : RowAt w base v S) (hb : w.heap[b]? = some (.cells #[pt y] 82 (0, 0)))
    (hn : S.length + 1 ≤ 17000000000000) (hbase : base ≤ w.heap.size)
    (h : ∀ v' w', RowAt w' base v' (S ++ [y]) → Only (fun k => v.ownBlock = some k) w w' → (∀ k, v'.ownBlock = some k → v.ownBlock = some k ∨ w.heap.size ≤ k) → (∃ g' c', v' = .slice (some ⟨g', 0, none⟩) (S.length + 1) c') → wpList Tryz.prog ops Q rest (a.put o.dst v') w') : wpList Tryz.prog ops Q (o :: rest) a w := by
  obtain ⟨i0, hi, hz0, hz1, hz2⟩ := info_parts Tryz.infoElem
  refine wpList_append_lies w hgd s x 31 ho base 82 i0 (.pointer none) 1 8 Tryz.underlying31 hi hz0 hz1 hz2 rfl (by decide) v S.length (S.map pt) hs hown ⟨b, 0, none⟩ 1 c [pt y] hx rfl ?_ (by intro u hu; simp at hu; subst hu; rfl) Nat.one_pos (lim_of hn).1 (lim_of hn).2 hbase _ rfl ?_
  · intro j u hj
    rw [add_plain, cell_at hb, Nat.zero_add, ← Array.getElem?_toList]
    exact hj
  · intro g' cap' w' hown' hg hat _
    refine h _ w' ?_ (Only.of_grown hg (fun k hk => hk)) (fun k hk => by cases hk; exact hat.imp_right (fun e => by rw [e]; exact Nat.le_refl _)) ⟨_, _, rfl⟩
    unfold RowAt
    rw [List.length_append, List.map_append]
    exact hown'

section
variable {P : Nat → Prop}
/-- The pointer to one of the blocks. -/
def ptv (x : {x // P x}) : Value := pt x.1
def vals (S : List {x // P x}) : List Nat := S.map (·.1)

theorem holds_row {w : World} {B g n c : Nat} {S : List {x // P x}} [Inhabited {x // P x}] (h : RowAt w B (.slice (some ⟨g, 0, none⟩) n c) (vals S)) : Holds ptv w g 0 S.toArray := by
  rcases h.cases with ⟨h1, -⟩ | ⟨g', cap, h1, hb, h3, h4, ⟨cur, h2⟩, hc⟩
  · cases h1
  · cases h1
    intro j hj
    have hj2 : j < S.length := by simpa using hj
    rw [Nat.zero_add]
    refine ⟨?_, frozen_at h2 j⟩
    rw [hc j (by unfold vals; simpa using hj2), getElem!_pos _ j (by simpa using hj)]
    simp [List.getD, hj2, vals, ptv]

/-- The world with other elements in the row. -/
theorem row_put {w : World} {B g n c m : Nat} {S T : List {x // P x}} [Inhabited {x // P x}] {os : Array Obj} (h : RowAt w B (.slice (some ⟨g, 0, none⟩) n c) (vals S)) (hn : T.length = S.length) :
    RowAt (Sort.grow (putRow ptv (Sort.ahead w m) g 0 T.toArray) os) B (.slice (some ⟨g, 0, none⟩) n c) (vals T) ∧ Only (· = g) w (Sort.grow (putRow ptv (Sort.ahead w m) g 0 T.toArray) os) := by
  rcases h with ⟨hl, ⟨h1, _⟩ | ⟨g', cap, cur, h1, hb, h2, h3, h4, h5, h6⟩⟩
  · cases h1
  · cases h1
    have hgw := block_there h2
    have hvl : (vals T).length = T.length := by simp [vals]
    have hvs : (vals S).length = S.length := by simp [vals]
    have hblk : (Sort.grow (putRow ptv (Sort.ahead w m) g 0 T.toArray) os).heap[g]? = some (.cells (putCells ptv 0 T.toArray cur) 82 (0, 0)) := by
      rw [Sort.heap_grow_old _ os (by show g < (putRow _ _ _ _ _).heap.size; rw [size_putRow]; exact hgw)]
      unfold putRow mapBlock
      show (w.heap.modify g _)[g]? = _
      rw [Array.getElem?_modify, if_pos rfl, h2]
      rfl
    have hsz : (putCells ptv 0 T.toArray cur).size = cur.size := by unfold putCells; simp
    refine ⟨⟨by simp, Or.inr ⟨g, c, _, by rw [hvl, hn, ← hvs], hb, hblk, by omega, h4, by rw [hsz, h5], ?_⟩⟩, rfl, rfl, rfl, ?_, fun k hk hne => ?_⟩
    · apply List.ext_getElem?
      intro t
      rw [List.getElem?_take]
      by_cases ht : t < (vals T).length * 1
      · rw [if_pos ht, Array.getElem?_toList]
        unfold putCells
        rw [Array.getElem?_mapIdx, Array.getElem?_eq_getElem (show t < cur.size by omega)]
        simp only [Option.map_some]
        rw [if_pos ⟨Nat.zero_le _, by simp; omega⟩, Nat.sub_zero, getElem!_pos _ t (by simp; omega)]
        simp [show t < T.length by omega, vals, ptv]
      · rw [if_neg ht, List.getElem?_eq_none (by simp; omega)]
    · show w.heap.size ≤ ((w.heap.modify g _) ++ os).size
      rw [Array.size_append, Array.size_modify]; omega
    · rw [Sort.heap_grow_old _ os (by show k < (putRow _ _ _ _ _).heap.size; rw [size_putRow]; exact hk)]
      unfold putRow mapBlock
      show (w.heap.modify g _)[k]? = _
      rw [Array.getElem?_modify, if_neg (Ne.symm hne)]
end

noncomputable def sortT : TypeInfo := (Tryz.prog.info? 31).get (by kernel_rfl)
noncomputable def sortE : TypeInfo := (Tryz.prog.info? 82).get (by kernel_rfl)
theorem sortK (n : Nat) (h2 : 2 ≤ n) : Lib.swapperK n sortE 22 = 3 := by
  have a : sortE.hasPointers = true := by kernel_rfl
  have b : sortE.bytes = 8 := by kernel_rfl
  have c : (n == 0) = false := by simp; omega
  have d : (n == 1) = false := by simp; omega
  simp [Lib.swapperK, a, b, c, d]

theorem perm_of_in {α : Type} [Inhabited α] {d d' : Array α} (h : Sort.PermIn 0 d.size d d') : d'.size = d.size ∧ d'.toList.Perm d.toList := by
  obtain ⟨h1, -, h2⟩ := h
  rw [Array.extract_eq_self_of_le (by omega), Array.extract_eq_self_of_le (by omega)] at h2
  exact ⟨h1, h2⟩

theorem pairs_of_in {α : Type} [Inhabited α] {lt : α → α → Bool} {d : Array α} (h : Sort.SortedIn lt 0 d.size d) : d.toList.Pairwise fun x y => lt y x = false := by
  rw [List.pairwise_iff_getElem]
  intro i j hi hj hij
  simp only [Array.length_toList] at hi hj
  have := h i j (Nat.zero_le _) hij hj
  rw [getElem!_pos d i hi, getElem!_pos d j hj] at this
  simpa using this

/-- What is known behind a sort: the row holds the same elements, in order. -/
def Ordered (lt : Nat → Nat → Bool) (B g n c : Nat) (S : List Nat) (w : World) (e : Ending) (w' : World) : Prop :=
  e = .returned (.tuple #[]) ∧ ∃ T : List Nat, T.Perm S ∧ (T.Pairwise fun x y => lt y x = false) ∧ RowAt w' B (.slice (some ⟨g, 0, none⟩) n c) T ∧ Only (· = g) w w'

set_option maxRecDepth 100000 in
theorem sort_of (P : Nat → Prop) (lt : Nat → Nat → Bool) (hO : Sort.SWO lt) (B g n c : Nat) (lb : Array Value) (S : List Nat) (w : World) (h : RowAt w B (.slice (some ⟨g, 0, none⟩) n c) S) (hP : ∀ x ∈ S, P x) (hn : S.length = n) (hl : n ≤ 6000000000000)
    (hless : ∀ (W : World) (T : List Nat), T.length = n → (∀ x ∈ T, P x) → RowAt W B (.slice (some ⟨g, 0, none⟩) n c) T → Only (· = g) w W → ∀ i j : Nat, i < n → j < n →
      Calls Tryz.prog 75 (#[.int .i64 i, .int .i64 j] ++ lb) W fun e w' => e = .returned (.bool (lt (T.getD i 0) (T.getD j 0))) ∧ ∃ q, w' = W.drewN q) :
    Calls Tryz.prog 69 #[.iface 31 (.slice (some ⟨g, 0, none⟩) n c), .func (.func 75) #[] lb] w (Ordered lt B g n c S w) := by
  have eg : ∀ args w, (callFunc 75 args).run Tryz.prog w = .ok (.enter 75 args) w := enters_of Tryz.func75 (by kernel_rfl) rfl
  have hgw : g < w.heap.size := (h.block rfl).2
  by_cases h2 : 2 ≤ n
  · obtain ⟨S', hS'⟩ : ∃ S' : List {x // P x}, S = vals S' := ⟨S.attach.map (fun x => ⟨x.1, hP x.1 x.2⟩), by unfold vals; simp [List.map_map, Function.comp_def]⟩
    subst hS'
    have hln : S'.length = n := by rw [← hn]; simp [vals]
    clear hn
    subst hln
    haveI : Inhabited {x // P x} := ⟨S'[0]'(by omega)⟩
    have hH := holds_row h
    have hlr : LessReads Tryz.prog 75 lb ptv (fun x y : {x // P x} => lt x.1 y.1) g 0 S'.toArray.size w := by
      intro m os dk hdk i j hi hj
      have hdk2 : dk.toList.length = S'.length := by rw [Array.length_toList, hdk]; simp
      have hput := row_put (m := m) (os := os) (T := dk.toList) h hdk2
      have e1 : Sort.grow (putRow ptv (Sort.ahead w m) g 0 dk.toList.toArray) os = sortWorld ptv w g 0 m dk os := by simp [sortWorld]
      rw [e1] at hput
      have hi2 : i < S'.length := by simpa using hi
      have hj2 : j < S'.length := by simpa using hj
      have ei : dk[i]!.1 = (vals dk.toList).getD i 0 := by rw [getElem!_pos dk i (by rw [hdk]; exact hi)]; simp [vals, List.getD, show i < dk.size by rw [hdk]; exact hi]
      have ej : dk[j]!.1 = (vals dk.toList).getD j 0 := by rw [getElem!_pos dk j (by rw [hdk]; exact hj)]; simp [vals, List.getD, show j < dk.size by rw [hdk]; exact hj]
      have := hless _ (vals dk.toList) (by unfold vals; rw [List.length_map]; exact hdk2) (fun x hx => by unfold vals at hx; obtain ⟨y, -, rfl⟩ := List.mem_map.1 hx; exact y.2) hput.1 hput.2 i j hi2 hj2
      rw [← ei, ← ej] at this
      exact this
    have hS := Any.sort_Slice_sorted sliceL 31 82 sortT sortE (by kernel_rfl) (by kernel_rfl) (by kernel_rfl) (by kernel_rfl) 22 (fun _ => by kernel_rfl) (by kernel_rfl) (fun _ => by kernel_rfl) ptv (fun _ => rfl)
      (fun x y : {x // P x} => lt x.1 y.1) ⟨fun x => hO.irrefl x.1, fun x y z => hO.trans x.1 y.1 z.1, fun x y z => hO.ntrans x.1 y.1 z.1⟩ 75 lb eg g 0 c S'.toArray (by simpa using h2) (by simp; omega) 83 (by rw [sortK _ (by simpa using h2)]; kernel_rfl) true
      (fun args W => run_callFunc_extern Tryz.func83 (by kernel_rfl) (by kernel_rfl) (by kernel_rfl) (e := Extern.ReflectliteSwapper.swap true) (by kernel_rfl) args W) w hlr hH hgw
    change Calls Tryz.prog 69 _ _ _ at hS
    have e0 : S'.toArray.size = S'.length := by simp
    rw [e0] at hS
    refine hS.mono ?_
    rintro e w' ⟨rfl, d', m, os, hPm, hSo, rfl⟩
    rw [← e0] at hPm hSo
    obtain ⟨h3, h4⟩ := perm_of_in hPm
    have h5 : d'.toList.length = S'.length := by rw [Array.length_toList, h3]; simp
    have hput := row_put (m := m) (os := os) (T := d'.toList) h h5
    have hpw := pairs_of_in (lt := fun x y : {x // P x} => lt x.1 y.1) (d := d') (by rw [h3]; exact hSo)
    refine ⟨rfl, vals d'.toList, (by simpa using h4 : d'.toList.Perm S').map _, ?_, by have := hput.1; rwa [Array.toArray_toList] at this, by have := hput.2; rwa [Array.toArray_toList] at this⟩
    unfold vals
    rw [List.pairwise_map]
    exact hpw
  · subst hn
    have hP : S.Pairwise fun x y => lt y x = false := by
      match S, h2 with
      | [], _ => exact List.Pairwise.nil
      | [x], _ => exact List.pairwise_singleton _ _
      | x :: y :: r, h2 => simp at h2
    have hF : ∀ os, Ordered lt B g S.length c S w (.returned (.tuple #[])) (Sort.grow w os) := fun os => by
      have hO2 : Only (fun _ => False) w (Sort.grow w os) := ⟨rfl, rfl, rfl, by show w.heap.size ≤ (w.heap ++ os).size; rw [Array.size_append]; omega, fun k hk _ => Sort.heap_grow_old w os hk⟩
      exact ⟨rfl, S, List.Perm.refl S, hP, h.later hO2, hO2.mono (fun _ _ e => e.elim)⟩
    have h01 : S.length = 0 ∨ S.length = 1 := by omega
    rcases h01 with h0 | h0
    · have hS := Any.sort_Slice_tiny sliceL 31 82 sortT sortE (by kernel_rfl) (by kernel_rfl) (by kernel_rfl) (by kernel_rfl) 22 (fun _ => by kernel_rfl) (some ⟨g, 0, none⟩) S.length c (by omega) 81 (by rw [h0]; kernel_rfl) (.func 75) #[] lb w
      change Calls Tryz.prog 69 _ _ _ at hS
      refine hS.mono ?_
      rintro e w' ⟨rfl, os, rfl⟩
      exact hF os
    · have hS := Any.sort_Slice_tiny sliceL 31 82 sortT sortE (by kernel_rfl) (by kernel_rfl) (by kernel_rfl) (by kernel_rfl) 22 (fun _ => by kernel_rfl) (some ⟨g, 0, none⟩) S.length c (by omega) 82 (by rw [h0]; kernel_rfl) (.func 75) #[] lb w
      change Calls Tryz.prog 69 _ _ _ at hS
      refine hS.mono ?_
      rintro e w' ⟨rfl, os, rfl⟩
      exact hF os

theorem sort_nil (lb : Array Value) (w : World) :
    Calls Tryz.prog 69 #[.iface 31 (.slice none 0 0), .func (.func 75) #[] lb] w (fun e w' => e = .returned (.tuple #[]) ∧ Only (fun _ => False) w w') := by
  have hS := Any.sort_Slice_tiny sliceL 31 82 sortT sortE (by kernel_rfl) (by kernel_rfl) (by kernel_rfl) (by kernel_rfl) 22 (fun _ => by kernel_rfl) none 0 0 (by omega) 81 (by kernel_rfl) (.func 75) #[] lb w
  change Calls Tryz.prog 69 _ _ _ at hS
  refine hS.mono ?_
  rintro e w' ⟨rfl, os, rfl⟩
  exact ⟨rfl, rfl, rfl, rfl, by show w.heap.size ≤ (w.heap ++ os).size; rw [Array.size_append]; omega, fun k hk _ => Sort.heap_grow_old w os hk⟩
end Go.Proofs.YtpincdcebhmnhaaGreat.Pt
/- The reference's class of fair shares in memory: a list of tasks, each in a block of its own, and groups. -/
namespace Go.Proofs.YtpincdcebhmnhaaGreat.Fr
open Go.ChangeShapes Go.WideShapes Go.ChangeAt Go.RowKit Go.Maps
open Go.Proofs.YtpincdcebhmnhaaGreat.Vt Go.Proofs.YtpincdcebhmnhaaGreat.Pt
set_option linter.unusedVariables false

/-- The cells of a task of the reference. -/
def taskCells (t wt g v : Int) (r : Bool) : Obj := .cells #[.int .i64 t, .int .i64 wt, .int .i64 g, .int .i64 v, .bool r] 84 (0, 0)

/-- What the cells of a class hold: the tasks' slice, and the groups. -/
structure RCells (o : Nat) (cs : Array Value) (V : Value) (G : Grs) (GW : Nat → Int) : Prop where
  size : o + 28 ≤ cs.size
  v : cs[o]? = some V
  is : ∀ g, g < 9 → cs[o + 1 + g * 3]? = some (.bool (decide ((G g).c ≠ 0)))
  gw : ∀ g, g < 9 → cs[o + 1 + g * 3 + 1]? = some (.int .i64 (GW g))
  gv : ∀ g, g < 9 → cs[o + 1 + g * 3 + 2]? = some (.int .i64 (G g).v)

/-- A class of the reference in block q: its tasks are those of L (blocks and numbers). -/
structure RefAt (B : Nat) (w : World) (q o D : Nat) (L : List (Nat × Nat)) (T : Tks) (G : Grs) (W GW : Nat → Int) : Prop where
  self : ∃ cs V, w.heap[q]? = some (.cells cs D (0, 0)) ∧ RCells o cs V G GW ∧ RowAt w B V (L.map (·.1)) ∧ (∀ g, V.ownBlock = some g → g ≠ q ∧ ∀ x ∈ L, g ≠ x.1)
  task : ∀ x ∈ L, w.heap[x.1]? = some (taskCells x.2 (W x.2) (T x.2).g (T x.2).v (T x.2).r)
  from' : B ≤ q ∧ ∀ x ∈ L, B ≤ x.1
  apart : ∀ x ∈ L, x.1 ≠ q
  blocks : (L.map (·.1)).Nodup
  nums : (L.map (·.2)).Nodup

/-- The list has the tasks that are there. -/
structure Same (L : List (Nat × Nat)) (T : Tks) (G : Grs) (W GW : Nat → Int) : Prop where
  num : ∀ x ∈ L, 1 ≤ x.2 ∧ x.2 ≤ 16
  all : ∀ t, t < 17 → (T t).c ≠ 0 → ∃ b, (b, t) ∈ L
  wt : ∀ x ∈ L, isW (W x.2) = true ∧ (T x.2).c = costOf (W x.2)
  gw : ∀ g, g < 9 → (G g).c ≠ 0 → isW (GW g) = true ∧ (G g).c = costOf (GW g)
  g0 : (G 0).c = 0
  tg : ∀ x ∈ L, (T x.2).g = 0 ∨ (G (T x.2).g.toNat).c ≠ 0

section
variable {B : Nat} {w w' : World} {q o D : Nat} {L : List (Nat × Nat)} {T : Tks} {G : Grs} {W GW : Nat → Int}
theorem RefAt.keep {S : Nat → Prop} (h : RefAt B w q o D L T G W GW) (hO : Only S w w') (hS : ∀ k, B ≤ k → k < w.heap.size → ¬ S k) : RefAt B w' q o D L T G W GW := by
  obtain ⟨⟨cs, V, h1, h2, h3, h4⟩, h5, h6, h7, h8, h9⟩ := h
  refine ⟨⟨cs, V, (hO.block q (block_there h1) (hS q h6.1 (block_there h1))).trans h1, h2, h3.keep hO (fun g hg => hS g (h3.block hg).1 (h3.block hg).2), h4⟩, fun x hx => ?_, h6, h7, h8, h9⟩
  have := h5 x hx
  exact (hO.block x.1 (block_there this) (hS x.1 (h6.2 x hx) (block_there this))).trans this
theorem RefAt.later (h : RefAt B w q o D L T G W GW) (hO : Only (fun _ => False) w w') : RefAt B w' q o D L T G W GW := h.keep hO (fun _ _ _ e => e)
theorem RefAt.lt (h : RefAt B w q o D L T G W GW) : q < w.heap.size := by obtain ⟨⟨cs, V, h1, -⟩, -⟩ := h; exact block_there h1
theorem RefAt.frozen (h : RefAt B w q o D L T G W GW) (j : Nat) : w.frozen? ⟨q, j, none⟩ = false := by obtain ⟨⟨cs, V, h1, -⟩, -⟩ := h; exact frozen_at h1 j
theorem RefAt.slice (h : RefAt B w q o D L T G W GW) : ∃ V, w.cell? ⟨q, o, none⟩ = some V ∧ RowAt w B V (L.map (·.1)) ∧ (∀ g, V.ownBlock = some g → g ≠ q ∧ ∀ x ∈ L, g ≠ x.1) := by
  obtain ⟨⟨cs, V, h1, h2, h3, h4⟩, -⟩ := h
  exact ⟨V, by rw [cell_at h1]; exact h2.v, h3, h4⟩
theorem RefAt.is (h : RefAt B w q o D L T G W GW) (g : Nat) (hg : g < 9) : w.cell? ⟨q, o + 1 + g * 3, none⟩ = some (.bool (decide ((G g).c ≠ 0))) := by obtain ⟨⟨cs, V, h1, h2, -⟩, -⟩ := h; rw [cell_at h1]; exact h2.is g hg
theorem RefAt.gw (h : RefAt B w q o D L T G W GW) (g : Nat) (hg : g < 9) : w.cell? ⟨q, o + 1 + g * 3 + 1, none⟩ = some (.int .i64 (GW g)) := by obtain ⟨⟨cs, V, h1, h2, -⟩, -⟩ := h; rw [cell_at h1]; exact h2.gw g hg
theorem RefAt.gv (h : RefAt B w q o D L T G W GW) (g : Nat) (hg : g < 9) : w.cell? ⟨q, o + 1 + g * 3 + 2, none⟩ = some (.int .i64 (G g).v) := by obtain ⟨⟨cs, V, h1, h2, -⟩, -⟩ := h; rw [cell_at h1]; exact h2.gv g hg
section
variable {b t : Nat}
theorem RefAt.tn (h : RefAt B w q o D L T G W GW) (hx : (b, t) ∈ L) : w.cell? ⟨b, 0, none⟩ = some (.int .i64 t) := by rw [cell_at (h.task _ hx)]; rfl
theorem RefAt.tw (h : RefAt B w q o D L T G W GW) (hx : (b, t) ∈ L) : w.cell? ⟨b, 1, none⟩ = some (.int .i64 (W t)) := by rw [cell_at (h.task _ hx)]; rfl
theorem RefAt.tg (h : RefAt B w q o D L T G W GW) (hx : (b, t) ∈ L) : w.cell? ⟨b, 2, none⟩ = some (.int .i64 (T t).g) := by rw [cell_at (h.task _ hx)]; rfl
theorem RefAt.tv (h : RefAt B w q o D L T G W GW) (hx : (b, t) ∈ L) : w.cell? ⟨b, 3, none⟩ = some (.int .i64 (T t).v) := by rw [cell_at (h.task _ hx)]; rfl
theorem RefAt.tr (h : RefAt B w q o D L T G W GW) (hx : (b, t) ∈ L) : w.cell? ⟨b, 4, none⟩ = some (.bool (T t).r) := by rw [cell_at (h.task _ hx)]; rfl
theorem RefAt.tfrozen (h : RefAt B w q o D L T G W GW) (hx : (b, t) ∈ L) (j : Nat) : w.frozen? ⟨b, j, none⟩ = false := frozen_at (h.task _ hx) j
theorem RefAt.tlt (h : RefAt B w q o D L T G W GW) (hx : (b, t) ∈ L) : b < w.heap.size := block_there (h.task _ hx)
end
theorem RefAt.same_num (h : RefAt B w q o D L T G W GW) {b b' t : Nat} (h1 : (b, t) ∈ L) (h2 : (b', t) ∈ L) : b = b' := by
  have hn := h.nums
  clear h
  induction L with
  | nil => cases h1
  | cons x xs ih =>
    rw [List.map_cons, List.nodup_cons] at hn
    rcases List.mem_cons.1 h1 with e1 | e1
    · rcases List.mem_cons.1 h2 with e2 | e2
      · rw [← e1] at e2; exact (Prod.mk.inj e2).1.symm
      · exact absurd (List.mem_map.2 ⟨_, e2, by rw [← e1]⟩) hn.1
    · rcases List.mem_cons.1 h2 with e2 | e2
      · exact absurd (List.mem_map.2 ⟨_, e1, by rw [← e2]⟩) hn.1
      · exact ih e1 e2 hn.2
/-- The number of a block's task. -/
theorem RefAt.numbers (h : RefAt B w q o D L T G W GW) : ∃ f : Nat → Nat, ∀ x ∈ L, f x.1 = x.2 := by
  have hn := h.blocks
  clear h
  induction L with
  | nil => exact ⟨fun _ => 0, fun x hx => by cases hx⟩
  | cons x xs ih =>
    rw [List.map_cons, List.nodup_cons] at hn
    obtain ⟨f, hf⟩ := ih hn.2
    refine ⟨fun b => if b = x.1 then x.2 else f b, fun y hy => ?_⟩
    rcases List.mem_cons.1 hy with e | e
    · subst e; exact if_pos rfl
    · have : y.1 ≠ x.1 := fun e' => hn.1 (List.mem_map.2 ⟨y, e, e'⟩)
      show (if y.1 = x.1 then x.2 else f y.1) = y.2
      rw [if_neg this]; exact hf y e

theorem RefAt.len16 (h : RefAt B w q o D L T G W GW) (hs : Same L T G W GW) : L.length ≤ 16 := by
  have h1 := h.nums
  have h2 : (L.map (·.2)).length ≤ (List.range' 1 16).length := by
    apply List.Nodup.length_le_of_subset h1
    intro x hx
    obtain ⟨y, hy, rfl⟩ := List.mem_map.1 hx
    have := hs.num y hy
    rw [List.mem_range'_1]; omega
  simpa using h2
end

section
variable {B : Nat} {w : World} {q o D : Nat} {L : List (Nat × Nat)} {T : Tks} {G : Grs} {W GW : Nat → Int}

theorem mem_getD {L : List (Nat × Nat)} {j : Nat} (h : j < L.length) : ∃ t, ((L.map (·.1)).getD j 0, t) ∈ L ∧ L[j]? = some ((L.map (·.1)).getD j 0, t) := by
  refine ⟨(L[j]).2, ?_, ?_⟩
  · have : (L.map (·.1)).getD j 0 = (L[j]).1 := by simp [List.getD, h]
    rw [this]; exact List.getElem_mem h
  · simp [List.getD, h]

theorem row_at {w : World} {B n c : Nat} {a : Option Addr} {S : List Nat} (h : RowAt w B (.slice a n c) S) {j : Nat} (hj : j < S.length) : ∃ g, a = some ⟨g, 0, none⟩ ∧ B ≤ g ∧ g < w.heap.size ∧ w.cell? ⟨g, j, none⟩ = some (pt (S.getD j 0)) := by
  rcases h.cases with ⟨h1, h2⟩ | ⟨g, cap, h1, hb, -, -, ⟨cur, h3⟩, h2⟩
  · subst h2; cases hj
  · cases h1; exact ⟨g, rfl, hb, block_there h3, h2 j hj⟩

/-- Find: the pointer to a task, or nil. -/
theorem findr_any (h : RefAt B w q o D L T G W GW) (hl : L.length ≤ 16) (t : Int) :
    Calls Tryz.prog 38 #[.pointer (some ⟨q, o, none⟩), .int .i64 t] w fun e w' => ((∃ b n : Nat, e = .returned (pt b) ∧ (b, n) ∈ L ∧ (n : Int) = t) ∨ (e = .returned (.pointer none) ∧ ∀ x ∈ L, (x.2 : Int) ≠ t)) ∧ w = w' := by
  obtain ⟨V, c0, hr, -⟩ := h.slice
  obtain ⟨n, hn⟩ : ∃ n, (L.map (·.1)).length = n := ⟨_, rfl⟩
  obtain ⟨a, c, rfl, hc1, hc2, hc3⟩ := hr.shape hn
  have hln : L.length = n := by rw [← hn]; simp
  have H := Lib.hid h
  have HR := Lib.hid hr
  have HLN := Lib.hid hln
  have hn16 : n ≤ 16 := by omega
  clear h hr hn hln hl
  go_enter Tryz.func38, Tryz.ntmps38
  go_wp2_with fail
  go_loopw [12] (fun i wr => ∃ j : Nat, j ≤ n ∧ i = .int .i64 j ∧ (∀ k, k < j → ∀ x, L[k]? = some x → (x.2 : Int) ≠ t) ∧ wr = w) (fun i _ => n - (intOf i).toNat)
  case atStart => exact ⟨0, by omega, rfl, fun k hk => absurd hk (Nat.not_lt_zero _), rfl⟩
  case round =>
    obtain ⟨j, hj, rfl, hno, rfl⟩ := hrel
    have HN := Lib.hid hno
    clear hno
    by_cases hlt : j < n
    · obtain ⟨m, hm, hm2⟩ := mem_getD (L := L) (j := j) (by rw [HLN.out]; exact hlt)
      obtain ⟨g, rfl, -, -, d0⟩ := row_at HR.out (j := j) (by rw [List.length_map, HLN.out]; exact hlt)
      have d1 := H.out.tn hm
      generalize (L.map (·.1)).getD j 0 = b at *
      have HM := Lib.hid hm
      have HM2 := Lib.hid hm2
      unfold pt at *
      have g1 : (j : Int) < n := by omega
      have g2 : (0 : Int) ≤ j := by omega
      clear hm hm2
      by_cases e : (m : Int) = t
      · have e1 : ((m : Int) == t) = true := by simp [e]
        have HE := Lib.hid e
        clear e
        go_wp2_with fail
        go_ret
        exact ⟨Or.inl ⟨b, m, rfl, HM.out, HE.out⟩, rfl⟩
      · have e1 : ((m : Int) == t) = false := by simp [e]
        have HE := Lib.hid e
        clear e
        go_wp2_with fail
        go_roundw
        case rel =>
          refine ⟨j + 1, by omega, by go_num, fun k hk x hx => ?_, trivial⟩
          by_cases ek : k = j
          · subst ek
            rw [HM2.out] at hx
            cases hx
            exact HE.out
          · exact HN.out k (by omega) x hx
        case measure => simp [intOf]; omega
    · obtain rfl : j = n := by omega
      go_wp2_with fail
      go_ret
      exact ⟨Or.inr ⟨rfl, fun x hx => by
        obtain ⟨k, hk, hk2⟩ := List.getElem_of_mem hx
        exact HN.out k (by rw [← HLN.out]; exact hk) x (by rw [List.getElem?_eq_getElem hk, hk2])⟩, rfl⟩
end
end Go.Proofs.YtpincdcebhmnhaaGreat.Fr
