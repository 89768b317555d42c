/- Rows of admit.Use. -/
import Derived.Test.YtijpiloljgpnkaaFlat
import Derived.Test.YtijpiloljgpnkaaRow
import Derived.WalkSpells
import Derived.Deep.AppendLies
namespace Go.Proofs.Ytijpiloljgpnkaa.Us
open Go.ChangeShapes Go.WideShapes Go.ChangeAt Go.RowKit

set_option linter.unusedVariables false

theorem Try.infoElem : (Try.prog.info? 58).map (fun i => (i.zero, i.size, i.bytes)) = some (some (.agg #[.int .i64 0, .int .i64 0]), 2, 16) := by kernel_rfl

/-- The cells of one element. -/
def enc (x : Int × Int) : List Value := [.int .i64 x.1, .int .i64 x.2]

theorem enc_len (x : Int × Int) : (enc x).length = 2 := rfl
theorem enc_one (x : Int × Int) : ∀ u ∈ enc x, u.oneCell' = true := by intro u hu; simp [enc] at hu; rcases hu with rfl | rfl <;> rfl

/-- A row of the call's own, from block B on. -/
def RowAt (w : World) (B : Nat) (V : Value) (S : List (Int × Int)) : Prop := w.ownsRow B 58 2 V S.length (flat enc S)

theorem row_nil (w : World) (B : Nat) : RowAt w B (.slice none 0 0) [] := World.ownsRow_nil w B 58 2

theorem RowAt.cases {w : World} {B : Nat} {V : Value} {S : List (Int × Int)} (h : RowAt w B V S) : (V = .slice none 0 0 ∧ S = []) ∨
    ∃ g cap, V = .slice (some ⟨g, 0, none⟩) S.length cap ∧ B ≤ g ∧ S.length ≤ cap ∧ cap ≤ 9223372036854775807 ∧ (∃ cur, w.heap[g]? = some (.cells cur 58 (0, 0))) ∧ ∀ i, i < S.length → w.cell? ⟨g, i * 2, none⟩ = some (.int .i64 (S.getD i (0, 0)).1) ∧ w.cell? ⟨g, i * 2 + 1, none⟩ = some (.int .i64 (S.getD i (0, 0)).2) := by
  rcases h with ⟨hl, ⟨rfl, h0⟩ | ⟨g, cap, cur, rfl, hb, h2, h3, h4, h5, h6⟩⟩
  · exact Or.inl ⟨rfl, List.eq_nil_of_length_eq_zero h0⟩
  · refine Or.inr ⟨g, cap, rfl, hb, h3, by unfold maxLen at h4; omega, ⟨cur, h2⟩, fun i hi => ?_⟩
    have hm := mul_lt (k := 2) hi
    have hcell : ∀ j, j < 2 → w.cell? ⟨g, i * 2 + j, none⟩ = (enc (S.getD i (0, 0)))[j]? := fun j hj => by
      rw [cell_at h2, ← Array.getElem?_toList]
      have := flat_at enc_len S i j hi hj
      rw [← h6, List.getElem?_take_of_lt (by omega)] at this
      rw [this]
      simp [List.getD, hi]
    exact ⟨hcell 0 (by decide), hcell 1 (by decide)⟩

theorem RowAt.later {w w' : World} {B : Nat} {V : Value} {S : List (Int × Int)} (h : RowAt w B V S) (hO : Only (fun _ => False) w w') : RowAt w' B V S := owns_kept h hO (fun _ _ e => e)
theorem RowAt.keep {N : Nat → Prop} {w w' : World} {B : Nat} {V : Value} {S : List (Int × Int)} (h : RowAt w B V S) (hO : Only N w w') (hN : ∀ g, V.ownBlock = some g → ¬ N g) : RowAt w' B V S := owns_kept h hO hN
theorem RowAt.base {w : World} {B B' : Nat} {V : Value} {S : List (Int × Int)} (h : RowAt w B V S) (hb : B' ≤ B) : RowAt w B' V S := owns_base h hb
theorem RowAt.block {w : World} {B : Nat} {V : Value} {S : List (Int × Int)} (h : RowAt w B V S) {g : Nat} (hg : V.ownBlock = some g) : B ≤ g ∧ g < w.heap.size := h.lt g hg
theorem RowAt.type {w : World} {B : Nat} {V : Value} {S : List (Int × Int)} (h : RowAt w B V S) {g : Nat} (hg : V.ownBlock = some g) : ∃ cur, w.heap[g]? = some (.cells cur 58 (0, 0)) := owns_type h hg

theorem RowAt.shape {w : World} {B : Nat} {V : Value} {S : List (Int × Int)} (h : RowAt w B V S) {n : Nat} (hn : S.length = n) : ∃ a c, V = .slice a n c ∧ n ≤ c ∧ c ≤ 9223372036854775807 ∧ (a = none → c = 0) := by
  subst hn
  rcases h.cases with ⟨rfl, rfl⟩ | ⟨g, cap, rfl, -, h1, h2, -⟩
  · exact ⟨none, 0, rfl, Nat.le_refl _, by omega, fun _ => rfl⟩
  · exact ⟨_, cap, rfl, h1, h2, fun e => by cases e⟩

theorem RowAt.at_block {w : World} {B : Nat} {V : Value} {S : List (Int × Int)} (h : RowAt w B V S) {n : Nat} (hn : S.length = n) (h0 : 0 < n) : ∃ g c, V = .slice (some ⟨g, 0, none⟩) n c ∧ B ≤ g ∧ g < w.heap.size ∧ n ≤ c ∧ c ≤ 9223372036854775807 ∧ RowAt w B (.slice (some ⟨g, 0, none⟩) n c) S := by
  subst hn
  rcases h.cases with ⟨rfl, rfl⟩ | ⟨g, cap, rfl, hb, h1, h2, ⟨cur, h3⟩, -⟩
  · simp at h0
  · exact ⟨g, cap, rfl, hb, block_there h3, h1, h2, h⟩

theorem RowAt.cell {w : World} {B g n c : Nat} {S : List (Int × Int)} (h : RowAt w B (.slice (some ⟨g, 0, none⟩) n c) S) {i : Nat} (hi : i < S.length) : w.cell? ⟨g, i * 2, none⟩ = some (.int .i64 (S.getD i (0, 0)).1) ∧ w.cell? ⟨g, i * 2 + 1, none⟩ = some (.int .i64 (S.getD i (0, 0)).2) := by
  rcases h.cases with ⟨h1, -⟩ | ⟨g', cap', h1, -, -, -, -, h2⟩
  · cases h1
  · cases h1; exact h2 i hi

theorem lim_of {n : Nat} (h : n ≤ 8796093022144) : n ≤ maxLen ∧ n * 16 ≤ 140737488355328 := by unfold maxLen; omega

/-- append(a, b..): one more element, which lies in a block of its own. -/
theorem append_row {w : World} {ops : Array Oper} {rest : List Oper} {o : Oper} {a : Act} {Q : Exit → Act → World → Prop} (hgd : o.guard = none) (s x : Operand)
    (ho : o.op = .call { callee := .builtin .append, args := #[s, x], argTypes := #[55, 55] })
    (base b c : Nat) (v : Value) (S : List (Int × Int)) (y : Int × Int) (hs : a.eval s = v) (hx : a.eval x = .slice (some ⟨b, 0, none⟩) 1 c) (hown : RowAt w base v S) (hb : w.heap[b]? = some (.cells (enc y).toArray 58 (0, 0)))
    (hn : S.length + 1 ≤ 8796093022144) (hbase : base ≤ w.heap.size)
    (h : ∀ v' w', RowAt w' base v' (S ++ [y]) → Only (fun k => v.ownBlock = some k) w w' → (∀ k, v'.ownBlock = some k → v.ownBlock = some k ∨ w.heap.size ≤ k) → wpList Try.prog ops Q rest (a.put o.dst v') w') : wpList Try.prog ops Q (o :: rest) a w := by
  obtain ⟨i0, hi, hz0, hz1, hz2⟩ := info_parts Try.infoElem
  refine wpList_append_lies w hgd s x 55 ho base 58 i0 (.agg #[.int .i64 0, .int .i64 0]) 2 16 Try.underlying55 hi hz0 hz1 hz2 rfl (by decide) v S.length (flat enc S) hs hown ⟨b, 0, none⟩ 1 c (enc y) hx (by rw [enc_len]) ?_ (enc_one y) Nat.one_pos (lim_of hn).1 (lim_of hn).2 hbase _ rfl ?_
  · intro j u hj
    rw [add_plain, cell_at hb, Nat.zero_add, ← Array.getElem?_toList]
    exact hj
  · intro g' cap' w' hown' hg hat _
    refine h _ w' ?_ (Only.of_grown hg (fun k hk => hk)) (fun k hk => by cases hk; exact hat.imp_right (fun e => by rw [e]; exact Nat.le_refl _))
    unfold RowAt
    rw [List.length_append, flat_append, flat_one]
    exact hown'

/-- append(a, b..): all elements of another row. -/
theorem append_rows {w : World} {ops : Array Oper} {rest : List Oper} {o : Oper} {a : Act} {Q : Exit → Act → World → Prop} (hgd : o.guard = none) (s x : Operand)
    (ho : o.op = .call { callee := .builtin .append, args := #[s, x], argTypes := #[55, 55] })
    (base base' : Nat) (v vx : Value) (S Z : List (Int × Int)) (hs : a.eval s = v) (hx : a.eval x = vx) (hown : RowAt w base v S) (hr : RowAt w base' vx Z)
    (hn : S.length + Z.length ≤ 8796093022144) (hbase : base ≤ w.heap.size)
    (h : ∀ v' w', RowAt w' base v' (S ++ Z) → Only (fun k => v.ownBlock = some k) w w' → wpList Try.prog ops Q rest (a.put o.dst v') w') : wpList Try.prog ops Q (o :: rest) a w := by
  obtain ⟨i0, hi, hz0, hz1, hz2⟩ := info_parts Try.infoElem
  rcases hr with ⟨hl, ⟨rfl, h0⟩ | ⟨g, cap, cur, rfl, hb, h2, h3, h4, h5, h6⟩⟩
  · have hz : Z = [] := List.eq_nil_of_length_eq_zero h0
    subst hz
    refine wpList_append_own_none hgd s x 55 ho base 58 i0 2 Try.underlying55 hi v S.length (flat enc S) hs hown hx ?_
    exact h v w (by rw [List.append_nil]; exact hown) (Only.refl _ w)
  · refine wpList_append_own w hgd s x 55 ho base 58 i0 (.agg #[.int .i64 0, .int .i64 0]) 2 16 Try.underlying55 hi hz0 hz1 hz2 rfl (by decide) v S.length (flat enc S) hs hown ⟨g, 0, none⟩ Z.length cap (flat enc Z) hx (flat_len enc_len Z) ?_ (flat_cells enc_one Z) (lim_of hn).1 (lim_of hn).2 hbase ?_
    · intro j u hj
      have hlt := (List.getElem?_eq_some_iff.1 hj).1
      rw [flat_len enc_len] at hlt
      rw [add_plain, cell_at h2, Nat.zero_add, ← Array.getElem?_toList]
      rw [← h6, List.getElem?_take_of_lt hlt] at hj
      exact hj
    · intro v' w' hown' hg _
      refine h v' w' ?_ (Only.of_grown hg (fun k hk => hk))
      unfold RowAt
      rw [List.length_append, flat_append]
      exact hown'

/-- What is known behind Clone: the same elements in a row of the call's own. -/
def Cloned (S : List (Int × Int)) (w : World) (e : Ending) (w' : World) : Prop := ∃ v, e = .returned v ∧ RowAt w' w.heap.size v S ∧ Only (fun _ => False) w w'

set_option maxRecDepth 100000 in
theorem clone_row (B : Nat) (v : Value) (S : List (Int × Int)) (w : World) (h : RowAt w B v S) (hl : S.length ≤ 8796093022144) :
    Calls Try.prog 41 #[v] w (Cloned S w) := by
  have H := Lib.hid h
  have HL := Lib.hid hl
  have q29 : ∀ (w : World) (a : Option Addr) (n c n' c' : Nat), (binOp .eql 55 (.slice a n c) (.slice none n' c')).run Try.prog w = .ok (.bool a.isNone) w := fun w a n c n' c' => Lib.run_eql_slice_nil w _ _ a n c n' c' Try.underlying55
  rcases h.cases with ⟨rfl, rfl⟩ | ⟨g, cap, rfl, -⟩
  · clear hl h
    go_enter Try.func41, Try.ntmps41
    go_wp2_with fail
    go_ret
    exact ⟨_, rfl, row_nil w _, Only.refl _ w⟩
  · clear hl h
    have HI := Lib.hid (show RowAt (w.alloc (.cells #[] 58)) w.heap.size (.slice (some ⟨w.heap.size, 0, none⟩) 0 0) [] from ⟨rfl, Or.inr ⟨w.heap.size, 0, #[], rfl, Nat.le_refl _, heap_alloc_new w _, Nat.le_refl _, by unfold maxLen; omega, rfl, rfl⟩⟩)
    have HA := Lib.hid (H.out.later ((Only.refl (fun _ => False) w).alloc (.cells #[] 58)))
    have hsz : w.heap.size ≤ (w.alloc (.cells #[] 58)).heap.size := by simp
    have HZ := Lib.hid hsz
    clear hsz
    go_enter Try.func41, Try.ntmps41
    go_wp2_with (at_builtin; go_must (refine append_rows rfl _ _ rfl w.heap.size B _ _ [] S rfl rfl HI.out HA.out (by have := HL.out; simp; omega) HZ.out ?_); go_must (intro v5 w5 hr5 hO5); have HR5 := Lib.hid hr5; have HO5 := Lib.hid hO5; clear hr5 hO5)
    go_ret
    refine ⟨_, rfl, by simpa using HR5.out, ((Only.refl (fun _ => False) w).alloc (.cells #[] 58)).trans HO5.out (fun k hk e => ?_)⟩
    have e2 : some w.heap.size = some k := e
    cases e2; omega
end Go.Proofs.Ytijpiloljgpnkaa.Us
