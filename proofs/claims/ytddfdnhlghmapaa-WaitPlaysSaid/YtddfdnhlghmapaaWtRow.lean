/- Rows of wait.waiter. -/
import Derived.Test.YtddfdnhlghmapaaFlat
import Derived.Test.YtddfdnhlghmapaaRow
import Derived.Deep.RegionLaw
import Derived.Lib.SliceRun
import Derived.Deep.AppendLies
namespace Go.Proofs.Ytddfdnhlghmapaa.Wt
open Go.ChangeShapes Go.WideShapes Go.ChangeAt Go.RowKit

set_option linter.unusedVariables false

theorem Try.infoElem : (Try.prog.info? 81).map (fun i => (i.zero, i.size, i.bytes)) = some (some (.agg #[.int .i64 0, .bool false]), 2, 16) := by kernel_rfl

/-- The cells of one element. -/
def enc (x : Int × Bool) : List Value := [.int .i64 x.1, .bool x.2]

theorem enc_len (x : Int × Bool) : (enc x).length = 2 := rfl
theorem enc_one (x : Int × Bool) : ∀ u ∈ enc x, u.oneCell' = true := by intro u hu; simp [enc] at hu; rcases hu with rfl | rfl <;> rfl

/-- A row of the call's own, from block B on. -/
def RowAt (w : World) (B : Nat) (V : Value) (S : List (Int × Bool)) : Prop := w.ownsRow B 81 2 V S.length (flat enc S)

theorem row_nil (w : World) (B : Nat) : RowAt w B (.slice none 0 0) [] := World.ownsRow_nil w B 81 2

theorem RowAt.cases {w : World} {B : Nat} {V : Value} {S : List (Int × Bool)} (h : RowAt w B V S) : (V = .slice none 0 0 ∧ S = []) ∨
    ∃ g cap, V = .slice (some ⟨g, 0, none⟩) S.length cap ∧ B ≤ g ∧ S.length ≤ cap ∧ cap ≤ 9223372036854775807 ∧ (∃ cur, w.heap[g]? = some (.cells cur 81 (0, 0))) ∧ ∀ i, i < S.length → w.cell? ⟨g, i * 2, none⟩ = some (.int .i64 (S.getD i (0, false)).1) ∧ w.cell? ⟨g, i * 2 + 1, none⟩ = some (.bool (S.getD i (0, false)).2) := by
  rcases h with ⟨hl, ⟨rfl, h0⟩ | ⟨g, cap, cur, rfl, hb, h2, h3, h4, h5, h6⟩⟩
  · exact Or.inl ⟨rfl, List.eq_nil_of_length_eq_zero h0⟩
  · refine Or.inr ⟨g, cap, rfl, hb, h3, by unfold maxLen at h4; omega, ⟨cur, h2⟩, fun i hi => ?_⟩
    have hm := mul_lt (k := 2) hi
    have hcell : ∀ j, j < 2 → w.cell? ⟨g, i * 2 + j, none⟩ = (enc (S.getD i (0, false)))[j]? := fun j hj => by
      rw [cell_at h2, ← Array.getElem?_toList]
      have := flat_at enc_len S i j hi hj
      rw [← h6, List.getElem?_take_of_lt (by omega)] at this
      rw [this]
      simp [List.getD, hi]
    exact ⟨hcell 0 (by decide), hcell 1 (by decide)⟩

theorem RowAt.later {w w' : World} {B : Nat} {V : Value} {S : List (Int × Bool)} (h : RowAt w B V S) (hO : Only (fun _ => False) w w') : RowAt w' B V S := owns_kept h hO (fun _ _ e => e)
theorem RowAt.keep {N : Nat → Prop} {w w' : World} {B : Nat} {V : Value} {S : List (Int × Bool)} (h : RowAt w B V S) (hO : Only N w w') (hN : ∀ g, V.ownBlock = some g → ¬ N g) : RowAt w' B V S := owns_kept h hO hN
theorem RowAt.base {w : World} {B B' : Nat} {V : Value} {S : List (Int × Bool)} (h : RowAt w B V S) (hb : B' ≤ B) : RowAt w B' V S := owns_base h hb
theorem RowAt.block {w : World} {B : Nat} {V : Value} {S : List (Int × Bool)} (h : RowAt w B V S) {g : Nat} (hg : V.ownBlock = some g) : B ≤ g ∧ g < w.heap.size := h.lt g hg
theorem RowAt.type {w : World} {B : Nat} {V : Value} {S : List (Int × Bool)} (h : RowAt w B V S) {g : Nat} (hg : V.ownBlock = some g) : ∃ cur, w.heap[g]? = some (.cells cur 81 (0, 0)) := owns_type h hg

theorem RowAt.shape {w : World} {B : Nat} {V : Value} {S : List (Int × Bool)} (h : RowAt w B V S) {n : Nat} (hn : S.length = n) : ∃ a c, V = .slice a n c ∧ n ≤ c ∧ c ≤ 9223372036854775807 ∧ (a = none → c = 0) := by
  subst hn
  rcases h.cases with ⟨rfl, rfl⟩ | ⟨g, cap, rfl, -, h1, h2, -⟩
  · exact ⟨none, 0, rfl, Nat.le_refl _, by omega, fun _ => rfl⟩
  · exact ⟨_, cap, rfl, h1, h2, fun e => by cases e⟩

theorem RowAt.at_block {w : World} {B : Nat} {V : Value} {S : List (Int × Bool)} (h : RowAt w B V S) {n : Nat} (hn : S.length = n) (h0 : 0 < n) : ∃ g c, V = .slice (some ⟨g, 0, none⟩) n c ∧ B ≤ g ∧ g < w.heap.size ∧ n ≤ c ∧ c ≤ 9223372036854775807 ∧ RowAt w B (.slice (some ⟨g, 0, none⟩) n c) S := by
  subst hn
  rcases h.cases with ⟨rfl, rfl⟩ | ⟨g, cap, rfl, hb, h1, h2, ⟨cur, h3⟩, -⟩
  · simp at h0
  · exact ⟨g, cap, rfl, hb, block_there h3, h1, h2, h⟩

theorem RowAt.cell {w : World} {B g n c : Nat} {S : List (Int × Bool)} (h : RowAt w B (.slice (some ⟨g, 0, none⟩) n c) S) {i : Nat} (hi : i < S.length) : w.cell? ⟨g, i * 2, none⟩ = some (.int .i64 (S.getD i (0, false)).1) ∧ w.cell? ⟨g, i * 2 + 1, none⟩ = some (.bool (S.getD i (0, false)).2) := by
  rcases h.cases with ⟨h1, -⟩ | ⟨g', cap', h1, -, -, -, -, h2⟩
  · cases h1
  · cases h1; exact h2 i hi

theorem lim_of {n : Nat} (h : n ≤ 8796093022144) : n ≤ maxLen ∧ n * 16 ≤ 140737488355328 := by unfold maxLen; omega

/-- append(a, b..): one more element, which lies in a block of its own. -/
theorem append_row {w : World} {ops : Array Oper} {rest : List Oper} {o : Oper} {a : Act} {Q : Exit → Act → World → Prop} (hgd : o.guard = none) (s x : Operand)
    (ho : o.op = .call { callee := .builtin .append, args := #[s, x], argTypes := #[74, 74] })
    (base b c : Nat) (v : Value) (S : List (Int × Bool)) (y : Int × Bool) (hs : a.eval s = v) (hx : a.eval x = .slice (some ⟨b, 0, none⟩) 1 c) (hown : RowAt w base v S) (hb : w.heap[b]? = some (.cells (enc y).toArray 81 (0, 0)))
    (hn : S.length + 1 ≤ 8796093022144) (hbase : base ≤ w.heap.size)
    (h : ∀ v' w', RowAt w' base v' (S ++ [y]) → Only (fun k => v.ownBlock = some k) w w' → (∀ k, v'.ownBlock = some k → v.ownBlock = some k ∨ w.heap.size ≤ k) → wpList Try.prog ops Q rest (a.put o.dst v') w') : wpList Try.prog ops Q (o :: rest) a w := by
  obtain ⟨i0, hi, hz0, hz1, hz2⟩ := info_parts Try.infoElem
  refine wpList_append_lies w hgd s x 74 ho base 81 i0 (.agg #[.int .i64 0, .bool false]) 2 16 Try.underlying74 hi hz0 hz1 hz2 rfl (by decide) v S.length (flat enc S) hs hown ⟨b, 0, none⟩ 1 c (enc y) hx (by rw [enc_len]) ?_ (enc_one y) Nat.one_pos (lim_of hn).1 (lim_of hn).2 hbase _ rfl ?_
  · intro j u hj
    rw [add_plain, cell_at hb, Nat.zero_add, ← Array.getElem?_toList]
    exact hj
  · intro g' cap' w' hown' hg hat _
    refine h _ w' ?_ (Only.of_grown hg (fun k hk => hk)) (fun k hk => by cases hk; exact hat.imp_right (fun e => by rw [e]; exact Nat.le_refl _))
    unfold RowAt
    rw [List.length_append, flat_append, flat_one]
    exact hown'

/-- append(a, b..): all elements of another row. -/
theorem append_rows {w : World} {ops : Array Oper} {rest : List Oper} {o : Oper} {a : Act} {Q : Exit → Act → World → Prop} (hgd : o.guard = none) (s x : Operand)
    (ho : o.op = .call { callee := .builtin .append, args := #[s, x], argTypes := #[74, 74] })
    (base base' : Nat) (v vx : Value) (S Z : List (Int × Bool)) (hs : a.eval s = v) (hx : a.eval x = vx) (hown : RowAt w base v S) (hr : RowAt w base' vx Z)
    (hn : S.length + Z.length ≤ 8796093022144) (hbase : base ≤ w.heap.size)
    (h : ∀ v' w', RowAt w' base v' (S ++ Z) → Only (fun k => v.ownBlock = some k) w w' → wpList Try.prog ops Q rest (a.put o.dst v') w') : wpList Try.prog ops Q (o :: rest) a w := by
  obtain ⟨i0, hi, hz0, hz1, hz2⟩ := info_parts Try.infoElem
  rcases hr with ⟨hl, ⟨rfl, h0⟩ | ⟨g, cap, cur, rfl, hb, h2, h3, h4, h5, h6⟩⟩
  · have hz : Z = [] := List.eq_nil_of_length_eq_zero h0
    subst hz
    refine wpList_append_own_none hgd s x 74 ho base 81 i0 2 Try.underlying74 hi v S.length (flat enc S) hs hown hx ?_
    exact h v w (by rw [List.append_nil]; exact hown) (Only.refl _ w)
  · refine wpList_append_own w hgd s x 74 ho base 81 i0 (.agg #[.int .i64 0, .bool false]) 2 16 Try.underlying74 hi hz0 hz1 hz2 rfl (by decide) v S.length (flat enc S) hs hown ⟨g, 0, none⟩ Z.length cap (flat enc Z) hx (flat_len enc_len Z) ?_ (flat_cells enc_one Z) (lim_of hn).1 (lim_of hn).2 hbase ?_
    · intro j u hj
      have hlt := (List.getElem?_eq_some_iff.1 hj).1
      rw [flat_len enc_len] at hlt
      rw [add_plain, cell_at h2, Nat.zero_add, ← Array.getElem?_toList]
      rw [← h6, List.getElem?_take_of_lt hlt] at hj
      exact hj
    · intro v' w' hown' hg _
      refine h v' w' ?_ (Only.of_grown hg (fun k hk => hk))
      unfold RowAt
      rw [List.length_append, flat_append]
      exact hown'

theorem run_clear (w : World) (ty : TypeId) (b o c : Nat) (hc : ∀ j, j < 2 → (w.cell? ⟨b, o + j, none⟩).isSome = true) (hf : ∀ j, j < 2 → w.frozen? ⟨b, o + j, none⟩ = false) :
    (Builtin.clear_ #[74] ty #[.slice (some ⟨b, o, none⟩) 1 c]).run Try.prog w = .ok (.tuple #[]) (w.setCells b o [.int .i64 0, .bool false]) := by
  have hst := run_storeCells_cells (P := Try.prog) b o [.int .i64 0, .bool false] 0 w (by simpa using hc) (by simpa using hf) (by intro v hv'; simp at hv'; rcases hv' with rfl | rfl <;> rfl)
  simp only [Nat.add_zero] at hst
  have hzc : (Builtin.zeroCells (Value.agg #[.int .i64 0, .bool false]).cells 1).toList = [.int .i64 0, .bool false] := by
    simp [Builtin.zeroCells, Value.cells]
    rfl
  obtain ⟨i0, hi, hz0, hz1, hz2⟩ := info_parts Try.infoElem
  have hze : ∀ w, (zeroValue 81).run Try.prog w = .ok (.agg #[.int .i64 0, .bool false]) w := fun w => by simp [zeroValue, typeInfo, hi, hz0]
  simp [Builtin.clear_, run_underlying Try.underlying74, hzc, hst]

/-- What is known behind Delete. -/
def Deleted (lo g m cap i : Nat) (S : List (Int × Bool)) (w : World) (e : Ending) (w' : World) : Prop :=
  e = .returned (.slice (some ⟨g, 0, none⟩) m cap) ∧ RowAt w' lo (.slice (some ⟨g, 0, none⟩) m cap) (S.eraseIdx i) ∧ Only (· = g) w w'

set_option maxRecDepth 100000 in
set_option maxHeartbeats 1000000 in
theorem delete_row (lo g m cap i : Nat) (S : List (Int × Bool)) (w : World) (hown : RowAt w lo (.slice (some ⟨g, 0, none⟩) (m + 1) cap) S) (hS : S.length = m + 1) (hi : i < m + 1) (hb : m ≤ 6000000000000) :
    Calls Try.prog 60 #[.slice (some ⟨g, 0, none⟩) (m + 1) cap, .int .i64 i, .int .i64 ((i : Int) + 1)] w (Deleted lo g m cap i S w) := by
  obtain ⟨i0, hi0, hz0, hz1, hz2⟩ := info_parts Try.infoElem
  unfold RowAt at hown
  rw [hS] at hown
  rcases hown with ⟨hlen, ⟨h1, _⟩ | ⟨g', cap', cur, h1, hlo, hg, hnc, hcm, hcs, htake⟩⟩
  · cases h1
  · cases h1
    have hcapm : cap ≤ 9223372036854775807 := by unfold maxLen at hcm; omega
    have hself : w.drew.heap[g]? = some (.cells cur 81 (0, 0)) := hg
    have hel : (S.eraseIdx i).length = m := by rw [List.length_eraseIdx, if_pos (by omega)]; omega
    obtain ⟨c1, hh1, hs1, ht1, hO1⟩ := heap_setCells (flat enc (S.drop (i + 1))) (0 + i * 2) w.drew cur hself
    obtain ⟨W1, hW1⟩ : ∃ W1, W1 = w.drew.setCells g (0 + i * 2) (flat enc (S.drop (i + 1))) := ⟨_, rfl⟩
    rw [← hW1] at hh1 hO1
    obtain ⟨c2, hh2, hs2, ht2, hO2⟩ := heap_setCells [.int .i64 0, .bool false] (m * 2) W1 c1 hh1
    have hcl : ∀ ty, (Builtin.clear_ #[74] ty #[.slice (some ⟨g, m * 2, none⟩) 1 (cap - m)]).run Try.prog W1 = .ok (.tuple #[]) (W1.setCells g (m * 2) [.int .i64 0, .bool false]) := by
      intro ty
      refine run_clear _ ty g _ _ (fun j hj => ?_) (fun j hj => frozen_at hh1 _)
      rw [cell_at hh1]
      simp; omega
    have HF := Lib.hid (show Deleted lo g m cap i S w (.returned (.slice (some ⟨g, 0, none⟩) m cap)) (W1.setCells g (m * 2) [.int .i64 0, .bool false]) from by
      refine ⟨rfl, ?_, ((Only.refl _ w).drew.trans hO1 (fun _ _ h => h)).trans hO2 (fun _ _ h => h)⟩
      unfold RowAt
      rw [hel]
      refine ⟨by rw [flat_len enc_len, hel], Or.inr ⟨g, cap, c2, rfl, hlo, hh2, by omega, hcm, by omega, ?_⟩⟩
      rw [ht2, ht1, Nat.zero_add]
      exact flat_erased enc_len _ rfl hS hi (by rw [Array.length_toList, hcs]; omega) htake)
    have s1 : Hid ((flat enc (S.drop (i + 1))).length = (m - i) * 2) := by show _ = _; rw [flat_len enc_len]; simp; omega
    have s2 : Hid (∀ u ∈ flat enc (S.drop (i + 1)), u.oneCell' = true) := flat_cells enc_one _
    have s3 : Hid (∀ j, j < (flat enc (S.drop (i + 1))).length → (w.drew.cell? ⟨g, 0 + i * 2 + j, none⟩).isSome = true ∧ w.drew.frozen? ⟨g, 0 + i * 2 + j, none⟩ = false) := by
      intro j hj
      have := s1.out
      refine ⟨?_, frozen_at hself _⟩
      rw [cell_at hself]
      simp; omega
    obtain ⟨A, hA, hsrc⟩ : ∃ A : Addr, (if cap = i + 1 then some (⟨g, 0, none⟩ : Addr) else some ⟨g, (i + 1) * 2, none⟩) = some A ∧ Hid (∀ j u, (flat enc (S.drop (i + 1)))[j]? = some u → w.drew.cell? (A.add j) = some u) := by
      by_cases h : cap = i + 1
      · refine ⟨⟨g, 0, none⟩, by rw [if_pos h], fun j u hu => ?_⟩
        have := (List.getElem?_eq_some_iff.1 hu).1
        have := s1.out
        omega
      · refine ⟨⟨g, (i + 1) * 2, none⟩, by rw [if_neg h], fun j u hu => ?_⟩
        have hj := (List.getElem?_eq_some_iff.1 hu).1
        have := s1.out
        have hsl := flat_len enc_len S
        rw [add_plain, cell_at hself]
        rw [← flat_drop enc_len, List.getElem?_drop, ← htake, List.getElem?_take_of_lt (by omega)] at hu
        simpa using hu
    have hW : Hid (W1 = w.drew.setCells g (0 + i * 2) (flat enc (S.drop (i + 1)))) := hW1
    clear hlen hg hcs htake hcm hself hh1 hs1 ht1 hO1 hW1 hh2 hs2 ht2 hO2 hS hel hz0 hz2
    generalize flat enc (S.drop (i + 1)) = news at *
    have e1 : (i : Int) + 1 ≤ (m : Int) + 1 := by omega
    have e2 : (i : Int) ≤ (m : Int) + 1 := by omega
    have e3 : ((i : Int) == (i : Int) + 1) = false := by simp; omega
    have e4 : ((i : Int) + 1).toNat = i + 1 := by omega
    have e5 : (0 : Int) ≤ (i : Int) + 1 := by omega
    have e6 : i ≤ m + 1 := by omega
    have e7 : i + 1 ≤ m + 1 := by omega
    have e8 : i ≤ cap := by omega
    go_enter Try.func60, Try.ntmps60
    go_wp2_with fail
    go_region_law (refine step_append_room rfl (.tmp 22) (.tmp 25) 74 rfl 81 i0 2 Try.underlying74 hi0 hz1 g 0 i cap (by simp [Act.eval, Act.put]) A (m - i) (cap - (i + 1)) news (by simp [Act.eval, Act.put]) s1.out hsrc.out s2.out (by omega) s3.out ?_; rw [← hW.out, show i + (m - i) = m from by omega])
    go_wp2
    go_ret
    exact HF.out

/-- Where a row has an element of which p holds; -1: nowhere. -/
def Found (S : List (Int × Bool)) (p : Int × Bool → Bool) (r : Int) : Prop := (r = -1 ∧ ∀ x ∈ S, p x = false) ∨ ∃ i : Nat, r = i ∧ i < S.length ∧ p (S.getD i (0, false)) = true

def FoundAns (S : List (Int × Bool)) (p : Int × Bool → Bool) (w : World) (e : Ending) (w' : World) : Prop := ∃ r, e = .returned (.int .i64 r) ∧ Found S p r ∧ Below w.heap.size w w'

theorem asks_is {f : Nat} {args : Array Value} {w : World} {b v : Bool} (h : Calls Try.prog f args w (fun e w' => e = .returned (.bool b) ∧ Below w.heap.size w w')) (hv : b = v) :
    Calls Try.prog f args w (fun e w' => e = .returned (.bool v) ∧ Below w.heap.size w w') := by subst hv; exact h

set_option maxRecDepth 100000 in
set_option maxHeartbeats 1000000 in
theorem index_one (Bx lo : Nat) (V : Value) (S : List (Int × Bool)) (p : Int × Bool → Bool) (w : World) (h : RowAt w lo V S)
    (hask : ∀ (x : Int × Bool) (W : World), Below w.heap.size w W → Calls Try.prog 108 #[.agg #[.int .i64 x.1, .bool x.2], .pointer (some ⟨Bx, 0, none⟩)] W (fun e W' => e = .returned (.bool (p x)) ∧ Below W.heap.size W W')) :
    Calls Try.prog 107 #[V, .func (.func 108) #[] #[.pointer (some ⟨Bx, 0, none⟩)]] w (FoundAns S p w) := by
  rcases h.cases with ⟨rfl, rfl⟩ | ⟨g, cap, rfl, -, hcap, hmx, ⟨cur, hcur⟩, hc⟩
  · go_enter Try.func107, Try.ntmps107
    go_wp2
    refine wp_loop_rounds 1 ?_
    rw [rounds_succ]
    go_wp2
    go_ret
    exact ⟨-1, rfl, Or.inl ⟨rfl, fun x hx => absurd hx (by simp)⟩, Below.refl _ _⟩
  · have HASK := Lib.hid hask
    have HC := Lib.hid hc
    have hgl := block_there hcur
    clear h hask hc hcur
    have hlen : S.length ≤ 9223372036854775807 := by omega
    go_enter Try.func107, Try.ntmps107
    go_wp2_with fail
    go_loopw [8] (fun v wr => ∃ j : Nat, v = .int .i64 j ∧ j ≤ S.length ∧ (∀ k, k < j → p (S.getD k (0, false)) = false) ∧ Below w.heap.size w wr) (fun v _ => S.length - (intOf v).toNat)
    case atStart => exact ⟨0, rfl, Nat.zero_le _, fun k hk => absurd hk (Nat.not_lt_zero _), Below.refl _ _⟩
    case round =>
      obtain ⟨j, rfl, hj, hno, hb⟩ := hrel
      have HN := Lib.hid hno
      have HB := Lib.hid hb
      clear hno hb
      by_cases hjn : j < S.length
      · have g1 : (j : Int) < S.length := by omega
        have g2 : (0 : Int) ≤ j := by omega
        have hcj := HC.out j hjn
        have x0 := (HB.out.cell (p := ⟨g, j * 2, none⟩) hgl).trans hcj.1
        have x1 := (HB.out.cell (p := ⟨g, j * 2 + 1, none⟩) hgl).trans hcj.2
        clear hcj
        obtain ⟨y, hy⟩ : ∃ y, S.getD j (0, false) = y := ⟨_, rfl⟩
        rw [hy] at x0 x1
        have HY := Lib.hid hy
        clear hy
        have HA := Lib.hid (HASK.out y wr HB.out)
        rcases Bool.eq_false_or_eq_true (p y) with hv | hv
        · go_wp2_with (go_at_call 108; go_must (have hc := asks_is HA.out hv); (with_reducible refine hc.mono ?_); clear hc; rintro e w6 ⟨rfl, hb6⟩; have HB6 := Lib.hid (HB.out.trans (hb6.mono HB.out.size)); clear hb6)
          go_ret
          exact ⟨j, rfl, Or.inr ⟨j, rfl, hjn, by rw [HY.out]; exact hv⟩, HB6.out⟩
        · have hne : ∀ k, k < j + 1 → p (S.getD k (0, false)) = false := fun k hk => by
            by_cases e : k = j
            · subst e; rw [HY.out]; exact hv
            · exact HN.out k (by omega)
          have HNE := Lib.hid hne
          clear hne
          go_wp2_with (go_at_call 108; go_must (have hc := asks_is HA.out hv); (with_reducible refine hc.mono ?_); clear hc; rintro e w6 ⟨rfl, hb6⟩; have HB6 := Lib.hid (HB.out.trans (hb6.mono HB.out.size)); clear hb6)
          go_roundw
          case rel => exact ⟨j + 1, by go_num, by omega, HNE.out, HB6.out⟩
          case measure => simp [intOf]; omega
      · have e : j = S.length := by omega
        subst e
        go_wp2_with fail
        go_ret
        exact ⟨-1, rfl, Or.inl ⟨rfl, fun x hx => by
          obtain ⟨k, hk, rfl⟩ := List.getElem_of_mem hx
          have := HN.out k hk
          simpa [List.getD, hk] using this⟩, HB.out⟩
end Go.Proofs.Ytddfdnhlghmapaa.Wt
