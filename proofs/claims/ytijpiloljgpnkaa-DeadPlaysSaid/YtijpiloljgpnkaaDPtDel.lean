/- slices.DeleteFunc of pointers to tasks at the closure that asks for one pointer, which it has captured. -/
import Derived.Test.YtijpiloljgpnkaaDPtRow
import Derived.LaidEqlPtr
namespace Go.Proofs.Ytijpiloljgpnkaa.Pt
open Go.ChangeShapes Go.WideShapes Go.ChangeAt Go.RowKit Go.Shelf Go.Sort
set_option linter.unusedVariables false

/-- Is this a block of cells, in world w, and not g? -/
def There (w : World) (g x : Nat) : Prop := x ≠ g ∧ ∃ cs t, w.heap[x]? = some (.cells cs t (0, 0))

section
variable {P : Nat → Prop}
/-- A pointer to one of the blocks, or nil. -/
def po : Option {x // P x} → Value
  | none => .pointer none
  | some x => pt x.1
/-- Its block. -/
def bl (i : Option {x // P x}) : Option Nat := i.map (·.1)
end

theorem eq_same (w : World) (x : Nat) : (binOp .eql 34 (pt x) (pt x)).run Try.prog w = .ok (.bool true) w := by
  obtain ⟨j, hj⟩ : ∃ j, Try.prog.info? 38 = some j := ⟨(Try.prog.info? 38).get (by kernel_rfl), by kernel_rfl⟩
  exact run_eql_ptr_same w _ Try.underlying34 hj
theorem eq_other (w : World) (x y : Nat) (h : x ≠ y) (hx : ∃ cs t, w.heap[x]? = some (.cells cs t (0, 0))) (hy : ∃ cs t, w.heap[y]? = some (.cells cs t (0, 0))) : (binOp .eql 34 (pt x) (pt y)).run Try.prog w = .ok (.bool false) w := by
  obtain ⟨cs, t, hx⟩ := hx
  obtain ⟨cs', t', hy⟩ := hy
  have hi : (Try.prog.info? 38).map (fun i => i.size) = some 7 := by kernel_rfl
  cases hq : Try.prog.info? 38 with
  | none => rw [hq] at hi; cases hi
  | some j =>
    rw [hq] at hi
    simp only [Option.map_some, Option.some.injEq] at hi
    exact run_eql_ptr_other w Try.underlying34 hq (by rw [hi]; decide) (fun e => h (by injection e)) hx hy
theorem eq_nil_some (w : World) (y : Nat) : (binOp .eql 34 (.pointer none) (pt y)).run Try.prog w = .ok (.bool false) w := by
  have h : ∀ d : Nat, (Op.equalIn (d + 1) 34 (.pointer none) (pt y)).run Try.prog w = .ok false w := fun d => by
    simp [Op.equalIn, run_underlying Try.underlying34, pt]
  simp only [binOp]
  simp [Op.equal, Op.maxDepth, h 9999]

set_option maxRecDepth 100000 in
theorem asks_one {P : Nat → Prop} (x i : Option {x // P x}) (B : Nat) (W : World) (hP : ∀ x, P x → ∃ cs t, W.heap[x]? = some (.cells cs t (0, 0))) (hc : W.cell? ⟨B, 0, none⟩ = some (po i)) :
    FnGives Try.prog 16 #[.pointer (some ⟨B, 0, none⟩)] #[po x] (.bool (decide (bl x = bl i))) W := by
  show Calls Try.prog 16 #[po x, .pointer (some ⟨B, 0, none⟩)] W _
  cases x with
  | none =>
    cases i with
    | none =>
      unfold po bl at *
      clear hP
      go_enter Try.func16, Try.ntmps16
      go_wp2
      go_ret
      exact ⟨by simp, 0, rfl⟩
    | some i =>
      obtain ⟨i, hi⟩ := i
      have e := fun w => eq_nil_some w i
      unfold po bl at *
      unfold pt at *
      clear hP
      go_enter Try.func16, Try.ntmps16
      go_wp2
      go_ret
      exact ⟨by simp, 0, rfl⟩
  | some x =>
    obtain ⟨x, hx⟩ := x
    cases i with
    | none =>
      unfold po bl at *
      unfold pt at *
      clear hP
      go_enter Try.func16, Try.ntmps16
      go_wp2
      go_ret
      exact ⟨by simp, 0, rfl⟩
    | some i =>
      obtain ⟨i, hi⟩ := i
      by_cases h : x = i
      · subst h
        have e := fun w => eq_same w x
        unfold po bl at *
        unfold pt at *
        clear hP
        go_enter Try.func16, Try.ntmps16
        go_wp2
        go_ret
        exact ⟨by simp, 0, rfl⟩
      · have e := eq_other W x i h (hP x hx) (hP i hi)
        unfold po bl at *
        unfold pt at *
        clear hP
        go_enter Try.func16, Try.ntmps16
        go_wp2
        go_ret
        exact ⟨by simp, 0, rfl⟩

/-- The pointers but one. -/
def notOne (S : List Nat) (i : Option Nat) : List Nat := S.filter fun x => !decide (some x = i)

section
variable {P : Nat → Prop}
theorem filter_some (S : List {x // P x}) (i : Option {x // P x}) : ∃ R : List {x // P x}, (S.map some).filter (fun x => !decide (bl x = bl i)) = R.map some ∧ vals R = notOne (vals S) (bl i) := by
  refine ⟨S.filter (fun x => !decide (some x.1 = bl i)), ?_, ?_⟩
  · rw [List.filter_map]; rfl
  · unfold notOne vals
    rw [List.filter_map]; rfl

theorem holds_opt {w : World} {B g n c : Nat} {S : List {x // P x}} (h : RowAt w B (.slice (some ⟨g, 0, none⟩) n c) (vals S)) : Holds po w g 0 (S.map some).toArray := by
  rcases h.cases with ⟨h1, -⟩ | ⟨g', cap, h1, hb, h3, h4, ⟨cur, h2⟩, hc⟩
  · cases h1
  · cases h1
    intro j hj
    have hj2 : j < S.length := by simpa using hj
    rw [Nat.zero_add]
    refine ⟨?_, frozen_at h2 j⟩
    rw [hc j (by unfold vals; simpa using hj2), getElem!_pos _ j (by simpa using hj)]
    simp [List.getD, hj2, po, vals]

theorem row_opt {w : World} {B g n c m : Nat} {S R : List {x // P x}} {k : Nat} (h : RowAt w B (.slice (some ⟨g, 0, none⟩) n c) (vals S)) (hk : R.length + k = S.length) :
    RowAt (putRow po (Sort.ahead w m) g 0 (R.map some ++ List.replicate k none).toArray) B (.slice (some ⟨g, 0, none⟩) R.length c) (vals R) ∧ Only (· = g) w (putRow po (Sort.ahead w m) g 0 (R.map some ++ List.replicate k none).toArray) := by
  rcases h with ⟨hl, ⟨h1, _⟩ | ⟨g', cap, cur, h1, hb, h2, h3, h4, h5, h6⟩⟩
  · cases h1
  · cases h1
    have hvR : (vals R).length = R.length := by simp [vals]
    have hvS : (vals S).length = S.length := by simp [vals]
    have hblk : (putRow po (Sort.ahead w m) g 0 (R.map some ++ List.replicate k none).toArray).heap[g]? = some (.cells (putCells po 0 (R.map some ++ List.replicate k none).toArray cur) 34 (0, 0)) := by
      unfold putRow mapBlock
      show (w.heap.modify g _)[g]? = _
      rw [Array.getElem?_modify, if_pos rfl, h2]
      rfl
    have hsz : (putCells po 0 (R.map some ++ List.replicate k none).toArray cur).size = cur.size := by unfold putCells; simp
    refine ⟨⟨by simp, Or.inr ⟨g, c, _, by rw [hvR], hb, hblk, by omega, h4, by rw [hsz, h5], ?_⟩⟩, rfl, rfl, rfl, by rw [size_putRow]; exact Nat.le_refl _, fun k' hk' hne => ?_⟩
    · apply List.ext_getElem?
      intro t
      rw [List.getElem?_take]
      by_cases ht : t < (vals R).length * 1
      · rw [if_pos ht, Array.getElem?_toList]
        unfold putCells
        rw [Array.getElem?_mapIdx, Array.getElem?_eq_getElem (show t < cur.size by omega)]
        simp only [Option.map_some]
        have hlt : t < (R.map some ++ List.replicate k none).length := by simp; omega
        rw [if_pos ⟨Nat.zero_le _, by simp; omega⟩, Nat.sub_zero, getElem!_pos _ t (by simpa using hlt)]
        have ht2 : t < R.length := by omega
        simp [ht2, List.getElem_append_left, po, vals]
      · rw [if_neg ht, List.getElem?_eq_none (by simp; omega)]
    · unfold putRow mapBlock
      show (w.heap.modify g _)[k']? = _
      rw [Array.getElem?_modify, if_neg (Ne.symm hne)]
end

/-- What is known behind the deletion: only the row has changed. -/
def Struck (B : Nat) (S : List Nat) (i : Option Nat) (g : Nat) (w : World) (e : Ending) (w' : World) : Prop := ∃ n c, e = .returned (.slice (some ⟨g, 0, none⟩) n c) ∧ RowAt w' B (.slice (some ⟨g, 0, none⟩) n c) (notOne S i) ∧ Only (· = g) w w'

theorem delete_one (g n c : Nat) (i : Option Nat) (vi : Value) (Bx base : Nat) (S : List Nat) (w : World) (h : RowAt w base (.slice (some ⟨g, 0, none⟩) n c) S) (hn : n = S.length) (hB : Bx < w.heap.size) (hBg : Bx ≠ g)
    (hS : ∀ x ∈ S, There w g x) (hi : ∀ x, i = some x → There w g x) (hv : vi = match i with | none => .pointer none | some x => pt x) (hc : w.cell? ⟨Bx, 0, none⟩ = some vi) (hl : S.length ≤ 9223372036854775807) :
    Calls Try.prog 15 #[.slice (some ⟨g, 0, none⟩) n c, .func (.func 16) #[] #[.pointer (some ⟨Bx, 0, none⟩)]] w (Struck base S i g w) := by
  subst hn
  have eg : ∀ args w, (callFunc 16 args).run Try.prog w = .ok (.enter 16 args) w := enters_of Try.func16 (by kernel_rfl) rfl
  have hcap : S.length ≤ c := by
    rcases h.2 with ⟨h1, _⟩ | ⟨g', cap', cur, h1, _, _, h3, _⟩
    · cases h1
    · cases h1; exact h3
  obtain ⟨S', hS'⟩ : ∃ S' : List {x // There w g x}, S = vals S' := ⟨S.attach.map (fun x => ⟨x.1, hS x.1 x.2⟩), by unfold vals; simp [List.map_map, Function.comp_def]⟩
  obtain ⟨i', hi'⟩ : ∃ i' : Option {x // There w g x}, i = bl i' ∧ vi = po i' := by
    cases i with
    | none => exact ⟨none, rfl, hv⟩
    | some x => exact ⟨some ⟨x, hi x rfl⟩, rfl, hv⟩
  obtain ⟨rfl, rfl⟩ := hi'
  subst hS'
  have hvS : (vals S').length = S'.length := by simp [vals]
  have hH := holds_opt h
  have hp : PredAt Try.prog 16 #[.pointer (some ⟨Bx, 0, none⟩)] po (fun x : Option {x // There w g x} => decide (bl x = bl i')) w :=
    fun W x hb => asks_one x i' Bx W (fun y hy => by
      obtain ⟨-, cs, t, h1⟩ := hy
      exact ⟨cs, t, (hb.block y (block_there h1)).trans h1⟩) ((hb.cell (p := ⟨Bx, 0, none⟩) hB).trans hc)
  have hpo : PredOver Try.prog 16 #[.pointer (some ⟨Bx, 0, none⟩)] po (fun x : Option {x // There w g x} => decide (bl x = bl i')) g 0 (S'.map some).toArray.size w :=
    fun n os dk x _ => asks_one x i' Bx _ (fun y hy => by
      obtain ⟨h0, cs, t, h1⟩ := hy
      refine ⟨cs, t, ?_⟩
      unfold sortWorld
      rw [Sort.heap_grow_old _ os (by show y < (putRow _ _ _ _ _).heap.size; rw [size_putRow]; exact block_there h1)]
      unfold putRow mapBlock
      show (w.heap.modify g _)[y]? = _
      rw [Array.getElem?_modify, if_neg (Ne.symm h0)]
      exact h1) (by
      unfold sortWorld
      rw [cell?_grow _ _ _ (by show Bx < (putRow _ _ _ _ _).heap.size; rw [size_putRow]; exact hB), cell?_putRow_other _ _ g 0 _ _ (Or.inl hBg)]
      exact hc)
  have hcon := AnyE.slices_DeleteFunc delL po (fun x => by cases x <;> rfl) (fun x : Option {x // There w g x} => decide (bl x = bl i')) 16 #[.pointer (some ⟨Bx, 0, none⟩)] eg none Try.zeroValue34 g 0 c (S'.map some).toArray w hp hpo hH (by simp; omega) (by simp; omega)
  change Calls Try.prog 15 _ _ _ at hcon
  have e0 : (S'.map some).toArray.size = S'.length := by simp
  obtain ⟨R, he, hR⟩ := filter_some S' i'
  have et : (S'.map some).toArray.toList = S'.map some := by simp
  have hf : R.length ≤ S'.length := by
    have := List.length_filter_le (fun x => !decide (bl x = bl i')) (S'.map some)
    rw [he] at this; simpa using this
  rw [e0, et, he, List.length_map] at hcon
  rw [hvS]
  refine hcon.mono ?_
  rintro e w' ⟨rfl, q, rfl⟩
  have hr := row_opt (m := q) (R := R) (k := S'.length - R.length) h (by omega)
  rw [hR] at hr
  exact ⟨_, c, rfl, hr.1, hr.2⟩
end Go.Proofs.Ytijpiloljgpnkaa.Pt
