/- slices.SortFunc at the ids of a list of keys: the closure, the order, the contract. -/
import Derived.Test.YtonlhcebnbdjjaaTwo
import Derived.Shelf.SlSortCmp.NoneTotal
import Derived.Test.YtonlhcebnbdjjaaSlay
namespace Go.Proofs.Ytonlhcebnbdjjaa
open Go.ChangeShapes Go.WideShapes Go.ChangeAt Go.RowKit Go.Maps
set_option linter.unusedVariables false

/-- How two places of a list compare. -/
def cfF {n : Nat} (ks : List Int) (x y : Fin n) : Int := orv (cmpi (nth ks x) (nth ks y)) (cmpi x y)

/-- A place as a number. -/
def encF {n : Nat} (x : Fin n) : Value := .int .i64 (x.val : Int)

/-- A place with its key. -/
def pairOf {n : Nat} (ks : List Int) (x : Fin n) : Int × Int := ((x.val : Int), nth ks x)

theorem ltF {n : Nat} (ks : List Int) (x y : Fin n) : Go.Proofs.ltOf (cfF ks) x y = prec (pairOf ks x) (pairOf ks y) := orv_prec (pairOf ks x) (pairOf ks y)

theorem swoF {n : Nat} (ks : List Int) : Go.Sort.SWO (Go.Proofs.ltOf (cfF (n := n) ks)) where
  irrefl x := by rw [ltF]; exact prec_irrefl _
  trans x y z h1 h2 := by rw [ltF] at *; exact prec_trans h1 h2
  ntrans x y z h1 h2 := by rw [ltF] at *; exact le_trans' h2 h1

theorem totF {n : Nat} (ks : List Int) (x y : Fin n) (h1 : Go.Proofs.ltOf (cfF ks) x y = false) (h2 : Go.Proofs.ltOf (cfF ks) y x = false) : x = y := by
  rw [ltF] at h1 h2
  have a1 := of_decide_eq_false h1
  have a2 := of_decide_eq_false h2
  simp only [pairOf] at a1 a2
  apply Fin.ext
  omega

/-- What is known behind the closure: some blocks are new. -/
def Laid (w : World) (v : Int) (e : Ending) (w' : World) : Prop := e = .returned (.int .i64 v) ∧ ∃ q os, w' = Go.Sort.grow (w.drewN q) os

theorem laid_one (w : World) (o : Obj) : ∃ q os, (w.alloc o).drew = Go.Sort.grow (w.drewN q) os := ⟨1, #[o], by
  show _ = { (w.drewN 1) with heap := w.heap ++ #[o] }
  rw [← Array.push_eq_append]
  rfl⟩

set_option maxRecDepth 100000 in
theorem closure_any {n : Nat} (ks : List Int) (Bx b off cap : Nat) (x y : Fin n) (w : World) (hn : n ≤ 1000) (hbx : w.cell? ⟨Bx, 0, none⟩ = some (.slice (some ⟨b, off, none⟩) n cap)) (hc : ∀ j, j < n → w.cell? ⟨b, off + j, none⟩ = some (.int .i64 (nth ks j))) (hlt : Bx < w.heap.size) (hbl : b < w.heap.size) :
    Calls Try.prog 21 #[encF x, encF y, .pointer (some ⟨Bx, 0, none⟩)] w (Laid w (cfF ks x y)) := by
  obtain ⟨x, hx⟩ := x
  obtain ⟨y, hy⟩ := y
  have x0 := hc x hx
  have y0 := hc y hy
  have g1 : (x : Int) < n := by omega
  have g2 : (y : Int) < n := by omega
  have g3 : (0 : Int) ≤ x := by omega
  have g4 : (0 : Int) ≤ y := by omega
  clear hc
  unfold encF cfF
  simp only
  go_enter Try.func21, Try.ntmps21
  go_wp2_with fail
  go_region_held3 (fun w' => w'.cell? ⟨Bx, 0, none⟩ = some (.slice (some ⟨b, off, none⟩) n cap) ∧ w'.cell? ⟨b, off + x, none⟩ = some (.int .i64 (nth ks x)) ∧ w'.cell? ⟨b, off + y, none⟩ = some (.int .i64 (nth ks y))) (go_keep)
   (first
    | (go_at_call 23; refine (compare_any _ _ _).mono ?_; rintro e w' ⟨rfl, rfl⟩)
    | (go_at_call 22; refine (or_made _ _ _ _ (by simp)).mono ?_; rintro e w' ⟨rfl, rfl⟩))
  all_goals (go_wp2; go_ret; exact ⟨rfl, laid_one _ _⟩)

theorem sortWorld_other {α : Type} [Inhabited α] (enc : α → Value) (w : World) (blk off m : Nat) (dk : Array α) (os : Array Obj) {k : Nat} (hk : k < w.heap.size) (hne : k ≠ blk) : (sortWorld enc w blk off m dk os).heap[k]? = w.heap[k]? := by
  unfold sortWorld
  rw [Go.Sort.heap_grow_old]
  · unfold Go.Sort.putRow Go.Sort.mapBlock
    show (w.heap.modify blk _)[k]? = _
    rw [Array.getElem?_modify, if_neg (Ne.symm hne)]
  · unfold Go.Sort.putRow Go.Sort.mapBlock
    show k < (w.heap.modify blk _).size
    rw [Array.size_modify]; exact hk

theorem sortWorld_only {α : Type} [Inhabited α] (enc : α → Value) (w : World) (blk off m : Nat) (dk : Array α) (os : Array Obj) : Only (· = blk) w (sortWorld enc w blk off m dk os) := by
  refine ⟨rfl, rfl, rfl, ?_, fun k hk hne => sortWorld_other enc w blk off m dk os hk hne⟩
  show w.heap.size ≤ ((w.heap.modify blk _) ++ os).size
  rw [Array.size_append, Array.size_modify]; omega

/-- What is known behind the sort. -/
def SortAns {n : Nat} (ks : List Int) (BI : Nat) (d : List (Fin n)) (w : World) (e : Ending) (w' : World) : Prop :=
  e = .returned (.tuple #[]) ∧ ∃ R : List (Fin n), R.Perm d ∧ R.Pairwise (fun x y => prec (pairOf ks y) (pairOf ks x) = false) ∧ (∀ j (h : j < R.length), w'.cell? ⟨BI, j, none⟩ = some (encF R[j])) ∧ Only (· = BI) w w'

set_option maxRecDepth 100000 in
theorem sort_any {m : Nat} (ks : List Int) (BI Bx b off cap c : Nat) (d : List (Fin (m + 1))) (w : World) (hd : d.length = m + 1) (hm : m + 1 ≤ 1000)
    (hI : ∀ j (h : j < d.length), w.cell? ⟨BI, j, none⟩ = some (encF d[j]) ∧ w.frozen? ⟨BI, j, none⟩ = false) (hbx : w.cell? ⟨Bx, 0, none⟩ = some (.slice (some ⟨b, off, none⟩) (m + 1) cap)) (hc : ∀ j, j < m + 1 → w.cell? ⟨b, off + j, none⟩ = some (.int .i64 (nth ks j)))
    (h1 : BI < w.heap.size) (h2 : Bx < w.heap.size) (h3 : b < w.heap.size) (h4 : Bx ≠ BI) (h5 : b ≠ BI) :
    Calls Try.prog 20 #[.slice (some ⟨BI, 0, none⟩) (m + 1) c, .func (.func 21) #[] #[.pointer (some ⟨Bx, 0, none⟩)]] w (SortAns ks BI d w) := by
  have eg : ∀ args w, (callFunc 21 args).run Try.prog w = .ok (.enter 21 args) w := enters_of Try.func21 (by kernel_rfl) rfl
  have hH : Go.Sort.Holds (encF (n := m + 1)) w BI 0 d.toArray := by
    intro j hj
    have hj2 : j < d.length := by simpa using hj
    obtain ⟨q1, q2⟩ := hI j hj2
    rw [Nat.zero_add]
    refine ⟨?_, q2⟩
    rw [q1]
    congr 2
    rw [getElem!_pos _ j (by simpa using hj2)]
    simp
  have hcmp : CmpLays1 Try.prog 21 #[.pointer (some ⟨Bx, 0, none⟩)] (encF (n := m + 1)) (cfF ks) BI 0 d.toArray.size w := by
    intro q os dk _ x y
    have hO := sortWorld_only (encF (n := m + 1)) w BI 0 q dk os
    have e1 : ∀ (k j : Nat), k < w.heap.size → k ≠ BI → (sortWorld (encF (n := m + 1)) w BI 0 q dk os).cell? ⟨k, j, none⟩ = w.cell? ⟨k, j, none⟩ := by
      intro k j hk hne
      simp only [World.cell?, hO.block k hk hne]
    exact closure_any ks Bx b off cap x y _ hm ((e1 Bx 0 h2 h4).trans hbx) (fun j hj => (e1 b (off + j) h3 h5).trans (hc j hj)) (Nat.lt_of_lt_of_le h2 hO.size) (Nat.lt_of_lt_of_le h3 hO.size)
  have hS := Any.slices_SortFunc_total sortL (encF (n := m + 1)) (fun _ => rfl) (cfF ks) (swoF ks) 21 #[.pointer (some ⟨Bx, 0, none⟩)] BI 0 c d.toArray w eg hcmp hH h1 (by simp; omega) (totF ks)
  change Calls Try.prog 20 _ _ _ at hS
  have e0 : d.toArray.size = m + 1 := by simpa using hd
  rw [e0] at hS
  refine hS.mono ?_
  rintro e w' ⟨rfl, q, os, rfl⟩
  refine ⟨rfl, d.mergeSort (fun x y => !(ltOf (cfF ks) y x)), List.mergeSort_perm _ _, ?_, fun j hj => ?_, sortWorld_only _ _ _ _ _ _ _⟩
  · have hp := List.pairwise_mergeSort (le := fun x y => !(ltOf (cfF ks) y x)) (fun x y z a b => by
      simp only [Bool.not_eq_true'] at *
      exact (swoF ks).ntrans z y x b a) (fun x y => by
      simp only [Bool.or_eq_true, Bool.not_eq_true']
      rcases Bool.eq_false_or_eq_true (ltOf (cfF ks) y x) with h | h
      · right
        rcases Bool.eq_false_or_eq_true (ltOf (cfF ks) x y) with h' | h'
        · have := (swoF ks).trans x y x h' h
          rw [(swoF ks).irrefl] at this; cases this
        · exact h'
      · exact Or.inl h) d
    refine hp.imp fun {x y} h => ?_
    simp only [Bool.not_eq_true'] at h
    rwa [ltF] at h
  · have hh := holds_sortWorld (encF (n := m + 1)) w BI 0 q d.toArray (d.mergeSort (fun x y => !(ltOf (cfF ks) y x))).toArray os h1 hH (by simp)
    obtain ⟨h6, -⟩ := hh j (by simpa using hj)
    rw [Nat.zero_add] at h6
    refine h6.trans ?_
    congr 2
    rw [getElem!_pos _ j (by simpa using hj)]
    simp
end Go.Proofs.Ytonlhcebnbdjjaa
