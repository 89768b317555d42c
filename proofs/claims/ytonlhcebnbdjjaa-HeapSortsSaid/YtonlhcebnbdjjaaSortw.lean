/- The walk of HeapSorts. -/
import Derived.Test.YtonlhcebnbdjjaaSort1
import Derived.Deep.OwnRows
namespace Go.Proofs.Ytonlhcebnbdjjaa
open Go.ChangeShapes Go.WideShapes Go.ChangeAt Go.RowKit Go.Maps
set_option linter.unusedVariables false

/-- A row of numbers as a block's cells. -/
def rowOf (l : List Int) : Obj := .cells (l.map (Value.int .i64)).toArray 3 (0, 0)

theorem made_row (n : Nat) : Obj.cells (madeCells #[.int .i64 0] n) 3 = rowOf (List.replicate n 0) := by
  unfold rowOf
  congr 1
  apply Array.ext
  · simp [madeCells]
  · intro i h1 h2
    simp [madeCells, Nat.mod_one]

theorem Try.info3' : (Try.prog.info? 3).map (fun i => (i.zero, i.size, i.bytes)) = some (some (.int .i64 0), 1, 8) := by kernel_rfl

/-- A heap, a box with a slice, a row of numbers, that have nothing to do with each other. -/
def Bench (B : Nat) (w : World) (p Bx BI : Nat) (V : Value) (l : List Int) (S : List (Int × Int)) : Prop :=
  ∃ M : Nat → Prop, HeapAt M w p S ∧ w.heap[Bx]? = some (.cells #[V] 39 (0, 0)) ∧ w.heap[BI]? = some (rowOf l) ∧ ¬ M Bx ∧ ¬ M BI ∧ Bx ≠ BI ∧ B ≤ Bx ∧ B ≤ BI ∧ ∀ k, M k → B ≤ k

def BAns (B : Nat) (w : World) (p Bx BI : Nat) (V v : Value) (l : List Int) (S : List (Int × Int)) (e : Ending) (w' : World) : Prop :=
  e = .returned v ∧ Bench B w' p Bx BI V l S ∧ Below B w w'

section
variable {B : Nat} {w w' : World} {p Bx BI : Nat} {V : Value} {l : List Int} {S : List (Int × Int)}

theorem bench_heap {f : Nat} {args : Array Value} {v : Value} {S' : List (Int × Int)} (h : Bench B w p Bx BI V l S) (hc : ∀ M, HeapAt M w p S → Calls Try.prog f args w (HAns M w p v S')) :
    Calls Try.prog f args w (BAns B w p Bx BI V v l S') := by
  obtain ⟨M, h1, h2, h3, h4, h5, h6, h7, h8, h9⟩ := h
  have b1 := block_there h2
  have b2 := block_there h3
  refine (hc M h1).mono ?_
  rintro e w' ⟨rfl, ha, hO⟩
  refine ⟨rfl, ⟨_, ha, (hO.block _ b1 h4).trans h2, (hO.block _ b2 h5).trans h3, ?_, ?_, h6, h7, h8, ?_⟩, hO.below (by omega) h9⟩
  · rintro (e | e)
    · exact h4 e
    · omega
  · rintro (e | e)
    · exact h5 e
    · omega
  · rintro k (e | e)
    · exact h9 k e
    · omega

/-- The row turned, and nothing else. -/
theorem Bench.turned {l' : List Int} (h : Bench B w p Bx BI V l S) (hO : Only (· = BI) w w') (hI : w'.heap[BI]? = some (rowOf l')) : Bench B w' p Bx BI V l' S ∧ Below B w w' := by
  obtain ⟨M, h1, h2, h3, h4, h5, h6, h7, h8, h9⟩ := h
  have b1 := block_there h2
  exact ⟨⟨M, h1.keep hO (fun k _ hk e => h5 (e ▸ hk)), (hO.block _ b1 h6).trans h2, hI, h4, h5, h6, h7, h8, h9⟩, hO.below (by omega) (fun k e => by omega)⟩

theorem Bench.later (h : Bench B w p Bx BI V l S) (hO : Only (fun _ => False) w w') : Bench B w' p Bx BI V l S := by
  obtain ⟨M, h1, h2, h3, h4⟩ := h
  exact ⟨M, h1.later hO, (hO.block _ (block_there h2) (fun e => e)).trans h2, (hO.block _ (block_there h3) (fun e => e)).trans h3, h4⟩

theorem Bench.put (h : Bench B w p Bx BI V l S) (i : Nat) (v : Int) : Bench B (w.setCell ⟨BI, i, none⟩ (.int .i64 v)) p Bx BI V (l.set i v) S ∧ Below B w (w.setCell ⟨BI, i, none⟩ (.int .i64 v)) := by
  obtain ⟨M, h1, h2, h3, h4⟩ := id h
  refine h.turned (Only.setCell (S := fun x => x = BI) (Only.refl _ w) (p := ⟨BI, i, none⟩) rfl _) ?_
  rw [heap_setCell_same w BI i _ 3 _ h3]
  unfold rowOf
  simp [List.map_set]

theorem Bench.box (h : Bench B w p Bx BI V l S) : w.cell? ⟨Bx, 0, none⟩ = some V := by
  obtain ⟨M, h1, h2, h3⟩ := h
  rw [cell_at h2]; rfl
theorem Bench.at (h : Bench B w p Bx BI V l S) {i : Nat} (hi : i < l.length) : w.cell? ⟨BI, i, none⟩ = some (.int .i64 (nth l i)) ∧ w.frozen? ⟨BI, i, none⟩ = false := by
  obtain ⟨M, h1, h2, h3, h4⟩ := h
  refine ⟨?_, frozen_at h3 i⟩
  rw [cell_at h3]
  simp [nth, List.getD, hi]
theorem Bench.perm {T : List (Int × Int)} (h : Bench B w p Bx BI V l S) (hT : S.Perm T) : Bench B w p Bx BI V l T := by
  obtain ⟨M, h1, h2⟩ := h
  exact ⟨M, h1.perm hT, h2⟩
theorem bench_len (h : Bench B w p Bx BI V l S) : Calls Try.prog 10 #[.pointer (some ⟨p, 0, none⟩)] w fun e w' => e = .returned (.int .i64 S.length) ∧ w = w' := by
  obtain ⟨M, h1, h2⟩ := h
  exact hlen h1
end

/-- The place that comes after some others when one starts at t. -/
def rot (n t j : Nat) : Nat := (j + t) % n

theorem rot_inj {n t i j : Nat} (hi : i < n) (hj : j < n) (h : rot n t i = rot n t j) : i = j := by
  unfold rot at h
  rcases Nat.lt_trichotomy i j with hlt | heq | hgt
  · have h1 := Nat.sub_mod_eq_zero_of_mod_eq h.symm
    rw [show j + t - (i + t) = j - i by omega, Nat.mod_eq_of_lt (by omega)] at h1
    omega
  · exact heq
  · have h1 := Nat.sub_mod_eq_zero_of_mod_eq h
    rw [show i + t - (j + t) = i - j by omega, Nat.mod_eq_of_lt (by omega)] at h1
    omega

/-- The ids that have been pushed, and those that have not. -/
def rots (n t j : Nat) : List Int := (List.range n).map fun (i : Nat) => if i < j then ((rot n t i : Nat) : Int) else 0
def pushedUp (ks : List Int) (n t j : Nat) : List (Int × Int) := (List.range j).map fun (i : Nat) => (((rot n t i : Nat) : Int), nth ks (rot n t i))

theorem rots_zero (n t : Nat) : rots n t 0 = List.replicate n 0 := by
  apply List.ext_getElem <;> simp [rots]
theorem rots_len (n t j : Nat) : (rots n t j).length = n := by simp [rots]
theorem rots_set {n t j : Nat} (hj : j < n) : (rots n t j).set j ((rot n t j : Nat) : Int) = rots n t (j + 1) := by
  apply List.ext_getElem
  · simp [rots]
  · intro i h1 h2
    simp only [rots, List.getElem_set, List.getElem_map, List.getElem_range]
    by_cases e : j = i
    · subst e; simp
    · rw [if_neg e]
      by_cases h : i < j
      · rw [if_pos h, if_pos (by omega)]
      · rw [if_neg h, if_neg (by omega)]
theorem rots_at {n t j i : Nat} (hi : i < n) (hij : i < j) : nth (rots n t j) i = ((rot n t i : Nat) : Int) := by
  simp [nth, rots, List.getD, hi, hij]
theorem pushedUp_succ (ks : List Int) (n t j : Nat) : pushedUp ks n t (j + 1) = pushedUp ks n t j ++ [(((rot n t j : Nat) : Int), nth ks (rot n t j))] := by simp [pushedUp, List.range_succ]
theorem pushedUp_no (ks : List Int) {n t j : Nat} (hj : j < n) : ∀ x ∈ pushedUp ks n t j, x.1 ≠ ((rot n t j : Nat) : Int) := by
  intro x hx
  obtain ⟨i, hi, rfl⟩ := List.mem_map.1 hx
  have hi := List.mem_range.1 hi
  intro e
  have e1 : ((rot n t i : Nat) : Int) = ((rot n t j : Nat) : Int) := e
  have e2 : rot n t i = rot n t j := by omega
  have := rot_inj (by omega) hj e2
  omega
theorem pushedUp_len (ks : List Int) (n t j : Nat) : (pushedUp ks n t j).length = j := by simp [pushedUp]

theorem rot_lt {n t j : Nat} (hn : 0 < n) : rot n t j < n := Nat.mod_lt _ hn

theorem rot_mod {n t j : Nat} : ((j : Int) + t).tmod n = ((rot n t j : Nat) : Int) := by
  unfold rot
  rw [Int.tmod_eq_emod_of_nonneg (by omega)]
  simp

/-- A heap, a box with a slice, and cells of sorted places. -/
def Bench2 {m : Nat} (B : Nat) (w : World) (p Bx BI : Nat) (V : Value) (R : List (Fin (m + 1))) (S : List (Int × Int)) : Prop :=
  ∃ M : Nat → Prop, HeapAt M w p S ∧ w.heap[Bx]? = some (.cells #[V] 39 (0, 0)) ∧ (∀ j (h : j < R.length), w.cell? ⟨BI, j, none⟩ = some (encF R[j])) ∧ ¬ M Bx ∧ ¬ M BI ∧ B ≤ Bx ∧ BI < w.heap.size ∧ ∀ k, M k → B ≤ k

def B2Ans {m : Nat} (B : Nat) (w : World) (p Bx BI : Nat) (V v : Value) (R : List (Fin (m + 1))) (S : List (Int × Int)) (e : Ending) (w' : World) : Prop :=
  e = .returned v ∧ Bench2 B w' p Bx BI V R S ∧ Below B w w'

section
variable {m : Nat} {B : Nat} {w w' : World} {p Bx BI : Nat} {V : Value} {R : List (Fin (m + 1))} {S : List (Int × Int)}
theorem bench2_heap {f : Nat} {args : Array Value} {v : Value} {S' : List (Int × Int)} (h : Bench2 B w p Bx BI V R S) (hc : ∀ M, HeapAt M w p S → Calls Try.prog f args w (HAns M w p v S')) :
    Calls Try.prog f args w (B2Ans B w p Bx BI V v R S') := by
  obtain ⟨M, h1, h2, h3, h4, h5, h6, h7, h8⟩ := h
  have b1 := block_there h2
  refine (hc M h1).mono ?_
  rintro e w' ⟨rfl, ha, hO⟩
  refine ⟨rfl, ⟨_, ha, (hO.block _ b1 h4).trans h2, fun j hj => ?_, ?_, ?_, h6, Nat.lt_of_lt_of_le h7 hO.size, ?_⟩, hO.below (by omega) h8⟩
  · rw [← h3 j hj]; simp only [World.cell?, hO.block BI h7 h5]
  · rintro (e | e)
    · exact h4 e
    · omega
  · rintro (e | e)
    · exact h5 e
    · omega
  · rintro k (e | e)
    · exact h8 k e
    · omega
theorem Bench2.later (h : Bench2 B w p Bx BI V R S) (hO : Only (fun _ => False) w w') : Bench2 B w' p Bx BI V R S := by
  obtain ⟨M, h1, h2, h3, h4, h5, h6, h7, h8⟩ := h
  refine ⟨M, h1.later hO, (hO.block _ (block_there h2) (fun e => e)).trans h2, fun j hj => ?_, h4, h5, h6, Nat.lt_of_lt_of_le h7 hO.size, h8⟩
  rw [← h3 j hj]; simp only [World.cell?, hO.block BI h7 (fun e => e)]
theorem Bench2.perm {T : List (Int × Int)} (h : Bench2 B w p Bx BI V R S) (hT : S.Perm T) : Bench2 B w p Bx BI V R T := by
  obtain ⟨M, h1, h2⟩ := h
  exact ⟨M, h1.perm hT, h2⟩
theorem Bench2.box (h : Bench2 B w p Bx BI V R S) : w.cell? ⟨Bx, 0, none⟩ = some V := by
  obtain ⟨M, h1, h2, h3⟩ := h
  rw [cell_at h2]; rfl
theorem Bench2.at (h : Bench2 B w p Bx BI V R S) {j : Nat} (hj : j < R.length) : w.cell? ⟨BI, j, none⟩ = some (.int .i64 (R[j].val : Int)) := by
  obtain ⟨M, h1, h2, h3, h4⟩ := h
  exact h3 j hj
theorem Bench2.ids (h : Bench2 B w p Bx BI V R S) : Ids S := by obtain ⟨M, h1, h2⟩ := h; exact h1.ids
theorem bench2_len (h : Bench2 B w p Bx BI V R S) : Calls Try.prog 10 #[.pointer (some ⟨p, 0, none⟩)] w fun e w' => e = .returned (.int .i64 S.length) ∧ w' = w := by
  obtain ⟨M, h1, h2⟩ := h
  exact (hlen h1).mono fun _ _ ⟨he, hw⟩ => ⟨he, hw.symm⟩
theorem Bench2.low (h : Bench2 B w p Bx BI V R S) : B ≤ w.heap.size := by
  obtain ⟨M, h1, h2, h3, h4, h5, h6, h7, h8⟩ := h
  have := block_there h2; omega

/-- The first of sorted places is the least of what is left; behind its Pop the rest is left. -/
theorem pop_next {ks : List Int} {j : Nat} (hR : R.Pairwise (fun x y => prec (pairOf ks y) (pairOf ks x) = false)) (hj : j < R.length) :
    Least ((R.drop j).map (pairOf ks)) (pairOf ks R[j]) ∧ (R.drop j).map (pairOf ks) = pairOf ks R[j] :: (R.drop (j + 1)).map (pairOf ks) := by
  have h1 : R.drop j = R[j] :: R.drop (j + 1) := List.drop_eq_getElem_cons hj
  have h2 := hR.drop (i := j)
  rw [h1] at h2 ⊢
  refine ⟨⟨List.mem_map.2 ⟨R[j], List.mem_cons_self, rfl⟩, fun x hx => ?_⟩, rfl⟩
  rw [List.map_cons, List.mem_cons] at hx
  rcases hx with rfl | hx
  · exact prec_irrefl _
  · obtain ⟨y, hy, rfl⟩ := List.mem_map.1 hx
    exact (List.pairwise_cons.1 h2).1 y hy
end

/-- The places in the order in which they are pushed. -/
def turnsOf (m t : Nat) : List (Fin (m + 1)) := (List.range (m + 1)).map fun (i : Nat) => ⟨rot (m + 1) t i, rot_lt (Nat.succ_pos m)⟩
theorem turnsOf_len (m t : Nat) : (turnsOf m t).length = m + 1 := by simp [turnsOf]
theorem pushedUp_turns (ks : List Int) (m t : Nat) : pushedUp ks (m + 1) t (m + 1) = (turnsOf m t).map (pairOf ks) := by
  simp [pushedUp, turnsOf, pairOf]
theorem rots_turns {m t i : Nat} (hi : i < (turnsOf m t).length) : nth (rots (m + 1) t (m + 1)) i = ((turnsOf m t)[i].val : Int) := by
  rw [turnsOf_len] at hi
  rw [rots_at hi hi]
  simp [turnsOf]

/-- What is known behind the sort, of the bench. -/
def Sorted_ {m : Nat} (ks : List Int) (B : Nat) (w0 : World) (p Bx BI : Nat) (V : Value) (S : List (Int × Int)) (e : Ending) (w' : World) : Prop :=
  e = .returned (.tuple #[]) ∧ ∃ R : List (Fin (m + 1)), R.length = m + 1 ∧ R.Pairwise (fun x y => prec (pairOf ks y) (pairOf ks x) = false) ∧ Bench2 B w' p Bx BI V R (R.map (pairOf ks)) ∧ Below B w0 w'

theorem bench_sort {m : Nat} (ks : List Int) (B b off cap t p Bx BI c : Nat) (w0 w : World) (hm : m + 1 ≤ 1000) (h : Bench B w p Bx BI (.slice (some ⟨b, off, none⟩) (m + 1) cap) (rots (m + 1) t (m + 1)) (pushedUp ks (m + 1) t (m + 1)))
    (hw : Below B w0 w) (hb : b < B) (hc : ∀ j, j < m + 1 → w.cell? ⟨b, off + j, none⟩ = some (.int .i64 (nth ks j))) :
    Calls Try.prog 20 #[.slice (some ⟨BI, 0, none⟩) (m + 1) c, .func (.func 21) #[] #[.pointer (some ⟨Bx, 0, none⟩)]] w (Sorted_ (m := m) ks B w0 p Bx BI (.slice (some ⟨b, off, none⟩) (m + 1) cap) (pushedUp ks (m + 1) t (m + 1))) := by
  have hbx := h.box
  have hat := fun i (hi : i < (turnsOf m t).length) => h.at (i := i) (by rw [rots_len, ← turnsOf_len m t]; exact hi)
  obtain ⟨M, h1, h2, h3, h4, h5, h6, h7, h8, h9⟩ := h
  have b1 := block_there h2
  have b2 := block_there h3
  refine (sort_any ks BI Bx b off cap c (turnsOf m t) w (turnsOf_len m t) hm (fun i hi => ?_) hbx hc b2 b1 (by omega) h6 (by omega)).mono ?_
  · obtain ⟨q1, q2⟩ := hat i hi
    rw [rots_turns hi] at q1
    exact ⟨q1, q2⟩
  · rintro e w' ⟨rfl, R, hR1, hR2, hR3, hO⟩
    refine ⟨rfl, R, hR1.length_eq.trans (turnsOf_len m t), hR2, ⟨M, (h1.keep hO (fun k _ hk e => h5 (e ▸ hk))).perm ?_, (hO.block _ b1 h6).trans h2, hR3, h4, h5, h7, Nat.lt_of_lt_of_le b2 hO.size, h9⟩, hw.trans (hO.below (by omega) (fun k e => by omega))⟩
    rw [pushedUp_turns]
    exact (hR1.map _).symm

theorem alloc_le {w : World} {o : Obj} {k : Nat} (h : (w.alloc o).heap.size ≤ k) : w.heap.size + 1 ≤ k := by simpa using h

theorem least_23 : Least [(1, 7), (2, 3)] (2, 3) := ⟨by simp, fun x hx => by
  simp at hx
  rcases hx with rfl | rfl <;> decide⟩

set_option maxRecDepth 100000 in
set_option maxHeartbeats 4000000 in
theorem sorts_walk (a1 : Int) (b off cap : Nat) (ks : List Int) (w : World) (hne : ks ≠ []) (hcap : ks.length ≤ cap) (hcl : cap ≤ 9223372036854775807) (hbl : b < w.heap.size) (hc : CellsOf .i64 w b off ks) :
    Calls Try.prog 5 #[.slice (some ⟨b, off, none⟩) ks.length cap, .int .i64 a1] w fun e w' => e = .returned (.bool true) ∧ Below w.heap.size w w' := by
  have HC := Lib.hid hc
  clear hc
  obtain ⟨i0, hi0, hz0, hz1, hz2⟩ := info_parts Try.info3'
  go_enter Try.func5, Try.ntmps5
  go_upto_region 7 with (first
    | (go_at_call 8; refine (hnew _).mono ?_; rintro e w1 ⟨p0, rfl, ha, ho⟩; have HA := Lib.hid (ha.mono (N := fun k => w.heap.size + 1 ≤ k) (fun k e => alloc_le e)); have HO := Lib.hid (ho.below (B := w.heap.size + 1) (alloc_le (Nat.le_refl _)) (fun _ e => e.elim)); clear ha ho)
    | (go_at_call 9; refine (hpush (id := 2) HA2.out 3 (by decide) (by simp) (by simp)).mono ?_; rintro e w3 ⟨rfl, ha, ho⟩; have HA3 := Lib.hid (ha.mono (N := fun k => w.heap.size + 1 ≤ k) (fun k e => e.elim (fun e => e) (fun e => alloc_le (Nat.le_trans HO2.out.size e)))); have HO3 := Lib.hid (HO2.out.trans (ho.below (B := w.heap.size + 1) (alloc_le HO2.out.size) (fun _ e => e))); clear ha ho)
    | (go_at_call 9; refine (hpush (id := 1) HA.out 7 (by decide) (by simp) (by simp)).mono ?_; rintro e w2 ⟨rfl, ha, ho⟩; have HA2 := Lib.hid (ha.mono (N := fun k => w.heap.size + 1 ≤ k) (fun k e => e.elim (fun e => e) (fun e => alloc_le (Nat.le_trans HO.out.size e)))); have HO2 := Lib.hid (HO.out.trans (ho.below (B := w.heap.size + 1) (alloc_le HO.out.size) (fun _ e => e))); clear ha ho)
    | (go_at_call 18; refine (hpop HA3.out least_23).mono ?_; rintro e w5 ⟨rfl, ha, ho⟩; have HA5 := Lib.hid (ha.mono (N := fun k => w.heap.size + 1 ≤ k) (fun k e => e.elim (fun e => e) (fun e => alloc_le (Nat.le_trans HO3.out.size e)))); have HO5 := Lib.hid (HO3.out.trans (ho.below (B := w.heap.size + 1) (alloc_le HO3.out.size) (fun _ e => e))); clear ha ho))
  have hbox : w5.heap[w.heap.size]? = some (.cells #[.slice (some ⟨b, off, none⟩) ks.length cap] 39 (0, 0)) := (HO5.out.block _ (Nat.lt_succ_self _)).trans (heap_alloc_new w _)
  have hw5 : Below w.heap.size w w5 := ((Below.refl _ w).alloc (Nat.le_refl _) _).trans (HO5.out.mono (Nat.le_succ _))
  have HBX := Lib.hid hbox
  have HW5 := Lib.hid hw5
  have c0 : w5.cell? ⟨w.heap.size, 0, none⟩ = some (.slice (some ⟨b, off, none⟩) ks.length cap) := by rw [cell_at hbox]; rfl
  have f0 := frozen_at hbox 0
  clear hbox hw5 HA HO HA2 HO2 HA3 HO3 HA5 HO5
  generalize hBx : w.heap.size = Bx at *
  have HBx := Lib.hid hBx
  clear hBx
  obtain ⟨n, hn⟩ : ∃ n, n = min ks.length 200 := ⟨_, rfl⟩
  go_cut [] (fun wx => wx = w5.setCell ⟨Bx, 0, none⟩ (.slice (some ⟨b, off, none⟩) n cap))
  case first =>
    by_cases h100 : (200 : Int) < ks.length
    · have e : n = 200 := by omega
      go_wp2
      go_meet
      rw [show (min (ks.length : Int) 200).toNat = n by omega]
    · have e : n = ks.length := by omega
      go_wp2
      go_meet
      rw [show (min (ks.length : Int) 200).toNat = n by omega]
  case rest =>
    have hO6 : Only (fun k => k = Bx) w5 wc := by rw [hcut]; exact Only.setCell (S := fun x => x = Bx) (Only.refl _ w5) (p := ⟨Bx, 0, none⟩) rfl _
    have hbx6 : wc.heap[Bx]? = some (.cells #[.slice (some ⟨b, off, none⟩) n cap] 39 (0, 0)) := by rw [hcut, heap_setCell_same w5 Bx 0 _ 39 _ HBX.out]; rfl
    have hw6 : Below Bx w wc := by
      have := HW5.out
      exact this.trans (hO6.below (by have := this.size; have := HBx.out; omega) (fun k e => by omega))
    have HBX6 := Lib.hid hbx6
    have HW6 := Lib.hid hw6
    have c6 : wc.cell? ⟨Bx, 0, none⟩ = some (.slice (some ⟨b, off, none⟩) n cap) := by rw [cell_at hbx6]; rfl
    clear hcut hO6 hbx6 hw6 c0 f0 HBX HW5
    have hlp : 0 < ks.length := List.length_pos_iff.2 hne
    have hn0 : 0 < n := by omega
    have hnl : n ≤ ks.length := by omega
    have hn200 : n ≤ 200 := by omega
    clear hn hne
    obtain ⟨t, ht⟩ : ∃ t : Nat, restOf a1 ((n : Int) + 1) = t := ⟨(restOf a1 ((n : Int) + 1)).toNat, by have := restOf_lo a1 ((n : Int) + 1) (by omega); omega⟩
    have htn : t ≤ n := by have := restOf_hi a1 ((n : Int) + 1) (by omega); omega
    have HRS := Lib.hid (fun w => (ht ▸ rest_any a1 ((n : Int) + 1) (by omega) (by omega) w : Calls Try.prog 19 #[.int .i64 a1, .int .i64 ((n : Int) + 1)] w fun e w' => e = .returned (.int .i64 (t : Int)) ∧ w = w'))
    clear ht
    have CM := Lib.hid (show i0.bytes * n ≤ 281474976710656 from by rw [hz2]; omega)
    have CN := Lib.hid (show n ≤ 9223372036854775807 from by omega)
    go_upto_region 11 with (first
      | (go_at_call 19; (with_reducible refine (HRS.out _).mono ?_); rintro e w6 ⟨rfl, rfl⟩)
      | (go_at_call 8; refine (hnew _).mono ?_; rintro e w8 ⟨p, rfl, ha, ho⟩; have HA8 := Lib.hid ha; have HO8 := Lib.hid ho; have c8 : w8.cell? ⟨Bx, 0, none⟩ = some (.slice (some ⟨b, off, none⟩) n cap) := (by rw [cell_at ((ho.block _ (block_there HBX6.out) (fun e => e)).trans HBX6.out)]; rfl); clear ha ho c6)
      | (refine wpList_make_row _ rfl _ _ 39 rfl 3 i0 (.int .i64 0) Try.underlying39 hi0 hz0 hz1 rfl .i64 .i64 n rfl rfl CM.out CN.out ?_))
    have hbench : Bench Bx (w8.alloc (.cells (madeCells #[.int .i64 0] n) 3)) p Bx w8.heap.size (.slice (some ⟨b, off, none⟩) n cap) (rots n t 0) (pushedUp ks n t 0) := by
      have hO : Only (fun _ => False) w8 (w8.alloc (.cells (madeCells #[.int .i64 0] n) 3)) := (Only.refl _ w8).alloc _
      have hb8 := (HO8.out.block _ (block_there HBX6.out) (fun e => e)).trans HBX6.out
      have h1 := block_there HBX6.out
      have h2 := block_there hb8
      refine ⟨_, HA8.out.there.later hO, (hO.block _ h2 (fun e => e)).trans hb8, ?_, fun e => ?_, fun e => Nat.lt_irrefl _ e.2, by omega, Nat.le_refl _, by omega, fun k hk => ?_⟩
      · rw [made_row, heap_alloc_new, rots_zero]
      · have := e.1; omega
      · have := hk.1; omega
    have hbw : Below Bx w (w8.alloc (.cells (madeCells #[.int .i64 0] n) 3)) := by
      have h1 := HO8.out.size
      have h2 := HW6.out.size
      have h3 := block_there HBX6.out
      exact (HW6.out.trans (HO8.out.below (by omega) (fun _ e => e.elim))).alloc (by omega) _
    have HBE := Lib.hid hbench
    have HBW := Lib.hid hbw
    clear hbench hbw c8 HA8 HO8 HBX6 HW6 HRS CM CN
    generalize w8.alloc (.cells (madeCells #[.int .i64 0] n) 3) = wb at *
    generalize w8.heap.size = BI at *
    have hbB : b < Bx := hbl
    have hcells : ∀ (wr : World), Below Bx w wr → ∀ j, j < n → wr.cell? ⟨b, off + j, none⟩ = some (.int .i64 (nth ks j)) := fun wr hb j hj => (hb.cell (p := ⟨b, off + j, none⟩) hbB).trans (HC.out j (by omega))
    have HCE := Lib.hid hcells
    clear hcells
    go_wp2_with fail
    go_loopw [61] (fun v wr => ∃ j : Nat, v = .int .i64 j ∧ j ≤ n ∧ Bench Bx wr p Bx BI (.slice (some ⟨b, off, none⟩) n cap) (rots n t j) (pushedUp ks n t j) ∧ Below Bx w wr) (fun v _ => n - (intOf v).toNat)
    case atStart => exact ⟨0, rfl, Nat.zero_le _, HBE.out, HBW.out⟩
    case round =>
      obtain ⟨j, rfl, hj, hbe, hb⟩ := hrel
      have HB1 := Lib.hid hbe
      have HB := Lib.hid hb
      by_cases hjn : j < n
      · have cb := hbe.box
        obtain ⟨ci, fi⟩ := hbe.at (i := j) (by rw [rots_len]; exact hjn)
        have g1 : (j : Int) < n := by omega
        have g2 : (0 : Int) ≤ j := by omega
        have g3 : ((n : Int) == 0) = false := by simp; omega
        have g4 : (n : Int) ≠ 0 := by omega
        clear hbe hb
        go_upto_region 15 with fail
        have erot : ((j : Int) + t) % n = ((rot n t j : Nat) : Int) := by simp [rot]
        rw [erot]
        have hrl : rot n t j < n := rot_lt hn0
        obtain ⟨hp1, hp2⟩ := HB1.out.put j ((rot n t j : Nat) : Int)
        rw [rots_set hjn] at hp1
        have hp3 := hp1.later ((Only.refl (fun _ => False) _).drew)
        have hb3 := Lib.hid (HB.out.trans hp2).drew
        have cb3 := hp3.box
        obtain ⟨ci3, -⟩ := hp3.at (i := j) (by rw [rots_len]; exact hjn)
        rw [rots_at hjn (Nat.lt_succ_self j)] at ci3
        have cl3 := HCE.out _ hb3.out _ hrl
        have HP3 := Lib.hid hp3
        clear hp1 hp2 hp3 erot cb ci fi
        refine wp_region_still_tail 12 (by kernel_rfl) (by kernel_rfl) ?_
        generalize hWS : wr.setCell ⟨BI, j, none⟩ (.int .i64 ((rot n t j : Nat) : Int)) = ws at *
        show wpStill _ _ ws.drew (fun a' => wpList _ _ _ _ a' ws.drew) _ _
        generalize ws.drew = w2 at *
        have HPU := Lib.hid (bench_heap HP3.out (fun M hM => hpush hM (nth ks (rot n t j)) (i64_wf (by omega)) (pushedUp_no ks hjn) (by rw [pushedUp_len]; omega)))
        have g5 : (rot n t j : Int) < n := by omega
        have g6 : (0 : Int) ≤ (rot n t j : Int) := by omega
        simp only [List.take_succ_cons, List.take_zero, List.drop_succ_cons, List.drop_zero]
        repeat still_step
        refine wpStill_nil ?_
        go_wp2_with (go_at_call 9; (with_reducible refine HPU.out.mono ?_); rintro e w3 ⟨rfl, hp4, hb4⟩; have HP4 := Lib.hid hp4; have HB4 := Lib.hid (hb3.out.trans hb4); clear hp4 hb4)
        go_roundw
        case rel => exact ⟨j + 1, by go_num, by omega, by rw [pushedUp_succ]; exact HP4.out, HB4.out⟩
        case measure => simp [intOf]; omega
      · have e : j = n := by omega
        subst e
        obtain ⟨m, rfl⟩ : ∃ m, j = m + 1 := ⟨j - 1, by omega⟩
        clear hbe hb
        have HSO := Lib.hid (bench_sort ks Bx b off cap t p Bx BI (m + 1) w wr (by omega) HB1.out HB.out hbB (HCE.out wr HB.out))
        go_wp2_with (go_at_call 20; (with_reducible refine HSO.out.mono ?_); rintro e w3 ⟨rfl, R, hRl, hRp, hb2, hbw⟩; have HRL := Lib.hid hRl; have HRP := Lib.hid hRp; have HB2 := Lib.hid hb2; have HBW2 := Lib.hid hbw; clear hRl hRp hb2 hbw)
        go_loopw [93] (fun v wq => ∃ i : Nat, v = .int .i64 i ∧ i ≤ m + 1 ∧ Bench2 Bx wq p Bx BI (.slice (some ⟨b, off, none⟩) (m + 1) cap) R ((R.drop i).map (pairOf ks)) ∧ Below Bx w wq) (fun v _ => m + 1 - (intOf v).toNat)
        case atStart => exact ⟨0, rfl, Nat.zero_le _, HB2.out, HBW2.out⟩
        case round =>
          obtain ⟨i, rfl, hi, hb2, hbw⟩ := hrel
          have HQ := Lib.hid hb2
          have HQW := Lib.hid hbw
          have hlen : ((R.drop i).map (pairOf ks)).length = m + 1 - i := by rw [List.length_map, List.length_drop, HRL.out]
          have HLN := Lib.hid (fun n => (by
            have hx := bench2_len (HQ.out.later (only_drewN (Only.refl (fun _ => False) wr) n))
            rw [hlen, show ((m + 1 - i : Nat) : Int) = (m : Int) + 1 - i by omega] at hx
            exact hx : Calls Try.prog 10 #[.pointer (some ⟨p, 0, none⟩)] (wr.drewN n) fun e w' => e = .returned (.int .i64 ((m : Int) + 1 - i)) ∧ w' = wr.drewN n))
          by_cases him : i < m + 1
          · have g1 : (i : Int) < (m : Int) + 1 := by omega
            have g2 : (0 : Int) ≤ i := by omega
            have cb := hb2.box
            have hiR : i < R.length := by rw [HRL.out]; exact him
            have ci := hb2.at hiR
            have HPN := Lib.hid (pop_next HRP.out hiR)
            have hv := R[i].isLt
            have HPO := Lib.hid (fun n => bench2_heap (HQ.out.later (only_drewN (Only.refl (fun _ => False) wr) n)) (fun M hM => hpop hM HPN.out.1))
            generalize R[i] = rv at *
            have hwr : IntKind.i64.wrap ((m : Int) + 1 - i) = (m : Int) + 1 - i := IntWalk.i64_in _ (by omega)
            clear hb2 hbw hlen
            go_upto_region 22 with fail
            go_quiet ((go_at_call 10; exact Calls.quiet_of_same (HLN.out _)))
            have HWO := Lib.hid (without_of HQ.out.ids (x := pairOf ks rv) (K := (R.drop (i + 1)).map (pairOf ks)) (by rw [HPN.out.2]))
            have hrv : (rv.val : Int) < (m : Int) + 1 := by omega
            have hrv0 : (0 : Int) ≤ (rv.val : Int) := by omega
            go_wp2_with (go_at_call 18; (refine (HPO.out _).mono ?_); rintro e w6 ⟨rfl, hb6, hbw6⟩; have hb7 := hb6.perm HWO.out.symm; have HQ7 := Lib.hid hb7; have HW7 := Lib.hid ((HQW.out.trans ((only_drewN (Only.refl (fun _ => False) wr) _).below HQ.out.low (fun _ e => e.elim))).trans hbw6); have cb7 := hb7.box; have cl7 : w6.cell? ⟨b, off + rv.val, none⟩ = some (.int .i64 (pairOf ks rv).2) := HCE.out _ HW7.out _ hv; clear hb6 hbw6 hb7)
            go_roundw
            case rel => exact ⟨i + 1, by go_num, by omega, HQ7.out, HW7.out⟩
            case measure => simp [intOf]; omega
          · have e : i = m + 1 := by omega
            subst e
            clear hb2 hbw hlen
            have HL0 := Lib.hid (bench2_len HQ.out)
            have hz : ((R.drop (m + 1)).map (pairOf ks)).length = 0 := by rw [List.length_map, List.length_drop, HRL.out]; omega
            go_wp2_with (go_at_call 10; (with_reducible refine HL0.out.mono ?_); rintro e w6 ⟨rfl, rfl⟩; rw [hz])
            go_ret
            exact ⟨rfl, HBx.out ▸ HQW.out⟩
end Go.Proofs.Ytonlhcebnbdjjaa
