/- A play's step: the wheel's answer, and the loop that tells who is due and who is left. -/
import Derived.Test.YtiodfpoaakcejaaWPlay
import Derived.Test.YtiodfpoaakcejaaAppend
import Derived.Test.YtiodfpoaakcejaaEq
namespace Go.Proofs.Ytiodfpoaakcejaa.Wh
open Go.ChangeShapes Go.WideShapes Go.ChangeAt Go.RowKit Go.Maps
open Go.Proofs.Ytiodfpoaakcejaa.Hp
open Go.Proofs.Ytiodfpoaakcejaa.Tm (RowAt row_nil Ahead Found enc)
set_option linter.unusedVariables false

section
variable {B : Nat} {w w' : World} {p : Nat} {now : Int} {V : Value} {Sw S : Timers} {X : List (Nat × Int)}

/-- What is known behind a Step of a play. -/
def PStep (B : Nat) (w : World) (p : Nat) (t : Int) (V : Value) (Sw S : Timers) (X : List (Nat × Int)) (n : Nat) (e : Ending) (w' : World) : Prop :=
  ∃ a c, e = .returned (.tuple #[.slice a n c, .int .i64 0]) ∧ Ints w' w.heap.size (.slice a n c) (idsOf (goers Sw t)) ∧ Play B w' p t V (stay Sw t) S X ∧ Below B w w'

theorem play_step {a d : Int} {n : Nat} (h : Play B w p now V Sw S X) (hd : dist now a = d) (h0 : 0 ≤ d) (hn : now ≤ 4611686018427387904) (hl : (goers Sw (now + d)).length = n) :
    Calls Try.prog 17 #[.pointer (some ⟨p, 0, none⟩), .int .u32 a] w (PStep B w p (now + d) V Sw S X n) := by
  subst hd
  have hB := h.low
  obtain ⟨M, h1, h2, h3, h4, h5⟩ := h
  refine (wstep a h1.there (fun k hk => hk.2) h0 hn).mono ?_
  intro e w' hs
  obtain ⟨ad, c, rfl, hr, hw, hO⟩ := hs.open hl
  refine ⟨ad, c, rfl, hr, ⟨_, hw, h2.keep hO (fun k hk e => h3 k hk e.1), fun k hk e => h3 k hk e.1, fun k hk => h4 k hk.1, fun x hx => ?_⟩, hO.below hB (fun k hk => h4 k hk.1)⟩
  obtain ⟨q1, q2, q3⟩ := h5 x hx
  exact ⟨q1, fun e => q2 e.1, (hO.block _ (block_there q3) (fun e => q2 e.1)).trans q3⟩

/-- A play takes another row, which is new. -/
theorem Play.take {V' : Value} {S' : Timers} (h : Play B w p now V Sw S X) (hO : Only (fun _ => False) w w') (hr : RowAt w' w.heap.size V' S') : Play B w' p now V' Sw S' X := by
  have hB := h.low
  obtain ⟨M, h1, h2, h3, h4, h5⟩ := h
  refine ⟨_, h1.there.later hO, hr.base hB, fun k hk e => ?_, fun k hk => h4 k hk.1, fun x hx => ⟨(h5 x hx).1, fun e => (h5 x hx).2.1 e.1, (hO.block _ (block_there (h5 x hx).2.2) (fun e => e)).trans (h5 x hx).2.2⟩⟩
  have := (hr.block hk).1
  have := e.2
  omega
end

/-- Where the loop stands that tells who is due: the first k are told. -/
structure Sift (w : World) (t : Int) (T : Timers) (k : Nat) (want left : Value) (wr : World) : Prop where
  want : Ints wr w.heap.size want (idsOf ((T.take k).filter fun x => decide (x.2 ≤ t)))
  left : RowAt wr w.heap.size left ((T.take k).filter fun x => decide (t < x.2))
  only : Only (fun _ => False) w wr

theorem sift_zero (w : World) (t : Int) (T : Timers) : Sift w t T 0 (.slice none 0 0) (.slice none 0 0) w :=
  ⟨ints_nil _ _, row_nil _ _, Only.refl _ w⟩

section
variable {w wr w1 w2 : World} {t : Int} {T : Timers} {k : Nat} {want left v : Value} {x : Int × Int}

theorem take_next (hk : k < T.length) (hx : T.getD k (0, 0) = x) : T.take (k + 1) = T.take k ++ [x] := by
  rw [List.take_succ_eq_append_getElem hk]
  subst hx
  simp [List.getD, hk]

theorem sift_apart (h : Sift w t T k want left wr) {g : Nat} (h1 : want.ownBlock = some g) (h2 : left.ownBlock = some g) : False := by
  obtain ⟨c1, e1⟩ := owns_type h.want h1
  obtain ⟨c2, e2⟩ := h.left.type h2
  rw [e1] at e2
  cases e2

theorem sift_due (h : Sift w t T k want left wr) (hk : k < T.length) (hx : T.getD k (0, 0) = x) (ht : x.2 ≤ t) (hO1 : Only (fun _ => False) wr w1)
    (hv : Ints w2 w.heap.size v (idsOf ((T.take k).filter fun x => decide (x.2 ≤ t)) ++ [x.1])) (hO : Only (fun k => want.ownBlock = some k) w1 w2) : Sift w t T (k + 1) v left w2 := by
  refine ⟨?_, ?_, only_above (h.only.trans hO1 (fun _ _ e => e)) hO (fun g hg => (h.want.block hg).1)⟩
  · rw [take_next hk hx, List.filter_append, List.filter_cons_of_pos (by simpa using ht)]
    simpa [idsOf] using hv
  · rw [take_next hk hx, List.filter_append, List.filter_cons_of_neg (by simpa using ht)]
    simp only [List.filter_nil, List.append_nil]
    exact (h.left.later hO1).keep hO (fun g hg e => sift_apart h e hg)

theorem sift_left (h : Sift w t T k want left wr) (hk : k < T.length) (hx : T.getD k (0, 0) = x) (ht : ¬ x.2 ≤ t) (hO1 : Only (fun _ => False) wr w1)
    (hv : RowAt w2 w.heap.size v ((T.take k).filter (fun x => decide (t < x.2)) ++ [x])) (hO : Only (fun k => left.ownBlock = some k) w1 w2) : Sift w t T (k + 1) want v w2 := by
  refine ⟨?_, ?_, only_above (h.only.trans hO1 (fun _ _ e => e)) hO (fun g hg => (h.left.block hg).1)⟩
  · rw [take_next hk hx, List.filter_append, List.filter_cons_of_neg (by simpa using ht)]
    simp only [List.filter_nil, List.append_nil]
    exact (h.want.later hO1).keep hO (fun g hg e => sift_apart h hg e)
  · rw [take_next hk hx, List.filter_append, List.filter_cons_of_pos (by simp; omega)]
    exact hv

theorem sift_len (n : Nat) (hn : T.length = n) : ((T.take k).filter fun x => decide (x.2 ≤ t)).length ≤ n ∧ ((T.take k).filter fun x => decide (t < x.2)).length ≤ n := by
  have h1 := List.length_filter_le (fun x : Int × Int => decide (x.2 ≤ t)) (T.take k)
  have h2 := List.length_filter_le (fun x : Int × Int => decide (t < x.2)) (T.take k)
  have h3 := List.length_take_le' k T
  omega

theorem due_room {n : Nat} (hn : T.length = n) (hl : n ≤ 6000000000000) (hO : Only (fun _ => False) w wr) : (idsOf ((T.take k).filter fun x => decide (x.2 ≤ t))).length + ([x.1] : List Int).length ≤ 17000000000000 ∧ w.heap.size ≤ ((wr.alloc (.cells #[.int .u32 (x.2 % 4294967296), .int .i64 x.1] 33)).alloc (.cells #[.int .i64 x.1] 3)).heap.size := by
  have h1 := (sift_len (k := k) (t := t) n hn).1
  have h2 := hO.size
  simp only [idsOf, List.length_map, List.length_singleton, World.alloc, Array.size_push]
  omega

theorem left_room {n : Nat} (hn : T.length = n) (hl : n ≤ 6000000000000) (hO : Only (fun _ => False) w wr) : ((T.take k).filter fun x => decide (t < x.2)).length + 1 ≤ 8796093022144 ∧ w.heap.size ≤ ((wr.alloc (.cells #[.int .u32 (x.2 % 4294967296), .int .i64 x.1] 33)).alloc (.cells #[.int .u32 (x.2 % 4294967296), .int .i64 x.1] 33)).heap.size := by
  have h1 := (sift_len (k := k) (t := t) n hn).2
  have h2 := hO.size
  simp only [World.alloc, Array.size_push]
  omega

theorem sift_done {S : Timers} {n : Nat} (h : Sift w t T n want left wr) (hn : T.length = n) (hP : T.Perm S) (hs : Sorted T) :
    Ints wr w.heap.size want (idsOf (goers S t)) ∧ RowAt wr w.heap.size left (T.filter fun x => decide (t < x.2)) := by
  have h1 := h.want
  have h2 := h.left
  rw [List.take_of_length_le (Nat.le_of_eq hn)] at h1 h2
  rw [(sorted_due hP hs t).1] at h1
  exact ⟨h1, h2⟩

theorem play_stepped {B p n : Nat} {V : Value} {S : Timers} {X : List (Nat × Int)} {w3 w4 w7 : World} (hp : Play B w3 p t V (stay S t) S X) (hO4 : Only (fun _ => False) w3 w4) (h : Sift w4 t T n want left wr) (hn : T.length = n) (hP : T.Perm S) (hs : Sorted T) (hO : Only (fun _ => False) wr w7) :
    Play B w7 p t left (T.filter fun x => decide (t < x.2)) (T.filter fun x => decide (t < x.2)) X ∧ Below B w3 w7 := by
  have hO2 := (hO4.trans h.only (fun _ _ e => e)).trans hO (fun _ _ e => e)
  exact ⟨(hp.take hO2 (((sift_done h hn hP hs).2.later hO).base hO4.size)).perm (sorted_due hP hs t).2, hO2.below hp.low (fun _ e => e.elim)⟩

theorem goers_le (S : Timers) (t : Int) : (goers S t).length ≤ S.length := by have := goers_len S t; omega

theorem left_le {n : Nat} (hn : T.length = n) : (T.filter fun x => decide (t < x.2)).length ≤ n := by
  rw [← hn]; exact List.length_filter_le _ _

theorem ahead_left {S : Timers} {now d : Int} (h : Ahead now S) (hP : T.Perm S) (h0 : 0 ≤ d) : Ahead (now + d) (T.filter fun x => decide (now + d < x.2)) := fun x hx => by
  have h1 := List.mem_filter.1 hx
  have h2 := h x (hP.mem_iff.1 h1.1)
  have h3 := of_decide_eq_true h1.2
  omega

theorem first_due {S : Timers} {n B : Nat} {m : Int × Int} (hP : T.Perm S) (hs : Sorted T) (hm : Least S m) (hn : S.length = n) (hr : RowAt w B v T) (h0 : 0 < n) :
    ∃ g c, v = .slice (some ⟨g, 0, none⟩) n c ∧ w.cell? ⟨g, 0, none⟩ = some (.int .u32 (m.2 % 4294967296)) := by
  have hl : T.length = n := hP.length_eq.trans hn
  obtain ⟨g, c, rfl, -, -, -, -, hrow⟩ := hr.at_block hl h0
  refine ⟨g, c, rfl, ?_⟩
  have h1 := (hrow.cell (i := 0) (by omega)).1
  rw [least_one (sorted_head hP hs (by omega)) hm] at h1
  simpa using h1

theorem alloc_next (wr : World) (o : Obj) : (wr.alloc o).heap.size = wr.heap.size + 1 := by simp

theorem due_num (wr : World) (x : Int × Int) : Nums ((wr.alloc (.cells #[.int .u32 (x.2 % 4294967296), .int .i64 x.1] 33)).alloc (.cells #[.int .i64 x.1] 3)) (.slice (some ⟨wr.heap.size + 1, 0, none⟩) 1 1) [x.1] := by
  have e := alloc_next wr (.cells #[.int .u32 (x.2 % 4294967296), .int .i64 x.1] 33)
  rw [← e]
  exact nums_block (xs := [x.1]) (heap_alloc_new (wr.alloc _) _) rfl

theorem left_num (wr : World) (x : Int × Int) : ((wr.alloc (.cells #[.int .u32 (x.2 % 4294967296), .int .i64 x.1] 33)).alloc (.cells #[.int .u32 (x.2 % 4294967296), .int .i64 x.1] 33)).heap[wr.heap.size + 1]? = some (.cells (enc x).toArray 33 (0, 0)) := by
  have e := alloc_next wr (.cells #[.int .u32 (x.2 % 4294967296), .int .i64 x.1] 33)
  rw [← e]
  exact heap_alloc_new (wr.alloc _) _
end
end Go.Proofs.Ytiodfpoaakcejaa.Wh
