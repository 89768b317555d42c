/- The walk of WheelBounds. -/
import Derived.Test.YtiodfpoaakcejaaTimers
import Derived.Test.YtiodfpoaakcejaaConcat
namespace Go.Proofs.Ytiodfpoaakcejaa.Wh
open Go.ChangeShapes Go.WideShapes Go.ChangeAt Go.RowKit Go.Maps
open Go.Proofs.Ytiodfpoaakcejaa.Hp
set_option linter.unusedVariables false

/-- The law's three timers. -/
def three (a r : Int) : Timers := [(1, a), (2, a + r), (3, a + 2147483647)]

theorem three_goes {a r : Int} (h0 : 0 ≤ r) (h1 : r < 2147483648) :
    [idsOf (goers (three a r) a), idsOf (goers (stay (three a r) a) (a + r)), idsOf (goers (stay (stay (three a r) a) (a + r)) (a + 2147483647))].flatten = [1, 2, 3] := by
  have h2 := (goers_two (S := three a r) (t := a) (u := a + r) (by omega)).1
  have h3 := goers_two (S := three a r) (t := a) (u := a + 2147483647) (by omega)
  have h4 := (goers_two (S := stay (three a r) a) (t := a + r) (u := a + 2147483647) (by omega)).1
  have e : goers (three a r) (a + 2147483647) = three a r := by
    refine goers_of ?_ ?_
    · unfold Sorted three
      simp only [List.pairwise_cons, prec, decide_eq_false_iff_not, List.mem_cons, List.not_mem_nil, or_false, forall_eq_or_imp, forall_eq, List.Pairwise.nil, and_true, false_imp_iff, implies_true]
      omega
    · refine List.Perm.of_eq (List.filter_eq_self.2 (fun x hx => ?_)).symm
      simp only [three, List.mem_cons, List.not_mem_nil, or_false] at hx
      rcases hx with rfl | rfl | rfl <;> simp <;> omega
  rw [h3.1, h4] at e
  have e2 := congrArg idsOf e
  simp only [idsOf, List.map_append, three, List.map_cons, List.map_nil] at e2
  simpa [idsOf, three] using e2

theorem only_adds {w w1 w2 : World} (h1 : Only (fun _ => False) w w1) (h2 : Only (fun k => w.heap.size ≤ k) w1 w2) : Only (fun _ => False) w w2 := only_fresh h1 h2

theorem added_mono {w w1 w2 : World} {p : Nat} {now : Int} {S : Timers} (h : WheelAt (fun k => w.heap.size ≤ k ∨ w1.heap.size ≤ k) w2 p now S) (hs : w.heap.size ≤ w1.heap.size) : WheelAt (fun k => w.heap.size ≤ k) w2 p now S :=
  h.mono (fun k hk => by rcases hk with hk | hk <;> omega)

theorem row_apart {w w' : World} {B D : Nat} {v : Value} {xs : List Int} (h : Ints w D v xs) (hO : Only (fun k => B ≤ k ∧ k < D) w w') : Ints w' D v xs := h.keep hO (fun g hg e => by have := (h.block hg).1; omega)

theorem rows_three {w : World} {B : Nat} {x y z : Value} {xs ys zs : List Int} (h1 : Ints w B x xs) (h2 : Ints w B y ys) (h3 : Ints w B z zs) :
    Rows (w.alloc (.cells #[x, y, z] 29)) w.heap.size [x, y, z] [xs, ys, zs] := by
  have hO : Only (fun _ => False) w (w.alloc (.cells #[x, y, z] 29)) := (Only.refl _ w).alloc _
  have hb : (w.alloc (.cells #[x, y, z] 29)).heap[w.heap.size]? = some (.cells #[x, y, z] 29 (0, 0)) := heap_alloc_new w _
  have n1 := h1.nums.later hO
  have n2 := h2.nums.later hO
  have n3 := h3.nums.later hO
  have c1 := h1.nil_cap
  have c2 := h2.nil_cap
  have c3 := h3.nil_cap
  refine ⟨rfl, fun j hj => ?_, fun j hj => ?_, fun j l c hj he => ?_⟩
  all_goals
    have hj3 : j < 3 := hj
    obtain rfl | rfl | rfl : j = 0 ∨ j = 1 ∨ j = 2 := by omega
  · rw [cell_at hb]; rfl
  · rw [cell_at hb]; rfl
  · rw [cell_at hb]; rfl
  · exact n1
  · exact n2
  · exact n3
  · exact c1 l c he
  · exact c2 l c he
  · exact c3 l c he

set_option maxRecDepth 100000 in
set_option maxHeartbeats 4000000 in
theorem bounds_start (a n : Int) (w : World) (ha : (Lit.int .u32 a).wf = true) (hn : (Lit.int .i64 n).wf = true) :
    Calls Try.prog 8 #[.int .u32 a, .int .i64 n] w fun e w' => e = .returned (.bool true) ∧ Below w.heap.size w w' := by
  obtain ⟨a0, a1⟩ := u32_bd ha
  clear ha
  have r0 := restOf_lo n 2147483648 (by omega)
  have r1 := restOf_hi n 2147483648 (by omega)
  obtain ⟨r, hr⟩ : ∃ r, restOf n 2147483648 = r := ⟨_, rfl⟩
  rw [hr] at r0 r1
  have HRR := Lib.hid hr
  clear hr
  have d1 : dist a ((a - 1) % 4294967296) < 0 := by unfold dist; omega
  obtain ⟨l6, hl6⟩ : ∃ l, (goers (three a r) a).length = l := ⟨_, rfl⟩
  obtain ⟨l7, hl7⟩ : ∃ l, (goers (stay (three a r) a) (a + r)).length = l := ⟨_, rfl⟩
  obtain ⟨l8, hl8⟩ : ∃ l, (goers (stay (stay (three a r) a) (a + r)) (a + 2147483647)).length = l := ⟨_, rfl⟩
  have L6 := Lib.hid hl6
  have L7 := Lib.hid hl7
  have L8 := Lib.hid hl8
  clear hl6 hl7 hl8
  have d2 : dist a ((a + 2147483648) % 4294967296) < 0 := by unfold dist; omega
  have D1 := Lib.hid d1
  have D2 := Lib.hid d2
  clear d1 d2
  go_enter Try.func8, Try.ntmps8
  go_wp2_with (first
    | (go_at_call 9; go_must (have hc := wnew a w a0 a1); (with_reducible refine hc.mono ?_); clear hc; rintro e w1 ⟨q, rfl, hw, hO⟩; have HW1 := Lib.hid hw; have HO1 := Lib.hid hO; clear hw hO)
    | (go_at_call 10; go_must (have hc := wadd_past (id := 1) ((a - 1) % 4294967296) HW1.out (by decide) (by simp) D1.out); (with_reducible refine hc.mono ?_); clear hc; rintro e w2 ⟨rfl, rfl⟩)
    | (go_at_call 10; go_must (have hc := wadd_to (id := 1) a a HW1.out (by decide) (by simp) (by omega) (by omega) (by omega) (by omega) (by simp)); (with_reducible refine hc.mono ?_); clear hc; rintro e w3 ⟨rfl, hw, hO⟩; have HW3 : Hid (WheelAt _ w3 q a [(1, a)]) := Lib.hid (added_mono hw HO1.out.size); have HO3 := Lib.hid (only_adds HO1.out hO); clear hw hO)
    | (go_at_call 23; go_must (have hc := rest_any n 2147483648 (by omega) (by omega) w3; rw [HRR.out] at hc); (with_reducible refine hc.mono ?_); clear hc; rintro e w4 ⟨rfl, rfl⟩)
    | (go_at_call 10; go_must (have hc := wadd_to (id := 2) (a + r) ((a + r) % 4294967296) HW3.out (by decide) (by simp) rfl (by omega) (by omega) (by omega) (by simp)); (with_reducible refine hc.mono ?_); clear hc; rintro e w4 ⟨rfl, hw, hO⟩; have HW4 : Hid (WheelAt _ w4 q a [(1, a), (2, a + r)]) := Lib.hid (added_mono hw HO3.out.size); have HO4 := Lib.hid (only_adds HO3.out hO); clear hw hO)
    | (go_at_call 10; go_must (have hc := wadd_past (id := 3) ((a + 2147483648) % 4294967296) HW4.out (by decide) (by simp) D2.out); (with_reducible refine hc.mono ?_); clear hc; rintro e w5 ⟨rfl, rfl⟩)
    | (go_at_call 10; go_loud (have hc := wadd_to (id := 3) (a + 2147483647) ((a + 2147483648 - 1) % 4294967296) HW4.out (by decide) (by simp) (by omega) (by omega) (by omega) (by omega) (by simp)); go_loud (with_reducible refine hc.mono ?_); clear hc; rintro e w5 ⟨rfl, hw, hO⟩; have HW5 : Hid (WheelAt _ w5 q a (three a r)) := Lib.hid (added_mono hw HO4.out.size).there; have HO5 := Lib.hid (only_adds HO4.out hO); clear hw hO)
    | (go_at_call 17; go_must (have hc := wstep_past ((a - 1) % 4294967296) HW5.out D1.out); (with_reducible refine hc.mono ?_); clear hc; rintro e w6 ⟨rfl, rfl⟩)
    | (go_at_call 17; go_must (have hc := wstep_to a a HW5.out (fun k h => h.2) (by omega) (by omega) (by omega) (by omega)); (with_reducible refine hc.mono ?_); clear hc; intro e w6 hs; obtain ⟨a6, c6, rfl, hrow, hw, hO⟩ := hs.open L6.out; have HW6 := Lib.hid hw; have HR6 := Lib.hid hrow; have HS6 := Lib.hid hO.size; have HO6 := Lib.hid (only_above HO5.out hO (fun k h => h.1)); clear hw hO hrow hs)
    | (go_at_call 17; go_must (have hc := wstep_to (a + r) ((a + r) % 4294967296) HW6.out (fun k h => Nat.lt_of_lt_of_le h.2 HS6.out) rfl (by omega) (by omega) (by omega)); (with_reducible refine hc.mono ?_); clear hc; intro e w7 hs; obtain ⟨a7, c7, rfl, hrow, hw, hO⟩ := hs.open L7.out; have HW7 := Lib.hid hw; have HR7 := Lib.hid (hrow.base HS6.out); have HP7 := Lib.hid (row_apart HR6.out hO); have HS7 := Lib.hid (Nat.le_trans HS6.out hO.size); have HO7 := Lib.hid (only_above HO6.out hO (fun k h => h.1)); clear hw hO hrow hs)
    | (go_at_call 17; go_must (have hc := wstep_to (a + 2147483647) ((a + 2147483648 - 1) % 4294967296) HW7.out (fun k h => Nat.lt_of_lt_of_le h.2 HS7.out) (by omega) (by omega) (by omega) (by omega)); (with_reducible refine hc.mono ?_); clear hc; intro e w8 hs; obtain ⟨a8, c8, rfl, hrow, hw, hO⟩ := hs.open L8.out; have HR8 := Lib.hid (hrow.base HS7.out); have HP8 := Lib.hid (row_apart HP7.out hO); have HQ8 := Lib.hid (row_apart HR7.out hO); have HO8 := Lib.hid (only_above HO7.out hO (fun k h => h.1)); clear hw hO hrow hs)
    | (go_at_call 27; go_must (have hc := concat_ints w8.heap.size 3 3 [.slice a6 l6 c6, .slice a7 l7 c7, .slice a8 l8 c8] _ _ (rows_three HP8.out HQ8.out HR8.out) rfl (by rw [three_goes r0 r1]; simp) (by omega)); (with_reducible refine hc.mono ?_); clear hc; rintro e w9 ⟨v9, rfl, hrow, hO⟩; rw [three_goes r0 r1] at hrow; have HR9 := Lib.hid hrow; have HO9 := Lib.hid ((HO8.out.alloc _).trans hO (fun _ _ e => e)); clear hrow hO)
    | (go_at_call 19; go_must (have hc := eq_same v9 _ [1, 2, 3] _ (HR9.out.nums.later ((Only.refl (fun _ => False) w9).alloc (.cells #[.int .i64 1, .int .i64 2, .int .i64 3] 3))) (show Nums _ (.slice (some ⟨w9.heap.size, 0, none⟩) 3 3) [1, 2, 3] from nums_block (heap_alloc_new w9 (.cells #[.int .i64 1, .int .i64 2, .int .i64 3] 3)) rfl (c := 3) (xs := [1, 2, 3])) (by simp)); (with_reducible refine hc.mono ?_); clear hc; rintro e w10 ⟨rfl, hO⟩; have HO10 := Lib.hid ((HO9.out.alloc _).trans hO (fun _ _ e => e)); clear hO))
  go_ret
  exact ⟨rfl, HO10.out.below (Nat.le_refl _) (fun _ e => e.elim)⟩
end Go.Proofs.Ytiodfpoaakcejaa.Wh
