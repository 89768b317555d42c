/- The reference's Due: timers in the order in which they are due. -/
import Derived.Test.YtiodfpoaakcejaaTmRow
import Derived.Test.YtiodfpoaakcejaaRefFar
import Derived.Test.YtiodfpoaakcejaaWPure
import Derived.Deep.QuietTactic
import Derived.BigQuiet
namespace Go.Proofs.Ytiodfpoaakcejaa.Tm
open Go.ChangeShapes Go.WideShapes Go.ChangeAt Go.RowKit
set_option linter.unusedVariables false

theorem only_above {S : Nat → Prop} {w w1 w2 : World} (h1 : Only (fun _ => False) w w1) (h2 : Only S w1 w2) (hS : ∀ k, S k → w.heap.size ≤ k) : Only (fun _ => False) w w2 := h1.trans h2 (fun k hk e => absurd (hS k e) (by omega))

/-- Who is due first, from a time on. -/
def dueLt (n : Int) (x y : Int × Int) : Bool := decide (dist n x.2 < dist n y.2 ∨ dist n x.2 = dist n y.2 ∧ x.1 < y.1)

theorem swo_due (n : Int) : Sort.SWO (dueLt n) where
  irrefl x := by simp [dueLt]
  trans x y z h1 h2 := by simp only [dueLt, decide_eq_true_eq] at *; omega
  ntrans x y z h1 h2 := by simp only [dueLt, decide_eq_false_iff_not] at *; omega

set_option maxRecDepth 100000 in
set_option maxHeartbeats 1000000 in
theorem less_due (n : Int) (Bn Bo g c s : Nat) (i j : Nat) (x y : Int × Int) (w : World) (n0 : 0 ≤ n) (n1 : n < 4294967296) (hi : i < s) (hj : j < s) (hs : s ≤ 6000000000000)
    (cn : w.cell? ⟨Bn, 0, none⟩ = some (.int .u32 n)) (co : w.cell? ⟨Bo, 0, none⟩ = some (.slice (some ⟨g, 0, none⟩) s c))
    (x0 : w.cell? ⟨g, i * 2, none⟩ = some (.int .u32 (x.2 % 4294967296))) (x1 : w.cell? ⟨g, i * 2 + 1, none⟩ = some (.int .i64 x.1))
    (y0 : w.cell? ⟨g, j * 2, none⟩ = some (.int .u32 (y.2 % 4294967296))) (y1 : w.cell? ⟨g, j * 2 + 1, none⟩ = some (.int .i64 y.1)) :
    Calls Try.prog 36 #[.int .i64 i, .int .i64 j, .pointer (some ⟨Bn, 0, none⟩), .pointer (some ⟨Bo, 0, none⟩)] w fun e w' => e = .returned (.bool (dueLt n x y)) ∧ ∃ q, w' = w.drewN q := by
  obtain ⟨x, u⟩ := x
  obtain ⟨y, v⟩ := y
  simp only at *
  have hu : 0 ≤ u % 4294967296 ∧ u % 4294967296 < 4294967296 := by omega
  have hv : 0 ≤ v % 4294967296 ∧ v % 4294967296 < 4294967296 := by omega
  have g1 : (i : Int) < s := by omega
  have g2 : (j : Int) < s := by omega
  have g3 : (0 : Int) ≤ i := by omega
  have g4 : (0 : Int) ≤ j := by omega
  have HU := Lib.hid hu
  have HV := Lib.hid hv
  clear hu hv
  have f1 := Lib.hid (fun w => ref_far_is n (u % 4294967296) (dist n u) ⟨n0, n1⟩ HU.out (dist_mod2 n u) w)
  have f2 := Lib.hid (fun w => ref_far_is n (v % 4294967296) (dist n v) ⟨n0, n1⟩ HV.out (dist_mod2 n v) w)
  have hd : dueLt n (x, u) (y, v) = decide (dist n u < dist n v ∨ dist n u = dist n v ∧ x < y) := rfl
  rw [hd]
  have b1 := dist_lo n u
  have b2 := dist_hi n u
  have b3 := dist_lo n v
  have b4 := dist_hi n v
  clear hd
  generalize dist n u = p at *
  generalize dist n v = q at *
  go_enter Try.func36, Try.ntmps36
  go_wp2_with fail
  go_quiet ((first
    | (go_at_call 14; with_reducible exact Calls.quiet_of_same (f1.out _))
    | (go_at_call 14; with_reducible exact Calls.quiet_of_same (f2.out _))))
  by_cases hpq : p = q
  · subst hpq
    by_cases hxy : x < y
    · go_wp2_with fail
      go_quiet (fail)
      go_wp2_with fail
      go_ret
      exact ⟨by simp, _, rfl⟩
    · go_wp2_with fail
      go_quiet (fail)
      go_wp2_with fail
      go_ret
      exact ⟨by simp, _, rfl⟩
  · by_cases hlt : p < q
    · go_wp2_with fail
      go_ret
      exact ⟨by simp [hlt], _, rfl⟩
    · go_wp2_with fail
      go_ret
      exact ⟨by simp [hlt], _, rfl⟩

/-- Timers that lie half a round ahead of a time at most: who is due first is who comes first. -/
def Ahead (now : Int) (S : List (Int × Int)) : Prop := ∀ x ∈ S, now ≤ x.2 ∧ x.2 ≤ now + 2147483647

theorem dist_ahead {now k : Int} (h : now ≤ k ∧ k ≤ now + 2147483647) : dist (now % 4294967296) k = k - now := by unfold dist; omega

theorem sorted_due {now : Int} {T : List (Int × Int)} (hA : Ahead now T) (h : T.Pairwise fun x y => dueLt (now % 4294967296) y x = false) : Wh.Sorted T := by
  unfold Wh.Sorted
  rw [List.pairwise_iff_getElem] at *
  intro i j hi hj hij
  have h1 := h i j hi hj hij
  have h2 := dist_ahead (hA _ (List.getElem_mem hi))
  have h3 := dist_ahead (hA _ (List.getElem_mem hj))
  simp only [dueLt, h2, h3, decide_eq_false_iff_not] at h1
  simp only [Hp.prec, decide_eq_false_iff_not]
  omega

/-- What is known behind Due: the same timers, in order, in a row of the call's own. -/
def DueAns (S : List (Int × Int)) (w : World) (e : Ending) (w' : World) : Prop := ∃ v T, e = .returned v ∧ T.Perm S ∧ Wh.Sorted T ∧ RowAt w' w.heap.size v T ∧ Only (fun _ => False) w w'

theorem boxed_two {w w1 : World} {n : Int} {v : Value} (hO : Only (fun _ => False) (w.alloc (.cells #[.int .u32 n] 22)) w1) :
    (w1.alloc (.cells #[v] 28)).heap[w.heap.size]? = some (.cells #[.int .u32 n] 22 (0, 0)) := by
  have h1 : (w.alloc (.cells #[.int .u32 n] 22)).heap[w.heap.size]? = some (.cells #[.int .u32 n] 22 (0, 0)) := heap_alloc_new w _
  have h2 := (hO.block w.heap.size (block_there h1) (fun e => e)).trans h1
  exact (Below.heap_alloc _ _ _ (block_there h2)).trans h2

set_option maxRecDepth 100000 in
set_option maxHeartbeats 2000000 in
theorem due_any (now : Int) (B : Nat) (V : Value) (S : List (Int × Int)) (w : World) (h : RowAt w B V S) (hA : Ahead now S) (hl : S.length ≤ 6000000000000) :
    Calls Try.prog 18 #[.int .u32 (now % 4294967296), V] w (DueAns S w) := by
  have hO0 : Only (fun _ => False) w (w.alloc (.cells #[.int .u32 (now % 4294967296)] 22)) := (Only.refl _ w).alloc _
  have H := Lib.hid (h.later hO0)
  have HO0 := Lib.hid hO0
  have HA := Lib.hid hA
  have HL := Lib.hid hl
  clear h hO0 hA hl
  go_enter Try.func18, Try.ntmps18
  go_wp2_with fail
  (have hc := clone_row B V S _ H.out (by have := HL.out; omega))
  (with_reducible refine hc.mono ?_)
  clear hc
  rintro e w1 ⟨v1, rfl, hr, hO⟩
  have HR1 := Lib.hid hr
  have HO1 := Lib.hid (HO0.out.trans hO (fun _ _ e => e))
  have hb2 := boxed_two hO (v := v1)
  have hb3 : (w1.alloc (.cells #[v1] 28)).heap[w1.heap.size]? = some (.cells #[v1] 28 (0, 0)) := heap_alloc_new w1 _
  have hsz := hO.size
  have hO2 : Only (fun _ => False) w1 (w1.alloc (.cells #[v1] 28)) := (Only.refl _ w1).alloc _
  have HB2 := Lib.hid hb2
  have HB3 := Lib.hid hb3
  have HO2 := Lib.hid hO2
  have HR2 := Lib.hid (hr.later hO2)
  have HSZ := Lib.hid (show w.heap.size < w1.heap.size from by simp at hsz; omega)
  clear hr hO hb2 hb3 hsz hO2
  rcases HR1.out.cases with ⟨rfl, rfl⟩ | ⟨g, c, rfl, hg, -⟩
  · go_wp2_with (go_at_call 35; go_must (have hc := sort_due_nil #[.pointer (some ⟨w.heap.size, 0, none⟩), .pointer (some ⟨w1.heap.size, 0, none⟩)] (w1.alloc (.cells #[.slice none 0 0] 28))); (with_reducible refine hc.mono ?_); clear hc; rintro e w3 ⟨rfl, hO3⟩; have hc3 : w3.cell? ⟨w1.heap.size, 0, none⟩ = some (.slice none 0 0) := (by rw [cell_at ((hO3.block _ (block_there HB3.out) (fun e => e)).trans HB3.out)]; rfl); have HO3 := Lib.hid (HO1.out.trans (HO2.out.trans hO3 (fun _ _ e => e)) (fun _ _ e => e)); clear hO3)
    go_ret
    exact ⟨_, [], rfl, List.Perm.refl _, List.Pairwise.nil, row_nil _ _, HO3.out⟩
  · have hgw := (HR1.out.block rfl).2
    have HG := Lib.hid (show w.heap.size < g from by simp at hg; omega)
    have HGW := Lib.hid (show g < w1.heap.size from hgw)
    clear hg hgw
    obtain ⟨n, hn⟩ : ∃ n, S.length = n := ⟨_, rfl⟩
    rw [hn] at HR1 HR2 HB3 HB2 HO2
    have HN := Lib.hid hn
    have hns : n ≤ 6000000000000 := by have := HL.out; omega
    rw [hn]
    clear hn
    have hsort := Lib.hid (sort_due (dueLt (now % 4294967296)) (swo_due _) _ g n c #[.pointer (some ⟨w.heap.size, 0, none⟩), .pointer (some ⟨w1.heap.size, 0, none⟩)] S (w1.alloc (.cells #[.slice (some ⟨g, 0, none⟩) n c] 28)) HR2.out HN.out hns
      (fun W T hT hrow hO i j hi hj => by
        have h1 := (hO.block _ (block_there HB2.out) (by have := HG.out; omega)).trans HB2.out
        have h2 := (hO.block _ (block_there HB3.out) (by have := HGW.out; omega)).trans HB3.out
        have ci := hrow.cell (i := i) (by omega)
        have cj := hrow.cell (i := j) (by omega)
        exact less_due _ _ _ g c n i j (T.getD i (0, 0)) (T.getD j (0, 0)) W (by omega) (by omega) hi hj hns (by rw [cell_at h1]; rfl) (by rw [cell_at h2]; rfl) ci.1 ci.2 cj.1 cj.2))
    go_wp2_with (go_at_call 35; go_must (have hc := hsort.out); (with_reducible refine hc.mono ?_); clear hc; rintro e w3 ⟨rfl, T, hP, hS, hr3, hO3⟩; have hc3 : w3.cell? ⟨w1.heap.size, 0, none⟩ = some (.slice (some ⟨g, 0, none⟩) n c) := (by rw [cell_at ((hO3.block _ (block_there HB3.out) (by have := HGW.out; omega)).trans HB3.out)]; rfl); have HP := Lib.hid hP; have HSO := Lib.hid hS; have HR3 := Lib.hid hr3; have HO3 := Lib.hid (only_above (S := fun x => x = g) (HO1.out.trans HO2.out (fun _ _ e => e)) hO3 (fun k e => by have := HG.out; omega)); clear hO3 hP hS hr3)
    go_ret
    exact ⟨_, T, rfl, HP.out, sorted_due (fun x hx => HA.out x (HP.out.mem_iff.1 hx)) HSO.out, HR3.out.base (by simp), HO3.out⟩
end Go.Proofs.Ytiodfpoaakcejaa.Tm
