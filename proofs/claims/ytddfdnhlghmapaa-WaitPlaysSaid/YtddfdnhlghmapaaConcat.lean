/- slices.Grow at a nil slice, and slices.Concat of slices of numbers. -/
import Derived.Test.YtddfdnhlghmapaaAppend
import Derived.Lib.AppendZeros
import Derived.Laws.AppendOwnNone
namespace Go.Proofs.Ytddfdnhlghmapaa
open Go.ChangeShapes Go.WideShapes Go.ChangeAt Go.RowKit
set_option linter.unusedVariables false

theorem grow_zero (w : World) : Calls Try.prog 65 #[.slice none 0 0, .int .i64 0] w (fun e w' => ∃ v, e = .returned v ∧ Ints w' w.heap.size v [] ∧ Only (fun _ => False) w w') := by
  go_enter Try.func65, Try.ntmps65
  go_wp2
  go_ret
  exact ⟨_, rfl, ints_nil _ _, Only.refl _ _⟩

set_option maxRecDepth 100000 in
theorem grow_pos (n : Nat) (h0 : 0 < n) (h : n ≤ 1000000) (w : World) : Calls Try.prog 65 #[.slice none 0 0, .int .i64 n] w (fun e w' => ∃ v, e = .returned v ∧ Ints w' w.heap.size v [] ∧ Only (fun _ => False) w w') := by
  obtain ⟨i0, hi, hz0, hz1, hz2⟩ := info_parts Try.infoInt
  have hrun := Lib.hid (Lib.run_append_nil_zeros (P := Try.prog) w 28 3 28 3 i0 (.int .i64 0) .i64 .i64 Try.underlying28 Try.underlying3 hi hz0 n h0 (by omega) (by omega) (by rw [hz2]; omega))
  have hge := grownCap_ge w n 0 3
  have hle := grownCap_le_maxLen w n 0 3 (by unfold maxLen; omega)
  clear hi hz0 hz1 hz2
  generalize grownCap w n 0 3 = c at *
  have hs : (Builtin.zeroCells (Value.cells (.int .i64 0)) n ++ Builtin.zeroCells (Value.cells (.int .i64 0)) (c - n)).size = c * 1 := by
    rw [Array.size_append, size_zeroCells, size_zeroCells]
    simp [Value.cells]; omega
  have HO := Lib.hid (World.ownsRow_made (e := 3) w.drew (Builtin.zeroCells (Value.cells (.int .i64 0)) n ++ Builtin.zeroCells (Value.cells (.int .i64 0)) (c - n)) c (Nat.le_refl _) hle hs)
  have HB := Lib.hid (((Only.refl (fun _ => False) w).drew).alloc (.cells (Builtin.zeroCells (Value.cells (.int .i64 0)) n ++ Builtin.zeroCells (Value.cells (.int .i64 0)) (c - n)) 3))
  clear hs hle
  generalize Builtin.zeroCells (Value.cells (.int .i64 0)) n ++ Builtin.zeroCells (Value.cells (.int .i64 0)) (c - n) = cur at *
  go_enter Try.func65, Try.ntmps65
  go_wp2_with (at_builtin; refine Lib.wpList_append_run _ rfl _ _ _ _ rfl _ _ rfl rfl _ _ hrun.out ?_)
  go_ret
  exact ⟨_, rfl, HO.out, HB.out⟩

/-- A slice of slices of numbers: the slices lie in cells, and each reads as its numbers. -/
structure Rows (w : World) (p : Nat) (vs : List Value) (zs : List (List Int)) : Prop where
  len : vs.length = zs.length
  cells : ∀ j, j < vs.length → w.cell? ⟨p, j, none⟩ = some (vs.getD j (.slice none 0 0))
  nums : ∀ j, j < vs.length → Nums w (vs.getD j (.slice none 0 0)) (zs.getD j [])
  nil : ∀ j l c, j < vs.length → vs.getD j (.slice none 0 0) = .slice none l c → c = 0

theorem Rows.later {w w' : World} {p : Nat} {vs : List Value} {zs : List (List Int)} (h : Rows w p vs zs) (hO : Only (fun _ => False) w w') : Rows w' p vs zs :=
  ⟨h.len, fun j hj => by
    have := h.cells j hj
    rw [← this]; unfold World.cell?; rw [hO.block p (block_lt this) (fun e => e)], fun j hj => (h.nums j hj).later hO, h.nil⟩

/-- How many numbers the first k have. -/
def lens (zs : List (List Int)) (k : Nat) : Nat := ((zs.take k).flatten).length

theorem flat_succ (zs : List (List Int)) {k : Nat} (h : k < zs.length) : (zs.take (k + 1)).flatten = (zs.take k).flatten ++ zs.getD k [] := by
  rw [List.take_succ_eq_append_getElem h, List.flatten_append]
  simp [List.getD, h]

theorem lens_succ (zs : List (List Int)) {k : Nat} (h : k < zs.length) : lens zs (k + 1) = lens zs k + (zs.getD k []).length := by
  unfold lens; rw [flat_succ zs h, List.length_append]

theorem lens_le (zs : List (List Int)) (k : Nat) : lens zs k ≤ zs.flatten.length := by
  unfold lens
  conv => rhs; rw [← List.take_append_drop k zs, List.flatten_append, List.length_append]
  omega

theorem take_all {α : Type} (zs : List α) {k : Nat} (h : zs.length ≤ k) : zs.take k = zs := List.take_of_length_le h

set_option maxRecDepth 100000 in
set_option maxHeartbeats 2000000 in
theorem concat_ints (p cap n : Nat) (vs : List Value) (zs : List (List Int)) (w : World) (h : Rows w p vs zs) (hv : vs.length = n) (hn : zs.flatten.length ≤ 1000000) (hn2 : n ≤ 1000000) :
    Calls Try.prog 25 #[.slice (some ⟨p, 0, none⟩) n cap] w (fun e w' => ∃ v, e = .returned v ∧ Ints w' w.heap.size v zs.flatten ∧ Only (fun _ => False) w w') := by
  have H := Lib.hid h
  have HV := Lib.hid hv
  have HZ := Lib.hid (h.len.symm.trans hv)
  have HN := Lib.hid hn
  clear h hv hn
  have hg : Hid (Calls Try.prog 65 #[.slice none 0 0, .int .i64 (lens zs n : Int)] w (fun e w' => ∃ v, e = .returned v ∧ Ints w' w.heap.size v [] ∧ Only (fun _ => False) w w')) := by
    have := lens_le zs n
    have := HN.out
    by_cases h0 : lens zs n = 0
    · show Calls _ _ _ _ _
      rw [h0]; exact grow_zero w
    · exact Lib.hid (grow_pos _ (by omega) (by omega) w)
  go_enter Try.func25, Try.ntmps25
  go_wp2_with fail
  go_loop [3, 5, 11, 12, 13, 14, 15, 16, 17, 18, 19, 20, 22] (fun s _ i _ _ _ _ _ _ _ _ _ _ => ∃ k : Nat, k ≤ n ∧ i = .int .i64 k ∧ s = .int .i64 (lens zs k : Int)) (fun _ _ i _ _ _ _ _ _ _ _ _ _ => n - (intOf i).toNat)
  case atStart => exact ⟨0, by omega, rfl, rfl⟩
  case round =>
    obtain ⟨k, hk, rfl, rfl⟩ := hrel
    by_cases hlt : k < n
    · have hcell := H.out.cells k (by rw [HV.out]; exact hlt)
      obtain ⟨a4, c4, he4, -⟩ := H.out.nums k (by rw [HV.out]; exact hlt)
      rw [he4] at hcell
      have hls := lens_succ zs (k := k) (by rw [HZ.out]; exact hlt)
      have hle := lens_le zs (k + 1)
      have := HN.out
      have HLS := Lib.hid hls
      generalize (zs.getD k []).length = m at *
      have hb1 : lens zs k + m ≤ 1000000 := by omega
      clear hls hle this he4
      have k1 : (k : Int) < n := by omega
      have k2 : (0 : Int) ≤ k := by omega
      go_wp2_with fail
      go_round
      case rel => exact ⟨k + 1, by omega, by go_num, by rw [HLS.out]; go_num⟩
      case measure => simp [intOf]; omega
    · have hkn : k = n := by omega
      subst hkn
      go_wp2_with (go_at_call 65; (with_reducible refine hg.out.mono ?_); rintro e w1 ⟨v, rfl, hown, hO⟩; have HW := Lib.hid hown; have HO := Lib.hid hO; clear hown hO hg)
      go_loopw [6, 8, 27, 28, 29, 30, 31, 32, 33, 34] (fun v _ i _ _ _ _ _ _ _ wr => ∃ j : Nat, j ≤ k ∧ i = .int .i64 j ∧ Ints wr w.heap.size v (zs.take j).flatten ∧ Only (fun _ => False) w wr) (fun _ _ i _ _ _ _ _ _ _ _ => k - (intOf i).toNat)
      case atStart => exact ⟨0, by omega, rfl, by simpa using HW.out, HO.out⟩
      case round =>
        obtain ⟨j, hj, rfl, hown, hO⟩ := hrel
        have HW2 := Lib.hid hown
        have HO2 := Lib.hid hO
        clear hown hO
        by_cases hlt2 : j < k
        · have HR := Lib.hid (H.out.later HO2.out)
          have hcell := HR.out.cells j (by rw [HV.out]; exact hlt2)
          have HX := Lib.hid (HR.out.nums j (by rw [HV.out]; exact hlt2))
          have HNI := Lib.hid (fun l c => HR.out.nil j l c (by rw [HV.out]; exact hlt2))
          have HF := Lib.hid (flat_succ zs (k := j) (by rw [HZ.out]; exact hlt2))
          have HL := Lib.hid (show ((zs.take j).flatten).length + (zs.getD j []).length ≤ 17000000000000 by
            have h1 := lens_succ zs (k := j) (by rw [HZ.out]; exact hlt2)
            have h2 := lens_le zs (j + 1)
            have h3 := HN.out
            unfold lens at h1 h2; omega)
          have HS := Lib.hid HO2.out.size
          generalize vs.getD j (.slice none 0 0) = V at *
          have j1 : (j : Int) < k := by omega
          have j2 : (0 : Int) ≤ j := by omega
          go_wp2_with (at_builtin; go_must (refine append_nums rfl _ _ rfl w.heap.size _ _ (zs.take j).flatten (zs.getD j []) rfl rfl HW2.out HX.out HNI.out HL.out HS.out ?_); go_must (intro v7 w7 hr7 hO7); have HR7 := Lib.hid hr7; have HO7 := Lib.hid (HO2.out.trans hO7 (fun k hk e => absurd hk (by have := (HW2.out.block e).1; omega))); clear hr7 hO7)
          go_roundw
          case rel => exact ⟨j + 1, by omega, by go_num, by rw [HF.out]; exact HR7.out, HO7.out⟩
          case measure => simp [intOf]; omega
        · have hjk : j = k := by omega
          have HE := Lib.hid (take_all zs (k := j) (by rw [HZ.out, hjk]; exact Nat.le_refl _))
          go_wp2_with fail
          go_ret
          exact ⟨_, rfl, by have := HW2.out; rw [HE.out] at this; exact this, HO2.out⟩
end Go.Proofs.Ytddfdnhlghmapaa
