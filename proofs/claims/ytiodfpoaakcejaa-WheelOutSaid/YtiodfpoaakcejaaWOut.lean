/- The walk of WheelOut. -/
import Derived.Test.YtiodfpoaakcejaaTwoW
import Derived.Test.YtiodfpoaakcejaaDel
namespace Go.Proofs.Ytiodfpoaakcejaa.Wh
open Go.ChangeShapes Go.WideShapes Go.ChangeAt Go.RowKit Go.Maps
open Go.Proofs.Ytiodfpoaakcejaa.Hp
set_option linter.unusedVariables false

/-- A box of the call's own. -/
def Boxed (w : World) (b : Nat) (i : Int) : Prop := w.heap[b]? = some (.cells #[.int .i64 i] 3 (0, 0))

theorem Boxed.cell {w : World} {b : Nat} {i : Int} (h : Boxed w b i) : w.cell? ⟨b, 0, none⟩ = some (.int .i64 i) := by rw [cell_at h]; rfl
theorem Boxed.frozen {w : World} {b : Nat} {i : Int} (h : Boxed w b i) : w.frozen? ⟨b, 0, none⟩ = false := frozen_at h 0
theorem Boxed.keep {S : Nat → Prop} {w w' : World} {b : Nat} {i : Int} (h : Boxed w b i) (hO : Only S w w') (hb : ¬ S b) : Boxed w' b i := (hO.block b (block_there h) hb).trans h
theorem Boxed.set {w : World} {b : Nat} {i : Int} (h : Boxed w b i) (j : Int) : Boxed (w.setCell ⟨b, 0, none⟩ (.int .i64 j)) b j := by
  unfold Boxed; rw [heap_setCell_same w b 0 _ 3 _ h]; rfl

theorem ids_without (S : Timers) (t i : Int) : idsOf (goers (without S i) t) = notOne (idsOf (goers S t)) i := by
  unfold without idsOf notOne
  rw [goers_filter, List.filter_map]
  congr 1
  congr 1
  funext x
  simp [Function.comp]

theorem timersOf_all {a : Int} {xs : List Int} : goers (timersOf a xs xs.length) (a + 5000) = goers (timersOf a xs xs.length) (a + 5000) ∧ (goers (timersOf a xs xs.length) (a + 5000)).length = xs.length := by
  refine ⟨rfl, ?_⟩
  have h1 := goers_len (timersOf a xs xs.length) (a + 5000)
  have h2 : stay (timersOf a xs xs.length) (a + 5000) = [] := by
    unfold stay
    rw [List.filter_eq_nil_iff]
    intro x hx
    obtain ⟨i, -, rfl⟩ := List.mem_map.1 hx
    have := restOf_hi (xs.getD i 0) 5000 (by omega)
    simp only [decide_eq_true_eq]; omega
  rw [h2, timersOf_len] at h1
  simpa using h1

theorem timersOf_mem {a : Int} {xs : List Int} {i : Nat} (h : i < xs.length) : ((i : Int), a + restOf (xs.getD i 0) 5000) ∈ timersOf a xs xs.length := List.mem_map.2 ⟨i, List.mem_range.2 h, rfl⟩

theorem without_none (S : Timers) (i : Int) : ∀ x ∈ without S i, x.1 ≠ i := by
  intro x hx
  have := (List.mem_filter.1 hx).2
  simpa using this

theorem outing_box {B C D p q b : Nat} {t u n : Int} {R U : Timers} {w : World} (h : TwoW B C D p q t u R U w) (hb : Boxed w b n) (hB : b < B) (hD : w.heap.size = D) (i : Int) :
    TwoW B C D p q t u R U (w.setCell ⟨b, 0, none⟩ (.int .i64 i)) ∧ Boxed (w.setCell ⟨b, 0, none⟩ (.int .i64 i)) b i := by
  have hO : Only (· = b) w (w.setCell ⟨b, 0, none⟩ (.int .i64 i)) := Only.setCell (S := fun x => x = b) (Only.refl _ w) (p := ⟨b, 0, none⟩) rfl _
  have := h.bc
  exact ⟨⟨h.one.keep hO (fun k _ e f => by omega), h.two.keep hO (fun k _ e f => by omega), h.bc, h.cd, Nat.le_trans h.size hO.size⟩, hb.set i⟩

theorem outing_keep {B C D p q b : Nat} {t u n : Int} {R U : Timers} {w w' : World} (h : TwoW B C D p q t u R U w) (hB : b < B) (hb : Boxed w b n) (hO : Only (fun k => B ≤ k ∧ k < C) w w') : Boxed w' b n :=
  hb.keep hO (fun e => by omega)

theorem outing_keep2 {B C D p q b : Nat} {t u n : Int} {R U : Timers} {w w' : World} (h : TwoW B C D p q t u R U w) (hB : b < B) (hb : Boxed w b n) (hO : Only (fun k => C ≤ k ∧ k < D) w w') : Boxed w' b n :=
  hb.keep hO (fun e => by have := h.bc; omega)

set_option maxRecDepth 100000 in
set_option maxHeartbeats 2000000 in
theorem out_start (a : Int) (ad : Option Addr) (len cap : Nat) (zs : List Int) (n : Int) (w : World) (ha : (Lit.int .u32 a).wf = true) (h : IsRow .i64 w ad len cap zs) (hn : (Lit.int .i64 n).wf = true) :
    Calls Try.prog 6 #[.int .u32 a, .slice ad len cap, .int .i64 n] w fun e w' => e = .returned (.bool true) ∧ Below w.heap.size w w' := by
  obtain ⟨xs, hxl, hx, hc1, hc2⟩ := nums_cut h 100
  obtain ⟨a0, a1⟩ := u32_bd ha
  have HX := Lib.hid hx
  have HXL := Lib.hid hxl
  have HNW := Lib.hid hn
  have hx2 : xs.length ≤ 100 := by omega
  clear h hx hxl ha hn
  have hbx : Boxed (w.alloc (.cells #[.int .i64 n] 3)) w.heap.size n := heap_alloc_new w _
  have hO0 : Only (fun _ => False) w (w.alloc (.cells #[.int .i64 n] 3)) := (Only.refl _ w).alloc _
  have hsz : w.heap.size < (w.alloc (.cells #[.int .i64 n] 3)).heap.size := by simp
  have HBX := Lib.hid hbx
  have HO0 := Lib.hid hO0
  have HSZ := Lib.hid hsz
  clear hbx hO0 hsz
  go_enter Try.func6, Try.ntmps6
  go_upto_region 3 with (go_at_call 21; refine (begun_any _).mono ?_; rintro e w1 ⟨rfl, hO⟩; have HO1 := Lib.hid (HO0.out.trans hO (fun _ _ e => e)); have HB1 := Lib.hid (HBX.out.keep hO (fun e => e)); have HS1 := Lib.hid (Nat.lt_of_lt_of_le HSZ.out hO.size); clear hO)
  go_cut [1] (fun s1 wx => s1 = .slice ad xs.length cap ∧ wx = w1)
  case first =>
    have HE := HXL.out
    rcases Nat.lt_or_ge 100 len with h200 | h200
    rotate_left
    · have h201 : (len : Int) ≤ 100 := by omega
      rw [Nat.min_eq_left (by omega)] at HE
      clear HX HXL
      have HE := Lib.hid HE
      go_wp2
      go_meet
      exact ⟨by rw [HE.out, show (min (len : Int) 100).toNat = len by omega], rfl⟩
    · have h201 : (100 : Int) < len := by omega
      rw [Nat.min_eq_right (by omega)] at HE
      clear HX HXL
      have HE := Lib.hid HE
      go_wp2
      go_meet
      exact ⟨by rw [HE.out, show (min (len : Int) 100).toNat = 100 by omega], rfl⟩
  case rest =>
    obtain ⟨rfl, rfl⟩ := hcut
    generalize wc = w1 at *
    have HX1 := Lib.hid (HX.out.later HO1.out)
    clear HX HXL hc1 hc2 HBX HO0
    go_upto_region 8 with (first
      | (go_at_call 22; refine (timers_any _ xs a _ a0 a1 HX1.out (by omega)).mono ?_; rintro e w2 ⟨p, rfl, hw, hO⟩; have HW := Lib.hid hw.there; have HO2 := Lib.hid hO; have HX2 := Lib.hid (HX1.out.later hO); clear hw hO HX1)
      | (go_at_call 22; refine (timers_any _ xs a _ a0 a1 HX2.out (by omega)).mono ?_; rintro e w3 ⟨q, rfl, hw, hO⟩; have HT := Lib.hid (twoW_made HW.out HO2.out.size hw.there hO); have HO3 := Lib.hid (HO1.out.trans (HO2.out.trans hO (fun _ _ e => e)) (fun _ _ e => e)); have HB3 := Lib.hid (HB1.out.keep (HO2.out.trans hO (fun _ _ e => e)) (fun e => e)); clear hw hO HW HO2 HX2 HB1 HO1))
    have HC := Lib.hid (Nat.le_of_lt HS1.out)
    have HSZ3 := HS1
    generalize w1.heap.size = B at *
    generalize w2.heap.size = C at *
    obtain ⟨D, hD⟩ : ∃ D, w3.heap.size = D := ⟨_, rfl⟩
    rw [hD] at HT
    have HD := Lib.hid hD
    clear hD
    have c0 := HB3.out.cell
    have f0 := HB3.out.frozen
    by_cases hz : xs.length = 0
    · have hxn : xs = [] := List.length_eq_zero_iff.1 hz
      subst hxn
      go_wp2_with (go_at_call 15; go_must (have hc := wout_none HT.out.one HNW.out (by simp [timersOf])); (with_reducible refine hc.mono ?_); clear hc; rintro e w4 ⟨rfl, rfl⟩)
      go_ret
      exact ⟨rfl, HO3.out.below (Nat.le_refl _) (fun _ e => e.elim)⟩
    · have hz1 : (0 : Int) < xs.length := by omega
      have hz2 : ¬ (xs.length : Int) = 0 := by omega
      have r0 := restOf_lo n xs.length hz1
      have r1 := restOf_hi n xs.length hz1
      obtain ⟨i, hi⟩ := Int.eq_ofNat_of_zero_le r0
      rw [hi] at r0 r1
      have HI := Lib.hid hi
      have hil : i < xs.length := by omega
      have hmem := timersOf_mem (a := a) hil
      have HM := Lib.hid hmem
      clear hi hmem hz
      have hbox := outing_box HT.out HB3.out HSZ3.out HD.out (i : Int)
      have HT4 := Lib.hid hbox.1
      have HB4 := Lib.hid hbox.2
      clear hbox
      have hfb : (w3.setCell ⟨w.heap.size, 0, none⟩ (.int .i64 i)).cell? ⟨w.heap.size, 0, none⟩ = some (.int .i64 i) := HB4.out.cell
      have hO4 : Only (· = w.heap.size) w3 (w3.setCell ⟨w.heap.size, 0, none⟩ (.int .i64 i)) := Only.setCell (S := fun x => x = w.heap.size) (Only.refl _ w3) (p := ⟨w.heap.size, 0, none⟩) rfl _
      have HO4 := Lib.hid (only_above (S := fun x => x = w.heap.size) HO3.out hO4 (fun k e => by omega))
      clear hO4
      go_upto_region 11 with (go_at_call 23; go_must (have hc := rest_any n xs.length (by omega) (by omega) w3; rw [HI.out] at hc); (with_reducible refine hc.mono ?_); clear hc; rintro e w4 ⟨rfl, rfl⟩)
      generalize w3.setCell ⟨w.heap.size, 0, none⟩ (.int .i64 i) = w4 at *
      clear c0 f0 HT HB3 HO3
      have HWF := Lib.hid (show (Lit.int .i64 (i : Int)).wf = true from i64_wf (by omega))
      have HALL := Lib.hid (timersOf_all (a := a) (xs := xs)).2
      have HL := Lib.hid (show (idsOf (goers (timersOf a xs xs.length) (a + 5000))).length = xs.length by simp only [idsOf, List.length_map]; exact HALL.out)
      go_wp2_with (first
        | (go_at_call 15; go_must (have hc := wout HT4.out.one HM.out); (with_reducible refine hc.mono ?_); clear hc; rintro e w5 ⟨rfl, hw, hO⟩; have HT5 := Lib.hid (HT4.out.stepOne hw hO); have HB5 := Lib.hid (outing_keep HT4.out HSZ3.out HB4.out hO); have c5 := HB5.out.cell; have HO5 := Lib.hid (HT4.out.onlyOne HC.out HO4.out hO); clear hw hO)
        | (go_at_call 15; go_must (have hc := wout_none HT5.out.one HWF.out (without_none _ _)); (with_reducible refine hc.mono ?_); clear hc; rintro e w6 ⟨rfl, rfl⟩)
        | (go_at_call 17; go_must (have hc := wstep_to (a + 5000) ((a + 5000) % 4294967296) HT5.out.one HT5.out.thereOne rfl (by omega) (by omega) (by omega)); (with_reducible refine hc.mono ?_); clear hc; rintro e w6 ⟨v6, rfl, hrow, hw, hO⟩; have HT6 := Lib.hid (HT5.out.stepOne hw hO); have HB6 := Lib.hid (outing_keep HT5.out HSZ3.out HB5.out hO); have HR6 := Lib.hid (hrow.base HT5.out.size); have HO6 := Lib.hid (HT5.out.onlyOne HC.out HO5.out hO); clear hw hO hrow)
        | (go_at_call 17; go_must (have hc := wstep_to (a + 5000) ((a + 5000) % 4294967296) HT6.out.two HT6.out.thereTwo rfl (by omega) (by omega) (by omega)); (with_reducible refine hc.mono ?_); clear hc; intro e w7 hs; obtain ⟨a7, c7, rfl, hrow, hw, hO⟩ := hs.open HALL.out; have HB7 := Lib.hid (outing_keep2 HT6.out HSZ3.out HB6.out hO); have HR7 := Lib.hid hrow; have HP7 := Lib.hid (HT6.out.rowTwo HR6.out (Nat.le_refl _) hO); have HO7 := Lib.hid (HT6.out.onlyTwo HC.out HO6.out hO); clear hw hO hrow hs)
        | (go_at_call 25; go_must (have hc := clone_ints _ _ w7 HR7.out.nums HR7.out.nil_cap (by rw [HL.out]; omega)); (with_reducible refine hc.mono ?_); clear hc; rintro e w8 ⟨v8, rfl, hrow, hO⟩; obtain ⟨g8, c8, rfl, hg1, hg2, hrow2⟩ := hrow.at_block HL.out (by omega); have HR8 := Lib.hid hrow2; have HB8 := Lib.hid (HB7.out.keep hO (fun e => e)); have HG8 := Lib.hid hg1; have HP8 := Lib.hid (HP7.out.later hO); have HO8 := Lib.hid (HO7.out.trans hO (fun _ _ e => e)); have HZ7 := Lib.hid (block_there HB7.out); have HPB := Lib.hid (fun k hk => (HP7.out.block (g := k) hk).2); clear hrow hrow2 hO hg1 hg2)
        | (go_at_call 24; go_loud (have hc := delete_one g8 xs.length c8 i w.heap.size _ (idsOf (goers (timersOf a xs xs.length) (a + 5000))) w8 HR8.out HL.out.symm (block_there HB8.out) (by have := HZ7.out; have := HG8.out; omega) HB8.out.cell (by rw [HL.out]; omega)); go_loud (with_reducible refine hc.mono ?_); clear hc; rintro e w9 ⟨v9, rfl, hn9, hO⟩; have HN9 := Lib.hid hn9; have HP9 := Lib.hid (HP8.out.keep hO (fun k hk e => by have := HPB.out k hk; have := HG8.out; omega)); have HO9 := Lib.hid (only_above (S := fun x => x = g8) HO8.out hO (fun k e => by have := HG8.out; have := HO7.out.size; omega)); clear hn9 hO)
        | (go_at_call 19; go_must (have h9 := HP9.out.nums; rw [ids_without] at h9; have hc := eq_same v6 v9 _ w9 h9 HN9.out (by have := List.length_filter_le (fun x : Int => !decide (x = (i : Int))) (idsOf (goers (timersOf a xs xs.length) (a + 5000))); rw [HL.out] at this; unfold notOne; omega)); (with_reducible refine hc.mono ?_); clear hc h9; rintro e w10 ⟨rfl, hO⟩; have HO10 := Lib.hid (HO9.out.trans hO (fun _ _ e => e)); clear hO))
      go_ret
      exact ⟨rfl, HO10.out.below (Nat.le_refl _) (fun _ e => e.elim)⟩
end Go.Proofs.Ytiodfpoaakcejaa.Wh
