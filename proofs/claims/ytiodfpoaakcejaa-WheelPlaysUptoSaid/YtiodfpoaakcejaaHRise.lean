/- The contract of rise. -/
import Derived.Test.YtiodfpoaakcejaaHSwap
namespace Go.Proofs.Ytiodfpoaakcejaa.Hp
open Go.ChangeShapes Go.WideShapes Go.ChangeAt Go.RowKit Go.Maps
set_option linter.unusedVariables false

theorem Rep.later {p o T : Nat} {F : Nat → Option Value} {g b cap : Nat} {w w' : World} {L : List (Int × Int)} (h : Rep p o T F g b cap w L) (hO : Only (fun _ => False) w w') : Rep p o T F g b cap w' L := by
  obtain ⟨D, hD, hP⟩ := h.map
  obtain ⟨cur, h1, -⟩ := h.block
  refine ⟨h.self.moved (hO.block p h.self.there (fun e => e)), owns_kept h.items hO (fun _ _ e => e), ⟨D, ?_, hP⟩, h.apart, h.wf, h.len⟩
  obtain ⟨es, clock, h2, h3⟩ := hD
  exact ⟨es, clock, (hO.block b (block_there h2) (fun e => e)).trans h2, h3⟩

theorem Rep.below {p o T : Nat} {F : Nat → Option Value} {g b cap : Nat} {w w' : World} {L : List (Int × Int)} (h : Rep p o T F g b cap w L) (hb : Below w.heap.size w w') : Rep p o T F g b cap w' L := h.later (Only.of_below hb)

theorem Rep.cells {p o T : Nat} {F : Nat → Option Value} {g b cap : Nat} {w : World} {L : List (Int × Int)} (h : Rep p o T F g b cap w L) : w.cell? ⟨p, o, none⟩ = some (.slice (some ⟨g, 0, none⟩) L.length cap) ∧ w.cell? ⟨p, o + 1, none⟩ = some (.map (some b)) := by
  exact ⟨h.self.c0, h.self.c1⟩

theorem precedes_is (x y : Int × Int) (v : Bool) (h : prec x y = v) (w : World) :
    Calls Try.prog 47 #[itemVal x, itemVal y] w fun e w' => e = .returned (.bool v) ∧ Below w.heap.size w w' := by
  subst h; exact precedes_any x y w

/-- What a rise has done when it has come to place c. -/
def Risen (L0 : List (Int × Int)) (i c : Nat) (L : List (Int × Int)) : Prop := L.Perm L0 ∧ L.length = L0.length ∧ RiseOk L c i

set_option maxRecDepth 100000 in
set_option maxHeartbeats 1000000 in
theorem rise_any (p o T : Nat) (F : Nat → Option Value) (g b cap i : Nat) (L0 : List (Int × Int)) (w : World) (h : Rep p o T F g b cap w L0) (hi : i < L0.length) (hR : RiseOk L0 i i) :
    Calls Try.prog 40 #[.pointer (some ⟨p, o, none⟩), .int .i64 i] w (Turned p o T F g b cap w (fun L => L.Perm L0 ∧ SinkOk L i)) := by
  have HR := Lib.hid h
  have H0 := Lib.hid hR
  clear h hR
  go_enter Try.func40, Try.ntmps40
  go_wp2_with fail
  go_loopw [1] (fun c wr => ∃ (k : Nat) (L : List (Int × Int)), c = .int .i64 k ∧ Risen L0 i k L ∧ Rep p o T F g b cap wr L ∧ Only (fun k => k = g ∨ k = b) w wr) (fun c _ => (intOf c).toNat)
  case atStart => exact ⟨i, L0, rfl, ⟨List.Perm.refl _, rfl, H0.out⟩, HR.out, Only.refl _ w⟩
  case round =>
    obtain ⟨k, L, rfl, hP, hrep, hO⟩ := hrel
    obtain ⟨hp1, hp2, hp3⟩ := hP
    have hkl : k < L.length := by have := hp3.1; omega
    have hln := hrep.len
    have HREP := Lib.hid hrep
    have HO := Lib.hid hO
    have HP1 := Lib.hid hp1
    have HP2 := Lib.hid hp2
    have HP3 := Lib.hid hp3
    clear hrep hO hp1 hp2 hp3
    by_cases hk0 : k = 0
    · subst hk0
      go_wp2_with fail
      go_end0
      exact ⟨rfl, L, ⟨HP1.out, (rise_done HP3.out (Or.inl rfl)).1⟩, HREP.out, HO.out⟩
    · have hkp : (0 : Int) < k := by omega
      have hq : ((k : Int) - 1) / 2 = (((k - 1) / 2 : Nat) : Int) := by omega
      have hql : (k - 1) / 2 < L.length := by omega
      generalize hqe : (k - 1) / 2 = q at *
      have g1 : (k : Int) < L.length := by omega
      have g2 : (q : Int) < L.length := by omega
      have g3 : (0 : Int) ≤ k := by omega
      have g4 : (0 : Int) ≤ q := by omega
      go_upto_region 2 with fail
      rw [hq]
      have hrd : Rep p o T F g b cap wr.drew L := HREP.out.later ((Only.refl _ wr).drew)
      obtain ⟨c0, c1⟩ := hrd.cells
      obtain ⟨x0, x1, -⟩ := row_cell hrd.items hkl
      obtain ⟨y0, y1, -⟩ := row_cell hrd.items hql
      have HRD := Lib.hid hrd
      clear hrd hq
      have HS : Hid (Only (fun k => k = g ∨ k = b) w wr.drew) := Lib.hid HO.out.drew
      refine wp_region_still_tail 14 (by kernel_rfl) (by kernel_rfl) ?_
      show wpStill _ _ wr.drew (fun a' => wpList _ _ _ _ a' wr.drew) _ _
      generalize wr.drew = w2 at *
      simp only [List.take_succ_cons, List.take_zero, List.drop_succ_cons, List.drop_zero]
      repeat still_step
      refine wpStill_nil ?_
      rcases Bool.eq_false_or_eq_true (prec (it L k) (it L q)) with hv | hv
      rotate_left
      ·
        go_wp2_with (go_at_call 47; refine (precedes_is (it L k) (it L q) false hv _).mono ?_; rintro e w3 ⟨rfl, hb3⟩)
        go_end0
        exact ⟨rfl, L, ⟨HP1.out, (rise_done HP3.out (Or.inr (by rw [hqe]; exact hv))).1⟩, HRD.out.below hb3, HS.out.trans (Only.of_below hb3) (fun _ _ e => e)⟩
      · go_wp2_with (first
          | (go_at_call 47; refine (precedes_is (it L k) (it L q) true hv _).mono ?_; rintro e w3 ⟨rfl, hb3⟩; have HB3 := Lib.hid hb3; clear hb3)
          | (go_at_call 48; refine (swap_any p o T F g b cap k q L _ (HRD.out.below HB3.out) hkl hql).mono ?_; rintro e w4 ⟨rfl, L4, hL4, hr4, ho4⟩; have HL4 := Lib.hid hL4; have HR4 := Lib.hid hr4; have HO4 := Lib.hid ho4; clear hL4 hr4 ho4))
        go_roundw
        case rel =>
          obtain rfl := HL4.out
          have hst := rise_step (L := L) (c := k) (i := i) (by omega) (by rw [HP2.out]; exact hi) HP3.out (by rw [hqe]; exact hv)
          rw [hqe] at hst
          exact ⟨q, _, rfl, ⟨(swap_perm hkl hql).trans HP1.out, by rw [swapL_len, HP2.out], hst⟩, HR4.out, (HS.out.trans (Only.of_below HB3.out) (fun _ _ e => e)).trans HO4.out (fun _ _ e => e)⟩
        case measure => simp [intOf]; omega
end Go.Proofs.Ytiodfpoaakcejaa.Hp
