/- The contract of sink. -/
import Derived.Test.YtiodfpoaakcejaaHRise
namespace Go.Proofs.Ytiodfpoaakcejaa.Hp
open Go.ChangeShapes Go.WideShapes Go.ChangeAt Go.RowKit Go.Maps
set_option linter.unusedVariables false

/-- Place f holds the first of the item at c and of those below it that lie ahead of place ch. -/
def Best (L : List (Int × Int)) (c f ch : Nat) : Prop :=
  (f = c ∨ (2 * c + 1 ≤ f ∧ f < ch ∧ f < L.length ∧ prec (it L f) (it L c) = true)) ∧ (∀ j, 2 * c + 1 ≤ j → j < ch → j < L.length → prec (it L j) (it L f) = false) ∧ 2 * c + 1 ≤ ch ∧ ch ≤ 2 * c + 3

theorem best_start (L : List (Int × Int)) (c : Nat) : Best L c c (2 * c + 1) := ⟨Or.inl rfl, fun j h1 h2 => by omega, by omega, by omega⟩

theorem best_keep {L : List (Int × Int)} {c f ch : Nat} (h : Best L c f ch) (h2 : ch ≤ 2 * c + 2) (hp : prec (it L ch) (it L f) = false) : Best L c f (ch + 1) := by
  obtain ⟨h1, h3, h4, h5⟩ := h
  refine ⟨?_, fun j hj hjc hjl => ?_, by omega, by omega⟩
  · rcases h1 with h1 | ⟨a, b, d, e⟩
    · exact Or.inl h1
    · exact Or.inr ⟨a, by omega, d, e⟩
  · by_cases hjch : j = ch
    · subst hjch; exact hp
    · exact h3 j hj (by omega) hjl

theorem best_turn {L : List (Int × Int)} {c f ch : Nat} (h : Best L c f ch) (h2 : ch ≤ 2 * c + 2) (hl : ch < L.length) (hp : prec (it L ch) (it L f) = true) : Best L c ch (ch + 1) := by
  obtain ⟨h1, h3, h4, h5⟩ := h
  refine ⟨Or.inr ⟨by omega, by omega, hl, ?_⟩, fun j hj hjc hjl => ?_, by omega, by omega⟩
  · rcases h1 with h1 | ⟨a, b, d, e⟩
    · subst h1; exact hp
    · exact prec_trans hp e
  · by_cases hjch : j = ch
    · subst hjch; exact prec_irrefl _
    · exact le_trans' (prec_asymm hp) (h3 j hj (by omega) hjl)

theorem best_all {L : List (Int × Int)} {c f ch : Nat} (h : Best L c f ch) (h2 : 2 * c + 2 < ch ∨ L.length ≤ ch) : ∀ j, 0 < j → j < L.length → (j - 1) / 2 = c → prec (it L j) (it L f) = false := by
  intro j hj hl hp
  exact h.2.1 j (by omega) (by omega) hl

set_option maxRecDepth 100000 in
set_option maxHeartbeats 1000000 in
theorem sink_any (p o T : Nat) (F : Nat → Option Value) (g b cap i : Nat) (L0 : List (Int × Int)) (w : World) (h : Rep p o T F g b cap w L0) (hi : i < L0.length) (hS : SinkOk L0 i) :
    Calls Try.prog 72 #[.pointer (some ⟨p, o, none⟩), .int .i64 i] w (Turned p o T F g b cap w (fun L => L.Perm L0 ∧ Ordered L)) := by
  have HR := Lib.hid h
  have H0 := Lib.hid hS
  have hln0 := h.len
  clear h hS
  go_enter Try.func72, Try.ntmps72
  go_wp2_with fail
  go_loopw [1] (fun c wr => ∃ (k : Nat) (L : List (Int × Int)), c = .int .i64 k ∧ (L.Perm L0 ∧ L.length = L0.length ∧ k < L0.length ∧ SinkOk L k) ∧ Rep p o T F g b cap wr L ∧ Only (fun k => k = g ∨ k = b) w wr) (fun c _ => L0.length - (intOf c).toNat)
  case atStart => exact ⟨i, L0, rfl, ⟨List.Perm.refl _, rfl, hi, H0.out⟩, HR.out, Only.refl _ w⟩
  case round =>
    obtain ⟨k, L, rfl, ⟨hp1, hp2, hp4, hp3⟩, hrep, hO⟩ := hrel
    have hkl : k < L.length := by omega
    have hln : L.length ≤ 6000000000000 := by omega
    have HREP := Lib.hid hrep
    have HO := Lib.hid hO
    have HP1 := Lib.hid hp1
    have HP2 := Lib.hid hp2
    have HP3 := Lib.hid hp3
    clear hrep hO hp1 hp2 hp3
    go_wp2_with fail
    go_loopw [4, 5] (fun f ch wr => ∃ (fn cn : Nat), f = .int .i64 fn ∧ ch = .int .i64 cn ∧ Best L k fn cn ∧ Rep p o T F g b cap wr L ∧ Only (fun k => k = g ∨ k = b) w wr) (fun _ ch _ => 2 * k + 3 - (intOf ch).toNat)
    case atStart => exact ⟨k, 2 * k + 1, rfl, by go_num, best_start L k, HREP.out, HO.out⟩
    case round =>
      obtain ⟨f, c, rfl, rfl, hb, hrep, hO⟩ := hrel
      have HB := Lib.hid hb
      have HREP2 := Lib.hid hrep
      have HO2 := Lib.hid hO
      have hbc : 2 * k + 1 ≤ c ∧ c ≤ 2 * k + 3 := hb.2.2
      have hbf : f ≠ k → 2 * k + 1 ≤ f ∧ f < c ∧ f < L.length ∧ prec (it L f) (it L k) = true := fun hne => hb.1.resolve_left hne
      have hfl : f < L.length := by
        by_cases hne : f = k
        · omega
        · exact (hbf hne).2.2.1
      have hlen := hrep.cells.1
      clear hb hrep hO
      by_cases h1 : c ≤ 2 * k + 2
      · by_cases h2 : c < L.length
        · have h1' : (c : Int) ≤ 2 * k + 2 := by omega
          have h2' : (c : Int) < L.length := by omega
          go_upto_region 4 with fail
          have hrd : Rep p o T F g b cap wr.drew L := HREP2.out.later ((Only.refl _ wr).drew)
          obtain ⟨c0, c1⟩ := hrd.cells
          obtain ⟨x0, x1, -⟩ := row_cell hrd.items h2
          obtain ⟨y0, y1, -⟩ := row_cell hrd.items hfl
          have g1 : (f : Int) < L.length := by omega
          have g3 : (0 : Int) ≤ c := by omega
          have g4 : (0 : Int) ≤ f := by omega
          have HRD := Lib.hid hrd
          clear hrd hlen
          have HS : Hid (Only (fun k => k = g ∨ k = b) w wr.drew) := Lib.hid HO2.out.drew
          refine wp_region_still_tail 14 (by kernel_rfl) (by kernel_rfl) ?_
          show wpStill _ _ wr.drew (fun a' => wpList _ _ _ _ a' wr.drew) _ _
          generalize wr.drew = w2 at *
          simp only [List.take_succ_cons, List.take_zero, List.drop_succ_cons, List.drop_zero]
          repeat still_step
          refine wpStill_nil ?_
          rcases Bool.eq_false_or_eq_true (prec (it L c) (it L f)) with hv | hv
          · go_wp2_with (go_at_call 47; refine (precedes_is (it L c) (it L f) true hv _).mono ?_; rintro e w3 ⟨rfl, hb3⟩)
            go_roundw
            case rel => exact ⟨c, c + 1, rfl, by go_num, best_turn HB.out h1 h2 hv, HRD.out.below hb3, HS.out.trans (Only.of_below hb3) (fun _ _ e => e)⟩
            case measure => simp [intOf]; omega
          · go_wp2_with (go_at_call 47; refine (precedes_is (it L c) (it L f) false hv _).mono ?_; rintro e w3 ⟨rfl, hb3⟩)
            go_roundw
            case rel => exact ⟨f, c + 1, rfl, by go_num, best_keep HB.out h1 hv, HRD.out.below hb3, HS.out.trans (Only.of_below hb3) (fun _ _ e => e)⟩
            case measure => simp [intOf]; omega
        · have h1' : (c : Int) ≤ 2 * k + 2 := by omega
          have h2' : ¬ (c : Int) < L.length := by omega
          by_cases hfk : f = k
          · go_wp2_with fail
            go_end0
            exact ⟨rfl, L, ⟨HP1.out, sink_done HP3.out (by have := best_all HB.out (by omega); rw [hfk] at this; exact this)⟩, HREP2.out, HO2.out⟩
          · have hff := hbf hfk
            have hfl : f < L.length := hff.2.2.1
            go_wp2_with (go_at_call 48; refine (swap_any p o T F g b cap k f L _ HREP2.out hkl hfl).mono ?_; rintro e w4 ⟨rfl, L4, hL4, hr4, ho4⟩; have HL4 := Lib.hid hL4; have HR4 := Lib.hid hr4; have HO4 := Lib.hid ho4; clear hL4 hr4 ho4)
            go_roundw
            case rel =>
              obtain rfl := HL4.out
              exact ⟨f, _, rfl, ⟨(swap_perm hkl hfl).trans HP1.out, by rw [swapL_len, HP2.out], by have := HP2.out; omega, sink_step HP3.out (by omega) hfl (by have := HB.out.2.2; omega) hff.2.2.2 (best_all HB.out (by omega))⟩, HR4.out, HO2.out.trans HO4.out (fun _ _ e => e)⟩
            case measure => have := HP2.out; simp [intOf]; omega
      · have h1' : decide ((c : Int) ≤ 2 * k + 2) = false := by simp; omega
        by_cases hfk : f = k
        · go_wp2_with fail
          go_end0
          exact ⟨rfl, L, ⟨HP1.out, sink_done HP3.out (by have := best_all HB.out (by omega); rw [hfk] at this; exact this)⟩, HREP2.out, HO2.out⟩
        · have hff := hbf hfk
          have hfl : f < L.length := hff.2.2.1
          go_wp2_with (go_at_call 48; refine (swap_any p o T F g b cap k f L _ HREP2.out hkl hfl).mono ?_; rintro e w4 ⟨rfl, L4, hL4, hr4, ho4⟩; have HL4 := Lib.hid hL4; have HR4 := Lib.hid hr4; have HO4 := Lib.hid ho4; clear hL4 hr4 ho4)
          go_roundw
          case rel =>
            obtain rfl := HL4.out
            exact ⟨f, _, rfl, ⟨(swap_perm hkl hfl).trans HP1.out, by rw [swapL_len, HP2.out], by have := HP2.out; omega, sink_step HP3.out (by omega) hfl (by have := HB.out.2.2; omega) hff.2.2.2 (best_all HB.out (by omega))⟩, HR4.out, HO2.out.trans HO4.out (fun _ _ e => e)⟩
          case measure => have := HP2.out; simp [intOf]; omega
end Go.Proofs.Ytiodfpoaakcejaa.Hp
