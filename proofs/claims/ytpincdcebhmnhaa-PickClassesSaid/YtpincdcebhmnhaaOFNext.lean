/- Contracts of package fair: next, Pick. -/
import Derived.Test.YtpincdcebhmnhaaOFFirst
namespace Go.Proofs.Ytpincdcebhmnhaa.Fr
open Go.ChangeShapes Go.WideShapes Go.ChangeAt Go.RowKit Go.Maps
set_option linter.unusedVariables false

theorem only_trans {a b c : World} (h : Only (fun _ => False) a b) (k : Only (fun _ => False) b c) : Only (fun _ => False) a c := h.trans k (fun _ _ h => h)

set_option maxHeartbeats 400000 in
theorem next_any {w : World} {p o D : Nat} {T : Tks} {G : Grs} (h : FairAt w p o D T G) :
    Calls Try.prog 45 #[.pointer (some ⟨p, o, none⟩)] w fun e w' => e = .returned (.tuple #[.int .i64 ((next T G).1 : Nat), .int .i64 (next T G).2]) ∧ Only (fun _ => False) w w' := by
  have HF := Lib.hid h
  clear h
  go_enter Try.func45, Try.ntmps45
  go_wp2_with fail
  go_loopw [2, 3, 4] (fun n v i wr => ∃ k : Nat, k ≤ 8 ∧ i = .int .i64 ((k : Int) + 1) ∧ n = .int .i64 ((nextTo T G k).1 : Nat) ∧ v = .int .i64 (nextTo T G k).2 ∧ Only (fun _ => False) w wr) (fun _ _ i _ => 9 - (intOf i).toNat)
  case atStart => exact ⟨0, by omega, rfl, rfl, rfl, Only.refl _ w⟩
  case round =>
    obtain ⟨k, hk, rfl, rfl, rfl, hO⟩ := hrel
    have HO := Lib.hid hO
    have HS : Hid (nextTo T G (k + 1) = if first T ((k : Int) + 1) ≠ 0 ∧ ((nextTo T G k).1 = 0 ∨ (G (k + 1)).v < (nextTo T G k).2) then (first T ((k : Int) + 1), (G (k + 1)).v) else nextTo T G k) := Lib.hid rfl
    clear hO
    by_cases hlt : k < 8
    · generalize nextTo T G k = x at *
      obtain ⟨n, top⟩ := x
      simp only at *
      have c1 := Lib.hid (first_any (HF.out.later HO.out) ((k : Int) + 1))
      have hfl := first_lt T ((k : Int) + 1)
      generalize first T ((k : Int) + 1) = m at *
      have g1 : (k : Int) + 1 ≤ 8 := by omega
      by_cases hm : m = 0
      · have HE : Hid (nextTo T G (k + 1) = (n, top)) := by have := HS.out; rw [if_neg (fun q => q.1 hm)] at this; exact this
        have hm0 : ((m : Int) != 0) = false := by simp [hm]
        clear HS hm
        go_wp2_with (go_at_call 46; (with_reducible refine c1.out.mono ?_); rintro e w1 ⟨rfl, hO1⟩; have HO1 := Lib.hid (only_trans HO.out hO1); clear hO1; have cg := (HF.out.later HO1.out).gv (k + 1) (by omega))
        go_roundw
        case rel => exact ⟨k + 1, by omega, by go_num, by rw [HE.out], by rw [HE.out], HO1.out⟩
        case measure => simp [intOf]; omega
      · have hm0 : ((m : Int) != 0) = true := by simp [hm]
        by_cases hn : n = 0
        · have HE : Hid (nextTo T G (k + 1) = (m, (G (k + 1)).v)) := by have := HS.out; rw [if_pos ⟨hm, Or.inl hn⟩] at this; exact this
          have hn0 : ((n : Int) == 0) = true := by simp [hn]
          clear HS hm hn
          go_wp2_with (go_at_call 46; (with_reducible refine c1.out.mono ?_); rintro e w1 ⟨rfl, hO1⟩; have HO1 := Lib.hid (only_trans HO.out hO1); clear hO1; have cg := (HF.out.later HO1.out).gv (k + 1) (by omega))
          go_quiet (fail)
          go_wp2_with fail
          go_roundw
          case rel => exact ⟨k + 1, by omega, by go_num, by rw [HE.out], by rw [HE.out], only_drewN HO1.out _⟩
          case measure => simp [intOf]; omega
        · have hn0 : ((n : Int) == 0) = false := by simp [hn]
          by_cases hv : (G (k + 1)).v < top
          · have HE : Hid (nextTo T G (k + 1) = (m, (G (k + 1)).v)) := by have := HS.out; rw [if_pos ⟨hm, Or.inr hv⟩] at this; exact this
            have hd : decide ((G (k + 1)).v < top) = true := decide_eq_true hv
            clear HS hm hn hv
            go_wp2_with (go_at_call 46; (with_reducible refine c1.out.mono ?_); rintro e w1 ⟨rfl, hO1⟩; have HO1 := Lib.hid (only_trans HO.out hO1); clear hO1; have cg := (HF.out.later HO1.out).gv (k + 1) (by omega))
            go_quiet (fail)
            go_wp2_with fail
            go_roundw
            case rel => exact ⟨k + 1, by omega, by go_num, by rw [HE.out], by rw [HE.out], only_drewN HO1.out _⟩
            case measure => simp [intOf]; omega
          · have HE : Hid (nextTo T G (k + 1) = (n, top)) := by have := HS.out; rw [if_neg (fun q => q.2.elim hn hv)] at this; exact this
            have hd : decide ((G (k + 1)).v < top) = false := decide_eq_false hv
            clear HS hm hn hv
            go_wp2_with (go_at_call 46; (with_reducible refine c1.out.mono ?_); rintro e w1 ⟨rfl, hO1⟩; have HO1 := Lib.hid (only_trans HO.out hO1); clear hO1; have cg := (HF.out.later HO1.out).gv (k + 1) (by omega))
            go_roundw
            case rel => exact ⟨k + 1, by omega, by go_num, by rw [HE.out], by rw [HE.out], HO1.out⟩
            case measure => simp [intOf]; omega
    · obtain rfl : k = 8 := by omega
      have HN : Hid (next T G = if first T 0 ≠ 0 ∧ ((nextTo T G 8).1 = 0 ∨ (T (first T 0)).v < (nextTo T G 8).2) then (first T 0, (T (first T 0)).v) else nextTo T G 8) := Lib.hid rfl
      clear HS
      generalize nextTo T G 8 = x at *
      obtain ⟨n, top⟩ := x
      simp only at *
      have c1 := Lib.hid (first_any (HF.out.later HO.out) 0)
      have hfl := first_lt T 0
      generalize first T 0 = m at *
      have g2 : (m : Int) < 17 := by omega
      by_cases hm : m = 0
      · have HE : Hid (next T G = (n, top)) := by have := HN.out; rw [if_neg (fun q => q.1 hm)] at this; exact Lib.hid this
        have hm0 : ((m : Int) != 0) = false := by simp [hm]
        clear HN hm
        go_wp2_with (go_at_call 46; (with_reducible refine c1.out.mono ?_); rintro e w1 ⟨rfl, hO1⟩; have HO1 := Lib.hid (only_trans HO.out hO1); clear hO1; have cg := (HF.out.later HO1.out).tv m hfl)
        go_ret2
        exact ⟨by rw [HE.out]; rfl, HO1.out⟩
      · have hm0 : ((m : Int) != 0) = true := by simp [hm]
        by_cases hn : n = 0
        · have HE : Hid (next T G = (m, (T m).v)) := by have := HN.out; rw [if_pos ⟨hm, Or.inl hn⟩] at this; exact Lib.hid this
          have hn0 : ((n : Int) == 0) = true := by simp [hn]
          clear HN hm hn
          go_wp2_with (go_at_call 46; (with_reducible refine c1.out.mono ?_); rintro e w1 ⟨rfl, hO1⟩; have HO1 := Lib.hid (only_trans HO.out hO1); clear hO1; have cg := (HF.out.later HO1.out).tv m hfl)
          go_quiet (fail)
          go_wp2_with fail
          go_ret2
          exact ⟨by rw [HE.out]; rfl, only_drewN HO1.out _⟩
        · have hn0 : ((n : Int) == 0) = false := by simp [hn]
          by_cases hv : (T m).v < top
          · have HE : Hid (next T G = (m, (T m).v)) := by have := HN.out; rw [if_pos ⟨hm, Or.inr hv⟩] at this; exact Lib.hid this
            have hd : decide ((T m).v < top) = true := decide_eq_true hv
            clear HN hm hn hv
            go_wp2_with (go_at_call 46; (with_reducible refine c1.out.mono ?_); rintro e w1 ⟨rfl, hO1⟩; have HO1 := Lib.hid (only_trans HO.out hO1); clear hO1; have cg := (HF.out.later HO1.out).tv m hfl)
            go_quiet (fail)
            go_wp2_with fail
            go_ret2
            exact ⟨by rw [HE.out]; rfl, only_drewN HO1.out _⟩
          · have HE : Hid (next T G = (n, top)) := by have := HN.out; rw [if_neg (fun q => q.2.elim hn hv)] at this; exact Lib.hid this
            have hd : decide ((T m).v < top) = false := decide_eq_false hv
            clear HN hm hn hv
            go_wp2_with (go_at_call 46; (with_reducible refine c1.out.mono ?_); rintro e w1 ⟨rfl, hO1⟩; have HO1 := Lib.hid (only_trans HO.out hO1); clear hO1; have cg := (HF.out.later HO1.out).tv m hfl)
            go_ret2
            exact ⟨by rw [HE.out]; rfl, HO1.out⟩
end Go.Proofs.Ytpincdcebhmnhaa.Fr
