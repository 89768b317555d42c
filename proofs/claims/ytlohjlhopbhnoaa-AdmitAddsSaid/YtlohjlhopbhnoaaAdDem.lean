/- The walk of AdmitDemand. -/
import Derived.Test.YtlohjlhopbhnoaaAdSetP
namespace Go.Proofs.Ytlohjlhopbhnoaa.Ad
open Go.ChangeShapes Go.WideShapes Go.ChangeAt Go.RowKit
set_option linter.unusedVariables false

theorem rest_2000 (k : Int) (w : World) :
    Calls Try.prog 28 #[.int .i64 k, .int .i64 2000] w fun e w' => ∃ c : Nat, c < 2000 ∧ e = .returned (.int .i64 c) ∧ w = w' := rest_nat k 2000 (by omega) (by omega) w

theorem wrap_small {x y : Nat} (h1 : x ≤ 100000) (h2 : y ≤ 100000) : wrap64 ((x : Int) * y) = ((x * y : Nat) : Int) := by
  have : x * y ≤ 100000 * 100000 := Nat.mul_le_mul h1 h2
  rw [← Int.natCast_mul]
  exact IntWalk.wrap64_in _ (by omega)

set_option maxHeartbeats 1000000 in
theorem demand_walk (a : Option Addr) (len cap : Nat) (zs : List Int) (t : Int) (w : World) (h : IsRow .i64 w a len cap zs) :
    Calls Try.prog 9 #[.slice a len cap, .int .i64 t] w fun e w' => e = .returned (.bool true) ∧ Below w.heap.size w w' := by
  have H := Lib.hid h
  clear h
  have hkeep : ∀ w', Only (fun _ => False) w w' → IsRow .i64 w' a len cap zs := fun w' hO => by
    rcases H.out with h | ⟨x, h1, h2, h3, h4, h5, h6⟩
    · exact .inl h
    · refine .inr ⟨x, h1, h2, h3, h4, fun i hi => ?_, h6⟩
      have := h5 i hi
      rw [← this]
      unfold World.cell?
      rw [hO.block _ (block_lt this) id]
  have HK := Lib.hid hkeep
  clear hkeep
  go_enter Try.func9, Try.ntmps9
  go_upto_region 4 with (first
    | (go_at_call 24; (with_reducible refine (begun_any _).mono ?_); rintro e w1 ⟨rfl, hO⟩; have HO1 := Lib.hid hO; clear hO)
    | (go_at_call 25; (with_reducible refine (sets_any _ _ _ _ _ (HK.out _ HO1.out)).mono ?_); rintro e w2 ⟨V, S, rfl, hS, hr, hO⟩; have HS := Lib.hid hS; have HR := Lib.hid hr; have HO2 := Lib.hid (trans_quiet HO1.out hO); clear hS hr hO))
  go_upto_region 5 with (go_at_call 28; (with_reducible refine (rest_2000 _ _).mono ?_); rintro e w' ⟨t', ht, rfl, rfl⟩)
  have HV := Lib.hid (fun (wx : World) (hO : Only (fun _ => False) w2 wx) => row_view (HR.out.later hO))
  have W := HS.out.wanted t'
  have K1 := Lib.hid (fun (wx : World) (hO : Only (fun _ => False) w2 wx) => share_good V S wx (HV.out wx hO) HS.out.chk)
  have K2 := Lib.hid (fun (wx : World) (hO : Only (fun _ => False) w2 wx) => demand_good V S t' wx (HV.out wx hO) HS.out.chk (by omega))
  have K3 := Lib.hid (fun (wx : World) (hO : Only (fun _ => False) w2 wx) => round_good V S wx (HV.out wx hO) HS.out.chk)
  have K4 := Lib.hid (fun (wx : World) (hO : Only (fun _ => False) w2 wx) => demand_good V S (rnd S) wx (HV.out wx hO) HS.out.chk (by have := W.b1; omega))
  clear HS HR
  generalize usedTo S (rnd S) S.length = al at *
  generalize usedTo S t' S.length = n at *
  generalize shareN S = x at *
  generalize shareD S = y at *
  generalize rnd S = r at *
  obtain ⟨h1, h2, h3, ⟨h4, h5⟩, h6, h7, h8⟩ := W
  have q1 : wrap64 ((n : Int) * y) = ((n * y : Nat) : Int) := wrap_small (by omega) (by omega)
  have q2 : wrap64 ((x : Int) * t') = ((x * t' : Nat) : Int) := wrap_small (by omega) (by omega)
  have q3 : wrap64 ((al : Int) * y) = ((al * y : Nat) : Int) := wrap_small (by omega) (by omega)
  have q4 : wrap64 ((x : Int) * r) = ((x * r : Nat) : Int) := wrap_small (by omega) (by omega)
  rw [h3] at q3
  generalize n * y = m1 at *
  generalize x * t' = m2 at *
  generalize x * r = m3 at *
  clear h3
  have e1 : (m1 : Int) ≤ m2 := by omega
  have e2 : (n : Int) ≤ t' := by omega
  have e3 : ¬ (r : Int) < 1 := by omega
  have e4 : ¬ (100000 : Int) < r := by omega
  clear h1 h2 h4 h5 h6 h7 h8 ht
  go_wp2_with (first
    | (go_at_call 14; (with_reducible refine (K1.out _ (Only.refl _ w2)).mono ?_); rintro e w3 ⟨rfl, hO⟩; have HO3 := Lib.hid hO; clear hO)
    | (go_at_call 16; (with_reducible refine (K2.out _ HO3.out).mono ?_); rintro e w4 ⟨rfl, hO⟩; have HO4 := Lib.hid (trans_quiet HO3.out hO); clear hO)
    | (go_at_call 13; (with_reducible refine (K3.out _ HO4.out).mono ?_); rintro e w5 ⟨rfl, hO⟩; have HO5 := Lib.hid (trans_quiet HO4.out hO); clear hO)
    | (go_at_call 16; (with_reducible refine (K4.out _ HO5.out).mono ?_); rintro e w6 ⟨rfl, hO⟩; have HO6 := Lib.hid (trans_quiet HO5.out hO); clear hO))
  go_ret
  exact ⟨rfl, Only.below (trans_quiet HO2.out HO6.out) (Nat.le_refl _) (fun _ e => e.elim)⟩
end Go.Proofs.Ytlohjlhopbhnoaa.Ad
