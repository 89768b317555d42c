/- The contracts of Turn, Out and Pop. -/
import Derived.Test.YtiodfpoaakcejaaHAsk
namespace Go.Proofs.Ytiodfpoaakcejaa.Hp
open Go.ChangeShapes Go.WideShapes Go.ChangeAt Go.RowKit Go.Maps
set_option linter.unusedVariables false

/-- What is known behind a Turn, a Push, an Out or a Pop of a heap with a map. -/
def Stays (p o T : Nat) (F : Nat → Option Value) (g b cap : Nat) (w : World) (v : Value) (P : List (Int × Int) → Prop) (e : Ending) (w' : World) : Prop :=
  e = .returned v ∧ ∃ L, P L ∧ Rep p o T F g b cap w' L ∧ Only (fun k => k = p ∨ k = g ∨ k = b) w w'

theorem out_none (p o T : Nat) (F : Nat → Option Value) (g b cap : Nat) (id : Int) (L : List (Int × Int)) (w : World) (h : Rep p o T F g b cap w L) (hw : (Lit.int .i64 id).wf = true) (hno : ∀ i, i < L.length → (it L i).1 ≠ id) :
    Calls Try.prog 31 #[.pointer (some ⟨p, o, none⟩), .int .i64 id] w fun e w' => e = .returned (.tuple #[.int .i64 0, .int .i64 4]) ∧ w = w' := by
  go_enter Try.func31, Try.ntmps31
  go_wp2_with (go_at_call 28; refine (key_none p o T F g b cap id L _ h hw hno).mono ?_; rintro e w1 ⟨rfl, rfl⟩)
  go_ret2
  exact ⟨rfl, rfl⟩

theorem out_fresh (p o T : Nat) (F : Nat → Option Value) (id : Int) (w : World) (h : Fresh p o T F w) (hw : (Lit.int .i64 id).wf = true) :
    Calls Try.prog 31 #[.pointer (some ⟨p, o, none⟩), .int .i64 id] w fun e w' => e = .returned (.tuple #[.int .i64 0, .int .i64 4]) ∧ w = w' := by
  go_enter Try.func31, Try.ntmps31
  go_wp2_with (go_at_call 28; refine (key_fresh p o T F id _ h hw).mono ?_; rintro e w1 ⟨rfl, rfl⟩)
  go_ret2
  exact ⟨rfl, rfl⟩

set_option maxRecDepth 100000 in
set_option maxHeartbeats 1000000 in
theorem out_some (p o T : Nat) (F : Nat → Option Value) (g b cap i : Nat) (L : List (Int × Int)) (w : World) (h : Rep p o T F g b cap w L) (hi : i < L.length) (hR : Ordered L) :
    Calls Try.prog 31 #[.pointer (some ⟨p, o, none⟩), .int .i64 (it L i).1] w (Stays p o T F g b cap w (.tuple #[.int .i64 (it L i).2, .int .i64 0]) (fun K => (it L i :: K).Perm L ∧ Ordered K)) := by
  have hkey := keyOf_int_mk Try.underlying3 (h.wf i hi)
  have HR := Lib.hid h
  have H0 := Lib.hid hR
  clear h hR
  go_enter Try.func31, Try.ntmps31
  go_wp2_with (first
    | (go_at_call 28; refine (key_some p o T F g b cap i L _ HR.out hi).mono ?_; rintro e w1 ⟨rfl, ho1⟩; have hr1 := HR.out.later ho1; have hc1 := hr1.cells.2; obtain ⟨D, hD, hP⟩ := hr1.map; have HR1 := Lib.hid hr1; have HO1 := Lib.hid ho1; have HP := Lib.hid hP; clear hr1 ho1 hP)
    | (at_lookup; refine wpList_lookup_own_int _ rfl _ _ 59 rfl 3 3 .i64 law3 Try.underlying59 Try.underlying3 (zero3 _) b L.length D rfl hD _ _ rfl hkey ?_; intro c hat hwc; obtain rfl := spot_int HP.out hi hat)
    | (go_at_call 41; refine (remove_any p o T F g b cap i L _ HR1.out hi H0.out).mono ?_; rintro e w4 ⟨rfl, L4, hL4, hr4, ho4⟩; have HL4 := Lib.hid hL4; have HR4 := Lib.hid hr4; have HO4 := Lib.hid ho4; clear hL4 hr4 ho4))
  go_ret2
  exact ⟨rfl, L4, HL4.out, HR4.out, (HO1.out.mono (fun _ _ e => e.elim)).trans HO4.out (fun _ _ e => e)⟩

theorem pop_none (p o : Nat) (cap : Nat) (a : Option Addr) (w : World) (c0 : w.cell? ⟨p, o, none⟩ = some (.slice a 0 cap)) :
    Calls Try.prog 33 #[.pointer (some ⟨p, o, none⟩)] w fun e w' => e = .returned (.tuple #[.int .i64 0, .int .i64 0, .int .i64 4]) ∧ w = w' := by
  go_enter Try.func33, Try.ntmps33
  go_wp2_with (go_at_call 32; refine (peek_none p o cap a _ c0).mono ?_; rintro e w1 ⟨rfl, rfl⟩)
  go_ret3
  exact ⟨rfl, rfl⟩

set_option maxRecDepth 100000 in
set_option maxHeartbeats 1000000 in
theorem pop_some (p o T : Nat) (F : Nat → Option Value) (g b cap n : Nat) (L : List (Int × Int)) (w : World) (h : Rep p o T F g b cap w L) (hn : L.length = n + 1) (hR : Ordered L) :
    Calls Try.prog 33 #[.pointer (some ⟨p, o, none⟩)] w (Stays p o T F g b cap w (.tuple #[.int .i64 (it L 0).1, .int .i64 (it L 0).2, .int .i64 0]) (fun K => (it L 0 :: K).Perm L ∧ Ordered K)) := by
  have HR := Lib.hid h
  have H0 := Lib.hid hR
  have HN := Lib.hid hn
  clear h hR hn
  have hrm : ∀ w1, Rep p o T F g b cap w1 L → Calls Try.prog 41 #[.pointer (some ⟨p, o, none⟩), .int .i64 0] w1 (Gone p o T F g b cap w1 (fun K => (it L 0 :: K).Perm L ∧ Ordered K)) :=
    fun w1 h1 => remove_any p o T F g b cap 0 L w1 h1 (by rw [HN.out]; omega) H0.out
  have HM := Lib.hid hrm
  clear hrm
  go_enter Try.func33, Try.ntmps33
  go_wp2_with (first
    | (go_at_call 32; refine (peek_some p o T F g b cap n L _ HR.out HN.out).mono ?_; rintro e w1 ⟨rfl, ho1⟩; have hr1 := HR.out.later ho1; have HR1 := Lib.hid hr1; have HO1 := Lib.hid ho1; clear hr1 ho1)
    | (go_at_call 41; refine (HM.out _ HR1.out).mono ?_; rintro e w4 ⟨rfl, L4, hL4, hr4, ho4⟩; have HL4 := Lib.hid hL4; have HR4 := Lib.hid hr4; have HO4 := Lib.hid ho4; clear hL4 hr4 ho4))
  go_ret3
  exact ⟨rfl, L4, HL4.out, HR4.out, (HO1.out.mono (fun _ _ e => e.elim)).trans HO4.out (fun _ _ e => e)⟩
end Go.Proofs.Ytiodfpoaakcejaa.Hp
