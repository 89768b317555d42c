/- Contracts of package pick: the class of fixed priorities. -/
import Derived.Test.YtpincdcebhmnhaaPkFind
import Derived.Test.YtpincdcebhmnhaaPUn
namespace Go.Proofs.Ytpincdcebhmnhaa.Pk
open Go.ChangeShapes Go.WideShapes Go.ChangeAt Go.RowKit Go.Maps
set_option linter.unusedVariables false

section
variable {w w' : World} {p D : Nat} {V V' V'' : Nat → Value} {S S' : St}

theorem fblock_yes (h : PickAt w p D V S) (hu : Pr.Uniq S.Q) (t : Nat) (h2 : t ≤ 16) {i : Nat} (hs : Pr.seek S.Q t = some i) :
    Calls Try.prog 65 #[.pointer (some ⟨p, 86, none⟩), .int .i64 t] w (Did p D V { S with Q := upd S.Q i ((S.Q i).erase t), A := upd S.A t i } (.int .i64 0) w) := by
  have H := Lib.hid h
  have K := Lib.hid (Pr.out_yes h.prio (fun j hj => by have := hu.len hj; omega) t hs)
  have q3 : (t : Int) < 17 := by omega
  clear h hu hs
  go_enter Try.func65, Try.ntmps65
  go_wp2_with (go_at_call 68; (with_reducible refine K.out.mono ?_); rintro e w1 ⟨rfl, V1, hq, hs⟩; have H1 := Lib.hid (H.out.by_prio hq hs); clear hq hs; have cv := H1.out.1.val t (by omega); have fz := H1.out.1.frozen)
  go_ret
  have H2 := H1.out.1.set_val t (by omega) i
  exact Did.mk H2.1 (H1.out.2.trans H2.2)
theorem fblock_no (h : PickAt w p D V S) (hu : Pr.Uniq S.Q) (t : Nat) (hs : Pr.seek S.Q t = none) :
    Calls Try.prog 65 #[.pointer (some ⟨p, 86, none⟩), .int .i64 t] w (Did p D V S (.int .i64 8) w) := by
  have H := Lib.hid h
  have K := Lib.hid (Pr.out_no h.prio (fun j hj => by have := hu.len hj; omega) t hs)
  clear h hu hs
  go_enter Try.func65, Try.ntmps65
  go_wp2_with (go_at_call 68; (with_reducible refine K.out.mono ?_); rintro e w1 ⟨rfl, V1, hq, hs⟩; have H1 := Lib.hid (H.out.by_prio hq hs); clear hq hs)
  go_ret
  exact Did.mk H1.out.1 H1.out.2
theorem fwake_yes (h : PickAt w p D V S) (hu : Pr.Uniq S.Q) (t : Nat) (h1 : 1 ≤ t) (h2 : t ≤ 16) {v : Nat} (hv : v < 8) (ha : S.A t = v) (hs : Pr.seek S.Q t = none) :
    Calls Try.prog 67 #[.pointer (some ⟨p, 86, none⟩), .int .i64 t] w (Did p D V { S with Q := upd S.Q v (S.Q v ++ [(t : Int)]) } (.int .i64 0) w) := by
  have H := Lib.hid h
  have HU := Lib.hid hu
  have HS := Lib.hid hs
  have K := Lib.hid (fun W (hW : Only (fun _ => False) w W) => Pr.put_new (H.out.later hW).prio (fun j hj => by have := HU.out.len hj; omega) (t : Int) v (by omega) hv HS.out)
  have cv := h.val t (by omega)
  rw [ha] at cv
  have q3 : (t : Int) < 17 := by omega
  clear h hu hs ha
  go_enter Try.func67, Try.ntmps67
  go_wp2_with fail
  go_region_with (go_at_call 24; (with_reducible refine (K.out _ (Only.refl _ _).drew).mono ?_); rintro e w2 ⟨rfl, V1, hq, hs⟩; have H1 := Lib.hid ((H.out.later (Only.refl _ _).drew).by_prio hq hs); clear hq hs)
  all_goals (
    (try go_wp2_with fail)
    go_ret
    exact Did.mk H1.out.1 ((PStep.of_quiet (Only.refl _ _).drew).trans H1.out.2))
theorem fwake_no (h : PickAt w p D V S) (hu : Pr.Uniq S.Q) (t : Nat) (h1 : 1 ≤ t) (h2 : t ≤ 16) (ha : 0 ≤ S.A t ∧ S.A t < 8) {i : Nat} (hs : Pr.seek S.Q t = some i) :
    Calls Try.prog 67 #[.pointer (some ⟨p, 86, none⟩), .int .i64 t] w (Did p D V S (.int .i64 8) w) := by
  have H := Lib.hid h
  have HU := Lib.hid hu
  have HS := Lib.hid hs
  have HV := Lib.hid (show Pr.valid (S.A t) = true from decide_eq_true ha)
  have K := Lib.hid (fun W (hW : Only (fun _ => False) w W) => Pr.put_there (H.out.later hW).prio (fun j hj => by have := HU.out.len hj; omega) (t : Int) (S.A t) (by omega) HV.out HS.out)
  have cv := h.val t (by omega)
  have q3 : (t : Int) < 17 := by omega
  clear h hu hs ha
  go_enter Try.func67, Try.ntmps67
  go_wp2_with fail
  go_region_with (go_at_call 24; (with_reducible refine (K.out _ (Only.refl _ _).drew).mono ?_); rintro e w2 ⟨rfl, V1, hq, hs⟩; have H1 := Lib.hid ((H.out.later (Only.refl _ _).drew).by_prio hq hs); clear hq hs)
  all_goals (
    (try go_wp2_with fail)
    go_ret
    exact Did.mk H1.out.1 ((PStep.of_quiet (Only.refl _ _).drew).trans H1.out.2))

theorem fturn_yes (h : PickAt w p D V S) (hu : Pr.Uniq S.Q) {v : Nat} (ht : Pr.top S.Q = some v) (x : Int) (xs : List Int) (he : S.Q v = x :: xs) :
    Calls Try.prog 28 #[.pointer (some ⟨p, 86, none⟩)] w (Did p D V { S with Q := upd S.Q v (xs ++ [x]) } (.tuple #[]) w) := by
  have H := Lib.hid h
  have hv : v < 8 := (Pr.topTo_is ht).1
  have hl := hu.len hv
  rw [he] at hl
  have K := Lib.hid (Pr.first_is (Pr.first_any h.prio (fun j hj => by have := hu.len hj; omega)) ht)
  have K2 := Lib.hid (fun W (hW : Only (fun _ => False) w W) => Pr.turn_yes (H.out.later hW).prio v hv x xs he (by simp at hl; omega))
  clear h hu ht he hl
  go_enter Try.func28, Try.ntmps28
  go_wp2_with (first
    | (go_at_call 41; (with_reducible refine K.out.mono ?_); rintro e w1 ⟨rfl, hO⟩; have HO := Lib.hid hO; clear hO)
    | (go_at_call 43; (with_reducible refine (K2.out _ HO.out).mono ?_); rintro e w2 ⟨rfl, V1, hq, hs⟩; have H1 := Lib.hid ((H.out.later HO.out).by_prio hq hs); clear hq hs))
  go_returns
  exact Did.mk H1.out.1 ((PStep.of_quiet HO.out).trans H1.out.2)
end
end Go.Proofs.Ytpincdcebhmnhaa.Pk
