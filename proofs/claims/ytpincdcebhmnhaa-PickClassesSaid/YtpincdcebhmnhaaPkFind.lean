/- Contracts of package pick: find, enter. -/
import Derived.Test.YtpincdcebhmnhaaPk
import Derived.Handy
namespace Go.Proofs.Ytpincdcebhmnhaa.Pk
open Go.ChangeShapes Go.WideShapes Go.ChangeAt Go.RowKit Go.Maps
set_option linter.unusedVariables false

section
variable {w w' : World} {p D : Nat} {V V' V'' : Nat → Value} {S S' : St}

theorem find_out (h : PickAt w p D V S) (t : Int) (h1 : t < 1 ∨ 16 < t) :
    Calls Try.prog 21 #[.pointer (some ⟨p, 0, none⟩), .int .i64 t] w fun e w' => e = .returned .nilIface ∧ w = w' := by
  clear h
  by_cases h2 : t < 1
  · clear h1
    go_enter Try.func21, Try.ntmps21
    go_wp2
    go_ret
    exact ⟨rfl, rfl⟩
  · have h3 : 16 < t := by omega
    clear h1
    go_enter Try.func21, Try.ntmps21
    go_wp2
    go_ret
    exact ⟨rfl, rfl⟩
theorem find_none (h : PickAt w p D V S) (t : Nat) (h1 : 1 ≤ t) (h2 : t ≤ 16) (hc : S.C t = 0) :
    Calls Try.prog 21 #[.pointer (some ⟨p, 0, none⟩), .int .i64 t] w fun e w' => e = .returned .nilIface ∧ w = w' := by
  have c := h.cls t (by omega)
  rw [hc] at c
  have q1 : ¬ (t : Int) < 1 := by omega
  have q2 : ¬ 16 < (t : Int) := by omega
  have q3 : (t : Int) < 17 := by omega
  clear h hc
  go_enter Try.func21, Try.ntmps21
  go_wp2
  go_ret
  exact ⟨rfl, rfl⟩
theorem find_fair (h : PickAt w p D V S) (t : Nat) (h1 : 1 ≤ t) (h2 : t ≤ 16) (hc : S.C t = 1) :
    Calls Try.prog 21 #[.pointer (some ⟨p, 0, none⟩), .int .i64 t] w fun e w' => e = .returned (.iface 36 (.pointer (some ⟨p, 0, none⟩))) ∧ w = w' := by
  have c := h.cls t (by omega)
  rw [hc] at c
  have q1 : ¬ (t : Int) < 1 := by omega
  have q2 : ¬ 16 < (t : Int) := by omega
  have q3 : (t : Int) < 17 := by omega
  clear h hc
  go_enter Try.func21, Try.ntmps21
  go_wp2
  go_ret
  exact ⟨rfl, rfl⟩
theorem find_fixed (h : PickAt w p D V S) (t : Nat) (h1 : 1 ≤ t) (h2 : t ≤ 16) (hc : S.C t = 2) :
    Calls Try.prog 21 #[.pointer (some ⟨p, 0, none⟩), .int .i64 t] w fun e w' => e = .returned (.iface 75 (.pointer (some ⟨p, 86, none⟩))) ∧ w = w' := by
  have c := h.cls t (by omega)
  rw [hc] at c
  have q1 : ¬ (t : Int) < 1 := by omega
  have q2 : ¬ 16 < (t : Int) := by omega
  have q3 : (t : Int) < 17 := by omega
  clear h hc
  go_enter Try.func21, Try.ntmps21
  go_wp2
  go_ret
  exact ⟨rfl, rfl⟩
theorem find_dead (h : PickAt w p D V S) (t : Nat) (h1 : 1 ≤ t) (h2 : t ≤ 16) (hc : S.C t = 3) :
    Calls Try.prog 21 #[.pointer (some ⟨p, 0, none⟩), .int .i64 t] w fun e w' => e = .returned (.iface 76 (.pointer (some ⟨p, 111, none⟩))) ∧ w = w' := by
  have c := h.cls t (by omega)
  rw [hc] at c
  have q1 : ¬ (t : Int) < 1 := by omega
  have q2 : ¬ 16 < (t : Int) := by omega
  have q3 : (t : Int) < 17 := by omega
  clear h hc
  go_enter Try.func21, Try.ntmps21
  go_wp2
  go_ret
  exact ⟨rfl, rfl⟩

/-- What enter makes of a scheduler. -/
def entered (S : St) (t : Nat) (c e : Int) : St := if e = 0 then { S with C := upd S.C t c } else S
theorem enter_yes (h : PickAt w p D V S) (t : Nat) (h1 : 1 ≤ t) (h2 : t ≤ 16) (c : Int) :
    Calls Try.prog 22 #[.pointer (some ⟨p, 0, none⟩), .int .i64 t, .int .i64 c, .int .i64 0] w (Did p D V { S with C := upd S.C t c } (.int .i64 0) w) := by
  have H := Lib.hid (h.set_cls t (by omega) c)
  have cl := h.cls t (by omega)
  have fz := h.frozen
  have q3 : (t : Int) < 17 := by omega
  clear h
  go_enter Try.func22, Try.ntmps22
  go_wp2
  go_ret
  exact Did.mk H.out.1 H.out.2
theorem enter_no (h : PickAt w p D V S) (t c e : Int) (he : e ≠ 0) :
    Calls Try.prog 22 #[.pointer (some ⟨p, 0, none⟩), .int .i64 t, .int .i64 c, .int .i64 e] w (Did p D V S (.int .i64 e) w) := by
  have H := Lib.hid h
  clear h
  go_enter Try.func22, Try.ntmps22
  go_wp2
  go_ret
  exact Did.same H.out
end
end Go.Proofs.Ytpincdcebhmnhaa.Pk
