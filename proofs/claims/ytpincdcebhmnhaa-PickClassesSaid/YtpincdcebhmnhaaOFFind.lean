/- Contracts of package fair: find, findGroup. -/
import Derived.Test.YtpincdcebhmnhaaOFr
namespace Go.Proofs.Ytpincdcebhmnhaa.Fr
open Go.ChangeShapes Go.WideShapes Go.ChangeAt Go.RowKit Go.Maps
set_option linter.unusedVariables false

section
variable {w : World} {p o D : Nat} {T : Tks} {G : Grs}

theorem find_yes (h : FairAt w p o D T G) (t : Nat) (h1 : 1 ≤ t) (h2 : t ≤ 16) (hc : (T t).c ≠ 0) :
    Calls Try.prog 31 #[.pointer (some ⟨p, o, none⟩), .int .i64 t] w fun e w' => e = .returned (.pointer (some ⟨p, o + t * 4, none⟩)) ∧ w = w' := by
  have c0 := h.tc t (by omega)
  have h3 : ¬ (t : Int) < 1 := by omega
  have h4 : ¬ 16 < (t : Int) := by omega
  have h5 : (t : Int) < 17 := by omega
  have hc' : ((T t).c == 0) = false := by simpa using hc
  clear h hc
  go_enter Try.func31, Try.ntmps31
  go_wp2
  go_ret
  exact ⟨rfl, rfl⟩

theorem find_out (h : FairAt w p o D T G) (t : Int) (h1 : t < 1 ∨ 16 < t) :
    Calls Try.prog 31 #[.pointer (some ⟨p, o, none⟩), .int .i64 t] w fun e w' => e = .returned (.pointer none) ∧ w = w' := by
  by_cases h2 : t < 1
  · clear h1
    go_enter Try.func31, Try.ntmps31
    go_wp2
    go_ret
    exact ⟨rfl, rfl⟩
  · have h3 : 16 < t := by omega
    clear h1
    go_enter Try.func31, Try.ntmps31
    go_wp2
    go_ret
    exact ⟨rfl, rfl⟩

theorem find_none (h : FairAt w p o D T G) (t : Nat) (h1 : 1 ≤ t) (h2 : t ≤ 16) (hc : (T t).c = 0) :
    Calls Try.prog 31 #[.pointer (some ⟨p, o, none⟩), .int .i64 t] w fun e w' => e = .returned (.pointer none) ∧ w = w' := by
  have c0 := h.tc t (by omega)
  rw [hc] at c0
  have h3 : ¬ (t : Int) < 1 := by omega
  have h4 : ¬ 16 < (t : Int) := by omega
  have h5 : (t : Int) < 17 := by omega
  clear h hc
  go_enter Try.func31, Try.ntmps31
  go_wp2
  go_ret
  exact ⟨rfl, rfl⟩

theorem group_yes (h : FairAt w p o D T G) (t : Nat) (h1 : 1 ≤ t) (h2 : t ≤ 8) (hc : (G t).c ≠ 0) :
    Calls Try.prog 35 #[.pointer (some ⟨p, o, none⟩), .int .i64 t] w fun e w' => e = .returned (.pointer (some ⟨p, o + 68 + t * 2, none⟩)) ∧ w = w' := by
  have c0 := h.gc t (by omega)
  have h3 : ¬ (t : Int) < 1 := by omega
  have h4 : ¬ 8 < (t : Int) := by omega
  have h5 : (t : Int) < 9 := by omega
  have hc' : ((G t).c == 0) = false := by simpa using hc
  clear h hc
  go_enter Try.func35, Try.ntmps35
  go_wp2
  go_ret
  exact ⟨rfl, rfl⟩

theorem group_out (h : FairAt w p o D T G) (t : Int) (h1 : t < 1 ∨ 8 < t) :
    Calls Try.prog 35 #[.pointer (some ⟨p, o, none⟩), .int .i64 t] w fun e w' => e = .returned (.pointer none) ∧ w = w' := by
  by_cases h2 : t < 1
  · clear h1
    go_enter Try.func35, Try.ntmps35
    go_wp2
    go_ret
    exact ⟨rfl, rfl⟩
  · have h3 : 8 < t := by omega
    clear h1
    go_enter Try.func35, Try.ntmps35
    go_wp2
    go_ret
    exact ⟨rfl, rfl⟩

theorem group_none (h : FairAt w p o D T G) (t : Nat) (h1 : 1 ≤ t) (h2 : t ≤ 8) (hc : (G t).c = 0) :
    Calls Try.prog 35 #[.pointer (some ⟨p, o, none⟩), .int .i64 t] w fun e w' => e = .returned (.pointer none) ∧ w = w' := by
  have c0 := h.gc t (by omega)
  rw [hc] at c0
  have h3 : ¬ (t : Int) < 1 := by omega
  have h4 : ¬ 8 < (t : Int) := by omega
  have h5 : (t : Int) < 9 := by omega
  clear h hc
  go_enter Try.func35, Try.ntmps35
  go_wp2
  go_ret
  exact ⟨rfl, rfl⟩
end
end Go.Proofs.Ytpincdcebhmnhaa.Fr
