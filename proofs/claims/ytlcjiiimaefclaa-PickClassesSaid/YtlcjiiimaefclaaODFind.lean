/- Contracts of package dead: find, fill, use, stale. -/
import Derived.Test.YtlcjiiimaefclaaODe
namespace Go.Proofs.Ytlcjiiimaefclaa.De
open Go.ChangeShapes Go.WideShapes Go.ChangeAt Go.RowKit Go.Maps
set_option linter.unusedVariables false

section
variable {w : World} {p o D : Nat} {T : Tks} {n : Int}

theorem find_yes (h : DeadAt w p o D T n) (t : Nat) (h1 : 1 ≤ t) (h2 : t ≤ 16) (hc : (T t).p ≠ 0) :
    Calls Try.prog 38 #[.pointer (some ⟨p, o, none⟩), .int .i64 t] w fun e w' => e = .returned (.pointer (some ⟨p, o + t * 6, none⟩)) ∧ w = w' := by
  have c0 := h.cp t (by omega)
  have h3 : ¬ (t : Int) < 1 := by omega
  have h4 : ¬ 16 < (t : Int) := by omega
  have h5 : (t : Int) < 17 := by omega
  have hc' : ((T t).p == 0) = false := by simpa using hc
  clear h hc
  go_enter Try.func38, Try.ntmps38
  go_wp2
  go_ret
  exact ⟨rfl, rfl⟩

theorem find_no (h : DeadAt w p o D T n) (t : Int) (ht : ¬ isTask T t) :
    Calls Try.prog 38 #[.pointer (some ⟨p, o, none⟩), .int .i64 t] w fun e w' => e = .returned (.pointer none) ∧ w = w' := by
  by_cases h2 : t < 1
  · clear ht
    go_enter Try.func38, Try.ntmps38
    go_wp2
    go_ret
    exact ⟨rfl, rfl⟩
  · by_cases h3 : 16 < t
    · clear ht
      go_enter Try.func38, Try.ntmps38
      go_wp2
      go_ret
      exact ⟨rfl, rfl⟩
    · obtain ⟨t, rfl⟩ : ∃ k : Nat, t = k := ⟨t.toNat, by omega⟩
      have hc : (T t).p = 0 := by
        apply Decidable.byContradiction; intro hc; exact ht ⟨by omega, by omega, by simpa using hc⟩
      have c0 := h.cp t (by omega)
      rw [hc] at c0
      have h5 : (t : Int) < 17 := by omega
      clear h hc ht
      go_enter Try.func38, Try.ntmps38
      go_wp2
      go_ret
      exact ⟨rfl, rfl⟩

theorem only_set1 {w w2 : World} {p o : Nat} (h : Within p o 103 w w2) (i : Nat) (u : Value) (hi : i < 103 := by omega) : Within p o 103 w (w2.setCell ⟨p, o + i, none⟩ u) := h.setCell (by omega) u
theorem only_set2 {w w2 : World} {p o : Nat} (h : Within p o 103 w w2) (i j : Nat) (u v : Value) (hi : i < 103 := by omega) (hj : j < 103 := by omega) : Within p o 103 w ((w2.setCell ⟨p, o + i, none⟩ u).setCell ⟨p, o + j, none⟩ v) :=
  only_set1 (only_set1 h i u hi) j v hj
theorem only_set3 {w w2 : World} {p o : Nat} (h : Within p o 103 w w2) (i j k : Nat) (u v x : Value) (hi : i < 103 := by omega) (hj : j < 103 := by omega) (hk : k < 103 := by omega) : Within p o 103 w (((w2.setCell ⟨p, o + i, none⟩ u).setCell ⟨p, o + j, none⟩ v).setCell ⟨p, o + k, none⟩ x) :=
  only_set1 (only_set2 h i j u v hi hj) k x hk

/-- What is known behind a call that changes a class. -/
def DKeep (w : World) (p o D : Nat) (v : Value) (T : Tks) (n : Int) (e : Ending) (w' : World) : Prop := e = .returned v ∧ DeadAt w' p o D T n ∧ Within p o 103 w w'

theorem fill_any (h : DeadAt w p o D T n) (t : Nat) (ht : t < 17) (s : Int) (h1 : 0 ≤ s) (h2 : s ≤ 9000000000000000000) (p1 : 0 ≤ (T t).p) (p2 : (T t).p ≤ 30) :
    Calls Try.prog 39 #[.pointer (some ⟨p, o + t * 6, none⟩), .int .i64 s] w (DKeep w p o D (.tuple #[]) (upd T t (fill (T t) s)) n) := by
  have H := Lib.hid h
  have cb := h.cb t ht
  have cp := h.cp t ht
  have cl := h.cl t ht
  have cd := h.cd t ht
  have co := h.co t ht
  have fz := h.frozen
  clear h
  go_enter Try.func39, Try.ntmps39
  go_wp2
  go_end0
  refine ⟨rfl, ?_, only_set3 (Within.refl _ _ _ _) (t * 6 + 2) (t * 6 + 3) (t * 6 + 5) _ _ _⟩
  have := ((H.out.set_tl t ht (T t).b).set_td t ht (s + (T t).p)).set_to t ht false
  simp only [upd_upd, upd_same] at this
  exact this

theorem use_any (h : DeadAt w p o D T n) (t : Nat) (ht : t < 17) (p1 : 0 ≤ (T t).l) (p2 : (T t).l ≤ 30) :
    Calls Try.prog 42 #[.pointer (some ⟨p, o + t * 6, none⟩)] w (DKeep w p o D (.tuple #[]) (upd T t (use (T t))) n) := by
  have H := Lib.hid h
  have cl := h.cl t ht
  have co := h.co t ht
  have fz := h.frozen
  clear h
  go_enter Try.func42, Try.ntmps42
  go_wp2
  go_end0
  refine ⟨rfl, ?_, only_set2 (Within.refl _ _ _ _) (t * 6 + 2) (t * 6 + 5) _ _⟩
  have := (H.out.set_tl t ht ((T t).l - 1)).set_to t ht ((T t).l - 1 == 0)
  simp only [upd_upd, upd_same] at this
  exact this

theorem mul_bd (a b : Int) (h1 : 0 ≤ a) (h2 : a ≤ 30) (h3 : 0 ≤ b) (h4 : b ≤ 9000000000000000) : 0 ≤ a * b ∧ a * b ≤ 300000000000000000 :=
  ⟨Int.mul_nonneg h1 h3, Int.le_trans (Int.mul_le_mul h2 h4 h3 (by omega)) (by omega)⟩

theorem stale_any (h : DeadAt w p o D T n) (t : Nat) (ht : t < 17) (n0 : 0 ≤ n) (d1 : (T t).d ≤ 9000000000000000) (b1 : 0 ≤ (T t).b) (b2 : (T t).b ≤ 30) (l1 : 0 ≤ (T t).l) (l2 : (T t).l ≤ 30) (p1 : 0 ≤ (T t).p) (p2 : (T t).p ≤ 30) :
    Calls Try.prog 71 #[.pointer (some ⟨p, o + t * 6, none⟩), .int .i64 n] w fun e w' => e = .returned (.bool (decide (Stale (T t) n))) ∧ Only (fun _ => False) w w' := by
  have cb := h.cb t ht
  have cp := h.cp t ht
  have cl := h.cl t ht
  have cd := h.cd t ht
  have m1 := mul_bd (T t).l (T t).p l1 l2 p1 (by omega)
  have HS : Hid (Stale (T t) n ↔ ((T t).d ≤ n ∨ (T t).b * ((T t).d - n) < (T t).l * (T t).p)) := Lib.hid Iff.rfl
  clear h
  by_cases h1 : (T t).d ≤ n
  · have e : decide (Stale (T t) n) = true := decide_eq_true (HS.out.mpr (Or.inl h1))
    rw [e]
    have hd : decide ((T t).d ≤ n) = true := decide_eq_true h1
    clear HS e
    go_enter Try.func71, Try.ntmps71
    go_wp2_with fail
    go_quiet (fail)
    go_wp2_with fail
    go_ret
    exact ⟨rfl, only_drewN (Only.refl _ _) _⟩
  · have hd : decide ((T t).d ≤ n) = false := decide_eq_false h1
    have m2 := mul_bd (T t).b ((T t).d - n) b1 b2 (by omega) (by omega)
    have e : decide (Stale (T t) n) = decide ((T t).b * ((T t).d - n) < (T t).l * (T t).p) := decide_eq_decide.mpr ⟨fun q => (HS.out.mp q).resolve_left h1, fun q => HS.out.mpr (Or.inr q)⟩
    rw [e]
    clear HS e
    go_enter Try.func71, Try.ntmps71
    go_wp2_with fail
    go_quiet (fail)
    go_wp2_with fail
    go_ret
    exact ⟨rfl, only_drewN (Only.refl _ _) _⟩
end
end Go.Proofs.Ytlcjiiimaefclaa.De
