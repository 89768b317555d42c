/- Contracts of package dead: find, fill, use, stale. -/
import Derived.Test.YtpincdcebhmnhaaODe
namespace Go.Proofs.Ytpincdcebhmnhaa.De
open Go.ChangeShapes Go.WideShapes Go.ChangeAt Go.RowKit Go.Maps
set_option linter.unusedVariables false

section
variable {w : World} {p o D : Nat} {T : Tks} {n : Int}

theorem find_yes (h : DeadAt w p o D T n) (t : Nat) (h1 : 1 ≤ t) (h2 : t ≤ 16) (hc : (T t).p ≠ 0) :
    Calls Try.prog 38 #[.pointer (some ⟨p, o, none⟩), .int .i64 t] w fun e w' => e = .returned (.pointer (some ⟨p, o + t * 6, none⟩)) ∧ w = w' := by
  have c0 := h.cp t (by omega)
  have h3 : ¬ (t : Int) < 1 := by omega
  have h4 : ¬ 16 < (t : Int) := by omega
  have h5 : (t : Int) < 17 := by omega
  have hc' : ((T t).p == 0) = false := by simpa using hc
  clear h hc
  go_enter Try.func38, Try.ntmps38
  go_wp2
  go_ret
  exact ⟨rfl, rfl⟩

theorem find_no (h : DeadAt w p o D T n) (t : Int) (ht : ¬ isTask T t) :
    Calls Try.prog 38 #[.pointer (some ⟨p, o, none⟩), .int .i64 t] w fun e w' => e = .returned (.pointer none) ∧ w = w' := by
  by_cases h2 : t < 1
  · clear ht
    go_enter Try.func38, Try.ntmps38
    go_wp2
    go_ret
    exact ⟨rfl, rfl⟩
  · by_cases h3 : 16 < t
    · clear ht
      go_enter Try.func38, Try.ntmps38
      go_wp2
      go_ret
      exact ⟨rfl, rfl⟩
    · obtain ⟨t, rfl⟩ : ∃ k : Nat, t = k := ⟨t.toNat, by omega⟩
      have hc : (T t).p = 0 := by
        apply Decidable.byContradiction; intro hc; exact ht ⟨by omega, by omega, by simpa using hc⟩
      have c0 := h.cp t (by omega)
      rw [hc] at c0
      have h5 : (t : Int) < 17 := by omega
      clear h hc ht
      go_enter Try.func38, Try.ntmps38
      go_wp2
      go_ret
      exact ⟨rfl, rfl⟩

theorem only_set1 {w w2 : World} {p o : Nat} (h : Within p o 103 w w2) (i : Nat) (u : Value) (hi : i < 103 := by omega) : Within p o 103 w (w2.setCell ⟨p, o + i, none⟩ u) := h.setCell (by omega) u
theorem only_set2 {w w2 : World} {p o : Nat} (h : Within p o 103 w w2) (i j : Nat) (u v : Value) (hi : i < 103 := by omega) (hj : j < 103 := by omega) : Within p o 103 w ((w2.setCell ⟨p, o + i, none⟩ u).setCell ⟨p, o + j, none⟩ v) :=
  only_set1 (only_set1 h i u hi) j v hj
theorem only_set3 {w w2 : World} {p o : Nat} (h : Within p o 103 w w2) (i j k : Nat) (u v x : Value) (hi : i < 103 := by omega) (hj : j < 103 := by omega) (hk : k < 103 := by omega) : Within p o 103 w (((w2.setCell ⟨p, o + i, none⟩ u).setCell ⟨p, o + j, none⟩ v).setCell ⟨p, o + k, none⟩ x) :=
  only_set1 (only_set2 h i j u v hi hj) k x hk

/-- What is known behind a call that changes a class. -/
def DKeep (w : World) (p o D : Nat) (v : Value) (T : Tks) (n : Int) (e : Ending) (w' : World) : Prop := e = .returned v ∧ DeadAt w' p o D T n ∧ Within p o 103 w w'

theorem fill_any (h : DeadAt w p o D T n) (t : Nat) (ht : t < 17) (s : Int) (h1 : 0 ≤ s) (h2 : s ≤ 9000000000000000000) (p1 : 0 ≤ (T t).p) (p2 : (T t).p ≤ 30) :
    Calls Try.prog 49 #[.pointer (some ⟨p, o + t * 6, none⟩), .int .i64 s] w (DKeep w p o D (.tuple #[]) (upd T t (fill (T t) s)) n) := by
  have H := Lib.hid h
  have cb := h.cb t ht
  have cp := h.cp t ht
  have cl := h.cl t ht
  have cd := h.cd t ht
  have co := h.co t ht
  have fz := h.frozen
  clear h
  go_enter Try.func49, Try.ntmps49
  go_wp2
  go_end0
  refine ⟨rfl, ?_, only_set3 (Within.refl _ _ _ _) (t * 6 + 2) (t * 6 + 3) (t * 6 + 4) _ _ _⟩
  have := ((H.out.set_tl t ht (T t).b).set_td t ht (s + (T t).p)).set_to t ht false
  simp only [upd_upd, upd_same] at this
  exact this

theorem use_any (h : DeadAt w p o D T n) (t : Nat) (ht : t < 17) (ho : (T t).o = false) (p1 : 0 ≤ (T t).l) (p2 : (T t).l ≤ 30) :
    Calls Try.prog 42 #[.pointer (some ⟨p, o + t * 6, none⟩)] w (DKeep w p o D (.tuple #[]) (upd T t (use (T t))) n) := by
  have H := Lib.hid h
  have cl := h.cl t ht
  have co := h.co t ht
  rw [ho] at co
  have fz := h.frozen
  clear h ho
  go_enter Try.func42, Try.ntmps42
  go_wp2
  go_end0
  refine ⟨rfl, ?_, only_set2 (Within.refl _ _ _ _) (t * 6 + 2) (t * 6 + 4) _ _⟩
  have := (H.out.set_tl t ht ((T t).l - 1)).set_to t ht ((T t).l - 1 == 0)
  simp only [upd_upd, upd_same] at this
  exact this

theorem mul_bd (a b : Int) (h1 : 0 ≤ a) (h2 : a ≤ 30) (h3 : 0 ≤ b) (h4 : b ≤ 9000000000000000) : 0 ≤ a * b ∧ a * b ≤ 300000000000000000 :=
  ⟨Int.mul_nonneg h1 h3, Int.le_trans (Int.mul_le_mul h2 h4 h3 (by omega)) (by omega)⟩

theorem stale_any (h : DeadAt w p o D T n) (t : Nat) (ht : t < 17) (n0 : 0 ≤ n) (d1 : (T t).d ≤ 9000000000000000) (b1 : 0 ≤ (T t).b) (b2 : (T t).b ≤ 30) (l1 : 0 ≤ (T t).l) (l2 : (T t).l ≤ 30) (p1 : 0 ≤ (T t).p) (p2 : (T t).p ≤ 30) :
    Calls Try.prog 74 #[.pointer (some ⟨p, o + t * 6, none⟩), .int .i64 n] w fun e w' => e = .returned (.bool (decide (Stale (T t) n))) ∧ Only (fun _ => False) w w' := by
  have cb := h.cb t ht
  have cp := h.cp t ht
  have cl := h.cl t ht
  have cd := h.cd t ht
  have m1 := mul_bd (T t).l (T t).p l1 l2 p1 (by omega)
  have HS : Hid (Stale (T t) n ↔ ((T t).d ≤ n ∨ (T t).b * ((T t).d - n) < (T t).l * (T t).p)) := Lib.hid Iff.rfl
  clear h
  by_cases h1 : (T t).d ≤ n
  · have e : decide (Stale (T t) n) = true := decide_eq_true (HS.out.mpr (Or.inl h1))
    rw [e]
    have hd : decide ((T t).d ≤ n) = true := decide_eq_true h1
    clear HS e
    go_enter Try.func74, Try.ntmps74
    go_wp2_with fail
    go_quiet (fail)
    go_wp2_with fail
    go_ret
    exact ⟨rfl, only_drewN (Only.refl _ _) _⟩
  · have hd : decide ((T t).d ≤ n) = false := decide_eq_false h1
    have m2 := mul_bd (T t).b ((T t).d - n) b1 b2 (by omega) (by omega)
    have e : decide (Stale (T t) n) = decide ((T t).b * ((T t).d - n) < (T t).l * (T t).p) := decide_eq_decide.mpr ⟨fun q => (HS.out.mp q).resolve_left h1, fun q => HS.out.mpr (Or.inr q)⟩
    rw [e]
    clear HS e
    go_enter Try.func74, Try.ntmps74
    go_wp2_with fail
    go_quiet (fail)
    go_wp2_with fail
    go_ret
    exact ⟨rfl, only_drewN (Only.refl _ _) _⟩

/-- A task whose time has come on: what Wake leaves of its reservation. -/
def wokeR (x : Tk) (n : Int) : Tk := if x.o = false ∧ Stale x n then fill x n else x
theorem wakeR_any (h : DeadAt w p o D T n) (t : Nat) (ht : t < 17) (n0 : 0 ≤ n) (n1 : n ≤ 9000000000000000) (d1 : (T t).d ≤ 9000000000000000) (b1 : 0 ≤ (T t).b) (b2 : (T t).b ≤ 30) (l1 : 0 ≤ (T t).l) (l2 : (T t).l ≤ 30) (p1 : 0 ≤ (T t).p) (p2 : (T t).p ≤ 30) :
    Calls Try.prog 73 #[.pointer (some ⟨p, o + t * 6, none⟩), .int .i64 n] w (DKeep w p o D (.tuple #[]) (upd T t (wokeR (T t) n)) n) := by
  have H := Lib.hid h
  have co := h.co t ht
  have hst := Lib.hid (stale_any h t ht n0 d1 b1 b2 l1 l2 p1 p2)
  have hf := Lib.hid (fun (W : World) (h : DeadAt W p o D T n) => fill_any h t ht n n0 (by omega) p1 p2)
  clear h
  cases ho : (T t).o with
  | true =>
    rw [ho] at co
    have e : wokeR (T t) n = T t := by unfold wokeR; rw [if_neg (by rw [ho]; simp)]
    rw [e, upd_self]
    clear e ho hst hf
    go_enter Try.func73, Try.ntmps73
    go_wp2
    go_end0
    exact ⟨rfl, H.out, Within.refl _ _ _ _⟩
  | false =>
    rw [ho] at co
    by_cases hs : Stale (T t) n
    · have e : wokeR (T t) n = fill (T t) n := by unfold wokeR; rw [if_pos ⟨ho, hs⟩]
      rw [e]
      rw [decide_eq_true hs] at hst
      clear e ho hs
      go_enter Try.func73, Try.ntmps73
      go_wp2_with (first
        | (go_at_call 74; (with_reducible refine hst.out.mono ?_); rintro e w1 ⟨rfl, hO⟩; have H1 := Lib.hid (H.out.later hO); have O1 := Lib.hid hO; clear hO)
        | (go_at_call 49; (with_reducible refine (hf.out _ H1.out).mono ?_); rintro e w2 ⟨rfl, hF, hO⟩; have H2 := Lib.hid hF; have O2 := Lib.hid hO; clear hF hO))
      go_end0
      exact ⟨rfl, H2.out, (Within.of H.out.lt O1.out).trans O2.out (fun _ _ h => h)⟩
    · have e : wokeR (T t) n = T t := by unfold wokeR; rw [if_neg (fun q => hs q.2)]
      rw [e, upd_self]
      rw [decide_eq_false hs] at hst
      clear e ho hs hf
      go_enter Try.func73, Try.ntmps73
      go_wp2_with (go_at_call 74; (with_reducible refine hst.out.mono ?_); rintro e w1 ⟨rfl, hO⟩; have H1 := Lib.hid (H.out.later hO); have O1 := Lib.hid hO; clear hO)
      go_end0
      exact ⟨rfl, H1.out, Within.of H.out.lt O1.out⟩

theorem passR_any (h : DeadAt w p o D T n) (t : Nat) (ht : t < 17) (m : Int) (d0 : 0 ≤ (T t).d) (d1 : (T t).d ≤ 9000000000000000000) (p0 : 0 ≤ (T t).p) (p1 : (T t).p ≤ 30) :
    Calls Try.prog 44 #[.pointer (some ⟨p, o + t * 6, none⟩), .int .i64 m] w (DKeep w p o D (.tuple #[]) (upd T t (again (T t) m)) n) := by
  have H := Lib.hid h
  have co := h.co t ht
  have cd := h.cd t ht
  have hf := Lib.hid (fun (W : World) (h : DeadAt W p o D T n) => fill_any h t ht (T t).d d0 d1 p0 p1)
  clear h
  cases ho : (T t).o with
  | false =>
    rw [ho] at co
    have e : again (T t) m = T t := by unfold again; rw [if_neg (by rw [ho]; simp)]
    rw [e, upd_self]
    clear e ho hf
    go_enter Try.func44, Try.ntmps44
    go_wp2
    go_end0
    exact ⟨rfl, H.out, Within.refl _ _ _ _⟩
  | true =>
    rw [ho] at co
    by_cases hs : (T t).d ≤ m
    · have e : again (T t) m = fill (T t) (T t).d := by unfold again; rw [if_pos ⟨ho, hs⟩]
      rw [e]
      have hd : decide ((T t).d ≤ m) = true := decide_eq_true hs
      clear e ho hs
      go_enter Try.func44, Try.ntmps44
      go_wp2_with (go_at_call 49; (with_reducible refine (hf.out _ H.out).mono ?_); rintro e w2 ⟨rfl, hF, hO⟩; have H2 := Lib.hid hF; have O2 := Lib.hid hO; clear hF hO)
      go_end0
      exact ⟨rfl, H2.out, O2.out⟩
    · have e : again (T t) m = T t := by unfold again; rw [if_neg (fun q => hs q.2)]
      rw [e, upd_self]
      have hd : decide ((T t).d ≤ m) = false := decide_eq_false hs
      clear e ho hs hf
      go_enter Try.func44, Try.ntmps44
      go_wp2
      go_end0
      exact ⟨rfl, H.out, Within.refl _ _ _ _⟩
end
end Go.Proofs.Ytpincdcebhmnhaa.De
