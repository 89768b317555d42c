/- A run of a call's own; spreadBegun. -/
import Derived.Test.YtddfdnhlghmapaaSpAdd
import Derived.Test.YtddfdnhlghmapaaRest
namespace Go.Proofs.Ytddfdnhlghmapaa.Sp
open Go.ChangeShapes Go.WideShapes Go.ChangeAt Go.RowKit Go.Maps
open Go.Proofs.Ytddfdnhlghmapaa.Vt
set_option linter.unusedVariables false

theorem quiet_trans {a b c : World} (h : Only (fun _ => False) a b) (k : Only (fun _ => False) b c) : Only (fun _ => False) a c := h.trans k (fun _ _ h => h)
/-- A run of the call's own. -/
structure Own (w0 w : World) (p : Nat) (S : St) (B : Int) : Prop where
  at_ : RunAt w p S
  ok : Ok S B
  own : w0.heap.size ≤ p
  only : Only (fun _ => False) w0 w
/-- What is known behind a call that changes it. -/
def Did (w0 : World) (p : Nat) (S : St) (B : Int) (v : Value) (e : Ending) (w' : World) : Prop := e = .returned v ∧ Own w0 w' p S B
section
variable {w0 w w' : World} {p : Nat} {S S' : St} {B B' : Int}
theorem Own.quiet (h : Own w0 w p S B) (hO : Only (fun _ => False) w w') : Own w0 w' p S B := ⟨h.at_.later hO, h.ok, h.own, quiet_trans h.only hO⟩
/-- What changes other blocks of one's own. -/
theorem Own.beside {R : Nat → Prop} (h : Own w0 w p S B) (hO : Only R w w') (hR : ¬ R p) (hN : ∀ k, R k → w0.heap.size ≤ k) : Own w0 w' p S B :=
  ⟨h.at_.keep hO hR, h.ok, h.own, h.only.trans hO (fun x hx e => by have := hN x e; omega)⟩
theorem Own.mono (h : Own w0 w p S B) (hB : B ≤ B') : Own w0 w p S B' := ⟨h.at_, h.ok.mono hB, h.own, h.only⟩
theorem Own.below (h : Own w0 w p S B) : Below w0.heap.size w0 w := h.only.below (Nat.le_refl _) (fun _ e => e.elim)
theorem Own.did {f : Nat} {args : Array Value} {v : Value} (h : Own w0 w p S B) (ok : Ok S' B') (k : Calls Try.prog f args w (Keep p S' v w)) : Calls Try.prog f args w (Did w0 p S' B' v) :=
  k.mono fun e w' ⟨h1, h2, h3⟩ => ⟨h1, h2, ok, h.own, h.only.trans h3 (fun x hx e => by have := h.own; omega)⟩

theorem Ok.leave (h : Ok S B) (t : Int) : Ok (leaveS S t) (B + 1) := by
  unfold leaveS; split
  · next ht =>
    obtain ⟨k, rfl, k1, k2, k3⟩ := there_nat ht
    rw [Int.toNat_natCast]
    exact ((h.off k).set k1 (noTk_ok (by have := h.B0; omega) (h.off k).k0)).fill
  · exact h.mono (by omega)
theorem TkOk.turn {x : Tk} {k : Int} (h : TkOk x B k) (r : Bool) : TkOk { x with r := r } B k := by
  obtain ⟨a1, a2, a3, a4, a5, a6, a7, a8, a9, a10, a11, a12, a13, a14, a15, a16, a17⟩ := h
  exact ⟨a1, a2, a3, a4, a5, a6, a7, a8, a9, a10, a11, a12, a13, a14, a15, a16, a17⟩
theorem Ok.block (h : Ok S B) (t : Int) : Ok (blockS S t) (B + 1) := by
  unfold blockS; split
  · next ht =>
    obtain ⟨k, rfl, k1, k2, k3⟩ := there_nat ht.1
    rw [Int.toNat_natCast]
    exact ((h.set k1 ((h.tk k (by omega)).turn false)).off k).fill
  · exact h.mono (by omega)
theorem Ok.wake (h : Ok S B) (t : Int) : Ok (wakeS S t) (B + 1) := by
  unfold wakeS; split
  · next ht =>
    obtain ⟨k, rfl, k1, k2, k3⟩ := there_nat ht.1
    rw [Int.toNat_natCast]
    unfold woken; split
    · exact (h.set k1 (wokeR_ok (h.tk k (by omega)) (now_bd h).1 (now_bd h).2)).start k1 (by omega)
    · exact h.start k1 (by omega)
  · exact h.mono (by omega)
theorem Ok.boost (h : Ok S B) (t c v : Int) : Ok (boostS S t c v) (B + 1) := by
  unfold boostS; split
  · next ht =>
    obtain ⟨k, rfl, k1, k2, k3⟩ := there_nat ht.2
    rw [Int.toNat_natCast]
    exact ((h.set k1 ((h.tk k (by omega)).boost c v (kind_bd ht.1))).fill).mono (by omega)
  · exact h.mono (by omega)
theorem Ok.calm (h : Ok S B) (t : Int) : Ok (calmS S t) (B + 1) := by
  unfold calmS; split
  · next ht =>
    obtain ⟨k, rfl, k1, k2, k3⟩ := there_nat ht.1
    rw [Int.toNat_natCast]
    have h1 := h.set k1 ((h.tk k (by omega)).boost 0 0 (by omega))
    unfold calmed; split
    · exact (h1.off k).fill
    · exact h1.fill.mono (by omega)
  · exact h.mono (by omega)
theorem Ok.pin (h : Ok S B) (t m : Int) : Ok (pinS S t m) (B + 1) := by
  unfold pinS; split
  · next ht =>
    obtain ⟨k, rfl, k1, k2, k3⟩ := there_nat ht.2
    rw [Int.toNat_natCast]
    have hmm := of_decide_eq_true ht.1
    have hab := all_bd S h.fine
    have h1 := h.set k1 ((h.tk k (by omega)).pin m.toNat (by omega))
    unfold pinned
    cases hp : place S k with
    | none => exact h1.fill.mono (by omega)
    | some i =>
      show Ok (if m.toNat / 2 ^ i % 2 = 1 then _ else _) _
      split
      · exact h1.fill.mono (by omega)
      · exact (h1.clr (place_is hp).1).fill
  · exact h.mono (by omega)
theorem Ok.tickS (h : Ok S B) (c : Int) : Ok (tickS S c) (B + 2) := by
  unfold Sp.tickS; split
  · next hc =>
    have hcc := of_decide_eq_true hc
    have := h.n4
    have h2 := h.tick (c := c.toNat) (by omega)
    exact h2.mono (by omega)
  · exact h.mono (by omega)

theorem own_new (n : Nat) (h1 : 1 ≤ n) (h4 : n ≤ 4) {w0 w : World} (hO : Only (fun _ => False) w0 w) : Calls Try.prog 27 #[.int .i64 n] w fun e w' => ∃ p, e = .returned (.tuple #[.pointer (some ⟨p, 0, none⟩), .int .i64 0]) ∧ p = w.heap.size ∧ Own w0 w' p (noS n) 0 :=
  (new_any n h1 h4 w).mono fun e w' ⟨p, e1, e2, e3, e4⟩ => ⟨p, e1, e2, e3, ok_no h1 h4, by rw [e2]; exact hO.size, quiet_trans hO e4⟩
theorem own_add (h : Own w0 w p S B) (hB : B ≤ 7000000000000) (t c v : Int) : Calls Try.prog 28 #[.pointer (some ⟨p, 0, none⟩), .int .i64 t, .int .i64 c, .int .i64 v] w (Did w0 p (addS S t c v) (B + 1) (.int .i64 (addE S t c v))) := h.did (h.ok.add t c v) (add_any h.at_ h.ok (by omega) t c v)
theorem own_leave (h : Own w0 w p S B) (hB : B ≤ 7000000000000) (t : Int) : Calls Try.prog 33 #[.pointer (some ⟨p, 0, none⟩), .int .i64 t] w (Did w0 p (leaveS S t) (B + 1) (.int .i64 (leaveE S t))) := h.did (h.ok.leave t) (leave_any h.at_ h.ok (by omega) t)
theorem own_block (h : Own w0 w p S B) (hB : B ≤ 7000000000000) (t : Int) : Calls Try.prog 35 #[.pointer (some ⟨p, 0, none⟩), .int .i64 t] w (Did w0 p (blockS S t) (B + 1) (.int .i64 (blockE S t))) := h.did (h.ok.block t) (block_any h.at_ h.ok (by omega) t)
theorem own_wake (h : Own w0 w p S B) (hB : B ≤ 7000000000000) (t : Int) : Calls Try.prog 37 #[.pointer (some ⟨p, 0, none⟩), .int .i64 t] w (Did w0 p (wakeS S t) (B + 1) (.int .i64 (wakeE S t))) := h.did (h.ok.wake t) (wake_any h.at_ h.ok (by omega) t)
theorem own_boost (h : Own w0 w p S B) (t c v : Int) : Calls Try.prog 43 #[.pointer (some ⟨p, 0, none⟩), .int .i64 t, .int .i64 c, .int .i64 v] w (Did w0 p (boostS S t c v) (B + 1) (.int .i64 (boostE S t c v))) := h.did (h.ok.boost t c v) (boost_any h.at_ h.ok t c v)
theorem own_calm (h : Own w0 w p S B) (hB : B ≤ 7000000000000) (t : Int) : Calls Try.prog 45 #[.pointer (some ⟨p, 0, none⟩), .int .i64 t] w (Did w0 p (calmS S t) (B + 1) (.int .i64 (calmE S t))) := h.did (h.ok.calm t) (calm_any h.at_ h.ok (by omega) t)
theorem own_pin (h : Own w0 w p S B) (hB : B ≤ 7000000000000) (t m : Int) : Calls Try.prog 41 #[.pointer (some ⟨p, 0, none⟩), .int .i64 t, .int .i64 m] w (Did w0 p (pinS S t m) (B + 1) (.int .i64 (pinE S t m))) := h.did (h.ok.pin t m) (pin_any h.at_ h.ok (by omega) t m)
theorem own_tick (h : Own w0 w p S B) (hB : B ≤ 7000000000000) (c : Int) : Calls Try.prog 39 #[.pointer (some ⟨p, 0, none⟩), .int .i64 c] w (Did w0 p (tickS S c) (B + 2) (.int .i64 (tickE S c))) := h.did (h.ok.tickS c) (tick_any h.at_ h.ok hB c)
theorem own_pick (h : Own w0 w p S B) (c : Int) : Calls Try.prog 29 #[.pointer (some ⟨p, 0, none⟩), .int .i64 c] w fun e w' => e = .returned (.tuple #[.int .i64 (pickN S c : Nat), .int .i64 (pickE S c)]) ∧ w = w' := pick_any h.at_ h.ok.n4 c
end

def b1 : St := addS (noS 2) 3 1 5
def b2 : St := addS b1 4 1 5
theorem begun_is : addE (noS 2) 3 1 5 = 0 ∧ addE b1 4 1 5 = 0 ∧ pickN b2 0 = 3 ∧ pickE b2 0 = 0 ∧ pickN b2 1 = 4 ∧ pickE b2 1 = 0 := by decide +kernel
theorem begun_any (w : World) : Calls Try.prog 48 #[] w fun e w' => e = .returned (.bool true) ∧ Only (fun _ => False) w w' := by
  obtain ⟨e1, e2, e3, e4, e5, e6⟩ := begun_is
  have N0 : Hid (Calls Try.prog 27 #[.int .i64 2] w fun e w' => ∃ p, e = .returned (.tuple #[.pointer (some ⟨p, 0, none⟩), .int .i64 0]) ∧ p = w.heap.size ∧ Own w w' p (noS 2) 0) := Lib.hid (own_new 2 (by omega) (by omega) (Only.refl (fun _ => False) w))
  have P1 : Hid (∀ (W : World) p, Own w W p (noS 2) 0 → Calls Try.prog 28 #[.pointer (some ⟨p, 0, none⟩), .int .i64 3, .int .i64 1, .int .i64 5] W (Did w p b1 1 (.int .i64 0))) :=
    Lib.hid (fun W p h => by have := own_add h (by omega) 3 1 5; rw [e1] at this; exact this)
  have P2 : Hid (∀ (W : World) p, Own w W p b1 1 → Calls Try.prog 28 #[.pointer (some ⟨p, 0, none⟩), .int .i64 4, .int .i64 1, .int .i64 5] W (Did w p b2 2 (.int .i64 0))) :=
    Lib.hid (fun W p h => by have := own_add h (by omega) 4 1 5; rw [e2] at this; exact this)
  have P3 : Hid (∀ (W : World) p, Own w W p b2 2 → Calls Try.prog 29 #[.pointer (some ⟨p, 0, none⟩), .int .i64 0] W fun e w' => e = .returned (.tuple #[.int .i64 3, .int .i64 0]) ∧ W = w') :=
    Lib.hid (fun W p h => by have := own_pick h 0; rw [e3, e4] at this; exact this)
  have P4 : Hid (∀ (W : World) p, Own w W p b2 2 → Calls Try.prog 29 #[.pointer (some ⟨p, 0, none⟩), .int .i64 1] W fun e w' => e = .returned (.tuple #[.int .i64 4, .int .i64 0]) ∧ W = w') :=
    Lib.hid (fun W p h => by have := own_pick h 1; rw [e5, e6] at this; exact this)
  clear e1 e2 e3 e4 e5 e6
  go_enter Try.func48, Try.ntmps48
  go_wp2_with (first
    | (go_at_call 27; (with_reducible refine N0.out.mono ?_); rintro e w1 ⟨p, rfl, -, hM⟩; have H0 := Lib.hid hM; clear hM)
    | (go_at_call 28; (with_reducible refine (P2.out _ _ H1.out).mono ?_); rintro e w3 ⟨rfl, hM⟩; have H2 := Lib.hid hM; clear hM)
    | (go_at_call 28; (with_reducible refine (P1.out _ _ H0.out).mono ?_); rintro e w2 ⟨rfl, hM⟩; have H1 := Lib.hid hM; clear hM)
    | (go_at_call 29; (with_reducible refine (P3.out _ _ H2.out).mono ?_); rintro e w' ⟨rfl, rfl⟩)
    | (go_at_call 29; (with_reducible refine (P4.out _ _ H2.out).mono ?_); rintro e w' ⟨rfl, rfl⟩))
  go_ret
  exact ⟨rfl, H2.out.only⟩
end Go.Proofs.Ytddfdnhlghmapaa.Sp
