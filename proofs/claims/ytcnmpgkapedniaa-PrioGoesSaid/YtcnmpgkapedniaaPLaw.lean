/- What the statements need besides: a class of a call's own, lengths, prioBegun. -/
import Derived.Test.YtcnmpgkapedniaaPBits
import Derived.Test.YtcnmpgkapedniaaRest
namespace Go.Proofs.Ytcnmpgkapedniaa.Pr
open Go.ChangeShapes Go.WideShapes Go.ChangeAt Go.RowKit Go.Maps
set_option linter.unusedVariables false

theorem only_trans {a b c : World} (h : Only (fun _ => False) a b) (k : Only (fun _ => False) b c) : Only (fun _ => False) a c := h.trans k (fun _ _ h => h)

/-- Queues of the call's own. -/
structure Mine (w0 w : World) (p o T : Nat) (V : Nat → Value) (Q : Qs) : Prop where
  at_ : QAt w p o T V Q
  own : ∀ k, Foot p V k → w0.heap.size ≤ k
  only : Only (fun _ => False) w0 w

section
variable {w0 w w' : World} {p o T : Nat} {V V' : Nat → Value} {Q Q' : Qs}
theorem Mine.quiet (h : Mine w0 w p o T V Q) (hO : Only (fun _ => False) w w') : Mine w0 w' p o T V Q := ⟨h.at_.later hO, h.own, only_trans h.only hO⟩
theorem Mine.step (h : Mine w0 w p o T V Q) (hq : QAt w' p o T V' Q') (hs : Step p o V V' w w') : Mine w0 w' p o T V' Q' :=
  ⟨hq, fun k hk => (hs.grow k hk).elim (h.own k) (fun e => Nat.le_trans h.only.size e), h.only.trans hs.only (fun x hx e => by have := h.own x e; omega)⟩
end

theorem new_mine {w0 w : World} (hO : Only (fun _ => False) w0 w) : Calls Try.prog 7 #[] w fun e w' => ∃ p, e = .returned (.pointer (some ⟨p, 0, none⟩)) ∧ p = w.heap.size ∧ Mine w0 w' p 0 52 noV noQ :=
  (new_any w).mono fun e w' ⟨p, h1, h2, h3, h4⟩ => ⟨p, h1, h2, h3, fun k hk => by rw [no_foot hk, h2]; exact hO.size, only_trans hO h4⟩

/-- No queue is longer than n. -/
def Len (Q : Qs) (n : Nat) : Prop := ∀ i, i < 8 → (Q i).length ≤ n
theorem Len.mono {Q : Qs} {n m : Nat} (h : Len Q n) (hm : n ≤ m) : Len Q m := fun i hi => Nat.le_trans (h i hi) hm
theorem Len.upd {Q : Qs} {n k : Nat} {xs : List Int} (h : Len Q n) (hx : xs.length ≤ n) : Len (upd Q k xs) n := fun i hi => by
  by_cases e : i = k
  · subst e; rw [upd_same]; exact hx
  · rw [upd_other _ _ e]; exact h i hi
theorem len_no : Len noQ 0 := fun _ _ => Nat.le_refl _

def q1 : Qs := upd noQ 3 [1]
def q2 : Qs := upd q1 5 [2]

set_option maxHeartbeats 400000 in
theorem begun_any (w : World) : Calls Try.prog 21 #[] w fun e w' => e = .returned (.bool true) ∧ Only (fun _ => False) w w' := by
  have N0 := Lib.hid (new_mine (Only.refl (fun _ => False) w))
  have P1 : Hid (∀ (W : World) p V, QAt W p 0 52 V noQ → Calls Try.prog 8 #[.pointer (some ⟨p, 0, none⟩), .int .i64 1, .int .i64 3] W (Moved p 0 52 V q1 (.int .i64 0) W)) :=
    Lib.hid (fun W p V h => put_new h (fun i hi => by have := len_no i hi; omega) 1 3 (by omega) (by omega) (by decide))
  have P2 : Hid (∀ (W : World) p V, QAt W p 0 52 V q1 → Calls Try.prog 8 #[.pointer (some ⟨p, 0, none⟩), .int .i64 2, .int .i64 5] W (Moved p 0 52 V q2 (.int .i64 0) W)) :=
    Lib.hid (fun W p V h => put_new h (fun i hi => by have := (len_no.mono (Nat.zero_le 1)).upd (k := 3) (xs := [1]) (by simp) i hi; show (upd noQ 3 [1] i).length + 1 ≤ _; omega) 2 5 (by omega) (by omega) (by decide))
  have F2 : Hid (∀ (W : World) p V, QAt W p 0 52 V q2 → Calls Try.prog 18 #[.pointer (some ⟨p, 0, none⟩)] W (Triple 2 5 0 W)) :=
    Lib.hid (fun W p V h => first_is (n := 5) (first_any h (fun i hi => by have := ((len_no.mono (Nat.zero_le 1)).upd (k := 3) (xs := [1]) (by simp)).upd (k := 5) (xs := [2]) (by simp) i hi; show (upd (upd noQ 3 [1]) 5 [2] i).length ≤ _; omega)) (by decide))
  go_enter Try.func21, Try.ntmps21
  go_wp2_with (first
    | (go_at_call 7; (with_reducible refine N0.out.mono ?_); rintro e w1 ⟨p, rfl, -, hM⟩; have H0 := Lib.hid hM; clear hM)
    | (go_at_call 8; (with_reducible refine (P2.out _ _ _ H1.out.at_).mono ?_); rintro e w2 ⟨rfl, V2, hq, hs⟩; have H2 := Lib.hid (H1.out.step hq hs); clear hq hs)
    | (go_at_call 8; (with_reducible refine (P1.out _ _ _ H0.out.at_).mono ?_); rintro e w2 ⟨rfl, V1, hq, hs⟩; have H1 := Lib.hid (H0.out.step hq hs); clear hq hs)
    | (go_at_call 18; (with_reducible refine (F2.out _ _ _ H2.out.at_).mono ?_); rintro e w3 ⟨rfl, hO⟩; have H3 := Lib.hid (H2.out.quiet hO); clear hO))
  go_ret
  exact ⟨rfl, H3.out.only⟩
end Go.Proofs.Ytcnmpgkapedniaa.Pr
