/- A scheduler of a call's own; pickBegun. -/
import Derived.Test.YtpincdcebhmnhaaPkReady
import Derived.Test.YtpincdcebhmnhaaPkNew
import Derived.Test.YtpincdcebhmnhaaRest
namespace Go.Proofs.Ytpincdcebhmnhaa.Pk
open Go.ChangeShapes Go.WideShapes Go.ChangeAt Go.RowKit Go.Maps
open Go.Proofs.Ytpincdcebhmnhaa.Vt
set_option linter.unusedVariables false

theorem only_trans {a b c : World} (h : Only (fun _ => False) a b) (k : Only (fun _ => False) b c) : Only (fun _ => False) a c := h.trans k (fun _ _ h => h)

/-- A scheduler of the call's own. -/
structure Mine (w0 w : World) (p : Nat) (V : Nat → Value) (S : St) : Prop where
  at_ : PickAt w p 64 V S
  own : ∀ k, Pr.Foot p V k → w0.heap.size ≤ k
  only : Only (fun _ => False) w0 w

section
variable {w0 w w' : World} {p : Nat} {V V' : Nat → Value} {S S' : St} {B : Int}
theorem Mine.quiet (h : Mine w0 w p V S) (hO : Only (fun _ => False) w w') : Mine w0 w' p V S := ⟨h.at_.later hO, h.own, only_trans h.only hO⟩
theorem Mine.beside {R : Nat → Prop} (h : Mine w0 w p V S) (hO : Only R w w') (hR : ∀ k, Pr.Foot p V k → ¬ R k) (hN : ∀ k, R k → w0.heap.size ≤ k) : Mine w0 w' p V S :=
  ⟨h.at_.keep hO hR, h.own, h.only.trans hO (fun x hx e => by have := hN x e; omega)⟩
theorem Mine.step (h : Mine w0 w p V S) (hq : PickAt w' p 64 V' S') (hs : PStep p V V' w w') : Mine w0 w' p V' S' :=
  ⟨hq, fun k hk => (hs.grow k hk).elim (h.own k) (fun e => Nat.le_trans h.only.size e), h.only.trans hs.only (fun x hx e => by have := h.own x e; omega)⟩
/-- What is known behind a call that changes it. -/
def Did2 (w0 : World) (p : Nat) (S : St) (x : Value) (e : Ending) (w' : World) : Prop := e = .returned x ∧ ∃ V', Mine w0 w' p V' S
theorem Mine.did {f : Nat} {args : Array Value} {x : Value} (h : Mine w0 w p V S) (k : Calls Try.prog f args w (Did p 64 V S' x w)) : Calls Try.prog f args w (Did2 w0 p S' x) :=
  k.mono fun e w' ⟨h1, V', h2, h3⟩ => ⟨h1, V', h.step h2 h3⟩

theorem new_mine {w0 w : World} (hO : Only (fun _ => False) w0 w) : Calls Try.prog 7 #[] w fun e w' => ∃ p, e = .returned (.pointer (some ⟨p, 0, none⟩)) ∧ p = w.heap.size ∧ Mine w0 w' p Pr.noV noS :=
  (new_any w).mono fun e w' ⟨p, h1, h2, h3, h4⟩ => ⟨p, h1, h2, h3, fun k hk => by rw [Pr.no_foot hk, h2]; exact hO.size, only_trans hO h4⟩

theorem mine_fair (h : Mine w0 w p V S) (hI : Inv S B) (k : Nat) (x : Int) (e : (k : Int) = x) (h1 : 1 ≤ k) (h2 : k ≤ 16) (a : Int) (ha : isW a = true) (hc : S.C k = 0) :
    Calls Try.prog 8 #[.pointer (some ⟨p, 0, none⟩), .int .i64 x, .int .i64 a] w (Did2 w0 p (newFair S k a) (.int .i64 0)) := by
  subst e
  exact h.did (fair_new h.at_ k h1 h2 a hc ha (hI.free_none (by omega) hc).1)
theorem mine_prio (h : Mine w0 w p V S) (hI : Inv S B) (k : Nat) (x : Int) (e : (k : Int) = x) (h1 : 1 ≤ k) (h2 : k ≤ 16) (v : Nat) (y : Int) (ey : (v : Int) = y) (hv : v < 8) (hc : S.C k = 0) :
    Calls Try.prog 9 #[.pointer (some ⟨p, 0, none⟩), .int .i64 x, .int .i64 y] w (Did2 w0 p (newPrio S k v) (.int .i64 0)) := by
  subst e ey
  exact h.did (prio_new h.at_ hI.uniq k h1 h2 v hv hc (hI.free_none (by omega) hc).2.2)
theorem mine_dead (h : Mine w0 w p V S) (hI : Inv S B) (hB : B ≤ 8000000000000) (k : Nat) (x : Int) (e : (k : Int) = x) (h1 : 1 ≤ k) (h2 : k ≤ 16) (a b : Int) (hg : De.Good k a b) (hc : S.C k = 0) :
    Calls Try.prog 10 #[.pointer (some ⟨p, 0, none⟩), .int .i64 x, .int .i64 a, .int .i64 b] w (Did2 w0 p (newDead S k a b) (.int .i64 0)) := by
  subst e
  have := hI.nB
  exact h.did (dead_new h.at_ k h1 h2 a b hc hg (hI.free_none (by omega) hc).2.1 hI.n0 (by omega))
theorem mine_tick (h : Mine w0 w p V S) (hI : Inv S B) (hB : B ≤ 8000000000000) {m : Int} (hm : best S = m) :
    Calls Try.prog 14 #[.pointer (some ⟨p, 0, none⟩)] w (Did2 w0 p (tickS S) (.int .i64 m)) := by
  subst hm
  exact h.did (tick_any h.at_ hI hB)
theorem mine_block (h : Mine w0 w p V S) (hI : Inv S B) (t : Int) :
    Calls Try.prog 12 #[.pointer (some ⟨p, 0, none⟩), .int .i64 t] w (Did2 w0 p (blockS S t) (.int .i64 (blockE S t))) := h.did (block_any h.at_ hI t)
theorem mine_wake (h : Mine w0 w p V S) (hI : Inv S B) (hB : B ≤ 8000000000000000) (t : Int) :
    Calls Try.prog 13 #[.pointer (some ⟨p, 0, none⟩), .int .i64 t] w (Did2 w0 p (wakeS S t) (.int .i64 (wakeE S t))) := h.did (wake_any h.at_ hI hB t)
end

def b1 : St := newFair noS 1 5
def b2 : St := newPrio b1 2 0
theorem inv_b1 : Inv b1 0 := inv_no.new_fair (by omega) (by omega) rfl (by decide)
theorem inv_b2 : Inv b2 0 := inv_b1.new_prio (by omega) (by omega) rfl (by omega)
theorem best_b2 : best b2 = 2 := by
  rw [best_2 (v := 0) (by decide) (by decide)]; decide

set_option maxHeartbeats 400000 in
theorem begun_any (w : World) : Calls Try.prog 6 #[] w fun e w' => e = .returned (.bool true) ∧ Only (fun _ => False) w w' := by
  have N0 := Lib.hid (new_mine (Only.refl (fun _ => False) w))
  have P1 : Hid (∀ (W : World) p V, Mine w W p V noS → Calls Try.prog 8 #[.pointer (some ⟨p, 0, none⟩), .int .i64 1, .int .i64 5] W (Did2 w p b1 (.int .i64 0))) :=
    Lib.hid (fun W p V h => mine_fair h inv_no 1 1 rfl (by omega) (by omega) 5 (by decide) rfl)
  have P2 : Hid (∀ (W : World) p V, Mine w W p V b1 → Calls Try.prog 9 #[.pointer (some ⟨p, 0, none⟩), .int .i64 2, .int .i64 0] W (Did2 w p b2 (.int .i64 0))) :=
    Lib.hid (fun W p V h => mine_prio h inv_b1 2 2 rfl (by omega) (by omega) 0 0 rfl (by omega) rfl)
  have P3 : Hid (∀ (W : World) p V, Mine w W p V b2 → Calls Try.prog 14 #[.pointer (some ⟨p, 0, none⟩)] W (Did2 w p (tickS b2) (.int .i64 2))) :=
    Lib.hid (fun W p V h => mine_tick h inv_b2 (by omega) best_b2)
  go_enter Try.func6, Try.ntmps6
  go_wp2_with (first
    | (go_at_call 7; (with_reducible refine N0.out.mono ?_); rintro e w1 ⟨p, rfl, -, hM⟩; have H0 := Lib.hid hM; clear hM)
    | (go_at_call 8; (with_reducible refine (P1.out _ _ _ H0.out).mono ?_); rintro e w2 ⟨rfl, V1, hq⟩; have H1 := Lib.hid hq; clear hq)
    | (go_at_call 9; (with_reducible refine (P2.out _ _ _ H1.out).mono ?_); rintro e w2 ⟨rfl, V2, hq⟩; have H2 := Lib.hid hq; clear hq)
    | (go_at_call 14; (with_reducible refine (P3.out _ _ _ H2.out).mono ?_); rintro e w3 ⟨rfl, V3, hq⟩; have H3 := Lib.hid hq; clear hq))
  go_ret
  exact ⟨rfl, H3.out.only⟩
end Go.Proofs.Ytpincdcebhmnhaa.Pk
