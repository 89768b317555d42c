/- The statements' deadBegun; a tick whose taker is known. -/
import Derived.Test.YtijpiloljgpnkaaDOps
import Derived.Test.YtijpiloljgpnkaaInts
import Derived.Test.YtijpiloljgpnkaaRest
namespace Go.Proofs.Ytijpiloljgpnkaa.De
open Go.ChangeShapes Go.WideShapes Go.ChangeAt Go.RowKit Go.Maps
set_option linter.unusedVariables false

theorem only_new {a b c : World} {p : Nat} (h : Only (fun _ => False) a b) (k : Only (fun k => k = p) b c) (hp : a.heap.size ≤ p) : Only (fun _ => False) a c := h.trans k (fun x h1 h2 => by subst h2; omega)
theorem only_trans {a b c : World} (h : Only (fun _ => False) a b) (k : Only (fun _ => False) b c) : Only (fun _ => False) a c := h.trans k (fun _ _ h => h)

theorem tick_is {w : World} {p : Nat} {T : Tks} {n n' : Int} {m : Nat} {k : Int} (h : DeadAt w p T n) (hb : Fit T n) (n0 : 0 ≤ n) (nB : n ≤ 8000000000000000) (hn : pick T = m) (hk : (m : Int) = k) (e : n + 1 = n') :
    Calls Try.prog 10 #[.pointer (some ⟨p, 0, none⟩)] w (DKeep w p (.int .i64 k) (tick T n) n') := by
  subst hk e
  have := tick_any h hb nB n0 nB
  rwa [hn] at this

theorem add_is {w : World} {p : Nat} {T : Tks} {n : Int} (h : DeadAt w p T n) (t : Nat) (x b q : Int) (e : (t : Int) = x) (hb : Good x b q) (hc : (T t).p = 0) (n0 : 0 ≤ n) (nB : n ≤ 8000000000000000000) :
    Calls Try.prog 9 #[.pointer (some ⟨p, 0, none⟩), .int .i64 x, .int .i64 b, .int .i64 q] w (DKeep w p (.int .i64 0) (upd T t (came b q n)) n) := by
  subst e; exact add_yes h t b q hb hc n0 nB

theorem fit_noT : Fit noT 0 := Fit.of (fun t _ => ok_no (Int.le_refl _)) rfl
theorem bare_noT : Bare noT := fun t _ _ => rfl

/-- The first ticks of a task with budget 1 and period 2. -/
def oneT : Tks := upd noT 1 (came 1 2 0)
theorem three_ticks : pick oneT = 1 ∧ pick (tick oneT 0) = 0 ∧ pick (tick (tick oneT 0) 1) = 1 := by
  refine ⟨by decide, by decide, by decide⟩

theorem one_fit : Fit oneT 0 := fit_noT.upd (ok_came (by omega) (by omega) (by omega) (by omega)) (by omega)
theorem one_bare : Bare oneT := bare_noT.upd (fun e => by cases e)

set_option maxHeartbeats 400000 in
theorem begun_any (w : World) : Calls Try.prog 26 #[] w fun e w' => e = .returned (.bool true) ∧ Only (fun _ => False) w w' := by
  obtain ⟨t1, t2, t3⟩ := three_ticks
  have T1 := Lib.hid t1
  have T2 := Lib.hid t2
  have T3 := Lib.hid t3
  have F0 := Lib.hid one_fit
  have B0 := Lib.hid one_bare
  have F1 : Hid (Fit (tick oneT 0) 1) := Lib.hid (F0.out.tick B0.out (by omega))
  have B1 := Lib.hid (B0.out.tick F0.out)
  have F2 : Hid (Fit (tick (tick oneT 0) 1) 2) := Lib.hid (F1.out.tick B1.out (by omega))
  have K1 := Lib.hid (fun wx px (hx : DeadAt wx px oneT 0) => tick_is hx F0.out (by omega) (by omega) T1.out (k := 1) rfl (n' := 1) rfl)
  have K2 := Lib.hid (fun wx px (hx : DeadAt wx px (tick oneT 0) 1) => tick_is hx F1.out (by omega) (by omega) T2.out (k := 0) rfl (n' := 2) rfl)
  have K3 := Lib.hid (fun wx px (hx : DeadAt wx px (tick (tick oneT 0) 1) 2) => tick_is hx F2.out (by omega) (by omega) T3.out (k := 1) rfl (n' := 3) rfl)
  have HA : Hid (upd noT 1 (came 1 2 0) = oneT) := Lib.hid rfl
  have A1 := Lib.hid (fun wx px (hx : DeadAt wx px noT 0) => add_is hx 1 1 1 2 rfl ⟨by omega, by omega, by omega, by omega, by omega, by omega⟩ rfl (by omega) (by omega))
  clear t1 t2 t3
  go_enter Try.func26, Try.ntmps26
  go_wp2_with (first
    | (go_at_call 8; (with_reducible refine (new_any _).mono ?_); rintro e w1 ⟨p, rfl, hp, hF, hO⟩; have HP := Lib.hid hp; have H0 := Lib.hid hF; have HO := Lib.hid hO; clear hp hF hO)
    | (go_at_call 9; (with_reducible refine (A1.out _ _ H0.out).mono ?_); rintro e w2 ⟨rfl, hF1, hO1⟩; rw [HA.out] at hF1; have H1 := Lib.hid hF1; have HO1 := Lib.hid (only_new HO.out hO1 HP.out); clear hF1 hO1)
    | (go_at_call 10; (with_reducible refine (K3.out _ _ H3.out).mono ?_); rintro e w3 ⟨rfl, hF2, hO2⟩; have H4 := Lib.hid hF2; have HO4 := Lib.hid (only_new HO3.out hO2 HP.out); clear hF2 hO2)
    | (go_at_call 10; (with_reducible refine (K2.out _ _ H2.out).mono ?_); rintro e w3 ⟨rfl, hF2, hO2⟩; have H3 := Lib.hid hF2; have HO3 := Lib.hid (only_new HO2.out hO2 HP.out); clear hF2 hO2)
    | (go_at_call 10; (with_reducible refine (K1.out _ _ H1.out).mono ?_); rintro e w3 ⟨rfl, hF2, hO2⟩; have H2 := Lib.hid hF2; have HO2 := Lib.hid (only_new HO1.out hO2 HP.out); clear hF2 hO2))
  go_ret
  exact ⟨rfl, HO4.out⟩
end Go.Proofs.Ytijpiloljgpnkaa.De
