/- Texts of this claim, merged: PkTick. -/
import Derived.Test.YtpincdcebhmnhaaGreatM11
/- Contracts of package pick: Tick. -/
namespace Go.Proofs.YtpincdcebhmnhaaGreat.Pk
open Go.ChangeShapes Go.WideShapes Go.ChangeAt Go.RowKit Go.Maps
set_option linter.unusedVariables false

/-- Who has the tick, and for how many in a row. -/
def head (S : St) : St := { S with now := best S, row := if best S = S.now then S.row + 1 else 1 }
theorem head_same {S : St} (h : best S = S.now) : head S = { S with row := S.row + 1 } := by unfold head; rw [if_pos h, h]
theorem head_other {S : St} (h : best S ≠ S.now) : head S = { S with now := best S, row := 1 } := by unfold head; rw [if_neg h]

section
variable {w w' : World} {p D : Nat} {V V' V'' : Nat → Value} {S S' : St}

set_option maxHeartbeats 1000000 in
theorem tick_none {B : Int} (h : PickAt w p D V S) (hu : Pr.Uniq S.Q) (m : Nat) (hm : best S = m) (hm16 : m ≤ 16) (r0 : 0 ≤ S.row) (rB : S.row ≤ 9000000000000000000) (hc : S.C m = 0) (hfd : De.Fit S.d B) (hBd : B ≤ 8000000000000000) (n0 : 0 ≤ S.n) (nB : S.n ≤ 8000000000000000) :
    Calls Tryz.prog 7 #[.pointer (some ⟨p, 0, none⟩)] w (Did p D V { head S with d := De.past S.d S.n, n := S.n + 1 } (.int .i64 m) w) := by
  have H := Lib.hid h
  have kb := Lib.hid (best_any h hu)
  have HM := Lib.hid hm
  have q3 : (m : Int) < 17 := by omega
  have q4 : ¬ (m : Int) < 0 := by omega
  rw [hm] at kb
  by_cases e : best S = S.now
  · have HE := Lib.hid (head_same e)
    have hn : S.now = (m : Int) := by rw [← e]; exact hm
    have HG := Lib.hid (fun W (hW : Only (fun _ => False) w W) => by have q := (h.later hW).set_row (S.row + 1); rw [← head_same e] at q; exact q)
    have hrow : (head S).row = S.row + 1 := by rw [head_same e]
    generalize hrr : S.row = r at *
    clear h hu e hm 
    go_enter Tryz.func7, Tryz.ntmps7
    go_upto_region 5 with (go_at_call 17; (with_reducible refine kb.out.mono ?_); rintro e w1 ⟨rfl, hO⟩; have HO := Lib.hid hO; clear hO; have cn := (H.out.later HO.out).now; rw [hn] at cn; have cr := (H.out.later HO.out).row; rw [hrr] at cr; have fz := (H.out.later HO.out).frozen)
    have HS := Lib.hid (HG.out w1 HO.out)
    clear cn cr fz
    generalize w1.setCell ⟨p, 232, none⟩ (.int .i64 (r + 1)) = w3 at *
    have cl := HS.out.1.cls m (by omega)
    rw [show (head S).C m = 0 from hc] at cl
    have fz := HS.out.1.frozen
    have HX := Lib.hid (HS.out.1.dead)
    have kp := Lib.hid (De.pass_any (show De.DeadAt _ p 111 D S.d S.n from HX.out) hfd (by omega) n0 (by omega))
    go_wp2_with (go_at_call 28; (with_reducible refine kp.out.mono ?_); rintro e w4 ⟨rfl, hF, hW⟩; have HA := Lib.hid (HS.out.1.by_dead hF hW); clear hF hW)
    go_ret
    exact Did.mk HA.out.1 (((PStep.of_quiet HO.out).trans HS.out.2).trans HA.out.2)
  · have HE := Lib.hid (head_other e)
    have hn : ((m : Int) == S.now) = false := beq_eq_false_iff_ne.2 (by rw [← hm]; exact e)
    have HG := Lib.hid (fun W (hW : Only (fun _ => False) w W) => by have q := (h.later hW).set_now m; have q2 := q.1.set_row 0; have q3 := q2.1.set_row 1; exact (show PickAt _ p D V (head S) ∧ PStep p V V _ _ from ⟨by rw [head_other e, hm]; exact q3.1, (q.2.trans q2.2).trans q3.2⟩))
    have hrow : (head S).row = 1 := by rw [head_other e]
    clear h hu e hm 
    go_enter Tryz.func7, Tryz.ntmps7
    go_upto_region 5 with (go_at_call 17; (with_reducible refine kb.out.mono ?_); rintro e w1 ⟨rfl, hO⟩; have HO := Lib.hid hO; clear hO; have cn := (H.out.later HO.out).now; have cr := (H.out.later HO.out).row; have fz := (H.out.later HO.out).frozen)
    have HS := Lib.hid (HG.out w1 HO.out)
    clear cn cr fz
    generalize ((w1.setCell ⟨p, 231, none⟩ (.int .i64 m)).setCell ⟨p, 232, none⟩ (.int .i64 0)).setCell ⟨p, 232, none⟩ (.int .i64 1) = w3 at *
    have cl := HS.out.1.cls m (by omega)
    rw [show (head S).C m = 0 from hc] at cl
    have fz := HS.out.1.frozen
    have HX := Lib.hid (HS.out.1.dead)
    have kp := Lib.hid (De.pass_any (show De.DeadAt _ p 111 D S.d S.n from HX.out) hfd (by omega) n0 (by omega))
    go_wp2_with (go_at_call 28; (with_reducible refine kp.out.mono ?_); rintro e w4 ⟨rfl, hF, hW⟩; have HA := Lib.hid (HS.out.1.by_dead hF hW); clear hF hW)
    go_ret
    exact Did.mk HA.out.1 (((PStep.of_quiet HO.out).trans HS.out.2).trans HA.out.2)
set_option maxHeartbeats 1000000 in
theorem tick_dead {B : Int} (h : PickAt w p D V S) (hu : Pr.Uniq S.Q) (m : Nat) (hm : best S = m) (hm16 : m ≤ 16) (r0 : 0 ≤ S.row) (rB : S.row ≤ 9000000000000000000) (hc : S.C m = 3) (hfd : De.Fit S.d B) (hBd : B ≤ 8000000000000000) (n0 : 0 ≤ S.n) (nB : S.n ≤ 8000000000000000) :
    Calls Tryz.prog 7 #[.pointer (some ⟨p, 0, none⟩)] w (Did p D V { head S with d := De.tick S.d S.n, n := S.n + 1 } (.int .i64 m) w) := by
  have H := Lib.hid h
  have kb := Lib.hid (best_any h hu)
  have HM := Lib.hid hm
  have q3 : (m : Int) < 17 := by omega
  have q4 : ¬ (m : Int) < 0 := by omega
  rw [hm] at kb
  by_cases e : best S = S.now
  · have HE := Lib.hid (head_same e)
    have hn : S.now = (m : Int) := by rw [← e]; exact hm
    have HG := Lib.hid (fun W (hW : Only (fun _ => False) w W) => by have q := (h.later hW).set_row (S.row + 1); rw [← head_same e] at q; exact q)
    have hrow : (head S).row = S.row + 1 := by rw [head_same e]
    generalize hrr : S.row = r at *
    clear h hu e hm 
    go_enter Tryz.func7, Tryz.ntmps7
    go_upto_region 5 with (go_at_call 17; (with_reducible refine kb.out.mono ?_); rintro e w1 ⟨rfl, hO⟩; have HO := Lib.hid hO; clear hO; have cn := (H.out.later HO.out).now; rw [hn] at cn; have cr := (H.out.later HO.out).row; rw [hrr] at cr; have fz := (H.out.later HO.out).frozen)
    have HS := Lib.hid (HG.out w1 HO.out)
    clear cn cr fz
    generalize w1.setCell ⟨p, 232, none⟩ (.int .i64 (r + 1)) = w3 at *
    have cl := HS.out.1.cls m (by omega)
    rw [show (head S).C m = 3 from hc] at cl
    have fz := HS.out.1.frozen
    have HX := Lib.hid (HS.out.1.dead)
    have kp := Lib.hid (De.tick_any HX.out hfd hBd n0 nB)
    go_wp2_with (go_at_call 25; (with_reducible refine kp.out.mono ?_); rintro e w4 ⟨rfl, hF, hW⟩; have HA := Lib.hid (HS.out.1.by_dead hF hW); clear hF hW)
    go_ret
    exact Did.mk HA.out.1 (((PStep.of_quiet HO.out).trans HS.out.2).trans HA.out.2)
  · have HE := Lib.hid (head_other e)
    have hn : ((m : Int) == S.now) = false := beq_eq_false_iff_ne.2 (by rw [← hm]; exact e)
    have HG := Lib.hid (fun W (hW : Only (fun _ => False) w W) => by have q := (h.later hW).set_now m; have q2 := q.1.set_row 0; have q3 := q2.1.set_row 1; exact (show PickAt _ p D V (head S) ∧ PStep p V V _ _ from ⟨by rw [head_other e, hm]; exact q3.1, (q.2.trans q2.2).trans q3.2⟩))
    have hrow : (head S).row = 1 := by rw [head_other e]
    clear h hu e hm 
    go_enter Tryz.func7, Tryz.ntmps7
    go_upto_region 5 with (go_at_call 17; (with_reducible refine kb.out.mono ?_); rintro e w1 ⟨rfl, hO⟩; have HO := Lib.hid hO; clear hO; have cn := (H.out.later HO.out).now; have cr := (H.out.later HO.out).row; have fz := (H.out.later HO.out).frozen)
    have HS := Lib.hid (HG.out w1 HO.out)
    clear cn cr fz
    generalize ((w1.setCell ⟨p, 231, none⟩ (.int .i64 m)).setCell ⟨p, 232, none⟩ (.int .i64 0)).setCell ⟨p, 232, none⟩ (.int .i64 1) = w3 at *
    have cl := HS.out.1.cls m (by omega)
    rw [show (head S).C m = 3 from hc] at cl
    have fz := HS.out.1.frozen
    have HX := Lib.hid (HS.out.1.dead)
    have kp := Lib.hid (De.tick_any HX.out hfd hBd n0 nB)
    go_wp2_with (go_at_call 25; (with_reducible refine kp.out.mono ?_); rintro e w4 ⟨rfl, hF, hW⟩; have HA := Lib.hid (HS.out.1.by_dead hF hW); clear hF hW)
    go_ret
    exact Did.mk HA.out.1 (((PStep.of_quiet HO.out).trans HS.out.2).trans HA.out.2)
set_option maxHeartbeats 1000000 in
theorem tick_fair {B : Int} (h : PickAt w p D V S) (hu : Pr.Uniq S.Q) (m : Nat) (hm : best S = m) (hm16 : m ≤ 16) (r0 : 0 ≤ S.row) (rB : S.row ≤ 9000000000000000000) (hc : S.C m = 1) (hfd : De.Fit S.d B) (hBd : B ≤ 8000000000000000) (n0 : 0 ≤ S.n) (nB : S.n ≤ 8000000000000000) {Bf : Int} (hff : Fr.Fit S.T S.G Bf) (hBf : Bf ≤ 9000000000000000000) (hn1 : (Fr.next S.T S.G).1 ≠ 0) :
    Calls Tryz.prog 7 #[.pointer (some ⟨p, 0, none⟩)] w (Did p D V { head S with T := Fr.tickT S.T (Fr.next S.T S.G).1, G := Fr.tickG S.T S.G (Fr.next S.T S.G).1, d := De.past S.d S.n, n := S.n + 1 } (.int .i64 m) w) := by
  have H := Lib.hid h
  have kb := Lib.hid (best_any h hu)
  have HM := Lib.hid hm
  have q3 : (m : Int) < 17 := by omega
  have q4 : ¬ (m : Int) < 0 := by omega
  rw [hm] at kb
  by_cases e : best S = S.now
  · have HE := Lib.hid (head_same e)
    have hn : S.now = (m : Int) := by rw [← e]; exact hm
    have HG := Lib.hid (fun W (hW : Only (fun _ => False) w W) => by have q := (h.later hW).set_row (S.row + 1); rw [← head_same e] at q; exact q)
    have hrow : (head S).row = S.row + 1 := by rw [head_same e]
    generalize hrr : S.row = r at *
    clear h hu e hm 
    go_enter Tryz.func7, Tryz.ntmps7
    go_upto_region 5 with (go_at_call 17; (with_reducible refine kb.out.mono ?_); rintro e w1 ⟨rfl, hO⟩; have HO := Lib.hid hO; clear hO; have cn := (H.out.later HO.out).now; rw [hn] at cn; have cr := (H.out.later HO.out).row; rw [hrr] at cr; have fz := (H.out.later HO.out).frozen)
    have HS := Lib.hid (HG.out w1 HO.out)
    clear cn cr fz
    generalize w1.setCell ⟨p, 232, none⟩ (.int .i64 (r + 1)) = w3 at *
    have cl := HS.out.1.cls m (by omega)
    rw [show (head S).C m = 1 from hc] at cl
    have fz := HS.out.1.frozen
    have kf := Lib.hid (Fr.tick_yes HS.out.1.fair hff hBf hn1)
    have kp := Lib.hid (fun W (HX : De.DeadAt W p 111 D S.d S.n) => De.pass_any HX hfd (by omega) n0 (by omega))
    go_wp2_with (first
      | (go_at_call 27; (with_reducible refine kf.out.mono ?_); rintro e w4 ⟨rfl, hF, hW⟩; have HA := Lib.hid (HS.out.1.by_fair hF hW); clear hF hW)
      | (go_at_call 28; (with_reducible refine (kp.out _ HA.out.1.dead).mono ?_); rintro e w5 ⟨rfl, hF, hW⟩; have HB := Lib.hid (HA.out.1.by_dead hF hW); clear hF hW))
    go_ret
    exact Did.mk HB.out.1 ((((PStep.of_quiet HO.out).trans HS.out.2).trans HA.out.2).trans HB.out.2)
  · have HE := Lib.hid (head_other e)
    have hn : ((m : Int) == S.now) = false := beq_eq_false_iff_ne.2 (by rw [← hm]; exact e)
    have HG := Lib.hid (fun W (hW : Only (fun _ => False) w W) => by have q := (h.later hW).set_now m; have q2 := q.1.set_row 0; have q3 := q2.1.set_row 1; exact (show PickAt _ p D V (head S) ∧ PStep p V V _ _ from ⟨by rw [head_other e, hm]; exact q3.1, (q.2.trans q2.2).trans q3.2⟩))
    have hrow : (head S).row = 1 := by rw [head_other e]
    clear h hu e hm 
    go_enter Tryz.func7, Tryz.ntmps7
    go_upto_region 5 with (go_at_call 17; (with_reducible refine kb.out.mono ?_); rintro e w1 ⟨rfl, hO⟩; have HO := Lib.hid hO; clear hO; have cn := (H.out.later HO.out).now; have cr := (H.out.later HO.out).row; have fz := (H.out.later HO.out).frozen)
    have HS := Lib.hid (HG.out w1 HO.out)
    clear cn cr fz
    generalize ((w1.setCell ⟨p, 231, none⟩ (.int .i64 m)).setCell ⟨p, 232, none⟩ (.int .i64 0)).setCell ⟨p, 232, none⟩ (.int .i64 1) = w3 at *
    have cl := HS.out.1.cls m (by omega)
    rw [show (head S).C m = 1 from hc] at cl
    have fz := HS.out.1.frozen
    have kf := Lib.hid (Fr.tick_yes HS.out.1.fair hff hBf hn1)
    have kp := Lib.hid (fun W (HX : De.DeadAt W p 111 D S.d S.n) => De.pass_any HX hfd (by omega) n0 (by omega))
    go_wp2_with (first
      | (go_at_call 27; (with_reducible refine kf.out.mono ?_); rintro e w4 ⟨rfl, hF, hW⟩; have HA := Lib.hid (HS.out.1.by_fair hF hW); clear hF hW)
      | (go_at_call 28; (with_reducible refine (kp.out _ HA.out.1.dead).mono ?_); rintro e w5 ⟨rfl, hF, hW⟩; have HB := Lib.hid (HA.out.1.by_dead hF hW); clear hF hW))
    go_ret
    exact Did.mk HB.out.1 ((((PStep.of_quiet HO.out).trans HS.out.2).trans HA.out.2).trans HB.out.2)
set_option maxHeartbeats 1000000 in
theorem tick_turn {B : Int} (h : PickAt w p D V S) (hu : Pr.Uniq S.Q) (m : Nat) (hm : best S = m) (hm16 : m ≤ 16) (r0 : 0 ≤ S.row) (rB : S.row ≤ 9000000000000000000) (hc : S.C m = 2) (hfd : De.Fit S.d B) (hBd : B ≤ 8000000000000000) (n0 : 0 ≤ S.n) (nB : S.n ≤ 8000000000000000) (hz : (head S).row % 3 = 0) {v : Nat} (ht : Pr.top S.Q = some v) (x : Int) (xs : List Int) (hq : S.Q v = x :: xs) :
    Calls Tryz.prog 7 #[.pointer (some ⟨p, 0, none⟩)] w (Did p D V { head S with Q := upd S.Q v (xs ++ [x]), d := De.past S.d S.n, n := S.n + 1 } (.int .i64 m) w) := by
  have H := Lib.hid h
  have kb := Lib.hid (best_any h hu)
  have HM := Lib.hid hm
  have q3 : (m : Int) < 17 := by omega
  have q4 : ¬ (m : Int) < 0 := by omega
  rw [hm] at kb
  have hu2 := Lib.hid (show Pr.Uniq (head S).Q from hu)
  have ht2 := Lib.hid (show Pr.top (head S).Q = some v from ht)
  have hq2 := Lib.hid (show (head S).Q v = x :: xs from hq)
  clear ht hq
  by_cases e : best S = S.now
  · have HE := Lib.hid (head_same e)
    have hn : S.now = (m : Int) := by rw [← e]; exact hm
    have HG := Lib.hid (fun W (hW : Only (fun _ => False) w W) => by have q := (h.later hW).set_row (S.row + 1); rw [← head_same e] at q; exact q)
    have hrow : (head S).row = S.row + 1 := by rw [head_same e]
    generalize hrr : S.row = r at *
    clear h hu e hm 
    go_enter Tryz.func7, Tryz.ntmps7
    go_upto_region 5 with (go_at_call 17; (with_reducible refine kb.out.mono ?_); rintro e w1 ⟨rfl, hO⟩; have HO := Lib.hid hO; clear hO; have cn := (H.out.later HO.out).now; rw [hn] at cn; have cr := (H.out.later HO.out).row; rw [hrr] at cr; have fz := (H.out.later HO.out).frozen)
    have HS := Lib.hid (HG.out w1 HO.out)
    clear cn cr fz
    generalize w1.setCell ⟨p, 232, none⟩ (.int .i64 (r + 1)) = w3 at *
    have cl := HS.out.1.cls m (by omega)
    rw [show (head S).C m = 2 from hc] at cl
    have cr2 := HS.out.1.row
    have z0 : 0 ≤ (head S).row := by rw [hrow]; omega
    have z3 : ((head S).row % 3 == 0) = true := by rw [hz]; rfl
    have fz := HS.out.1.frozen
    have kf := Lib.hid (fturn_yes HS.out.1 hu2.out (v := v) ht2.out x xs hq2.out)
    have kp := Lib.hid (fun W (HX : De.DeadAt W p 111 D S.d S.n) => De.pass_any HX hfd (by omega) n0 (by omega))
    clear hrow hz
    generalize hzz : (head S).row = z at cr2 z3 z0
    clear hzz
    go_wp2_with (first
      | (go_at_call 26; (with_reducible refine kf.out.mono ?_); rintro e w4 ⟨rfl, V2, hF, hW⟩; have HA1 := Lib.hid hF; have HA2 := Lib.hid hW; clear hF hW)
      | (go_at_call 28; (with_reducible refine (kp.out _ HA1.out.dead).mono ?_); rintro e w5 ⟨rfl, hF, hW⟩; have HB := Lib.hid (HA1.out.by_dead hF hW); clear hF hW))
    go_ret
    exact Did.mk HB.out.1 ((((PStep.of_quiet HO.out).trans HS.out.2).trans HA2.out).trans HB.out.2)
  · exfalso
    have : (head S).row = 1 := by rw [head_other e]
    omega
set_option maxHeartbeats 1000000 in
theorem tick_stay {B : Int} (h : PickAt w p D V S) (hu : Pr.Uniq S.Q) (m : Nat) (hm : best S = m) (hm16 : m ≤ 16) (r0 : 0 ≤ S.row) (rB : S.row ≤ 9000000000000000000) (hc : S.C m = 2) (hfd : De.Fit S.d B) (hBd : B ≤ 8000000000000000) (n0 : 0 ≤ S.n) (nB : S.n ≤ 8000000000000000) (hz : (head S).row % 3 ≠ 0) :
    Calls Tryz.prog 7 #[.pointer (some ⟨p, 0, none⟩)] w (Did p D V { head S with d := De.past S.d S.n, n := S.n + 1 } (.int .i64 m) w) := by
  have H := Lib.hid h
  have kb := Lib.hid (best_any h hu)
  have HM := Lib.hid hm
  have q3 : (m : Int) < 17 := by omega
  have q4 : ¬ (m : Int) < 0 := by omega
  rw [hm] at kb
  by_cases e : best S = S.now
  · have HE := Lib.hid (head_same e)
    have hn : S.now = (m : Int) := by rw [← e]; exact hm
    have HG := Lib.hid (fun W (hW : Only (fun _ => False) w W) => by have q := (h.later hW).set_row (S.row + 1); rw [← head_same e] at q; exact q)
    have hrow : (head S).row = S.row + 1 := by rw [head_same e]
    generalize hrr : S.row = r at *
    clear h hu e hm 
    go_enter Tryz.func7, Tryz.ntmps7
    go_upto_region 5 with (go_at_call 17; (with_reducible refine kb.out.mono ?_); rintro e w1 ⟨rfl, hO⟩; have HO := Lib.hid hO; clear hO; have cn := (H.out.later HO.out).now; rw [hn] at cn; have cr := (H.out.later HO.out).row; rw [hrr] at cr; have fz := (H.out.later HO.out).frozen)
    have HS := Lib.hid (HG.out w1 HO.out)
    clear cn cr fz
    generalize w1.setCell ⟨p, 232, none⟩ (.int .i64 (r + 1)) = w3 at *
    have cl := HS.out.1.cls m (by omega)
    rw [show (head S).C m = 2 from hc] at cl
    have cr2 := HS.out.1.row
    have z0 : 0 ≤ (head S).row := by rw [hrow]; omega
    have z3 : ((head S).row % 3 == 0) = false := beq_eq_false_iff_ne.2 hz
    have fz := HS.out.1.frozen
    have HX := Lib.hid (HS.out.1.dead)
    have kp := Lib.hid (De.pass_any (show De.DeadAt _ p 111 D S.d S.n from HX.out) hfd (by omega) n0 (by omega))
    clear hrow hz
    generalize hzz : (head S).row = z at cr2 z3 z0
    clear hzz
    go_wp2_with (go_at_call 28; (with_reducible refine kp.out.mono ?_); rintro e w4 ⟨rfl, hF, hW⟩; have HA := Lib.hid (HS.out.1.by_dead hF hW); clear hF hW)
    go_ret
    exact Did.mk HA.out.1 (((PStep.of_quiet HO.out).trans HS.out.2).trans HA.out.2)
  · have HE := Lib.hid (head_other e)
    have hn : ((m : Int) == S.now) = false := beq_eq_false_iff_ne.2 (by rw [← hm]; exact e)
    have HG := Lib.hid (fun W (hW : Only (fun _ => False) w W) => by have q := (h.later hW).set_now m; have q2 := q.1.set_row 0; have q3 := q2.1.set_row 1; exact (show PickAt _ p D V (head S) ∧ PStep p V V _ _ from ⟨by rw [head_other e, hm]; exact q3.1, (q.2.trans q2.2).trans q3.2⟩))
    have hrow : (head S).row = 1 := by rw [head_other e]
    clear h hu e hm 
    go_enter Tryz.func7, Tryz.ntmps7
    go_upto_region 5 with (go_at_call 17; (with_reducible refine kb.out.mono ?_); rintro e w1 ⟨rfl, hO⟩; have HO := Lib.hid hO; clear hO; have cn := (H.out.later HO.out).now; have cr := (H.out.later HO.out).row; have fz := (H.out.later HO.out).frozen)
    have HS := Lib.hid (HG.out w1 HO.out)
    clear cn cr fz
    generalize ((w1.setCell ⟨p, 231, none⟩ (.int .i64 m)).setCell ⟨p, 232, none⟩ (.int .i64 0)).setCell ⟨p, 232, none⟩ (.int .i64 1) = w3 at *
    have cl := HS.out.1.cls m (by omega)
    rw [show (head S).C m = 2 from hc] at cl
    have cr2 := HS.out.1.row
    have z0 : 0 ≤ (head S).row := by rw [hrow]; omega
    have z3 : ((head S).row % 3 == 0) = false := beq_eq_false_iff_ne.2 hz
    have fz := HS.out.1.frozen
    have HX := Lib.hid (HS.out.1.dead)
    have kp := Lib.hid (De.pass_any (show De.DeadAt _ p 111 D S.d S.n from HX.out) hfd (by omega) n0 (by omega))
    clear hrow hz
    generalize hzz : (head S).row = z at cr2 z3 z0
    clear hzz
    go_wp2_with (go_at_call 28; (with_reducible refine kp.out.mono ?_); rintro e w4 ⟨rfl, hF, hW⟩; have HA := Lib.hid (HS.out.1.by_dead hF hW); clear hF hW)
    go_ret
    exact Did.mk HA.out.1 (((PStep.of_quiet HO.out).trans HS.out.2).trans HA.out.2)
end
end Go.Proofs.YtpincdcebhmnhaaGreat.Pk
