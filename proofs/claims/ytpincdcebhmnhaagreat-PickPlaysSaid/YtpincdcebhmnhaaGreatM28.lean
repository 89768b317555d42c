/- Texts of this claim, merged: RkTicks. -/
import Derived.Test.YtpincdcebhmnhaaGreatM27
/- The reference of one processor's scheduler: a tick, whoever goes. -/
namespace Go.Proofs.YtpincdcebhmnhaaGreat.Rk
open Go.ChangeShapes Go.WideShapes Go.ChangeAt Go.RowKit Go.Maps
open Go.Proofs.YtpincdcebhmnhaaGreat.Of Go.Proofs.YtpincdcebhmnhaaGreat.Pk Go.Proofs.YtpincdcebhmnhaaGreat.Vt
set_option linter.unusedVariables false

theorem rhead_row {S : St} {M : RSt} (hL : Link S M) (h : best S ≠ 0) : (rhead S M).used = (head S).row := by
  show (if best S = S.now then M.used + 1 else 1) = (if best S = S.now then S.row + 1 else 1)
  by_cases e : best S = S.now
  · rw [if_pos e, if_pos e, hL.used (by rw [← e]; exact h)]
  · rw [if_neg e, if_neg e]

theorem rtick_any {B : Nat} {w : World} {q : Nat} {M : RSt} {S : St} {b : Int} (h : RefP B w q M) (hL : Link S M) (hI : Inv S b) (hb : b ≤ 8000000000000) (u0 : 0 ≤ M.used) (uB : M.used ≤ 9000000000000000000) :
    Calls Tryz.prog 16 #[.pointer (some ⟨q, 0, none⟩)] w (RTick B q S M w) := by
  obtain ⟨m, hm, hm16, hg⟩ := hI.goes
  cases hg with
  | dead h1 hr hc => exact rtick_dead h hL hI hb u0 uB hm hm16 h1 hc
  | prio h1 v m xs ht hv hq m1 m2 hc =>
    have hru := rhead_row hL (by rw [hm]; omega)
    by_cases hz : (rhead S M).used % 3 = 0
    · exact rtick_turn h hL hI hb u0 uB hm hm16 h1 hv ht hq hru hz hc
    · exact rtick_stay h hL hI hb u0 uB hm hm16 h1 ht hru hz hc
  | fair h1 ht hn hr hc => exact rtick_fair h hL hI hb u0 uB hm hm16 h1 ht rfl (by omega) (hI.fit.rc _ (by omega) hr) hc
  | none h1 ht hn => exact rtick_none h hL hI hb u0 uB hm hm16 h1 ht hn hI.c0
end Go.Proofs.YtpincdcebhmnhaaGreat.Rk
