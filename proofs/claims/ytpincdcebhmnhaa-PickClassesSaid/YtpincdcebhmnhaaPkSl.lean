/- Tasks of one priority take turns of three ticks: the walk of PickSlices. -/
import Derived.Test.YtpincdcebhmnhaaPkMine
namespace Go.Proofs.Ytpincdcebhmnhaa.Pk
open Go.ChangeShapes Go.WideShapes Go.ChangeAt Go.RowKit Go.Maps
open Go.Proofs.Ytpincdcebhmnhaa.Vt
set_option linter.unusedVariables false

theorem rest_some (k n : Int) (h : 0 < n) (h2 : n ≤ 9223372036854775807) (w : World) :
    Calls Try.prog 11 #[.int .i64 k, .int .i64 n] w fun e w' => ∃ r : Nat, e = .returned (.int .i64 r) ∧ (r : Int) < n ∧ w = w' := by
  refine (rest_any k n h h2 w).mono ?_
  rintro e w' ⟨rfl, rfl⟩
  have h3 := restOf_lo k n h
  have h4 := restOf_hi k n h
  exact ⟨(restOf k n).toNat, ret_int (by omega), by omega, rfl⟩

theorem past_noT (n : Int) : De.past De.noT n = De.noT := by
  funext j
  unfold De.past De.pastTo
  split
  · unfold De.again De.noT; rw [if_neg (by simp [De.noTk])]
  · rfl
theorem pick_noT : De.pick De.noT = 0 := by decide

/-- Tasks 1 to k of priority v, who just came. -/
structure Adds (S : St) (k v : Nat) : Prop where
  inv : Inv S 0
  d : S.d = De.noT
  C : ∀ j, j < 17 → S.C j = if 1 ≤ j ∧ j ≤ k then 2 else 0
  len : (S.Q v).length = k
  at_ : ∀ j, j < k → (S.Q v).getD j 0 = ((j + 1 : Nat) : Int)
  other : ∀ j, j < 8 → j ≠ v → S.Q j = []
  row : S.row = 0
theorem adds_none (v : Nat) : Adds noS 0 v := ⟨inv_no, rfl, fun j _ => by rw [if_neg (by omega)]; rfl, rfl, fun j h => by omega, fun _ _ _ => rfl, rfl⟩
theorem Adds.add {S : St} {k v : Nat} (h : Adds S k v) (hv : v < 8) (hk : k < 16) : Adds (newPrio S (k + 1) v) (k + 1) v := by
  have hc : S.C (k + 1) = 0 := by rw [h.C _ (by omega), if_neg (by omega)]
  refine ⟨h.inv.new_prio (by omega) (by omega) hc hv, h.d, fun j hj => ?_, ?_, fun j hj => ?_, fun j hj hne => ?_, h.row⟩
  · show Pr.upd S.C (k + 1) 2 j = _
    by_cases e : j = k + 1
    · subst e; rw [Pr.upd_same, if_pos (by omega)]
    · rw [Pr.upd_other _ _ e, h.C j hj]; by_cases e2 : 1 ≤ j ∧ j ≤ k
      · rw [if_pos e2, if_pos (by omega)]
      · rw [if_neg e2, if_neg (by omega)]
  · show (Pr.upd S.Q v _ v).length = _
    rw [Pr.upd_same, List.length_append, h.len]; rfl
  · show (Pr.upd S.Q v _ v).getD j 0 = _
    rw [Pr.upd_same]
    by_cases e : j < k
    · rw [← h.at_ j e, List.getD_eq_getElem?_getD, List.getD_eq_getElem?_getD, List.getElem?_append_left (by rw [h.len]; exact e)]
    · obtain rfl : j = k := by omega
      rw [List.getD_eq_getElem?_getD, List.getElem?_append_right (by rw [h.len]; omega), h.len, Nat.sub_self]; rfl
  · show Pr.upd S.Q v _ j = []
    rw [Pr.upd_other _ _ hne]; exact h.other j hj hne

/-- Behind i ticks. -/
structure Sliced (S : St) (n v i : Nat) : Prop where
  inv : Inv S i
  d : S.d = De.noT
  len : (S.Q v).length = n
  at_ : ∀ j, j < n → (S.Q v).getD j 0 = (((i / 3 + j) % n + 1 : Nat) : Int)
  other : ∀ j, j < 8 → j ≠ v → S.Q j = []
  row : S.row % 3 = (i : Int) % 3
  now : i % 3 ≠ 0 → S.now = ((i / 3 % n + 1 : Nat) : Int)
theorem Adds.sliced {S : St} {n v : Nat} (h : Adds S n v) : Sliced S n v 0 :=
  ⟨h.inv, h.d, h.len, fun j hj => by rw [h.at_ j hj]; rw [show (0 / 3 + j) % n = j by rw [Nat.zero_div, Nat.zero_add, Nat.mod_eq_of_lt hj]], h.other, by rw [h.row]; rfl, fun q => by omega⟩

section
variable {S : St} {n v i : Nat}
theorem Sliced.top (h : Sliced S n v i) (hn : 1 ≤ n) (hv : v < 8) : Pr.top S.Q = some v :=
  Pr.top_some hv (fun e => by have := h.len; rw [e] at this; simp at this; omega) (fun j h1 h2 => h.other j h2 (by omega))
theorem Sliced.best (h : Sliced S n v i) (hn : 1 ≤ n) (hv : v < 8) : best S = ((i / 3 % n + 1 : Nat) : Int) := by
  rw [best_2 (by rw [h.d]; exact pick_noT) (h.top hn hv), h.at_ 0 (by omega)]; rfl
theorem Sliced.headrow (h : Sliced S n v i) (hn : 1 ≤ n) (hv : v < 8) : (head S).row % 3 = ((i + 1 : Nat) : Int) % 3 := by
  have hb := h.best hn hv
  have hr := h.row
  show (if Pk.best S = S.now then S.row + 1 else 1) % 3 = _
  by_cases e : Pk.best S = S.now
  · rw [if_pos e]; omega
  · rw [if_neg e]
    have : i % 3 = 0 := by
      apply Decidable.byContradiction; intro q
      exact e (hb.trans (h.now q).symm)
    omega
theorem Sliced.tick (h : Sliced S n v i) (hn : 1 ≤ n) (hv : v < 8) : Sliced (tickS S) n v (i + 1) := by
  have ht := h.top hn hv
  have hb := h.best hn hv
  have hr := h.headrow hn hv
  have e : tickS S = { head S with Q := if (head S).row % 3 = 0 then turned S.Q else S.Q, d := De.past S.d S.n, n := S.n + 1 } := by
    unfold tickS; rw [if_neg (by rw [h.d, pick_noT]; simp), if_pos (by rw [ht]; simp)]
  have hI := h.inv.tick
  rw [e] at hI ⊢
  have hlen := h.len
  cases hq : S.Q v with
  | nil => rw [hq] at hlen; simp at hlen; omega
  | cons x xs =>
    rw [hq] at hlen
    simp at hlen
    have et : turned S.Q = upd S.Q v (xs ++ [x]) := by unfold turned; rw [ht]; simp only [hq]; rfl
    have at_ := h.at_
    rw [hq] at at_
    by_cases hz : (i + 1) % 3 = 0
    · have hz' : (head S).row % 3 = 0 := by rw [hr]; omega
      have hd : (i + 1) / 3 = i / 3 + 1 := by omega
      rw [if_pos hz', et] at hI ⊢
      refine ⟨hI, by show De.past S.d S.n = _; rw [h.d]; exact past_noT _, ?_, fun j hj => ?_, fun j hj hne => ?_, hr, fun q => absurd hz q⟩
      · show (Pr.upd S.Q v _ v).length = _
        rw [Pr.upd_same]; simp; omega
      · show (Pr.upd S.Q v _ v).getD j 0 = _
        rw [Pr.upd_same, hd]
        by_cases e2 : j + 1 < n
        · have := at_ (j + 1) e2
          rw [List.getD_eq_getElem?_getD, List.getElem?_append_left (by omega)]
          rw [List.getD_eq_getElem?_getD, List.getElem?_cons_succ] at this
          rw [this, show i / 3 + 1 + j = i / 3 + (j + 1) by omega]
        · have := at_ 0 (by omega)
          rw [List.getD_eq_getElem?_getD, List.getElem?_append_right (by omega), show j - xs.length = 0 by omega]
          rw [List.getD_cons_zero] at this
          show x = _
          rw [this, show i / 3 + 1 + j = i / 3 + 0 + n by omega, Nat.add_mod_right]
      · show Pr.upd S.Q v _ j = []
        rw [Pr.upd_other _ _ hne]; exact h.other j hj hne
    · have hz' : ¬ (head S).row % 3 = 0 := by rw [hr]; omega
      have hd : (i + 1) / 3 = i / 3 := by omega
      rw [if_neg hz'] at hI ⊢
      refine ⟨hI, by show De.past S.d S.n = _; rw [h.d]; exact past_noT _, ?_, fun j hj => ?_, h.other, hr, fun _ => by rw [hd]; exact hb⟩
      · rw [← h.len]
      · rw [hd]; exact h.at_ j hj
end

set_option maxHeartbeats 1000000 in
set_option maxRecDepth 100000 in
theorem slices_any (a b c : Int) (w : World) :
    Calls Try.prog 4 #[.int .i64 a, .int .i64 b, .int .i64 c] w (fun e w' => e = .returned (.bool true) ∧ Below w.heap.size w w') := by
  have C16 := Lib.hid (fun k w => rest_some k 16 (by omega) (by omega) w)
  have C8 := Lib.hid (fun k w => rest_some k 8 (by omega) (by omega) w)
  have C200 := Lib.hid (fun k w => rest_some k 200 (by omega) (by omega) w)
  go_enter Try.func4, Try.ntmps4
  go_wp2_with (first
    | (go_at_call 6; (with_reducible refine (begun_any _).mono ?_); rintro e w1 ⟨rfl, hO⟩; have HO := Lib.hid hO; clear hO)
    | (go_at_call 7; (with_reducible refine (new_mine HO.out).mono ?_); rintro e w4 ⟨p, rfl, -, hM⟩; have HM := Lib.hid hM; clear hM)
    | (go_at_call 11; (with_reducible refine (C16.out _ _).mono ?_); rintro e w' ⟨r1, rfl, hr1, rfl⟩)
    | (go_at_call 11; (with_reducible refine (C8.out _ _).mono ?_); rintro e w' ⟨r2, rfl, hr2, rfl⟩))
  go_loopw [8] (fun t wr => ∃ (k : Nat) (S : St) (V : Nat → Value), k ≤ r1 + 1 ∧ t = .int .i64 ((k : Int) + 1) ∧ Mine w wr p V S ∧ Adds S k r2) (fun t _ => r1 + 2 - (intOf t).toNat)
  case atStart => exact ⟨0, _, _, by omega, rfl, HM.out, adds_none _⟩
  case round =>
    obtain ⟨k, S, V, hk, rfl, hM, hA⟩ := hrel
    have HM1 := Lib.hid hM
    have HA := Lib.hid hA
    clear hM hA HM
    by_cases hlt : k < r1 + 1
    · have hb := HA.out.add (by omega) (by omega)
      have KP := Lib.hid (mine_prio HM1.out HA.out.inv (k + 1) ((k : Int) + 1) (by omega) (by omega) (by omega) r2 r2 rfl (by omega) (by rw [HA.out.C _ (by omega), if_neg (by omega)]))
      have HB := Lib.hid hb
      have g1 : (k : Int) + 1 ≤ 1 + (r1 : Int) := by omega
      clear hb
      go_wp2_with (go_at_call 9; (with_reducible refine KP.out.mono ?_); rintro e w5 ⟨rfl, V5, hq⟩; have H5 := Lib.hid hq; clear hq)
      go_roundw
      case rel => exact ⟨k + 1, _, _, by omega, by go_num, H5.out, HB.out⟩
      case measure => simp [intOf]; omega
    · have hkk : k = r1 + 1 := by omega
      have HS := Lib.hid (HA.out.sliced)
      have g1 : ¬ ((k : Int) + 1 ≤ 1 + (r1 : Int)) := by omega
      go_wp2_with (go_at_call 11; (with_reducible refine (C200.out _ _).mono ?_); rintro e w' ⟨r3, rfl, hr3, rfl⟩)
      clear C16 C8 C200
      go_loopw [30] (fun t wr => ∃ (i : Nat) (S : St) (V : Nat → Value), i ≤ r3 ∧ t = .int .i64 i ∧ Mine w wr p V S ∧ Sliced S k r2 i) (fun t _ => r3 - (intOf t).toNat)
      case atStart => exact ⟨0, _, _, by omega, rfl, HM1.out, HS.out⟩
      case round =>
        obtain ⟨i, S2, V2, hi, rfl, hM, hS⟩ := hrel
        have HM2 := Lib.hid hM
        have HS2 := Lib.hid hS
        clear hM hS HM1 HS
        by_cases hlt : i < r3
        · have hx : (((i / 3 % k + 1 : Nat) : Int)) = (i : Int) / 3 % (1 + (r1 : Int)) + 1 := by subst hkk; rw [Int.natCast_add, Int.natCast_emod, Int.natCast_ediv, Int.natCast_add, Int.add_comm (r1 : Int)]; rfl
          have hx0 : 0 ≤ (i : Int) / 3 % (1 + (r1 : Int)) := Int.emod_nonneg _ (by omega)
          have hx1 : (i : Int) / 3 % (1 + (r1 : Int)) < 1 + (r1 : Int) := Int.emod_lt_of_pos _ (by omega)
          have KT := Lib.hid (fun W (hW : Only (fun _ => False) wr W) => mine_tick (HM2.out.quiet hW) HS2.out.inv (by omega) ((HS2.out.best (by omega) (by omega)).trans hx))
          have HB := Lib.hid (HS2.out.tick (by omega) (by omega))
          have HW := Lib.hid (show IntKind.i64.wrap ((i : Int) / 3 % (1 + (r1 : Int)) + 1) = (i : Int) / 3 % (1 + (r1 : Int)) + 1 from IntWalk.i64_in _ (by omega))
          have g1 : (i : Int) < r3 := by omega
          clear hx hx0 hx1
          go_wp2_with fail
          go_region_with (go_at_call 14; (with_reducible refine (KT.out _ (Only.refl _ _).drew).mono ?_); rintro e w6 ⟨rfl, V6, hq⟩; have H6 := Lib.hid hq; clear hq)
          all_goals (
            (try simp only [HW.out])
            go_wp2_with fail
            go_roundw
            case rel => exact ⟨i + 1, _, _, by omega, by go_num, H6.out, HB.out⟩
            case measure => simp [intOf]; omega)
        · go_wp2_with fail
          go_ret
          exact ⟨rfl, Only.below HM2.out.only (Nat.le_refl _) (fun _ e => e.elim)⟩
end Go.Proofs.Ytpincdcebhmnhaa.Pk
