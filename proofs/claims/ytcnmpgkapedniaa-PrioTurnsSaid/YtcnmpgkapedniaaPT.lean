/- The law PrioTurns. -/
import Derived.Test.YtcnmpgkapedniaaPB
import Derived.Test.YtcnmpgkapedniaaPTwo
namespace Go.Proofs.Ytcnmpgkapedniaa.Pr
open Go.ChangeShapes Go.WideShapes Go.ChangeAt Go.RowKit Go.Maps
set_option linter.unusedVariables false

/-- A list turned n times. -/
def turned (xs : List Int) : Nat → List Int
  | 0 => xs
  | n + 1 => match turned xs n with
    | [] => []
    | y :: ys => ys ++ [y]
theorem turned_succ (xs : List Int) (n : Nat) {y : Int} {ys : List Int} (h : turned xs n = y :: ys) : turned xs (n + 1) = ys ++ [y] := by
  show (match turned xs n with | [] => [] | y :: ys => ys ++ [y]) = _
  rw [h]
theorem turned_is (xs : List Int) {n : Nat} (h : n ≤ xs.length) : turned xs n = xs.drop n ++ xs.take n := by
  induction n with
  | zero => simp [turned]
  | succ n ih =>
    have e := ih (by omega)
    have hd : xs.drop n = xs[n] :: xs.drop (n + 1) := List.drop_eq_getElem_cons (by omega)
    rw [hd, List.cons_append] at e
    rw [turned_succ xs n e, List.append_assoc, List.take_succ_eq_append_getElem (by omega)]

/-- The first of the n-th turn. -/
theorem turned_head (xs : List Int) {n : Nat} (h : n < xs.length) : ∃ ys, turned xs n = xs.getD n 0 :: ys ∧ turned xs (n + 1) = ys ++ [xs.getD n 0] ∧ ys.length + 1 = xs.length ∧ xs.take (n + 1) = xs.take n ++ [xs.getD n 0] := by
  have e := turned_is xs (Nat.le_of_lt h)
  have hd : xs.drop n = xs[n] :: xs.drop (n + 1) := List.drop_eq_getElem_cons h
  have hg : xs.getD n 0 = xs[n] := by simp [List.getD, h]
  rw [hd, List.cons_append, ← hg] at e
  refine ⟨_, e, turned_succ xs n e, ?_, by rw [List.take_succ_eq_append_getElem h, hg]⟩
  rw [List.length_append, List.length_drop, List.length_take]; omega

/-- Tasks 1 .. k are in the queues, no others, of the priorities 0 .. 3. -/
structure Made (Q : Qs) (k : Nat) : Prop where
  len : Len Q k
  only : ∀ i, i < 8 → ∀ t ∈ Q i, 1 ≤ t ∧ t ≤ (k : Int)

theorem made_no : Made noQ 0 := ⟨len_no, fun i _ t ht => by cases ht⟩
theorem Made.seek {Q : Qs} {k : Nat} (h : Made Q k) : seek Q ((k : Int) + 1) = none := seek_none (fun i hi hm => by have := (h.only i hi _ hm).2; omega)
theorem Made.put {Q : Qs} {k v : Nat} (h : Made Q k) (hv : v < 8) : Made (upd Q v (Q v ++ [(k : Int) + 1])) (k + 1) := by
  refine ⟨(h.len.mono (by omega)).upd (by have := h.len v hv; simp; omega), fun i hi t ht => ?_⟩
  by_cases e : i = v
  · subst e
    rw [upd_same] at ht
    rcases List.mem_append.1 ht with ht | ht
    · have := h.only i hi t ht; omega
    · simp at ht; omega
  · rw [upd_other _ _ e] at ht
    have := h.only i hi t ht; omega

/-- The queues below k, the others empty. -/
def lower (Q : Qs) (k : Nat) : Qs := fun j => if j < k then Q j else []
theorem lower_zero (Q : Qs) : lower Q 0 = noQ := by funext j; simp [lower, noQ]
theorem lower_next (Q : Qs) (k : Nat) : upd (lower Q k) k (Q k) = lower Q (k + 1) := by
  funext j
  unfold upd lower
  by_cases e : j = k
  · subst e; simp
  · rw [if_neg e]
    by_cases h : j < k
    · rw [if_pos h, if_pos (by omega)]
    · rw [if_neg h, if_neg (by omega)]
theorem lower_at {Q : Qs} {k j : Nat} (h : j < k) : lower Q k j = Q j := by simp [lower, h]

section
variable {w0 w w' : World} {p T b T' : Nat} {V U : Nat → Value} {Q : Qs}

/-- A copy of a queue stored among those that were kept. -/
theorem keep_one {k : Nat} {v : Value} (h : Two w0 w p T V Q b T' U (lower Q k)) (hk : k < 8) (hr : Ints w' w.heap.size v (Q k)) (hO : Only (fun _ => False) w w') :
    w'.cell? ⟨b, 0 + k, none⟩ = some (U k) ∧ w'.frozen? ⟨b, 0 + k, none⟩ = false ∧ Two w0 (w'.setCell ⟨b, 0 + k, none⟩ v) p T V Q b T' (upd U k v) (lower Q (k + 1)) := by
  obtain ⟨q1, q2⟩ := h.two.row_set hk (hr.base (Nat.zero_le _)) (hO.mono (fun _ _ e => e.elim)) (fun x hx => Or.inr (hr.block hx).1)
  rw [lower_next] at q1
  have h' := h.quiet hO
  exact ⟨h'.two.cell hk, h'.two.frozen _, h.step2 q1 q2⟩
end

set_option maxRecDepth 100000 in
set_option maxHeartbeats 1000000 in
theorem turns_walk (a : Option Addr) (len cap : Nat) (zs : List Int) (v : Int) (w : World) (h : IsRow .i64 w a len cap zs) :
    Calls Try.prog 5 #[.slice a len cap, .int .i64 v] w fun e w' => e = .returned (.bool true) ∧ Below w.heap.size w w' := by
  obtain ⟨xs, hx1, hx2, hc1, hc2⟩ := nums_cut h 16
  obtain ⟨m, hm⟩ : ∃ m, min len 16 = m := ⟨_, rfl⟩
  rw [hm] at hx1
  rw [hx1] at hx2
  have hm1 : m ≤ 16 := by omega
  have hm2 : m ≤ len := by omega
  have qm := run_min2 (len : Int) 16 m (by omega)
  have HX := Lib.hid hx2
  have HL := Lib.hid hx1
  have R4 := Lib.hid (fun k w => rest_4 k w)
  clear h hx1 hx2 hm
  go_enter Try.func5, Try.ntmps5
  go_wp2_with (first
    | (go_at_call 21; (with_reducible refine (begun_any _).mono ?_); rintro e w1 ⟨rfl, hO⟩; have HO := Lib.hid hO; clear hO)
    | (go_at_call 7; (with_reducible refine (new_mine HO.out).mono ?_); rintro e w4 ⟨p, rfl, -, hM⟩; have HM := Lib.hid hM; clear hM))
  clear qm
  go_loopw [6, 7, 25] (fun _ _ i wr => ∃ (k : Nat) (V : Nat → Value) (Q : Qs), k ≤ m ∧ i = .int .i64 k ∧ Mine w wr p 0 52 V Q ∧ Made Q k) (fun _ _ i _ => m - (intOf i).toNat)
  case atStart => exact ⟨0, _, _, by omega, rfl, HM.out, made_no⟩
  case round =>
    obtain ⟨k, V, Q, hk, rfl, hM, hL⟩ := hrel
    have HM1 := Lib.hid hM
    have HL1 := Lib.hid hL
    clear hM hL
    by_cases hlt : k < m
    · obtain ⟨b, off, rfl, hb, hc⟩ := (HX.out.later HM1.out.only).at (j := k) (by rw [HL.out]; exact hlt)
      obtain ⟨x, hx⟩ : ∃ x, xs.getD k 0 = x := ⟨_, rfl⟩
      rw [hx] at hc
      have g1 : (k : Int) < m := by omega
      have g2 : (0 : Int) ≤ k := by omega
      have g3 : (m : Int) ≤ 16 := by omega
      clear hx
      have HP := Lib.hid (fun (c : Nat) (hc : c < 4) => put_new HM1.out.at_ (fun i hi => by have := HL1.out.len i hi; omega) ((k : Int) + 1) c (by omega) (by omega) HL1.out.seek)
      go_wp2_with (first
        | (go_at_call 22; (with_reducible refine (R4.out _ _).mono ?_); rintro e w' ⟨c, hc4, rfl, rfl⟩; have HC := Lib.hid hc4)
        | (go_at_call 8; (with_reducible refine (HP.out c HC.out).mono ?_); rintro e w2 ⟨rfl, V2, hq, hs⟩; have HM2 := Lib.hid (HM1.out.step hq hs); clear hq hs))
      go_roundw
      case rel => exact ⟨k + 1, V2, _, by omega, by go_num, HM2.out, HL1.out.put (by have := HC.out; omega)⟩
      case measure => simp [intOf]; omega
    · obtain rfl : k = m := by omega
      clear HX HL HM hlt
      go_wp2_with (go_at_call 22; (with_reducible refine (R4.out _ _).mono ?_); rintro e w' ⟨c, hc4, rfl, rfl⟩; have HC := Lib.hid hc4)
      have HT0 := Two.beside (T' := 29) HM1.out (by decide) #[.slice none 0 0, .slice none 0 0, .slice none 0 0, .slice none 0 0, .slice none 0 0, .slice none 0 0, .slice none 0 0, .slice none 0 0] (lt8 (by repeat' constructor))
      rw [← lower_zero Q] at HT0
      have HT := Lib.hid HT0
      clear HT0
      have HLen := Lib.hid HL1.out.len
      clear HL1 HM1
      generalize wr.alloc _ = w5 at *
      generalize wr.heap.size = b at *
      clear hk
      have c8 : c < 8 := by omega
      have g4 : (c : Int) < 8 := by omega
      go_loopw [9, 40] (fun _ i wr => ∃ (j : Nat) (U : Nat → Value), j ≤ 8 ∧ i = .int .i64 j ∧ Two w wr p 52 V Q b 29 U (lower Q j)) (fun _ i _ => 8 - (intOf i).toNat)
      case atStart => exact ⟨0, _, by omega, rfl, HT.out⟩
      case round =>
        obtain ⟨j, U, hj, rfl, hM⟩ := hrel
        have HT1 := Lib.hid hM
        clear hM
        by_cases hj8 : j < 8
        · have g5 : (j : Int) < 8 := by omega
          have HLs := Lib.hid (list_yes HT1.out.one j hj8 (by have := HLen.out j hj8; omega))
          have HK := Lib.hid (fun (w' : World) (v : Value) (hr : Ints w' wr.heap.size v (Q j)) (hO : Only (fun _ => False) wr w') => keep_one HT1.out hj8 hr hO)
          rw [Nat.zero_add] at HK
          go_wp2_with (go_at_call 19; (with_reducible refine HLs.out.mono ?_); rintro e w6 ⟨lv, rfl, hr, hO⟩; obtain ⟨e1, e2, e3⟩ := HK.out _ _ hr hO; obtain ⟨la, lc, rfl, -, -⟩ := hr.shape; have E3 := Lib.hid e3; clear hr hO e3)
          go_roundw
          case rel => exact ⟨j + 1, _, by omega, by go_num, E3.out⟩
          case measure => simp [intOf]; omega
        · have e8 : j = 8 := by omega
          rw [e8] at HT1
          have g6 : ¬ (j : Int) < 8 := by omega
          clear hj hj8 HT e8
          obtain ⟨q, hq⟩ : ∃ q, (Q c).length = q := ⟨_, rfl⟩
          have hq16 : q ≤ 16 := by have := HLen.out c c8; omega
          have HQ := Lib.hid hq
          have cb := HT1.out.two.cell c8
          rw [Nat.zero_add] at cb
          obtain ⟨ua, uc, hu, -, -⟩ := (HT1.out.two.row c c8).shape
          rw [lower_at c8, hq] at hu
          rw [hu] at cb
          have HU := Lib.hid hu
          clear hq hu
          go_wp2_with fail
          clear cb
          go_loopw [10, 11, 12, 56] (fun fv _ _ i wr => ∃ (j : Nat) (V1 : Nat → Value), j ≤ q ∧ i = .int .i64 j ∧ Two w wr p 52 V1 (upd Q c (turned (Q c) j)) b 29 U (lower Q 8) ∧ Third wr p V1 b U w.heap.size fv ((Q c).take j)) (fun _ _ _ i _ => q - (intOf i).toNat)
          case atStart => exact ⟨0, V, Nat.zero_le _, rfl, by rw [show turned (Q c) 0 = Q c from rfl, upd_self]; exact HT1.out, by rw [List.take_zero]; exact Third.nil _ _ _ _ _ _⟩
          case round =>
            obtain ⟨j, V1, hj, rfl, hM, h3⟩ := hrel
            have HT2 := Lib.hid hM
            have HD2 := Lib.hid h3
            clear hM h3
            by_cases hjq : j < q
            · have g5 : (j : Int) < q := by omega
              obtain ⟨ys, t1, t2, t3, t4⟩ := turned_head (Q c) (n := j) (by rw [HQ.out]; exact hjq)
              have hQc : upd Q c (turned (Q c) j) c = (Q c).getD j 0 :: ys := by rw [upd_same]; exact t1
              have HQ2 := Lib.hid (show upd (upd Q c (turned (Q c) j)) c (ys ++ [(Q c).getD j 0]) = upd Q c (turned (Q c) (j + 1)) from by rw [upd_upd, t2])
              have HTk := Lib.hid t4
              rw [HQ.out] at t3
              clear t1 t2 t4
              generalize upd Q c (turned (Q c) j) = Q1 at *
              generalize (Q c).getD j 0 = x at *
              have HQc := Lib.hid hQc
              have hl1 : (Q1 c).length = q := by rw [hQc]; simpa using t3
              have HL1 := Lib.hid hl1
              have HLs := Lib.hid (list_yes HT2.out.one c c8 (by rw [hl1]; omega))
              clear hQc
              have cb := HT2.out.two.cell c8
              rw [Nat.zero_add, HU.out] at cb
              clear hl1
              have HTn := Lib.hid (fun (W : World) (V' : Nat → Value) (h : QAt W p 0 52 V' Q1) => turn_yes h c c8 x ys HQc.out (by omega))
              have HLB := Lib.hid (show ((Q c).take j).length + 1 ≤ 17000000000000 from by rw [List.length_take]; omega)
              go_wp2_with (first
                | (go_at_call 19; (with_reducible refine HLs.out.mono ?_); rintro e w6 ⟨lv, rfl, hr, hO⟩; obtain ⟨lg, lc, rfl, -, -, hr'⟩ := hr.at_block HL1.out (by omega); have cb6 := (cell_kept hO (block_lt cb) id).trans cb; have cl6 := ints_cell hr' (j := 0) (by rw [HL1.out]; omega); rw [HQc.out] at cl6; have HT4 := Lib.hid ((HT2.out.quiet hO).quiet ((Only.refl (fun _ => False) w6).alloc (.cells #[.int .i64 x] 3))); have HD4 := Lib.hid ((HD2.out.quiet hO).quiet ((Only.refl (fun _ => False) w6).alloc (.cells #[.int .i64 x] 3))); clear hr hr' hO)
                | (at_builtin; go_must (refine append_one rfl (.tmp 75) (.tmp 79) rfl w.heap.size w6.heap.size 1 _ ((Q c).take j) x rfl rfl HD4.out.row (heap_alloc_new w6 _) HLB.out HT4.out.only.size ?_); go_must (intro v7 w7 hr7 hO7 hb7); go_must (obtain ⟨k1, k2⟩ := Third.more HD4.out HT4.out hr7 hO7 hb7 (Nat.le_refl _)); rw [← HTk.out] at k1; have HD7 := Lib.hid k1; have HT7 := Lib.hid k2; clear hr7 hO7 hb7 k1 k2)
                | (go_at_call 16; (with_reducible refine (HTn.out _ _ HT7.out.one).mono ?_); rintro e w8 ⟨rfl, V2, hq2, hs2⟩; rw [HQ2.out] at hq2; have HT8 := Lib.hid (HT7.out.step1 hq2 hs2); have HD8 := Lib.hid (HD7.out.step1 hs2); clear hq2 hs2))
              go_roundw
              case rel => exact ⟨j + 1, V2, by omega, by go_num, HT8.out, HD8.out⟩
              case measure => simp [intOf]; omega
            · obtain rfl : j = q := by omega
              clear hj hjq HT1
              have e1 : turned (Q c) j = Q c := by rw [turned_is (Q c) (by rw [HQ.out]; exact Nat.le_refl _), List.drop_of_length_le (by rw [HQ.out]; exact Nat.le_refl _), List.take_of_length_le (by rw [HQ.out]; exact Nat.le_refl _)]; rfl
              have e2 : (Q c).take j = Q c := List.take_of_length_le (by rw [HQ.out]; exact Nat.le_refl _)
              rw [e1, upd_self] at HT2
              rw [e2] at HD2
              clear e1 e2
              go_wp2_with fail
              go_loopw [13, 14, 15, 86] (fun _ _ _ i wr => ∃ j : Nat, j ≤ 8 ∧ i = .int .i64 j ∧ Two w wr p 52 V1 Q b 29 U (lower Q 8) ∧ Ints wr w.heap.size _ (Q c)) (fun _ _ _ i _ => 8 - (intOf i).toNat)
              case atStart => exact ⟨0, by omega, rfl, HT2.out, HD2.out.row⟩
              case round =>
                obtain ⟨i, hi, rfl, hM, h3⟩ := hrel
                have HT3 := Lib.hid hM
                have HD3 := Lib.hid h3
                clear hM h3
                by_cases hi8 : i < 8
                · have g5 : (i : Int) < 8 := by omega
                  have HLs := Lib.hid (list_yes HT3.out.one i hi8 (by have := HLen.out i hi8; omega))
                  have cb := HT3.out.two.cell hi8
                  rw [Nat.zero_add] at cb
                  obtain ⟨sa, sc, hsv, -, -⟩ := (HT3.out.two.row i hi8).shape
                  have HE := Lib.hid (fun (W : World) (v' : Value) (hr : Nums W v' (Q i)) (hO : Only (fun _ => False) wr W) => eq_same v' (U i) (Q i) W hr (by have := ((HT3.out.two.row i hi8).later hO).nums; rw [lower_at hi8] at this; exact this) (by have := HLen.out i hi8; omega))
                  rw [hsv] at cb HE
                  clear hsv
                  go_wp2_with (first
                    | (go_at_call 19; (with_reducible refine HLs.out.mono ?_); rintro e w6 ⟨lv, rfl, hr, hO⟩; have cb6 := (cell_kept hO (block_lt cb) id).trans cb; have HT4 := Lib.hid (HT3.out.quiet hO); have HD4 := Lib.hid (HD3.out.later hO); have HEE := Lib.hid (HE.out _ _ hr.nums hO); clear hr hO)
                    | (go_at_call 20; (with_reducible refine HEE.out.mono ?_); rintro e w7 ⟨rfl, hO⟩; have HT5 := Lib.hid (HT4.out.quiet hO); have HD5 := Lib.hid (HD4.out.later hO); clear hO))
                  go_roundw
                  case rel => exact ⟨i + 1, by omega, by go_num, HT5.out, HD5.out⟩
                  case measure => simp [intOf]; omega
                · have g6 : ¬ (i : Int) < 8 := by omega
                  have cb := HT3.out.two.cell c8
                  rw [Nat.zero_add, HU.out] at cb
                  have HE := Lib.hid (eq_same _ (U c) (Q c) wr HD3.out.nums (by have := (HT3.out.two.row c c8).nums; rw [lower_at c8] at this; exact this) (by rw [HQ.out]; omega))
                  rw [HU.out] at HE
                  by_cases h0 : j = 0
                  · have HTn := Lib.hid (fun (W : World) (h : QAt W p 0 52 V1 Q) => turn_none h c c8 (List.length_eq_zero_iff.1 (by rw [HQ.out]; exact h0)))
                    have j0 : decide ((0 : Int) < (j : Int)) = false := decide_eq_false (by omega)
                    clear h0
                    go_wp2_with (first
                      | (go_at_call 20; (with_reducible refine HE.out.mono ?_); rintro e w7 ⟨rfl, hO⟩; have cb7 := (cell_kept hO (block_lt cb) id).trans cb; have HT5 := Lib.hid (HT3.out.quiet hO); clear hO)
                      | (go_at_call 16; (with_reducible refine (HTn.out _ HT5.out.one).mono ?_); rintro e w8 ⟨rfl, V2, hq2, hs2⟩; have HT6 := Lib.hid (HT5.out.step1 hq2 hs2); clear hq2 hs2))
                    all_goals first
                      | (exfalso; have := of_decide_eq_false j0; omega)
                      | (go_ret; exact ⟨rfl, HT6.out.only.below (Nat.le_refl _) (fun _ h => h.elim)⟩)
                  · have j0 : (0 : Int) < j := by omega
                    go_wp2_with (first
                      | (go_at_call 20; (with_reducible refine HE.out.mono ?_); rintro e w7 ⟨rfl, hO⟩; have cb7 := (cell_kept hO (block_lt cb) id).trans cb; have HT5 := Lib.hid (HT3.out.quiet hO); clear hO))
                    go_ret
                    exact ⟨rfl, HT5.out.only.below (Nat.le_refl _) (fun _ h => h.elim)⟩
end Go.Proofs.Ytcnmpgkapedniaa.Pr
