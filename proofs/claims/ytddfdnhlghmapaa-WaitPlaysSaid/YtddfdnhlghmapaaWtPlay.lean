/- The law WaitPlays: its walk. -/
import Derived.Test.YtddfdnhlghmapaaWtAll
import Derived.Deep.CutBlock
namespace Go.Proofs.Ytddfdnhlghmapaa.Wt
open Go.ChangeShapes Go.WideShapes Go.ChangeAt Go.RowKit Go.Maps
open Go.Proofs.Ytddfdnhlghmapaa.Of
set_option linter.unusedVariables false

theorem within_any (x a b : Int) (w : World) :
    Calls Try.prog 59 #[.int .i64 x, .int .i64 a, .int .i64 b] w fun e w' => e = .returned (.bool (decide (a ≤ x ∧ x ≤ b))) ∧ w = w' := by
  by_cases h1 : a ≤ x
  · by_cases h2 : x ≤ b
    · rw [decide_eq_true (p := a ≤ x ∧ x ≤ b) ⟨h1, h2⟩]
      go_enter Try.func59, Try.ntmps59
      go_wp2
      go_ret
      exact ⟨rfl, rfl⟩
    · rw [decide_eq_false (p := a ≤ x ∧ x ≤ b) (by omega)]
      go_enter Try.func59, Try.ntmps59
      go_wp2
      go_ret
      exact ⟨rfl, rfl⟩
  · rw [decide_eq_false (p := a ≤ x ∧ x ≤ b) (by omega)]
    go_enter Try.func59, Try.ntmps59
    go_wp2
    go_ret
    exact ⟨rfl, rfl⟩

theorem ref_task (x : Int) (w : World) : Calls Try.prog 17 #[.int .i64 x] w fun e w' => e = .returned (.bool (isT x)) ∧ w = w' := by
  have c := Lib.hid (within_any x 1 16 w)
  unfold isT
  generalize decide (1 ≤ x ∧ x ≤ 16) = b at *
  go_enter Try.func17, Try.ntmps17
  go_wp2_with (go_at_call 59; (with_reducible refine c.out.mono ?_); rintro e w' ⟨rfl, rfl⟩)
  go_ret
  exact ⟨rfl, rfl⟩
/-- What is known ere each play. -/
def Eve (w0 : World) (p b n : Nat) (vl va wk i : Value) (wr : World) : Prop :=
  ∃ (j : Nat) (V : Value) (S : Line) (G : Looks) (F : Int → Int) (k : Int) (c : Nat), j ≤ n ∧ i = .int .i64 j ∧ wk = .int .i64 k ∧ k ≤ j + 1 ∧ c ≤ 2 * j ∧ Link G F k ∧ All w0 wr p V S G vl (ids S) va (ids (lone S)) b c F
/-- What is known behind the switch. -/
def Mixed (w0 : World) (p b j : Nat) (vl va wk : Value) (wx : World) : Prop :=
  ∃ (V : Value) (S : Line) (G : Looks) (F : Int → Int) (k : Int) (c : Nat), wk = .int .i64 k ∧ k ≤ j + 2 ∧ c ≤ 2 * j + 2 ∧ Link G F k ∧ All w0 wx p V S G vl (ids S) va (ids (lone S)) b c F

theorem less_len (xs W : List Int) : (less xs W).length ≤ xs.length := by rw [less_is]; exact List.length_filter_le _ _
theorem bI : isT 0 = false ∧ isT 1 = true := by decide

set_option maxRecDepth 100000 in
set_option maxHeartbeats 8000000 in
theorem plays_walk (a : Option Addr) (cap : Nat) (recs : List (List Int)) (w : World) (h : ArgRows w a recs.length cap recs) (hn : recs.length * 24 ≤ 140737488351232) :
    Calls Try.prog 3 #[.slice a recs.length cap] w fun e w' => e = .returned (.bool true) ∧ Below w.heap.size w w' := by
  obtain ⟨-, hcap, hmx, -, hrow⟩ := h
  have HROW := Lib.hid hrow
  have hcm : cap ≤ 9223372036854775807 := by unfold maxLen at hmx; omega
  clear hrow hmx
  have N0 := Lib.hid (new_mine (Only.refl (fun _ => False) w))
  have P0 : Hid (∀ (W : World) p V, QAt W p V [] noG → Calls Try.prog 12 #[.pointer (some ⟨p, 0, none⟩), .int .i64 0, .bool true] W (Moved p V [] noG (.int .i64 1) W)) :=
    Lib.hid (fun W p V h => add_bad h 0 true bI.1)
  have P1 : Hid (∀ (W : World) p V, QAt W p V [] noG → Calls Try.prog 12 #[.pointer (some ⟨p, 0, none⟩), .int .i64 1, .bool true] W (Moved p V [(1, true)] noG (.int .i64 0) W)) :=
    Lib.hid (fun W p V h => add_new h (Nat.zero_le _) 1 true bI.2 (by simp [ids]))
  have HF : Hid (Fine [(1, true)]) := Lib.hid ⟨by simp [ids], fun t ht => by simp [ids] at ht; omega⟩
  have PL : Hid (∀ (W : World) p V, QAt W p V [(1, true)] noG → Calls Try.prog 14 #[.pointer (some ⟨p, 0, none⟩)] W fun e w' => ∃ v, e = .returned v ∧ Ints w' W.heap.size v [1] ∧ Only (fun _ => False) W w') :=
    Lib.hid (fun W p V h => list_any h (by decide))
  have HQ := Lib.hid (fun (W W' : World) (v : Value) (hv : Ints W' W.heap.size v [1]) (w2 : World) (hO : Only (fun _ => False) W' w2) (v2 : Value) (h2 : Nums w2 v2 [1]) => eq_same v v2 [1] w2 (hv.later hO).nums h2 (by decide))
  have hmm := @run_makeMap Try.prog
  go_enter Try.func3, Try.ntmps3
  go_upto_region 4 with (first
    | (go_at_call 11; (with_reducible refine N0.out.mono ?_); rintro e w1 ⟨p0, rfl, -, hM⟩; have H0 := Lib.hid hM; clear hM)
    | (go_at_call 12; (with_reducible refine (P0.out _ _ _ H0.out.at_).mono ?_); rintro e w2 ⟨rfl, V1, hq, hs⟩; have H1 := Lib.hid (H0.out.step hq hs fine_nil); clear hq hs)
    | (go_at_call 12; (with_reducible refine (P1.out _ _ _ H1.out.at_).mono ?_); rintro e w3 ⟨rfl, V2, hq, hs⟩; have H2 := Lib.hid (H1.out.step hq hs HF.out); clear hq hs)
    | (go_at_call 14; (with_reducible refine (PL.out _ _ _ H2.out.at_).mono ?_); rintro e w4 ⟨v4, rfl, hi, hO⟩; have HI4 := Lib.hid hi; have HO4 := Lib.hid (only_trans H2.out.only hO); clear hi hO)
    | (go_at_call 13; have hc := HQ.out _ _ _ HI4.out (w4.alloc (.cells #[.int .i64 1] 3)) ((Only.refl _ _).alloc _) (.slice (some ⟨w4.heap.size, 0, none⟩) 1 1) (nums_block (xs := [1]) (heap_alloc_new _ _) rfl); (with_reducible refine hc.mono ?_); clear hc; rintro e w5 ⟨rfl, hO⟩; have HO5 := Lib.hid (only_trans (HO4.out.alloc _) hO); clear hO))
  clear N0 P0 P1 PL HQ H0 H1 H2 HI4 HO4 HF
  go_wp2_with (go_at_call 11; (with_reducible refine (new_mine HO5.out).mono ?_); rintro e w6 ⟨p, rfl, -, hM⟩; have HM := Lib.hid hM; clear hM)
  have HA0 : Hid (All w (w6.alloc (.map #[] 0)) p (.slice none 0 0) [] noG (.slice none 0 0) [] (.slice none 0 0) [] w6.heap.size 0 (fun _ => 0)) :=
    Lib.hid ⟨HM.out.quiet ((Only.refl _ _).alloc _), ints_nil _ _, ints_nil _ _, (fun g e => by cases e), NumsAt.made w6, HM.out.only.size⟩
  obtain ⟨b, hb⟩ : ∃ b, w6.heap.size = b := ⟨_, rfl⟩
  rw [hb] at HA0
  rw [hb]
  clear hb HM
  generalize w6.alloc _ = w7 at *
  go_loopw [5, 6, 8, 53] (fun vl va wk i wr => Eve w p b recs.length vl va wk i wr) (fun _ _ _ i _ => recs.length - (intOf i).toNat)
  case atStart => exact ⟨0, _, _, _, _, _, _, by omega, rfl, rfl, by omega, by omega, Link.start, HA0.out⟩
  case round =>
    clear HA0
    obtain ⟨j, V, S, G, F, k, c, hj, rfl, rfl, hk, hc0, hL, hA⟩ := hrel
    have HA := Lib.hid hA
    have HL := Lib.hid hL
    have hk1 := hL.one
    clear hA hL
    by_cases hjn : j < recs.length
    · obtain ⟨rb, roff, rv, rfl, hbl, hc, hv⟩ := HROW.out j hjn
      have hcx := (HA.out.below.cell (p := ⟨rb, roff + j, none⟩) hbl).trans hc
      have HV := Lib.hid (hv.later HA.out.below)
      have hv0 := Lib.hid hv
      have hwf := Lib.hid (hv.wf 1)
      have g1 : (j : Int) < recs.length := by omega
      have g2 : (0 : Int) ≤ j := by omega
      generalize recs.getD j [] = xs at *
      clear hc hv
      go_upto_region 12 with (first
        | (go_at_call 15; (with_reducible refine (at_1 HV.out).mono ?_); rintro e w' ⟨rfl, rfl⟩)
        | (go_at_call 15; (with_reducible refine (at_2 HV.out).mono ?_); rintro e w' ⟨rfl, rfl⟩))
      generalize (nth xs 2 == 1) = al at *
      have HCt := Lib.hid (contains_any u5 (ids S) (nth xs 1) wr HA.out.l.nums (by have := HA.out.mine.fine.len; rw [ids_len]; omega))
      have K0 := Lib.hid (fun (w' : World) (hb : Below w.heap.size w w') => at_0 (hv0.out.later hb))
      go_upto_block 2 with (first
        | (go_at_call 16; (with_reducible refine HCt.out.mono ?_); rintro e w8 ⟨rfl, hO⟩; have HB := Lib.hid (HA.out.quiet hO); clear hO)
        | (go_at_call 15; (with_reducible refine (K0.out _ HB.out.below).mono ?_); rintro e w' ⟨rfl, rfl⟩))
      clear HV HCt K0 hcx hv0 HA hbl
      have hwf := hwf.out
      rw [show xs.getD 1 0 = nth xs 1 from rfl] at hwf
      have ht0 := i64_bd hwf
      have HWF := Lib.hid hwf
      clear hwf
      generalize nth xs 0 = op at *
      generalize nth xs 1 = t at *
      obtain ⟨ins, hin⟩ : ∃ ins, decide (t ∈ ids S) = ins := ⟨_, rfl⟩
      rw [hin]
      have HIN := Lib.hid hin
      clear hin
      go_cut [5, 6, 8, 14, 15, 16, 17, 18, 19, 21, 23, 24, 25, 26, 27, 28] (fun vl va wk _ _ _ _ _ _ _ _ _ _ _ _ _ wx => Mixed w p b j vl va wk wx)
      case first =>
        have HTK := Lib.hid (fun w => ref_task t w)
        have hkb : k ≤ 6000000000000 := by omega
        have HLN := Lib.hid HB.out.mine.fine.len
        have HL1 := Lib.hid (show (ids S).length + 1 ≤ 17000000000000 by have := HLN.out; rw [ids_len]; omega)
        have HL2 := Lib.hid (show (ids (lone S)).length + 1 ≤ 17000000000000 by have := HLN.out; have := lone_le S; rw [ids_len]; omega)
        clear HROW hmm HO5
        by_cases o1 : op = 1
        · subst o1
          as_aux_lemma =>
            by_cases ht : isT t = true
            · by_cases hm : t ∈ ids S
              · obtain rfl : ins = true := by rw [← HIN.out]; exact decide_eq_true hm
                rw [ht] at HTK
                have KA := Lib.hid (add_there HB.out.mine.at_ t al ht hm)
                clear ht hm
                go_wp2_with (first
                  | (go_at_call 17; (with_reducible refine (HTK.out _).mono ?_); rintro e w' ⟨rfl, rfl⟩)
                  | (go_at_call 12; (with_reducible refine KA.out.mono ?_); rintro e w9 ⟨rfl, V9, hq, hs⟩; have HC := Lib.hid (HB.out.q hq hs HB.out.mine.fine); clear hq hs))
                go_meet
                exact ⟨_, _, _, _, _, _, rfl, by omega, by omega, HL.out, HC.out⟩
              · obtain rfl : ins = false := by rw [← HIN.out]; exact decide_eq_false hm
                have KA := Lib.hid (fun (W : World) (h : QAt W p V S G) => add_new h HLN.out t al ht hm)
                have HF := Lib.hid (HB.out.mine.fine.snoc (of_decide_eq_true ht) hm al)
                rw [ht] at HTK
                clear ht hm
                cases al with
                | true =>
                  have HX := Lib.hid (HB.out.quiet ((Only.refl (fun _ => False) w8).alloc (.cells #[.int .i64 t] 3)))
                  go_wp2_with (first
                    | (go_at_call 17; (with_reducible refine (HTK.out _).mono ?_); rintro e w' ⟨rfl, rfl⟩)
                    | (at_builtin; have hx := HY; clear hx; go_must (refine append_one rfl _ _ rfl w.heap.size w9.heap.size 1 _ (ids (lone S)) t rfl rfl HY.out.a (heap_alloc_new _ _) HL2.out HY.out.mine.only.size ?_); go_must (intro v10 w10 hr hO hb); have HZ := Lib.hid (HY.out.seta hr hO hb); clear hr hO hb)
                    | (at_builtin; go_must (refine append_one rfl _ _ rfl w.heap.size w8.heap.size 1 _ (ids S) t rfl rfl HX.out.l (heap_alloc_new _ _) HL1.out HX.out.mine.only.size ?_); go_must (intro v9 w9 hr hO hb); have HY := Lib.hid ((HX.out.setl hr hO hb).quiet ((Only.refl (fun _ => False) w9).alloc (.cells #[.int .i64 t] 3))); clear hr hO hb)
                    | (go_at_call 12; (with_reducible refine (KA.out _ HZ.out.mine.at_).mono ?_); rintro e w11 ⟨rfl, V11, hq, hs⟩; have HC := Lib.hid (HZ.out.q hq hs HF.out); clear hq hs))
                  go_meet
                  exact ⟨_, S ++ [(t, true)], G, F, k, c, rfl, by omega, by omega, HL.out, by rw [lone_alone S (x := (t, true)) rfl, ids_snoc, ids_snoc]; exact HC.out⟩
                | false =>
                  have HX := Lib.hid (HB.out.quiet ((Only.refl (fun _ => False) w8).alloc (.cells #[.int .i64 t] 3)))
                  go_wp2_with (first
                    | (go_at_call 17; (with_reducible refine (HTK.out _).mono ?_); rintro e w' ⟨rfl, rfl⟩)
                    | (at_builtin; go_must (refine append_one rfl _ _ rfl w.heap.size w8.heap.size 1 _ (ids S) t rfl rfl HX.out.l (heap_alloc_new _ _) HL1.out HX.out.mine.only.size ?_); go_must (intro v9 w9 hr hO hb); have HZ := Lib.hid (HX.out.setl hr hO hb); clear hr hO hb)
                    | (go_at_call 12; (with_reducible refine (KA.out _ HZ.out.mine.at_).mono ?_); rintro e w11 ⟨rfl, V11, hq, hs⟩; have HC := Lib.hid (HZ.out.q hq hs HF.out); clear hq hs))
                  go_meet
                  exact ⟨_, S ++ [(t, false)], G, F, k, c, rfl, by omega, by omega, HL.out, by rw [lone_open S (x := (t, false)) rfl, ids_snoc]; exact HC.out⟩
            · have ht : isT t = false := by simpa using ht
              have KA := Lib.hid (add_bad HB.out.mine.at_ t al ht)
              rw [ht] at HTK
              clear ht
              go_wp2_with (first
                | (go_at_call 17; (with_reducible refine (HTK.out _).mono ?_); rintro e w' ⟨rfl, rfl⟩)
                | (go_at_call 12; (with_reducible refine KA.out.mono ?_); rintro e w9 ⟨rfl, V9, hq, hs⟩; have HC := Lib.hid (HB.out.q hq hs HB.out.mine.fine); clear hq hs))
              go_meet
              exact ⟨_, _, _, _, _, _, rfl, by omega, by omega, HL.out, HC.out⟩
        by_cases o2 : op = 2
        · subst o2
          clear HTK
          as_aux_lemma =>
            have KW1 := Lib.hid (fun (W : World) (h : Ints W w.heap.size u5 (ids S)) => without_any u5 (ids S) t W h.nums h.nil_cap (by have := HL1.out; omega))
            have KW2 := Lib.hid (fun (W : World) (h : Ints W w.heap.size u6 (ids (lone S))) => without_any u6 (ids (lone S)) t W h.nums h.nil_cap (by have := HL2.out; omega))
            by_cases hm : t ∈ ids S
            · obtain rfl : ins = true := by rw [← HIN.out]; exact decide_eq_true hm
              have KO := Lib.hid (out_yes HB.out.mine.at_ HB.out.mine.fine t hm)
              clear hm
              go_wp2_with (first
                | (go_at_call 18; (with_reducible refine KO.out.mono ?_); rintro e w9 ⟨rfl, V9, hq, hs⟩; have HC := Lib.hid (HB.out.q hq hs (HB.out.mine.fine.gone t)); clear hq hs)
                | (go_at_call_of 19 u5; (with_reducible refine (KW1.out _ HC.out.l).mono ?_); rintro e w10 ⟨v10, rfl, hi, hO⟩; have HD := Lib.hid (HC.out.newl hi hO); clear hi hO)
                | (go_at_call_of 19 u6; (with_reducible refine (KW2.out _ HD.out.a).mono ?_); rintro e w11 ⟨v11, rfl, hi, hO⟩; have HE := Lib.hid (HD.out.newa hi hO); clear hi hO))
              go_meet
              exact ⟨_, gone S t, G, F, k, c, rfl, by omega, by omega, HL.out, by rw [ids_gone, lone_gone]; exact HE.out⟩
            · obtain rfl : ins = false := by rw [← HIN.out]; exact decide_eq_false hm
              have KO := Lib.hid (out_no HB.out.mine.at_ t hm)
              have HGN := Lib.hid (gone_none hm)
              clear hm
              go_wp2_with (first
                | (go_at_call 18; (with_reducible refine KO.out.mono ?_); rintro e w9 ⟨rfl, V9, hq, hs⟩; have HC := Lib.hid (HB.out.q hq hs HB.out.mine.fine); clear hq hs)
                | (go_at_call_of 19 u5; (with_reducible refine (KW1.out _ HC.out.l).mono ?_); rintro e w10 ⟨v10, rfl, hi, hO⟩; have HD := Lib.hid (HC.out.newl hi hO); clear hi hO)
                | (go_at_call_of 19 u6; (with_reducible refine (KW2.out _ HD.out.a).mono ?_); rintro e w11 ⟨v11, rfl, hi, hO⟩; have HE := Lib.hid (HD.out.newa hi hO); clear hi hO))
              go_meet
              have hE := HE.out
              rw [← ids_gone, ← lone_gone, HGN.out] at hE
              exact ⟨_, S, G, F, k, c, rfl, by omega, by omega, HL.out, hE⟩
        by_cases o3 : op = 3
        · subst o3
          clear HTK
          as_aux_lemma =>
            by_cases hneg : t < 0
            · have KA := Lib.hid (wake_bad HB.out.mine.at_ t hneg)
              go_wp2_with (go_at_call 20; (with_reducible refine KA.out.mono ?_); rintro e w9 ⟨rfl, V9, hq, hs⟩; have HC := Lib.hid (HB.out.q hq hs HB.out.mine.fine); clear hq hs)
              go_meet
              exact ⟨_, S, G, F, k, c, rfl, by omega, by omega, HL.out, HC.out⟩
            · have KA := Lib.hid (wake_any HB.out.mine.at_ HB.out.mine.fine.len t (by omega) (by omega))
              have HF := Lib.hid HB.out.mine.fine
              have HKC := Lib.hid (fun (W : World) (x : Int) (h : Ints W w.heap.size u6 (ids (lone S))) => contains_any u6 (ids (lone S)) x W h.nums (by have := HL2.out; omega))
              obtain ⟨la, lc, hvl, -, -⟩ := HB.out.l.shape
              rw [ids_len] at hvl
              subst hvl
              go_upto_region 39 with (go_at_call 20; (with_reducible refine KA.out.mono ?_); rintro e w9 ⟨v9, V9, rfl, hi, hq, hs, hne⟩; have HOut := Lib.hid hi; have HC := Lib.hid (HB.out.q hq hs (HB.out.mine.fine.stay t)); clear hi hq hs hne)
              clear KA HB HL1
              go_wp2_with fail
              go_loopw [18, 19, 21, 124] (fun vw nn _ i wr => ∃ (q : Nat) (W : List Int) (R : Line) (m : Int), q ≤ S.length ∧ i = .int .i64 q ∧ wk S t q = (W, R, m) ∧ nn = .int .i64 m ∧ Ints wr w9.heap.size vw W ∧ Only (fun _ => False) w9 wr) (fun _ _ _ i _ => S.length - (intOf i).toNat)
              case atStart => exact ⟨0, [], [], t, by omega, rfl, rfl, rfl, ints_nil _ _, Only.refl _ _⟩
              case round =>
                obtain ⟨q, W, R, m, hq, rfl, hwk, rfl, hr, hO⟩ := hrel
                have HW := Lib.hid hwk
                have HR := Lib.hid hr
                have HO := Lib.hid hO
                have hbd : 0 ≤ m ∧ m ≤ t ∧ W.length ≤ 16 := by
                  obtain ⟨W', R', m', q1, q2, q3, q4, q5⟩ := wk_is S t (by omega) q hq
                  rw [hwk] at q1
                  cases q1
                  have := HLN.out
                  exact ⟨q2, q3, by omega⟩
                obtain ⟨m0, m1, lw⟩ := hbd
                clear hwk hr hO
                by_cases hlt : q < S.length
                · obtain ⟨y, hy⟩ : ∃ y, S.getD q (0, false) = y := ⟨_, rfl⟩
                  have HY := Lib.hid hy
                  have HCr := Lib.hid (HC.out.quiet HO.out)
                  obtain ⟨g0, c0, he, -, hg0, hrow⟩ := HCr.out.l.at_block (n := S.length) (ids_len S) (by omega)
                  rw [Value.slice.injEq] at he
                  obtain ⟨rfl, -, rfl⟩ := he
                  have hcell := ints_cell hrow (j := q) (by rw [ids_len]; exact hlt)
                  rw [ids_at S hlt, hy] at hcell
                  have hcon := HKC.out wr y.1 HCr.out.a
                  rw [mem_lone HF.out hlt hy] at hcon
                  have KC := Lib.hid hcon
                  obtain ⟨yt, ya⟩ := y
                  have hq16 : q ≤ 16 := by have := HLN.out; omega
                  have q1 : (q : Int) < S.length := by omega
                  have q2 : (0 : Int) ≤ q := by omega
                  have HLw := Lib.hid (show W.length + 1 ≤ 17000000000000 by omega)
                  clear hcon hy hrow hg0
                  simp only at hcell KC
                  cases ya with
                  | false =>
                    have HN := Lib.hid (wk_open HW.out HY.out rfl)
                    go_wp2_with (first
                      | (go_at_call 16; (with_reducible refine KC.out.mono ?_); rintro e w10 ⟨rfl, hO1⟩; have HOx := Lib.hid ((only_trans HO.out hO1).alloc (.cells #[.int .i64 yt] 3)); have HRx := Lib.hid (HR.out.later (hO1.alloc (.cells #[.int .i64 yt] 3))); clear hO1)
                      | (at_builtin; go_must (refine append_one rfl _ _ rfl w9.heap.size w10.heap.size 1 _ W yt rfl rfl HRx.out (heap_alloc_new _ _) HLw.out HOx.out.size ?_); go_must (intro v11 w11 hr hO hb); clear hb; have HR2 := Lib.hid hr; have HO2 := Lib.hid (own_change HOx.out HRx.out hO); clear hr hO))
                    go_roundw
                    case rel => exact ⟨q + 1, _, _, _, by omega, by go_num, HN.out, rfl, HR2.out, HO2.out⟩
                    case measure => simp [intOf]; omega
                  | true =>
                    by_cases hm : 0 < m
                    · have HN := Lib.hid (wk_goes HW.out HY.out rfl hm)
                      have hmz : (m == 0) = false := by simp; omega
                      go_wp2_with (first
                        | (go_at_call 16; (with_reducible refine KC.out.mono ?_); rintro e w10 ⟨rfl, hO1⟩; have HOx := Lib.hid ((only_trans HO.out hO1).alloc (.cells #[.int .i64 yt] 3)); have HRx := Lib.hid (HR.out.later (hO1.alloc (.cells #[.int .i64 yt] 3))); clear hO1)
                        | (at_builtin; go_must (refine append_one rfl _ _ rfl w9.heap.size w10.heap.size 1 _ W yt rfl rfl HRx.out (heap_alloc_new _ _) HLw.out HOx.out.size ?_); go_must (intro v11 w11 hr hO hb); clear hb; have HR2 := Lib.hid hr; have HO2 := Lib.hid (own_change HOx.out HRx.out hO); clear hr hO))
                      go_roundw
                      case rel => exact ⟨q + 1, _, _, _, by omega, by go_num, HN.out, by go_num, HR2.out, HO2.out⟩
                      case measure => simp [intOf]; omega
                    · have HN := Lib.hid (wk_stays HW.out HY.out rfl hm)
                      obtain rfl : m = 0 := by omega
                      go_wp2_with (first
                        | (go_at_call 16; (with_reducible refine KC.out.mono ?_); rintro e w10 ⟨rfl, hO1⟩; have HOx := Lib.hid (only_trans HO.out hO1); have HRx := Lib.hid (HR.out.later hO1); clear hO1))
                      go_roundw
                      case rel => exact ⟨q + 1, _, _, _, by omega, by go_num, HN.out, rfl, HRx.out, HOx.out⟩
                      case measure => simp [intOf]; omega
                · obtain rfl : q = S.length := by omega
                  obtain rfl : W = woken S t := by unfold woken; rw [HW.out]
                  have KE := Lib.hid (eq_same v9 u18 (woken S t) wr ((HOut.out.later HO.out).nums) HR.out.nums (by omega))
                  have HCr := Lib.hid (HC.out.quiet HO.out)
                  obtain ⟨wa, wc, hvw, -, -⟩ := HR.out.shape
                  obtain ⟨nw, hnw⟩ : ∃ nw, (woken S t).length = nw := ⟨_, rfl⟩
                  rw [hnw] at hvw lw
                  have HNW := Lib.hid hnw
                  subst hvw
                  clear hnw HKC HC HOut HO
                  go_upto_region 49 with (go_at_call 13; (with_reducible refine KE.out.mono ?_); rintro e w10 ⟨rfl, hO⟩; have HC2 := Lib.hid (HCr.out.quiet hO); have HR2 := Lib.hid (HR.out.later hO); clear hO)
                  clear KE HR HCr
                  go_wp2_with fail
                  go_loopw [5, 6, 23, 150] (fun vl va _ i wx => ∃ q : Nat, q ≤ nw ∧ i = .int .i64 q ∧ All w wx p V9 (stay S t) (spoilt G) vl (less (ids S) ((woken S t).take q)) va (less (ids (lone S)) ((woken S t).take q)) b c F ∧ Only (fun _ => False) w10 wx) (fun _ _ _ i _ => nw - (intOf i).toNat)
                  case atStart => exact ⟨0, by omega, rfl, HC2.out, Only.refl _ _⟩
                  case round =>
                    clear HC2
                    obtain ⟨q, hq, rfl, hA, hO⟩ := hrel
                    have HA := Lib.hid hA
                    have HO := Lib.hid hO
                    clear hA hO
                    by_cases hlt : q < nw
                    · have HRq := Lib.hid (HR2.out.later HO.out)
                      obtain ⟨g0, c0, he, -, hg0, hrow⟩ := HRq.out.at_block (n := nw) HNW.out (by omega)
                      rw [Value.slice.injEq] at he
                      obtain ⟨rfl, -, rfl⟩ := he
                      have hcell := ints_cell hrow (j := q) (by rw [HNW.out]; exact hlt)
                      have HTK2 := Lib.hid (show (woken S t).take (q + 1) = (woken S t).take q ++ [(woken S t).getD q 0] from by
                        have hq2 : q < (woken S t).length := by rw [HNW.out]; exact hlt
                        rw [List.take_succ_eq_append_getElem hq2]
                        simp [List.getD, hq2])
                      generalize (woken S t).getD q 0 = x at *
                      have q1 : (q : Int) < nw := by omega
                      have q2 : (0 : Int) ≤ q := by omega
                      have KW1 := Lib.hid (without_any u5 _ x wr HA.out.l.nums HA.out.l.nil_cap (by have := less_len (ids S) ((woken S t).take q); have := HLN.out; rw [ids_len] at *; omega))
                      have KW2 := Lib.hid (fun (W0 : World) (h : Ints W0 w.heap.size u6 (less (ids (lone S)) ((woken S t).take q))) => without_any u6 _ x W0 h.nums h.nil_cap (by have := less_len (ids (lone S)) ((woken S t).take q); have := HL2.out; omega))
                      clear hrow hg0
                      go_wp2_with (first
                        | (go_at_call_of 19 u5; (with_reducible refine KW1.out.mono ?_); rintro e w11 ⟨v11, rfl, hi, hO⟩; have HD := Lib.hid (HA.out.newl hi hO); have HO2 := Lib.hid (only_trans HO.out hO); clear hi hO)
                        | (go_at_call_of 19 u6; (with_reducible refine (KW2.out _ HD.out.a).mono ?_); rintro e w12 ⟨v12, rfl, hi, hO⟩; have HE := Lib.hid (HD.out.newa hi hO); have HO3 := Lib.hid (only_trans HO2.out hO); clear hi hO))
                      go_roundw
                      case rel => exact ⟨q + 1, by omega, by go_num, by rw [HTK2.out, less_snoc, less_snoc]; exact HE.out, HO3.out⟩
                      case measure => simp [intOf]; omega
                    · obtain rfl : q = nw := by omega
                      have hA := HA.out
                      rw [show (woken S t).take q = woken S t from List.take_of_length_le (by rw [HNW.out]; exact Nat.le_refl _), ← ids_stay HF.out, ← lone_stay HF.out] at hA
                      have HE := Lib.hid hA
                      have HL3 := Lib.hid HL.out.event
                      clear hA
                      go_wp2_with fail
                      go_meet
                      exact ⟨_, stay S t, spoilt G, F, k + 1, c, by go_num, by omega, by omega, HL3.out, HE.out⟩
        by_cases o4 : op = 4
        · subst o4
          as_aux_lemma =>
            by_cases ht : isT t = true
            · obtain ⟨u, rfl⟩ : ∃ u : Nat, t = (u : Int) := ⟨t.toNat, by have := of_decide_eq_true ht; omega⟩
              have hu : 1 ≤ u ∧ u ≤ 16 := by have := of_decide_eq_true ht; omega
              by_cases hm : (u : Int) ∈ ids S
              · obtain rfl : ins = true := by rw [← HIN.out]; exact decide_eq_true hm
                rw [ht] at HTK
                have KA := Lib.hid (look_there HB.out.mine.at_ u ht hm)
                clear ht hm
                go_wp2_with (first
                  | (go_at_call 17; (with_reducible refine (HTK.out _).mono ?_); rintro e w' ⟨rfl, rfl⟩)
                  | (go_at_call 21; (with_reducible refine KA.out.mono ?_); rintro e w9 ⟨rfl, V9, hq, hs⟩; have HC := Lib.hid (HB.out.q hq hs HB.out.mine.fine); clear hq hs))
                go_meet
                exact ⟨_, S, G, F, k, c, rfl, by omega, by omega, HL.out, HC.out⟩
              · obtain rfl : ins = false := by rw [← HIN.out]; exact decide_eq_false hm
                have KA := Lib.hid (fun (W : World) (h : QAt W p V S G) => look_new h u hu hm)
                rw [ht] at HTK
                have HK2 := Lib.hid (HL.out.looks hu)
                have KWF : Hid ((Lit.int .i64 k).wf = true) := Lib.hid (i64_wf (by omega))
                have hcn : c < 9000000000000000000 := by omega
                clear ht hm
                go_wp2_with (first
                  | (go_at_call 17; (with_reducible refine (HTK.out _).mono ?_); rintro e w' ⟨rfl, rfl⟩)
                  | (at_mapUpdate; go_must (refine wpList_num rfl _ _ _ rfl b c F rfl HB.out.m hcn (u : Int) k rfl rfl HWF.out KWF.out ?_); go_must (intro w9 hm9 hO9); have HX := Lib.hid (HB.out.setm hm9 hO9); clear hm9 hO9)
                  | (go_at_call 21; (with_reducible refine (KA.out _ HX.out.mine.at_).mono ?_); rintro e w10 ⟨rfl, V10, hq, hs⟩; have HC := Lib.hid (HX.out.q hq hs HX.out.mine.fine); clear hq hs))
                go_meet
                exact ⟨_, S, upd G u 1, updN F u k, k, c + 1, rfl, by omega, by omega, HK2.out, HC.out⟩
            · have ht : isT t = false := by simpa using ht
              have KA := Lib.hid (look_bad HB.out.mine.at_ t ht)
              rw [ht] at HTK
              clear ht
              go_wp2_with (first
                | (go_at_call 17; (with_reducible refine (HTK.out _).mono ?_); rintro e w' ⟨rfl, rfl⟩)
                | (go_at_call 21; (with_reducible refine KA.out.mono ?_); rintro e w9 ⟨rfl, V9, hq, hs⟩; have HC := Lib.hid (HB.out.q hq hs HB.out.mine.fine); clear hq hs))
              go_meet
              exact ⟨_, S, G, F, k, c, rfl, by omega, by omega, HL.out, HC.out⟩
        by_cases o5 : op = 5
        · subst o5
          clear HTK
          as_aux_lemma =>
            have hcn : c < 9000000000000000000 := by omega
            by_cases ht : isT t = true
            · obtain ⟨u, rfl⟩ : ∃ u : Nat, t = (u : Int) := ⟨t.toNat, by have := of_decide_eq_true ht; omega⟩
              have hu : 1 ≤ u ∧ u ≤ 16 := by have := of_decide_eq_true ht; omega
              have hlk := HL.out.look u hu.1 hu.2
              have hFb := HL.out.low u
              by_cases hF0 : F u = 0
              · rw [if_pos hF0] at hlk
                have KA := Lib.hid (sleep_over HB.out.mine.at_ u hu al hlk)
                have HLO := Lib.hid (fun (W : World) (h : NumsAt W b c F) => h.look u HWF.out)
                rw [hF0] at HLO
                clear ht hlk hF0
                go_upto_region 69 with (go_at_call 22; (with_reducible refine KA.out.mono ?_); rintro e w9 ⟨rfl, V9, hq, hs⟩; have HC := Lib.hid (HB.out.q hq hs HB.out.mine.fine); clear hq hs)
                have lv := HLO.out _ HC.out.m
                go_wp2_with fail
                go_meet
                exact ⟨_, S, G, F, k, c, rfl, by omega, by omega, HL.out, HC.out⟩
              · rw [if_neg hF0] at hlk
                have hFz : (F u == 0) = false := by simpa using hF0
                by_cases hm : (u : Int) ∈ ids S
                · obtain rfl : ins = true := by rw [← HIN.out]; exact decide_eq_true hm
                  have KA := Lib.hid (sleep_there HB.out.mine.at_ u hu al (by rw [hlk]; split <;> decide) hm)
                  have HLO := Lib.hid (fun (W : World) (h : NumsAt W b c F) => h.look u HWF.out)
                  clear ht hlk hF0 hm
                  generalize F u = z at *
                  go_upto_region 69 with (go_at_call 22; (with_reducible refine KA.out.mono ?_); rintro e w9 ⟨rfl, V9, hq, hs⟩; have HC := Lib.hid (HB.out.q hq hs HB.out.mine.fine); clear hq hs)
                  have lv := HLO.out _ HC.out.m
                  go_wp2_with fail
                  go_meet
                  exact ⟨_, S, G, F, k, c, rfl, by omega, by omega, HL.out, HC.out⟩
                · obtain rfl : ins = false := by rw [← HIN.out]; exact decide_eq_false hm
                  have HLO := Lib.hid (fun (W : World) (h : NumsAt W b c F) => h.look u HWF.out)
                  have HK2 := Lib.hid (HL.out.ends hu)
                  have W0 : Hid ((Lit.int .i64 0).wf = true) := Lib.hid rfl
                  by_cases hFk : F u = k
                  · rw [if_pos hFk] at hlk
                    have KA := Lib.hid (sleep_new HB.out.mine.at_ HLN.out u hu al hlk hm)
                    have HF := Lib.hid (HB.out.mine.fine.snoc (t := (u : Int)) (by omega) hm al)
                    have hFk2 : (F u == k) = true := by simpa using hFk
                    clear ht hlk hF0 hm hFk
                    generalize hz : F u = z at *
                    have HZ := Lib.hid hz
                    clear hz
                    go_upto_region 69 with (go_at_call 22; (with_reducible refine KA.out.mono ?_); rintro e w9 ⟨rfl, V9, hq, hs⟩; have HC := Lib.hid (HB.out.q hq hs HF.out); clear hq hs)
                    have lv := HLO.out _ HC.out.m
                    have HLl := Lib.hid (show (ids S).length + 1 ≤ 17000000000000 from HL1.out)
                    cases al with
                    | true =>
                      go_wp2_with (first
                        | (at_mapUpdate; go_must (refine wpList_num rfl _ _ _ rfl b c F rfl HC.out.m hcn (u : Int) 0 rfl rfl HWF.out W0.out ?_); go_must (intro w10 hm9 hO9); have HX := Lib.hid ((HC.out.setm hm9 hO9).quiet ((Only.refl (fun _ => False) w10).alloc (.cells #[.int .i64 (u : Int)] 3))); clear hm9 hO9)
                        | (at_builtin; have hx := HY; clear hx; go_must (refine append_one rfl _ _ rfl w.heap.size w11.heap.size 1 _ (ids (lone S)) (u : Int) rfl rfl HY.out.a (heap_alloc_new _ _) HL2.out HY.out.mine.only.size ?_); go_must (intro v12 w12 hr hO hb); have HE := Lib.hid (HY.out.seta hr hO hb); clear hr hO hb)
                        | (at_builtin; go_must (refine append_one rfl _ _ rfl w.heap.size w10.heap.size 1 _ (ids S) (u : Int) rfl rfl HX.out.l (heap_alloc_new _ _) HL1.out HX.out.mine.only.size ?_); go_must (intro v11 w11 hr hO hb); have HY := Lib.hid ((HX.out.setl hr hO hb).quiet ((Only.refl (fun _ => False) w11).alloc (.cells #[.int .i64 (u : Int)] 3))); clear hr hO hb))
                      go_meet
                      exact ⟨_, S ++ [((u : Int), true)], upd G u 0, updN F u 0, k, c + 1, rfl, by omega, by omega, HK2.out, by rw [lone_alone S (x := ((u : Int), true)) rfl, ids_snoc, ids_snoc]; exact HE.out⟩
                    | false =>
                      go_wp2_with (first
                        | (at_mapUpdate; go_must (refine wpList_num rfl _ _ _ rfl b c F rfl HC.out.m hcn (u : Int) 0 rfl rfl HWF.out W0.out ?_); go_must (intro w10 hm9 hO9); have HX := Lib.hid ((HC.out.setm hm9 hO9).quiet ((Only.refl (fun _ => False) w10).alloc (.cells #[.int .i64 (u : Int)] 3))); clear hm9 hO9)
                        | (at_builtin; go_must (refine append_one rfl _ _ rfl w.heap.size w10.heap.size 1 _ (ids S) (u : Int) rfl rfl HX.out.l (heap_alloc_new _ _) HL1.out HX.out.mine.only.size ?_); go_must (intro v11 w11 hr hO hb); have HE := Lib.hid (HX.out.setl hr hO hb); clear hr hO hb))
                      go_meet
                      exact ⟨_, S ++ [((u : Int), false)], upd G u 0, updN F u 0, k, c + 1, rfl, by omega, by omega, HK2.out, by rw [lone_open S (x := ((u : Int), false)) rfl, ids_snoc]; exact HE.out⟩
                  · rw [if_neg hFk] at hlk
                    have KA := Lib.hid (sleep_stale HB.out.mine.at_ u hu al hlk hm)
                    have hFk2 : (F u == k) = false := by simpa using hFk
                    clear ht hlk hF0 hm hFk
                    generalize hz : F u = z at *
                    have HZ := Lib.hid hz
                    clear hz
                    go_upto_region 69 with (go_at_call 22; (with_reducible refine KA.out.mono ?_); rintro e w9 ⟨rfl, V9, hq, hs⟩; have HC := Lib.hid (HB.out.q hq hs HB.out.mine.fine); clear hq hs)
                    have lv := HLO.out _ HC.out.m
                    go_wp2_with (at_mapUpdate; go_must (refine wpList_num rfl _ _ _ rfl b c F rfl HC.out.m hcn (u : Int) 0 rfl rfl HWF.out W0.out ?_); go_must (intro w10 hm9 hO9); have HX := Lib.hid (HC.out.setm hm9 hO9); clear hm9 hO9)
                    go_meet
                    exact ⟨_, S, upd G u 0, updN F u 0, k, c + 1, rfl, by omega, by omega, HK2.out, HX.out⟩
            · have KA := Lib.hid (sleep_bad HB.out.mine.at_ t al (by simpa using ht))
              have hF0 := HL.out.none t (fun h => ht (decide_eq_true h))
              have HLO := Lib.hid (fun (W : World) (h : NumsAt W b c F) => h.look t HWF.out)
              rw [hF0] at HLO
              clear ht hF0
              go_upto_region 69 with (go_at_call 22; (with_reducible refine KA.out.mono ?_); rintro e w9 ⟨rfl, V9, hq, hs⟩; have HC := Lib.hid (HB.out.q hq hs HB.out.mine.fine); clear hq hs)
              have lv := HLO.out _ HC.out.m
              go_wp2_with fail
              go_meet
              exact ⟨_, S, G, F, k, c, rfl, by omega, by omega, HL.out, HC.out⟩
        have e1 : (op == 1) = false := by simp [o1]
        have e2 : (op == 2) = false := by simp [o2]
        have e3 : (op == 3) = false := by simp [o3]
        have e4 : (op == 4) = false := by simp [o4]
        have e5 : (op == 5) = false := by simp [o5]
        go_wp2_with fail
        go_meet
        exact ⟨_, _, _, _, _, _, rfl, by omega, by omega, HL.out, HB.out⟩
      case rest =>
        obtain ⟨V2, S2, G2, F2, k2, c2, rfl, hk2, hc2, hL2, hA2⟩ := hcut
        have HC := Lib.hid hA2
        have HL2 := Lib.hid hL2
        have KI := Lib.hid (list_any HC.out.mine.at_ HC.out.mine.fine.len)
        have hlen := HC.out.mine.fine.len
        have KE := Lib.hid (fun (W : World) (v v' : Value) (h : Nums W v (ids S2)) (h' : Nums W v' (ids S2)) => eq_same v v' (ids S2) W h h' (by rw [ids_len]; omega))
        clear hA2 hL2 HIN HL HB hlen
        go_wp2_with (first
          | (go_at_call 14; (with_reducible refine KI.out.mono ?_); rintro e w9 ⟨v9, rfl, hi, hO⟩; have HD := Lib.hid (HC.out.quiet hO); have HI := Lib.hid hi.nums; clear hi hO)
          | (go_at_call 13; have hc := KE.out _ _ _ HI.out HD.out.l.nums; (with_reducible refine hc.mono ?_); clear hc; rintro e w10 ⟨rfl, hO⟩; have HE := Lib.hid (HD.out.quiet hO); clear hO))
        go_roundw
        case rel => exact ⟨j + 1, _, _, _, _, _, _, by omega, by go_num, rfl, by omega, by omega, HL2.out, HE.out⟩
        case measure => simp [intOf]; omega
    · obtain rfl : j = recs.length := by omega
      go_wp2_with fail
      go_ret
      exact ⟨rfl, HA.out.below⟩
end Go.Proofs.Ytddfdnhlghmapaa.Wt
