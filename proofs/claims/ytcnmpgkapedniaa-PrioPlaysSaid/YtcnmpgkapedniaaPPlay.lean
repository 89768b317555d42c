/- The law PrioPlays. -/
import Derived.Test.YtcnmpgkapedniaaPUniq
import Derived.Test.YtcnmpgkapedniaaAt
import Derived.Deep.CutBlock
namespace Go.Proofs.Ytcnmpgkapedniaa.Pr
open Go.ChangeShapes Go.WideShapes Go.ChangeAt Go.RowKit Go.Maps
set_option linter.unusedVariables false

section
variable {w0 w w' : World} {p b : Nat} {V U : Nat → Value} {Q Q' : Qs}
theorem Both.quiet (h : Both w0 w p V b U Q) (hO : Only (fun _ => False) w w') : Both w0 w' p V b U Q := ⟨h.two.quiet hO, h.uniq⟩
theorem Both.below (h : Both w0 w p V b U Q) : Below w0.heap.size w0 w := h.two.only.below (Nat.le_refl _) (fun _ e => e.elim)
theorem Both.l17 (h : Both w0 w p V b U Q) : ∀ i, i < 8 → (Q i).length ≤ 17000000000000 := fun i hi => by have := h.uniq.len hi; omega
theorem Both.l1 (h : Both w0 w p V b U Q) : ∀ i, i < 8 → (Q i).length ≤ 1000000000000 := fun i hi => by have := h.uniq.len hi; omega
end

theorem head_task {Q : Qs} {n : Nat} (h : Uniq Q) (ht : top Q = some n) : 1 ≤ (Q n).getD 0 0 := by
  obtain ⟨h1, h2, h3⟩ := topTo_is ht
  cases hQ : Q n with
  | nil => exact absurd hQ h2
  | cons x xs => exact (h.task n x h1 (by rw [hQ]; simp)).1

/-- What is known ere each play. -/
def Ere (w0 : World) (p b n : Nat) (s : Value) (wr : World) : Prop :=
  ∃ (j : Nat) (V U : Nat → Value) (Q : Qs), j ≤ n ∧ s = .int .i64 j ∧ Both w0 wr p V b U Q

/-- What is known behind the switch. -/
def Mixed (w0 : World) (p b : Nat) (wx : World) : Prop := ∃ (V U : Nat → Value) (Q : Qs), Both w0 wx p V b U Q

set_option maxRecDepth 100000 in
set_option maxHeartbeats 4000000 in
theorem plays_walk (a : Option Addr) (cap : Nat) (recs : List (List Int)) (w : World) (h : ArgRows w a recs.length cap recs) (hn : recs.length * 24 ≤ 140737488351232) :
    Calls Try.prog 3 #[.slice a recs.length cap] w fun e w' => e = .returned (.bool true) ∧ Below w.heap.size w w' := by
  obtain ⟨-, hcap, hmx, -, hrow⟩ := h
  have HROW := Lib.hid hrow
  have hcm : cap ≤ 9223372036854775807 := by unfold maxLen at hmx; omega
  clear hrow hmx
  have N0 := Lib.hid (new_mine (Only.refl (fun _ => False) w))
  have P8 : Hid (∀ (W : World) p V, QAt W p 0 52 V noQ → Calls Try.prog 8 #[.pointer (some ⟨p, 0, none⟩), .int .i64 1, .int .i64 8] W (Moved p 0 52 V noQ (.int .i64 1) W)) :=
    Lib.hid (fun W p V h => put_bad h 1 8 (by decide))
  have P1 : Hid (∀ (W : World) p V, QAt W p 0 52 V noQ → Calls Try.prog 8 #[.pointer (some ⟨p, 0, none⟩), .int .i64 1, .int .i64 3] W (Moved p 0 52 V q1 (.int .i64 0) W)) :=
    Lib.hid (fun W p V h => put_new h (fun i hi => by have := len_no i hi; omega) 1 3 (by omega) (by omega) (by decide))
  have B1 : Hid (∀ (W : World) p V, QAt W p 0 52 V q1 → Calls Try.prog 9 #[.pointer (some ⟨p, 0, none⟩)] W (IntOnly 8 W)) :=
    Lib.hid (fun W p V h => by
      have := bits_any h (fun i hi => by have := (len_no.mono (Nat.zero_le 1)).upd (k := 3) (xs := [1]) (by simp) i hi; show (upd noQ 3 [1] i).length ≤ _; omega)
      rw [show bits q1 = 8 from by decide] at this
      exact this)
  go_enter Try.func3, Try.ntmps3
  go_upto_region 4 with (first
    | (go_at_call 7; (with_reducible refine N0.out.mono ?_); rintro e w1 ⟨p0, rfl, -, hM⟩; have H0 := Lib.hid hM; clear hM)
    | (go_at_call 8; (with_reducible refine (P8.out _ _ _ H0.out.at_).mono ?_); rintro e w2 ⟨rfl, V1, hq, hs⟩; have H1 := Lib.hid (H0.out.step hq hs); clear hq hs)
    | (go_at_call 8; (with_reducible refine (P1.out _ _ _ H1.out.at_).mono ?_); rintro e w3 ⟨rfl, V2, hq, hs⟩; have H2 := Lib.hid (H1.out.step hq hs); clear hq hs)
    | (go_at_call 9; (with_reducible refine (B1.out _ _ _ H2.out.at_).mono ?_); rintro e w4 ⟨rfl, hO⟩; have HO4 := Lib.hid (only_trans H2.out.only hO); clear hO))
  clear N0 P8 P1 B1 H0 H1 H2
  go_wp2_with (go_at_call 7; (with_reducible refine (new_mine HO4.out).mono ?_); rintro e w5 ⟨p, rfl, -, hM⟩; have HT := Lib.hid (Two.beside (T' := 30) hM (by decide) #[.slice none 0 0, .slice none 0 0, .slice none 0 0, .slice none 0 0, .slice none 0 0, .slice none 0 0, .slice none 0 0, .slice none 0 0] (lt8 (by repeat' constructor))); clear hM HO4)
  obtain ⟨b, hb⟩ : ∃ b, w5.heap.size = b := ⟨_, rfl⟩
  rw [hb] at HT
  rw [hb]
  clear hb
  have HB0 : Hid (Both w _ p noV b noV noQ) := Lib.hid ⟨HT.out, uniq_no⟩
  clear HT
  generalize w5.alloc _ = w6 at *
  go_loopw [47] (fun i wr => Ere w p b recs.length i wr) (fun i _ => recs.length - (intOf i).toNat)
  case atStart => exact ⟨0, _, _, _, by omega, rfl, HB0.out⟩
  case round =>
    clear HB0
    obtain ⟨j, V, U, Q, hj, rfl, hB⟩ := hrel
    have HB := Lib.hid hB
    clear hB
    by_cases hjn : j < recs.length
    · obtain ⟨rb, roff, rv, rfl, hbl, hc, hv⟩ := HROW.out j hjn
      have hcx := (HB.out.below.cell (p := ⟨rb, roff + j, none⟩) hbl).trans hc
      have HV := Lib.hid (hv.later HB.out.below)
      have hv0 := Lib.hid hv
      have g1 : (j : Int) < recs.length := by omega
      have g2 : (0 : Int) ≤ j := by omega
      generalize recs.getD j [] = xs at *
      clear hc hv
      have HOf := Lib.hid (of_any HB.out.two.two HB.out.l17 (nth xs 1))
      go_upto_region 10 with (first
        | (go_at_call 10; (with_reducible refine (at_1 HV.out).mono ?_); rintro e w' ⟨rfl, rfl⟩)
        | (go_at_call 10; (with_reducible refine (at_2 HV.out).mono ?_); rintro e w' ⟨rfl, rfl⟩))
      have K0 := Lib.hid (fun (w' : World) (hb : Below w.heap.size w w') => at_0 (hv0.out.later hb))
      go_upto_block 2 with (first
        | (go_at_call 11; (with_reducible refine HOf.out.mono ?_); rintro e w7 ⟨rfl, hO⟩; have HB1 := Lib.hid (HB.out.quiet hO); clear hO)
        | (go_at_call 10; (with_reducible refine (K0.out _ HB1.out.below).mono ?_); rintro e w' ⟨rfl, rfl⟩))
      clear HB HV HOf K0 hcx hv0
      generalize nth xs 0 = op at *
      generalize nth xs 1 = t at *
      generalize nth xs 2 = v at *
      obtain ⟨oi, hoi⟩ : ∃ oi, ofQ Q t = oi := ⟨_, rfl⟩
      rw [hoi]
      have HOI := Lib.hid hoi
      clear hoi
      go_cut [11, 12, 13, 14] (fun _ _ _ _ wx => Mixed w p b wx)
      case first =>
        have HTK := Lib.hid (fun w => ref_task t w)
        clear HROW hbl
        by_cases o1 : op = 1
        · subst o1
          as_aux_lemma =>
            by_cases ht : 1 ≤ t ∧ t ≤ 16
            · rw [show isN t = true from decide_eq_true ht] at HTK
              by_cases hv1 : v < 0
              · have kp := Lib.hid (put_bad HB1.out.two.one t v (fun h => by have := of_decide_eq_true h.2; omega))
                go_wp2_with (first
                  | (go_at_call 12; (with_reducible refine (HTK.out _).mono ?_); rintro e w' ⟨rfl, rfl⟩)
                  | (go_at_call 8; (with_reducible refine kp.out.mono ?_); rintro e w8 ⟨rfl, V8, hq, hs8⟩; have HB2 : Hid (Both w w8 p V8 b U Q) := Lib.hid ⟨HB1.out.two.step1 hq hs8, HB1.out.uniq⟩; clear hq hs8))
                go_meet
                exact ⟨_, _, _, HB2.out⟩
              · by_cases hv2 : 7 < v
                · have kp := Lib.hid (put_bad HB1.out.two.one t v (fun h => by have := of_decide_eq_true h.2; omega))
                  go_wp2_with (first
                    | (go_at_call 12; (with_reducible refine (HTK.out _).mono ?_); rintro e w' ⟨rfl, rfl⟩)
                    | (go_at_call 8; (with_reducible refine kp.out.mono ?_); rintro e w8 ⟨rfl, V8, hq, hs8⟩; have HB2 : Hid (Both w w8 p V8 b U Q) := Lib.hid ⟨HB1.out.two.step1 hq hs8, HB1.out.uniq⟩; clear hq hs8))
                  go_meet
                  exact ⟨_, _, _, HB2.out⟩
                · obtain ⟨k, rfl⟩ : ∃ k : Nat, v = k := ⟨v.toNat, by omega⟩
                  have hk8 : k < 8 := by omega
                  cases hs : seek Q t with
                  | some i =>
                    obtain rfl : oi = i := HOI.out.symm.trans (ofQ_some hs)
                    have kp := Lib.hid (put_there HB1.out.two.one HB1.out.l17 t k ht (decide_eq_true (by omega)) hs)
                    clear hs ht
                    go_wp2_with (first
                      | (go_at_call 12; (with_reducible refine (HTK.out _).mono ?_); rintro e w' ⟨rfl, rfl⟩)
                      | (go_at_call 8; (with_reducible refine kp.out.mono ?_); rintro e w8 ⟨rfl, V8, hq, hs8⟩; have HB2 : Hid (Both w w8 p V8 b U Q) := Lib.hid ⟨HB1.out.two.step1 hq hs8, HB1.out.uniq⟩; clear hq hs8))
                    go_meet
                    exact ⟨_, _, _, HB2.out⟩
                  | none =>
                    obtain rfl : oi = -1 := HOI.out.symm.trans (ofQ_none hs)
                    have kp := Lib.hid (fun (W : World) (h : QAt W p 0 52 V Q) => put_new h (fun i hi => by have := HB1.out.uniq.len hi; omega) t k ht hk8 hs)
                    have HU2 := Lib.hid (HB1.out.uniq.put hk8 hs ht)
                    have cu := HB1.out.two.two.cell hk8
                    obtain ⟨sa, sc, hsv, -, -⟩ := (HB1.out.two.two.row k hk8).shape
                    have HSV := Lib.hid hsv
                    have HLk := Lib.hid (show (Q k).length + 1 ≤ 17000000000000 from by have := HB1.out.uniq.len hk8; omega)
                    rw [Nat.zero_add, hsv] at cu
                    have hk8' : (k : Int) < 8 := by omega
                    clear hs hsv ht
                    go_wp2_with (first
                      | (go_at_call 12; (with_reducible refine (HTK.out _).mono ?_); rintro e w' ⟨rfl, rfl⟩)
                      | (at_builtin; go_must (refine append_add rfl (.tmp 64) (.tmp 66) rfl w7 b 0 30 w7.heap.size U Q k t HB1.out.two.two hk8 ((Only.refl _ w7).alloc _) HSV.out.symm rfl (heap_alloc_new w7 _) HLk.out ?_); go_must (intro g c w2 q1 q2 HA); rw [HSV.out, Nat.zero_add] at q1; rw [Nat.zero_add] at q2; have HA2 := HA.out.at_; have HA3 := HA.out.step; rw [Nat.zero_add] at HA2 HA3; have HT2 := Lib.hid (HB1.out.two.step2 HA2 HA3); clear HA HA2 HA3)
                      | (go_at_call 8; (with_reducible refine (kp.out _ HT2.out.one).mono ?_); rintro e w8 ⟨rfl, V8, hq, hs8⟩; have HB2 : Hid (Both w w8 p V8 b _ _) := Lib.hid ⟨HT2.out.step1 hq hs8, HU2.out⟩; clear hq hs8))
                    go_meet
                    exact ⟨_, _, _, HB2.out⟩
            · rw [show isN t = false from decide_eq_false ht] at HTK
              have kp := Lib.hid (put_bad HB1.out.two.one t v (fun h => ht h.1))
              go_wp2_with (first
                | (go_at_call 12; (with_reducible refine (HTK.out _).mono ?_); rintro e w' ⟨rfl, rfl⟩)
                | (go_at_call 8; (with_reducible refine kp.out.mono ?_); rintro e w8 ⟨rfl, V8, hq, hs8⟩; have HB2 : Hid (Both w w8 p V8 b U Q) := Lib.hid ⟨HB1.out.two.step1 hq hs8, HB1.out.uniq⟩; clear hq hs8))
              go_meet
              exact ⟨_, _, _, HB2.out⟩
        by_cases o2 : op = 2
        · subst o2
          clear HTK
          as_aux_lemma =>
            cases hs : seek Q t with
            | none =>
              obtain rfl : oi = -1 := HOI.out.symm.trans (ofQ_none hs)
              have ko := Lib.hid (out_no HB1.out.two.one HB1.out.l17 t hs)
              clear hs
              go_wp2_with (go_at_call 13; (with_reducible refine ko.out.mono ?_); rintro e w8 ⟨rfl, V8, hq, hs8⟩; have HB2 : Hid (Both w w8 p V8 b U Q) := Lib.hid ⟨HB1.out.two.step1 hq hs8, HB1.out.uniq⟩; clear hq hs8)
              go_meet
              exact ⟨_, _, _, HB2.out⟩
            | some i =>
              obtain rfl : oi = i := HOI.out.symm.trans (ofQ_some hs)
              obtain ⟨hi8, hm⟩ := seek_is hs
              have ko := Lib.hid (out_yes HB1.out.two.one (fun i hi => by have := HB1.out.uniq.len hi; omega) t hs)
              have HG := Lib.hid (HB1.out.uniq.gone hi8 hm)
              have HU2 := Lib.hid (HB1.out.uniq.out (t := t) hi8)
              have kg := Lib.hid (fun (W : World) (h : QAt W b 0 30 U Q) => go_any h HB1.out.l1 t)
              have g3 : ¬ (i : Int) < 0 := by omega
              clear hs hm
              go_wp2_with (first
                | (go_at_call 13; (with_reducible refine ko.out.mono ?_); rintro e w8 ⟨rfl, V8, hq, hs8⟩; have HT2 := Lib.hid (HB1.out.two.step1 hq hs8); clear hq hs8)
                | (go_at_call 14; (with_reducible refine (kg.out _ HT2.out.two).mono ?_); rintro e w9 ⟨rfl, U9, hq, hs9⟩; rw [HG.out] at hq; have HB2 : Hid (Both w w9 p _ b U9 _) := Lib.hid ⟨HT2.out.step2 hq hs9, HU2.out⟩; clear hq hs9))
              go_meet
              exact ⟨_, _, _, HB2.out⟩
        by_cases o3 : op = 3
        · subst o3
          clear HTK
          as_aux_lemma =>
            by_cases hv1 : v < 0
            · have kt := Lib.hid (turn_bad HB1.out.two.one v (decide_eq_false (by omega)))
              go_wp2_with (first
                | (go_at_call 16; (with_reducible refine kt.out.mono ?_); rintro e w8 ⟨rfl, V8, hq, hs8⟩; have HB2 : Hid (Both w w8 p V8 b U Q) := Lib.hid ⟨HB1.out.two.step1 hq hs8, HB1.out.uniq⟩; clear hq hs8))
              go_meet
              exact ⟨_, _, _, HB2.out⟩
            · by_cases hv2 : 7 < v
              · have kt := Lib.hid (turn_bad HB1.out.two.one v (decide_eq_false (by omega)))
                go_wp2_with (first
                  | (go_at_call 16; (with_reducible refine kt.out.mono ?_); rintro e w8 ⟨rfl, V8, hq, hs8⟩; have HB2 : Hid (Both w w8 p V8 b U Q) := Lib.hid ⟨HB1.out.two.step1 hq hs8, HB1.out.uniq⟩; clear hq hs8))
                go_meet
                exact ⟨_, _, _, HB2.out⟩
              · obtain ⟨k, rfl⟩ : ∃ k : Nat, v = k := ⟨v.toNat, by omega⟩
                have hk8 : k < 8 := by omega
                have hk8' : (k : Int) < 8 := by omega
                have cu := HB1.out.two.two.cell hk8
                obtain ⟨sa, sc, hsv, -, -⟩ := (HB1.out.two.two.row k hk8).shape
                rw [Nat.zero_add, hsv] at cu
                clear hsv
                cases hQ : Q k with
                | nil =>
                  have kt := Lib.hid (turn_none HB1.out.two.one k hk8 hQ)
                  rw [hQ] at cu
                  clear hQ
                  go_wp2_with (first
                    | (go_at_call 16; (with_reducible refine kt.out.mono ?_); rintro e w8 ⟨rfl, V8, hq, hs8⟩; have HB2 : Hid (Both w w8 p V8 b U Q) := Lib.hid ⟨HB1.out.two.step1 hq hs8, HB1.out.uniq⟩; clear hq hs8))
                  go_meet
                  exact ⟨_, _, _, HB2.out⟩
                | cons x xs =>
                  have hln := HB1.out.uniq.len hk8
                  rw [hQ] at cu hln
                  obtain ⟨he, hu⟩ := HB1.out.uniq.turn hk8 hQ
                  have HE := Lib.hid he
                  have HU2 := Lib.hid hu
                  have kr := Lib.hid (ref_turn HB1.out.two.two HB1.out.l1 k hk8 x xs hQ)
                  have kt := Lib.hid (fun (W : World) (h : QAt W p 0 52 V Q) => turn_yes h k hk8 x xs hQ (by simp at hln; omega))
                  have hxl : (x :: xs).length = xs.length + 1 := rfl
                  rw [hxl] at cu hln
                  clear hxl he hu hQ
                  generalize xs.length = n at *
                  have c0 : (((n + 1 : Nat) : Int) == 0) = false := by rw [beq_eq_false_iff_ne]; omega
                  go_wp2_with (first
                    | (go_at_call 15; (with_reducible refine kr.out.mono ?_); rintro e w8 ⟨rfl, U8, hq, hs8⟩; rw [HE.out] at hq; have HT2 := Lib.hid (HB1.out.two.step2 hq hs8); clear hq hs8)
                    | (go_at_call 16; (with_reducible refine (kt.out _ HT2.out.one).mono ?_); rintro e w9 ⟨rfl, V9, hq, hs9⟩; have HB2 : Hid (Both w w9 p V9 b _ _) := Lib.hid ⟨HT2.out.step1 hq hs9, HU2.out⟩; clear hq hs9))
                  go_meet
                  exact ⟨_, _, _, HB2.out⟩
        have e1 : (op == 1) = false := by simp [o1]
        have e2 : (op == 2) = false := by simp [o2]
        have e3 : (op == 3) = false := by simp [o3]
        go_wp2_with fail
        go_meet
        exact ⟨_, _, _, HB1.out⟩
      case rest =>
        obtain ⟨V2, U2, Q2, hB2⟩ := hcut
        have HB := Lib.hid hB2
        clear hB2 HB1 HOI
        cases htop : top Q2 with
        | none =>
          have kr := Lib.hid (firstref_not (ref_first HB.out.two.two HB.out.l17) htop)
          have kf := Lib.hid (fun (W : World) (h : QAt W p 0 52 V2 Q2) => first_not (first_any h HB.out.l17) htop)
          clear htop
          as_aux_lemma =>
            go_wp2_with (first
              | (go_at_call 17; (with_reducible refine kr.out.mono ?_); rintro e w8 ⟨rfl, hO⟩; have HB3 := Lib.hid (HB.out.quiet hO); clear hO)
              | (go_at_call 18; (with_reducible refine (kf.out _ HB3.out.two.one).mono ?_); rintro e w9 ⟨rfl, hO⟩; have HB4 := Lib.hid (HB3.out.quiet hO); clear hO))
            clear kr kf HB HB3
            go_loopw [20, 21, 22, 23, 24, 170] (fun m bt _ _ _ i wr => ∃ z : Nat, z ≤ 8 ∧ i = .int .i64 z ∧ m = .int .i64 (bitsTo (some? Q2) z : Nat) ∧ bt = .int .i64 ((2 ^ z : Nat) : Int) ∧ Both w wr p V2 b U2 Q2) (fun _ _ _ _ _ i _ => 8 - (intOf i).toNat)
            case atStart => exact ⟨0, by omega, rfl, rfl, rfl, HB4.out⟩
            case round =>
              obtain ⟨z, hz, rfl, rfl, rfl, hB5⟩ := hrel
              have HB5 := Lib.hid hB5
              clear hB5
              by_cases hz8 : z < 8
              · have z1 : (z : Int) < 8 := by omega
                have hl16 := HB5.out.uniq.len hz8
                have HLs := Lib.hid (list_yes HB5.out.two.one z hz8 (HB5.out.l17 z hz8))
                have cu := HB5.out.two.two.cell hz8
                obtain ⟨sa, sc, hsv, -, -⟩ := (HB5.out.two.two.row z hz8).shape
                have HE := Lib.hid (fun (W : World) (v' : Value) (hr : Nums W v' (Q2 z)) (hO : Only (fun _ => False) wr W) => eq_same v' (U2 z) (Q2 z) W hr ((HB5.out.two.two.row z hz8).later hO).nums (by omega))
                rw [hsv] at HE
                rw [Nat.zero_add, hsv] at cu
                have hb := bitsTo_lt (some? Q2) z
                have hp : 2 ^ z ≤ 128 := by
                  have : 2 ^ z ≤ 2 ^ 7 := Nat.pow_le_pow_right (by omega) (by omega)
                  omega
                have HS := Lib.hid (bitsTo_succ (some? Q2) z)
                have HP := Lib.hid (Nat.pow_succ 2 z)
                clear hsv
                generalize bitsTo (some? Q2) z = mm at *
                generalize 2 ^ z = pw at *
                have hsome : some? Q2 z = decide (0 < (Q2 z).length) := rfl
                rw [hsome] at HS
                have HLen := Lib.hid (show (Q2 z).length = (Q2 z).length from rfl)
                clear hsome
                by_cases hn : (Q2 z).length = 0
                · have HS2 : Hid (bitsTo (some? Q2) (z + 1) = mm) := by have := HS.out; simp [hn] at this; exact this
                  have n0 : ¬ (0 : Int) < (((Q2 z).length : Nat) : Int) := by omega
                  clear HS hn
                  go_wp2_with (first
                    | (go_at_call 19; (with_reducible refine HLs.out.mono ?_); rintro e w6 ⟨lv, rfl, hr, hO⟩; obtain ⟨la, lc, rfl, -, -⟩ := hr.shape; have cb6 := (cell_kept hO (block_lt cu) id).trans cu; have HB6 := Lib.hid (HB5.out.quiet hO); have HEE := Lib.hid (HE.out _ _ hr.nums hO); clear hr hO)
                    | (go_at_call 20; (with_reducible refine HEE.out.mono ?_); rintro e w7 ⟨rfl, hO⟩; have HB7 := Lib.hid (HB6.out.quiet hO); clear hO))
                  go_roundw
                  case rel => exact ⟨z + 1, by omega, by go_num, by rw [HS2.out], by rw [HP.out]; push_cast; go_num, HB7.out⟩
                  case measure => simp [intOf]; omega
                · have HS2 : Hid (bitsTo (some? Q2) (z + 1) = mm + pw) := by have := HS.out; simp [show 0 < (Q2 z).length by omega] at this; exact this
                  have n0 : (0 : Int) < (((Q2 z).length : Nat) : Int) := by omega
                  clear HS hn
                  go_wp2_with (first
                    | (go_at_call 19; (with_reducible refine HLs.out.mono ?_); rintro e w6 ⟨lv, rfl, hr, hO⟩; obtain ⟨la, lc, rfl, -, -⟩ := hr.shape; have cb6 := (cell_kept hO (block_lt cu) id).trans cu; have HB6 := Lib.hid (HB5.out.quiet hO); have HEE := Lib.hid (HE.out _ _ hr.nums hO); clear hr hO)
                    | (go_at_call 20; (with_reducible refine HEE.out.mono ?_); rintro e w7 ⟨rfl, hO⟩; have HB7 := Lib.hid (HB6.out.quiet hO); clear hO))
                  go_roundw
                  case rel => exact ⟨z + 1, by omega, by go_num, by rw [HS2.out]; push_cast; go_num, by rw [HP.out]; push_cast; go_num, HB7.out⟩
                  case measure => simp [intOf]; omega
              · have e8 : z = 8 := by omega
                have z1 : ¬ (z : Int) < 8 := by omega
                have HL8 := Lib.hid (fun (W : World) (h : QAt W p 0 52 V2 Q2) => list_bad h 8 (by decide))
                have HBt := Lib.hid (fun (W : World) (h : QAt W p 0 52 V2 Q2) => bits_any h HB5.out.l17)
                have EB : Hid (bits Q2 = bitsTo (some? Q2) z) := Lib.hid (by rw [e8]; rfl)
                rw [EB.out] at HBt
                clear e8 hz8
                generalize bitsTo (some? Q2) z = mm at *
                have em : ((mm : Int) != mm) = false := by simp
                go_wp2_with (first
                  | (go_at_call 19; (with_reducible refine (HL8.out _ HB5.out.two.one).mono ?_); rintro e w6 ⟨rfl, hO⟩; have HB6 := Lib.hid (HB5.out.quiet hO); clear hO)
                  | (go_at_call 9; (with_reducible refine (HBt.out _ HB6.out.two.one).mono ?_); rintro e w7 ⟨rfl, hO⟩; have HB7 := Lib.hid (HB6.out.quiet hO); clear hO))
                go_roundw
                case rel => exact ⟨j + 1, V2, U2, Q2, by omega, by go_num, HB7.out⟩
                case measure => simp [intOf]; omega
        | some n =>
          have kr := Lib.hid (firstref_is (ref_first HB.out.two.two HB.out.l17) htop)
          have kf := Lib.hid (fun (W : World) (h : QAt W p 0 52 V2 Q2) => first_is (first_any h HB.out.l17) htop)
          have hx := head_task HB.out.uniq htop
          clear htop
          generalize (Q2 n).getD 0 0 = x at *
          have x0 : (x == 0) = false := by rw [beq_eq_false_iff_ne]; omega
          have x1 : 0 < x := by omega
          have ex : (x != x) = false := by simp
          have en : ((n : Int) != n) = false := by simp
          as_aux_lemma =>
            go_wp2_with (first
              | (go_at_call 17; (with_reducible refine kr.out.mono ?_); rintro e w8 ⟨rfl, hO⟩; have HB3 := Lib.hid (HB.out.quiet hO); clear hO)
              | (go_at_call 18; (with_reducible refine (kf.out _ HB3.out.two.one).mono ?_); rintro e w9 ⟨rfl, hO⟩; have HB4 := Lib.hid (HB3.out.quiet hO); clear hO))
            clear kr kf HB HB3
            clear x0 x1 ex en
            go_loopw [20, 21, 22, 23, 24, 170] (fun m bt _ _ _ i wr => ∃ z : Nat, z ≤ 8 ∧ i = .int .i64 z ∧ m = .int .i64 (bitsTo (some? Q2) z : Nat) ∧ bt = .int .i64 ((2 ^ z : Nat) : Int) ∧ Both w wr p V2 b U2 Q2) (fun _ _ _ _ _ i _ => 8 - (intOf i).toNat)
            case atStart => exact ⟨0, by omega, rfl, rfl, rfl, HB4.out⟩
            case round =>
              obtain ⟨z, hz, rfl, rfl, rfl, hB5⟩ := hrel
              have HB5 := Lib.hid hB5
              clear hB5
              by_cases hz8 : z < 8
              · have z1 : (z : Int) < 8 := by omega
                have hl16 := HB5.out.uniq.len hz8
                have HLs := Lib.hid (list_yes HB5.out.two.one z hz8 (HB5.out.l17 z hz8))
                have cu := HB5.out.two.two.cell hz8
                obtain ⟨sa, sc, hsv, -, -⟩ := (HB5.out.two.two.row z hz8).shape
                have HE := Lib.hid (fun (W : World) (v' : Value) (hr : Nums W v' (Q2 z)) (hO : Only (fun _ => False) wr W) => eq_same v' (U2 z) (Q2 z) W hr ((HB5.out.two.two.row z hz8).later hO).nums (by omega))
                rw [hsv] at HE
                rw [Nat.zero_add, hsv] at cu
                have hb := bitsTo_lt (some? Q2) z
                have hp : 2 ^ z ≤ 128 := by
                  have : 2 ^ z ≤ 2 ^ 7 := Nat.pow_le_pow_right (by omega) (by omega)
                  omega
                have HS := Lib.hid (bitsTo_succ (some? Q2) z)
                have HP := Lib.hid (Nat.pow_succ 2 z)
                clear hsv
                generalize bitsTo (some? Q2) z = mm at *
                generalize 2 ^ z = pw at *
                have hsome : some? Q2 z = decide (0 < (Q2 z).length) := rfl
                rw [hsome] at HS
                have HLen := Lib.hid (show (Q2 z).length = (Q2 z).length from rfl)
                clear hsome
                by_cases hn : (Q2 z).length = 0
                · have HS2 : Hid (bitsTo (some? Q2) (z + 1) = mm) := by have := HS.out; simp [hn] at this; exact this
                  have n0 : ¬ (0 : Int) < (((Q2 z).length : Nat) : Int) := by omega
                  clear HS hn
                  go_wp2_with (first
                    | (go_at_call 19; (with_reducible refine HLs.out.mono ?_); rintro e w6 ⟨lv, rfl, hr, hO⟩; obtain ⟨la, lc, rfl, -, -⟩ := hr.shape; have cb6 := (cell_kept hO (block_lt cu) id).trans cu; have HB6 := Lib.hid (HB5.out.quiet hO); have HEE := Lib.hid (HE.out _ _ hr.nums hO); clear hr hO)
                    | (go_at_call 20; (with_reducible refine HEE.out.mono ?_); rintro e w7 ⟨rfl, hO⟩; have HB7 := Lib.hid (HB6.out.quiet hO); clear hO))
                  go_roundw
                  case rel => exact ⟨z + 1, by omega, by go_num, by rw [HS2.out], by rw [HP.out]; push_cast; go_num, HB7.out⟩
                  case measure => simp [intOf]; omega
                · have HS2 : Hid (bitsTo (some? Q2) (z + 1) = mm + pw) := by have := HS.out; simp [show 0 < (Q2 z).length by omega] at this; exact this
                  have n0 : (0 : Int) < (((Q2 z).length : Nat) : Int) := by omega
                  clear HS hn
                  go_wp2_with (first
                    | (go_at_call 19; (with_reducible refine HLs.out.mono ?_); rintro e w6 ⟨lv, rfl, hr, hO⟩; obtain ⟨la, lc, rfl, -, -⟩ := hr.shape; have cb6 := (cell_kept hO (block_lt cu) id).trans cu; have HB6 := Lib.hid (HB5.out.quiet hO); have HEE := Lib.hid (HE.out _ _ hr.nums hO); clear hr hO)
                    | (go_at_call 20; (with_reducible refine HEE.out.mono ?_); rintro e w7 ⟨rfl, hO⟩; have HB7 := Lib.hid (HB6.out.quiet hO); clear hO))
                  go_roundw
                  case rel => exact ⟨z + 1, by omega, by go_num, by rw [HS2.out]; push_cast; go_num, by rw [HP.out]; push_cast; go_num, HB7.out⟩
                  case measure => simp [intOf]; omega
              · have e8 : z = 8 := by omega
                have z1 : ¬ (z : Int) < 8 := by omega
                have HL8 := Lib.hid (fun (W : World) (h : QAt W p 0 52 V2 Q2) => list_bad h 8 (by decide))
                have HBt := Lib.hid (fun (W : World) (h : QAt W p 0 52 V2 Q2) => bits_any h HB5.out.l17)
                have EB : Hid (bits Q2 = bitsTo (some? Q2) z) := Lib.hid (by rw [e8]; rfl)
                rw [EB.out] at HBt
                clear e8 hz8
                generalize bitsTo (some? Q2) z = mm at *
                have em : ((mm : Int) != mm) = false := by simp
                go_wp2_with (first
                  | (go_at_call 19; (with_reducible refine (HL8.out _ HB5.out.two.one).mono ?_); rintro e w6 ⟨rfl, hO⟩; have HB6 := Lib.hid (HB5.out.quiet hO); clear hO)
                  | (go_at_call 9; (with_reducible refine (HBt.out _ HB6.out.two.one).mono ?_); rintro e w7 ⟨rfl, hO⟩; have HB7 := Lib.hid (HB6.out.quiet hO); clear hO))
                go_roundw
                case rel => exact ⟨j + 1, V2, U2, Q2, by omega, by go_num, HB7.out⟩
                case measure => simp [intOf]; omega
    · have e0 : j = recs.length := by omega
      go_wp2_with fail
      go_ret
      exact ⟨rfl, HB.out.below⟩
end Go.Proofs.Ytcnmpgkapedniaa.Pr
