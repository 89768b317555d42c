/- The walk of HeapLeast. -/
import Derived.Test.YtonlhcebnbdjjaaLeast1
namespace Go.Proofs.Ytonlhcebnbdjjaa
open Go.ChangeShapes Go.WideShapes Go.ChangeAt Go.RowKit Go.Maps
set_option linter.unusedVariables false

theorem rest_is (k : Int) {n : Int} (h : 0 < n) (h2 : n ≤ 1000) (w : World) : Calls Try.prog 19 #[.int .i64 k, .int .i64 n] w fun e w' => e = .returned (.int .i64 (restOf k n)) ∧ w = w' := rest_any k n h (by omega) w

theorem rest_sym (k : Int) {n : Int} (h : 0 < n) (h2 : n ≤ 1000) (w : World) : Calls Try.prog 19 #[.int .i64 k, .int .i64 n] w fun e w' => e = .returned (.int .i64 (restOf k n)) ∧ w' = w := (rest_is k h h2 w).mono fun _ _ ⟨he, hw⟩ => ⟨he, hw.symm⟩

/-- The first lines: a heap and a map are made. -/
def Begins (B : Nat) (w0 w : World) (p bm : Nat) : Prop := Ledger B w p bm [(4, 4), (3, 4)] [(4, 4), (3, 4)] ∧ Below B w0 w

theorem peek_is {M : Nat → Prop} {w : World} {p : Nat} {S : List (Int × Int)} (h : HeapAt M w p S) {x : Int × Int} (hx : Least S x) :
    Calls Try.prog 27 #[.pointer (some ⟨p, 0, none⟩)] w fun e w' => e = .returned (.tuple #[.int .i64 x.1, .int .i64 x.2, .int .i64 0]) ∧ Only (fun _ => False) w w' := by
  refine (hpeek h (by rintro rfl; exact absurd hx.1 (by simp))).mono ?_
  rintro e w' ⟨m, hm, rfl, hO⟩
  obtain rfl := least_one hm hx
  exact ⟨rfl, hO⟩

theorem least_43 : Least [(4, 4), (3, 4)] (3, 4) := ⟨by simp, fun x hx => by
  simp at hx
  rcases hx with rfl | rfl <;> decide⟩

/-- A slice of numbers as the walk meets it. -/
theorem row_num {w : World} {v : Value} {xs : List Int} (h : NumRow w v xs) (hl : 3 ≤ xs.length) :
    ∃ bb oo c, v = .slice (some ⟨bb, oo, none⟩) xs.length c ∧ xs.length ≤ 9223372036854775807 ∧ bb < w.heap.size ∧ w.cell? ⟨bb, oo, none⟩ = some (.int .i64 (nth xs 0)) ∧ w.cell? ⟨bb, oo + 1, none⟩ = some (.int .i64 (nth xs 1)) ∧ w.cell? ⟨bb, oo + 2, none⟩ = some (.int .i64 (nth xs 2)) := by
  obtain ⟨a, c, rfl, h1, h2, h3, h4⟩ := h
  obtain ⟨ad, rfl, hb, h5⟩ := h3 0 (by omega)
  obtain ⟨_, e1, _, h6⟩ := h3 1 (by omega)
  cases e1
  obtain ⟨_, e2, _, h7⟩ := h3 2 (by omega)
  cases e2
  have hsp : ad.spot = none := by
    have := World.cell?_spot h5
    simpa [Addr.add] using this
  obtain ⟨bb, oo, sp⟩ := ad
  simp only at hsp
  subst hsp
  rw [add_plain] at h5 h6 h7
  exact ⟨bb, oo, c, rfl, by unfold maxLen at h2; omega, hb, h5, h6, h7⟩

theorem without_le' (S : List (Int × Int)) (id : Int) : (without S id).length ≤ S.length := List.length_filter_le _ _

theorem drew_below {b : Nat} {w w' : World} (h : Below b w w') (n : Nat) : Below b w (w'.drewN n) := ⟨h.os, h.tape, h.output, h.size, h.block⟩

def LMixed (B : Nat) (w0 : World) (p bm j : Nat) (w : World) : Prop := ∃ S : List (Int × Int), S.length ≤ j + 3 ∧ Ledger B w p bm S S ∧ Below B w0 w

theorem map_len {w : World} {bm n : Nat} {D : DataW Unit} {S : List (Int × Int)} (h : w.ownsMap Try.prog 3 (plainElem Try.prog 3) bm n D) (hT : Told D S) : ∀ ty, (Builtin.len_ #[49] ty #[.map (some bm)]).run Try.prog w = .ok (.int .i64 S.length) w := by
  intro ty
  have := h.len Try.underlying49 ty
  rwa [hT.size] at this

theorem told_int {D : DataW Unit} {S : List (Int × Int)} {x : Int × Int} {c : Int} (hT : Told D S) (hx : x ∈ S) (h : D.atKey (.int .i64 x.1) (.lit (.int .i64 0)) = .lit (.int .i64 c)) : c = x.2 := by
  rw [(hT.there x hx).2] at h
  cases h; rfl

theorem HeapAt.wf {M : Nat → Prop} {w : World} {p : Nat} {S : List (Int × Int)} (h : HeapAt M w p S) {x : Int × Int} (hx : x ∈ S) : (Lit.int .i64 x.1).wf = true := by
  obtain ⟨L, hp, ho, hm, ⟨rfl, hf⟩ | ⟨g, b, cap, hg, hb, hr⟩⟩ := h
  · exact absurd (hp.mem_iff.2 hx) (by simp)
  · obtain ⟨i, hi, rfl⟩ := an_id hp hx
    exact hr.wf i hi

theorem ledger_len {B : Nat} {w : World} {p bm : Nat} {Sh Sm : List (Int × Int)} (h : Ledger B w p bm Sh Sm) : Calls Try.prog 10 #[.pointer (some ⟨p, 0, none⟩)] w fun e w' => e = .returned (.int .i64 Sh.length) ∧ w = w' := by
  obtain ⟨M, D, h1, h2⟩ := h
  exact hlen h1

def LHead (B : Nat) (w0 : World) (p bm n : Nat) (v : Value) (w : World) : Prop :=
  ∃ (j : Nat) (S : List (Int × Int)), v = .int .i64 j ∧ j ≤ n ∧ S.length ≤ j + 2 ∧ Ledger B w p bm S S ∧ Below B w0 w

set_option maxRecDepth 100000 in
set_option maxHeartbeats 4000000 in
theorem least_nil (w : World) : Calls Try.prog 7 #[.slice none 0 0] w fun e w' => e = .returned (.bool true) ∧ Below w.heap.size w w' := by
  have hmm := @run_makeMap Try.prog
  have K3 : keyOf Try.prog 3 (.int .i64 3) = some (key 3) := keyOf_int_mk Try.underlying3 (by decide)
  have K4 : keyOf Try.prog 3 (.int .i64 4) = some (key 4) := keyOf_int_mk Try.underlying3 (by decide)
  have V4 : plainElem (H := Unit) Try.prog 3 (.int .i64 4) = some (spot 4, []) := plainElem_int Try.underlying3 (by decide)
  have C3 := Lib.hid (show 0 + 1 < maxLen from by unfold maxLen; omega)
  have C3' := Lib.hid (show 0 < maxLen from by unfold maxLen; omega)
  go_enter Try.func7, Try.ntmps7
  go_upto_region 9 with (first
    | (go_at_call 8; refine (hnew _).mono ?_; rintro e w1 ⟨p, rfl, ha, ho⟩; have HA := Lib.hid ha; have HO := Lib.hid (ho.below (B := w.heap.size) (Nat.le_refl _) (fun _ e => e.elim)); clear ha ho)
    | (go_at_call 9; refine (hpush (id := 3) HA2.out 4 (by decide) (by simp) (by simp)).mono ?_; rintro e w3 ⟨rfl, ha, ho⟩; have HA3 := Lib.hid ha; have HO3 := Lib.hid (HO2.out.trans (ho.below (B := w.heap.size) HO2.out.size (fun k e => by rcases e with e | e; exact e; exact Nat.le_trans HO.out.size e))); clear ha ho)
    | (go_at_call 9; refine (hpush (id := 4) HA.out 4 (by decide) (by simp) (by simp)).mono ?_; rintro e w2 ⟨rfl, ha, ho⟩; have HA2 := Lib.hid ha; have HO2 := Lib.hid (HO.out.trans (ho.below (B := w.heap.size) HO.out.size (fun _ e => e))); clear ha ho)
    | (go_at_call 27; refine (peek_is HA3.out least_43).mono ?_; rintro e w5 ⟨rfl, ho⟩; have HA5 := Lib.hid (HA3.out.later ho); have HO5 := Lib.hid (HO3.out.trans (ho.below (B := w.heap.size) HO3.out.size (fun _ e => e.elim))); clear ho)
    | (refine wpList_insert_in _ rfl _ _ _ 49 rfl 3 3 law3 Try.underlying49 _ w5.heap.size _ _ rfl HM1.out C3.out _ _ _ rfl rfl K4 _ [] V4 ?_; intro w7 hown7 hturn7; have HM2 := Lib.hid hown7; have HT2 := Lib.hid hturn7; clear hown7 hturn7)
    | (refine wpList_insert_in _ rfl _ _ _ 49 rfl 3 3 law3 Try.underlying49 _ w5.heap.size 0 _ rfl (World.ownsMap_made (H := Unit) w5 Try.prog 3 (plainElem Try.prog 3)) C3'.out _ _ _ rfl rfl K3 _ [] V4 ?_; intro w6 hown6 hturn6; have HM1 := Lib.hid hown6; have HT1 := Lib.hid hturn6; clear hown6 hturn6))
  have hO : Only (fun k => k = w5.heap.size) w5 w7 := (((Only.refl (fun k => k = w5.heap.size) w5).alloc _).trans (only_turned HT1.out) (fun _ _ e => e)).trans (only_turned HT2.out) (fun _ _ e => e)
  have HB := Lib.hid (HO5.out.trans (hO.below HO5.out.size (fun k e => by have := HO5.out.size; omega)))
  refine wp_loop_rounds 1 ?_
  rw [rounds_succ]
  go_wp2
  go_ret
  exact ⟨rfl, HB.out⟩

set_option maxRecDepth 100000 in
set_option maxHeartbeats 4000000 in
theorem least_walk (a : Addr) (cap : Nat) (recs : List (List Int)) (w : World) (h : ArgRows w (some a) recs.length cap recs) :
    Calls Try.prog 7 #[.slice (some a) recs.length cap] w fun e w' => e = .returned (.bool true) ∧ Below w.heap.size w w' := by
  obtain ⟨-, hcap, hmx, -, hrow⟩ := h
  have HROW := Lib.hid hrow
  have hcm : cap ≤ 9223372036854775807 := by unfold maxLen at hmx; omega
  clear hrow hmx
  have hmm := @run_makeMap Try.prog
  have K3 : keyOf Try.prog 3 (.int .i64 3) = some (key 3) := keyOf_int_mk Try.underlying3 (by decide)
  have K4 : keyOf Try.prog 3 (.int .i64 4) = some (key 4) := keyOf_int_mk Try.underlying3 (by decide)
  have V4 : plainElem (H := Unit) Try.prog 3 (.int .i64 4) = some (spot 4, []) := plainElem_int Try.underlying3 (by decide)
  have C3 := Lib.hid (show 0 + 1 < maxLen from by unfold maxLen; omega)
  have C3' := Lib.hid (show 0 < maxLen from by unfold maxLen; omega)
  go_enter Try.func7, Try.ntmps7
  go_upto_region 8 with (first
    | (go_at_call 8; refine (hnew _).mono ?_; rintro e w1 ⟨p, rfl, ha, ho⟩; have HA := Lib.hid ha; have HO := Lib.hid (ho.below (B := w.heap.size) (Nat.le_refl _) (fun _ e => e.elim)); clear ha ho)
    | (go_at_call 9; refine (hpush (id := 3) HA2.out 4 (by decide) (by simp) (by simp)).mono ?_; rintro e w3 ⟨rfl, ha, ho⟩; have HA3 := Lib.hid ha; have HO3 := Lib.hid (HO2.out.trans (ho.below (B := w.heap.size) HO2.out.size (fun k e => by rcases e with e | e; exact e; exact Nat.le_trans HO.out.size e))); clear ha ho)
    | (go_at_call 9; refine (hpush (id := 4) HA.out 4 (by decide) (by simp) (by simp)).mono ?_; rintro e w2 ⟨rfl, ha, ho⟩; have HA2 := Lib.hid ha; have HO2 := Lib.hid (HO.out.trans (ho.below (B := w.heap.size) HO.out.size (fun _ e => e))); clear ha ho)
    | (go_at_call 27; refine (peek_is HA3.out least_43).mono ?_; rintro e w5 ⟨rfl, ho⟩; have HA5 := Lib.hid (HA3.out.later ho); have HO5 := Lib.hid (HO3.out.trans (ho.below (B := w.heap.size) HO3.out.size (fun _ e => e.elim))); clear ho)
    | (refine wpList_insert_in _ rfl _ _ _ 49 rfl 3 3 law3 Try.underlying49 _ w5.heap.size _ _ rfl HM1.out C3.out _ _ _ rfl rfl K4 _ [] V4 ?_; intro w7 hown7 hturn7; have HM2 := Lib.hid hown7; have HT2 := Lib.hid hturn7; clear hown7 hturn7)
    | (refine wpList_insert_in _ rfl _ _ _ 49 rfl 3 3 law3 Try.underlying49 _ w5.heap.size 0 _ rfl (World.ownsMap_made (H := Unit) w5 Try.prog 3 (plainElem Try.prog 3)) C3'.out _ _ _ rfl rfl K3 _ [] V4 ?_; intro w6 hown6 hturn6; have HM1 := Lib.hid hown6; have HT1 := Lib.hid hturn6; clear hown6 hturn6))
  have hled : Ledger w.heap.size w7 p w5.heap.size [(4, 4), (3, 4)] [(4, 4), (3, 4)] ∧ Below w.heap.size w w7 := by
    have hO6 := only_turned HT1.out
    have hO7 := only_turned HT2.out
    have hO : Only (fun k => k = w5.heap.size) w5 w7 := (((Only.refl (fun k => k = w5.heap.size) w5).alloc _).trans hO6 (fun _ _ e => e)).trans hO7 (fun _ _ e => e)
    have hs5 := HO5.out.size
    have hs1 := HO.out.size
    have hs2 := HO2.out.size
    have hT := (told_push (k := 4) (id := 4) (told_push (k := 4) (id := 3) told_nil (fun x hx => absurd hx (by simp))) (fun x hx => by simp at hx; subst hx; decide)).perm (T := [(4, 4), (3, 4)]) (by decide)
    refine ⟨⟨_, _, HA5.out.there.keep hO (fun k hk hm e => by have := hm.2; omega), HM2.out, hT, fun e => Nat.lt_irrefl _ e.2, hs5, fun k hk => ?_⟩, HO5.out.trans (hO.below hs5 (fun k e => by omega))⟩
    rcases hk.1 with (e | e) | e <;> omega
  have HLE := Lib.hid hled.1
  have HLB := Lib.hid hled.2
  clear hled HA HO HA2 HO2 HA3 HO3 HA5 HO5 HM1 HT1 HM2 HT2 hmm K3 K4 V4
  generalize w5.heap.size = bm at *
  obtain ⟨n, hn⟩ : ∃ n, n = min recs.length 100 := ⟨_, rfl⟩
  go_cut [50, 51, 52] (fun s50 s51 s52 wx => s50 = .slice (some a) n cap ∧ s51 = .int .i64 n ∧ s52 = .int .i64 0 ∧ wx = w7)
  case first =>
    by_cases h100 : (100 : Int) < recs.length
    · have e : n = 100 := by omega
      go_wp2
      go_meet
      exact ⟨by rw [e], by rw [e]; rfl, rfl, rfl⟩
    · have e : n = recs.length := by omega
      go_wp2
      go_meet
      exact ⟨by rw [e], by rw [e], rfl, rfl⟩
  case rest =>
    obtain ⟨rfl, rfl, rfl, rfl⟩ := hcut
    have hnr : n ≤ recs.length ∧ n ≤ 100 := by omega
    clear hn
    go_wp2_with fail
    go_loopw [52] (fun v wr => LHead w.heap.size w p bm n v wr) (fun v _ => n - (intOf v).toNat)
    case atStart => exact ⟨0, _, rfl, Nat.zero_le _, by simp, HLE.out, HLB.out⟩
    case round =>
      obtain ⟨j, S, rfl, hj, hS, hp, hb⟩ := hrel
      have HP := Lib.hid hp
      have HB := Lib.hid hb
      clear hp hb
      by_cases hjn : j < n
      · obtain ⟨b, off, v, ea, hbl, hc, hv⟩ := HROW.out j (by omega)
        cases ea
        have hcx := (HB.out.cell (p := ⟨b, off + j, none⟩) hbl).trans hc
        have hv2 := hv.later HB.out
        have g1 : (j : Int) < n := by omega
        have g2 : (0 : Int) ≤ j := by omega
        generalize recs.getD j [] = xs at *
        clear hc hv
        by_cases hx3 : xs.length < 3
        · obtain ⟨av, cv, rfl, -⟩ := hv2
          have g3 : (xs.length : Int) < 3 := by omega
          go_wp2_with fail
          go_roundw
          case rel => exact ⟨j + 1, S, by go_num, by omega, by omega, HP.out, HB.out⟩
          case measure => simp [intOf]; omega
        · obtain ⟨bb, oo, cv, rfl, hxl, hadb, y0, y1, y2⟩ := row_num hv2 (by omega)
          have HY := Lib.hid (And.intro hadb (And.intro y0 (And.intro y1 y2)))
          have g3 : ¬ (xs.length : Int) < 3 := by omega
          have l1 : 1 < xs.length := by omega
          have l2 : 2 < xs.length := by omega
          have l3 : (1 : Int) < xs.length := by omega
          have l4 : (2 : Int) < xs.length := by omega
          have l5 : (0 : Int) < xs.length := by omega
          go_upto_region 12 with fail
          go_quiet ((go_at_call 19; exact Calls.quiet_of_same (rest_sym _ (by decide) (by decide) _)))
          rename_i nq
          have HP1 := Lib.hid (HP.out.later (only_drewN (Only.refl (fun _ => False) wr) nq))
          have HB1 := Lib.hid (drew_below HB.out nq)
          have y3 : (wr.drewN nq).cell? ⟨bb, oo, none⟩ = some (.int .i64 (nth xs 0)) := y0
          clear y0 y1 y2 HY hv2 hcx
          have i0 := restOf_lo (nth xs 1) 20 (by decide)
          have i1 := restOf_hi (nth xs 1) 20 (by decide)
          have k0 := restOf_lo (nth xs 2) 50 (by decide)
          have k1 := restOf_hi (nth xs 2) 50 (by decide)
          have o0 := restOf_lo (nth xs 0) 3 (by decide)
          have o1 := restOf_hi (nth xs 0) 3 (by decide)
          generalize restOf (nth xs 1) 20 = id at *
          generalize restOf (nth xs 2) 50 = k at *
          generalize wr.drewN nq = w6 at *
          have hid2 : (Lit.int .i64 id).wf = true := i64_wf (by omega)
          have hkey : keyOf Try.prog 3 (.int .i64 id) = some (key id) := keyOf_int_mk Try.underlying3 hid2
          have hval : plainElem (H := Unit) Try.prog 3 (.int .i64 k) = some (spot k, []) := plainElem_int Try.underlying3 (i64_wf (by omega))
          have HS := Lib.hid hS
          have HI := Lib.hid HP1.out.ids
          have CS := Lib.hid (show S.length < maxLen from by unfold maxLen; omega)
          clear k0 k1 i0 i1
          go_upto_block 2 with ((go_at_call 19; (with_reducible refine (rest_is _ (by decide) (by decide) _).mono ?_); rintro e w7 ⟨rfl, rfl⟩))
          generalize restOf (nth xs 0) 3 = op at *
          clear y3
          go_cut [] (fun wx => LMixed w.heap.size w p bm j wx)
          case first =>
            as_aux_lemma =>
              rcases Classical.em (∃ x ∈ S, x.1 = id) with ⟨x, hx, rfl⟩ | hnf
              · have HX := Lib.hid hx
                have HW := Lib.hid (without_le' S x.1)
                by_cases c0 : op = 0
                · subst c0
                  have HC := Lib.hid (ledger_quiet HP1.out (fun M hM => hpush_there hM k hx))
                  clear hx
                  go_wp2_with (go_at_call 9; (with_reducible refine HC.out.mono ?_); rintro e w7 ⟨rfl, hp, hb⟩; have HL7 := Lib.hid hp; have HB7 := Lib.hid (HB1.out.trans hb); clear hp hb)
                  go_meet
                  exact ⟨S, by have := HS.out; omega, HL7.out, HB7.out⟩
                · have n0 : (op == 0) = false := by simpa using c0
                  by_cases c1 : op = 1
                  · subst c1
                    have HC := Lib.hid (ledger_heap HP1.out (fun M hM => hturn hM k hx))
                    clear hx
                    go_wp2_with (first
                      | (go_at_call 24; (with_reducible refine HC.out.mono ?_); rintro e w7 ⟨rfl, hp, hb⟩; have HL7 := Lib.hid hp; have HB7 := Lib.hid (HB1.out.trans hb); clear hp hb)
                      | (at_mapUpdate; go_must (obtain ⟨D7, hD7, hT7⟩ := HL7.out.map); have HT7 := Lib.hid hT7; clear hT7; refine wpList_mapUpdate_in _ rfl _ _ _ 49 rfl 3 3 law3 Try.underlying49 _ bm _ D7 rfl hD7 CS.out _ _ _ rfl rfl hkey _ [] hval ?_; intro w8 hown8 hturn8; have hbox := HL7.out.turned hown8 hturn8 (told_turn HT7.out HX.out); have HL8 := Lib.hid hbox.1; have HB8 := Lib.hid (HB7.out.trans hbox.2); clear hbox hown8 hturn8 hD7))
                    go_meet
                    exact ⟨_, by have := HS.out; simp [rekey]; omega, HL8.out, HB8.out⟩
                  · have n1 : (op == 1) = false := by simpa using c1
                    have HC := Lib.hid (ledger_heap HP1.out (fun M hM => hout hM hx))
                    clear hx
                    go_wp2_with (first
                      | (go_at_call 25; (with_reducible refine HC.out.mono ?_); rintro e w7 ⟨rfl, hp, hb⟩; have HL7 := Lib.hid hp; have HB7 := Lib.hid (HB1.out.trans hb); clear hp hb)
                      | (at_delete; go_must (obtain ⟨D7, hD7, hT7⟩ := HL7.out.map); have HT7 := Lib.hid hT7; clear hT7; refine wpList_delete_own _ rfl _ _ 49 3 rfl 3 law3 Try.underlying49 _ bm _ D7 rfl hD7 _ _ rfl hkey ?_; intro w8 hown8 hturn8; have hbox := HL7.out.turned hown8 hturn8 (told_out HT7.out HI.out HX.out); have HL8 := Lib.hid hbox.1; have HB8 := Lib.hid (HB7.out.trans hbox.2); clear hbox hown8 hturn8 hD7))
                    go_meet
                    exact ⟨_, by have := HS.out; have := HW.out; omega, HL8.out, HB8.out⟩
              · have hno : ∀ x ∈ S, x.1 ≠ id := fun x hx e => hnf ⟨x, hx, e⟩
                have HNO := Lib.hid hno
                by_cases c0 : op = 0
                · subst c0
                  have HC := Lib.hid (ledger_heap HP1.out (fun M hM => hpush hM k hid2 hno (by omega)))
                  clear hno hnf
                  go_wp2_with (first
                    | (go_at_call 9; (with_reducible refine HC.out.mono ?_); rintro e w7 ⟨rfl, hp, hb⟩; have HL7 := Lib.hid hp; have HB7 := Lib.hid (HB1.out.trans hb); clear hp hb)
                    | (at_mapUpdate; go_must (obtain ⟨D7, hD7, hT7⟩ := HL7.out.map); have HT7 := Lib.hid hT7; clear hT7; refine wpList_mapUpdate_in _ rfl _ _ _ 49 rfl 3 3 law3 Try.underlying49 _ bm _ D7 rfl hD7 CS.out _ _ _ rfl rfl hkey _ [] hval ?_; intro w8 hown8 hturn8; have hbox := HL7.out.turned hown8 hturn8 (told_push HT7.out HNO.out); have HL8 := Lib.hid hbox.1; have HB8 := Lib.hid (HB7.out.trans hbox.2); clear hbox hown8 hturn8 hD7))
                  go_meet
                  exact ⟨_, by have := HS.out; simp; omega, HL8.out, HB8.out⟩
                · have n0 : (op == 0) = false := by simpa using c0
                  by_cases c1 : op = 1
                  · subst c1
                    have HC := Lib.hid (ledger_quiet HP1.out (fun M hM => hturn_none hM k hid2 hno))
                    clear hno hnf
                    go_wp2_with (go_at_call 24; (with_reducible refine HC.out.mono ?_); rintro e w7 ⟨rfl, hp, hb⟩; have HL7 := Lib.hid hp; have HB7 := Lib.hid (HB1.out.trans hb); clear hp hb)
                    go_meet
                    exact ⟨S, by have := HS.out; omega, HL7.out, HB7.out⟩
                  · have n1 : (op == 1) = false := by simpa using c1
                    have HC := Lib.hid (ledger_quiet HP1.out (fun M hM => hout_none hM hid2 hno))
                    clear hno hnf
                    go_wp2_with (go_at_call 25; (with_reducible refine HC.out.mono ?_); rintro e w7 ⟨rfl, hp, hb⟩; have HL7 := Lib.hid hp; have HB7 := Lib.hid (HB1.out.trans hb); clear hp hb)
                    go_meet
                    exact ⟨S, by have := HS.out; omega, HL7.out, HB7.out⟩
          case rest =>
            obtain ⟨T, hT, hp, hb⟩ := hcut
            have HP2 := Lib.hid hp
            have HB2 := Lib.hid hb
            clear hp hb
            as_aux_lemma =>
              by_cases hTe : T = []
              · subst hTe
                have HC := Lib.hid (ledger_quiet HP2.out (fun M hM => hpeek_nil hM))
                go_wp2_with (first
                  | (go_at_call 27; (with_reducible refine HC.out.mono ?_); rintro e w7 ⟨rfl, hp, hb⟩; have HL7 := Lib.hid hp; have HB7 := Lib.hid (HB2.out.trans hb); obtain ⟨D, hD, hTD⟩ := hp.map; have hrl := map_len hD hTD; have HLEN := Lib.hid (ledger_len HL7.out); clear hp hb hTD hD)
                  | (go_at_call 10; (with_reducible refine HLEN.out.mono ?_); rintro e w8 ⟨rfl, rfl⟩))
                go_roundw
                case rel => exact ⟨j + 1, [], by go_num, by omega, by simp, HL7.out, HB7.out⟩
                case measure => simp [intOf]; omega
              · obtain ⟨x, hx⟩ := least_exists hTe
                have HX := Lib.hid hx
                have hTl : 0 < T.length := List.length_pos_iff.2 hTe
                have HTL := Lib.hid hT
                have HC := Lib.hid (ledger_read HP2.out (fun M hM => peek_is hM hx))
                obtain ⟨M0, D0, hA0, -⟩ := HP2.out
                have hxw : (Lit.int .i64 x.1).wf = true := hA0.wf hx.1
                have hkx : keyOf Try.prog 3 (.int .i64 x.1) = some (key x.1) := keyOf_int_mk Try.underlying3 hxw
                clear hA0 hx hT
                go_upto_region 30 with (first
                  | (go_at_call 27; (with_reducible refine HC.out.mono ?_); rintro e w7 ⟨rfl, hp, hb⟩; have HL7 := Lib.hid hp; have HB7 := Lib.hid (HB2.out.trans hb); obtain ⟨D, hD, hTD⟩ := hp.map; have hrl := map_len hD hTD; have HLEN := Lib.hid (ledger_len HL7.out); have HTD := Lib.hid hTD; have HD := Lib.hid hD; have hh : Maps.has D (key x.1) = true := (hTD.there x HX.out.1).1; clear hp hb hTD hD)
                  | (go_at_call 10; (with_reducible refine HLEN.out.mono ?_); rintro e w8 ⟨rfl, rfl⟩)
                  | (at_lookup; refine wpList_lookup_own_ok_int _ rfl _ _ 49 rfl 3 3 .i64 law3 Try.underlying49 Try.underlying3 (zero3 _) bm T.length D rfl HD.out _ _ rfl hkx ?_; intro c hat hwc; obtain rfl := told_int HTD.out HX.out.1 hat))
                clear hrl hh hkx
                go_wp2_with (first
                  | (at_range; refine wpList_range_own _ rfl _ 49 rfl 3 3 law3 Try.underlying49 _ bm T.length _ rfl HD.out ?_; intro w9 hrg9 hg9 hs9))
                go_frame
                go_loopw [17] (fun _ wr => ∃ (left : Lit → Bool) (cnt : Nat), wr.ranges Try.prog 3 (plainElem Try.prog 3) bm w7.heap.size T.length D left cnt ∧ Only (fun _ => False) w7 wr)
                  (fun _ wr => wr.rangeLeft bm w7.heap.size)
                case atStart => exact ⟨_, _, hrg9, Only.of_grown (S := fun _ => False) hg9 (fun k hk => by cases hk)⟩
                case round =>
                  obtain ⟨left, cnt, hrg, hO⟩ := hrel
                  have HO := Lib.hid hO
                  clear hO
                  go_wp2_with (first
                    | (at_next; refine wpList_next_ranges_ii _ rfl _ rfl 3 3 .i64 .i64 law3 Try.underlying3 Try.underlying3 bm w7.heap.size T.length _ _ _ rfl hrg ?_ ?_))
                  · intro _ hl0
                    go_wp2
                    go_roundw
                    case rel => exact ⟨j + 1, T, by go_num, by omega, by have := HTL.out; omega, HL7.out.later HO.out, HB7.out.trans (HO.out.below HL7.out.low (fun _ e => e.elim))⟩
                    case measure => simp [intOf]; omega
                  · intro y c w10 cnt1 hwy hwc hly hat hrg1 hlt hg1 hs1 hen
                    obtain ⟨z, hz, rfl⟩ := HTD.out.only y (has_true_of_atKey hat)
                    obtain rfl := told_int HTD.out hz (hat _)
                    have hO1 : Only (fun _ => False) w7 w10 := HO.out.trans (Only.of_grown (S := fun k => k = w7.heap.size) hg1 (fun k hk => by cases hk; rfl)) (fun q hq e => by omega)
                    have HO1 := Lib.hid hO1
                    have hpz := HX.out.2 z hz
                    simp only [prec, decide_eq_false_iff_not] at hpz
                    have HPZ := Lib.hid hpz
                    have f1 : decide (z.2 < x.2) = false := by simp; omega
                    clear hpz hO1 hat
                    by_cases hk2 : z.2 = x.2
                    · have f2 : (z.2 == x.2) = true := by simpa using hk2
                      have f3 : decide (z.1 < x.1) = false := by have := HPZ.out; simp; omega
                      clear hk2
                      go_wp2_with fail
                      go_roundw
                      case rel => exact ⟨_, _, hrg1, HO1.out⟩
                      case measure => rw [hrg1.left_eq, hrg.left_eq]; omega
                    · have f2 : (z.2 == x.2) = false := by simpa using hk2
                      go_wp2_with fail
                      go_roundw
                      case rel => exact ⟨_, _, hrg1, HO1.out⟩
                      case measure => rw [hrg1.left_eq, hrg.left_eq]; omega
      · have e : j = n := by omega
        subst e
        go_wp2_with fail
        go_ret
        exact ⟨rfl, HB.out⟩
end Go.Proofs.Ytonlhcebnbdjjaa
