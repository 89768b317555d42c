/- The walk of heaps: whatever is asked of a heap, all is as a list of pairs tells it. -/
import Derived.Test.YtonlhcebnbdjjaaSPlay
import Derived.Test.YtonlhcebnbdjjaaArgs
import Derived.Deep.CutBlock
namespace Go.Proofs.Ytonlhcebnbdjjaa.S
open Go.ChangeShapes Go.WideShapes Go.ChangeAt Go.RowKit Go.Maps
set_option linter.unusedVariables false

/-- The number of a record at a place; 0 if there is none. -/
def nth (xs : List Int) (j : Nat) : Int := xs.getD j 0

theorem at_any {v : Value} {xs : List Int} (j : Nat) (hj : j ≤ 100) {w : World} (h : NumRow w v xs) :
    Calls Try.prog 29 #[v, .int .i64 j] w fun e w' => e = .returned (.int .i64 (nth xs j)) ∧ w = w' := by
  obtain ⟨a, c, rfl, h1, h2, h3, h4⟩ := h
  have hm : c ≤ 9223372036854775807 := by unfold maxLen at h2; omega
  by_cases hl : j < xs.length
  · obtain ⟨ad, rfl, hlt, hc⟩ := h3 j hl
    exact at_in ad xs.length c j _ w hl (by omega) hc
  · have : nth xs j = 0 := by simp [nth, List.getD, List.getElem?_eq_none (show xs.length ≤ j by omega)]
    rw [this]
    exact at_out a xs.length c j w (by omega) (by omega) hj

theorem at_0 {v : Value} {xs : List Int} {w : World} (h : NumRow w v xs) : Calls Try.prog 29 #[v, .int .i64 0] w fun e w' => e = .returned (.int .i64 (nth xs 0)) ∧ w = w' := at_any 0 (by decide) h
theorem at_1 {v : Value} {xs : List Int} {w : World} (h : NumRow w v xs) : Calls Try.prog 29 #[v, .int .i64 1] w fun e w' => e = .returned (.int .i64 (nth xs 1)) ∧ w = w' := at_any 1 (by decide) h
theorem at_2 {v : Value} {xs : List Int} {w : World} (h : NumRow w v xs) : Calls Try.prog 29 #[v, .int .i64 2] w fun e w' => e = .returned (.int .i64 (nth xs 2)) ∧ w = w' := at_any 2 (by decide) h

theorem hlook {B : Nat} {w : World} {p : Nat} {V : Value} {S : List (Int × ByteArray)} {X : List (Nat × Int)} (h : Play B w p V S S X) : Calls Try.prog 15 #[.pointer (some ⟨p, 0, none⟩)] w (PAns B w p V (.int .i64 S.length) S S X) :=
  play_quiet h fun M hM => hlen hM

theorem hpeek_is {M : Nat → Prop} {w : World} {p : Nat} {S : List (Int × ByteArray)} (h : HeapAt M w p S) {x : Int × ByteArray} (hx : Least S x) :
    Calls Try.prog 43 #[.pointer (some ⟨p, 0, none⟩)] w fun e w' => e = .returned (.tuple #[.int .i64 x.1, .string x.2, .int .i64 0]) ∧ Only (fun _ => False) w w' := by
  refine (hpeek h (by rintro rfl; exact absurd hx.1 (by simp))).mono ?_
  rintro e w' ⟨m, hm, rfl, hO⟩
  obtain rfl := least_one hm hx
  exact ⟨rfl, hO⟩

theorem pair_cell {w : World} {B g n cap : Nat} {S : List (Int × ByteArray)} (h : PairsAt w B (.slice (some ⟨g, 0, none⟩) n cap) S) {i : Nat} (hi : i < S.length) :
    w.cell? ⟨g, i * 2, none⟩ = some (.int .i64 (it S i).1) ∧ w.cell? ⟨g, i * 2 + 1, none⟩ = some (.string (it S i).2) ∧ w.frozen? ⟨g, i * 2 + 1, none⟩ = false := by
  rcases h.cases with ⟨h1, _⟩ | ⟨g', cap', h1, -, -, -, ⟨cur, hc⟩, h2⟩
  · cases h1
  · cases h1
    exact ⟨(h2 i hi).1, (h2 i hi).2, frozen_at hc _⟩

theorem pairs_shape {w : World} {B : Nat} {V : Value} {S : List (Int × ByteArray)} (h : PairsAt w B V S) (hS : S ≠ []) : ∃ g m cap, V = .slice (some ⟨g, 0, none⟩) (m + 1) cap ∧ S.length = m + 1 := by
  have hl := List.length_pos_iff.2 hS
  rcases h.cases with ⟨_, h1⟩ | ⟨g, cap, rfl, -⟩
  · exact absurd h1 hS
  · exact ⟨g, S.length - 1, cap, by congr 1; omega, by omega⟩

theorem without_le (S : List (Int × ByteArray)) (id : Int) : (without S id).length ≤ S.length := List.length_filter_le _ _

theorem rekey_len (S : List (Int × ByteArray)) (id : Int) (k : ByteArray) : (rekey S id k).length = S.length := by simp [rekey]

theorem least_exists {S : List (Int × ByteArray)} (h : S ≠ []) : ∃ m, Least S m := by
  induction S with
  | nil => exact absurd rfl h
  | cons x xs ih =>
    by_cases hx : xs = []
    · subst hx; exact ⟨x, by simp, fun y hy => by simp at hy; subst hy; exact prec_irrefl _⟩
    · obtain ⟨m, hm, hl⟩ := ih hx
      rcases Bool.eq_false_or_eq_true (prec x m) with hp | hp
      · refine ⟨x, by simp, fun y hy => ?_⟩
        rcases List.mem_cons.1 hy with rfl | hy
        · exact prec_irrefl _
        · exact le_trans' (prec_asymm hp) (hl y hy)
      · refine ⟨m, List.mem_cons_of_mem _ hm, fun y hy => ?_⟩
        rcases List.mem_cons.1 hy with rfl | hy
        · exact hp
        · exact hl y hy

/-- The state at the head of the plays' loop. -/
def Head (B : Nat) (w0 : World) (p : Nat) (n : Nat) (V v : Value) (w : World) : Prop :=
  ∃ (j : Nat) (S : List (Int × ByteArray)), v = .int .i64 j ∧ j ≤ n ∧ S.length ≤ j ∧ Play B w p V S S [] ∧ Below B w0 w

/-- The state behind the switch. -/
def Mixed (B : Nat) (w0 : World) (p Bx : Nat) (id : Int) (j : Nat) (V : Value) (w : World) : Prop :=
  ∃ S : List (Int × ByteArray), S.length ≤ j + 1 ∧ Play B w p V S S [(Bx, id)] ∧ Below B w0 w

set_option maxRecDepth 100000 in
set_option maxHeartbeats 8000000 in
theorem heaps_walk (a : Option Addr) (cap : Nat) (recs : List (List Int)) (txt : Int → ByteArray) (V0 : Value) (w : World) (h : ArgRows w a recs.length cap recs) (hn : recs.length ≤ 5864062014634)
    (hkey : ∀ n w', (Lit.int .i64 n).wf = true → Below w.heap.size w w' → Calls Try.prog 17 #[.int .i64 n, V0] w' fun e w'' => e = .returned (.string (txt n)) ∧ Only (fun _ => False) w' w'') :
    Calls Try.prog 16 #[.slice a recs.length cap, .func (.func 17) #[] #[V0]] w fun e w' => e = .returned (.bool true) ∧ Below w.heap.size w w' := by
  obtain ⟨-, hcap, hmx, -, hrow⟩ := h
  have HROW := Lib.hid hrow
  obtain ⟨i0, hi0, hz0, hz1, hz2⟩ := info_parts Try.info73
  have hcm : cap ≤ 9223372036854775807 := by unfold maxLen at hmx; omega
  have HKEY := Lib.hid hkey
  have z1 : (ByteArray.empty.toList == (⟨#[]⟩ : ByteArray).toList) = true := beq_self_eq_true ByteArray.empty.toList
  have z2 : ((⟨#[]⟩ : ByteArray).toList == (⟨#[]⟩ : ByteArray).toList) = true := beq_self_eq_true ByteArray.empty.toList
  clear hrow hmx hkey
  go_enter Try.func16, Try.ntmps16
  go_upto_region 5 with (go_at_call 13; refine (hnew _).mono ?_; rintro e w1 ⟨p, rfl, ha, ho⟩; have HA := Lib.hid ha; have HO := Lib.hid ho; clear ha ho)
  have hp0 : Play w.heap.size w1 p (.slice none 0 0) [] [] [] := ⟨_, HA.out, ⟨rfl, Or.inl ⟨rfl, rfl⟩⟩, fun k hk => (by cases hk), fun k hk => hk, fun x hx => absurd hx (by simp)⟩
  have HP0 := Lib.hid hp0
  have HB0 := Lib.hid (HO.out.below (Nat.le_refl _) (fun _ e => e.elim))
  clear hp0 HA HO
  go_loopw [6, 29] (fun V v wr => Head w.heap.size w p recs.length V v wr) (fun _ v _ => recs.length - (intOf v).toNat)
  case atStart => exact ⟨0, [], rfl, Nat.zero_le _, Nat.le_refl _, HP0.out, HB0.out⟩
  case round =>
    obtain ⟨j, S, rfl, hj, hS, hp, hb⟩ := hrel
    have HP := Lib.hid hp
    have HB := Lib.hid hb
    clear hp hb
    by_cases hjn : j < recs.length
    · obtain ⟨b, off, v, rfl, hbl, hc, hv⟩ := HROW.out j hjn
      have hcx := (HB.out.cell (p := ⟨b, off + j, none⟩) hbl).trans hc
      have HV := Lib.hid (hv.later HB.out)
      have g1 : (j : Int) < recs.length := by omega
      have g2 : (0 : Int) ≤ j := by omega
      have hid := hv.wf 1
      have hkw := hv.wf 2
      generalize recs.getD j [] = xs at *
      clear hc hv
      go_upto_region 9 with (first
        | (go_at_call 29; (with_reducible refine (at_1 HV.out).mono ?_); rintro e w' ⟨rfl, rfl⟩)
        | (go_at_call 29; (with_reducible refine (at_2 HV.out).mono ?_); rintro e w' ⟨rfl, rfl⟩)
        | (go_at_call 17; have hkk := HKEY.out (nth xs 2) wr hkw HB.out; (with_reducible refine hkk.mono ?_); clear hkk; rintro e wk ⟨rfl, ok⟩; have HOK := Lib.hid (ok.below (B := wr.heap.size) (Nat.le_refl _) (fun _ e => e.elim)); have HPK := Lib.hid (HP.out.later ok); clear ok)
        | (go_at_call 36; go_must (have hpb := HPK.out.box (nth xs 1)); (refine (index_any 37 (Or.inl rfl) _ _ _ S _ _ hpb.pairs hpb.boxed).mono ?_); rintro e w2 ⟨r, rfl, hr, hb⟩; have HP2 := Lib.hid (hpb.below hb); have HR := Lib.hid hr; have HBW := Lib.hid (HOK.out.trans (((below_box wk (.cells #[.int .i64 (nth xs 1)] 3) (Nat.le_refl _)).trans (hb.mono (by simp))).mono HOK.out.size)); have HB2 := Lib.hid (HB.out.trans (HBW.out.mono HB.out.size)); have HV2 := Lib.hid (HV.out.later HBW.out); clear hpb hb hr))
      go_upto_block 2 with (go_at_call 29; (with_reducible refine (at_0 HV2.out).mono ?_); rintro e w' ⟨rfl, rfl⟩)
      clear HV HV2 HBW HP HB hcx HROW HOK HPK HKEY
      have hid2 : (Lit.int .i64 (nth xs 1)).wf = true := hid
      clear hid hkw
      generalize nth xs 1 = id at *
      generalize txt (nth xs 2) = k at *
      generalize nth xs 0 = op at *
      generalize wk.heap.size = Bx at *
      have hbx : w2.cell? ⟨Bx, 0, none⟩ = some (.int .i64 id) := by rw [cell_at HP2.out.boxed]; rfl
      go_cut [6] (fun s6 wx => Mixed w.heap.size w p Bx id j s6 wx)
      case first =>
        as_aux_lemma =>
          by_cases o1 : op = 1
          · subst o1
            rcases HR.out with ⟨rfl, hno⟩ | ⟨i, rfl, hi, hii⟩
            · have HC := Lib.hid (play_heap HP2.out (fun M hM => hpush hM k hid2 hno (by omega)))
              have C2 := Lib.hid (show ∀ u ∈ ([.int .i64 id, .string k] : List Value), u.oneCell' = true from by intro u hu; simp at hu; rcases hu with rfl | rfl <;> rfl)
              have C3 := Lib.hid (show S.length + 1 ≤ maxLen from by unfold maxLen; omega)
              have C4 := Lib.hid (show (S.length + 1) * 24 ≤ 140737488355328 from by omega)
              clear hno HR
              go_wp2_with (first
                | (go_at_call 14; (with_reducible refine HC.out.mono ?_); rintro e w3 ⟨rfl, hp, hb⟩; have HP3 := Lib.hid hp; have HB3 := Lib.hid (HB2.out.trans hb); have hbx3 : w3.cell? ⟨Bx, 0, none⟩ = some (.int .i64 id) := (by rw [cell_at HP3.out.boxed]; rfl); have C5 := Lib.hid (Nat.le_trans HP3.out.low (Nat.le_succ _)); clear hp hb hbx)
                | (at_builtin; go_must (refine wpList_append_lies _ rfl _ _ 70 rfl w.heap.size 73 i0 (.agg #[.int .i64 0, .string ByteArray.empty]) 2 24 Try.underlying70 hi0 hz0 hz1 hz2 rfl (by decide) _ S.length (cellsOf S) rfl (HP3.out.pairs.alloc _) ⟨w3.heap.size, 0, none⟩ 1 1 [.int .i64 id, .string k] rfl rfl (World.news_of_block (cs := #[.int .i64 id, .string k]) (t := 73) (fr := (0, 0)) (heap_alloc_new w3 _)) ?_ Nat.one_pos ?_ ?_ ?_ _ rfl ?_); (go_must (exact C2.out)); (go_must (exact C3.out)); (go_must (exact C4.out)); (go_must (simpa using C5.out)); go_must (intro g cap3 w4 hown hgrow hat _); go_must (have hbox := HP3.out.append (x := (id, k)) hown hgrow hat); have HP4 := Lib.hid hbox.1; have HB4 := Lib.hid (HB3.out.trans hbox.2); clear hbox hown hgrow hat))
              go_meet
              exact ⟨_, by simp; omega, HP4.out, HB4.out⟩
            · have HC := Lib.hid (hii ▸ play_quiet HP2.out (fun M hM => hpush_there hM k (it_mem hi)))
              have e1 : (0 : Int) ≤ i := by omega
              go_wp2_with (go_at_call 14; (with_reducible refine HC.out.mono ?_); rintro e w3 ⟨rfl, hp, hb⟩; have HP3 := Lib.hid hp; have HB3 := Lib.hid (HB2.out.trans hb); clear hp hb)
              go_meet
              exact ⟨S, by omega, HP3.out, HB3.out⟩
          · have n1 : (op == 1) = false := by simpa using o1
            by_cases o2 : op = 2
            · subst o2
              by_cases hSe : S = []
              · subst hSe
                have HC := Lib.hid (play_quiet HP2.out (fun M hM => hpop_nil hM))
                go_wp2_with (first
                  | (go_at_call 38; (with_reducible refine HC.out.mono ?_); rintro e w3 ⟨rfl, hp, hb⟩; have HP3 := Lib.hid hp; have HB3 := Lib.hid (HB2.out.trans hb); clear hp hb)
                  | (go_at_call 39; go_must (refine (first_any _ _ _ _ HP3.out.pairs).mono ?_); rintro e w4 ⟨r4, rfl, hr4, hb4⟩; have hr5 : r4 = -1 := (by rcases hr4 with ⟨h, _⟩ | ⟨i, _, h, _⟩; exact h; exact absurd h (Nat.not_lt_zero _)); subst hr5; have HP4 := Lib.hid (HP3.out.below hb4); have HB4 := Lib.hid (HB3.out.trans (hb4.mono HB3.out.size)); clear hr4 hb4))
                go_meet
                exact ⟨[], by simp, HP4.out, HB4.out⟩
              · obtain ⟨g, m, cap6, rfl, hm⟩ := pairs_shape HP2.out.pairs hSe
                obtain ⟨x, hx⟩ := least_exists hSe
                have HX := Lib.hid hx
                have HC := Lib.hid (play_heap HP2.out (fun M hM => hpop hM hx))
                have HI := Lib.hid HP2.out.ids
                have hSl : S.length = m + 1 := hm
                have HE := Lib.hid (fun i (hi : i < S.length) => erase_without HP2.out.ids hi)
                clear hx
                go_wp2_with (first
                  | (go_at_call 38; (with_reducible refine HC.out.mono ?_); rintro e w3 ⟨rfl, hp, hb⟩; have HP3 := Lib.hid hp; have HB3 := Lib.hid (HB2.out.trans hb); clear hp hb)
                  | (go_at_call 39; go_must (refine (first_any _ _ _ _ HP3.out.pairs).mono ?_); rintro e w4 ⟨r4, rfl, hr4, hb4⟩; obtain ⟨i4, rfl, hi4, hl4⟩ := hr4.resolve_left (fun e => hSe e.2); obtain rfl := least_one hl4 HX.out; obtain ⟨y0, y1, yf⟩ := pair_cell (HP3.out.below hb4).pairs hi4; have HP4 := Lib.hid (HP3.out.below hb4); have HB4 := Lib.hid (HB3.out.trans (hb4.mono HB3.out.size)); have him : i4 < m + 1 := (by omega); have q1 : (i4 : Int) < m + 1 := (by omega); have q2 : (0 : Int) ≤ i4 := (by omega); clear hr4 hb4 hl4)
                  | (go_at_call 40; go_must (have hd := play_del HP4.out hm him (by omega)); (with_reducible refine hd.mono ?_); rintro e w5 ⟨rfl, hp5, hb5⟩; have HP5 := Lib.hid hp5; have HB5 := Lib.hid (HB4.out.trans hb5); clear hd hp5 hb5))
                go_meet
                refine ⟨S.eraseIdx i4, by rw [List.length_eraseIdx, if_pos hi4]; omega, ?_, HB5.out⟩
                have hp5 := HP5.out
                rw [← HE.out i4 hi4] at hp5
                exact hp5
            · have n2 : (op == 2) = false := by simpa using o2
              by_cases o3 : op = 3
              · subst o3
                rcases HR.out with ⟨rfl, hno⟩ | ⟨i, rfl, hi, hii⟩
                · have HC := Lib.hid (play_quiet HP2.out (fun M hM => hturn_none hM k hid2 hno))
                  clear hno HR
                  go_wp2_with (go_at_call 41; (with_reducible refine HC.out.mono ?_); rintro e w3 ⟨rfl, hp, hb⟩; have HP3 := Lib.hid hp; have HB3 := Lib.hid (HB2.out.trans hb); clear hp hb)
                  go_meet
                  exact ⟨S, by omega, HP3.out, HB3.out⟩
                · obtain ⟨g, m, cap6, rfl, hm⟩ := pairs_shape HP2.out.pairs (S := S) (by rintro rfl; exact absurd hi (Nat.not_lt_zero _))
                  have HC := Lib.hid (play_heap HP2.out (fun M hM => hturn hM k (it_mem hi)))
                  have HK := Lib.hid (setKey_rekey (apart_of_ids HP2.out.ids) hi k)
                  rw [hii] at HC HK
                  have e1 : (0 : Int) ≤ i := by omega
                  have e2 : (i : Int) < m + 1 := by omega
                  have hi2 : i < m + 1 := by omega
                  go_wp2_with (go_at_call 41; (with_reducible refine HC.out.mono ?_); rintro e w3 ⟨rfl, hp, hb⟩; have HP3 := Lib.hid hp; have HB3 := Lib.hid (HB2.out.trans hb); obtain ⟨y0, y1, yf⟩ := pair_cell hp.pairs hi; have hst := hp.store (i := i) hm hi2 k; have HP4 := Lib.hid hst.1; have HB4 := Lib.hid (HB3.out.trans hst.2); clear hp hb hst)
                  go_meet
                  refine ⟨setKey S i k, by rw [setKey_len]; omega, ?_, HB4.out⟩
                  have hp4 := HP4.out
                  rw [← HK.out] at hp4
                  exact hp4
              · have n3 : (op == 3) = false := by simpa using o3
                by_cases o4 : op = 4
                · subst o4
                  rcases HR.out with ⟨rfl, hno⟩ | ⟨i, rfl, hi, hii⟩
                  · have HC := Lib.hid (play_quiet HP2.out (fun M hM => hout_none hM hid2 hno))
                    clear hno HR
                    go_wp2_with (go_at_call 42; (with_reducible refine HC.out.mono ?_); rintro e w3 ⟨rfl, hp, hb⟩; have HP3 := Lib.hid hp; have HB3 := Lib.hid (HB2.out.trans hb); clear hp hb)
                    go_meet
                    exact ⟨S, by omega, HP3.out, HB3.out⟩
                  · obtain ⟨g, m, cap6, rfl, hm⟩ := pairs_shape HP2.out.pairs (S := S) (by rintro rfl; exact absurd hi (Nat.not_lt_zero _))
                    have HC := Lib.hid (play_heap HP2.out (fun M hM => hout hM (it_mem hi)))
                    have HE := Lib.hid (erase_without HP2.out.ids hi)
                    rw [hii] at HC HE
                    have e1 : (0 : Int) ≤ i := by omega
                    have e2 : (i : Int) < m + 1 := by omega
                    have hi2 : i < m + 1 := by omega
                    go_wp2_with (first
                      | (go_at_call 42; (with_reducible refine HC.out.mono ?_); rintro e w3 ⟨rfl, hp, hb⟩; have HP4 := Lib.hid hp; have HB4 := Lib.hid (HB2.out.trans hb); obtain ⟨y0, y1, yf⟩ := pair_cell hp.pairs hi; clear hp hb)
                      | (go_at_call 40; go_must (have hd := play_del HP4.out hm hi2 (by omega)); (with_reducible refine hd.mono ?_); rintro e w5 ⟨rfl, hp5, hb5⟩; have HP5 := Lib.hid hp5; have HB5 := Lib.hid (HB4.out.trans hb5); clear hd hp5 hb5))
                    go_meet
                    refine ⟨S.eraseIdx i, by rw [List.length_eraseIdx, if_pos hi]; omega, ?_, HB5.out⟩
                    have hp5 := HP5.out
                    rw [← HE.out] at hp5
                    exact hp5
                · have n4 : (op == 4) = false := by simpa using o4
                  go_wp2_with fail
                  go_meet
                  exact ⟨S, by omega, HP2.out, HB2.out⟩
      case rest =>
        as_aux_lemma =>
          obtain ⟨T, hS2, hp, hb⟩ := hcut
          have HP2 := Lib.hid hp
          have HB2 := Lib.hid hb
          have hbx : wc.cell? ⟨Bx, 0, none⟩ = some (.int .i64 id) := by rw [cell_at hp.boxed]; rfl
          clear hp hb
          by_cases hSe : T = []
          · subst hSe
            obtain ⟨av, cv, rfl⟩ : ∃ av cv, u6 = .slice av 0 cv := (by
              rcases HP2.out.pairs.cases with ⟨h, -⟩ | ⟨g, cv, h, -⟩
              · exact ⟨_, _, h⟩
              · exact ⟨_, _, h⟩)
            have hno : ∀ x ∈ ([] : List (Int × ByteArray)), x.1 ≠ id := fun x hx => absurd hx (by simp)
            have HC := Lib.hid (play_quiet HP2.out (fun M hM => hpeek_nil hM))
            go_wp2_with (first
              | (go_at_call 43; (with_reducible refine HC.out.mono ?_); rintro e w3 ⟨rfl, hp, hb⟩; have HP3 := Lib.hid hp; have HB3 := Lib.hid (HB2.out.trans hb); clear hp hb)
              | (go_at_call 39; go_must (refine (first_any _ _ _ _ HP3.out.pairs).mono ?_); rintro e w4 ⟨r4, rfl, hr4, hb4⟩; have hr5 : r4 = -1 := (by rcases hr4 with ⟨h, _⟩ | ⟨i, _, h, _⟩; exact h; exact absurd h (Nat.not_lt_zero _)); subst hr5; have HP4 := Lib.hid (HP3.out.below hb4); have HB4 := Lib.hid (HB3.out.trans (hb4.mono HB3.out.size)); have hbx4 : w4.cell? ⟨Bx, 0, none⟩ = some (.int .i64 id) := (by rw [cell_at HP4.out.boxed]; rfl); clear hr4 hb4)
              | (go_at_call 44; go_must (have hk := play_quiet HP4.out (fun M hM => hkey_none hM hid2 hno)); (with_reducible refine hk.mono ?_); rintro e w5 ⟨rfl, hp, hb⟩; have HP5 := Lib.hid hp; have HB5 := Lib.hid (HB4.out.trans hb); clear hk hp hb)
              | (go_at_call 36; go_must (refine (index_any 45 (Or.inr rfl) _ _ _ _ _ _ HP5.out.pairs HP5.out.boxed).mono ?_); rintro e w6 ⟨r6, rfl, hr6, hb6⟩; obtain ⟨rfl, -⟩ := hr6.resolve_right (fun ⟨i, _, h, _⟩ => absurd h (Nat.not_lt_zero _)); have HP6 := Lib.hid (HP5.out.below hb6); have HB6 := Lib.hid (HB5.out.trans (hb6.mono HB5.out.size)); clear hr6 hb6)
              | (go_at_call 15; go_must (have hk := hlook HP6.out); (with_reducible refine hk.mono ?_); rintro e w7 ⟨rfl, hp, hb⟩; have HP7 := Lib.hid hp; have HB7 := Lib.hid (HB6.out.trans hb); clear hk hp hb))
            go_roundw
            case rel => exact ⟨j + 1, _, by go_num, by omega, hS2, HP7.out.forget, HB7.out⟩
            case measure => simp [intOf]; omega
          · obtain ⟨g, m, cap6, rfl, hm⟩ := pairs_shape HP2.out.pairs hSe
            obtain ⟨x, hx⟩ := least_exists hSe
            have HX := Lib.hid hx
            have HC := Lib.hid (play_read HP2.out (fun M hM => hpeek_is hM hx))
            clear hx
            have hfi := Classical.em (∃ i, i < T.length ∧ (it T i).1 = id)
            rcases hfi with ⟨i, hi, hii⟩ | hnf
            · have HI := Lib.hid (apart_of_ids HP2.out.ids)
              go_wp2_with (first
                | (go_at_call 43; (with_reducible refine HC.out.mono ?_); rintro e w3 ⟨rfl, hp, hb⟩; have HP3 := Lib.hid hp; have HB3 := Lib.hid (HB2.out.trans hb); clear hp hb)
                | (go_at_call 39; go_must (refine (first_any _ _ _ _ HP3.out.pairs).mono ?_); rintro e w4 ⟨r4, rfl, hr4, hb4⟩; obtain ⟨i4, rfl, hi4, hl4⟩ := hr4.resolve_left (fun e => hSe e.2); obtain rfl := least_one hl4 HX.out; obtain ⟨y0, y1, yf⟩ := pair_cell (HP3.out.below hb4).pairs hi4; have HP4 := Lib.hid (HP3.out.below hb4); have HB4 := Lib.hid (HB3.out.trans (hb4.mono HB3.out.size)); have hbx4 : w4.cell? ⟨Bx, 0, none⟩ = some (.int .i64 id) := (by rw [cell_at HP4.out.boxed]; rfl); have him : i4 < m + 1 := (by omega); have q1 : (i4 : Int) < m + 1 := (by omega); have q2 : (0 : Int) ≤ i4 := (by omega); clear hr4 hb4 hl4)
                | (go_at_call 44; go_must (have hk := hii ▸ play_read HP4.out (fun M hM => hkey hM (it_mem hi))); (with_reducible refine hk.mono ?_); rintro e w5 ⟨rfl, hp, hb⟩; have HP5 := Lib.hid hp; have HB5 := Lib.hid (HB4.out.trans hb); clear hk hp hb)
                | (go_at_call 36; go_must (refine (index_any 45 (Or.inr rfl) _ _ _ _ _ _ HP5.out.pairs HP5.out.boxed).mono ?_); rintro e w6 ⟨r6, rfl, hr6, hb6⟩; obtain ⟨i6, rfl, h6, h7⟩ := hr6.resolve_left (fun e => e.2 _ (it_mem hi) hii); obtain rfl := HI.out i6 i h6 hi (h7.trans hii.symm); obtain ⟨z0, z1, zf⟩ := pair_cell (HP5.out.below hb6).pairs h6; have q3 : (i6 : Int) < m + 1 := (by omega); have q4 : (0 : Int) ≤ i6 := (by omega); have HP6 := Lib.hid (HP5.out.below hb6); have HB6 := Lib.hid (HB5.out.trans (hb6.mono HB5.out.size)); clear hr6 hb6)
                | (go_at_call 15; go_must (have hk := hlook HP6.out); (with_reducible refine hk.mono ?_); rintro e w7 ⟨rfl, hp, hb⟩; have HP7 := Lib.hid hp; have HB7 := Lib.hid (HB6.out.trans hb); clear hk hp hb))
              go_roundw
              case rel => exact ⟨j + 1, _, by go_num, by omega, hS2, HP7.out.forget, HB7.out⟩
              case measure => simp [intOf]; omega
            · have hno : ∀ x ∈ T, x.1 ≠ id := fun x hx e => by
                obtain ⟨i, hi, rfl⟩ := List.getElem_of_mem hx
                exact hnf ⟨i, hi, by rw [it_eq hi]; exact e⟩
              go_wp2_with (first
                | (go_at_call 43; (with_reducible refine HC.out.mono ?_); rintro e w3 ⟨rfl, hp, hb⟩; have HP3 := Lib.hid hp; have HB3 := Lib.hid (HB2.out.trans hb); clear hp hb)
                | (go_at_call 39; go_must (refine (first_any _ _ _ _ HP3.out.pairs).mono ?_); rintro e w4 ⟨r4, rfl, hr4, hb4⟩; obtain ⟨i4, rfl, hi4, hl4⟩ := hr4.resolve_left (fun e => hSe e.2); obtain rfl := least_one hl4 HX.out; obtain ⟨y0, y1, yf⟩ := pair_cell (HP3.out.below hb4).pairs hi4; have HP4 := Lib.hid (HP3.out.below hb4); have HB4 := Lib.hid (HB3.out.trans (hb4.mono HB3.out.size)); have hbx4 : w4.cell? ⟨Bx, 0, none⟩ = some (.int .i64 id) := (by rw [cell_at HP4.out.boxed]; rfl); have him : i4 < m + 1 := (by omega); have q1 : (i4 : Int) < m + 1 := (by omega); have q2 : (0 : Int) ≤ i4 := (by omega); clear hr4 hb4 hl4)
                | (go_at_call 44; go_must (have hk := play_quiet HP4.out (fun M hM => hkey_none hM hid2 hno)); (with_reducible refine hk.mono ?_); rintro e w5 ⟨rfl, hp, hb⟩; have HP5 := Lib.hid hp; have HB5 := Lib.hid (HB4.out.trans hb); clear hk hp hb)
                | (go_at_call 36; go_must (refine (index_any 45 (Or.inr rfl) _ _ _ _ _ _ HP5.out.pairs HP5.out.boxed).mono ?_); rintro e w6 ⟨r6, rfl, hr6, hb6⟩; obtain ⟨rfl, -⟩ := hr6.resolve_right (fun ⟨i, _, h1, h2⟩ => hnf ⟨i, h1, h2⟩); have HP6 := Lib.hid (HP5.out.below hb6); have HB6 := Lib.hid (HB5.out.trans (hb6.mono HB5.out.size)); clear hr6 hb6)
                | (go_at_call 15; go_must (have hk := hlook HP6.out); (with_reducible refine hk.mono ?_); rintro e w7 ⟨rfl, hp, hb⟩; have HP7 := Lib.hid hp; have HB7 := Lib.hid (HB6.out.trans hb); clear hk hp hb))
              go_roundw
              case rel => exact ⟨j + 1, _, by go_num, by omega, hS2, HP7.out.forget, HB7.out⟩
              case measure => simp [intOf]; omega
    · have e : j = recs.length := by omega
      subst e
      go_wp2_with fail
      go_ret
      exact ⟨rfl, HB.out⟩
end Go.Proofs.Ytonlhcebnbdjjaa.S
