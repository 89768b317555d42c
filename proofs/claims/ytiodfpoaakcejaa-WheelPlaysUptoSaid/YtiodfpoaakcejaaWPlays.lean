/- The walk of WheelPlays: whatever is asked of a wheel, all is as a list of timers tells it. -/
import Derived.Test.YtiodfpoaakcejaaWPlay
import Derived.Test.YtiodfpoaakcejaaWSift
import Derived.Deep.CutBlock
namespace Go.Proofs.Ytiodfpoaakcejaa.Wh
open Go.ChangeShapes Go.WideShapes Go.ChangeAt Go.RowKit Go.Maps
open Go.Proofs.Ytiodfpoaakcejaa.Hp
open Go.Proofs.Ytiodfpoaakcejaa.Tm (RowAt row_nil Ahead Found enc)
set_option linter.unusedVariables false

/-- The state at the head of the plays' loop. -/
def Head (B : Nat) (w0 : World) (p : Nat) (n : Nat) (s0 V v : Value) (w : World) : Prop :=
  ∃ (j : Nat) (now : Int) (S : Timers), s0 = .int .u32 (now % 4294967296) ∧ v = .int .i64 j ∧ j ≤ n ∧ S.length ≤ j ∧ now ≤ 4294967296 + 2147483648 * j ∧ Ahead now S ∧ Play B w p now V S S [] ∧ Below B w0 w

/-- The state behind the switch. -/
def Mixed (B : Nat) (w0 : World) (p Bx : Nat) (id : Int) (j : Nat) (s0 V : Value) (w : World) : Prop :=
  ∃ (now : Int) (S : Timers), s0 = .int .u32 (now % 4294967296) ∧ S.length ≤ j + 1 ∧ now ≤ 4294967296 + 2147483648 * (j + 1) ∧ Ahead now S ∧ Play B w p now V S S [(Bx, id)] ∧ Below B w0 w

theorem wadd_d {M : Nat → Prop} {w : World} {p : Nat} {now : Int} {S : Timers} {id : Int} (a d : Int) (h : WheelAt M w p now S) (hw : (Lit.int .i64 id).wf = true) (hno : ∀ x ∈ S, x.1 ≠ id) (hd : dist now a = d) (h0 : 0 ≤ d) (hn : now ≤ 4611686018427387904) (hl : S.length + 1 ≤ 6000000000000) :
    Calls Try.prog 10 #[.pointer (some ⟨p, 0, none⟩), .int .u32 a, .int .i64 id] w (Added M w p now (S ++ [(id, now + d)])) := by
  subst hd; exact wadd a h hw hno h0 hn hl

theorem Play.asked {B : Nat} {w : World} {p : Nat} {now : Int} {V : Value} {Sw S : Timers} {Bx : Nat} {id : Int} (h : Play B w p now V Sw S [(Bx, id)]) : w.cell? ⟨Bx, 0, none⟩ = some (.int .i64 id) := by rw [cell_at h.boxed]; rfl

theorem ahead_snoc {now : Int} {S : Timers} {id d : Int} (h : Ahead now S) (h0 : 0 ≤ d) (h1 : d ≤ 2147483647) : Ahead now (S ++ [(id, now + d)]) := by
  intro x hx
  rcases List.mem_append.1 hx with hx | hx
  · exact h x hx
  · simp only [List.mem_singleton] at hx; subst hx; simp only; omega

theorem ahead_without {now id : Int} {S : Timers} (h : Ahead now S) : Ahead now (without S id) := fun x hx => h x (List.mem_filter.1 hx).1

/-- The closure that asks for an id. -/
def hasId (id : Int) (x : Int × Int) : Bool := x.1 == id

theorem found_in {S : Timers} {i : Nat} {id : Int} (h : i < S.length) (hi : hasId id (S.getD i (0, 0)) = true) : ∃ x, x ∈ S ∧ x.1 = id :=
  ⟨S.getD i (0, 0), by simp [List.getD, h], by simpa [hasId] using hi⟩

theorem found_erase {S : Timers} {i : Nat} {id : Int} (hI : Ids S) (h : i < S.length) (hi : hasId id (S.getD i (0, 0)) = true) : S.eraseIdx i = without S id := by
  rw [erase_without hI h, show (S.getD i (0, 0)).1 = id by simpa [hasId] using hi]

/-- The row has grown by append, over a block with the new element. -/
theorem Play.snoc {B : Nat} {w w1 w2 : World} {p : Nat} {now : Int} {V V' : Value} {Sw S S' : Timers} {X : List (Nat × Int)} (h : Play B w p now V Sw S X) (hO1 : Only (fun _ => False) w w1) (hO : Only (fun k => V.ownBlock = some k) w1 w2) (hP : RowAt w2 B V' S') (hV' : ∀ k, V'.ownBlock = some k → V.ownBlock = some k ∨ w1.heap.size ≤ k) : Play B w2 p now V' Sw S' X ∧ Below B w w2 := by
  obtain ⟨h1, h2⟩ := (h.later hO1).turned hO hP hV'
  exact ⟨h1, (hO1.below h.low (fun _ e => e.elim)).trans h2⟩

theorem asks_id (Bx : Nat) (id : Int) (w : World) (hB : w.heap[Bx]? = some (.cells #[.int .i64 id] 3 (0, 0))) (x : Int × Int) (W : World) (hW : Below w.heap.size w W) :
    Calls Try.prog 13 #[.agg #[.int .u32 (x.2 % 4294967296), .int .i64 x.1], .pointer (some ⟨Bx, 0, none⟩)] W (fun e W' => e = .returned (.bool (hasId id x)) ∧ Below W.heap.size W W') := by
  have hB2 : W.heap[Bx]? = some (.cells #[.int .i64 id] 3 (0, 0)) := (hW.block Bx (block_there hB)).trans hB
  have hc : W.cell? ⟨Bx, 0, none⟩ = some (.int .i64 id) := by rw [cell_at hB2]; rfl
  have hlt := block_there hB2
  clear hB hB2 hW
  obtain ⟨x, k⟩ := x
  simp only
  go_enter Try.func13, Try.ntmps13
  go_wp2
  go_ret
  exact ⟨rfl, (Below.refl _ W).alloc (Nat.le_refl _) _⟩

theorem below_box {b : Nat} (w : World) (o : Obj) (h : b ≤ w.heap.size) : Below b w (w.alloc o) := (Below.refl b w).alloc h o

/-- The first three things that a play knows: its list, its timer's id and time. -/
theorem head_zero {w w1 : World} {p n : Nat} {now : Int} (h : WheelAt (fun k => w.heap.size ≤ k) w1 p now []) (hn : now < 4294967296) (hB : Below w.heap.size w w1) : Head w.heap.size w p n (.int .u32 now) (.slice none 0 0) (.int .i64 0) w1 := by
  have h0 := h.past
  exact ⟨0, now, [], by rw [Int.emod_eq_of_lt h0 hn], rfl, Nat.zero_le _, Nat.le_refl _, by omega, (fun x hx => absurd hx (by simp)), ⟨_, h, row_nil _ _, (fun k hk => by cases hk), (fun k hk => hk), (fun x hx => absurd hx (by simp))⟩, hB⟩

set_option maxRecDepth 100000 in
set_option maxHeartbeats 8000000 in
theorem plays_walk (now0 : Int) (a : Option Addr) (cap : Nat) (recs : List (List Int)) (w : World) (hnow : (Lit.int .u32 now0).wf = true) (h : ArgRows w a recs.length cap recs) (hn : recs.length ≤ 1048576) :
    Calls Try.prog 3 #[.int .u32 now0, .slice a recs.length cap] w fun e w' => e = .returned (.bool true) ∧ Below w.heap.size w w' := by
  obtain ⟨-, hcap, hmx, -, hrow⟩ := h
  obtain ⟨n0, n1⟩ := u32_bd hnow
  have HROW := Lib.hid hrow
  have hcm : cap ≤ 9223372036854775807 := by unfold maxLen at hmx; omega
  clear hrow hmx hnow
  go_enter Try.func3, Try.ntmps3
  go_wp2_with (first
    | (go_at_call 9; go_must (have hc := wnew 5 w (by omega) (by omega)); (with_reducible refine hc.mono ?_); clear hc; rintro e w1 ⟨p0, rfl, ha, ho⟩; have HA := Lib.hid ha; have HO := Lib.hid ho; clear ha ho)
    | (go_at_call 10; go_must (have hc := wadd_past (id := 1) 4 HA.out (by decide) (by simp) (by decide)); (with_reducible refine hc.mono ?_); clear hc; rintro e w2 ⟨rfl, rfl⟩)
    | (go_at_call 10; go_must (have hc := wadd_to (id := 1) 6 6 HA.out (by decide) (by simp) (by decide) (by omega) (by omega) (by omega) (by simp)); (with_reducible refine hc.mono ?_); clear hc; rintro e w2 ⟨rfl, ha, ho⟩; have HO2 := Lib.hid (only_above HO.out ho (fun k hk => hk)); clear ha ho)
    | (go_at_call 9; go_must (have hc := wnew now0 w2 n0 n1); (with_reducible refine hc.mono ?_); clear hc; rintro e w3 ⟨p, rfl, ha, ho⟩; have HA3 := Lib.hid (head_zero (n := recs.length) (w := w) (ha.mono (fun k hk => Nat.le_trans HO2.out.size hk)) n1 ((HO2.out.trans ho (fun _ _ e => e)).below (Nat.le_refl _) (fun _ e => e.elim))); clear ha ho))
  clear HA HO HO2
  go_loopw [0, 7, 41] (fun s0 V v wr => Head w.heap.size w p recs.length s0 V v wr) (fun _ _ v _ => recs.length - (intOf v).toNat)
  case atStart => exact HA3.out
  case round =>
    clear HA3
    obtain ⟨j, now, S, rfl, rfl, hj, hS, hnow, hA, hp, hb⟩ := hrel

    have HP := Lib.hid hp
    have HB := Lib.hid hb
    have HA := Lib.hid hA
    have hpast := hp.past
    clear hp hb hA
    by_cases hjn : j < recs.length
    · obtain ⟨b, off, v, rfl, hbl, hc, hv⟩ := HROW.out j hjn
      have hcx := (HB.out.cell (p := ⟨b, off + j, none⟩) hbl).trans hc
      have HV := Lib.hid (hv.later HB.out)
      have g1 : (j : Int) < recs.length := by omega
      have g2 : (0 : Int) ≤ j := by omega
      have hid := hv.wf 1
      generalize recs.getD j [] = xs at *
      clear hc hv
      go_upto_region 12 with (first
        | (go_at_call 11; (with_reducible refine (at_1 HV.out).mono ?_); rintro e w' ⟨rfl, rfl⟩)
        | (go_at_call 11; go_must (have hbx := HP.out.box (nth xs 1); have hv2 := HV.out.later (below_box wr (.cells #[.int .i64 (nth xs 1)] 3) (Nat.le_refl _)); have hc := at_2 hv2); (with_reducible refine hc.mono ?_); clear hc; rintro e w1 ⟨rfl, rfl⟩; have HBX := Lib.hid hbx; have HV2 := Lib.hid hv2; clear hbx hv2)
        | (go_at_call 12; go_must (have hc := Tm.index_one _ _ _ S (hasId (nth xs 1)) _ HBX.out.row (asks_id _ _ _ HBX.out.boxed)); (with_reducible refine hc.mono ?_); clear hc; rintro e w2 ⟨r, rfl, hr, hb⟩; have HP2 := Lib.hid (HBX.out.below hb); have HR := Lib.hid hr; have HBW := Lib.hid ((below_box wr (.cells #[.int .i64 (nth xs 1)] 3) (Nat.le_refl _)).trans (hb.mono (by simp))); have HB2 := Lib.hid (HB.out.trans (HBW.out.mono HB.out.size)); have HV3 := Lib.hid (HV2.out.later hb); clear hb hr))
      go_upto_block 2 with (go_at_call 11; (with_reducible refine (at_0 HV3.out).mono ?_); rintro e w' ⟨rfl, rfl⟩)
      clear HV HV2 HV3 HBW HBX HP HB hcx HROW
      have hid2 : (Lit.int .i64 (nth xs 1)).wf = true := hid
      clear hid
      obtain ⟨a, ha⟩ : ∃ a, (now + nth xs 2) % 4294967296 = a := ⟨_, rfl⟩
      rw [ha]
      have ha0 : 0 ≤ a := by omega
      have ha1 : a < 4294967296 := by omega
      clear ha
      generalize nth xs 1 = id at *
      generalize nth xs 0 = op at *
      generalize wr.heap.size = Bx at *
      have hbx : w2.cell? ⟨Bx, 0, none⟩ = some (.int .i64 id) := by rw [cell_at HP2.out.boxed]; rfl
      have f1 := Lib.hid (fun w => ref_far_is (now % 4294967296) a (dist now a) (by omega) ⟨ha0, ha1⟩ (dist_mod now a) w)
      have HKM := Lib.hid (key_mod (now := now) ⟨ha0, ha1⟩)
      have hd2 := dist_hi now a
      obtain ⟨d, hd⟩ : ∃ d, dist now a = d := ⟨_, rfl⟩
      rw [hd] at f1 HKM hd2
      have HD := Lib.hid hd
      clear hd
      go_cut [0, 7] (fun s0 s7 wx => Mixed w.heap.size w p Bx id j s0 s7 wx)
      case first =>
        as_aux_lemma =>
          by_cases o1 : op = 1
          · subst o1
            rcases HR.out with ⟨rfl, hno⟩ | ⟨i, rfl, hi, hii⟩
            · have hno2 : ∀ x ∈ S, x.1 ≠ id := fun x hx e => by have := hno x hx; simp [hasId, e] at this
              by_cases hneg : d < 0
              · have HC := Lib.hid (play_quiet HP2.out (fun M hM => wadd_past a hM hid2 hno2 (by rw [HD.out]; exact hneg)))
                clear hno hno2 HR
                go_wp2_with (first
                  | (go_at_call 14; go_must (have hc := f1.out w2); (with_reducible refine hc.mono ?_); clear hc; rintro e w3 ⟨rfl, rfl⟩)
                  | (go_at_call 10; (with_reducible refine HC.out.mono ?_); rintro e w3 ⟨rfl, hp, hb⟩; have HP3 := Lib.hid hp; have HB3 := Lib.hid (HB2.out.trans hb); clear hp hb))
                go_meet
                exact ⟨now, S, rfl, by omega, by omega, HA.out, HP3.out, HB3.out⟩
              · have hd0 : 0 ≤ d := by omega
                have HC := Lib.hid (play_adds HP2.out (fun M hM => wadd_d a d hM hid2 hno2 HD.out hd0 (by omega) (by omega)))
                have hl1 : S.length + 1 ≤ 8796093022144 := by omega
                have HE := Lib.hid (show enc (id, now + d) = [.int .u32 a, .int .i64 id] by unfold enc; simp only; rw [HKM.out])
                clear hno hno2 HR
                go_wp2_with (first
                  | (go_at_call 14; go_must (have hc := f1.out w2); (with_reducible refine hc.mono ?_); clear hc; rintro e w3 ⟨rfl, rfl⟩)
                  | (go_at_call 10; (with_reducible refine HC.out.mono ?_); rintro e w3 ⟨rfl, hp, hb⟩; have hbx3 := hp.asked; have HP3 := Lib.hid hp; have HB3 := Lib.hid (HB2.out.trans hb); clear hp hb)
                  | (at_builtin; go_must (refine Tm.append_row rfl _ _ rfl w.heap.size w3.heap.size 1 _ S (id, now + d) rfl rfl (HP3.out.row.later ((Only.refl _ w3).alloc _)) ?_ hl1 (Nat.le_trans HP3.out.low (by simp)) ?_); (go_must (rw [HE.out]; exact heap_alloc_new w3 _)); go_must (intro v5 w5 hr5 hO5 hV5); have HP5 := Lib.hid (HP3.out.snoc ((Only.refl _ w3).alloc _) hO5 hr5 hV5); clear hr5 hO5 hV5))
                go_meet
                exact ⟨now, _, rfl, by simp; omega, by omega, ahead_snoc HA.out hd0 hd2, HP5.out.1, HB3.out.trans HP5.out.2⟩
            · obtain ⟨x, hx, hxi⟩ := found_in hi hii
              have HC := Lib.hid (play_read HP2.out (fun M hM => by have := wadd_there a hM hx; rw [hxi] at this; exact this))
              have g3 : (0 : Int) ≤ i := by omega
              clear hx hxi HR hii hid2
              go_wp2_with (first
                | (go_at_call 10; (with_reducible refine HC.out.mono ?_); rintro e w3 ⟨rfl, hp, hb⟩; have HP3 := Lib.hid hp; have HB3 := Lib.hid (HB2.out.trans hb); clear hp hb))
              go_meet
              exact ⟨now, S, rfl, by omega, by omega, HA.out, HP3.out, HB3.out⟩
          · by_cases o2 : op = 2
            · subst o2
              rcases HR.out with ⟨rfl, hno⟩ | ⟨i, rfl, hi, hii⟩
              · have hno2 : ∀ x ∈ S, x.1 ≠ id := fun x hx e => by have := hno x hx; simp [hasId, e] at this
                have HC := Lib.hid (play_quiet HP2.out (fun M hM => wout_none hM hid2 hno2))
                clear hno hno2 HR o1
                go_wp2_with (first
                  | (go_at_call 15; (with_reducible refine HC.out.mono ?_); rintro e w3 ⟨rfl, hp, hb⟩; have HP3 := Lib.hid hp; have HB3 := Lib.hid (HB2.out.trans hb); clear hp hb))
                go_meet
                exact ⟨now, S, rfl, by omega, by omega, HA.out, HP3.out, HB3.out⟩
              · obtain ⟨x, hx, hxi⟩ := found_in hi hii
                have HC := Lib.hid (play_keeps HP2.out (fun M hM => by have := wout hM hx; rw [hxi] at this; exact this))
                obtain ⟨m, hm⟩ : ∃ m, S.length = m + 1 := ⟨S.length - 1, by omega⟩
                have HER := Lib.hid (found_erase HP2.out.ids hi hii)
                have g3 : (0 : Int) ≤ i := by omega
                have HM := Lib.hid hm
                have hi9 : i < m + 1 := by omega
                have hb9 : m ≤ 6000000000000 := by omega
                obtain ⟨g, c, rfl, -, -, -, -, -⟩ := HP2.out.row.at_block hm (by omega)
                clear hx hxi HR hii hid2 o1 hi
                go_wp2_with (first
                  | (go_at_call 15; (with_reducible refine HC.out.mono ?_); rintro e w3 ⟨rfl, hp, hb⟩; have HP3 := Lib.hid hp; have HB3 := Lib.hid (HB2.out.trans hb); clear hp hb)
                  | (go_at_call 16; go_must (have hc := play_del HP3.out HM.out hi9 hb9); (with_reducible refine hc.mono ?_); rintro e w4 ⟨rfl, hp, hb⟩; have HP4 := Lib.hid hp; have HB4 := Lib.hid (HB3.out.trans hb); clear hp hb))
                go_meet
                exact ⟨now, _, rfl, by rw [← HER.out]; have := List.length_eraseIdx_le S i; omega, by omega, ahead_without HA.out, HER.out ▸ HP4.out, HB4.out⟩
            · by_cases o3 : op = 3
              · subst o3
                clear HR o1 o2 hid2 hbx
                by_cases hneg : d < 0
                · have HC := Lib.hid (play_quiet HP2.out (fun M hM => wstep_past a hM (by rw [HD.out]; exact hneg)))
                  go_wp2_with (first
                    | (go_at_call 14; (with_reducible refine (f1.out _).mono ?_); rintro e w4 ⟨rfl, rfl⟩)
                    | (go_at_call 17; (with_reducible refine HC.out.mono ?_); rintro e w3 ⟨rfl, hp, hb⟩; have HP3 := Lib.hid hp; have HB3 := Lib.hid (HB2.out.trans hb); clear hp hb))
                  go_meet
                  exact ⟨now, S, rfl, by omega, by omega, HA.out, HP3.out, HB3.out⟩
                · have hd0 : 0 ≤ d := by omega
                  obtain ⟨n3, hn3⟩ : ∃ n, (goers S (now + d)).length = n := ⟨_, rfl⟩
                  have HC := Lib.hid (play_step HP2.out HD.out hd0 (by omega) hn3)
                  obtain ⟨n, hn⟩ : ∃ n, S.length = n := ⟨_, rfl⟩
                  have HN := Lib.hid hn
                  have HN3 := Lib.hid hn3
                  have hnj : n ≤ 6000000000000 := by omega
                  clear hn hn3
                  go_upto_region 37 with (first
                    | (go_at_call 14; (with_reducible refine (f1.out _).mono ?_); rintro e w3 ⟨rfl, rfl⟩)
                    | (go_at_call 17; (with_reducible refine HC.out.mono ?_); rintro e w3 ⟨a3, c3, rfl, hr, hp, hb⟩; have HR3 := Lib.hid hr; have HP3 := Lib.hid hp; have HB3 := Lib.hid (HB2.out.trans hb); clear hp hb hr)
                    | (go_at_call 18; go_must (have hc := Tm.due_any now _ _ S w3 HP3.out.row HA.out (by rw [HN.out]; exact hnj)); (with_reducible refine hc.mono ?_); clear hc; rintro e w4 ⟨v4, T, rfl, hPT, hST, hr, hO⟩; obtain ⟨a4, c4, rfl, -, hc4, -⟩ := hr.shape (hPT.length_eq.trans HN.out); have HPT := Lib.hid hPT; have HST := Lib.hid hST; have HR4 := Lib.hid hr; have HO4 := Lib.hid hO; clear hPT hST hr hO))
                  clear HC
                  have HT4 := Lib.hid (HPT.out.length_eq.trans HN.out)
                  go_loopw [17, 18, 127] (fun s17 s18 v wr => ∃ k : Nat, v = .int .i64 k ∧ k ≤ n ∧ Sift w4 (now + d) T k s17 s18 wr) (fun _ _ v _ => n - (intOf v).toNat)
                  case atStart => exact ⟨0, rfl, Nat.zero_le _, sift_zero _ _ _⟩
                  case round =>
                    obtain ⟨k, rfl, hk, hsf⟩ := hrel
                    have HSF := Lib.hid hsf
                    clear hsf
                    by_cases hkn : k < n
                    · have g3 : (k : Int) < n := by omega
                      have g4 : (0 : Int) ≤ k := by omega
                      obtain ⟨g5, c5, e5, -, -, -, -, hrow⟩ := HR4.out.at_block HT4.out (by omega)
                      cases e5
                      obtain ⟨x0, x1⟩ := (hrow.later HSF.out.only).cell (i := k) (by rw [HT4.out]; exact hkn)
                      have hx := HPT.out.mem_iff.1 (show T.getD k (0, 0) ∈ T by simp [List.getD, show k < T.length by rw [HT4.out]; exact hkn])
                      have hah := HA.out _ hx
                      obtain ⟨x, hxe⟩ : ∃ x, T.getD k (0, 0) = x := ⟨_, rfl⟩
                      rw [hxe] at x0 x1 hah
                      have HXE := Lib.hid hxe
                      have f2 := Lib.hid (fun w => ref_far_is (now % 4294967296) (x.2 % 4294967296) (x.2 - now) (by omega) (by omega) (by rw [dist_mod2, Tm.dist_ahead hah]) w)
                      have HKT := Lib.hid (show k < T.length by rw [HT4.out]; exact hkn)
                      clear hrow hx hxe
                      by_cases hdue : x.2 - now ≤ d
                      · have hle := Lib.hid (show x.2 ≤ now + d by omega)
                        have HLE := Lib.hid (due_room (k := k) (t := now + d) (x := x) HT4.out hnj HSF.out.only)
                        have HNB := Lib.hid (due_num wr x)
                        go_wp2_with (first
                          | (go_at_call 14; (with_reducible refine (f2.out _).mono ?_); rintro e w6 ⟨rfl, rfl⟩)
                          | (go_at_call 14; (with_reducible refine (f1.out _).mono ?_); rintro e w6 ⟨rfl, rfl⟩)
                          | (at_builtin; go_must (refine append_nums rfl _ _ rfl w4.heap.size _ (.slice (some ⟨wr.heap.size + 1, 0, none⟩) 1 1) _ [x.1] rfl rfl (HSF.out.want.later (((Only.refl _ wr).alloc _).alloc _)) ?_ (fun l c e => by cases e) HLE.out.1 HLE.out.2 ?_); (go_must (exact HNB.out)); go_must (intro v5 w5 hr5 hO5); have HP5 := Lib.hid (sift_due HSF.out HKT.out HXE.out hle.out (((Only.refl _ wr).alloc _).alloc _) hr5 hO5); clear hr5 hO5))
                        go_roundw
                        case rel => exact ⟨k + 1, by go_num, by omega, HP5.out⟩
                        case measure => simp [intOf]; omega
                      · have hle := Lib.hid (show ¬ x.2 ≤ now + d by omega)
                        have HLE := Lib.hid (left_room (k := k) (t := now + d) (x := x) HT4.out hnj HSF.out.only)
                        have HNB := Lib.hid (left_num wr x)
                        go_wp2_with (first
                          | (go_at_call 14; (with_reducible refine (f2.out _).mono ?_); rintro e w6 ⟨rfl, rfl⟩)
                          | (go_at_call 14; (with_reducible refine (f1.out _).mono ?_); rintro e w6 ⟨rfl, rfl⟩)
                          | (at_builtin; go_must (refine Tm.append_row rfl _ _ rfl w4.heap.size (wr.heap.size + 1) 1 _ _ x rfl rfl (HSF.out.left.later (((Only.refl _ wr).alloc _).alloc _)) ?_ HLE.out.1 HLE.out.2 ?_); (go_must (exact HNB.out)); go_must (intro v5 w5 hr5 hO5 hV5); go_must (have HP5 := Lib.hid (sift_left HSF.out HKT.out HXE.out (by have := hle.out; omega) (((Only.refl _ wr).alloc _).alloc _) hr5 hO5)); clear hr5 hO5 hV5))
                        go_roundw
                        case rel => exact ⟨k + 1, by go_num, by omega, HP5.out⟩
                        case measure => simp [intOf]; omega
                    · have ek : k = n := by omega
                      subst ek
                      have HWN := Lib.hid (sift_done HSF.out HT4.out HPT.out HST.out)
                      have HR5 := Lib.hid (HR3.out.later (HO4.out.trans HSF.out.only (fun _ _ e => e)))
                      have hl5 : (idsOf (goers S (now + d))).length ≤ 9223372036854775807 := by simp only [idsOf, List.length_map, HN3.out]; have := goers_le S (now + d); rw [HN.out, HN3.out] at this; omega
                      go_wp2_with (go_at_call 19; (with_reducible refine (eq_same _ _ _ _ HR5.out.nums HWN.out.1.nums hl5).mono ?_); rintro e w7 ⟨rfl, hO7⟩; have HP7 := Lib.hid (play_stepped HP3.out HO4.out HSF.out HT4.out HPT.out HST.out hO7); clear hO7)
                      go_meet
                      exact ⟨now + d, _, by rw [HKM.out], Nat.le_trans (left_le HT4.out) (by have := HN.out; omega), by omega, ahead_left HA.out HPT.out hd0, HP7.out.1, HB3.out.trans HP7.out.2⟩
              · clear HR
                go_wp2_with fail
                go_meet
                exact ⟨now, S, rfl, by omega, by omega, HA.out, HP2.out, HB2.out⟩
      case rest =>
        clear HR HP2 HB2 HD hbx f1 HKM hd2 HA hnow hS hpast
        obtain ⟨now2, S2, rfl, hS2, hnow2, hA2, hp2, hb2⟩ := hcut
        have HP := Lib.hid hp2
        have HB := Lib.hid hb2
        have HA := Lib.hid hA2
        clear hp2 hb2 hA2
        as_aux_lemma =>
          by_cases he : S2 = []
          · subst he
            have HC := Lib.hid (play_quiet HP.out (fun M hM => wnext_none hM))
            go_wp2_with (first
              | (go_at_call 20; (with_reducible refine HC.out.mono ?_); rintro e w3 ⟨rfl, hp, hb⟩; have HP3 := Lib.hid hp; have HB3 := Lib.hid (HB.out.trans hb); clear hp hb)
              | (go_at_call 18; go_must (have hc := Tm.due_any now2 _ _ [] w3 HP3.out.row HA.out (by simp)); (with_reducible refine hc.mono ?_); clear hc; rintro e w4 ⟨v4, T, rfl, hPT, hST, hr, hO⟩; obtain ⟨a4, c4, rfl, -, hc4, -⟩ := hr.shape hPT.length_eq; have HO4 := Lib.hid hO; clear hPT hST hr hO))
            go_roundw
            case rel => exact ⟨j + 1, now2, [], rfl, by go_num, by omega, by simp, by omega, HA.out, (HP3.out.later HO4.out).forget, HB3.out.trans (HO4.out.below HP3.out.low (fun _ e => e.elim))⟩
            case measure => simp [intOf]; omega
          · obtain ⟨m, hm⟩ := least_any he
            have HM := Lib.hid hm
            obtain ⟨n, hn⟩ : ∃ n, S2.length = n := ⟨_, rfl⟩
            have HN := Lib.hid hn
            have hn0 : 0 < n := by rw [← hn]; exact List.length_pos_iff.2 he
            have g3 : (0 : Int) < n := by omega
            have hnj : n ≤ 6000000000000 := by omega
            have HC := Lib.hid (play_read HP.out (fun M hM => wnext hM hm))
            clear hm hn he
            go_wp2_with (first
              | (go_at_call 20; (with_reducible refine HC.out.mono ?_); rintro e w3 ⟨rfl, hp, hb⟩; have HP3 := Lib.hid hp; have HB3 := Lib.hid (HB.out.trans hb); clear hp hb)
              | (go_at_call 18; go_must (have hc := Tm.due_any now2 _ _ S2 w3 HP3.out.row HA.out (by rw [HN.out]; exact hnj)); (with_reducible refine hc.mono ?_); clear hc; rintro e w4 ⟨v4, T, rfl, hPT, hST, hr, hO⟩; obtain ⟨g4, c4, rfl, x0⟩ := first_due hPT hST HM.out HN.out hr hn0; have HO4 := Lib.hid hO; clear hPT hST hr hO))
            go_roundw
            case rel => exact ⟨j + 1, now2, S2, rfl, by go_num, by omega, by omega, by omega, HA.out, (HP3.out.later HO4.out).forget, HB3.out.trans (HO4.out.below HP3.out.low (fun _ e => e.elim))⟩
            case measure => simp [intOf]; omega
    · have e : j = recs.length := by omega
      subst e
      go_wp2_with fail
      go_ret
      exact ⟨rfl, HB.out⟩
end Go.Proofs.Ytiodfpoaakcejaa.Wh
