/- The walk of FairPlays. -/
import Derived.Test.YtkjcaainbomemaaFPlay4
import Derived.Deep.CutBlock
import Derived.BigRegion
namespace Go.Proofs.Ytkjcaainbomemaa.Fr
open Go.ChangeShapes Go.WideShapes Go.ChangeAt Go.RowKit Go.Maps
open Go.Proofs.Ytkjcaainbomemaa.Vt Go.Proofs.Ytkjcaainbomemaa.Pt
set_option linter.unusedVariables false

/-- The cells of a class of the reference that is new. -/
abbrev refZero : Array Value := #[.slice none 0 0, .bool false, .int .i64 0, .int .i64 0, .bool false, .int .i64 0, .int .i64 0, .bool false, .int .i64 0, .int .i64 0, .bool false, .int .i64 0, .int .i64 0, .bool false, .int .i64 0, .int .i64 0, .bool false, .int .i64 0, .int .i64 0, .bool false, .int .i64 0, .int .i64 0, .bool false, .int .i64 0, .int .i64 0, .bool false, .int .i64 0, .int .i64 0]

theorem rcells_zero : RCells refZero (.slice none 0 0) noG (fun _ => 0) :=
  ⟨rfl, rfl, lt9 (by repeat' constructor), lt9 (by repeat' constructor), lt9 (by repeat' constructor)⟩

theorem both_zero {w w1 : World} {p : Nat} (hF : FairAt w1 p noT noG) (hp : w.heap.size ≤ p) (hO : Only (fun _ => False) w w1) :
    Both w.heap.size (w1.alloc (.cells refZero 33)) p w1.heap.size [] noT noG (fun _ => 0) (fun _ => 0) (1048576 * ((0 : Nat) : Int)) := by
  refine ⟨hF.later ((Only.refl _ w1).alloc _), ⟨⟨_, _, heap_alloc_new w1 _, rcells_zero, row_nil _ _, (fun g hg => by cases hg)⟩, (fun x hx => by cases hx), ⟨hO.size, (fun x hx => by cases hx)⟩, (fun x hx => by cases hx), List.nodup_nil, List.nodup_nil⟩, ⟨(fun x hx => by cases hx), (fun t _ hc => absurd rfl hc), (fun x hx => by cases hx), (fun g _ hc => absurd rfl hc), rfl, (fun x hx => by cases hx)⟩, ?_, hp⟩
  exact ⟨fun t _ => by simp [noT], fun t _ => by simp [noT], fun t _ => by simp [noT], fun t _ => by simp [noG], fun t _ => by simp [noG], rfl, fun t _ h => by simp [noT] at h⟩

theorem add_first {w : World} {p : Nat} (h : FairAt w p noT noG) : Calls Try.prog 11 #[.pointer (some ⟨p, 0, none⟩), .int .i64 1, .int .i64 1, .int .i64 0] w (FKeep w p (.int .i64 0) (addT noT noG 1 (costOf 1) 0) (addG noT noG 1 (costOf 1) 0)) :=
  add_yes h 1 1 0 (by decide) (by omega) (by omega) (by omega) rfl (Or.inl rfl)

/-- What is known ere each play. -/
def Ere (B : Nat) (w : World) (p q n : Nat) (s34 : Value) (wr : World) : Prop :=
  ∃ (j : Nat) (L : List (Nat × Nat)) (T : Tks) (G : Grs) (W GW : Nat → Int), j ≤ n ∧ s34 = .int .i64 j ∧ Both B wr p q L T G W GW (1048576 * (j : Int)) ∧ Below B w wr

/-- What is known behind the switch. -/
def Mixed (B : Nat) (w : World) (p q j : Nat) (s12 s13 : Value) (wx : World) : Prop :=
  ∃ (e : Int) (L : List (Nat × Nat)) (T : Tks) (G : Grs) (W GW : Nat → Int), s12 = .int .i64 e ∧ s13 = .int .i64 e ∧ Both B wx p q L T G W GW (1048576 * ((j : Int) + 1)) ∧ Below B w wx

theorem Both.more {B : Nat} {w : World} {p q : Nat} {L : List (Nat × Nat)} {T : Tks} {G : Grs} {W GW : Nat → Int} {j : Nat} (h : Both B w p q L T G W GW (1048576 * (j : Int))) : Both B w p q L T G W GW (1048576 * ((j : Int) + 1)) :=
  ⟨h.fair, h.ref, h.same, h.fit.mono (by omega), h.new⟩

set_option maxRecDepth 100000 in
set_option maxHeartbeats 8000000 in
theorem plays_walk (a : Option Addr) (cap : Nat) (recs : List (List Int)) (w : World) (h : ArgRows w a recs.length cap recs) (hn : recs.length * 24 ≤ 140737488351232) :
    Calls Try.prog 3 #[.slice a recs.length cap] w fun e w' => e = .returned (.bool true) ∧ Below w.heap.size w w' := by
  obtain ⟨-, hcap, hmx, -, hrow⟩ := h
  have HROW := Lib.hid hrow
  have hcm : cap ≤ 9223372036854775807 := by unfold maxLen at hmx; omega
  clear hrow hmx
  go_enter Try.func3, Try.ntmps3
  go_upto_region 4 with (first
    | (go_at_call 10; (with_reducible refine (new_any _).mono ?_); rintro e w1 ⟨p0, rfl, hp, hF, hO⟩; have HF0 := Lib.hid hF; have HP0 := Lib.hid hp; have HO0 := Lib.hid hO; have k1 := Lib.hid (add_bad hF 17 1 0 (Or.inr (Or.inr (Or.inl (by omega))))); have k2 := Lib.hid (add_first hF); clear hF hp hO)
    | (go_at_call 11; (with_reducible refine k1.out.mono ?_); rintro e w' ⟨rfl, rfl⟩)
    | (go_at_call 11; (with_reducible refine k2.out.mono ?_); rintro e w2 ⟨rfl, hF, hO⟩; have HO2 := Lib.hid (only_new HO0.out hO HP0.out); clear hF hO))
  clear k1 k2 HF0 HP0 HO0
  go_wp2_with (first
    | (go_at_call 10; (with_reducible refine (new_any _).mono ?_); rintro e w3 ⟨p, rfl, hp, hF, hO⟩; have HB0 := Lib.hid (both_zero hF (Nat.le_trans HO2.out.size hp) (only_trans HO2.out hO)); have HBL := Lib.hid (((only_trans HO2.out hO).alloc (.cells refZero 33)).below (Nat.le_refl w.heap.size) (fun _ e => e.elim)); clear hF hp hO HO2))
  obtain ⟨q, hq⟩ : ∃ q, w3.heap.size = q := ⟨_, rfl⟩
  rw [hq] at HB0
  rw [hq]
  clear hq
  go_loopw [34] (fun i wr => Ere w.heap.size w p q recs.length i wr) (fun i _ => recs.length - (intOf i).toNat)
  case atStart => exact ⟨0, _, _, _, _, _, by omega, rfl, HB0.out, HBL.out⟩
  case round =>
    clear HB0 HBL
    obtain ⟨j, L, T, G, W, GW, hj, rfl, hB, hbl⟩ := hrel
    have HB := Lib.hid hB
    have HBL := Lib.hid hbl
    clear hB hbl
    by_cases hjn : j < recs.length
    · obtain ⟨b, off, v, rfl, hbl, hc, hv⟩ := HROW.out j hjn
      have hcx := (HBL.out.cell (p := ⟨b, off + j, none⟩) hbl).trans hc
      have HV := Lib.hid (hv.later HBL.out)
      have K0 := Lib.hid (fun (w' : World) (hb : Below w.heap.size w w') => at_0 (hv.later hb))
      have g1 : (j : Int) < recs.length := by omega
      have g2 : (0 : Int) ≤ j := by omega
      have hid1 := hv.wf 1
      have hid2 := hv.wf 2
      have hid3 := hv.wf 3
      generalize recs.getD j [] = xs at *
      clear hc hv
      go_upto_region 10 with (first
        | (go_at_call 12; (with_reducible refine (at_1 HV.out).mono ?_); rintro e w' ⟨rfl, rfl⟩)
        | (go_at_call 12; (with_reducible refine (at_2 HV.out).mono ?_); rintro e w' ⟨rfl, rfl⟩)
        | (go_at_call 12; (with_reducible refine (at_3 HV.out).mono ?_); rintro e w' ⟨rfl, rfl⟩))
      have hk := find_known HB.out (nth xs 1)
      have HK0 := Lib.hid hk
      have HV1 := Lib.hid (HV.out.later ((Below.refl wr.heap.size wr).alloc (Nat.le_refl _) (.cells #[.pointer none] 36)))
      clear hk
      go_upto_region 12 with (go_at_call 13; (with_reducible refine HK0.out.mono ?_); rintro e w' ⟨ox, rfl, hkn, rfl⟩; have HKN := Lib.hid hkn; clear hkn)
      have hOa : Only (fun _ => False) wr (wr.alloc (.cells #[.pointer ox] 36)) := (Only.refl _ wr).alloc _
      have HB1 := Lib.hid (HB.out.later hOa)
      have HBL1 := Lib.hid (HBL.out.trans ((Below.refl w.heap.size wr).alloc HBL.out.size (.cells #[.pointer ox] 36)))
      have hX : ∃ V, Boxed w.heap.size wr.heap.size p q (wr.alloc (.cells #[.pointer ox] 36)) L V ox := by
        obtain ⟨V, h1, h2, h3⟩ := HB.out.ref.slice
        refine ⟨V, heap_alloc_new wr _, ?_, h2.later hOa, fun g hg => (h2.block hg).2, HB.out.fair.lt, HB.out.ref.lt, fun x hx => HB.out.ref.tlt hx, HBL.out.size⟩
        rw [← h1]; unfold World.cell?; rw [hOa.block q HB.out.ref.lt (fun e => e)]
      obtain ⟨V, hX⟩ := hX
      have HX := Lib.hid hX
      have HLen := Lib.hid (HB.out.ref.len16 HB.out.same)
      clear hX
      clear HV HV1 HK0 hOa hcx HB HBL HROW
      go_upto_block 2 with (go_at_call 12; (with_reducible refine (K0.out _ HBL1.out).mono ?_); rintro e w' ⟨rfl, rfl⟩)
      generalize nth xs 0 = op at *
      generalize nth xs 1 = t at *
      generalize nth xs 2 = a at *
      generalize nth xs 3 = g at *
      generalize wr.alloc (.cells #[.pointer ox] 36) = w1 at *
      generalize wr.heap.size = Bx at *
      go_cut [12, 13] (fun s12 s13 wx => Mixed w.heap.size w p q j s12 s13 wx)
      case first =>
        as_aux_lemma =>
          by_cases o1 : op = 1
          · subst o1
            as_aux_lemma =>
              have kw := Lib.hid (fun w => ref_weight a w)
              by_cases hbad : isW a = false ∨ t < 1 ∨ 8 < t
              · have kg := Lib.hid (grp_bad HB1.out.fair t a hbad)
                by_cases c1 : t < 1
                · clear hbad
                  go_wp2_with (first
                    | (go_at_call 14; (with_reducible refine kg.out.mono ?_); rintro e w' ⟨rfl, rfl⟩)
                    | (go_at_call 15; (with_reducible refine (kw.out _).mono ?_); rintro e w' ⟨rfl, rfl⟩))
                  go_meet
                  exact ⟨1, L, T, G, W, GW, rfl, rfl, HB1.out.more, HBL1.out⟩
                · by_cases c2 : 8 < t
                  · clear hbad
                    go_wp2_with (first
                      | (go_at_call 14; (with_reducible refine kg.out.mono ?_); rintro e w' ⟨rfl, rfl⟩)
                      | (go_at_call 15; (with_reducible refine (kw.out _).mono ?_); rintro e w' ⟨rfl, rfl⟩))
                    go_meet
                    exact ⟨1, L, T, G, W, GW, rfl, rfl, HB1.out.more, HBL1.out⟩
                  · have ha : isW a = false := by rcases hbad with h | h | h; exact h; exact absurd h c1; exact absurd h c2
                    rw [ha] at kw
                    clear hbad ha
                    go_wp2_with (first
                      | (go_at_call 14; (with_reducible refine kg.out.mono ?_); rintro e w' ⟨rfl, rfl⟩)
                      | (go_at_call 15; (with_reducible refine (kw.out _).mono ?_); rintro e w' ⟨rfl, rfl⟩))
                    go_meet
                    exact ⟨1, L, T, G, W, GW, rfl, rfl, HB1.out.more, HBL1.out⟩
              · have ha : isW a = true := by cases h : isW a with | true => rfl | false => exact absurd (Or.inl h) hbad
                obtain ⟨k, rfl⟩ : ∃ k : Nat, t = k := ⟨t.toNat, by omega⟩
                have c1 : ¬ (k : Int) < 1 := by omega
                have c2 : ¬ 8 < (k : Int) := by omega
                have c3 : (k : Int) < 9 := by omega
                have kg := Lib.hid (grp_ok HB1.out.fair k a (by omega) (by omega) ha)
                rw [ha] at kw
                have HAW := Lib.hid ha
                clear hbad ha
                go_upto_region 17 with (first
                  | (go_at_call 14; (with_reducible refine kg.out.mono ?_); rintro e w3 ⟨rfl, hF3, hO3⟩; have HD3 := Lib.hid (HB1.out.duet.ahead hF3 hO3); have HBL3 := Lib.hid (HBL1.out.trans (below_p HB1.out.new hO3 HBL1.out.size)); clear hF3 hO3)
                  | (go_at_call 15; (with_reducible refine (kw.out _).mono ?_); rintro e w' ⟨rfl, rfl⟩))
                have d1 := HD3.out.ref.is k (by omega)
                have d2 := HD3.out.ref.gw k (by omega)
                have f1 := HD3.out.ref.frozen
                go_region
                go_wp2_with fail
                go_meet
                obtain ⟨x1, x2⟩ := group_end HD3.out HB1.out (show 1048576 * (j : Int) ≤ 1048576 * ((j : Int) + 1) by omega) (show 1 ≤ k by omega) (show k ≤ 8 by omega) HAW.out HBL3.out
                exact ⟨0, L, T, _, W, _, rfl, rfl, x1, x2⟩
          by_cases o2 : op = 2
          · subst o2
            as_aux_lemma =>
              have kn := Lib.hid (fun w => ref_task t w)
              have kw := Lib.hid (fun w => ref_weight a w)
              cases hN : isN t
              · rw [hN] at kn
                have kb := Lib.hid (add_bad HB1.out.fair t a g (by unfold isN at hN; have := of_decide_eq_false hN; omega))
                clear hN
                go_wp2_with (first
                  | (go_at_call 11; (with_reducible refine kb.out.mono ?_); rintro e w' ⟨rfl, rfl⟩)
                  | (go_at_call 16; (with_reducible refine (kn.out _).mono ?_); rintro e w' ⟨rfl, rfl⟩)
                  | (go_at_call 15; (with_reducible refine (kw.out _).mono ?_); rintro e w' ⟨rfl, rfl⟩))
                go_meet
                exact ⟨1, L, T, G, W, GW, rfl, rfl, HB1.out.more, HBL1.out⟩
              · rw [hN] at kn
                have ht : 1 ≤ t ∧ t ≤ 16 := of_decide_eq_true hN
                clear hN
                cases hW : isW a
                · rw [hW] at kw
                  have kb := Lib.hid (add_bad HB1.out.fair t a g (Or.inl hW))
                  clear hW
                  go_wp2_with (first
                    | (go_at_call 11; (with_reducible refine kb.out.mono ?_); rintro e w' ⟨rfl, rfl⟩)
                    | (go_at_call 16; (with_reducible refine (kn.out _).mono ?_); rintro e w' ⟨rfl, rfl⟩)
                    | (go_at_call 15; (with_reducible refine (kw.out _).mono ?_); rintro e w' ⟨rfl, rfl⟩))
                  go_meet
                  exact ⟨1, L, T, G, W, GW, rfl, rfl, HB1.out.more, HBL1.out⟩
                · rw [hW] at kw
                  have HAW := Lib.hid hW
                  clear hW
                  by_cases g0 : g < 0
                  · have kb := Lib.hid (add_bad HB1.out.fair t a g (by omega))
                    go_wp2_with (first
                      | (go_at_call 11; (with_reducible refine kb.out.mono ?_); rintro e w' ⟨rfl, rfl⟩)
                      | (go_at_call 16; (with_reducible refine (kn.out _).mono ?_); rintro e w' ⟨rfl, rfl⟩)
                      | (go_at_call 15; (with_reducible refine (kw.out _).mono ?_); rintro e w' ⟨rfl, rfl⟩))
                    go_meet
                    exact ⟨1, L, T, G, W, GW, rfl, rfl, HB1.out.more, HBL1.out⟩
                  · by_cases g8 : 8 < g
                    · have kb := Lib.hid (add_bad HB1.out.fair t a g (by omega))
                      go_wp2_with (first
                        | (go_at_call 11; (with_reducible refine kb.out.mono ?_); rintro e w' ⟨rfl, rfl⟩)
                        | (go_at_call 16; (with_reducible refine (kn.out _).mono ?_); rintro e w' ⟨rfl, rfl⟩)
                        | (go_at_call 15; (with_reducible refine (kw.out _).mono ?_); rintro e w' ⟨rfl, rfl⟩))
                      go_meet
                      exact ⟨1, L, T, G, W, GW, rfl, rfl, HB1.out.more, HBL1.out⟩
                    · obtain ⟨n, rfl⟩ : ∃ n : Nat, t = n := ⟨t.toNat, by omega⟩
                      rcases HKN.out with ⟨b0, n', hx, hm, ht'⟩ | ⟨hx, hnt⟩
                      · obtain rfl : n' = n := by omega
                        subst hx
                        have hcc := HB1.out.same.cost hm
                        have dX := HX.out.cell
                        clear HKN
                        have kb := Lib.hid (add_there HB1.out.fair n' a g HAW.out (by omega) (by omega) (by omega) (by omega) hcc)
                        clear hcc hm ht'
                        go_wp2_with (first
                          | (go_at_call 11; (with_reducible refine kb.out.mono ?_); rintro e w' ⟨rfl, rfl⟩)
                          | (go_at_call 16; (with_reducible refine (kn.out _).mono ?_); rintro e w' ⟨rfl, rfl⟩)
                          | (go_at_call 15; (with_reducible refine (kw.out _).mono ?_); rintro e w' ⟨rfl, rfl⟩))
                        go_meet
                        exact ⟨5, L, T, G, W, GW, rfl, rfl, HB1.out.more, HBL1.out⟩
                      · subst hx
                        have hno : (T n).c = 0 := by
                          by_cases h : (T n).c = 0
                          · exact h
                          · exact absurd ⟨by omega, by omega, by simpa using h⟩ hnt
                        have HNO := Lib.hid hno
                        have dX := HX.out.cell
                        clear HKN hnt hno
                        by_cases m0 : g = 0
                        · subst m0
                          have kb := Lib.hid (add_yes0 HB1.out.fair n a HAW.out (by omega) (by omega) HNO.out)
                          go_upto_region 20 with (first
                            | (go_at_call 11; (with_reducible refine kb.out.mono ?_); rintro e w3 ⟨rfl, hF3, hO3⟩; have HD3 := Lib.hid (HB1.out.duet.ahead hF3 hO3); have HBL3 := Lib.hid (HBL1.out.trans (below_p HB1.out.new hO3 HBL1.out.size)); have HX3 := Lib.hid (HX.out.ahead HB1.out.duet hO3); have dX := HX3.out.cell; clear hF3 hO3)
                            | (go_at_call 16; (with_reducible refine (kn.out _).mono ?_); rintro e w' ⟨rfl, rfl⟩)
                            | (go_at_call 15; (with_reducible refine (kw.out _).mono ?_); rintro e w' ⟨rfl, rfl⟩))
                          have fx := fun o => (HX3.out.later ((Only.refl (fun _ => False) w3).alloc o)).frozen
                          have bx := HX3.out.frozen
                          have hlt := block_there HX3.out.box
                          go_upto_region 21 with fail
                          obtain ⟨hb4, hX4, hD4, hO4, hs4⟩ := HX3.out.new HD3.out n a 0 rfl
                          rw [World.setCell_alloc_past (hn := hlt)] at hb4 hX4 hD4 hO4
                          have HB4 := Lib.hid hb4
                          have HX4 := Lib.hid hX4
                          have HD4 := Lib.hid hD4
                          have HBL4 := Lib.hid (HBL3.out.trans (hO4.below HD3.out.ref.low (fun x e => by rw [e]; exact HX3.out.low)))
                          clear hb4 hX4 hD4 hO4 hs4 fx bx dX HD3 HBL3 HX3 kb kn kw HX
                          generalize w3.heap.size = bT at *
                          generalize World.alloc (World.setCell w3 ⟨Bx, 0, none⟩ _) _ = w4 at *
                          have dX := HX4.out.cell
                          have dV := HX4.out.vq
                          have RW := Lib.hid HX4.out.row
                          have HLO := HD4.out.ref.low
                          have hqs := HD4.out.ref.lt
                          have hxs := block_there HX4.out.box
                          have HSM := Lib.hid (HB1.out.same.add0 (b := bT) (by omega) (by omega) HAW.out HNO.out)
                          have HFT := Lib.hid (HB1.out.fit.add (t := n) (by omega) HAW.out (m := 0) (by omega) (by omega))
                          go_region_law (refine step_ptr rfl (.tmp 95) (.tmp 97) rfl w.heap.size w4.heap.size V (L.map (·.1)) bT (by first | exact RW.out.later (((Only.refl (fun _ => False) w4).alloc _).drew) | exact RW.out.later (((Only.refl (fun _ => False) w4).drew).alloc _)) (by simp [Act.eval]) (by simp [Act.eval]) (by first | exact heap_alloc_new w4 _ | exact heap_alloc_new w4.drew _) (by have := HLen.out; simp; omega) (by simp; omega) ?_; intro g' c' w5 hr hO hat; rw [List.length_map] at hr; obtain ⟨d5, f5, x1, x2, x3⟩ := add_row HD4.out HX4.out HB4.out hlt HB1.out.same HNO.out (costOf a) hr (((Only.refl _ _).drew).trans hO (fun _ _ e => e)) hat HBL4.out; have HD6 := Lib.hid x1; have dX6 := x2; have HBL6 := Lib.hid x3; clear hr hO hat x1 x2 x3)
                          all_goals (
                            generalize World.setCell w5 ⟨q, 0, none⟩ _ = w6 at *
                            clear dX dV d5 f5
                            have kw := Lib.hid (wokeup_any HD6.out.ref HSM.out HFT.out (by rw [upd_other _ _ (by omega)]; exact HB1.out.r0) add_mem)
                            go_wp2_with (go_at_call 17; (with_reducible refine kw.out.mono ?_); intro e w7 hw; obtain ⟨rfl, x1, x2⟩ := woke_end HD6.out HSM.out HFT.out (show 1048576 * (j : Int) ≤ 1048576 * ((j : Int) + 1) by omega) add_mem (by rw [upd_same]; have := costOf_lo HAW.out; simp only; omega) hw HBL6.out; have HB7 := Lib.hid x1; have HBL7 := Lib.hid x2; clear hw x1 x2)
                            go_meet
                            exact ⟨0, _, _, _, _, GW, rfl, rfl, HB7.out, HBL7.out⟩)
                        · obtain ⟨m, rfl⟩ : ∃ m : Nat, g = m := ⟨g.toNat, by omega⟩
                          have z2 : (0 : Int) < m := by omega
                          have z3 : 0 < m := by omega
                          have z4 : (m : Int) < 9 := by omega
                          have z5 : (0 : Int) ≤ m := by omega
                          have z6 : m < 9 := by omega
                          by_cases hgm : (G m).c = 0
                          · have di := HB1.out.ref.is m (by omega)
                            rw [decide_eq_false (p := (G m).c ≠ 0) (fun h => h hgm)] at di
                            have kb := Lib.hid (add_none HB1.out.fair n a m HAW.out (by omega) (by omega) (by omega) (by omega) HNO.out hgm)
                            clear hgm
                            go_wp2_with (first
                              | (go_at_call 11; (with_reducible refine kb.out.mono ?_); rintro e w' ⟨rfl, rfl⟩)
                              | (go_at_call 16; (with_reducible refine (kn.out _).mono ?_); rintro e w' ⟨rfl, rfl⟩)
                              | (go_at_call 15; (with_reducible refine (kw.out _).mono ?_); rintro e w' ⟨rfl, rfl⟩))
                            go_meet
                            exact ⟨4, L, T, G, W, GW, rfl, rfl, HB1.out.more, HBL1.out⟩
                          · have HGM := Lib.hid hgm
                            clear hgm
                            have kb := Lib.hid (add_yes HB1.out.fair n a m HAW.out (by omega) (by omega) (by omega) HNO.out (Or.inr HGM.out))
                            go_upto_region 20 with (first
                              | (go_at_call 11; (with_reducible refine kb.out.mono ?_); rintro e w3 ⟨rfl, hF3, hO3⟩; have HD3 := Lib.hid (HB1.out.duet.ahead hF3 hO3); have HBL3 := Lib.hid (HBL1.out.trans (below_p HB1.out.new hO3 HBL1.out.size)); have HX3 := Lib.hid (HX.out.ahead HB1.out.duet hO3); have dX := HX3.out.cell; have di := HD3.out.ref.is m z6; rw [decide_eq_true (p := (G m).c ≠ 0) HGM.out] at di; clear hF3 hO3)
                              | (go_at_call 16; (with_reducible refine (kn.out _).mono ?_); rintro e w' ⟨rfl, rfl⟩)
                              | (go_at_call 15; (with_reducible refine (kw.out _).mono ?_); rintro e w' ⟨rfl, rfl⟩))
                            have fx := fun o => (HX3.out.later ((Only.refl (fun _ => False) w3).alloc o)).frozen
                            have bx := HX3.out.frozen
                            have hlt := block_there HX3.out.box
                            go_upto_region 21 with fail
                            obtain ⟨hb4, hX4, hD4, hO4, hs4⟩ := HX3.out.new HD3.out n a m rfl
                            rw [World.setCell_alloc_past (hn := hlt)] at hb4 hX4 hD4 hO4
                            have HB4 := Lib.hid hb4
                            have HX4 := Lib.hid hX4
                            have HD4 := Lib.hid hD4
                            have HBL4 := Lib.hid (HBL3.out.trans (hO4.below HD3.out.ref.low (fun x e => by rw [e]; exact HX3.out.low)))
                            clear hb4 hX4 hD4 hO4 hs4 fx bx dX HD3 HBL3 HX3 kb kn kw HX
                            generalize w3.heap.size = bT at *
                            generalize World.alloc (World.setCell w3 ⟨Bx, 0, none⟩ _) _ = w4 at *
                            have dX := HX4.out.cell
                            have dV := HX4.out.vq
                            have RW := Lib.hid HX4.out.row
                            have HLO := HD4.out.ref.low
                            have hqs := HD4.out.ref.lt
                            have hxs := block_there HX4.out.box
                            have HSM := Lib.hid (HB1.out.same.add (b := bT) (by omega) (by omega) HAW.out (Or.inr HGM.out) HNO.out)
                            have HFT := Lib.hid (HB1.out.fit.add (t := n) (by omega) HAW.out (m := m) (by omega) (by omega))
                            go_region_law (refine step_ptr rfl (.tmp 95) (.tmp 97) rfl w.heap.size w4.heap.size V (L.map (·.1)) bT (by first | exact RW.out.later (((Only.refl (fun _ => False) w4).alloc _).drew) | exact RW.out.later (((Only.refl (fun _ => False) w4).drew).alloc _)) (by simp [Act.eval]) (by simp [Act.eval]) (by first | exact heap_alloc_new w4 _ | exact heap_alloc_new w4.drew _) (by have := HLen.out; simp; omega) (by simp; omega) ?_; intro g' c' w5 hr hO hat; rw [List.length_map] at hr; obtain ⟨d5, f5, x1, x2, x3⟩ := add_row HD4.out HX4.out HB4.out hlt HB1.out.same HNO.out (costOf a) hr (((Only.refl _ _).drew).trans hO (fun _ _ e => e)) hat HBL4.out; have HD6 := Lib.hid x1; have dX6 := x2; have HBL6 := Lib.hid x3; clear hr hO hat x1 x2 x3)
                            all_goals (
                              generalize World.setCell w5 ⟨q, 0, none⟩ _ = w6 at *
                              clear dX dV d5 f5
                              have kw := Lib.hid (wokeup_any HD6.out.ref HSM.out HFT.out (by rw [upd_other _ _ (by omega)]; exact HB1.out.r0) add_mem)
                              go_wp2_with (go_at_call 17; (with_reducible refine kw.out.mono ?_); intro e w7 hw; obtain ⟨rfl, x1, x2⟩ := woke_end HD6.out HSM.out HFT.out (show 1048576 * (j : Int) ≤ 1048576 * ((j : Int) + 1) by omega) add_mem (by rw [upd_same]; have := costOf_lo HAW.out; simp only; omega) hw HBL6.out; have HB7 := Lib.hid x1; have HBL7 := Lib.hid x2; clear hw x1 x2)
                              go_meet
                              exact ⟨0, _, _, _, _, GW, rfl, rfl, HB7.out, HBL7.out⟩)
          by_cases o3 : op = 3
          · subst o3
            as_aux_lemma =>
              have kd := Lib.hid (fun (w2 : World) => delete_nil #[.pointer (some ⟨Bx, 0, none⟩)] w2)
              rcases HKN.out with ⟨b0, n, hx, hm, ht⟩ | ⟨hx, hnt⟩
              · subst hx
                subst ht
                have HM := Lib.hid hm
                have hn := HB1.out.same.num _ hm
                have hcc := HB1.out.same.cost hm
                simp only at hn
                clear HKN kd
                have kb := Lib.hid (leave_yes HB1.out.fair n hn.1 hn.2 hcc)
                obtain ⟨gV, cV, hV⟩ : ∃ g c, V = .slice (some ⟨g, 0, none⟩) L.length c := by
                  rcases HX.out.full with ⟨-, h⟩ | h
                  · rw [h] at hm; exact (List.not_mem_nil hm).elim
                  · exact h
                subst hV
                clear hm hn hcc
                go_upto_region 33 with (first
                  | (go_at_call 18; (with_reducible refine kb.out.mono ?_); rintro e w3 ⟨rfl, hF3, hO3⟩; have HD3 := Lib.hid (HB1.out.duet.ahead hF3 hO3); have HBL3 := Lib.hid (HBL1.out.trans (below_p HB1.out.new hO3 HBL1.out.size)); have HX3 := Lib.hid (HX.out.ahead HB1.out.duet hO3); have dX := HX3.out.cell; clear hF3 hO3))
                have dV := HX3.out.vq
                have kd := Lib.hid (leave_calls HD3.out.ref HX3.out HLen.out (some b0) rfl (fun x hx => ⟨_, HM.out, Option.some.inj hx⟩))
                go_wp2_with (first
                  | (go_at_call 19; (with_reducible refine kd.out.mono ?_); intro e w5 hs; obtain ⟨n5, c5, rfl, d5, f5, x1, x2⟩ := leave_end1 HD3.out HB1.out (show 1048576 * (j : Int) ≤ 1048576 * ((j : Int) + 1) by omega) HM.out HX3.out hs HBL3.out; have HB5 := Lib.hid x1; have HBL5 := Lib.hid x2; clear hs x1 x2))
                go_meet
                exact ⟨0, _, _, _, W, GW, rfl, rfl, HB5.out, HBL5.out⟩
              · subst hx
                have kb := Lib.hid (leave_no HB1.out.fair t hnt)
                have dX := HX.out.cell
                have dV := HX.out.vq
                clear hnt HKN
                rcases HX.out.full with ⟨hV, hL⟩ | ⟨gV, cV, hV⟩
                · subst hV
                  have HL := Lib.hid hL
                  clear hL
                  go_wp2_with (first
                    | (go_at_call 18; (with_reducible refine kb.out.mono ?_); rintro e w' ⟨rfl, rfl⟩)
                    | (go_at_call 19; (with_reducible refine (kd.out _).mono ?_); rintro e w5 ⟨rfl, hO⟩; have HB5 := Lib.hid (HB1.out.later hO); have HBL5 := Lib.hid (HBL1.out.trans (hO.below HBL1.out.size (fun _ e => e.elim))); have f5 := HB5.out.ref.frozen 0; have d5 := (HX.out.later hO).vq; clear hO))
                  go_meet
                  obtain ⟨x1, x2⟩ := nil_end HB5.out (show 1048576 * (j : Int) ≤ 1048576 * ((j : Int) + 1) by omega) HL.out HBL5.out
                  exact ⟨4, L, T, G, W, GW, rfl, rfl, x1, x2⟩
                · subst hV
                  clear kd
                  have kd := Lib.hid (leave_calls HB1.out.ref HX.out HLen.out none rfl (fun x hx => by cases hx))
                  go_wp2_with (first
                    | (go_at_call 18; (with_reducible refine kb.out.mono ?_); rintro e w' ⟨rfl, rfl⟩)
                    | (go_at_call 19; (with_reducible refine kd.out.mono ?_); intro e w5 hs; obtain ⟨n5, c5, rfl, d5, f5, x1, x2⟩ := leave_end0 HB1.out (show 1048576 * (j : Int) ≤ 1048576 * ((j : Int) + 1) by omega) HX.out hs HBL1.out; have HB5 := Lib.hid x1; have HBL5 := Lib.hid x2; clear hs x1 x2))
                  go_meet
                  exact ⟨4, _, _, _, W, GW, rfl, rfl, HB5.out, HBL5.out⟩
          by_cases o4 : op = 4
          · subst o4
            as_aux_lemma =>
              rcases HKN.out with ⟨b0, n, hx, hm, ht⟩ | ⟨hx, hnt⟩
              · subst hx
                subst ht
                have HM := Lib.hid hm
                have hn := HB1.out.same.num _ hm
                have hcc := HB1.out.same.cost hm
                simp only at hn
                clear hm HKN
                cases hr : (T n).r
                · have kb := Lib.hid (block_state HB1.out.fair n hn.1 hn.2 hcc hr)
                  have dX := HX.out.cell
                  have dr := HB1.out.ref.tr HM.out
                  rw [hr] at dr
                  have C1 := Lib.hid (fun m => (K0.out (w1.drewN m) (HBL1.out.trans ((only_drewN (Only.refl (fun _ => False) w1) m).below HBL1.out.size (fun _ e => e.elim)))).mono (fun e w' h => (⟨h.1, h.2.symm⟩ : e = .returned (.int .i64 4) ∧ w' = w1.drewN m)))
                  clear hr hcc hn
                  go_upto_region 42 with (first
                    | (go_at_call 12; (with_reducible refine (K0.out _ HBL1.out).mono ?_); rintro e w' ⟨rfl, rfl⟩)
                    | (go_at_call 21; (with_reducible refine kb.out.mono ?_); rintro e w' ⟨rfl, rfl⟩))
                  go_quiet ((go_at_call 12; (with_reducible exact Calls.quiet_of_same (C1.out _))))
                  have HB2 := Lib.hid (HB1.out.later (only_drewN (Only.refl (fun _ => False) w1) nq))
                  have HBL2 := Lib.hid (HBL1.out.trans ((only_drewN (Only.refl (fun _ => False) w1) nq).below HBL1.out.size (fun _ e => e.elim)))
                  clear C1 kb dX dr
                  generalize w1.drewN nq = w2 at *
                  go_wp2_with fail
                  go_meet
                  exact ⟨8, L, T, G, W, GW, rfl, rfl, HB2.out.more, HBL2.out⟩
                · have kb := Lib.hid (block_yes HB1.out.fair n hn.1 hn.2 hcc hr)
                  have HR := Lib.hid hr
                  have HCC := Lib.hid hcc
                  clear hr hcc hn
                  go_upto_region 42 with (first
                    | (go_at_call 12; (with_reducible refine (K0.out _ HBL1.out).mono ?_); rintro e w' ⟨rfl, rfl⟩)
                    | (go_at_call 21; (with_reducible refine kb.out.mono ?_); rintro e w3 ⟨rfl, hF3, hO3⟩; have HD3 := Lib.hid (HB1.out.duet.ahead hF3 hO3); have HBL3 := Lib.hid (HBL1.out.trans (below_p HB1.out.new hO3 HBL1.out.size)); have HX3 := Lib.hid (HX.out.ahead HB1.out.duet hO3); have dX := HX3.out.cell; clear hF3 hO3))
                  have dr := HD3.out.ref.tr HM.out
                  rw [HR.out] at dr
                  have C1 := Lib.hid (fun m => (K0.out (w3.drewN m) (HBL3.out.trans ((only_drewN (Only.refl (fun _ => False) w3) m).below HBL3.out.size (fun _ e => e.elim)))).mono (fun e w' h => (⟨h.1, h.2.symm⟩ : e = .returned (.int .i64 4) ∧ w' = w3.drewN m)))
                  go_quiet ((go_at_call 12; (with_reducible exact Calls.quiet_of_same (C1.out _))))
                  have HD4 := Lib.hid (HD3.out.later (only_drewN (Only.refl (fun _ => False) w3) nq))
                  have HX4 := Lib.hid (HX3.out.later (only_drewN (Only.refl (fun _ => False) w3) nq))
                  have HBL4 := Lib.hid (HBL3.out.trans ((only_drewN (Only.refl (fun _ => False) w3) nq).below HBL3.out.size (fun _ e => e.elim)))
                  clear C1 kb dX dr
                  generalize w3.drewN nq = w4 at *
                  have dX := HX4.out.cell
                  have dr := HD4.out.ref.tr HM.out
                  rw [HR.out] at dr
                  have f4 := HD4.out.ref.tfrozen HM.out 4
                  go_wp2_with (go_at_call 12; (with_reducible refine (K0.out _ HBL4.out).mono ?_); rintro e w' ⟨rfl, rfl⟩)
                  go_meet
                  obtain ⟨x1, x2⟩ := block_end HD4.out HB1.out (show 1048576 * (j : Int) ≤ 1048576 * ((j : Int) + 1) by omega) HM.out HBL4.out
                  exact ⟨0, L, _, _, W, GW, rfl, rfl, x1, x2⟩
              · subst hx
                have kb := Lib.hid (block_no HB1.out.fair t hnt)
                have dX := HX.out.cell
                clear hnt HKN
                go_wp2_with (first
                  | (go_at_call 12; (with_reducible refine (K0.out _ HBL1.out).mono ?_); rintro e w' ⟨rfl, rfl⟩)
                  | (go_at_call 21; (with_reducible refine kb.out.mono ?_); rintro e w' ⟨rfl, rfl⟩))
                go_meet
                exact ⟨4, L, T, G, W, GW, rfl, rfl, HB1.out.more, HBL1.out⟩
          by_cases o5 : op = 5
          · subst o5
            as_aux_lemma =>
              rcases HKN.out with ⟨b0, n, hx, hm, ht⟩ | ⟨hx, hnt⟩
              · subst hx
                subst ht
                have HM := Lib.hid hm
                have hn := HB1.out.same.num _ hm
                have hcc := HB1.out.same.cost hm
                simp only at hn
                clear hm HKN
                cases hr : (T n).r
                · have kb := Lib.hid (wk_yes HB1.out.fair n hn.1 hn.2 hcc hr (HB1.out.fit.g n (by omega)).1 (HB1.out.fit.g n (by omega)).2)
                  have HR := Lib.hid hr
                  have HCC := Lib.hid hcc
                  clear hr hcc hn
                  go_upto_region 42 with (first
                    | (go_at_call 12; (with_reducible refine (K0.out _ HBL1.out).mono ?_); rintro e w' ⟨rfl, rfl⟩)
                    | (go_at_call 22; (with_reducible refine kb.out.mono ?_); rintro e w3 ⟨rfl, hF3, hO3⟩; have HD3 := Lib.hid (HB1.out.duet.ahead hF3 hO3); have HBL3 := Lib.hid (HBL1.out.trans (below_p HB1.out.new hO3 HBL1.out.size)); have HX3 := Lib.hid (HX.out.ahead HB1.out.duet hO3); have dX := HX3.out.cell; clear hF3 hO3))
                  have dr := HD3.out.ref.tr HM.out
                  rw [HR.out] at dr
                  have C1 := Lib.hid (fun m => (K0.out (w3.drewN m) (HBL3.out.trans ((only_drewN (Only.refl (fun _ => False) w3) m).below HBL3.out.size (fun _ e => e.elim)))).mono (fun e w' h => (⟨h.1, h.2.symm⟩ : e = .returned (.int .i64 5) ∧ w' = w3.drewN m)))
                  go_quiet ((go_at_call 12; (with_reducible exact Calls.quiet_of_same (C1.out _))))
                  have HD4 := Lib.hid (HD3.out.later (only_drewN (Only.refl (fun _ => False) w3) nq))
                  have HX4 := Lib.hid (HX3.out.later (only_drewN (Only.refl (fun _ => False) w3) nq))
                  have HBL4 := Lib.hid (HBL3.out.trans ((only_drewN (Only.refl (fun _ => False) w3) nq).below HBL3.out.size (fun _ e => e.elim)))
                  clear C1 kb dX dr
                  generalize w3.drewN nq = w4 at *
                  have dX := HX4.out.cell
                  have dr := HD4.out.ref.tr HM.out
                  rw [HR.out] at dr
                  have f4 := HD4.out.ref.tfrozen HM.out 4
                  have kw := Lib.hid (wokeup_any HD4.out.ref HB1.out.same HB1.out.fit HB1.out.r0 HM.out)
                  go_wp2_with (first
                    | (go_at_call 12; (with_reducible refine (K0.out _ HBL4.out).mono ?_); rintro e w' ⟨rfl, rfl⟩)
                    | (go_at_call 17; (with_reducible refine kw.out.mono ?_); intro e w5 hw; obtain ⟨rfl, x1, x2⟩ := woke_end HD4.out HB1.out.same HB1.out.fit (show 1048576 * (j : Int) ≤ 1048576 * ((j : Int) + 1) by omega) HM.out HCC.out hw HBL4.out; have HB5 := Lib.hid x1; have HBL5 := Lib.hid x2; clear hw x1 x2))
                  go_meet
                  exact ⟨0, L, _, _, W, GW, rfl, rfl, HB5.out, HBL5.out⟩
                · have kb := Lib.hid (wk_state HB1.out.fair n hn.1 hn.2 hcc hr)
                  have dX := HX.out.cell
                  have dr := HB1.out.ref.tr HM.out
                  rw [hr] at dr
                  have C1 := Lib.hid (fun m => (K0.out (w1.drewN m) (HBL1.out.trans ((only_drewN (Only.refl (fun _ => False) w1) m).below HBL1.out.size (fun _ e => e.elim)))).mono (fun e w' h => (⟨h.1, h.2.symm⟩ : e = .returned (.int .i64 5) ∧ w' = w1.drewN m)))
                  clear hr hcc hn
                  go_upto_region 42 with (first
                    | (go_at_call 12; (with_reducible refine (K0.out _ HBL1.out).mono ?_); rintro e w' ⟨rfl, rfl⟩)
                    | (go_at_call 22; (with_reducible refine kb.out.mono ?_); rintro e w' ⟨rfl, rfl⟩))
                  go_quiet ((go_at_call 12; (with_reducible exact Calls.quiet_of_same (C1.out _))))
                  have HB2 := Lib.hid (HB1.out.later (only_drewN (Only.refl (fun _ => False) w1) nq))
                  have HBL2 := Lib.hid (HBL1.out.trans ((only_drewN (Only.refl (fun _ => False) w1) nq).below HBL1.out.size (fun _ e => e.elim)))
                  clear C1 kb dX dr
                  generalize w1.drewN nq = w2 at *
                  go_wp2_with fail
                  go_meet
                  exact ⟨8, L, T, G, W, GW, rfl, rfl, HB2.out.more, HBL2.out⟩
              · subst hx
                have kb := Lib.hid (wk_no HB1.out.fair t hnt)
                have dX := HX.out.cell
                clear hnt HKN
                go_wp2_with (first
                  | (go_at_call 12; (with_reducible refine (K0.out _ HBL1.out).mono ?_); rintro e w' ⟨rfl, rfl⟩)
                  | (go_at_call 22; (with_reducible refine kb.out.mono ?_); rintro e w' ⟨rfl, rfl⟩))
                go_meet
                exact ⟨4, L, T, G, W, GW, rfl, rfl, HB1.out.more, HBL1.out⟩
          by_cases o6 : op = 6
          · subst o6
            as_aux_lemma =>
              have hl := next_lt T G
              have kn := Lib.hid (fun (w2 : World) (hD : RefAt w.heap.size w2 q L T G W GW) => nextr_any hD HB1.out.same HB1.out.r0 HB1.out.fit.rc)
              by_cases hz : (next T G).1 = 0
              · have kt := Lib.hid (tick_none HB1.out.fair hz)
                have HZ := Lib.hid hz
                clear hz hl
                go_wp2_with (first
                  | (go_at_call 23; (with_reducible refine kt.out.mono ?_); rintro e w3 ⟨rfl, hO3⟩; have HB3 := Lib.hid (HB1.out.later hO3); have HBL3 := Lib.hid (HBL1.out.trans (hO3.below HBL1.out.size (fun _ e => e.elim))); clear hO3)
                  | (go_at_call 24; (with_reducible refine (kn.out _ HB3.out.ref).mono ?_); rintro e w4 ⟨hcs, hO⟩; have HB4 := Lib.hid (HB3.out.later hO); have HBL4 := Lib.hid (HBL3.out.trans (hO.below HBL3.out.size (fun _ e => e.elim))); obtain rfl : e = .returned (.pointer none) := (by rcases hcs with ⟨_, h⟩ | ⟨h, _⟩; exact h; exact absurd HZ.out h); clear hcs hO))
                go_meet
                exact ⟨4, L, T, G, W, GW, rfl, rfl, HB4.out.more, HBL4.out⟩
              · have kt := Lib.hid (tick_yes HB1.out.fair HB1.out.fit (by omega) hz)
                have HZ := Lib.hid hz
                generalize (next T G).1 = n at *
                have hn16 : n ≤ 16 := by omega
                have hn1 : 1 ≤ n := by have := HZ.out; omega
                have HS6 := Lib.hid (HB1.out.same.tick n)
                have HF6 : Hid (Fit (tickT T n) (tickG T G n) (1048576 * ((j : Int) + 1))) := Lib.hid ((HB1.out.fit.tick hn1 hn16).mono (by omega))
                have v0 := HB1.out.fit.v n (by omega)
                have c0 := HB1.out.fit.c n (by omega)
                have g0 := HB1.out.fit.g n (by omega)
                clear hz hl
                go_upto_region 54 with (first
                  | (go_at_call 23; (with_reducible refine kt.out.mono ?_); rintro e w3 ⟨rfl, hF3, hO3⟩; have HD3 := Lib.hid (HB1.out.duet.ahead hF3 hO3); have HBL3 := Lib.hid (HBL1.out.trans (below_p HB1.out.new hO3 HBL1.out.size)); clear hF3 hO3)
                  | (go_at_call 24; (with_reducible refine (kn.out _ HD3.out.ref).mono ?_); rintro e w4 ⟨hcs, hO⟩; have HD4 := Lib.hid (HD3.out.later hO); have HBL4 := Lib.hid (HBL3.out.trans (hO.below HBL3.out.size (fun _ e => e.elim))); obtain ⟨b0, hb0, rfl⟩ : ∃ b, (b, n) ∈ L ∧ e = .returned (pt b) := (by rcases hcs with ⟨h, _⟩ | ⟨_, h⟩; exact absurd h HZ.out; exact h); have HM := Lib.hid hb0; have dn := HD4.out.ref.tn hb0; unfold pt; clear hb0 hcs hO))
                have hwt := HB1.out.same.wt _ HM.out
                simp only at hwt
                have kc : Hid (∀ w2, Calls Try.prog 25 #[.int .i64 (W n)] w2 fun e w' => e = .returned (.int .i64 (T n).c) ∧ w' = w2) := Lib.hid (fun w2 => (ref_cost (W n) w2 hwt.1).mono fun e w' h => ⟨by rw [hwt.2]; exact h.1, h.2.symm⟩)
                have HD5 := Lib.hid (HD4.out.later (w' := w4.drew) ((Only.refl (fun _ => False) w4).drew))
                have HBL5 : Hid (Below w.heap.size w w4.drew) := Lib.hid (HBL4.out.trans ((Only.refl (fun _ => False) w4).drew.below HBL4.out.size (fun _ e => e.elim)))
                refine wp_region_still_tail 12 (by kernel_rfl) (by kernel_rfl) ?_
                have dv := HD5.out.ref.tv HM.out
                have dw := HD5.out.ref.tw HM.out
                have dfz := HD5.out.ref.tfrozen HM.out
                show wpStill _ _ w4.drew (fun a' => wpList _ _ _ _ a' w4.drew) _ _
                clear dn hwt
                generalize w4.drew = w5 at *
                simp only [List.take_succ_cons, List.take_zero, List.drop_succ_cons, List.drop_zero]
                repeat still_step
                refine wpStill_step (fun K hK => ?_)
                go_simp
                (with_reducible refine ⟨_, kc.out _, hK _ ?_⟩)
                clear hK K
                repeat still_step
                refine wpStill_nil ?_
                have hsum : IntKind.i64.wrap ((T n).v + (T n).c) = (T n).v + (T n).c := IntWalk.i64_in _ (by omega)
                go_upto_region 55 with (fail)
                obtain ⟨hD6, hbl6⟩ := tick_mid HD5.out HM.out HBL5.out
                have HD6 := Lib.hid hD6
                have HBL6 := Lib.hid hbl6
                clear hD6 hbl6 HD5 HBL5 HD4 HBL4 HD3 HBL3 dv dw dfz hsum kc kn kt v0 c0 HBL1
                generalize w5.setCell ⟨b0, 3, none⟩ _ = w6 at *
                have dg := HD6.out.ref.tg HM.out
                rw [tickT_g] at dg
                by_cases hg : (T n).g = 0
                · have HG := Lib.hid hg
                  rw [hg] at dg
                  clear hg g0
                  go_wp2_with fail
                  go_meet
                  exact ⟨0, L, _, _, W, GW, rfl, rfl, tick_end0 HD6.out HG.out HS6.out HF6.out, HBL6.out⟩
                · obtain ⟨k, hk⟩ : ∃ k : Nat, (T n).g = k := ⟨(T n).g.toNat, by omega⟩
                  have hgc := HB1.out.same.tg _ HM.out
                  simp only at hgc
                  rw [hk] at dg hgc g0
                  have k1 : 1 ≤ k := by omega
                  have k8 : k ≤ 8 := by omega
                  have c3 : (k : Int) < 9 := by omega
                  have c4 : (0 : Int) < k := by omega
                  have c5 : (0 : Int) ≤ k := by omega
                  have c6 : 0 < k := k1
                  have hgw := HB1.out.same.gw k (by omega) (by rcases hgc with e | e; omega; simpa using e)
                  have kc : Hid (∀ w2, Calls Try.prog 25 #[.int .i64 (GW k)] w2 fun e w' => e = .returned (.int .i64 (G k).c) ∧ w' = w2) := Lib.hid (fun w2 => (ref_cost (GW k) w2 hgw.1).mono fun e w' h => ⟨by rw [hgw.2]; exact h.1, h.2.symm⟩)
                  have HK := Lib.hid hk
                  have v1 := HB1.out.fit.gv k (by omega)
                  have b1 := HB1.out.fit.gc k (by omega)
                  have hsum : IntKind.i64.wrap ((G k).v + (G k).c) = (G k).v + (G k).c := IntWalk.i64_in _ (by omega)
                  clear hk hg hgc hgw g0 v1 b1
                  go_upto_region 56 with (fail)
                  clear dg
                  have HD7 := Lib.hid (HD6.out.later (w' := w6.drew) ((Only.refl (fun _ => False) w6).drew))
                  have HBL7 : Hid (Below w.heap.size w w6.drew) := Lib.hid (HBL6.out.trans ((Only.refl (fun _ => False) w6).drew.below HBL6.out.size (fun _ e => e.elim)))
                  have dg := HD7.out.ref.tg HM.out
                  rw [tickT_g, HK.out] at dg
                  have dv := HD7.out.ref.gv k (by omega)
                  have dw := HD7.out.ref.gw k (by omega)
                  have dfz := HD7.out.ref.frozen
                  clear HD6 HBL6
                  refine wp_region_still_tail 26 (by kernel_rfl) (by kernel_rfl) ?_
                  show wpStill _ _ w6.drew (fun a' => wpList _ _ _ _ a' w6.drew) _ _
                  generalize w6.drew = w7 at *
                  simp only [List.take_succ_cons, List.take_zero, List.drop_succ_cons, List.drop_zero]
                  repeat still_step
                  refine wpStill_step (fun K hK => ?_)
                  go_simp
                  (with_reducible refine ⟨_, kc.out _, hK _ ?_⟩)
                  clear hK K
                  repeat still_step
                  refine wpStill_nil ?_
                  go_wp2_with fail
                  go_meet
                  obtain ⟨x1, x2⟩ := tick_end1 HD7.out HK.out k1 k8 HS6.out HF6.out HBL7.out
                  exact ⟨0, L, _, _, W, GW, rfl, rfl, x1, x2⟩
          have e1 : (op == 1) = false := by simp [o1]
          have e2 : (op == 2) = false := by simp [o2]
          have e3 : (op == 3) = false := by simp [o3]
          have e4 : (op == 4) = false := by simp [o4]
          have e5 : (op == 5) = false := by simp [o5]
          have e6 : (op == 6) = false := by simp [o6]
          clear o1 o2 o3 o4 o5 o6
          go_wp2_with fail
          go_meet
          exact ⟨0, L, T, G, W, GW, rfl, rfl, HB1.out.more, HBL1.out⟩
      case rest =>
        clear HB1 HBL1 HKN HX K0 HLen
        obtain ⟨e, L2, T2, G2, W2, GW2, rfl, rfl, hB2, hbl2⟩ := hcut
        have HB := Lib.hid hB2
        have HBL := Lib.hid hbl2
        clear hB2 hbl2
        as_aux_lemma =>
          go_wp2_with (go_at_call 26; (with_reducible refine (tells_any HB.out).mono ?_); rintro e3 w3 ⟨rfl, hO3⟩; have HB3 := Lib.hid (HB.out.later hO3); have HBL3 := Lib.hid (HBL.out.trans (hO3.below HBL.out.size (fun _ e => e.elim))); clear hO3)
          go_roundw
          case rel => exact ⟨j + 1, L2, T2, G2, W2, GW2, by omega, by go_num, HB3.out, HBL3.out⟩
          case measure => simp [intOf]; omega
    · obtain rfl : j = recs.length := by omega
      go_wp2_with fail
      go_ret
      exact ⟨rfl, HBL.out⟩
end Go.Proofs.Ytkjcaainbomemaa.Fr
