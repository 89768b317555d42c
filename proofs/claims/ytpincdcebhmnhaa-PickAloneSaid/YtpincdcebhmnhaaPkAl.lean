/- With fair tasks only, a scheduler is as the class alone: the walk of PickAlone. -/
import Derived.Test.YtpincdcebhmnhaaPkSl
import Derived.Test.YtpincdcebhmnhaaOFFairs
import Derived.Test.YtpincdcebhmnhaaMin2
namespace Go.Proofs.Ytpincdcebhmnhaa.Pk
open Go.ChangeShapes Go.WideShapes Go.ChangeAt Go.RowKit Go.Maps
open Go.Proofs.Ytpincdcebhmnhaa.Vt
set_option linter.unusedVariables false

/-- Only fair tasks: those of the numbers xs as far as k have come. -/
structure Bare (xs : List Int) (S : St) (k : Nat) : Prop where
  inv : Inv S 0
  T : S.T = Fr.bareT xs k
  d : S.d = De.noT
  Q : S.Q = Pr.noQ
  C : ∀ j, j < 17 → S.C j = if 1 ≤ j ∧ j ≤ k then 1 else 0
theorem bare_none (xs : List Int) : Bare xs noS 0 := ⟨inv_no, (show Fr.noT = _ from (Fr.mkT_none _ _).symm), rfl, rfl, fun j _ => by rw [if_neg (by omega)]; rfl⟩
theorem Bare.add {xs : List Int} {S : St} {k : Nat} (h : Bare xs S k) (hk : k < 16) : Bare xs (newFair S (k + 1) (Fr.wOf (xs.getD k 0))) (k + 1) := by
  have hc : S.C (k + 1) = 0 := by rw [h.C _ (by omega), if_neg (by omega)]
  refine ⟨h.inv.new_fair (by omega) (by omega) hc (Fr.wOf_ok _), ?_, h.d, h.Q, fun j hj => ?_⟩
  · show Fr.addT S.T S.G (k + 1) (costOf (Fr.wOf (xs.getD k 0))) 0 = _
    rw [h.T, h.inv.gno]; exact (Fr.bare_add xs hk).1
  show Pr.upd S.C (k + 1) 1 j = _
  by_cases e : j = k + 1
  · subst e; rw [Pr.upd_same, if_pos (by omega)]
  · rw [Pr.upd_other _ _ e, h.C j hj]; by_cases e2 : 1 ≤ j ∧ j ≤ k
    · rw [if_pos e2, if_pos (by omega)]
    · rw [if_neg e2, if_neg (by omega)]

/-- Behind i calls. -/
structure Alone (S : St) (m : Nat) (i : Nat) : Prop where
  inv : Inv S i
  d : S.d = De.noT
  Q : S.Q = Pr.noQ
  C : ∀ j, j < 17 → S.C j = if 1 ≤ j ∧ j ≤ m then 1 else 0
theorem Bare.alone {xs : List Int} {S : St} {k : Nat} (h : Bare xs S k) : Alone S k 0 := ⟨h.inv, h.d, h.Q, h.C⟩

section
variable {S : St} {m i : Nat}
theorem top_noQ : Pr.top Pr.noQ = none := by decide
theorem Alone.best (h : Alone S m i) : best S = ((Fr.next S.T S.G).1 : Int) := best_3 (by rw [h.d]; exact pick_noT) (by rw [h.Q]; exact top_noQ)
theorem Alone.step (h : Alone S m i) : Alone S m (i + 1) := ⟨h.inv.mono (by omega), h.d, h.Q, h.C⟩
theorem Alone.tick (h : Alone S m i) : Alone (tickS S) m (i + 1) := by
  have hI := h.inv.tick
  refine ⟨hI, ?_, ?_, by rw [tickS_C]; exact h.C⟩
  · unfold tickS
    rw [if_neg (by rw [h.d, pick_noT]; simp), if_neg (by rw [h.Q, top_noQ]; simp)]
    split <;> (show De.past S.d S.n = _; rw [h.d]; exact past_noT _)
  · unfold tickS
    rw [if_neg (by rw [h.d, pick_noT]; simp), if_neg (by rw [h.Q, top_noQ]; simp)]
    split <;> exact h.Q
theorem Alone.tick_T (h : Alone S m i) : (tickS S).T = (if (Fr.next S.T S.G).1 ≠ 0 then Fr.tickT S.T (Fr.next S.T S.G).1 else S.T) ∧ (tickS S).G = S.G := by
  unfold tickS
  rw [if_neg (by rw [h.d, pick_noT]; simp), if_neg (by rw [h.Q, top_noQ]; simp)]
  constructor
  · split <;> rfl
  · split <;> rfl
theorem Alone.class1 (h : Alone S m i) {k : Nat} (h2 : k ≤ 16) (hc : S.C k ≠ 0) : S.C k = 1 := by
  have := h.C k (by omega)
  split at this
  · exact this
  · exact absurd this hc
theorem Alone.slept (h : Alone S m i) {k : Nat} (h2 : k ≤ 16) (hc : S.C k ≠ 0) : Pk.slept S k = { S with T := Fr.upd S.T k ⟨(S.T k).c, (S.T k).v, (S.T k).g, false⟩ } := by
  unfold Pk.slept; rw [if_pos (h.class1 h2 hc)]
theorem Alone.woken (h : Alone S m i) {k : Nat} (h2 : k ≤ 16) (hc : S.C k ≠ 0) : Pk.woken S k = { S with T := Fr.wokeT S.T S.G k, G := Fr.wokeG S.T S.G k } := by
  unfold Pk.woken; rw [if_pos (h.class1 h2 hc)]
end

/-- A scheduler and a class beside each other. -/
structure Two (w0 w : World) (p : Nat) (V : Nat → Value) (S : St) (q : Nat) (T : Fr.Tks) (G : Fr.Grs) : Prop where
  mine : Mine w0 w p V S
  fair : Fr.FairAt w q 0 49 T G
  new : w0.heap.size ≤ q
  apart : ¬ Pr.Foot p V q

section
variable {w0 w w' : World} {p q : Nat} {V V' : Nat → Value} {S S' : St} {T T' : Fr.Tks} {G G' : Fr.Grs} {m i : Nat}
theorem Two.did {f : Nat} {args : Array Value} {x : Value} (h : Two w0 w p V S q T G) (k : Calls Try.prog f args w (Did p 64 V S' x w)) :
    Calls Try.prog f args w (fun e w' => e = .returned x ∧ ∃ V', Two w0 w' p V' S' q T G) :=
  k.mono fun e w' ⟨h1, V', h2, hs⟩ => ⟨h1, V', h.mine.step h2 hs, h.fair.keep hs.only h.apart, h.new, fun e => by
    rcases hs.grow q e with e | e
    · exact h.apart e
    · have := h.fair.lt; omega⟩
theorem Two.fkeep (h : Two w0 w p V S q T G) (hF : Fr.FairAt w' q 0 49 T' G') (hW : Within q 0 86 w w') : Two w0 w' p V S q T' G' :=
  ⟨h.mine.beside hW.only (fun k hk e => h.apart (e ▸ hk)) (fun k e => e ▸ h.new), hF, h.new, h.apart⟩
theorem Two.quiet (h : Two w0 w p V S q T G) (hO : Only (fun _ => False) w w') : Two w0 w' p V S q T G := ⟨h.mine.quiet hO, h.fair.later hO, h.new, h.apart⟩
theorem Two.is {T' : Fr.Tks} {G' : Fr.Grs} (h : Two w0 w p V S q T G) (eT : T = T') (eG : G = G') : Two w0 w p V S q T' G' := by subst eT eG; exact h

theorem Alone.no (h : Alone S m i) {t : Int} (hf : Free S t) : ¬ Fr.isTask S.T t := by
  rintro ⟨h1, h2, h3⟩
  rcases hf with hf | hf | hf
  · omega
  · omega
  · exact h3 (h.inv.free_none (by omega) hf).1
theorem two_fblock (h : Two w0 w p V S' q S.T S.G) (hA : Alone S m i) (t : Int) :
    Calls Try.prog 18 #[.pointer (some ⟨q, 0, none⟩), .int .i64 t] w (fun e w' => e = .returned (.int .i64 (blockE S t)) ∧ Two w0 w' p V S' q (blockS S t).T (blockS S t).G) := by
  by_cases hf : Free S t
  · have e1 : blockS S t = S := by unfold blockS; rw [if_pos hf]
    have e2 : blockE S t = 4 := by unfold blockE; rw [if_pos hf]
    rw [e1, e2]
    refine (Fr.block_no h.fair t (hA.no hf)).mono ?_
    rintro e w' ⟨rfl, rfl⟩
    exact ⟨rfl, h⟩
  · obtain ⟨k, rfl, k1, k2, kc⟩ := not_free hf
    have c1 := hA.class1 k2 kc
    have hc := (hA.inv.cf k (by omega)).1 c1
    have e1 : blockS S (k : Int) = if ready S k then slept S k else S := by unfold blockS; rw [if_neg hf]; rfl
    have e2 : blockE S (k : Int) = if ready S k then 0 else 8 := by unfold blockE; rw [if_neg hf]; rfl
    rw [e1, e2, ready_1 c1, hA.slept k2 kc]
    cases hr : (S.T k).r with
    | true =>
      refine (Fr.block_yes h.fair k k1 k2 hc hr).mono ?_
      rintro e w' ⟨rfl, hF, hW⟩
      exact ⟨rfl, (h.fkeep hF hW).is rfl rfl⟩
    | false =>
      refine (Fr.block_state h.fair k k1 k2 hc hr).mono ?_
      rintro e w' ⟨rfl, rfl⟩
      exact ⟨rfl, h⟩
theorem two_fwake (h : Two w0 w p V S' q S.T S.G) (hA : Alone S m i) (t : Int) :
    Calls Try.prog 19 #[.pointer (some ⟨q, 0, none⟩), .int .i64 t] w (fun e w' => e = .returned (.int .i64 (wakeE S t)) ∧ Two w0 w' p V S' q (wakeS S t).T (wakeS S t).G) := by
  by_cases hf : Free S t
  · have e1 : wakeS S t = S := by unfold wakeS; rw [if_pos hf]
    have e2 : wakeE S t = 4 := by unfold wakeE; rw [if_pos hf]
    rw [e1, e2]
    refine (Fr.wk_no h.fair t (hA.no hf)).mono ?_
    rintro e w' ⟨rfl, rfl⟩
    exact ⟨rfl, h⟩
  · obtain ⟨k, rfl, k1, k2, kc⟩ := not_free hf
    have c1 := hA.class1 k2 kc
    have hc := (hA.inv.cf k (by omega)).1 c1
    have hg := hA.inv.grp k (by omega)
    have e1 : wakeS S (k : Int) = if ready S k then S else woken S k := by unfold wakeS; rw [if_neg hf]; rfl
    have e2 : wakeE S (k : Int) = if ready S k then 8 else 0 := by unfold wakeE; rw [if_neg hf]; rfl
    rw [e1, e2, ready_1 c1, hA.woken k2 kc]
    cases hr : (S.T k).r with
    | false =>
      refine (Fr.wk_yes h.fair k k1 k2 hc hr (by omega) (by omega)).mono ?_
      rintro e w' ⟨rfl, hF, hW⟩
      exact ⟨rfl, (h.fkeep hF hW).is rfl rfl⟩
    | true =>
      refine (Fr.wk_state h.fair k k1 k2 hc hr).mono ?_
      rintro e w' ⟨rfl, rfl⟩
      exact ⟨rfl, h⟩
theorem two_ftick (h : Two w0 w p V S q S.T S.G) (hA : Alone S m i) (hi : i ≤ 1000) :
    Calls Try.prog 20 #[.pointer (some ⟨q, 0, none⟩)] w (fun e w' => (∃ x : Int, e = .returned (.tuple #[.int .i64 (best S), .int .i64 x])) ∧ Two w0 w' p V S q (tickS S).T (tickS S).G) := by
  obtain ⟨eT, eG⟩ := hA.tick_T
  rw [eT, eG, hA.best]
  by_cases hn : (Fr.next S.T S.G).1 = 0
  · rw [if_neg (by simp [hn]), hn]
    refine (Fr.tick_none h.fair hn).mono ?_
    rintro e w' ⟨rfl, hO⟩
    exact ⟨⟨4, rfl⟩, h.quiet hO⟩
  · rw [if_pos hn]
    have e2 : Fr.tickG S.T S.G (Fr.next S.T S.G).1 = S.G := by unfold Fr.tickG; rw [if_pos (hA.inv.grp _ (Fr.next_lt _ _))]
    have k := Fr.tick_yes h.fair hA.inv.fit (by omega) hn
    rw [e2] at k
    refine k.mono ?_
    rintro e w' ⟨rfl, hF, hW⟩
    exact ⟨⟨0, rfl⟩, h.fkeep hF hW⟩
theorem Alone.block (h : Alone S m i) (t : Int) : Alone (blockS S t) m (i + 1) := by
  have hI := (h.inv.block t).mono (B' := ((i + 1 : Nat) : Int)) (by omega)
  by_cases hf : Free S t
  · have e1 : blockS S t = S := by unfold blockS; rw [if_pos hf]
    rw [e1]; exact h.step
  · obtain ⟨k, rfl, k1, k2, kc⟩ := not_free hf
    have e1 : blockS S (k : Int) = if ready S k then Pk.slept S k else S := by unfold blockS; rw [if_neg hf]; rfl
    rw [e1] at hI ⊢
    split
    · rename_i hr
      rw [if_pos hr] at hI
      rw [h.slept k2 kc] at hI ⊢
      exact ⟨hI, h.d, h.Q, h.C⟩
    · exact h.step
theorem Alone.wake (h : Alone S m i) (t : Int) : Alone (wakeS S t) m (i + 1) := by
  have hI := (h.inv.wake t).mono (B' := ((i + 1 : Nat) : Int)) (by omega)
  by_cases hf : Free S t
  · have e1 : wakeS S t = S := by unfold wakeS; rw [if_pos hf]
    rw [e1]; exact h.step
  · obtain ⟨k, rfl, k1, k2, kc⟩ := not_free hf
    have e1 : wakeS S (k : Int) = if ready S k then S else Pk.woken S k := by unfold wakeS; rw [if_neg hf]; rfl
    rw [e1] at hI ⊢
    split
    · exact h.step
    · rename_i hr
      rw [if_neg hr] at hI
      rw [h.woken k2 kc] at hI ⊢
      exact ⟨hI, h.d, h.Q, h.C⟩
end

theorem two_fair {w0 w : World} {p q : Nat} {V : Nat → Value} {S : St} {T : Fr.Tks} {G : Fr.Grs} {B : Int} (h : Two w0 w p V S q T G) (hI : Inv S B) (k : Nat) (x : Int) (e : (k : Int) = x) (h1 : 1 ≤ k) (h2 : k ≤ 16) (a : Int) (ha : isW a = true) (hc : S.C k = 0) :
    Calls Try.prog 8 #[.pointer (some ⟨p, 0, none⟩), .int .i64 x, .int .i64 a] w (fun e w' => e = .returned (.int .i64 0) ∧ ∃ V', Two w0 w' p V' (newFair S k a) q T G) := by
  subst e
  exact h.did (fair_new h.mine.at_ k h1 h2 a hc ha (hI.free_none (by omega) hc).1)

set_option maxHeartbeats 1000000 in
set_option maxRecDepth 100000 in
theorem alone_any (a1 a2 : Option Addr) (l1 c1 l2 c2 : Nat) (z1 z2 : List Int) (w : World) (hr1 : IsRow .i64 w a1 l1 c1 z1) (hr2 : IsRow .i64 w a2 l2 c2 z2) :
    Calls Try.prog 5 #[.slice a1 l1 c1, .slice a2 l2 c2] w (fun e w' => e = .returned (.bool true) ∧ Below w.heap.size w w') := by
  obtain ⟨xs, hx1, hx2, hx3, hx4⟩ := nums_cut hr1 16
  obtain ⟨ys, hy1, hy2, hy3, hy4⟩ := nums_cut hr2 150
  obtain ⟨m, hm⟩ : ∃ m, min l1 16 = m := ⟨_, rfl⟩
  obtain ⟨q, hq⟩ : ∃ q, min l2 150 = q := ⟨_, rfl⟩
  rw [hm] at hx1
  rw [hq] at hy1
  rw [hx1] at hx2
  rw [hy1] at hy2
  have hm1 : m ≤ 16 := by omega
  have hm2 : m ≤ l1 := by omega
  have hq1 : q ≤ 150 := by omega
  have hq2 : q ≤ l2 := by omega
  have q1 := run_min2 (l1 : Int) 16 m (by omega)
  have q2 := run_min2 (l2 : Int) 150 q (by omega)
  have HX := Lib.hid hx2
  have HL := Lib.hid hx1
  have HY := Lib.hid hy2
  have HM := Lib.hid hy1
  clear hr1 hr2 hx1 hx2 hy1 hy2 hm hq
  go_enter Try.func5, Try.ntmps5
  go_wp2_with (first
    | (go_at_call 6; (with_reducible refine (begun_any _).mono ?_); rintro e w1 ⟨rfl, hO⟩; have HO := Lib.hid hO; clear hO)
    | (go_at_call 16; (with_reducible refine (Fr.begun_any _).mono ?_); rintro e w2 ⟨rfl, hO⟩; have HO2 := Lib.hid (only_trans HO.out hO); clear hO)
    | (go_at_call 7; (with_reducible refine (new_mine HO2.out).mono ?_); rintro e w4 ⟨p, rfl, -, hM⟩; have HMI := Lib.hid hM; clear hM)
    | (go_at_call 17; (with_reducible refine (Fr.fairs_any _ m _ xs _ (HX.out.later HMI.out.only) HL.out hm1).mono ?_); rintro e w5 ⟨b, rfl, hb, hF, hO⟩; have HT := Lib.hid (show Two w w5 p Pr.noV noS b (Fr.bareT xs m) Fr.noG from ⟨HMI.out.quiet hO, hF, Nat.le_trans HMI.out.only.size hb, fun e => by rw [Pr.no_foot e] at hb; have := HMI.out.at_.lt; omega⟩); clear hF hO hb))
  clear q1
  go_loopw [36] (fun i wr => ∃ (k : Nat) (S : St) (V : Nat → Value), k ≤ m ∧ i = .int .i64 k ∧ Two w wr p V S b (Fr.bareT xs m) Fr.noG ∧ Bare xs S k) (fun i _ => m - (intOf i).toNat)
  case atStart => exact ⟨0, _, _, by omega, rfl, HT.out, bare_none xs⟩
  case round =>
    obtain ⟨k, S, V, hk, rfl, hT, hB⟩ := hrel
    have HT1 := Lib.hid hT
    have HB := Lib.hid hB
    clear hT hB HT HMI
    by_cases hlt : k < m
    · obtain ⟨bb, off, rfl, hb, hc⟩ := (HX.out.later HT1.out.mine.only).at (j := k) (by rw [HL.out]; exact hlt)
      obtain ⟨x, hx⟩ : ∃ x, xs.getD k 0 = x := ⟨_, rfl⟩
      rw [hx] at hc
      have HB2 := Lib.hid (HB.out.add (by omega))
      rw [hx] at HB2
      have g1 : (k : Int) < m := by omega
      have g2 : (0 : Int) ≤ k := by omega
      have g3 : (m : Int) ≤ 16 := by omega
      have r1 := restOf_lo x 100 (by omega)
      have r2 := restOf_hi x 100 (by omega)
      have ka := Lib.hid (two_fair HT1.out HB.out.inv (k + 1) ((k : Int) + 1) (by omega) (by omega) (by omega) (Fr.wOf x) (Fr.wOf_ok x) (by rw [HB.out.C _ (by omega), if_neg (by omega)]))
      unfold Fr.wOf at ka HB2
      clear hx
      go_wp2_with (first
        | (go_at_call 11; (with_reducible refine (rest_any x 100 (by omega) (by omega) _).mono ?_); rintro e w' ⟨rfl, rfl⟩)
        | (go_at_call 8; (with_reducible refine ka.out.mono ?_); rintro e w6 ⟨rfl, V6, hq⟩; have H6 := Lib.hid hq; clear hq))
      go_roundw
      case rel => exact ⟨k + 1, _, _, by omega, by go_num, H6.out, HB2.out⟩
      case measure => simp [intOf]; omega
    · obtain rfl : k = m := by omega
      have HP := Lib.hid (show Two w wr p V S b S.T S.G from HT1.out.is HB.out.T.symm HB.out.inv.gno.symm)
      have HA := Lib.hid (HB.out.alone)
      go_wp2_with fail
      clear q2 HX HL HT1 HB
      go_loopw [56] (fun i wr => ∃ (j : Nat) (S : St) (V : Nat → Value), j ≤ q ∧ i = .int .i64 j ∧ Two w wr p V S b S.T S.G ∧ Alone S k j) (fun i _ => q - (intOf i).toNat)
      case atStart => exact ⟨0, _, _, by omega, rfl, HP.out, HA.out⟩
      case round =>
        obtain ⟨j, S2, V2, hj, rfl, hT, hA⟩ := hrel
        have HT2 := Lib.hid hT
        have HA2 := Lib.hid hA
        clear hT hA HP HA
        by_cases hlt : j < q
        · obtain ⟨bb, off, rfl, hb, hc⟩ := (HY.out.later HT2.out.mine.only).at (j := j) (by rw [HM.out]; exact hlt)
          obtain ⟨y, hy⟩ : ∃ y, ys.getD j 0 = y := ⟨_, rfl⟩
          rw [hy] at hc
          have g1 : (j : Int) < q := by omega
          have g2 : (0 : Int) ≤ j := by omega
          have g3 : (q : Int) ≤ 150 := by omega
          have C16 := Lib.hid (fun k w => rest_some k 16 (by omega) (by omega) w)
          have C4 := Lib.hid (fun k w => rest_some k 4 (by omega) (by omega) w)
          clear hy
          have KB := Lib.hid (fun t => HT2.out.did (block_any HT2.out.mine.at_ HA2.out.inv t))
          have FB := Lib.hid (fun t W V (h : Two w W p V (blockS S2 t) b S2.T S2.G) => two_fblock h HA2.out t)
          have KW := Lib.hid (fun t => HT2.out.did (wake_any HT2.out.mine.at_ HA2.out.inv (by omega) t))
          have FW := Lib.hid (fun t W V (h : Two w W p V (wakeS S2 t) b S2.T S2.G) => two_fwake h HA2.out t)
          have FT := Lib.hid (two_ftick HT2.out HA2.out (by omega))
          have KT := Lib.hid (fun W V (h : Two w W p V S2 b (tickS S2).T (tickS S2).G) => h.did (tick_any h.mine.at_ HA2.out.inv (by omega)))
          go_wp2_with (first
            | (go_at_call 11; (with_reducible refine (C16.out _ _).mono ?_); rintro e w' ⟨r1, rfl, hr1, rfl⟩)
            | (go_at_call 11; (with_reducible refine (C4.out _ _).mono ?_); rintro e w' ⟨r2, rfl, hr2, rfl⟩)
            | (go_at_call 12; (with_reducible refine (KB.out _).mono ?_); rintro e w6 ⟨rfl, V6, hq⟩; have H6 := Lib.hid hq; clear hq)
            | (go_at_call 18; (with_reducible refine (FB.out _ _ _ H6.out).mono ?_); rintro e w7 ⟨rfl, hq⟩; have H7 := Lib.hid hq; clear hq; have HN := Lib.hid (HA2.out.block (1 + (r1 : Int))))
            | (go_at_call 13; (with_reducible refine (KW.out _).mono ?_); rintro e w6 ⟨rfl, V6, hq⟩; have H6 := Lib.hid hq; clear hq)
            | (go_at_call 19; (with_reducible refine (FW.out _ _ _ H6.out).mono ?_); rintro e w7 ⟨rfl, hq⟩; have H7 := Lib.hid hq; clear hq; have HN := Lib.hid (HA2.out.wake (1 + (r1 : Int))))
            | (go_at_call 20; (with_reducible refine FT.out.mono ?_); rintro e w6 ⟨⟨x, rfl⟩, hq⟩; have H6 := Lib.hid hq; clear hq)
            | (go_at_call 14; (with_reducible refine (KT.out _ _ H6.out).mono ?_); rintro e w7 ⟨rfl, V6, hq⟩; have H7 := Lib.hid hq; clear hq; have HN := Lib.hid HA2.out.tick))
          all_goals (
            go_roundw
            case rel => exact ⟨j + 1, _, _, by omega, by go_num, H7.out, HN.out⟩
            case measure => simp [intOf]; omega)
        · obtain rfl : j = q := by omega
          go_wp2_with fail
          go_ret
          exact ⟨rfl, Only.below HT2.out.mine.only (Nat.le_refl _) (fun _ e => e.elim)⟩
end Go.Proofs.Ytpincdcebhmnhaa.Pk
