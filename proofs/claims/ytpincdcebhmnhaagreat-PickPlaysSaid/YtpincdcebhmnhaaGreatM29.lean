/- Texts of this claim, merged: RkTurn. -/
import Derived.Test.YtpincdcebhmnhaaGreatM28
/- The reference of one processor's scheduler: a task is not ready any more, or it is again. -/
namespace Go.Proofs.YtpincdcebhmnhaaGreat.Rk
open Go.ChangeShapes Go.WideShapes Go.ChangeAt Go.RowKit Go.Maps
open Go.Proofs.YtpincdcebhmnhaaGreat.Of Go.Proofs.YtpincdcebhmnhaaGreat.Pk Go.Proofs.YtpincdcebhmnhaaGreat.Vt
set_option linter.unusedVariables false
set_option maxRecDepth 100000

section
variable {B : Nat} {w w' : World} {q : Nat} {M : RSt} {S : St} {b : Int}

/-- What such a call leaves of the reference: all is as the program's state S' has it, and the map tells it. -/
structure Turned (S' : St) (M M' : RSt) (k : Nat) (x : Bool) : Prop where
  same : M'.LF = M.LF ∧ M'.LD = M.LD ∧ M'.W = M.W ∧ M'.C = M.C ∧ M'.A = M.A ∧ M'.now = M.now ∧ M'.used = M.used
  c : M'.c = M.c + 1
  f : M'.f = updI M.f k x
  T : M'.T = S'.T
  Q : M'.Q = S'.Q
  d : M'.d = S'.d
  n : M'.n = S'.n
/-- An append in a region, with what is still as it was at once behind it. -/
theorem step_add2 {w : World} {ops : Array Oper} {oo : Oper} {a : Act} {K : Act → World → Prop} {R : Exit → Act → World → Prop} {E : Prop} (hgd : oo.guard = none) (s y : Operand)
    (ho : oo.op = .call { callee := .builtin .append, args := #[s, y], argTypes := #[37, 37] })
    (wr : World) (p o T b : Nat) (V : Nat → Value) (Q : Pr.Qs) (i : Nat) (x : Int) (hq : Pr.QAt wr p o T V Q) (hi : i < 8) (hO : Only (fun _ => False) wr w) (hs : a.eval s = V i) (hy : a.eval y = .slice (some ⟨b, 0, none⟩) 1 1)
    (hb : w.heap[b]? = some (.cells #[.int .i64 x] 3 (0, 0))) (hl : (Q i).length + 1 ≤ 17000000000000)
    (h : ∀ g c w', w'.cell? ⟨p, o + i, none⟩ = some (V i) → w'.frozen? ⟨p, o + i, none⟩ = false → Only (fun k => (V i).ownBlock = some k) wr w' → Hid (Pr.Added p o T V Q i x wr (.slice (some ⟨g, 0, none⟩) ((Q i).length + 1) c) w') → K (a.put oo.dst (.slice (some ⟨g, 0, none⟩) ((Q i).length + 1) c)) w') :
    if Region.wanted oo (yielded ops a.tmps) = true then Oper.wp Tryz.prog oo a w K R else E := by
  obtain ⟨i0, hi0, hz0, hz1, hz2⟩ := info_parts Tryz.infoInt
  refine step_append_lies w hgd s y 37 ho 0 3 i0 (.int .i64 0) 1 8 Tryz.underlying37 hi0 hz0 hz1 hz2 rfl (by decide) (V i) (Q i).length (numCells (Q i)) hs ((hq.later hO).row i hi) ⟨b, 0, none⟩ 1 1 [.int .i64 x] hy rfl
    (World.news_of_block (cs := #[.int .i64 x]) hb) (one_num x) (by omega) (by unfold maxLen; omega) (by omega) (Nat.zero_le _) w.heap.size rfl ?_
  intro g c w' hown hg hat hlt
  obtain ⟨q1, q2, q3⟩ := Pr.added_of hq hi hO hown hg hat
  exact h g c w' q1 q2 ((hO.mono (T := fun k => (V i).ownBlock = some k) (fun _ _ e => e.elim)).trans (Only.of_grown hg (fun k hk => hk)) (fun _ _ e => e)) q3
theorem mv_later (h : RefP B w q M) {i : Nat} (hi : i < 8) (hO : Only (fun k => (M.U i).ownBlock = some k) w w') : NumsAt w' M.kv M.c M.A :=
  h.mv.keep hO (fun e => (h.row_kind hi e).no_map (nums_map h.mv))
def RTurn (B q : Nat) (S' : St) (M : RSt) (k : Nat) (x : Bool) (w : World) (e : Ending) (w' : World) : Prop := e = .returned (.int .i64 0) ∧ ∃ M', RefP B w' q M' ∧ RStep B q M.U M'.U w w' ∧ Turned S' M M' k x

theorem in_Q (hI : Inv S b) {j : Nat} {v : Nat} (hv : v < 8) (h : (j : Int) ∈ S.Q v) : 1 ≤ j ∧ j ≤ 16 ∧ S.C j = 2 := by
  obtain ⟨m, h1, h2, h3, h4⟩ := hI.in_queue hv h
  have : j = m := by omega
  subst this; exact ⟨h2, h3, h4⟩

theorem link_slept {M' : RSt} (hL : Link S M) (hI : Inv S b) {k : Nat} (h1 : 1 ≤ k) (h2 : k ≤ 16) (hr : ready S k = true) (h : Turned (slept S k) M M' k true) : Link (slept S k) M' := by
  obtain ⟨s1, s2, s3, s5, s6, s7, s8⟩ := h.same
  have hrs := hI.ready_slept (k := k) (by omega) hr
  have hC := slept_C S k
  have key : ∀ (j v : Nat), v < 8 → (j : Int) ∈ (slept S k).Q v → (j : Int) ∈ S.Q v ∧ j ≠ k ∨ ((j : Int) ∈ S.Q v ∧ S.C k ≠ 2) := fun j v hv hm => by
    by_cases c2 : S.C k = 2
    · left
      have hj : ready (slept S k) j = true := by
        have hj3 : (slept S k).C j = 2 := by
          have hu : (slept S k) = (slept S k) := rfl
          have := (hI.slept h1 h2 (ready_there hr)).in_queue hv hm
          obtain ⟨m, e, -, -, c⟩ := this
          have : j = m := by omega
          subst this; exact c
        rw [ready_2 hj3, seek_iff]; exact ⟨v, hv, hm⟩
      rw [hrs] at hj
      by_cases e : j = k
      · rw [if_pos e] at hj; cases hj
      · refine ⟨?_, e⟩
        unfold slept at hm
        rw [if_neg (by omega), if_pos c2] at hm
        cases hs : Pr.seek S.Q (k : Int) with
        | none => rw [hs] at hm; exact hm
        | some i =>
          rw [hs] at hm
          change (j : Int) ∈ Pr.upd S.Q i _ v at hm
          by_cases e2 : v = i
          · subst e2; rw [Pr.upd_same] at hm; exact List.mem_of_mem_erase hm
          · rw [Pr.upd_other _ _ e2] at hm; exact hm
    · right
      refine ⟨?_, c2⟩
      unfold slept at hm
      split at hm
      · exact hm
      · exact hm
  refine ⟨h.T, h.Q, h.d, h.n, ?_, ?_, fun t => ?_, fun j j1 j2 hc => ?_, fun j v hv hm => ?_, fun j j1 j2 hc hm => ?_, ?_, fun h0 => ?_⟩
  · rw [s1, s3]
    refine fsame_congr hL.fs (fun t _ => ?_)
    unfold slept
    split
    · show (Fr.upd S.T k _ t).c = _ ∧ (Fr.upd S.T k _ t).g = _
      unfold Fr.upd; split
      · rename_i e; subst e; exact ⟨rfl, rfl⟩
      · exact ⟨rfl, rfl⟩
    · split
      · split <;> exact ⟨rfl, rfl⟩
      · exact ⟨rfl, rfl⟩
  · rw [s2]
    refine dsame_congr hL.ds (fun t _ => ?_)
    unfold slept
    split
    · rfl
    · split
      · split <;> rfl
      · show (De.upd S.d k _ t).p = _
        unfold De.upd; split
        · rename_i e; subst e; rfl
        · rfl
  · rw [s5, hC]; exact hL.C t
  · rw [h.f, hrs]
    unfold updI
    by_cases e : j = k
    · subst e; rw [if_pos rfl, if_pos rfl]; rfl
    · rw [if_neg (by omega), if_neg e]; exact hL.off j j1 j2 (by rw [hC] at hc; exact hc)
  · rw [s6]
    rcases key j v hv hm with ⟨a, -⟩ | ⟨a, -⟩ <;> exact hL.inq j v hv a
  · rw [s6]
    rw [hC] at hc
    by_cases c2 : S.C k = 2
    · rw [ready_2 c2] at hr
      cases hs : Pr.seek S.Q (k : Int) with
      | none => rw [hs] at hr; cases hr
      | some i =>
        obtain ⟨hi, hmi⟩ := Pr.seek_is hs
        have eS : slept S k = { S with Q := upd S.Q i ((S.Q i).erase k), A := upd S.A k i } := by unfold slept; rw [if_neg (by omega), if_pos c2, hs]
        rw [eS] at hm ⊢
        show M.A j = Pr.upd S.A k (i : Int) j
        by_cases e : j = k
        · subst e; rw [Pr.upd_same]; exact hL.inq j i hi hmi
        · rw [Pr.upd_other _ _ e]
          refine hL.outq j j1 j2 hc (fun v hv hv2 => hm v hv ?_)
          show (j : Int) ∈ Pr.upd S.Q i _ v
          by_cases e2 : v = i
          · subst e2; rw [Pr.upd_same]; exact (List.mem_erase_of_ne (by omega)).2 hv2
          · rw [Pr.upd_other _ _ e2]; exact hv2
    · have eQ : (slept S k).Q = S.Q ∧ (slept S k).A = S.A := by
        unfold slept; split
        · exact ⟨rfl, rfl⟩
        · exact ⟨rfl, rfl⟩
      rw [eQ.2]
      exact hL.outq j j1 j2 hc (fun v hv hv2 => hm v hv (by rw [eQ.1]; exact hv2))
  · rw [s7, hL.now]
    unfold slept; split
    · rfl
    · split
      · split <;> rfl
      · rfl
  · have eN : (slept S k).now = S.now ∧ (slept S k).row = S.row := by
      unfold slept; split
      · exact ⟨rfl, rfl⟩
      · split
        · split <;> exact ⟨rfl, rfl⟩
        · exact ⟨rfl, rfl⟩
    rw [s8, eN.2]; rw [eN.1] at h0; exact hL.used h0

theorem link_woken {M' : RSt} (hL : Link S M) (hI : Inv S b) {k : Nat} (h1 : 1 ≤ k) (h2 : k ≤ 16) (hck : S.C k ≠ 0) (hr : ready S k = false) (h : Turned (woken S k) M M' k false) : Link (woken S k) M' := by
  obtain ⟨s1, s2, s3, s5, s6, s7, s8⟩ := h.same
  have hrs := hI.ready_woken (k := k) (by omega) hck
  have hC := woken_C S k
  have eA : (woken S k).A = S.A := by unfold woken; split; rfl; split <;> rfl
  have eN : (woken S k).now = S.now ∧ (woken S k).row = S.row := by unfold woken; split; exact ⟨rfl, rfl⟩; split <;> exact ⟨rfl, rfl⟩
  refine ⟨h.T, h.Q, h.d, h.n, ?_, ?_, fun t => ?_, fun j j1 j2 hc => ?_, fun j v hv hm => ?_, fun j j1 j2 hc hm => ?_, ?_, fun h0 => ?_⟩
  · rw [s1, s3]
    refine fsame_congr hL.fs (fun t _ => ?_)
    unfold woken
    split
    · exact (Fr.woke_cg S.T S.G k).1 t
    · split <;> exact ⟨rfl, rfl⟩
  · rw [s2]
    refine dsame_congr hL.ds (fun t _ => ?_)
    unfold woken
    split
    · rfl
    · split
      · rfl
      · show (De.upd S.d k _ t).p = _
        unfold De.upd; split
        · rename_i e; subst e; unfold De.woke De.fill; split <;> rfl
        · rfl
  · rw [s5, hC]; exact hL.C t
  · rw [h.f, hrs]
    unfold updI
    by_cases e : j = k
    · subst e; rw [if_pos rfl, if_pos rfl]; rfl
    · rw [if_neg (by omega), if_neg e]; exact hL.off j j1 j2 (by rw [hC] at hc; exact hc)
  · rw [s6]
    by_cases c2 : S.C k = 2
    · have eS : woken S k = { S with Q := upd S.Q (S.A k).toNat (S.Q (S.A k).toNat ++ [(k : Int)]) } := by unfold woken; rw [if_neg (by omega), if_pos c2]
      rw [eS] at hm
      change (j : Int) ∈ Pr.upd S.Q (S.A k).toNat _ v at hm
      have ha := hI.av k (by omega)
      by_cases e2 : v = (S.A k).toNat
      · subst e2
        rw [Pr.upd_same] at hm
        rcases List.mem_append.1 hm with hm | hm
        · exact hL.inq j _ hv hm
        · have : j = k := by simp at hm; omega
          subst this
          rw [ready_2 c2] at hr
          have := hL.outq j h1 h2 c2 (fun u hu hu2 => by
            cases hs : Pr.seek S.Q (j : Int) with
            | none => exact Pr.seek_no hs hu hu2
            | some i => rw [hs] at hr; cases hr)
          rw [this]; omega
      · rw [Pr.upd_other _ _ e2] at hm; exact hL.inq j v hv hm
    · have eQ : (woken S k).Q = S.Q := by unfold woken; split; rfl; rfl
      rw [eQ] at hm; exact hL.inq j v hv hm
  · rw [s6, eA]
    rw [hC] at hc
    refine hL.outq j j1 j2 hc (fun v hv hv2 => hm v hv ?_)
    unfold woken
    split
    · exact hv2
    · split
      · show (j : Int) ∈ Pr.upd S.Q _ _ v
        by_cases e2 : v = (S.A k).toNat
        · subst e2; rw [Pr.upd_same]; simp [hv2]
        · rw [Pr.upd_other _ _ e2]; exact hv2
      · exact hv2
  · rw [s7, hL.now, eN.1]
  · rw [s8, eN.2]; rw [eN.1] at h0; exact hL.used h0

theorem rturn_free (h : RefP B w q M) (hL : Link S M) (t : Int) (wt0 : (Lit.int .i64 t).wf = true) (x : Bool) (hf : Free S t) :
    Calls Tryz.prog 15 #[.pointer (some ⟨q, 0, none⟩), .int .i64 t, .bool x] w (fun e w' => e = .returned (.int .i64 4) ∧ w = w') := by
  have pc := h.pc
  have lc := h.mc.look t wt0
  rw [show M.C t = 0 from by
    rw [hL.C]; unfold Free at hf
    by_cases e : 1 ≤ t ∧ t ≤ 16
    · rw [if_pos e]; omega
    · rw [if_neg e]] at lc
  clear h hL hf
  go_enter Tryz.func15, Tryz.ntmps15
  go_wp2_with fail
  go_ret
  exact ⟨rfl, rfl⟩
theorem rturn_state (h : RefP B w q M) (hL : Link S M) (hI : Inv S b) {k : Nat} (h1 : 1 ≤ k) (h2 : k ≤ 16) (hc : S.C k ≠ 0) (x : Bool) (hr : ready S k = !x) :
    Calls Tryz.prog 15 #[.pointer (some ⟨q, 0, none⟩), .int .i64 k, .bool x] w (fun e w' => e = .returned (.int .i64 8) ∧ w = w') := by
  have wt : (Lit.int .i64 (k : Int)).wf = true := i64_wf (by omega)
  have pc := h.pc
  have po := h.po
  have lc := h.mc.look (k : Int) wt
  have lo := h.mo.look (k : Int) wt
  rw [hL.off k h1 h2 hc, hr, Bool.not_not] at lo
  rw [C_at hL h2 hI] at lc
  have e0 : (S.C k == 0) = false := beq_eq_false_iff_ne.2 hc
  generalize S.C k = c at lc e0
  clear h hL hI hr hc wt
  go_enter Tryz.func15, Tryz.ntmps15
  go_wp2_with fail
  go_ret
  exact ⟨rfl, rfl⟩

set_option maxHeartbeats 2000000 in
theorem rturn_1off (h : RefP B w q M) (hL : Link S M) (hI : Inv S b) (hc9 : M.c < 9000000000000000000) {k : Nat} (h1 : 1 ≤ k) (h2 : k ≤ 16) (hc : S.C k = 1) (hr : ready S k = true) :
    Calls Tryz.prog 15 #[.pointer (some ⟨q, 0, none⟩), .int .i64 k, .bool true] w (RTurn B q (slept S k) M k true w) := by
  have H := Lib.hid h
  have HL := Lib.hid hL
  have HI := Lib.hid hI
  have HR := Lib.hid hr
  have HC2 := Lib.hid hc
  have hcm := C_at hL h2 hI
  rw [hc] at hcm
  have hfk := hL.off k h1 h2 (by omega)
  rw [hr] at hfk
  have wt : Hid ((Lit.int .i64 (k : Int)).wf = true) := Lib.hid (i64_wf (by omega))
  have pc := h.pc
  have po := h.po
  have lc := h.mc.look (k : Int) wt.out
  rw [hcm] at lc
  have lo := h.mo.look (k : Int) wt.out
  rw [hfk] at lo
  have HCM := Lib.hid hcm
  have HCN := Lib.hid hc9
  have UPD := Lib.hid (fun (W : World) (hO' : OffAt W M.ko (M.c + 1) (updI M.f k true)) (hO : Only (· = M.ko) w W) => h.maps (hO.mono (fun _ _ e => Or.inr (Or.inr e))) ((h.mc.keep hO h.k2).mono (Nat.le_succ _)) ((h.mv.keep hO h.k3).mono (Nat.le_succ _)) hO')
  clear h hL hI hc9 hr hc hcm hfk
  obtain ⟨b0, hb0⟩ := HL.out.fs.all k (by omega) ((HI.out.cf k (by omega)).1 HC2.out)
  have HX := Lib.hid hb0
  have FR := Lib.hid (fun (W : World) (M1 : RSt) (hH : RefP B W q M1) (hM : M1.LF = M.LF ∧ M1.T = M.T ∧ M1.W = M.W) => show Fr.RefAt B W q 0 44 M.LF S.T Fr.noG M.W (fun _ => 0) from by have := hH.fair; rw [hM.1, hM.2.1, hM.2.2, HL.out.T] at this; exact this)
  have hts := Lib.hid (show slept S k = { S with T := Fr.upd S.T k ⟨(S.T k).c, (S.T k).v, (S.T k).g, false⟩ } by unfold slept; rw [if_pos HC2.out])
  clear hb0
  go_enter Tryz.func15, Tryz.ntmps15
  go_wp2_with (first
    | (at_mapUpdate; refine wpList_off2 rfl _ _ _ rfl M.ko M.c M.f rfl H.out.mo HCN.out (k : Int) true rfl rfl wt.out ?_; intro w1 hM1 hO1; obtain ⟨h1a, h1b⟩ := UPD.out w1 hM1 hO1; have H1 := Lib.hid h1a; have S1 := Lib.hid h1b; clear hM1 hO1; have pc1 := h1a.pc; have lc1 := h1a.mc.look (k : Int) wt.out; rw [show ({ M with c := M.c + 1, C := M.C, A := M.A, f := updI M.f k true } : RSt).C k = 1 from HCM.out] at lc1; clear h1a h1b)
    | (go_at_call 38; (with_reducible refine (ffind_yes (FR.out _ _ H1.out ⟨rfl, rfl, rfl⟩) HL.out.fs HX.out).mono ?_); rintro e w2 ⟨rfl, rfl⟩; have dr := (FR.out _ _ H1.out ⟨rfl, rfl, rfl⟩).tr HX.out; have dfz := (FR.out _ _ H1.out ⟨rfl, rfl, rfl⟩).tfrozen HX.out))
  have hO : Only (fun x => x = b0) w1 (w1.setCell ⟨b0, 4, none⟩ (.bool false)) := (Only.refl (fun x => x = b0) w1).setCell (p := ⟨b0, 4, none⟩) rfl _
  obtain ⟨q1, q2⟩ := H1.out.by_fair (LF := M.LF) (W := M.W) ((FR.out _ _ H1.out ⟨rfl, rfl, rfl⟩).set_r HX.out false) hO (Still.of hO H1.out.lt (fun e => (FR.out _ _ H1.out ⟨rfl, rfl, rfl⟩).apart _ HX.out e.symm)) (fun x _ hk => Or.inr (Or.inl (by subst hk; exact ⟨_, _, (FR.out _ _ H1.out ⟨rfl, rfl, rfl⟩).task _ HX.out⟩))) (fun x hk => by subst hk; exact (FR.out _ _ H1.out ⟨rfl, rfl, rfl⟩).from'.2 _ HX.out)
  have H2 := Lib.hid q1
  have S2 := Lib.hid q2
  go_ret
  exact ⟨rfl, _, H2.out, S1.out.trans S2.out, ⟨⟨rfl, rfl, rfl, rfl, rfl, rfl, rfl⟩, rfl, rfl, by rw [hts.out], by rw [hts.out]; exact HL.out.Q, by rw [hts.out]; exact HL.out.d, by rw [hts.out]; exact HL.out.n⟩⟩

set_option maxHeartbeats 2000000 in
theorem rturn_1on (h : RefP B w q M) (hL : Link S M) (hI : Inv S b) (hc9 : M.c < 9000000000000000000) {k : Nat} (h1 : 1 ≤ k) (h2 : k ≤ 16) (hc : S.C k = 1) (hr : ready S k = false) :
    Calls Tryz.prog 15 #[.pointer (some ⟨q, 0, none⟩), .int .i64 k, .bool false] w (RTurn B q (woken S k) M k false w) := by
  have H := Lib.hid h
  have HL := Lib.hid hL
  have HI := Lib.hid hI
  have HR := Lib.hid hr
  have HC2 := Lib.hid hc
  have hcm := C_at hL h2 hI
  rw [hc] at hcm
  have hfk := hL.off k h1 h2 (by omega)
  rw [hr] at hfk
  have wt : Hid ((Lit.int .i64 (k : Int)).wf = true) := Lib.hid (i64_wf (by omega))
  have pc := h.pc
  have po := h.po
  have lc := h.mc.look (k : Int) wt.out
  rw [hcm] at lc
  have lo := h.mo.look (k : Int) wt.out
  rw [hfk] at lo
  have HCM := Lib.hid hcm
  have HCN := Lib.hid hc9
  have UPD := Lib.hid (fun (W : World) (hO' : OffAt W M.ko (M.c + 1) (updI M.f k false)) (hO : Only (· = M.ko) w W) => h.maps (hO.mono (fun _ _ e => Or.inr (Or.inr e))) ((h.mc.keep hO h.k2).mono (Nat.le_succ _)) ((h.mv.keep hO h.k3).mono (Nat.le_succ _)) hO')
  clear h hL hI hc9 hr hc hcm hfk
  obtain ⟨b0, hb0⟩ := HL.out.fs.all k (by omega) ((HI.out.cf k (by omega)).1 HC2.out)
  have HX := Lib.hid hb0
  have FR := Lib.hid (fun (W : World) (M1 : RSt) (hH : RefP B W q M1) (hM : M1.LF = M.LF ∧ M1.T = M.T ∧ M1.W = M.W) => show Fr.RefAt B W q 0 44 M.LF S.T Fr.noG M.W (fun _ => 0) from by have := hH.fair; rw [hM.1, hM.2.1, hM.2.2, HL.out.T] at this; exact this)
  have hts := Lib.hid (show woken S k = { S with T := Fr.wokeT S.T S.G k, G := Fr.wokeG S.T S.G k } by unfold woken; rw [if_pos HC2.out])
  have hg := HI.out.grp k (by omega)
  have hv := HI.out.fit.v k (by omega)
  have WK := Lib.hid (fun (W : World) (hR : Fr.RefAt B W q 0 44 M.LF S.T Fr.noG M.W (fun _ => 0)) => Fr.wokeup_solo hR HL.out.fs HI.out.tr0 HI.out.fit.rc HX.out hv.1 hg)
  have EG := Lib.hid (show Fr.wokeG S.T Fr.noG k = Fr.noG from Fr.wokeG_0 hg)
  have EG2 := Lib.hid HI.out.gno
  clear hb0 hg hv
  go_enter Tryz.func15, Tryz.ntmps15
  go_wp2_with (at_mapUpdate; refine wpList_off2 rfl _ _ _ rfl M.ko M.c M.f rfl H.out.mo HCN.out (k : Int) false rfl rfl wt.out ?_; intro w1 hM1 hO1; obtain ⟨h1a, h1b⟩ := UPD.out w1 hM1 hO1; have H1 := Lib.hid h1a; have S1 := Lib.hid h1b; clear hM1 hO1; have pc1 := h1a.pc; have lc1 := h1a.mc.look (k : Int) wt.out; rw [show ({ M with c := M.c + 1, C := M.C, A := M.A, f := updI M.f k false } : RSt).C k = 1 from HCM.out] at lc1; clear h1a h1b)
  clear lc1 pc1
  go_region_with (first
    | (go_at_call 38; (with_reducible refine (ffind_yes ((FR.out _ _ H1.out ⟨rfl, rfl, rfl⟩).later (Only.refl _ _).drew) HL.out.fs HX.out).mono ?_); rintro e w2 ⟨rfl, rfl⟩)
    | (go_at_call 32; (with_reducible refine (WK.out _ ((FR.out _ _ H1.out ⟨rfl, rfl, rfl⟩).later (Only.refl _ _).drew)).mono ?_); rintro e w3 ⟨rfl, hR3, hO3⟩; have H2 := Lib.hid (show RefP B w3 q { M with c := M.c + 1, f := updI M.f k false, T := Fr.wokeT S.T Fr.noG k } ∧ RStep B q M.U M.U w1 w3 from by
        rw [EG.out] at hR3
        have h0 := H1.out.later (Only.refl (fun _ => False) w1).drew
        have hF0 := FR.out _ _ h0 ⟨rfl, rfl, rfl⟩
        obtain ⟨q1, q2⟩ := h0.by_fair (LF := M.LF) (W := M.W) hR3 hO3 (Still.of hO3 h0.lt (fun e => hF0.apart _ HX.out e.symm)) (fun x _ hk => Or.inr (Or.inl (by subst hk; exact ⟨_, _, hF0.task _ HX.out⟩))) (fun x hk => by subst hk; exact hF0.from'.2 _ HX.out)
        exact ⟨q1, (RStep.of_quiet (Only.refl _ _).drew).trans q2⟩); clear hR3 hO3))
  all_goals (
    (try go_wp2_with fail)
    go_ret
    exact ⟨rfl, _, H2.out.1, S1.out.trans H2.out.2, ⟨⟨rfl, rfl, rfl, rfl, rfl, rfl, rfl⟩, rfl, rfl, by rw [hts.out, EG2.out], by rw [hts.out]; exact HL.out.Q, by rw [hts.out]; exact HL.out.d, by rw [hts.out]; exact HL.out.n⟩⟩)

set_option maxHeartbeats 2000000 in
theorem rturn_3off (h : RefP B w q M) (hL : Link S M) (hI : Inv S b) (hc9 : M.c < 9000000000000000000) {k : Nat} (h1 : 1 ≤ k) (h2 : k ≤ 16) (hc : S.C k = 3) (hr : ready S k = true) :
    Calls Tryz.prog 15 #[.pointer (some ⟨q, 0, none⟩), .int .i64 k, .bool true] w (RTurn B q (slept S k) M k true w) := by
  have H := Lib.hid h
  have HL := Lib.hid hL
  have HI := Lib.hid hI
  have HR := Lib.hid hr
  have HC2 := Lib.hid hc
  have hcm := C_at hL h2 hI
  rw [hc] at hcm
  have hfk := hL.off k h1 h2 (by omega)
  rw [hr] at hfk
  have wt : Hid ((Lit.int .i64 (k : Int)).wf = true) := Lib.hid (i64_wf (by omega))
  have pc := h.pc
  have po := h.po
  have lc := h.mc.look (k : Int) wt.out
  rw [hcm] at lc
  have lo := h.mo.look (k : Int) wt.out
  rw [hfk] at lo
  have HCM := Lib.hid hcm
  have HCN := Lib.hid hc9
  have UPD := Lib.hid (fun (W : World) (hO' : OffAt W M.ko (M.c + 1) (updI M.f k true)) (hO : Only (· = M.ko) w W) => h.maps (hO.mono (fun _ _ e => Or.inr (Or.inr e))) ((h.mc.keep hO h.k2).mono (Nat.le_succ _)) ((h.mv.keep hO h.k3).mono (Nat.le_succ _)) hO')
  clear h hL hI hc9 hr hc hcm hfk
  obtain ⟨b0, hb0⟩ := HL.out.ds.all k (by omega) ((HI.out.cd k (by omega)).1 HC2.out)
  have HX := Lib.hid hb0
  have FR := Lib.hid (fun (W : World) (M1 : RSt) (hH : RefP B W q M1) (hM : M1.LD = M.LD ∧ M1.d = M.d ∧ M1.n = M.n) => show De.RefAt B W q 36 44 M.LD S.d S.n from by have := hH.dead; rw [hM.1, hM.2.1, hM.2.2, HL.out.d, HL.out.n] at this; exact this)
  have hts := Lib.hid (show slept S k = { S with d := De.upd S.d k (De.slept (S.d k)) } by unfold slept; rw [if_neg (by have := HC2.out; omega), if_neg (by have := HC2.out; omega)])
  clear hb0
  go_enter Tryz.func15, Tryz.ntmps15
  go_wp2_with (first
    | (at_mapUpdate; refine wpList_off2 rfl _ _ _ rfl M.ko M.c M.f rfl H.out.mo HCN.out (k : Int) true rfl rfl wt.out ?_; intro w1 hM1 hO1; obtain ⟨h1a, h1b⟩ := UPD.out w1 hM1 hO1; have H1 := Lib.hid h1a; have S1 := Lib.hid h1b; clear hM1 hO1; have pc1 := h1a.pc; have lc1 := h1a.mc.look (k : Int) wt.out; rw [show ({ M with c := M.c + 1, C := M.C, A := M.A, f := updI M.f k true } : RSt).C k = 3 from HCM.out] at lc1; clear h1a h1b)
    | (go_at_call 39; (with_reducible refine (dfind_yes (FR.out _ _ H1.out ⟨rfl, rfl, rfl⟩) HL.out.ds HX.out).mono ?_); rintro e w2 ⟨rfl, rfl⟩; have dr := (FR.out _ _ H1.out ⟨rfl, rfl, rfl⟩).tr HX.out; have dfz := (FR.out _ _ H1.out ⟨rfl, rfl, rfl⟩).tfrozen HX.out))
  have hO : Only (fun x => x = b0) w1 (w1.setCell ⟨b0, 5, none⟩ (.bool false)) := (Only.refl (fun x => x = b0) w1).setCell (p := ⟨b0, 5, none⟩) rfl _
  obtain ⟨q1, q2⟩ := H1.out.by_dead (LD := M.LD) ((FR.out _ _ H1.out ⟨rfl, rfl, rfl⟩).turn HX.out (x := De.slept (S.d k)) hO (heap_setCell_same w1 b0 5 _ _ _ ((FR.out _ _ H1.out ⟨rfl, rfl, rfl⟩).task _ HX.out))) hO (Still.of hO H1.out.lt (fun e => (FR.out _ _ H1.out ⟨rfl, rfl, rfl⟩).apart _ HX.out e.symm)) (fun x _ hk => Or.inr (Or.inl (by subst hk; exact ⟨_, _, (FR.out _ _ H1.out ⟨rfl, rfl, rfl⟩).task _ HX.out⟩))) (fun x hk => by subst hk; exact (FR.out _ _ H1.out ⟨rfl, rfl, rfl⟩).from'.2 _ HX.out)
  have H2 := Lib.hid q1
  have S2 := Lib.hid q2
  go_ret
  exact ⟨rfl, _, H2.out, S1.out.trans S2.out, ⟨⟨rfl, rfl, rfl, rfl, rfl, rfl, rfl⟩, rfl, rfl, by rw [hts.out]; exact HL.out.T, by rw [hts.out]; exact HL.out.Q, by rw [hts.out], by rw [hts.out]⟩⟩

set_option maxHeartbeats 2000000 in
theorem rturn_3on (h : RefP B w q M) (hL : Link S M) (hI : Inv S b) (hc9 : M.c < 9000000000000000000) {k : Nat} (h1 : 1 ≤ k) (h2 : k ≤ 16) (hc : S.C k = 3) (hr : ready S k = false) (hb : b ≤ 8000000000000) :
    Calls Tryz.prog 15 #[.pointer (some ⟨q, 0, none⟩), .int .i64 k, .bool false] w (RTurn B q (woken S k) M k false w) := by
  have H := Lib.hid h
  have HL := Lib.hid hL
  have HI := Lib.hid hI
  have HR := Lib.hid hr
  have HC2 := Lib.hid hc
  have hcm := C_at hL h2 hI
  rw [hc] at hcm
  have hfk := hL.off k h1 h2 (by omega)
  rw [hr] at hfk
  have wt : Hid ((Lit.int .i64 (k : Int)).wf = true) := Lib.hid (i64_wf (by omega))
  have pc := h.pc
  have po := h.po
  have lc := h.mc.look (k : Int) wt.out
  rw [hcm] at lc
  have lo := h.mo.look (k : Int) wt.out
  rw [hfk] at lo
  have HCM := Lib.hid hcm
  have HCN := Lib.hid hc9
  have UPD := Lib.hid (fun (W : World) (hO' : OffAt W M.ko (M.c + 1) (updI M.f k false)) (hO : Only (· = M.ko) w W) => h.maps (hO.mono (fun _ _ e => Or.inr (Or.inr e))) ((h.mc.keep hO h.k2).mono (Nat.le_succ _)) ((h.mv.keep hO h.k3).mono (Nat.le_succ _)) hO')
  clear h hL hI hc9 hr hc hcm hfk
  obtain ⟨b0, hb0⟩ := HL.out.ds.all k (by omega) ((HI.out.cd k (by omega)).1 HC2.out)
  have HX := Lib.hid hb0
  have FR := Lib.hid (fun (W : World) (M1 : RSt) (hH : RefP B W q M1) (hM : M1.LD = M.LD ∧ M1.d = M.d ∧ M1.n = M.n) => show De.RefAt B W q 36 44 M.LD S.d S.n from by have := hH.dead; rw [hM.1, hM.2.1, hM.2.2, HL.out.d, HL.out.n] at this; exact this)
  have hts := Lib.hid (show woken S k = { S with d := De.upd S.d k (De.woke (S.d k) S.n) } by unfold woken; rw [if_neg (by have := HC2.out; omega), if_neg (by have := HC2.out; omega)])
  have okk := HI.out.dfit.at (t := k) (by omega)
  have n0 := HI.out.n0
  have nB := HI.out.nB
  have WK := Lib.hid (fun (W : World) (hR : De.RefAt B W q 36 44 M.LD S.d S.n) => De.wokenr_any (n := S.n) (hR.task _ HX.out) n0 (by omega) (by have := okk.d; simp only; omega) okk.b.1 (by have := okk.b; have := okk.p; simp only; omega) okk.l.1 (by have := okk.l; have := okk.b; have := okk.p; simp only; omega) (by have := okk.b; simp only; omega) okk.p)
  clear hb0 okk n0 nB
  go_enter Tryz.func15, Tryz.ntmps15
  go_wp2_with (at_mapUpdate; refine wpList_off2 rfl _ _ _ rfl M.ko M.c M.f rfl H.out.mo HCN.out (k : Int) false rfl rfl wt.out ?_; intro w1 hM1 hO1; obtain ⟨h1a, h1b⟩ := UPD.out w1 hM1 hO1; have H1 := Lib.hid h1a; have S1 := Lib.hid h1b; clear hM1 hO1; have pc1 := h1a.pc; have lc1 := h1a.mc.look (k : Int) wt.out; rw [show ({ M with c := M.c + 1, C := M.C, A := M.A, f := updI M.f k false } : RSt).C k = 3 from HCM.out] at lc1; clear h1a h1b)
  clear lc1 pc1
  have dn := (FR.out _ _ (H1.out.later (Only.refl (fun _ => False) w1).drew) ⟨rfl, rfl, rfl⟩).now
  go_region_with (first
    | (go_at_call 39; (with_reducible refine (dfind_yes ((FR.out _ _ H1.out ⟨rfl, rfl, rfl⟩).later (Only.refl _ _).drew) HL.out.ds HX.out).mono ?_); rintro e w2 ⟨rfl, rfl⟩)
    | (go_at_call 40; (with_reducible refine (WK.out _ ((FR.out _ _ H1.out ⟨rfl, rfl, rfl⟩).later (Only.refl _ _).drew)).mono ?_); rintro e w3 ⟨rfl, hR3, hO3⟩; have H2 := Lib.hid (show RefP B w3 q { M with c := M.c + 1, f := updI M.f k false, d := De.upd S.d k (De.woke (S.d k) S.n), n := S.n } ∧ RStep B q M.U M.U w1 w3 from by
        have h0 := H1.out.later (Only.refl (fun _ => False) w1).drew
        have hF0 := FR.out _ _ h0 ⟨rfl, rfl, rfl⟩
        obtain ⟨q1, q2⟩ := h0.by_dead (LD := M.LD) (hF0.turn HX.out hO3 hR3) hO3 (Still.of hO3 h0.lt (fun e => hF0.apart _ HX.out e.symm)) (fun x _ hk => Or.inr (Or.inl (by subst hk; exact ⟨_, _, hF0.task _ HX.out⟩))) (fun x hk => by subst hk; exact hF0.from'.2 _ HX.out)
        exact ⟨q1, (RStep.of_quiet (Only.refl _ _).drew).trans q2⟩); clear hR3 hO3))
  all_goals (
    (try go_wp2_with fail)
    go_ret
    exact ⟨rfl, _, H2.out.1, S1.out.trans H2.out.2, ⟨⟨rfl, rfl, rfl, rfl, rfl, rfl, rfl⟩, rfl, rfl, by rw [hts.out]; exact HL.out.T, by rw [hts.out]; exact HL.out.Q, by rw [hts.out], by rw [hts.out]⟩⟩)

set_option maxHeartbeats 2000000 in
theorem rturn_2off (h : RefP B w q M) (hL : Link S M) (hI : Inv S b) (hc9 : M.c < 9000000000000000000) {k : Nat} (h1 : 1 ≤ k) (h2 : k ≤ 16) (hc : S.C k = 2) (hr : ready S k = true) :
    Calls Tryz.prog 15 #[.pointer (some ⟨q, 0, none⟩), .int .i64 k, .bool true] w (RTurn B q (slept S k) M k true w) := by
  have H := Lib.hid h
  have HL := Lib.hid hL
  have HI := Lib.hid hI
  have HR := Lib.hid hr
  have HC2 := Lib.hid hc
  have hcm := C_at hL h2 hI
  rw [hc] at hcm
  have hfk := hL.off k h1 h2 (by omega)
  rw [hr] at hfk
  have wt : Hid ((Lit.int .i64 (k : Int)).wf = true) := Lib.hid (i64_wf (by omega))
  have pc := h.pc
  have po := h.po
  have lc := h.mc.look (k : Int) wt.out
  rw [hcm] at lc
  have lo := h.mo.look (k : Int) wt.out
  rw [hfk] at lo
  have HCM := Lib.hid hcm
  have HCN := Lib.hid hc9
  have UPD := Lib.hid (fun (W : World) (hO' : OffAt W M.ko (M.c + 1) (updI M.f k true)) (hO : Only (· = M.ko) w W) => h.maps (hO.mono (fun _ _ e => Or.inr (Or.inr e))) ((h.mc.keep hO h.k2).mono (Nat.le_succ _)) ((h.mv.keep hO h.k3).mono (Nat.le_succ _)) hO')
  clear h hL hI hc9 hr hc hcm hfk
  have hsk : ∃ i, Pr.seek S.Q (k : Int) = some i := by
    have := HR.out
    rw [ready_2 HC2.out] at this
    exact Option.isSome_iff_exists.1 this
  obtain ⟨i, hi⟩ := hsk
  have hts := Lib.hid (show slept S k = { S with Q := upd S.Q i ((S.Q i).erase k), A := upd S.A k i } by unfold slept; rw [if_neg (by have := HC2.out; omega), if_pos HC2.out, hi])
  obtain ⟨hi8, him⟩ := Pr.seek_is hi
  have HGO := Lib.hid (HI.out.uniq.gone hi8 him)
  have KG := Lib.hid (fun (W : World) (M1 : RSt) (hH : RefP B W q M1) (hM : M1.Q = M.Q) => Pr.go_any (show Pr.QAt W q 28 44 M1.U S.Q from by have := hH.prio; rw [hM, HL.out.Q] at this; exact this) (fun j hj => by have := HI.out.uniq.len hj; omega) (k : Int))
  clear hi hi8 him
  go_enter Tryz.func15, Tryz.ntmps15
  go_wp2_with (first
    | (at_mapUpdate; refine wpList_off2 rfl _ _ _ rfl M.ko M.c M.f rfl H.out.mo HCN.out (k : Int) true rfl rfl wt.out ?_; intro w1 hM1 hO1; obtain ⟨h1a, h1b⟩ := UPD.out w1 hM1 hO1; have H1 := Lib.hid h1a; have S1 := Lib.hid h1b; clear hM1 hO1; have pc1 := h1a.pc; have lc1 := h1a.mc.look (k : Int) wt.out; rw [show ({ M with c := M.c + 1, C := M.C, A := M.A, f := updI M.f k true } : RSt).C k = 2 from HCM.out] at lc1; clear h1a h1b)
    | (go_at_call 35; (with_reducible refine (KG.out _ _ H1.out rfl).mono ?_); rintro e w2 ⟨rfl, U2, hq2, hs2⟩; rw [HGO.out] at hq2; obtain ⟨q1, q2⟩ := H1.out.by_prio (by have := H1.out.low.1; have := (nums_map H1.out.mc).lt; omega) hq2 hs2; have H2 := Lib.hid q1; have S2 := Lib.hid q2; clear hq2 hs2 q1 q2))
  go_ret
  exact ⟨rfl, _, H2.out, S1.out.trans S2.out, ⟨⟨rfl, rfl, rfl, rfl, rfl, rfl, rfl⟩, rfl, rfl, by rw [hts.out]; exact HL.out.T, by rw [hts.out], by rw [hts.out]; exact HL.out.d, by rw [hts.out]; exact HL.out.n⟩⟩

set_option maxHeartbeats 20000000 in
theorem rturn_2on (h : RefP B w q M) (hL : Link S M) (hI : Inv S b) (hc9 : M.c < 9000000000000000000) {k : Nat} (h1 : 1 ≤ k) (h2 : k ≤ 16) (hc : S.C k = 2) (hr : ready S k = false) :
    Calls Tryz.prog 15 #[.pointer (some ⟨q, 0, none⟩), .int .i64 k, .bool false] w (RTurn B q (woken S k) M k false w) := by
  have H := Lib.hid h
  have HL := Lib.hid hL
  have HI := Lib.hid hI
  have HR := Lib.hid hr
  have HC2 := Lib.hid hc
  have hcm := C_at hL h2 hI
  rw [hc] at hcm
  have hfk := hL.off k h1 h2 (by omega)
  rw [hr] at hfk
  have wt : Hid ((Lit.int .i64 (k : Int)).wf = true) := Lib.hid (i64_wf (by omega))
  have pc := h.pc
  have po := h.po
  have lc := h.mc.look (k : Int) wt.out
  rw [hcm] at lc
  have lo := h.mo.look (k : Int) wt.out
  rw [hfk] at lo
  have HCM := Lib.hid hcm
  have HCN := Lib.hid hc9
  have UPD := Lib.hid (fun (W : World) (hO' : OffAt W M.ko (M.c + 1) (updI M.f k false)) (hO : Only (· = M.ko) w W) => h.maps (hO.mono (fun _ _ e => Or.inr (Or.inr e))) ((h.mc.keep hO h.k2).mono (Nat.le_succ _)) ((h.mv.keep hO h.k3).mono (Nat.le_succ _)) hO')
  clear h hL hI hc9 hr hc hcm hfk
  have hsk : Pr.seek S.Q (k : Int) = none := by
    have := HR.out
    rw [ready_2 HC2.out] at this
    cases hs : Pr.seek S.Q (k : Int) with
    | none => rfl
    | some i => rw [hs] at this; cases this
  have hts := Lib.hid (show woken S k = { S with Q := upd S.Q (S.A k).toNat (S.Q (S.A k).toNat ++ [(k : Int)]) } by unfold woken; rw [if_neg (by have := HC2.out; omega), if_pos HC2.out])
  have ha := HI.out.av k (by omega)
  obtain ⟨v, hv⟩ : ∃ v : Nat, S.A k = v := ⟨(S.A k).toNat, by omega⟩
  have hv8 : v < 8 := by omega
  have hvn : (S.A k).toNat = v := by omega
  rw [hvn] at hts
  have HAV := Lib.hid (show M.A k = v from by rw [← hv]; exact HL.out.outq k h1 h2 HC2.out (fun u hu => Pr.seek_no hsk hu))
  have HGO := Lib.hid (Pr.gone_none hsk)
  have HLEN := Lib.hid (show (S.Q v).length + 1 ≤ 17000000000000 from by have := HI.out.uniq.len hv8; omega)
  have KG := Lib.hid (fun (W : World) (M1 : RSt) (hH : RefP B W q M1) (hM : M1.Q = M.Q) => Pr.go_any (show Pr.QAt W q 28 44 M1.U S.Q from by have := hH.prio; rw [hM, HL.out.Q] at this; exact this) (fun j hj => by have := HI.out.uniq.len hj; omega) (k : Int))
  clear hsk ha hv hvn
  go_enter Tryz.func15, Tryz.ntmps15
  go_wp2_with (first
    | (at_mapUpdate; refine wpList_off2 rfl _ _ _ rfl M.ko M.c M.f rfl H.out.mo HCN.out (k : Int) false rfl rfl wt.out ?_; intro w1 hM1 hO1; obtain ⟨h1a, h1b⟩ := UPD.out w1 hM1 hO1; have H1 := Lib.hid h1a; have S1 := Lib.hid h1b; clear hM1 hO1; have pc1 := h1a.pc; have lc1 := h1a.mc.look (k : Int) wt.out; rw [show ({ M with c := M.c + 1, C := M.C, A := M.A, f := updI M.f k false } : RSt).C k = 2 from HCM.out] at lc1; clear h1a h1b)
    | (go_at_call 35; (with_reducible refine (KG.out _ _ H1.out rfl).mono ?_); rintro e w2 ⟨rfl, U2, hq2, hs2⟩; rw [HGO.out] at hq2; obtain ⟨q1, q2⟩ := H1.out.by_prio (by have := H1.out.low.1; have := (nums_map H1.out.mc).lt; omega) hq2 hs2; have H2 := Lib.hid q1; have S2 := Lib.hid q2; clear hq2 hs2 q1 q2))
  clear lc1 pc1
  have pv2 := H2.out.pv
  have lv2 := H2.out.mv.look (k : Int) wt.out
  rw [show ({ M with c := M.c + 1, f := updI M.f k false, U := U2, Q := S.Q } : RSt).A k = v from HAV.out] at lv2
  have lv3 := (H2.out.mv.later (Only.refl (fun _ => False) w2).drew).look (k : Int) wt.out
  rw [show ({ M with c := M.c + 1, f := updI M.f k false, U := U2, Q := S.Q } : RSt).A k = v from HAV.out] at lv3
  have lv4 := (H2.out.mv.later ((Only.refl (fun _ => False) w2).alloc (.cells #[.int .i64 (k : Int)] 3)).drew).look (k : Int) wt.out
  rw [show ({ M with c := M.c + 1, f := updI M.f k false, U := U2, Q := S.Q } : RSt).A k = v from HAV.out] at lv4
  have c2 : w2.cell? ⟨q, 28 + v, none⟩ = some (U2 v) := H2.out.prio.cell hv8
  have hp2 := H2.out.lt
  obtain ⟨sa, sc, hsv, -, -⟩ := (H2.out.prio.row v hv8).shape
  replace hsv : U2 v = .slice sa (S.Q v).length sc := hsv
  have HSV := Lib.hid hsv
  rw [hsv] at c2
  clear hsv
  have g1 : (v : Int) < 8 := by omega
  go_region_law (refine step_add2 rfl (.tmp 98) (.tmp 100) rfl w2 q 28 44 w2.heap.size U2 S.Q v (k : Int) H2.out.prio hv8 ((Only.refl _ w2).alloc _).drew (by rw [HSV.out]; rfl) (by rfl) (heap_alloc_new w2 _) HLEN.out ?_; intro g c w3 q1 q2 hO3 HA; rw [HSV.out] at q1; have lv5 := (mv_later H2.out hv8 hO3).look (k : Int) wt.out; rw [show ({ M with c := M.c + 1, f := updI M.f k false, U := U2, Q := S.Q } : RSt).A k = v from HAV.out] at lv5; have pv5 := (Pr.cell_kept (j := 39) hO3 H2.out.lt (H2.out.prio.not_row hv8)).trans H2.out.pv; clear hO3)
  all_goals (
    (try go_wp2_with fail)
    go_ret
    obtain ⟨q3, q4⟩ := H2.out.by_prio (by have := H2.out.low.1; have := (nums_map H2.out.mc).lt; omega) HA.out.at_ HA.out.step
    exact ⟨rfl, _, q3, S1.out.trans (S2.out.trans q4), ⟨⟨rfl, rfl, rfl, rfl, rfl, rfl, rfl⟩, rfl, rfl, by rw [hts.out]; exact HL.out.T, by rw [hts.out], by rw [hts.out]; exact HL.out.d, by rw [hts.out]; exact HL.out.n⟩⟩)
end
end Go.Proofs.YtpincdcebhmnhaaGreat.Rk
