/- Texts of this claim, merged: RkPl. -/
import Derived.Test.YtpincdcebhmnhaaGreatM38
import Derived.Test.YtpincdcebhmnhaaGreatM39
import Derived.Deep.CutBlock
/- The law PickPlays. -/
namespace Go.Proofs.YtpincdcebhmnhaaGreat.Rk
open Go.ChangeShapes Go.WideShapes Go.ChangeAt Go.RowKit Go.Maps
open Go.Proofs.YtpincdcebhmnhaaGreat.Of Go.Proofs.YtpincdcebhmnhaaGreat.Pk Go.Proofs.YtpincdcebhmnhaaGreat.Vt
set_option linter.unusedVariables false

/-- The program's scheduler at S', its reference still at S, side by side in memory. -/
structure Both (w0 w : World) (p : Nat) (V : Nat → Value) (q : Nat) (M : RSt) (S' S : St) (n : Nat) : Prop where
  at_ : PickAt w p 74 V S'
  ref : RefP w0.heap.size w q M
  apart : ∀ k, Pr.Foot p V k → ¬ Pr.Foot q M.U k
  own : ∀ k, Pr.Foot p V k → w0.heap.size ≤ k
  only : Only (fun _ => False) w0 w
  link : Link S M
  cnt : Cnt M n

section
variable {w0 w w' : World} {p q : Nat} {V : Nat → Value} {M : RSt} {S S' S2 : St} {n : Nat} {x : Value}
theorem foot_kind (h : PickAt w p 74 V S) {k : Nat} (hk : Pr.Foot p V k) : Kind w k 74 ∨ Kind w k 3 := by
  rcases hk with e | ⟨i, hi, e⟩
  · subst e
    obtain ⟨cs, h1, -⟩ := h.dead
    exact Or.inl ⟨cs, _, h1⟩
  · obtain ⟨cur, hc⟩ := owns_type (h.prio.row i hi) e
    exact Or.inr ⟨cur, _, hc⟩
theorem ref_foot_lt (h : RefP w0.heap.size w q M) {k : Nat} (hk : Pr.Foot q M.U k) : k < w.heap.size := h.prio.foot_lt hk
theorem Both.quiet (h : Both w0 w p V q M S' S n) (hO : Only (fun _ => False) w w') : Both w0 w' p V q M S' S n :=
  ⟨h.at_.later hO, h.ref.later hO, h.apart, h.own, only_trans h.only hO, h.link, h.cnt⟩
theorem Both.below (h : Both w0 w p V q M S' S n) : Below w0.heap.size w0 w := h.only.below (Nat.le_refl _) (fun _ e => e.elim)
theorem Both.more {m : Nat} (h : Both w0 w p V q M S' S n) (hm : n ≤ m) : Both w0 w p V q M S' S m := ⟨h.at_, h.ref, h.apart, h.own, h.only, h.link, h.cnt.mono hm⟩
/-- A call of the program's. -/
def BProg (w0 : World) (p q : Nat) (M : RSt) (S' S : St) (n : Nat) (x : Value) (e : Ending) (w' : World) : Prop := e = .returned x ∧ ∃ V', Both w0 w' p V' q M S' S n
theorem Both.prog (h : Both w0 w p V q M S' S n) {f : Nat} {args : Array Value} (k : Calls Tryz.prog f args w (Did p 74 V S2 x w)) : Calls Tryz.prog f args w (BProg w0 p q M S2 S n x) := by
  refine k.mono fun e w' ⟨h1, V', h2, h3⟩ => ⟨h1, V', h2, h.ref.beside h3.only (fun k hk => ⟨foot_kind h.at_ hk, h.apart k hk⟩), fun k hk hq => ?_, fun k hk => ?_, h.only.trans h3.only (fun k hk e => by have := h.own k e; omega), h.link, h.cnt⟩
  · rcases h3.grow k hk with e | e
    · exact h.apart k e hq
    · have := ref_foot_lt h.ref hq; omega
  · rcases h3.grow k hk with e | e
    · exact h.own k e
    · exact Nat.le_trans h.only.size e
/-- A call of the reference's. -/
def BRef (w0 : World) (p q : Nat) (V : Nat → Value) (S' S : St) (n : Nat) (x : Value) (e : Ending) (w' : World) : Prop := e = .returned x ∧ ∃ M', Both w0 w' p V q M' S' S (n + 1)
theorem not_rfoot (h : Both w0 w p V q M S' S n) {k : Nat} (hk : Pr.Foot p V k) : ¬ RFoot w q M.U k := fun e => by
  have hkk := foot_kind h.at_ hk
  have no : ∀ t, t ≠ 74 → t ≠ 3 → ¬ Kind w k t := fun t t1 t2 ht => by
    rcases hkk with e | e
    · exact t1 (ht.one e)
    · exact t2 (ht.one e)
  rcases e with e | e | e | e | e | e
  · exact h.apart k hk e
  · exact no _ (by decide) (by decide) e
  · exact no _ (by decide) (by decide) e
  · exact no _ (by decide) (by decide) e
  · exact no _ (by decide) (by decide) e
  · rcases hkk with e2 | e2
    · exact e2.no_map e
    · exact e2.no_map e
theorem Both.toref (h : Both w0 w p V q M S' S n) {f : Nat} {args : Array Value} (k : Calls Tryz.prog f args w (RPlay w0.heap.size q M S2 n x w)) : Calls Tryz.prog f args w (BRef w0 p q V S' S2 n x) := by
  refine k.mono fun e w' ⟨h1, M', h2, h3, h4, h5⟩ => ⟨h1, M', h.at_.keep h3.only (fun k hk => not_rfoot h hk), h2, fun k hk hq => ?_, h.own, ⟨h3.only.os.trans h.only.os, h3.only.tape.trans h.only.tape, h3.only.output.trans h.only.output, Nat.le_trans h.only.size h3.only.size, fun k hk hn => ?_⟩, h4, h5⟩
  · rcases h3.grow k hq with e | e
    · exact h.apart k hk e
    · have := h.at_.foot_lt hk; omega
  · exact (h3.low k (Nat.lt_of_lt_of_le hk h.only.size) hk).trans (h.only.block k hk hn)
end

/-- The cells of a reference that is new. -/
abbrev refNew (a b c : Nat) : Array Value := #[.slice none 0 0, .bool false, .int .i64 0, .int .i64 0, .bool false, .int .i64 0, .int .i64 0, .bool false, .int .i64 0, .int .i64 0, .bool false, .int .i64 0, .int .i64 0, .bool false, .int .i64 0, .int .i64 0, .bool false, .int .i64 0, .int .i64 0, .bool false, .int .i64 0, .int .i64 0, .bool false, .int .i64 0, .int .i64 0, .bool false, .int .i64 0, .int .i64 0, .slice none 0 0, .slice none 0 0, .slice none 0 0, .slice none 0 0, .slice none 0 0, .slice none 0 0, .slice none 0 0, .slice none 0 0, .int .i64 0, .slice none 0 0, .map (some a), .map (some b), .map (some c), .int .i64 0, .int .i64 0]
theorem refNew_cells (a b c : Nat) : Fr.RCells 0 (refNew a b c) (.slice none 0 0) Fr.noG (fun _ => 0) :=
  ⟨by show 0 + 28 ≤ 43; omega, rfl, Fr.lt9 (by repeat' constructor), Fr.lt9 (by repeat' constructor), Fr.lt9 (by repeat' constructor)⟩
theorem refNew_rows (a b c : Nat) : ∀ i, i < 8 → (refNew a b c)[28 + i]? = some (.slice none 0 0) := Pr.lt8 (by repeat' constructor)

/-- A reference with nobody. -/
def noM (a b c : Nat) : RSt := ⟨[], Fr.noT, fun _ => 0, Pr.noV, Pr.noQ, [], De.noT, 0, a, b, c, 0, fun _ => 0, fun _ => 0, fun _ => false, 0, 0⟩
theorem link_start (a b c : Nat) : Link noS (noM a b c) := by
  refine ⟨rfl, rfl, rfl, rfl, ⟨(fun x hx => by cases hx), (fun t _ hc => absurd rfl hc), (fun x hx => by cases hx), (fun g _ hc => absurd rfl hc), rfl, (fun x hx => by cases hx)⟩, ⟨(fun x hx => by cases hx), (fun t _ hc => absurd rfl hc), (fun x hx => by cases hx)⟩, fun t => ?_, fun k _ _ hc => absurd rfl hc, (fun k v _ hm => by cases hm), (fun k _ _ hc => by cases hc), rfl, fun h => absurd rfl h⟩
  show (0 : Int) = if 1 ≤ t ∧ t ≤ 16 then 0 else 0
  split <;> rfl

theorem both_start {w0 w : World} {p : Nat} (h : Mine w0 w p Pr.noV noS) :
    Both w0 ((((w.alloc (.map #[] 0)).alloc (.map #[] 0)).alloc (.map #[] 0)).alloc (.cells (refNew w.heap.size (w.heap.size + 1) (w.heap.size + 1 + 1)) 44)) p Pr.noV (w.heap.size + 1 + 1 + 1) (noM w.heap.size (w.heap.size + 1) (w.heap.size + 1 + 1)) noS noS 0 := by
  have s0 := h.only.size
  have n1 := NumsAt.made w
  obtain ⟨w1, hw1⟩ : ∃ w1, w.alloc (.map #[] 0) = w1 := ⟨_, rfl⟩
  have o1 : Only (fun _ => False) w w1 := by rw [← hw1]; exact (Only.refl _ w).alloc _
  have z1 : w1.heap.size = w.heap.size + 1 := by rw [← hw1]; exact Array.size_push _
  rw [hw1] at n1 ⊢
  have n2 := NumsAt.made w1
  obtain ⟨w2, hw2⟩ : ∃ w2, w1.alloc (.map #[] 0) = w2 := ⟨_, rfl⟩
  have o2 : Only (fun _ => False) w1 w2 := by rw [← hw2]; exact (Only.refl _ w1).alloc _
  have z2 : w2.heap.size = w.heap.size + 1 + 1 := by rw [← hw2, ← z1]; exact Array.size_push _
  rw [hw2, z1] at n2
  rw [hw2]
  have n3 := OffAt.made w2
  obtain ⟨w3, hw3⟩ : ∃ w3, w2.alloc (.map #[] 0) = w3 := ⟨_, rfl⟩
  have o3 : Only (fun _ => False) w2 w3 := by rw [← hw3]; exact (Only.refl _ w2).alloc _
  have z3 : w3.heap.size = w.heap.size + 1 + 1 + 1 := by rw [← hw3, ← z2]; exact Array.size_push _
  rw [hw3, z2] at n3
  rw [hw3, ← z3]
  have o4 : Only (fun _ => False) w3 (w3.alloc (.cells (refNew w.heap.size (w.heap.size + 1) (w.heap.size + 1 + 1)) 44)) := (Only.refl _ w3).alloc _
  have hb := heap_alloc_new w3 (.cells (refNew w.heap.size (w.heap.size + 1) (w.heap.size + 1 + 1)) 44)
  generalize w3.alloc _ = w4 at *
  have o13 := only_trans (only_trans o2 o3) o4
  have o23 := only_trans o3 o4
  have o04 := only_trans o1 o13
  refine ⟨h.at_.later o04, ⟨⟨⟨_, _, hb, refNew_cells _ _ _, Pt.row_nil _ _, (fun g hg => by cases hg)⟩, (fun x hx => by cases hx), ⟨by omega, (fun x hx => by cases hx)⟩, (fun x hx => by cases hx), List.nodup_nil, List.nodup_nil⟩,
    ⟨⟨_, hb, refNew_rows _ _ _⟩, by decide, fun i hi => ints_nil _ _, fun i j k hi hj hij e => by cases e⟩,
    ⟨⟨_, _, hb, ⟨rfl, rfl⟩, Pd.row_nil _ _, (fun g hg => by cases hg)⟩, (fun x hx => by cases hx), ⟨by omega, (fun x hx => by cases hx)⟩, (fun x hx => by cases hx), List.nodup_nil, List.nodup_nil⟩,
    by rw [cell_at hb]; rfl, by rw [cell_at hb]; rfl, by rw [cell_at hb]; rfl, by rw [cell_at hb]; rfl, by rw [cell_at hb]; rfl,
    n1.keep o13 id, n2.keep o23 id, n3.keep o4 id, by show w.heap.size ≠ w.heap.size + 1; omega, by show w.heap.size ≠ w.heap.size + 1 + 1; omega, by show w.heap.size + 1 ≠ w.heap.size + 1 + 1; omega,
    by show _ ≤ w.heap.size; omega, by show _ ≤ w.heap.size + 1; omega, by show _ ≤ w.heap.size + 1 + 1; omega, fun k hk => by rw [Pr.no_foot hk]; omega⟩, fun k hk hq => ?_, h.own, only_trans h.only o04, link_start _ _ _, ⟨by show (0 : Nat) ≤ 0; omega, by show (0 : Int) ≤ 0; omega, by show (0 : Int) ≤ ((0 : Nat) : Int); omega⟩⟩
  rw [Pr.no_foot hq] at hk
  have := h.at_.foot_lt hk
  omega

/-- What is known ere each play. -/
def Ere (w0 : World) (p q N : Nat) (s : Value) (wr : World) : Prop :=
  ∃ (j : Nat) (V : Nat → Value) (M : RSt) (S : St), j ≤ N ∧ s = .int .i64 j ∧ Both w0 wr p V q M S S j ∧ Inv S j
/-- What is known behind the switch: both answers are one. -/
def Mixed (w0 : World) (p q j : Nat) (s s2 : Value) (wx : World) : Prop := ∃ (V : Nat → Value) (M : RSt) (S : St) (e : Int), s = .int .i64 e ∧ s2 = .int .i64 e ∧ Both w0 wx p V q M S S (j + 1) ∧ Inv S (j + 1)

set_option maxRecDepth 100000 in
set_option maxHeartbeats 4000000 in
theorem plays_walk (a : Option Addr) (cap : Nat) (recs : List (List Int)) (w : World) (h : ArgRows w a recs.length cap recs) (hn : recs.length * 24 ≤ 140737488351232) :
    Calls Tryz.prog 3 #[.slice a recs.length cap] w fun e w' => e = .returned (.bool true) ∧ Below w.heap.size w w' := by
  obtain ⟨-, hcap, hmx, -, hrow⟩ := h
  have HROW := Lib.hid hrow
  have hcm : cap ≤ 9223372036854775807 := by unfold maxLen at hmx; omega
  clear hrow hmx
  have N0 := Lib.hid (new_mine (Only.refl (fun _ => False) w))
  have P1 : Hid (∀ (W : World) p V, Mine w W p V noS → Calls Tryz.prog 5 #[.pointer (some ⟨p, 0, none⟩), .int .i64 1, .int .i64 5] W (Did2 w p b1 (.int .i64 0))) :=
    Lib.hid (fun W p V h => mine_fair h inv_no 1 1 rfl (by omega) (by omega) 5 (by decide) rfl)
  have P2 : Hid (∀ (W : World) p V, Mine w W p V b1 → Calls Tryz.prog 6 #[.pointer (some ⟨p, 0, none⟩), .int .i64 1, .int .i64 5] W (Did2 w p b1 (.int .i64 5))) :=
    Lib.hid (fun W p V h => h.did (prio_there h.at_ 1 (by omega) (by omega) 5 (Or.inl rfl)))
  have P3 : Hid (∀ (W : World) p V, Mine w W p V b1 → Calls Tryz.prog 7 #[.pointer (some ⟨p, 0, none⟩)] W (Did2 w p (tickS b1) (.int .i64 1))) :=
    Lib.hid (fun W p V h => mine_tick h inv_b1 (by omega) (by rw [best_3 (by decide) (by decide)]; decide))
  go_enter Tryz.func3, Tryz.ntmps3
  go_upto_region 4 with (first
    | (go_at_call 4; (with_reducible refine N0.out.mono ?_); rintro e w1 ⟨p0, rfl, -, hM⟩; have H0 := Lib.hid hM; clear hM)
    | (go_at_call 5; (with_reducible refine (P1.out _ _ _ H0.out).mono ?_); rintro e w2 ⟨rfl, V1, hq⟩; have H1 := Lib.hid hq; clear hq)
    | (go_at_call 6; (with_reducible refine (P2.out _ _ _ H1.out).mono ?_); rintro e w3 ⟨rfl, V2, hq⟩; have H2 := Lib.hid hq; clear hq)
    | (go_at_call 7; (with_reducible refine (P3.out _ _ _ H2.out).mono ?_); rintro e w4 ⟨rfl, V3, hq⟩; have HO4 := Lib.hid hq.only; clear hq))
  clear N0 P1 P2 P3 H0 H1 H2
  have hmm := @run_makeMap Tryz.prog
  go_wp2_with (go_at_call 4; (with_reducible refine (new_mine HO4.out).mono ?_); rintro e w5 ⟨p, rfl, -, hM⟩; have H5 := Lib.hid hM; clear hM HO4)
  have HB0 : Hid (Both w _ p Pr.noV _ _ noS noS 0) := Lib.hid (both_start H5.out)
  clear H5
  generalize noM w5.heap.size (w5.heap.size + 1) (w5.heap.size + 1 + 1) = M0 at *
  generalize w5.heap.size + 1 + 1 + 1 = q at *
  generalize World.alloc _ _ = w6 at *
  clear hmm
  go_loopw [40] (fun i wr => Ere w p q recs.length i wr) (fun i _ => recs.length - (intOf i).toNat)
  case atStart => exact ⟨0, _, _, _, by omega, rfl, HB0.out, inv_no⟩
  case round =>
    clear HB0
    obtain ⟨j, V, M, S, hj, rfl, hB, hI⟩ := hrel
    have HB := Lib.hid hB
    have HI := Lib.hid hI
    clear hB hI
    by_cases hjn : j < recs.length
    · obtain ⟨rb, roff, rv, rfl, hbl, hc, hv⟩ := HROW.out j hjn
      have hcx := (HB.out.below.cell (p := ⟨rb, roff + j, none⟩) hbl).trans hc
      have HV := Lib.hid (hv.later HB.out.below)
      have HWF := Lib.hid (hv.wf 1)
      have g1 : (j : Int) < recs.length := by omega
      have g2 : (0 : Int) ≤ j := by omega
      have hj8 : (j : Int) ≤ 8000000000000 := by omega
      generalize recs.getD j [] = xs at *
      clear hc hv
      go_upto_block 2 with (first
        | (go_at_call 8; (with_reducible refine (at_1 HV.out).mono ?_); rintro e w' ⟨rfl, rfl⟩)
        | (go_at_call 8; (with_reducible refine (at_2 HV.out).mono ?_); rintro e w' ⟨rfl, rfl⟩)
        | (go_at_call 8; (with_reducible refine (at_3 HV.out).mono ?_); rintro e w' ⟨rfl, rfl⟩)
        | (go_at_call 8; (with_reducible refine (at_0 HV.out).mono ?_); rintro e w' ⟨rfl, rfl⟩))
      clear HV hcx
      generalize nth xs 0 = op at *
      generalize hxt : nth xs 1 = t at *
      rw [show xs.getD 1 0 = t from hxt] at HWF
      clear hxt
      generalize nth xs 2 = a at *
      generalize nth xs 3 = b at *
      clear HROW hbl
      go_cut [11, 12] (fun s s2 wx => Mixed w p q j s s2 wx)
      case first =>
        by_cases o1 : op = 1
        · subst o1
          as_aux_lemma =>
            have KP := Lib.hid (HB.out.prog (fair_all HB.out.at_ HI.out t a b))
            have KR := Lib.hid (fun W V' (h : Both w W p V' q M (addS S 1 t a b) S j) => h.toref (rpl_fair h.ref h.link HI.out hj8 h.cnt (by omega) t HWF.out a b))
            have HI2 := Lib.hid ((Inv.add HI.out 1 (Or.inl rfl) t a b).mono (show (j : Int) ≤ j + 1 by omega))
            go_wp2_with (first
              | (go_at_call 5; (with_reducible refine KP.out.mono ?_); rintro e w7 ⟨rfl, V7, hq⟩; have HB7 := Lib.hid hq; clear hq)
              | (go_at_call 10; (with_reducible refine (KR.out _ _ HB7.out).mono ?_); rintro e w8 ⟨rfl, M8, hq⟩; have HB8 := Lib.hid hq; clear hq))
            go_meet
            exact ⟨_, _, addS S 1 t a b, _, rfl, rfl, HB8.out, HI2.out⟩
        by_cases o2 : op = 2
        · subst o2
          as_aux_lemma =>
            have KP := Lib.hid (HB.out.prog (prio_all HB.out.at_ HI.out t a b))
            have KR := Lib.hid (fun W V' (h : Both w W p V' q M (addS S 2 t a b) S j) => h.toref (rpl_prio h.ref h.link HI.out hj8 h.cnt (by omega) t HWF.out a b))
            have HI2 := Lib.hid ((Inv.add HI.out 2 (Or.inr (Or.inl rfl)) t a b).mono (show (j : Int) ≤ j + 1 by omega))
            go_wp2_with (first
              | (go_at_call 6; (with_reducible refine KP.out.mono ?_); rintro e w7 ⟨rfl, V7, hq⟩; have HB7 := Lib.hid hq; clear hq)
              | (go_at_call 10; (with_reducible refine (KR.out _ _ HB7.out).mono ?_); rintro e w8 ⟨rfl, M8, hq⟩; have HB8 := Lib.hid hq; clear hq))
            go_meet
            exact ⟨_, _, addS S 2 t a b, _, rfl, rfl, HB8.out, HI2.out⟩
        by_cases o3 : op = 3
        · subst o3
          as_aux_lemma =>
            have KP := Lib.hid (HB.out.prog (dead_all HB.out.at_ HI.out hj8 t a b))
            have KR := Lib.hid (fun W V' (h : Both w W p V' q M (addS S 3 t a b) S j) => h.toref (rpl_dead h.ref h.link HI.out hj8 h.cnt (by omega) t HWF.out a b))
            have HI2 := Lib.hid ((Inv.add HI.out 3 (Or.inr (Or.inr rfl)) t a b).mono (show (j : Int) ≤ j + 1 by omega))
            go_wp2_with (first
              | (go_at_call 9; (with_reducible refine KP.out.mono ?_); rintro e w7 ⟨rfl, V7, hq⟩; have HB7 := Lib.hid hq; clear hq)
              | (go_at_call 10; (with_reducible refine (KR.out _ _ HB7.out).mono ?_); rintro e w8 ⟨rfl, M8, hq⟩; have HB8 := Lib.hid hq; clear hq))
            go_meet
            exact ⟨_, _, addS S 3 t a b, _, rfl, rfl, HB8.out, HI2.out⟩
        by_cases o4 : op = 4
        · subst o4
          as_aux_lemma =>
            have KP := Lib.hid (HB.out.prog (leave_any HB.out.at_ HI.out t))
            have KR := Lib.hid (fun W V' (h : Both w W p V' q M (leaveS S t) S j) => h.toref (rpl_leave h.ref h.link HI.out h.cnt (by omega) t HWF.out))
            have HI2 := Lib.hid ((HI.out.leave t).mono (show (j : Int) ≤ j + 1 by omega))
            go_wp2_with (first
              | (go_at_call 11; (with_reducible refine KP.out.mono ?_); rintro e w7 ⟨rfl, V7, hq⟩; have HB7 := Lib.hid hq; clear hq)
              | (go_at_call 12; (with_reducible refine (KR.out _ _ HB7.out).mono ?_); rintro e w8 ⟨rfl, M8, hq⟩; have HB8 := Lib.hid hq; clear hq))
            go_meet
            exact ⟨_, _, leaveS S t, _, rfl, rfl, HB8.out, HI2.out⟩
        by_cases o5 : op = 5
        · subst o5
          as_aux_lemma =>
            have KP := Lib.hid (HB.out.prog (block_any HB.out.at_ HI.out t))
            have KR := Lib.hid (fun W V' (h : Both w W p V' q M (blockS S t) S j) => h.toref (rpl_block h.ref h.link HI.out h.cnt (by omega) t HWF.out))
            have HI2 := Lib.hid ((HI.out.block t).mono (show (j : Int) ≤ j + 1 by omega))
            go_wp2_with (first
              | (go_at_call 13; (with_reducible refine KP.out.mono ?_); rintro e w7 ⟨rfl, V7, hq⟩; have HB7 := Lib.hid hq; clear hq)
              | (go_at_call 15; (with_reducible refine (KR.out _ _ HB7.out).mono ?_); rintro e w8 ⟨rfl, M8, hq⟩; have HB8 := Lib.hid hq; clear hq))
            go_meet
            exact ⟨_, _, blockS S t, _, rfl, rfl, HB8.out, HI2.out⟩
        by_cases o6 : op = 6
        · subst o6
          as_aux_lemma =>
            have KP := Lib.hid (HB.out.prog (wake_any HB.out.at_ HI.out (by omega) t))
            have KR := Lib.hid (fun W V' (h : Both w W p V' q M (wakeS S t) S j) => h.toref (rpl_wake h.ref h.link HI.out hj8 h.cnt (by omega) t HWF.out))
            have HI2 := Lib.hid ((HI.out.wake t).mono (show (j : Int) ≤ j + 1 by omega))
            go_wp2_with (first
              | (go_at_call 14; (with_reducible refine KP.out.mono ?_); rintro e w7 ⟨rfl, V7, hq⟩; have HB7 := Lib.hid hq; clear hq)
              | (go_at_call 15; (with_reducible refine (KR.out _ _ HB7.out).mono ?_); rintro e w8 ⟨rfl, M8, hq⟩; have HB8 := Lib.hid hq; clear hq))
            go_meet
            exact ⟨_, _, wakeS S t, _, rfl, rfl, HB8.out, HI2.out⟩
        by_cases o7 : op = 7
        · subst o7
          as_aux_lemma =>
            have KP := Lib.hid (HB.out.prog (tick_any HB.out.at_ HI.out hj8))
            have KR := Lib.hid (fun W V' (h : Both w W p V' q M (tickS S) S j) => h.toref (rpl_tick h.ref h.link HI.out hj8 h.cnt (by omega)))
            have HI2 := Lib.hid HI.out.tick
            generalize best S = m at *
            have em : (m != m) = false := by simp
            go_wp2_with (first
              | (go_at_call 7; (with_reducible refine KP.out.mono ?_); rintro e w7 ⟨rfl, V7, hq⟩; have HB7 := Lib.hid hq; clear hq)
              | (go_at_call 16; (with_reducible refine (KR.out _ _ HB7.out).mono ?_); rintro e w8 ⟨rfl, M8, hq⟩; have HB8 := Lib.hid hq; clear hq))
            go_meet
            exact ⟨_, _, tickS S, _, rfl, rfl, HB8.out, HI2.out⟩
        have e1 : (op == 1) = false := by simp [o1]
        have e2 : (op == 2) = false := by simp [o2]
        have e3 : (op == 3) = false := by simp [o3]
        have e4 : (op == 4) = false := by simp [o4]
        have e5 : (op == 5) = false := by simp [o5]
        have e6 : (op == 6) = false := by simp [o6]
        have e7 : (op == 7) = false := by simp [o7]
        go_wp2_with fail
        go_meet
        exact ⟨_, _, S, _, rfl, rfl, HB.out.more (by omega), HI.out.mono (by omega)⟩
      case rest =>
        obtain ⟨V2, M2, S2, e, rfl, rfl, hB2, hI2⟩ := hcut
        have HB2 := Lib.hid hB2
        have HJ := Lib.hid hI2
        clear hB2 hI2 HB HI HWF
        have KB := Lib.hid (fun W (h : Both w W p V2 q M2 S2 S2 (j + 1)) => Pk.best_any h.at_ HJ.out.uniq)
        have KC := Lib.hid (fun W (h : Both w W p V2 q M2 S2 S2 (j + 1)) => rbest_any h.ref h.link HJ.out)
        have KN := Lib.hid (fun W (h : Both w W p V2 q M2 S2 S2 (j + 1)) => Pk.now_any h.at_)
        have KM := Lib.hid (fun W (h : Both w W p V2 q M2 S2 S2 (j + 1)) => mark_any h.at_ HJ.out.uniq)
        have KX : Hid (∀ W, Both w W p V2 q M2 S2 S2 (j + 1) → W.cell? ⟨q, 41, none⟩ = some (.int .i64 S2.now)) := Lib.hid (fun W h => by rw [← h.link.now]; exact h.ref.now)
        generalize best S2 = m at *
        generalize S2.now = nw at *
        have em : (m != m) = false := by simp
        have en : (nw != nw) = false := by simp
        have ee : (e != e) = false := by simp
        have eb : ((m != nw) != (m != nw)) = false := by simp
        go_wp2_with fail
        have HBd := Lib.hid (HB2.out.quiet (Only.refl (fun _ => False) wc).drew)
        have c0 := KX.out _ HBd.out
        clear HB2
        go_region_held3 (fun W => W.cell? ⟨q, 41, none⟩ = some (.int .i64 nw)) (first | exact c6 | exact c5 | exact c4 | exact c3 | exact c0 | go_keep)
          (first
          | (go_at_call 18; (with_reducible refine (KC.out _ HB5.out).mono ?_); rintro e w12 ⟨rfl, hO⟩; have HB6 := Lib.hid (HB5.out.quiet hO); have c6 := KX.out _ HB6.out; clear hO)
          | (go_at_call 17; (with_reducible refine (KB.out _ HBd.out).mono ?_); rintro e w9 ⟨rfl, hO⟩; have HB3 := Lib.hid (HBd.out.quiet hO); have c3 := KX.out _ HB3.out; clear hO)
          | (go_at_call 18; (with_reducible refine (KC.out _ HB3.out).mono ?_); rintro e w10 ⟨rfl, hO⟩; have HB4 := Lib.hid (HB3.out.quiet hO); have c4 := KX.out _ HB4.out; clear hO)
          | (go_at_call 19; (with_reducible refine (KN.out _ HB4.out).mono ?_); rintro e w' ⟨rfl, rfl⟩)
          | (go_at_call 20; (with_reducible refine (KM.out _ HB4.out).mono ?_); rintro e w11 ⟨rfl, hO⟩; have HB5 := Lib.hid (HB4.out.quiet hO); have c5 := KX.out _ HB5.out; clear hO))
        all_goals (
          (try go_wp2_with fail)
          go_roundw
          case rel => exact ⟨j + 1, V2, M2, S2, by omega, by go_num, HB6.out, by push_cast; exact HJ.out⟩
          case measure => simp [intOf]; omega)
    · have e0 : j = recs.length := by omega
      go_wp2_with fail
      go_ret
      exact ⟨rfl, HB.out.below⟩
end Go.Proofs.YtpincdcebhmnhaaGreat.Rk
