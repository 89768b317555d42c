/- Texts of this claim, merged: PkLeft. -/
import Derived.Test.YtpincdcebhmnhaaGreatM13
import Derived.Test.YtpincdcebhmnhaaGreatM19
import Derived.Test.YtpincdcebhmnhaaGreatM21
/- One processor's scheduler: a task leaves. -/
namespace Go.Proofs.YtpincdcebhmnhaaGreat.Pk
open Go.ChangeShapes Go.WideShapes Go.ChangeAt Go.RowKit Go.Maps
open Go.Proofs.YtpincdcebhmnhaaGreat.Vt
set_option linter.unusedVariables false

/-- What is known when a task has left. -/
def left (S : St) (k : Nat) : St := { gone S k with T := Fr.outT S.T k, Q := Pr.goneTo S.Q (k : Int) 8, d := De.outT S.d k }
def leaveE (S : St) (t : Int) : Int := if Free S t then 4 else 0
def leaveS (S : St) (t : Int) : St := if Free S t then S else left S t.toNat

section
variable {S : St} {B : Int}
theorem left_C (S : St) (k : Nat) : (left S k).C = upd S.C k 0 := rfl
theorem outT_other {T : Fr.Tks} {k j : Nat} (h : j ≠ k) : Fr.outT T k j = T j := by unfold Fr.outT; split; rfl; rw [Fr.upd_other _ _ h]
theorem outD_other {T : De.Tks} {k j : Nat} (h : j ≠ k) : De.outT T k j = T j := by unfold De.outT; split; rfl; rw [De.upd_other _ _ h]
theorem outT_c (T : Fr.Tks) (k : Nat) : (Fr.outT T k k).c = 0 := by unfold Fr.outT; split; assumption; rw [Fr.upd_same]
theorem outD_p (T : De.Tks) (k : Nat) : (De.outT T k k).p = 0 := by unfold De.outT; split; assumption; rw [De.upd_same]; rfl
theorem mem_gone {Q : Pr.Qs} {t x : Int} {i : Nat} (hi : i < 8) : x ∈ Pr.goneTo Q t 8 i ↔ x ∈ Q i ∧ x ≠ t := by
  unfold Pr.goneTo
  rw [if_pos hi]
  unfold Pr.sans
  simp
theorem seek_gone {Q : Pr.Qs} (k t : Int) : (Pr.seek (Pr.goneTo Q k 8) t).isSome = if t = k then false else (Pr.seek Q t).isSome := by
  by_cases e : t = k
  · subst e
    rw [if_pos rfl]
    cases h : Pr.seek (Pr.goneTo Q t 8) t with
    | none => rfl
    | some j =>
      obtain ⟨hj, hm⟩ := Pr.seek_is h
      exact absurd rfl ((mem_gone hj).1 hm).2
  · rw [if_neg e]
    apply seek_congr
    exact ⟨fun ⟨i, hi, hm⟩ => ⟨i, hi, ((mem_gone hi).1 hm).1⟩, fun ⟨i, hi, hm⟩ => ⟨i, hi, (mem_gone hi).2 ⟨hm, e⟩⟩⟩
theorem uniq_gone {Q : Pr.Qs} (h : Pr.Uniq Q) (t : Int) : Pr.Uniq (Pr.goneTo Q t 8) := by
  cases hs : Pr.seek Q t with
  | none => rw [Pr.gone_none hs]; exact h
  | some i =>
    obtain ⟨hi, hm⟩ := Pr.seek_is hs
    rw [h.gone hi hm]
    exact h.out hi

theorem Inv.left (h : Inv S B) {k : Nat} (h1 : 1 ≤ k) (h2 : k ≤ 16) : Inv (Pk.left S k) B := by
  have hB := pos_B h
  refine ⟨?_, fun t ht => ?_, h.gno, ?_, ?_, h.n0, h.nB, h.r0, h.rB, fun t ht => ?_, ?_, fun t ht => ?_, fun t ht => ?_, uniq_gone h.uniq _, fun i hi x hx => ?_, h.av⟩
  · show Fr.Fit (Fr.outT S.T k) S.G (B * 1048576)
    unfold Fr.outT
    split
    · exact h.fit
    · exact h.fit.upd_t h1 _ ⟨by simp, by simp⟩ ⟨by simp, by simp only; omega⟩ ⟨by simp, by simp⟩ (fun e => by cases e)
  · show (Fr.outT S.T k t).g = 0
    by_cases e : t = k
    · subst e; unfold Fr.outT; split
      · exact h.grp t ht
      · rw [Fr.upd_same]
    · rw [outT_other e]; exact h.grp t ht
  · show De.Fit (De.outT S.d k) S.n
    unfold De.outT
    split
    · exact h.dfit
    · exact h.dfit.upd (De.ok_no h.n0) (fun e => rfl)
  · show De.Bare (De.outT S.d k)
    unfold De.outT
    split
    · exact h.bare
    · exact h.bare.upd (fun _ => rfl)
  · show Pr.upd S.C k 0 t = 0 ∨ _
    by_cases e : t = k
    · subst e; rw [Pr.upd_same]; exact Or.inl rfl
    · show Pr.upd S.C k 0 t = 0 ∨ Pr.upd S.C k 0 t = 1 ∨ Pr.upd S.C k 0 t = 2 ∨ Pr.upd S.C k 0 t = 3
      rw [Pr.upd_other _ _ e]; exact h.cls t ht
  · show Pr.upd S.C k 0 0 = 0
    rw [Pr.upd_other _ _ (by omega)]; exact h.c0
  · show Pr.upd S.C k 0 t = 1 ↔ (Fr.outT S.T k t).c ≠ 0
    by_cases e : t = k
    · subst e; rw [Pr.upd_same, outT_c]; simp
    · rw [Pr.upd_other _ _ e, outT_other e]; exact h.cf t ht
  · show Pr.upd S.C k 0 t = 3 ↔ (De.outT S.d k t).p ≠ 0
    by_cases e : t = k
    · subst e; rw [Pr.upd_same, outD_p]; simp
    · rw [Pr.upd_other _ _ e, outD_other e]; exact h.cd t ht
  · have hm := (mem_gone hi).1 hx
    have := h.uniq.task i x hi hm.1
    show Pr.upd S.C k 0 x.toNat = 2
    rw [Pr.upd_other _ _ (by omega)]; exact h.cq i hi x hm.1
theorem Inv.leave (h : Inv S B) (t : Int) : Inv (leaveS S t) B := by
  unfold leaveS
  split
  · exact h
  · rename_i hf
    obtain ⟨k, rfl, k1, k2, kc⟩ := not_free hf
    exact h.left k1 k2

theorem ready_left (S : St) (k j : Nat) : ready (left S k) j = if j = k then false else ready S j := by
  by_cases e : j = k
  · subst e; rw [if_pos rfl, ready_0 (by show Pr.upd S.C j 0 j = 0; rw [Pr.upd_same])]
  · rw [if_neg e]
    have q := seek_gone (Q := S.Q) (k : Int) (j : Int)
    rw [if_neg (by omega)] at q
    exact ready_of (S := S) (by show Pr.upd S.C k 0 j = _; rw [Pr.upd_other _ _ e]) (fun x => by show (Fr.outT S.T k j).r = _; rw [outT_other e, ready_1 x]) (fun x => q.trans (ready_2 x).symm) (fun x => by show (De.outT S.d k j).r = _; rw [outD_other e, ready_3 x]) (fun a b c => ready_rest a b c)

/-- What of a class is left alone. -/
theorem left_1 (h : Inv S B) {k : Nat} (h2 : k < 17) (hc : S.C k = 1) : left S k = { gone S k with T := Fr.upd S.T k ⟨0, 0, 0, false⟩ } := by
  have e1 : Fr.outT S.T k = Fr.upd S.T k ⟨0, 0, 0, false⟩ := by unfold Fr.outT; rw [if_neg ((h.cf k h2).1 hc)]
  have e3 : De.outT S.d k = S.d := by unfold De.outT; rw [if_pos]; apply Decidable.byContradiction; intro q; have := (h.cd k h2).2 q; omega
  have e2 : Pr.goneTo S.Q (k : Int) 8 = S.Q := Pr.gone_none (Pr.seek_none (fun i hi hm => by have := h.cq i hi _ hm; simp at this; omega))
  unfold left
  rw [e1, e2, e3]; rfl
theorem left_2 (h : Inv S B) {k : Nat} (h2 : k < 17) (hc : S.C k = 2) : left S k = { gone S k with Q := Pr.goneTo S.Q (k : Int) 8 } := by
  have e1 : Fr.outT S.T k = S.T := by unfold Fr.outT; rw [if_pos]; apply Decidable.byContradiction; intro q; have := (h.cf k h2).2 q; omega
  have e3 : De.outT S.d k = S.d := by unfold De.outT; rw [if_pos]; apply Decidable.byContradiction; intro q; have := (h.cd k h2).2 q; omega
  unfold left
  rw [e1, e3]; rfl
theorem left_3 (h : Inv S B) {k : Nat} (h2 : k < 17) (hc : S.C k = 3) : left S k = { gone S k with d := De.upd S.d k De.noTk } := by
  have e1 : Fr.outT S.T k = S.T := by unfold Fr.outT; rw [if_pos]; apply Decidable.byContradiction; intro q; have := (h.cf k h2).2 q; omega
  have e3 : De.outT S.d k = De.upd S.d k De.noTk := by unfold De.outT; rw [if_neg ((h.cd k h2).1 hc)]
  have e2 : Pr.goneTo S.Q (k : Int) 8 = S.Q := Pr.gone_none (Pr.seek_none (fun i hi hm => by have := h.cq i hi _ hm; simp at this; omega))
  unfold left
  rw [e1, e2, e3]; rfl

variable {w : World} {p D : Nat} {V : Nat → Value}
theorem leave_any (h : PickAt w p D V S) (hI : Inv S B) (t : Int) :
    Calls Tryz.prog 11 #[.pointer (some ⟨p, 0, none⟩), .int .i64 t] w (Did p D V (leaveS S t) (.int .i64 (leaveE S t)) w) := by
  by_cases hf : Free S t
  · exact did_is (leave_free h t hf) (by unfold leaveS; rw [if_pos hf]) (by unfold leaveE; rw [if_pos hf])
  · obtain ⟨k, rfl, k1, k2, kc⟩ := not_free hf
    have eS : leaveS S (k : Int) = left S k := by unfold leaveS; rw [if_neg hf]; rfl
    have eE : leaveE S (k : Int) = 0 := by unfold leaveE; rw [if_neg hf]
    rw [eS, eE]
    rcases hI.cls k (by omega) with c | c | c | c
    · exact absurd c kc
    · exact did_is (leave_fair h k k1 k2 c (T' := Fr.upd S.T k ⟨0, 0, 0, false⟩) (x := 0) (fun W hW => Fr.leave_yes hW.fair k k1 k2 ((hI.cf k (by omega)).1 c))) (left_1 hI (by omega) c).symm rfl
    · cases hs : Pr.seek S.Q (k : Int) with
      | some i =>
        obtain ⟨hi, hm⟩ := Pr.seek_is hs
        exact did_is (leave_fixed h k k1 k2 c (Q' := upd S.Q i ((S.Q i).erase k)) (x := 0) (fun W hW => fleave_yes hW hI.uniq k hs)) (by rw [left_2 hI (by omega) c, hI.uniq.gone hi hm]) rfl
      | none =>
        exact did_is (leave_fixed h k k1 k2 c (Q' := S.Q) (x := 0) (fun W hW => fleave_no hW hI.uniq k hs)) (by rw [left_2 hI (by omega) c, Pr.gone_none hs]) rfl
    · exact did_is (leave_dead h k k1 k2 c (d' := De.upd S.d k De.noTk) (x := 0) (fun W hW => De.leave_yes hW.dead k k1 k2 ((hI.cd k (by omega)).1 c))) (left_3 hI (by omega) c).symm rfl
end
end Go.Proofs.YtpincdcebhmnhaaGreat.Pk
