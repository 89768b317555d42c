/- One processor's scheduler: who is ready behind each call, and who goes. -/
import Derived.Test.YtpincdcebhmnhaaPkPres
namespace Go.Proofs.Ytpincdcebhmnhaa.Pk
open Go.ChangeShapes Go.WideShapes Go.ChangeAt Go.RowKit Go.Maps
open Go.Proofs.Ytpincdcebhmnhaa.Vt
set_option linter.unusedVariables false

theorem seek_iff {Q : Pr.Qs} {t : Int} : (Pr.seek Q t).isSome = true ↔ ∃ i, i < 8 ∧ t ∈ Q i := by
  cases h : Pr.seek Q t with
  | none => simp; intro i hi; exact Pr.seek_no h hi
  | some i => simp; exact ⟨i, Pr.seek_is h⟩
theorem seek_congr {Q R : Pr.Qs} {t : Int} (h : (∃ i, i < 8 ∧ t ∈ Q i) ↔ ∃ i, i < 8 ∧ t ∈ R i) : (Pr.seek Q t).isSome = (Pr.seek R t).isSome := by
  rw [Bool.eq_iff_iff, seek_iff, seek_iff]; exact h
theorem seek_put {Q : Pr.Qs} {v : Nat} (hv : v < 8) (k t : Int) : (Pr.seek (upd Q v (Q v ++ [k])) t).isSome = if t = k then true else (Pr.seek Q t).isSome := by
  by_cases e : t = k
  · subst e; rw [if_pos rfl, seek_iff]; exact ⟨v, hv, by show t ∈ Pr.upd Q v _ v; rw [Pr.upd_same]; simp⟩
  · rw [if_neg e]
    apply seek_congr
    constructor
    · rintro ⟨i, hi, hm⟩
      change t ∈ Pr.upd Q v _ i at hm
      by_cases e2 : i = v
      · subst e2; rw [Pr.upd_same] at hm; simp [e] at hm; exact ⟨i, hi, hm⟩
      · rw [Pr.upd_other _ _ e2] at hm; exact ⟨i, hi, hm⟩
    · rintro ⟨i, hi, hm⟩
      refine ⟨i, hi, ?_⟩
      show t ∈ Pr.upd Q v _ i
      by_cases e2 : i = v
      · subst e2; rw [Pr.upd_same]; simp [hm]
      · rw [Pr.upd_other _ _ e2]; exact hm
theorem seek_out {Q : Pr.Qs} (hu : Pr.Uniq Q) {i : Nat} (hi : i < 8) {k : Int} (hk : k ∈ Q i) (t : Int) : (Pr.seek (upd Q i ((Q i).erase k)) t).isSome = if t = k then false else (Pr.seek Q t).isSome := by
  by_cases e : t = k
  · subst e
    rw [if_pos rfl]
    cases h : Pr.seek (upd Q i ((Q i).erase t)) t with
    | none => rfl
    | some j =>
      exfalso
      obtain ⟨hj, hm⟩ := Pr.seek_is h
      change t ∈ Pr.upd Q i _ j at hm
      by_cases e2 : j = i
      · subst e2; rw [Pr.upd_same] at hm; exact (hu.nodup j hj).not_mem_erase hm
      · rw [Pr.upd_other _ _ e2] at hm; exact e2 (hu.only j i t hj hi hm hk)
  · rw [if_neg e]
    apply seek_congr
    constructor
    · rintro ⟨j, hj, hm⟩
      change t ∈ Pr.upd Q i _ j at hm
      by_cases e2 : j = i
      · subst e2; rw [Pr.upd_same] at hm; exact ⟨j, hj, List.mem_of_mem_erase hm⟩
      · rw [Pr.upd_other _ _ e2] at hm; exact ⟨j, hj, hm⟩
    · rintro ⟨j, hj, hm⟩
      refine ⟨j, hj, ?_⟩
      show t ∈ Pr.upd Q i _ j
      by_cases e2 : j = i
      · subst e2; rw [Pr.upd_same]; exact (List.mem_erase_of_ne e).2 hm
      · rw [Pr.upd_other _ _ e2]; exact hm
theorem seek_turned (Q : Pr.Qs) (t : Int) : (Pr.seek (turned Q) t).isSome = (Pr.seek Q t).isSome := by
  unfold turned
  cases ht : Pr.top Q with
  | none => rfl
  | some v =>
    obtain ⟨hv, hne, -⟩ := Pr.topTo_is ht
    cases hq : Q v with
    | nil => exact absurd hq hne
    | cons x xs =>
      simp only [hq, List.tail_cons]
      apply seek_congr
      constructor
      · rintro ⟨j, hj, hm⟩
        change t ∈ Pr.upd Q v _ j at hm
        by_cases e2 : j = v
        · subst e2; rw [Pr.upd_same] at hm
          refine ⟨j, hj, ?_⟩
          rw [hq]
          rcases List.mem_append.1 hm with hm | hm
          · exact List.mem_cons_of_mem _ hm
          · have : t = x := by simpa using hm
            subst this; simp
        · rw [Pr.upd_other _ _ e2] at hm; exact ⟨j, hj, hm⟩
      · rintro ⟨j, hj, hm⟩
        refine ⟨j, hj, ?_⟩
        show t ∈ Pr.upd Q v _ j
        by_cases e2 : j = v
        · subst e2; rw [Pr.upd_same]; rw [hq] at hm
          rcases List.mem_cons.1 hm with hm | hm
          · subst hm; simp
          · simp [hm]
        · rw [Pr.upd_other _ _ e2]; exact hm

section
variable {S : St} {B : Int}
theorem slept_C (S : St) (k : Nat) : (slept S k).C = S.C := by
  unfold slept
  split
  · rfl
  · split
    · split <;> rfl
    · rfl
theorem woken_C (S : St) (k : Nat) : (woken S k).C = S.C := by
  unfold woken
  split
  · rfl
  · split <;> rfl
theorem tickS_C (S : St) : (tickS S).C = S.C := by
  unfold tickS
  split
  · rfl
  · split
    · rfl
    · split <;> rfl
theorem tickS_now (S : St) : (tickS S).now = best S := by
  unfold tickS
  split
  · rfl
  · split
    · rfl
    · split <;> rfl
theorem ready_1 {S : St} {k : Nat} (h : S.C k = 1) : ready S k = (S.T k).r := by unfold ready; rw [if_pos h]
theorem ready_2 {S : St} {k : Nat} (h : S.C k = 2) : ready S k = (Pr.seek S.Q k).isSome := by unfold ready; rw [if_neg (by omega), if_pos h]
theorem ready_3 {S : St} {k : Nat} (h : S.C k = 3) : ready S k = (S.d k).r := by unfold ready; rw [if_neg (by omega), if_neg (by omega), if_pos h]
theorem ready_0 {S : St} {k : Nat} (h : S.C k = 0) : ready S k = false := by unfold ready; rw [if_neg (by omega), if_neg (by omega), if_neg (by omega)]
theorem ready_there {S : St} {k : Nat} (h : ready S k = true) : S.C k ≠ 0 := fun e => by rw [ready_0 e] at h; cases h
/-- Two states with the same classes, and for each class the same who are ready. -/
theorem ready_of {S R : St} {j : Nat} {b : Bool} (hc : R.C j = S.C j) (h1 : S.C j = 1 → (R.T j).r = b) (h2 : S.C j = 2 → (Pr.seek R.Q j).isSome = b) (h3 : S.C j = 3 → (R.d j).r = b) (h0 : S.C j ≠ 1 → S.C j ≠ 2 → S.C j ≠ 3 → b = false) : ready R j = b := by
  unfold ready
  rw [hc]
  split
  · exact h1 ‹_›
  · split
    · exact h2 ‹_›
    · split
      · exact h3 ‹_›
      · exact (h0 ‹_› ‹_› ‹_›).symm
theorem ready_rest {S : St} {j : Nat} (a : S.C j ≠ 1) (b : S.C j ≠ 2) (c : S.C j ≠ 3) : ready S j = false := by unfold ready; rw [if_neg a, if_neg b, if_neg c]

theorem Inv.ready_slept (h : Inv S B) {k : Nat} (h2 : k < 17) (hr : ready S k = true) (j : Nat) : ready (Pk.slept S k) j = if j = k then false else ready S j := by
  unfold Pk.slept
  rcases h.cls k h2 with c | c | c | c
  · exact absurd c (ready_there hr)
  · rw [if_pos c]
    by_cases e : j = k
    · subst e; rw [if_pos rfl]; exact ready_of (S := S) rfl (fun _ => by show (Fr.upd S.T j _ j).r = false; rw [Fr.upd_same]) (fun q => by omega) (fun q => by omega) (fun _ _ _ => rfl)
    · rw [if_neg e]; exact ready_of (S := S) rfl (fun q => by show (Fr.upd S.T k _ j).r = _; rw [Fr.upd_other _ _ e, ready_1 q]) (fun q => (ready_2 q).symm) (fun q => (ready_3 q).symm) (fun a b c => ready_rest a b c)
  · rw [if_neg (by omega), if_pos c]
    rw [ready_2 c] at hr
    cases hs : Pr.seek S.Q (k : Int) with
    | none => rw [hs] at hr; cases hr
    | some i =>
      obtain ⟨hi, hm⟩ := Pr.seek_is hs
      have q := seek_out h.uniq hi hm (j : Int)
      by_cases e : j = k
      · subst e; rw [if_pos rfl] at q ⊢; exact ready_of (S := S) rfl (fun q => by omega) (fun _ => q) (fun q => by omega) (fun _ _ _ => rfl)
      · rw [if_neg e]; rw [if_neg (by omega)] at q; exact ready_of (S := S) rfl (fun q => (ready_1 q).symm) (fun x => q.trans (ready_2 x).symm) (fun q => (ready_3 q).symm) (fun a b c => ready_rest a b c)
  · rw [if_neg (by omega), if_neg (by omega)]
    by_cases e : j = k
    · subst e; rw [if_pos rfl]; exact ready_of (S := S) rfl (fun q => by omega) (fun q => by omega) (fun _ => by show (De.upd S.d j _ j).r = false; rw [De.upd_same]; rfl) (fun _ _ _ => rfl)
    · rw [if_neg e]; exact ready_of (S := S) rfl (fun q => (ready_1 q).symm) (fun q => (ready_2 q).symm) (fun q => by show (De.upd S.d k _ j).r = _; rw [De.upd_other _ _ e, ready_3 q]) (fun a b c => ready_rest a b c)

theorem woke_r (x : De.Tk) (n : Int) : (De.woke x n).r = true := by unfold De.woke De.fill; split <;> rfl
theorem wokeT_r {T : Fr.Tks} {G : Fr.Grs} {k : Nat} (hg : (T k).g = 0) (j : Nat) : (Fr.wokeT T G k j).r = if j = k then true else (T j).r := by
  rw [Fr.wokeT_0 hg]
  by_cases e : j = k
  · subst e; rw [if_pos rfl, Fr.upd_same]
  · rw [if_neg e, Fr.upd_other _ _ e]

theorem Inv.ready_woken (h : Inv S B) {k : Nat} (h2 : k < 17) (hc : S.C k ≠ 0) (j : Nat) : ready (Pk.woken S k) j = if j = k then true else ready S j := by
  unfold Pk.woken
  rcases h.cls k h2 with c | c | c | c
  · exact absurd c hc
  · rw [if_pos c]
    have q := wokeT_r (T := S.T) (G := S.G) (h.grp k h2) j
    by_cases e : j = k
    · subst e; rw [if_pos rfl] at q ⊢; exact ready_of (S := S) rfl (fun _ => q) (fun q => by omega) (fun q => by omega) (fun a _ _ => absurd c a)
    · rw [if_neg e] at q ⊢; exact ready_of (S := S) rfl (fun x => q.trans (ready_1 x).symm) (fun q => (ready_2 q).symm) (fun q => (ready_3 q).symm) (fun a b c => ready_rest a b c)
  · rw [if_neg (by omega), if_pos c]
    have ha := h.av k h2
    have q := seek_put (Q := S.Q) (v := (S.A k).toNat) (by omega) (k : Int) (j : Int)
    by_cases e : j = k
    · subst e; rw [if_pos rfl] at q ⊢; exact ready_of (S := S) rfl (fun q => by omega) (fun _ => q) (fun q => by omega) (fun _ b _ => absurd c b)
    · rw [if_neg e]; rw [if_neg (by omega)] at q; exact ready_of (S := S) rfl (fun q => (ready_1 q).symm) (fun x => q.trans (ready_2 x).symm) (fun q => (ready_3 q).symm) (fun a b c => ready_rest a b c)
  · rw [if_neg (by omega), if_neg (by omega)]
    by_cases e : j = k
    · subst e; rw [if_pos rfl]; exact ready_of (S := S) rfl (fun q => by omega) (fun q => by omega) (fun _ => by show (De.upd S.d j _ j).r = true; rw [De.upd_same]; exact woke_r _ _) (fun _ _ b => absurd c b)
    · rw [if_neg e]; exact ready_of (S := S) rfl (fun q => (ready_1 q).symm) (fun q => (ready_2 q).symm) (fun q => by show (De.upd S.d k _ j).r = _; rw [De.upd_other _ _ e, ready_3 q]) (fun a b c => ready_rest a b c)

theorem past_r (d : De.Tks) (n : Int) {t : Nat} (ht : t < 17) : (De.past d n t).r = (d t).r := by rw [De.past_at d n ht]; unfold De.again De.fill; split <;> rfl
theorem tickd_r (d : De.Tks) (n : Int) {t : Nat} (ht : t < 17) : (De.tick d n t).r = (d t).r := by
  unfold De.tick
  split
  · exact past_r d n ht
  · rw [past_r _ n ht]
    by_cases e : t = De.pick d
    · rw [← e, De.upd_same]; rfl
    · rw [De.upd_other _ _ e]
theorem tickT_r (T : Fr.Tks) (n j : Nat) : (Fr.tickT T n j).r = (T j).r := by
  unfold Fr.tickT
  by_cases e : j = n
  · subst e; rw [Fr.upd_same]
  · rw [Fr.upd_other _ _ e]
theorem ready_tick (S : St) {j : Nat} (hj : j < 17) : ready (tickS S) j = ready S j := by
  refine ready_of (S := S) (by rw [tickS_C]) (fun q => ?_) (fun q => ?_) (fun q => ?_) (fun a b c => ready_rest a b c)
  · rw [ready_1 q]; unfold tickS
    split
    · rfl
    · split
      · rfl
      · split
        · exact tickT_r _ _ _
        · rfl
  · rw [ready_2 q]; unfold tickS
    split
    · rfl
    · split
      · show (Pr.seek (if (head S).row % 3 = 0 then turned S.Q else S.Q) j).isSome = _
        split
        · exact seek_turned _ _
        · rfl
      · split <;> rfl
  · rw [ready_3 q]; unfold tickS
    split
    · exact tickd_r _ _ hj
    · split
      · exact past_r _ _ hj
      · split <;> exact past_r _ _ hj

/-- Who goes is ready, and nobody who is ready and not of the class of deadlines has a greater class. -/
theorem Goes.of {m : Nat} (h : Inv S B) (hg : Goes S m) : (m ≠ 0 → ready S m = true) ∧ ∀ x, x < 17 → ready S x = true → S.C x ≤ 2 → m ≠ 0 ∧ S.C x ≤ S.C m := by
  cases hg with
  | dead h1 hr hc => exact ⟨fun _ => by rw [ready_3 hc]; exact hr.1, fun x _ _ hx => ⟨h1, by omega⟩⟩
  | prio h1 v m xs ht hv hq m1 m2 hc => exact ⟨fun _ => by rw [ready_2 hc, seek_iff]; exact ⟨v, hv, by rw [hq]; simp⟩, fun x _ _ hx => ⟨by omega, by omega⟩⟩
  | fair h1 ht hn hr hc =>
    refine ⟨fun _ => by rw [ready_1 hc]; exact hr, fun x hx hrx hx2 => ⟨hn, ?_⟩⟩
    rw [hc]
    have : S.C x ≠ 2 := fun c => by
      rw [ready_2 c, seek_iff] at hrx
      obtain ⟨i, hi, hm⟩ := hrx
      have := Pr.topTo_no ht i hi
      rw [this] at hm; cases hm
    omega
  | none h1 ht hn =>
    refine ⟨fun e => absurd rfl e, fun x hx hrx hx2 => ?_⟩
    exfalso
    rcases h.cls x hx with c | c | c | c
    · exact ready_there hrx c
    · rw [ready_1 c, h.next_none hn hx] at hrx; cases hrx
    · rw [ready_2 c, seek_iff] at hrx
      obtain ⟨i, hi, hm⟩ := hrx
      have := Pr.topTo_no ht i hi
      rw [this] at hm; cases hm
    · omega

/-- A task that comes. -/
def newFair (S : St) (k : Nat) (a : Int) : St := { S with T := Fr.addT S.T S.G k (costOf a) 0, G := Fr.addG S.T S.G k (costOf a) 0, C := upd S.C k 1 }
def newPrio (S : St) (k v : Nat) : St := { S with Q := upd S.Q v (S.Q v ++ [(k : Int)]), C := upd S.C k 2 }
def newDead (S : St) (k : Nat) (a b : Int) : St := { S with d := De.upd S.d k (De.came a b S.n), C := upd S.C k 3 }

theorem Inv.ready_newFair (h : Inv S B) {k : Nat} (h2 : k < 17) (a : Int) (j : Nat) : ready (Pk.newFair S k a) j = if j = k then true else ready S j := by
  have q := wokeT_r (T := Fr.upd S.T k ⟨costOf a, 0, 0, false⟩) (G := S.G) (k := k) (by rw [Fr.upd_same]) j
  by_cases e : j = k
  · subst e
    rw [if_pos rfl] at q ⊢
    rw [ready_1 (by show Pr.upd S.C j 1 j = 1; rw [Pr.upd_same])]; exact q
  · rw [if_neg e, Fr.upd_other _ _ e] at q
    rw [if_neg e]
    exact ready_of (S := S) (by show Pr.upd S.C k 1 j = _; rw [Pr.upd_other _ _ e]) (fun x => q.trans (ready_1 x).symm) (fun q => (ready_2 q).symm) (fun q => (ready_3 q).symm) (fun a b c => ready_rest a b c)
theorem ready_newPrio {k : Nat} {v : Nat} (hv : v < 8) (j : Nat) : ready (Pk.newPrio S k v) j = if j = k then true else ready S j := by
  have q := seek_put (Q := S.Q) (v := v) hv (k : Int) (j : Int)
  by_cases e : j = k
  · subst e
    rw [if_pos rfl] at q ⊢
    rw [ready_2 (by show Pr.upd S.C j 2 j = 2; rw [Pr.upd_same])]; exact q
  · rw [if_neg (by omega)] at q
    rw [if_neg e]
    exact ready_of (S := S) (by show Pr.upd S.C k 2 j = _; rw [Pr.upd_other _ _ e]) (fun q => (ready_1 q).symm) (fun x => q.trans (ready_2 x).symm) (fun q => (ready_3 q).symm) (fun a b c => ready_rest a b c)
theorem ready_newDead {k : Nat} (a b : Int) (j : Nat) : ready (Pk.newDead S k a b) j = if j = k then true else ready S j := by
  by_cases e : j = k
  · subst e
    rw [if_pos rfl, ready_3 (by show Pr.upd S.C j 3 j = 3; rw [Pr.upd_same])]
    show (De.upd S.d j _ j).r = true
    rw [De.upd_same]; rfl
  · rw [if_neg e]
    exact ready_of (S := S) (by show Pr.upd S.C k 3 j = _; rw [Pr.upd_other _ _ e]) (fun q => (ready_1 q).symm) (fun q => (ready_2 q).symm) (fun q => by show (De.upd S.d k _ j).r = _; rw [De.upd_other _ _ e, ready_3 q]) (fun a b c => ready_rest a b c)
end
end Go.Proofs.Ytpincdcebhmnhaa.Pk
