/- Texts of this claim, merged: RkCame. -/
import Derived.Test.YtpincdcebhmnhaaGreatM32
/- The reference of one processor's scheduler: what ties it to the program's when a task has come. -/
namespace Go.Proofs.YtpincdcebhmnhaaGreat.Rk
open Go.ChangeShapes Go.WideShapes Go.ChangeAt Go.RowKit Go.Maps
open Go.Proofs.YtpincdcebhmnhaaGreat.Of Go.Proofs.YtpincdcebhmnhaaGreat.Pk Go.Proofs.YtpincdcebhmnhaaGreat.Vt
set_option linter.unusedVariables false
set_option maxRecDepth 100000

section
variable {M M' : RSt} {S S' : St} {b : Int}

theorem link_new (hL : Link S M) {k : Nat} {cl x : Int} (h1 : 1 ≤ k) (h2 : k ≤ 16) (h : Came M M' k cl x) (hcl : S'.C = Pr.upd S.C k cl) (hA : S'.A = S.A) (hnow : S'.now = S.now) (hrow : S'.row = S.row)
    (hr : ∀ j, ready S' j = if j = k then true else ready S j) (hT : M'.T = S'.T) (hQ : M'.Q = S'.Q) (hd : M'.d = S'.d) (hn : M'.n = S'.n) (fs : Fr.Same M'.LF S'.T Fr.noG M'.W (fun _ => 0)) (ds : De.Same M'.LD S'.d)
    (hin : ∀ (j v : Nat), v < 8 → (j : Int) ∈ S'.Q v → ((j : Int) ∈ S.Q v ∧ j ≠ k) ∨ (j = k ∧ x = v)) (hout : ∀ (j v : Nat), v < 8 → (j : Int) ∈ S.Q v → (j : Int) ∈ S'.Q v) (hk : cl = 2 → ∃ v, v < 8 ∧ (k : Int) ∈ S'.Q v) : Link S' M' := by
  refine ⟨hT, hQ, hd, hn, fs, ds, fun t => ?_, fun j j1 j2 hc => ?_, fun j v hv hm => ?_, fun j j1 j2 hc hm => ?_, ?_, fun h0 => ?_⟩
  · rw [h.C, hcl]
    unfold updN
    by_cases e : t = k
    · subst e; rw [if_pos rfl, if_pos (by omega)]; simp [Pr.upd_same]
    · rw [if_neg e, hL.C t]
      by_cases e2 : 1 ≤ t ∧ t ≤ 16
      · rw [if_pos e2, if_pos e2, Pr.upd_other _ _ (by omega)]
      · rw [if_neg e2, if_neg e2]
  · rw [h.f, hr]
    unfold updI
    by_cases e : j = k
    · subst e; rw [if_pos rfl, if_pos rfl]; rfl
    · rw [if_neg (by omega), if_neg e]
      rw [hcl, Pr.upd_other _ _ e] at hc
      exact hL.off j j1 j2 hc
  · rw [h.A]
    unfold updN
    rcases hin j v hv hm with ⟨a, e⟩ | ⟨e, a⟩
    · rw [if_neg (by omega)]; exact hL.inq j v hv a
    · subst e; rw [if_pos rfl]; exact a
  · rw [h.A, hA]
    unfold updN
    by_cases e : j = k
    · subst e
      rw [hcl, Pr.upd_same] at hc
      obtain ⟨v, hv, hm2⟩ := hk hc
      exact absurd hm2 (hm v hv)
    · rw [if_neg (by omega)]
      rw [hcl, Pr.upd_other _ _ e] at hc
      exact hL.outq j j1 j2 hc (fun v hv hv2 => hm v hv (hout j v hv hv2))
  · rw [h.now, hL.now, hnow]
  · rw [h.used, hrow]; rw [hnow] at h0; exact hL.used h0

theorem not_in (hI : Inv S b) {k : Nat} (h2 : k ≤ 16) (hc : S.C k = 0) {v : Nat} (hv : v < 8) : (k : Int) ∉ S.Q v := Pr.seek_no (hI.free_none (by omega) hc).2.2 hv

theorem link_newPrio (hL : Link S M) (hI : Inv S b) {k v : Nat} (h1 : 1 ≤ k) (h2 : k ≤ 16) (hc : S.C k = 0) (hv : v < 8) (h : Came M M' k 2 v)
    (hP : M'.LF = M.LF ∧ M'.T = M.T ∧ M'.W = M.W ∧ M'.LD = M.LD ∧ M'.d = M.d ∧ M'.Q = Pr.upd M.Q v (M.Q v ++ [(k : Int)])) : Link (newPrio S k v) M' := by
  obtain ⟨p1, p2, p3, p4, p5, p6⟩ := hP
  refine link_new hL h1 h2 h rfl rfl rfl rfl (ready_newPrio hv) (p2.trans hL.T) (by rw [p6, hL.Q]; rfl) (p5.trans hL.d) (h.n.trans hL.n) (by rw [p1, p3]; exact hL.fs) (by rw [p4]; exact hL.ds) (fun j u hu hm => ?_) (fun j u hu hm => ?_) (fun _ => ⟨v, hv, ?_⟩)
  · change (j : Int) ∈ Pr.upd S.Q v _ u at hm
    by_cases e : u = v
    · subst e
      rw [Pr.upd_same] at hm
      rcases List.mem_append.1 hm with hm2 | hm2
      · refine Or.inl ⟨hm2, fun e => ?_⟩
        subst e; exact not_in hI h2 hc hu hm2
      · simp at hm2
        exact Or.inr ⟨by omega, rfl⟩
    · rw [Pr.upd_other _ _ e] at hm
      refine Or.inl ⟨hm, fun e => ?_⟩
      subst e; exact not_in hI h2 hc hu hm
  · show (j : Int) ∈ Pr.upd S.Q v _ u
    by_cases e : u = v
    · subst e; rw [Pr.upd_same]; simp [hm]
    · rw [Pr.upd_other _ _ e]; exact hm
  · show (k : Int) ∈ Pr.upd S.Q v _ v
    rw [Pr.upd_same]; simp

theorem link_newFair (hL : Link S M) (hI : Inv S b) {k : Nat} {x : Int} (h1 : 1 ≤ k) (h2 : k ≤ 16) (hc : S.C k = 0) (h : Came M M' k 1 x)
    (hP : M'.T = Fr.addT M.T Fr.noG k (costOf x) 0 ∧ M'.Q = M.Q ∧ M'.LD = M.LD ∧ M'.d = M.d ∧ Fr.Same M'.LF M'.T Fr.noG M'.W (fun _ => 0)) : Link (newFair S k x) M' := by
  obtain ⟨p1, p2, p3, p4, p5⟩ := hP
  have eT : M'.T = (newFair S k x).T := by rw [p1, hL.T, ← hI.gno]; rfl
  refine link_new hL h1 h2 h rfl rfl rfl rfl (hI.ready_newFair (by omega) x) eT (p2.trans hL.Q) (p4.trans hL.d) (h.n.trans hL.n) (eT ▸ p5) (by rw [p3]; exact hL.ds) (fun j u hu hm => Or.inl ⟨hm, fun e => ?_⟩) (fun j u hu hm => hm) (fun e => by omega)
  subst e; exact not_in hI h2 hc hu hm
theorem link_newDead (hL : Link S M) (hI : Inv S b) {k : Nat} {x y : Int} (h1 : 1 ≤ k) (h2 : k ≤ 16) (hc : S.C k = 0) (h : Came M M' k 3 x)
    (hP : M'.LF = M.LF ∧ M'.T = M.T ∧ M'.W = M.W ∧ M'.Q = M.Q ∧ M'.d = De.upd M.d k (De.came x y M.n) ∧ De.Same M'.LD M'.d) : Link (newDead S k x y) M' := by
  obtain ⟨p1, p2, p3, p4, p5, p6⟩ := hP
  have eD : M'.d = (newDead S k x y).d := by rw [p5, hL.d, hL.n]; rfl
  refine link_new hL h1 h2 h rfl rfl rfl rfl (ready_newDead x y) (p2.trans hL.T) (p4.trans hL.Q) eD (h.n.trans hL.n) (by rw [p1, p3]; exact hL.fs) (eD ▸ p6) (fun j u hu hm => Or.inl ⟨hm, fun e => ?_⟩) (fun j u hu hm => hm) (fun e => by omega)
  subst e; exact not_in hI h2 hc hu hm
end
end Go.Proofs.YtpincdcebhmnhaaGreat.Rk
