/- Texts of this claim, merged: RkPair. -/
import Derived.Test.YtpincdcebhmnhaaGreatM13
import Derived.Test.YtpincdcebhmnhaaGreatM22
import Derived.Test.YtpincdcebhmnhaaGreatM28
import Derived.Test.YtpincdcebhmnhaaGreatM29
import Derived.Test.YtpincdcebhmnhaaGreatM30
import Derived.Test.YtpincdcebhmnhaaGreatM34
import Derived.Test.YtpincdcebhmnhaaGreatM36
import Derived.Test.YtpincdcebhmnhaaGreatM37
/- The law PickPlays: each call of the program's and of its reference's, with one answer for all cases. -/
namespace Go.Proofs.YtpincdcebhmnhaaGreat.Rk
open Go.ChangeShapes Go.WideShapes Go.ChangeAt Go.RowKit Go.Maps
open Go.Proofs.YtpincdcebhmnhaaGreat.Of Go.Proofs.YtpincdcebhmnhaaGreat.Pk Go.Proofs.YtpincdcebhmnhaaGreat.Vt
set_option linter.unusedVariables false

/-- May a task of a class come with these numbers? -/
def okAdd (cl t a b : Int) : Prop := (1 ≤ t ∧ t ≤ 16) ∧ (cl = 1 → isW a = true) ∧ (cl = 2 → 0 ≤ a ∧ a ≤ 7) ∧ (cl = 3 → 1 ≤ a ∧ a ≤ b ∧ b ≤ 30)
instance (cl t a b : Int) : Decidable (okAdd cl t a b) := by unfold okAdd; exact inferInstance
def addE (S : St) (cl t a b : Int) : Int := if Free S t then (if okAdd cl t a b then 0 else 1) else 5
def newAny (S : St) (cl t a b : Int) : St := if cl = 1 then newFair S t.toNat a else if cl = 2 then newPrio S t.toNat a.toNat else newDead S t.toNat a b
def addS (S : St) (cl t a b : Int) : St := if Free S t ∧ okAdd cl t a b then newAny S cl t a b else S

theorem free_zero {S : St} {k : Nat} (h : Free S (k : Int)) (h1 : 1 ≤ k) (h2 : k ≤ 16) : S.C k = 0 := by
  rcases h with h | h | h
  · omega
  · omega
  · simpa using h
theorem addE_there {S : St} {t : Int} (h : ¬ Free S t) (cl a b : Int) : 5 = addE S cl t a b := by unfold addE; rw [if_neg h]
theorem addS_there {S : St} {t : Int} (h : ¬ Free S t) (cl a b : Int) : S = addS S cl t a b := by unfold addS; rw [if_neg (fun e => h e.1)]
theorem addE_bad {S : St} {cl t a b : Int} (h : Free S t) (hg : ¬ okAdd cl t a b) : 1 = addE S cl t a b := by unfold addE; rw [if_pos h, if_neg hg]
theorem addS_bad {S : St} {cl t a b : Int} (hg : ¬ okAdd cl t a b) : S = addS S cl t a b := by unfold addS; rw [if_neg (fun e => hg e.2)]
theorem addE_new {S : St} {cl t a b : Int} (h : Free S t) (hg : okAdd cl t a b) : 0 = addE S cl t a b := by unfold addE; rw [if_pos h, if_pos hg]
theorem addS_new {S : St} {cl t a b : Int} (h : Free S t) (hg : okAdd cl t a b) : newAny S cl t a b = addS S cl t a b := by unfold addS; rw [if_pos ⟨h, hg⟩]

section
variable {w w' : World} {p D : Nat} {V : Nat → Value} {S : St} {B : Int}

theorem fair_all (h : PickAt w p D V S) (hI : Inv S B) (t a b : Int) :
    Calls Tryz.prog 5 #[.pointer (some ⟨p, 0, none⟩), .int .i64 t, .int .i64 a] w (Did p D V (addS S 1 t a b) (.int .i64 (addE S 1 t a b)) w) := by
  by_cases hf : Free S t
  · by_cases hg : okAdd 1 t a b
    · rw [← addS_new hf hg, ← addE_new hf hg]
      obtain ⟨k, rfl⟩ : ∃ k : Nat, t = k := ⟨t.toNat, by have := hg.1; omega⟩
      have h12 := hg.1
      have hc := free_zero hf (by omega) (by omega)
      exact fair_new h k (by omega) (by omega) a hc (hg.2.1 rfl) (hI.free_none (by omega) hc).1
    · rw [← addS_bad hg, ← addE_bad hf hg]
      refine fair_bad h t a hf ?_
      cases hw : isW a with
      | false => exact Or.inl rfl
      | true => refine Or.inr (Decidable.byContradiction fun e => hg ⟨by omega, fun _ => hw, fun e => by omega, fun e => by omega⟩)
  · rw [← addS_there hf, ← addE_there hf]
    obtain ⟨k, rfl, k1, k2, hc⟩ := not_free hf
    exact fair_there h k k1 k2 a (by have := hI.cls k (by omega); omega)
theorem prio_all (h : PickAt w p D V S) (hI : Inv S B) (t a b : Int) :
    Calls Tryz.prog 6 #[.pointer (some ⟨p, 0, none⟩), .int .i64 t, .int .i64 a] w (Did p D V (addS S 2 t a b) (.int .i64 (addE S 2 t a b)) w) := by
  by_cases hf : Free S t
  · by_cases hg : okAdd 2 t a b
    · rw [← addS_new hf hg, ← addE_new hf hg]
      obtain ⟨k, rfl⟩ : ∃ k : Nat, t = k := ⟨t.toNat, by have := hg.1; omega⟩
      obtain ⟨v, rfl⟩ : ∃ v : Nat, a = v := ⟨a.toNat, by have := hg.2.2.1 rfl; omega⟩
      have h12 := hg.1
      have h3 := hg.2.2.1 rfl
      have hc := free_zero hf (by omega) (by omega)
      exact prio_new h hI.uniq k (by omega) (by omega) v (by omega) hc (hI.free_none (by omega) hc).2.2
    · rw [← addS_bad hg, ← addE_bad hf hg]
      refine prio_bad h t a hf fun e => hg ⟨e.1, fun e => by omega, fun _ => ?_, fun e => by omega⟩
      have := of_decide_eq_true e.2
      omega
  · rw [← addS_there hf, ← addE_there hf]
    obtain ⟨k, rfl, k1, k2, hc⟩ := not_free hf
    exact prio_there h k k1 k2 a (by have := hI.cls k (by omega); omega)
theorem dead_all (h : PickAt w p D V S) (hI : Inv S B) (hB : B ≤ 8000000000000) (t a b : Int) :
    Calls Tryz.prog 9 #[.pointer (some ⟨p, 0, none⟩), .int .i64 t, .int .i64 a, .int .i64 b] w (Did p D V (addS S 3 t a b) (.int .i64 (addE S 3 t a b)) w) := by
  by_cases hf : Free S t
  · by_cases hg : okAdd 3 t a b
    · rw [← addS_new hf hg, ← addE_new hf hg]
      obtain ⟨k, rfl⟩ : ∃ k : Nat, t = k := ⟨t.toNat, by have := hg.1; omega⟩
      have h12 := hg.1
      have h3 := hg.2.2.2 rfl
      have hc := free_zero hf (by omega) (by omega)
      have := hI.nB
      exact dead_new h k (by omega) (by omega) a b hc ⟨by omega, by omega, by omega, by omega, by omega, by omega⟩ (hI.free_none (by omega) hc).2.1 hI.n0 (by omega)
    · rw [← addS_bad hg, ← addE_bad hf hg]
      exact dead_bad h t a b hf fun ⟨e1, e2, e3, e4, e5, e6⟩ => hg ⟨⟨e1, e2⟩, fun e => by omega, fun e => by omega, fun _ => ⟨e5, e6, e4⟩⟩
  · rw [← addS_there hf, ← addE_there hf]
    obtain ⟨k, rfl, k1, k2, hc⟩ := not_free hf
    exact dead_there h k k1 k2 a b (by have := hI.cls k (by omega); omega)

theorem Inv.add (hI : Inv S B) (cl : Int) (hcl : cl = 1 ∨ cl = 2 ∨ cl = 3) (t a b : Int) : Inv (addS S cl t a b) B := by
  by_cases hg : Free S t ∧ okAdd cl t a b
  · rw [← addS_new hg.1 hg.2]
    obtain ⟨hf, hg⟩ := hg
    obtain ⟨k, rfl⟩ : ∃ k : Nat, t = k := ⟨t.toNat, by have := hg.1; omega⟩
    have h12 := hg.1
    have hc := free_zero hf (by omega) (by omega)
    unfold newAny
    split
    · next e => exact hI.new_fair (by omega) (by omega) hc (hg.2.1 e)
    · split
      · next e =>
        have := hg.2.2.1 e
        exact hI.new_prio (by omega) (by omega) hc (by omega)
      · next e1 e2 =>
        rcases hcl with e | e | e
        · exact absurd e e1
        · exact absurd e e2
        · have := hg.2.2.2 e
          exact hI.new_dead (by omega) (by omega) hc ⟨by omega, by omega, by omega, by omega, by omega, by omega⟩
  · unfold addS; rw [if_neg hg]; exact hI
end

/-- The counts of a reference behind so many plays. -/
structure Cnt (M : RSt) (n : Nat) : Prop where
  c : M.c ≤ n
  u0 : 0 ≤ M.used
  u : M.used ≤ n

theorem Cnt.mono {M : RSt} {n m : Nat} (h : Cnt M n) (hn : n ≤ m) : Cnt M m := ⟨by have := h.c; omega, h.u0, by have := h.u; omega⟩

/-- What is known behind a call of the reference's. -/
def RPlay (B q : Nat) (M : RSt) (S' : St) (n : Nat) (x : Value) (w : World) (e : Ending) (w' : World) : Prop :=
  e = .returned x ∧ ∃ M', RefP B w' q M' ∧ RStep B q M.U M'.U w w' ∧ Link S' M' ∧ Cnt M' (n + 1)

section
variable {B : Nat} {w w' : World} {q : Nat} {M : RSt} {S S' : St} {b : Int} {n : Nat}
theorem rplay_same {f : Nat} {args : Array Value} {x y : Int} (h : RefP B w q M) (hL : Link S M) (hn : Cnt M n) (k : Calls Tryz.prog f args w (fun e w' => e = .returned (.int .i64 x) ∧ w = w')) (hS : S = S') (hx : x = y) : Calls Tryz.prog f args w (RPlay B q M S' n (.int .i64 y) w) := by
  subst hS hx
  refine k.mono fun e w' ⟨h1, h2⟩ => ?_
  subst h2
  exact ⟨h1, M, h, RStep.refl _ _ _, hL, hn.mono (by omega)⟩
theorem rplay_came {f : Nat} {args : Array Value} {k : Nat} {cl x : Int} {P : RSt → Prop} (hn : Cnt M n) (hP : ∀ M', Came M M' k cl x → P M' → Link S' M') (h : Calls Tryz.prog f args w (RCame B q M k cl x P w)) : Calls Tryz.prog f args w (RPlay B q M S' n (.int .i64 0) w) :=
  h.mono fun e w' ⟨h1, M', h2, h3, h4, h5⟩ => ⟨h1, M', h2, h3, hP M' h4 h5, by have := hn.c; have := h4.c; omega, by rw [h4.used]; exact hn.u0, by have := hn.u; rw [h4.used]; omega⟩
theorem C_zero (hL : Link S M) {k : Nat} (h1 : 1 ≤ k) (h2 : k ≤ 16) (hc : S.C k = 0) : M.C k = 0 := by
  rw [hL.C, if_pos (by omega)]; simpa using hc

theorem rpl_fair (h : RefP B w q M) (hL : Link S M) (hI : Inv S b) (hb : b ≤ 8000000000000) (hn : Cnt M n) (hn9 : n ≤ 8000000000000) (t : Int) (wt : (Lit.int .i64 t).wf = true) (x y : Int) :
    Calls Tryz.prog 10 #[.pointer (some ⟨q, 0, none⟩), .int .i64 1, .int .i64 t, .int .i64 x, .int .i64 y] w (RPlay B q M (addS S 1 t x y) n (.int .i64 (addE S 1 t x y)) w) := by
  have hc9 : M.c < 9000000000000000000 := by have := hn.c; omega
  by_cases hf : Free S t
  · by_cases hg : okAdd 1 t x y
    · rw [← addS_new hf hg, ← addE_new hf hg]
      have h12 := hg.1
      obtain ⟨k, rfl⟩ : ∃ k : Nat, t = k := ⟨t.toNat, by omega⟩
      have hc := free_zero hf (by omega) (by omega)
      refine rplay_came hn (fun M' hM hP => ?_) (radd_fair h (by rw [hL.T]; exact hL.fs) (by rw [hL.T]; exact hI.tr0) (by rw [hL.T]; exact hI.fit.rc) hc9 (k := k) (by omega) (by omega) (C_zero hL (by omega) (by omega) hc) (by rw [hL.T]; exact (hI.free_none (by omega) hc).1) (hg.2.1 rfl) y)
      exact link_newFair hL hI (by omega) (by omega) hc hM hP
    · refine rplay_same h hL hn ?_ (addS_bad hg) (addE_bad hf hg)
      cases hni : isN t with
      | false => exact radd_num h t wt (C_free hL hf) hni 1 x y
      | true =>
        refine radd_bad1 h t wt (C_free hL hf) hni x y ?_
        cases hw : isW x with
        | false => rfl
        | true =>
          exfalso
          exact hg ⟨of_decide_eq_true hni, fun _ => hw, fun e => by omega, fun e => by omega⟩
  · obtain ⟨k, rfl, k1, k2, hc⟩ := not_free hf
    exact rplay_same h hL hn (radd_there h hL hI k1 k2 hc 1 x y) (addS_there hf 1 x y) (addE_there hf 1 x y)
theorem rpl_prio (h : RefP B w q M) (hL : Link S M) (hI : Inv S b) (hb : b ≤ 8000000000000) (hn : Cnt M n) (hn9 : n ≤ 8000000000000) (t : Int) (wt : (Lit.int .i64 t).wf = true) (x y : Int) :
    Calls Tryz.prog 10 #[.pointer (some ⟨q, 0, none⟩), .int .i64 2, .int .i64 t, .int .i64 x, .int .i64 y] w (RPlay B q M (addS S 2 t x y) n (.int .i64 (addE S 2 t x y)) w) := by
  have hc9 : M.c < 9000000000000000000 := by have := hn.c; omega
  by_cases hf : Free S t
  · by_cases hg : okAdd 2 t x y
    · rw [← addS_new hf hg, ← addE_new hf hg]
      have h12 := hg.1
      have h3 := hg.2.2.1 rfl
      obtain ⟨k, rfl⟩ : ∃ k : Nat, t = k := ⟨t.toNat, by omega⟩
      obtain ⟨v, rfl⟩ : ∃ v : Nat, x = v := ⟨x.toNat, by omega⟩
      have hc := free_zero hf (by omega) (by omega)
      refine rplay_came hn (fun M' hM hP => ?_) (radd_prio h (fun u hu => by rw [hL.Q]; have := hI.uniq.len hu; omega) hc9 (k := k) (by omega) (by omega) (C_zero hL (by omega) (by omega) hc) (v := v) (by omega) y)
      have := link_newPrio hL hI (k := k) (v := v) (by omega) (by omega) hc (by omega) hM hP
      exact this
    · refine rplay_same h hL hn ?_ (addS_bad hg) (addE_bad hf hg)
      cases hni : isN t with
      | false => exact radd_num h t wt (C_free hL hf) hni 2 x y
      | true =>
        refine radd_bad2 h t wt (C_free hL hf) hni x y (Decidable.byContradiction fun e => ?_)
        exact hg ⟨of_decide_eq_true hni, fun e => by omega, fun _ => by omega, fun e => by omega⟩
  · obtain ⟨k, rfl, k1, k2, hc⟩ := not_free hf
    exact rplay_same h hL hn (radd_there h hL hI k1 k2 hc 2 x y) (addS_there hf 2 x y) (addE_there hf 2 x y)
theorem rpl_dead (h : RefP B w q M) (hL : Link S M) (hI : Inv S b) (hb : b ≤ 8000000000000) (hn : Cnt M n) (hn9 : n ≤ 8000000000000) (t : Int) (wt : (Lit.int .i64 t).wf = true) (x y : Int) :
    Calls Tryz.prog 10 #[.pointer (some ⟨q, 0, none⟩), .int .i64 3, .int .i64 t, .int .i64 x, .int .i64 y] w (RPlay B q M (addS S 3 t x y) n (.int .i64 (addE S 3 t x y)) w) := by
  have hc9 : M.c < 9000000000000000000 := by have := hn.c; omega
  by_cases hf : Free S t
  · by_cases hg : okAdd 3 t x y
    · rw [← addS_new hf hg, ← addE_new hf hg]
      have h12 := hg.1
      have h3 := hg.2.2.2 rfl
      obtain ⟨k, rfl⟩ : ∃ k : Nat, t = k := ⟨t.toNat, by omega⟩
      have hc := free_zero hf (by omega) (by omega)
      have n0 := hI.n0
      have nB := hI.nB
      refine rplay_came hn (fun M' hM hP => ?_) (radd_dead h (by rw [hL.d]; exact hL.ds) hc9 (k := k) (by omega) (by omega) (C_zero hL (by omega) (by omega) hc) (by rw [hL.d]; exact (hI.free_none (by omega) hc).2.1) h3.1 h3.2.1 h3.2.2 (by rw [hL.n]; exact n0) (by rw [hL.n]; omega))
      exact link_newDead hL hI (by omega) (by omega) hc hM hP
    · refine rplay_same h hL hn ?_ (addS_bad hg) (addE_bad hf hg)
      cases hni : isN t with
      | false => exact radd_num h t wt (C_free hL hf) hni 3 x y
      | true =>
        refine radd_bad3 h t wt (C_free hL hf) hni x y (Decidable.byContradiction fun e => ?_)
        exact hg ⟨of_decide_eq_true hni, fun e => by omega, fun e => by omega, fun _ => by omega⟩
  · obtain ⟨k, rfl, k1, k2, hc⟩ := not_free hf
    exact rplay_same h hL hn (radd_there h hL hI k1 k2 hc 3 x y) (addS_there hf 3 x y) (addE_there hf 3 x y)

theorem rpl_leave (h : RefP B w q M) (hL : Link S M) (hI : Inv S b) (hn : Cnt M n) (hn9 : n ≤ 8000000000000) (t : Int) (wt : (Lit.int .i64 t).wf = true) :
    Calls Tryz.prog 12 #[.pointer (some ⟨q, 0, none⟩), .int .i64 t] w (RPlay B q M (leaveS S t) n (.int .i64 (leaveE S t)) w) := by
  unfold leaveS leaveE
  by_cases hf : Free S t
  · rw [if_pos hf, if_pos hf]
    exact (rleave_free h hL t wt hf).mono fun e w' ⟨h1, h2⟩ => ⟨h1, M, h.later h2, RStep.of_quiet h2, hL, hn.mono (by omega)⟩
  · rw [if_neg hf, if_neg hf]
    obtain ⟨k, rfl, k1, k2, hc⟩ := not_free hf
    refine (rleave_yes h hL hI (by have := hn.c; omega) k1 k2 hc).mono fun e w' ⟨h1, M', h2, h3, h4⟩ => ⟨h1, M', h2, h3, link_left hL k1 k2 h4, ?_, ?_, ?_⟩
    · have := hn.c; have := h4.c; omega
    · rw [h4.used]; split
      · omega
      · exact hn.u0
    · rw [h4.used]; have := hn.u; split <;> omega

theorem rpl_turned {f : Nat} {args : Array Value} {k : Nat} {x : Bool} (hn : Cnt M n) (hP : ∀ M', Turned S' M M' k x → Link S' M') (h : Calls Tryz.prog f args w (RTurn B q S' M k x w)) : Calls Tryz.prog f args w (RPlay B q M S' n (.int .i64 0) w) :=
  h.mono fun e w' ⟨h1, M', h2, h3, h4⟩ => ⟨h1, M', h2, h3, hP M' h4, by have := hn.c; have := h4.c; omega, by rw [h4.same.2.2.2.2.2.2]; exact hn.u0, by have := hn.u; rw [h4.same.2.2.2.2.2.2]; omega⟩
theorem rpl_block (h : RefP B w q M) (hL : Link S M) (hI : Inv S b) (hn : Cnt M n) (hn9 : n ≤ 8000000000000) (t : Int) (wt : (Lit.int .i64 t).wf = true) :
    Calls Tryz.prog 15 #[.pointer (some ⟨q, 0, none⟩), .int .i64 t, .bool true] w (RPlay B q M (blockS S t) n (.int .i64 (blockE S t)) w) := by
  have hc9 : M.c < 9000000000000000000 := by have := hn.c; omega
  by_cases hf : Free S t
  · exact rplay_same h hL hn (rturn_free h hL t wt true hf) (by unfold blockS; rw [if_pos hf]) (by unfold blockE; rw [if_pos hf])
  · have eS : blockS S t = if ready S t.toNat then slept S t.toNat else S := by unfold blockS; rw [if_neg hf]
    have eE : blockE S t = if ready S t.toNat then 0 else 8 := by unfold blockE; rw [if_neg hf]
    obtain ⟨k, rfl, k1, k2, hc⟩ := not_free hf
    rw [Int.toNat_natCast] at eS eE
    cases hr : ready S k with
    | false =>
      rw [hr] at eS eE
      exact rplay_same h hL hn (rturn_state h hL hI k1 k2 hc true hr) eS.symm eE.symm
    | true =>
      rw [hr] at eS eE
      rw [eS, eE]
      show Calls _ _ _ _ (RPlay B q M (slept S k) n (.int .i64 0) w)
      refine rpl_turned hn (fun M' hT => link_slept hL hI k1 k2 hr hT) ?_
      rcases hI.cls k (by omega) with e | e | e | e
      · exact absurd e hc
      · exact rturn_1off h hL hI hc9 k1 k2 e hr
      · exact rturn_2off h hL hI hc9 k1 k2 e hr
      · exact rturn_3off h hL hI hc9 k1 k2 e hr
theorem rpl_wake (h : RefP B w q M) (hL : Link S M) (hI : Inv S b) (hb : b ≤ 8000000000000) (hn : Cnt M n) (hn9 : n ≤ 8000000000000) (t : Int) (wt : (Lit.int .i64 t).wf = true) :
    Calls Tryz.prog 15 #[.pointer (some ⟨q, 0, none⟩), .int .i64 t, .bool false] w (RPlay B q M (wakeS S t) n (.int .i64 (wakeE S t)) w) := by
  have hc9 : M.c < 9000000000000000000 := by have := hn.c; omega
  by_cases hf : Free S t
  · exact rplay_same h hL hn (rturn_free h hL t wt false hf) (by unfold wakeS; rw [if_pos hf]) (by unfold wakeE; rw [if_pos hf])
  · have eS : wakeS S t = if ready S t.toNat then S else woken S t.toNat := by unfold wakeS; rw [if_neg hf]
    have eE : wakeE S t = if ready S t.toNat then 8 else 0 := by unfold wakeE; rw [if_neg hf]
    obtain ⟨k, rfl, k1, k2, hc⟩ := not_free hf
    rw [Int.toNat_natCast] at eS eE
    cases hr : ready S k with
    | true =>
      rw [hr] at eS eE
      exact rplay_same h hL hn (rturn_state h hL hI k1 k2 hc false hr) eS.symm eE.symm
    | false =>
      rw [hr] at eS eE
      rw [eS, eE]
      show Calls _ _ _ _ (RPlay B q M (woken S k) n (.int .i64 0) w)
      refine rpl_turned hn (fun M' hT => link_woken hL hI k1 k2 hc hr hT) ?_
      rcases hI.cls k (by omega) with e | e | e | e
      · exact absurd e hc
      · exact rturn_1on h hL hI hc9 k1 k2 e hr
      · exact rturn_2on h hL hI hc9 k1 k2 e hr
      · exact rturn_3on h hL hI hc9 k1 k2 e hr hb
theorem rpl_tick (h : RefP B w q M) (hL : Link S M) (hI : Inv S b) (hb : b ≤ 8000000000000) (hn : Cnt M n) (hn9 : n ≤ 8000000000000) :
    Calls Tryz.prog 16 #[.pointer (some ⟨q, 0, none⟩)] w (RPlay B q M (tickS S) n (.int .i64 (best S)) w) := by
  have hu := hn.u
  refine (rtick_any h hL hI hb hn.u0 (by omega)).mono fun e w' ⟨h1, M', h2, h3, h4⟩ => ⟨h1, M', h2, h3, link_tick hL hI h4, ?_, ?_, ?_⟩
  · have := hn.c; rw [h4.same.2.2.2.1]; omega
  · rw [h4.used]; show 0 ≤ (if best S = S.now then M.used + 1 else 1); have := hn.u0; split <;> omega
  · rw [h4.used]; show (if best S = S.now then M.used + 1 else 1) ≤ _; split <;> push_cast <;> omega
end
end Go.Proofs.YtpincdcebhmnhaaGreat.Rk
