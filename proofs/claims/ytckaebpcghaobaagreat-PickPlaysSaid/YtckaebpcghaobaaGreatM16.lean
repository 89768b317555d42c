/- Texts of this claim, merged: PkLeft, OffAt, NumAt, Rk, OFNextr, RkBest, RefW, RkTick. -/
import Derived.Test.YtckaebpcghaobaaGreatM09
import Derived.Test.YtckaebpcghaobaaGreatM12
import Derived.Test.YtckaebpcghaobaaGreatM15
import Derived.Test.YtckaebpcghaobaaGreatM01
import Derived.Maps.OwnOps
import Derived.Deep.CutBlock
import Derived.WideKeyEntry
import Derived.Test.YtckaebpcghaobaaGreatM06
import Derived.Test.YtckaebpcghaobaaGreatM02
/- One processor's scheduler: a task leaves. -/
namespace Go.Proofs.YtckaebpcghaobaaGreat.Pk
open Go.ChangeShapes Go.WideShapes Go.ChangeAt Go.RowKit Go.Maps
open Go.Proofs.YtckaebpcghaobaaGreat.Vt
set_option linter.unusedVariables false

/-- What is known when a task has left. -/
def left (S : St) (k : Nat) : St := { gone S k with T := Fr.outT S.T k, Q := Pr.goneTo S.Q (k : Int) 8, d := De.outT S.d k }
def leaveE (S : St) (t : Int) : Int := if Free S t then 4 else 0
def leaveS (S : St) (t : Int) : St := if Free S t then S else left S t.toNat

section
variable {S : St} {B : Int}
theorem left_C (S : St) (k : Nat) : (left S k).C = upd S.C k 0 := rfl
theorem outT_other {T : Fr.Tks} {k j : Nat} (h : j ≠ k) : Fr.outT T k j = T j := by unfold Fr.outT; split; rfl; rw [Fr.upd_other _ _ h]
theorem outD_other {T : De.Tks} {k j : Nat} (h : j ≠ k) : De.outT T k j = T j := by unfold De.outT; split; rfl; rw [De.upd_other _ _ h]
theorem outT_c (T : Fr.Tks) (k : Nat) : (Fr.outT T k k).c = 0 := by unfold Fr.outT; split; assumption; rw [Fr.upd_same]
theorem outD_p (T : De.Tks) (k : Nat) : (De.outT T k k).p = 0 := by unfold De.outT; split; assumption; rw [De.upd_same]; rfl
theorem mem_gone {Q : Pr.Qs} {t x : Int} {i : Nat} (hi : i < 8) : x ∈ Pr.goneTo Q t 8 i ↔ x ∈ Q i ∧ x ≠ t := by
  unfold Pr.goneTo
  rw [if_pos hi]
  unfold Pr.sans
  simp
theorem seek_gone {Q : Pr.Qs} (k t : Int) : (Pr.seek (Pr.goneTo Q k 8) t).isSome = if t = k then false else (Pr.seek Q t).isSome := by
  by_cases e : t = k
  · subst e
    rw [if_pos rfl]
    cases h : Pr.seek (Pr.goneTo Q t 8) t with
    | none => rfl
    | some j =>
      obtain ⟨hj, hm⟩ := Pr.seek_is h
      exact absurd rfl ((mem_gone hj).1 hm).2
  · rw [if_neg e]
    apply seek_congr
    exact ⟨fun ⟨i, hi, hm⟩ => ⟨i, hi, ((mem_gone hi).1 hm).1⟩, fun ⟨i, hi, hm⟩ => ⟨i, hi, (mem_gone hi).2 ⟨hm, e⟩⟩⟩
theorem uniq_gone {Q : Pr.Qs} (h : Pr.Uniq Q) (t : Int) : Pr.Uniq (Pr.goneTo Q t 8) := by
  cases hs : Pr.seek Q t with
  | none => rw [Pr.gone_none hs]; exact h
  | some i =>
    obtain ⟨hi, hm⟩ := Pr.seek_is hs
    rw [h.gone hi hm]
    exact h.out hi

theorem Inv.left (h : Inv S B) {k : Nat} (h1 : 1 ≤ k) (h2 : k ≤ 16) : Inv (Pk.left S k) B := by
  have hB := pos_B h
  refine ⟨?_, fun t ht => ?_, h.gno, ?_, ?_, h.n0, h.nB, h.r0, h.rB, fun t ht => ?_, ?_, fun t ht => ?_, fun t ht => ?_, uniq_gone h.uniq _, fun i hi x hx => ?_, h.av⟩
  · show Fr.Fit (Fr.outT S.T k) S.G (B * 1048576)
    unfold Fr.outT
    split
    · exact h.fit
    · exact h.fit.upd_t h1 _ ⟨by simp, by simp⟩ ⟨by simp, by simp only; omega⟩ ⟨by simp, by simp⟩ (fun e => by cases e)
  · show (Fr.outT S.T k t).g = 0
    by_cases e : t = k
    · subst e; unfold Fr.outT; split
      · exact h.grp t ht
      · rw [Fr.upd_same]
    · rw [outT_other e]; exact h.grp t ht
  · show De.Fit (De.outT S.d k) S.n
    unfold De.outT
    split
    · exact h.dfit
    · exact h.dfit.upd (De.ok_no h.n0) (fun e => rfl)
  · show De.Bare (De.outT S.d k)
    unfold De.outT
    split
    · exact h.bare
    · exact h.bare.upd (fun _ => rfl)
  · show Pr.upd S.C k 0 t = 0 ∨ _
    by_cases e : t = k
    · subst e; rw [Pr.upd_same]; exact Or.inl rfl
    · show Pr.upd S.C k 0 t = 0 ∨ Pr.upd S.C k 0 t = 1 ∨ Pr.upd S.C k 0 t = 2 ∨ Pr.upd S.C k 0 t = 3
      rw [Pr.upd_other _ _ e]; exact h.cls t ht
  · show Pr.upd S.C k 0 0 = 0
    rw [Pr.upd_other _ _ (by omega)]; exact h.c0
  · show Pr.upd S.C k 0 t = 1 ↔ (Fr.outT S.T k t).c ≠ 0
    by_cases e : t = k
    · subst e; rw [Pr.upd_same, outT_c]; simp
    · rw [Pr.upd_other _ _ e, outT_other e]; exact h.cf t ht
  · show Pr.upd S.C k 0 t = 3 ↔ (De.outT S.d k t).p ≠ 0
    by_cases e : t = k
    · subst e; rw [Pr.upd_same, outD_p]; simp
    · rw [Pr.upd_other _ _ e, outD_other e]; exact h.cd t ht
  · have hm := (mem_gone hi).1 hx
    have := h.uniq.task i x hi hm.1
    show Pr.upd S.C k 0 x.toNat = 2
    rw [Pr.upd_other _ _ (by omega)]; exact h.cq i hi x hm.1
theorem Inv.leave (h : Inv S B) (t : Int) : Inv (leaveS S t) B := by
  unfold leaveS
  split
  · exact h
  · rename_i hf
    obtain ⟨k, rfl, k1, k2, kc⟩ := not_free hf
    exact h.left k1 k2

theorem ready_left (S : St) (k j : Nat) : ready (left S k) j = if j = k then false else ready S j := by
  by_cases e : j = k
  · subst e; rw [if_pos rfl, ready_0 (by show Pr.upd S.C j 0 j = 0; rw [Pr.upd_same])]
  · rw [if_neg e]
    have q := seek_gone (Q := S.Q) (k : Int) (j : Int)
    rw [if_neg (by omega)] at q
    exact ready_of (S := S) (by show Pr.upd S.C k 0 j = _; rw [Pr.upd_other _ _ e]) (fun x => by show (Fr.outT S.T k j).r = _; rw [outT_other e, ready_1 x]) (fun x => q.trans (ready_2 x).symm) (fun x => by show (De.outT S.d k j).r = _; rw [outD_other e, ready_3 x]) (fun a b c => ready_rest a b c)

/-- What of a class is left alone. -/
theorem left_1 (h : Inv S B) {k : Nat} (h2 : k < 17) (hc : S.C k = 1) : left S k = { gone S k with T := Fr.upd S.T k ⟨0, 0, 0, false⟩ } := by
  have e1 : Fr.outT S.T k = Fr.upd S.T k ⟨0, 0, 0, false⟩ := by unfold Fr.outT; rw [if_neg ((h.cf k h2).1 hc)]
  have e3 : De.outT S.d k = S.d := by unfold De.outT; rw [if_pos]; apply Decidable.byContradiction; intro q; have := (h.cd k h2).2 q; omega
  have e2 : Pr.goneTo S.Q (k : Int) 8 = S.Q := Pr.gone_none (Pr.seek_none (fun i hi hm => by have := h.cq i hi _ hm; simp at this; omega))
  unfold left
  rw [e1, e2, e3]; rfl
theorem left_2 (h : Inv S B) {k : Nat} (h2 : k < 17) (hc : S.C k = 2) : left S k = { gone S k with Q := Pr.goneTo S.Q (k : Int) 8 } := by
  have e1 : Fr.outT S.T k = S.T := by unfold Fr.outT; rw [if_pos]; apply Decidable.byContradiction; intro q; have := (h.cf k h2).2 q; omega
  have e3 : De.outT S.d k = S.d := by unfold De.outT; rw [if_pos]; apply Decidable.byContradiction; intro q; have := (h.cd k h2).2 q; omega
  unfold left
  rw [e1, e3]; rfl
theorem left_3 (h : Inv S B) {k : Nat} (h2 : k < 17) (hc : S.C k = 3) : left S k = { gone S k with d := De.upd S.d k De.noTk } := by
  have e1 : Fr.outT S.T k = S.T := by unfold Fr.outT; rw [if_pos]; apply Decidable.byContradiction; intro q; have := (h.cf k h2).2 q; omega
  have e3 : De.outT S.d k = De.upd S.d k De.noTk := by unfold De.outT; rw [if_neg ((h.cd k h2).1 hc)]
  have e2 : Pr.goneTo S.Q (k : Int) 8 = S.Q := Pr.gone_none (Pr.seek_none (fun i hi hm => by have := h.cq i hi _ hm; simp at this; omega))
  unfold left
  rw [e1, e2, e3]; rfl

variable {w : World} {p D : Nat} {V : Nat → Value}
theorem leave_any (h : PickAt w p D V S) (hI : Inv S B) (t : Int) :
    Calls Tryz.prog 11 #[.pointer (some ⟨p, 0, none⟩), .int .i64 t] w (Did p D V (leaveS S t) (.int .i64 (leaveE S t)) w) := by
  by_cases hf : Free S t
  · exact did_is (leave_free h t hf) (by unfold leaveS; rw [if_pos hf]) (by unfold leaveE; rw [if_pos hf])
  · obtain ⟨k, rfl, k1, k2, kc⟩ := not_free hf
    have eS : leaveS S (k : Int) = left S k := by unfold leaveS; rw [if_neg hf]; rfl
    have eE : leaveE S (k : Int) = 0 := by unfold leaveE; rw [if_neg hf]
    rw [eS, eE]
    rcases hI.cls k (by omega) with c | c | c | c
    · exact absurd c kc
    · exact did_is (leave_fair h k k1 k2 c (T' := Fr.upd S.T k ⟨0, 0, 0, false⟩) (x := 0) (fun W hW => Fr.leave_yes hW.fair k k1 k2 ((hI.cf k (by omega)).1 c))) (left_1 hI (by omega) c).symm rfl
    · cases hs : Pr.seek S.Q (k : Int) with
      | some i =>
        obtain ⟨hi, hm⟩ := Pr.seek_is hs
        exact did_is (leave_fixed h k k1 k2 c (Q' := upd S.Q i ((S.Q i).erase k)) (x := 0) (fun W hW => fleave_yes hW hI.uniq k hs)) (by rw [left_2 hI (by omega) c, hI.uniq.gone hi hm]) rfl
      | none =>
        exact did_is (leave_fixed h k k1 k2 c (Q' := S.Q) (x := 0) (fun W hW => fleave_no hW hI.uniq k hs)) (by rw [left_2 hI (by omega) c, Pr.gone_none hs]) rfl
    · exact did_is (leave_dead h k k1 k2 c (d' := De.upd S.d k De.noTk) (x := 0) (fun W hW => De.leave_yes hW.dead k k1 k2 ((hI.cd k (by omega)).1 c))) (left_3 hI (by omega) c).symm rfl
end
end Go.Proofs.YtckaebpcghaobaaGreat.Pk
/- A map from numbers to bools of a call's own. -/
namespace Go.Proofs.YtckaebpcghaobaaGreat.Of
open Go.ChangeShapes Go.WideShapes Go.ChangeAt Go.RowKit Go.Maps
set_option linter.unusedVariables false
set_option maxRecDepth 100000

def bkey (t : Int) : Lit := .int .i64 t
theorem bkey_ne {a b : Int} (h : a ≠ b) : bkey a ≠ bkey b := by intro e; cases e; exact h rfl
theorem bkey_lit (a : Int) : WideAt.IsKeyLit (bkey a) := by simp [WideAt.IsKeyLit, bkey]
def bval (b : Bool) : DataW Unit := .lit (.bool b)

theorem keyed_int : Keyed Tryz.prog 3 := int_keyed Tryz.underlying3
theorem zero_bool (w : World) : (zeroValue 4).run Tryz.prog w = .ok (.bool false) w := by kernel_rfl

theorem plain_bool_inv {v : Value} {z : DataW Unit × List MemPlace} (h : plainElem Tryz.prog 4 v = some z) : ∃ b, v = .bool b ∧ z = (bval b, []) := by
  unfold plainElem at h
  rw [Tryz.underlying4] at h
  cases v <;> simp at h
  exact ⟨_, rfl, h.symm⟩

/-- A map in block b, of at most n entries, that tells f. -/
def OffAt (w : World) (b n : Nat) (f : Int → Bool) : Prop := ∃ D : DataW Unit, w.ownsMap Tryz.prog 3 (plainElem Tryz.prog 4) b n D ∧ IsMap D ∧ ∀ t, D.atKey (bkey t) (bval false) = bval (f t)

section
variable {w w' : World} {b n : Nat} {f : Int → Bool}
theorem OffAt.keep {S : Nat → Prop} (h : OffAt w b n f) (hO : Only S w w') (hS : ¬ S b) : OffAt w' b n f := by
  obtain ⟨D, ⟨es, clock, h1, h2⟩, h3⟩ := h
  exact ⟨D, ⟨es, clock, (hO.block _ (block_there h1) hS).trans h1, h2⟩, h3⟩
theorem OffAt.later (h : OffAt w b n f) (hO : Only (fun _ => False) w w') : OffAt w' b n f := h.keep hO id
theorem OffAt.lt (h : OffAt w b n f) : b < w.heap.size := by obtain ⟨D, ⟨es, clock, h1, h2⟩, h3⟩ := h; exact block_there h1
theorem OffAt.made (w : World) : OffAt (w.alloc (.map #[] 0)) w.heap.size 0 (fun _ => false) := ⟨_, World.ownsMap_made w _ _ _, isMap_empty, fun t => rfl⟩
theorem OffAt.mono (h : OffAt w b n f) {m : Nat} (hm : n ≤ m) : OffAt w b m f := by obtain ⟨D, h1, h2⟩ := h; exact ⟨D, h1.mono hm, h2⟩

theorem OffAt.look (h : OffAt w b n f) (t : Int) (ht : (Lit.int .i64 t).wf = true) : (Instr.lookup 30 (.map (some b)) (.int .i64 t) false).run Tryz.prog w = .ok (.bool (f t)) w := by
  obtain ⟨D, h1, h2, h3⟩ := h
  obtain ⟨v, ps, hrun, hv⟩ := h1.lookup keyed_int Tryz.underlying30 (zero_bool w) (plainElem_bool Tryz.underlying4 false) (keyOf_int_mk Tryz.underlying3 ht)
  obtain ⟨c, rfl, hc⟩ := plain_bool_inv hv
  have := h3 t
  unfold bkey bval at *
  rw [Prod.mk.injEq] at hc
  rw [this] at hc
  have e : f t = c := by have := hc.1; cases this; rfl
  rw [e]
  exact hrun
end

/-- A number's bool told anew. -/
def updI (f : Int → Bool) (t : Int) (c : Bool) : Int → Bool := fun x => if x = t then c else f x

theorem only_turned {w w' : World} {b : Nat} (h : w.mapTurned w' b) : Only (· = b) w w' :=
  Only.of_grown (S := fun k => k = b) h.grown (fun k hk => by cases hk; rfl)

theorem wpList_off {w : World} {ops : Array Oper} {rest : List Oper} {o : Oper} {a : Act} {Q : Exit → Act → World → Prop} (hg : o.guard = none) (m x v : Operand) (hop : o.op = Op.mapUpdate 30 m x v)
    (b n : Nat) (f : Int → Bool) (hm : a.eval m = .map (some b)) (h : OffAt w b n f) (hn : n < 1000) (t : Int) (c : Bool) (hx : a.eval x = .int .i64 t) (hv : a.eval v = .bool c) (ht : (Lit.int .i64 t).wf = true)
    (hK : ∀ w', OffAt w' b (n + 1) (updI f t c) → Only (· = b) w w' → wpList Tryz.prog ops Q rest (a.put o.dst undef) w') : wpList Tryz.prog ops Q (o :: rest) a w := by
  obtain ⟨D, h1, h2, h3⟩ := h
  refine wpList_mapUpdate_in w hg m x v 30 hop 3 4 keyed_int Tryz.underlying30 _ b n D hm h1 (by unfold maxLen; omega) _ _ _ hx hv (keyOf_int_mk Tryz.underlying3 ht) _ [] (plainElem_bool Tryz.underlying4 c) ?_
  intro w' hown hturn
  refine hK w' ⟨_, hown, h2.put _ _, fun y => ?_⟩ (only_turned hturn)
  unfold updI
  by_cases e : y = t
  · subst e; rw [if_pos rfl]; exact atKey_put_same h2 (bkey_lit y) _ _
  · rw [if_neg e, ← h3 y]; exact atKey_put_other (bkey_ne e) _ _
end Go.Proofs.YtckaebpcghaobaaGreat.Of
/- A map from numbers to numbers of a call's own; an entry stored by a tuple's assignment. -/
namespace Go.Proofs.YtckaebpcghaobaaGreat.Of
open Go.ChangeShapes Go.WideShapes Go.ChangeAt Go.RowKit Go.Maps
set_option linter.unusedVariables false
set_option maxRecDepth 100000

/-- A map told of by another block's name. -/
def ival (x : Int) : DataW Unit := .lit (.int .i64 x)
theorem zero_int (w : World) : (zeroValue 3).run Tryz.prog w = .ok (.int .i64 0) w := by kernel_rfl
theorem plain_int_inv {v : Value} {z : DataW Unit × List MemPlace} (h : plainElem Tryz.prog 3 v = some z) : ∃ b, v = .int .i64 b ∧ z = (ival b, []) := by
  obtain ⟨a, h1, h2, -⟩ := plainElem_int_inv Tryz.underlying3 h
  exact ⟨a, h1, h2⟩
/-- A map in block b, of at most n entries, of ints, that tells f. -/
def NumsAt (w : World) (b n : Nat) (f : Int → Int) : Prop := ∃ D : DataW Unit, w.ownsMap Tryz.prog 3 (plainElem Tryz.prog 3) b n D ∧ IsMap D ∧ ∀ t, D.atKey (bkey t) (ival 0) = ival (f t)

section
variable {w w' : World} {b n : Nat} {f : Int → Int}
theorem NumsAt.keep {S : Nat → Prop} (h : NumsAt w b n f) (hO : Only S w w') (hS : ¬ S b) : NumsAt w' b n f := by
  obtain ⟨D, ⟨es, clock, h1, h2⟩, h3⟩ := h
  exact ⟨D, ⟨es, clock, (hO.block _ (block_there h1) hS).trans h1, h2⟩, h3⟩
theorem NumsAt.later (h : NumsAt w b n f) (hO : Only (fun _ => False) w w') : NumsAt w' b n f := h.keep hO id
theorem NumsAt.lt (h : NumsAt w b n f) : b < w.heap.size := by obtain ⟨D, ⟨es, clock, h1, h2⟩, h3⟩ := h; exact block_there h1
theorem NumsAt.made (w : World) : NumsAt (w.alloc (.map #[] 0)) w.heap.size 0 (fun _ => 0) := ⟨_, World.ownsMap_made w _ _ _, isMap_empty, fun t => rfl⟩
theorem NumsAt.mono (h : NumsAt w b n f) {m : Nat} (hm : n ≤ m) : NumsAt w b m f := by obtain ⟨D, h1, h2⟩ := h; exact ⟨D, h1.mono hm, h2⟩

theorem NumsAt.look (h : NumsAt w b n f) (t : Int) (ht : (Lit.int .i64 t).wf = true) : (Instr.lookup 29 (.map (some b)) (.int .i64 t) false).run Tryz.prog w = .ok (.int .i64 (f t)) w := by
  obtain ⟨D, h1, h2, h3⟩ := h
  obtain ⟨v, ps, hrun, hv⟩ := h1.lookup keyed_int Tryz.underlying29 (zero_int w) (plainElem_int Tryz.underlying3 (by decide)) (keyOf_int_mk Tryz.underlying3 ht)
  obtain ⟨c, rfl, hc⟩ := plain_int_inv hv
  have := h3 t
  unfold bkey ival at *
  rw [Prod.mk.injEq] at hc
  rw [this] at hc
  have e : f t = c := by have := hc.1; cases this; rfl
  rw [e]
  exact hrun
end


/-- A number told anew. -/
def updN (f : Int → Int) (t : Int) (c : Int) : Int → Int := fun x => if x = t then c else f x

open Go.WideElems Go.ChangeMaps Go.MapKept in
/-- An entry asked for, and stored later: as one update. -/
theorem entry_store {P : Program} {t k e : TypeId} {R : Value → Option (DataW Unit × List MemPlace)} {w : World} {b : Nat} {es : Array MapEntry} {clock : Nat} (K : Keyed P k) (ht : P.underlying t = some (.map k e)) {z : Value} (hz : ∀ u : World, (zeroValue e).run P u = .ok z u)
    (hb : w.heap[b]? = some (.map es clock)) (F : Fit P k R es clock) {key : Value} {kl : Lit} (hkey : keyOf P k key = some kl) :
    ∃ (v0 : Value) (st : Nat) (o1 : Obj), (Instr.mapEntry t (.map (some b)) key).run P w = .ok (.tuple #[v0, goInt st]) (setBlock w b o1) ∧ (∃ es1 c1, o1 = .map es1 c1) ∧
      ∀ (w2 : World) (val : Value), w2.heap[b]? = some o1 → ∃ o2 : Obj, (Instr.entryStore t (.map (some b)) (goInt st) val).run P w2 = .ok () (setBlock w2 b o2) ∧ (Instr.mapUpdate t (.map (some b)) key val).run P w = .ok () (setBlock w b o2) := by
  have S1 := F.stamped.1
  have S2 := F.stamped.2.1
  rcases K.find w hkey es.toList F.keys with ⟨no, -⟩ | ⟨j, x, at1, at2, at3⟩
  · refine ⟨z, clock, .map (es.push ⟨key, z, clock⟩) (clock + 1), by simp [Instr.mapEntry, run_underlying ht, MapKept.run_getObj_map hb, K.check w false hkey, no, hz, MapKept.run_setObj_map _ hb, Result.andThen, setBlock], ⟨_, _, rfl⟩, fun w2 val h2 => ⟨.map (es.push ⟨key, val, clock⟩) (clock + 1), ?_, ?_⟩⟩
    · have pos : (es.push ⟨key, z, clock⟩).findIdx? (fun e => ((e.born : Nat) : Int) == ((clock : Nat) : Int)) = some es.size := by
        rw [findIdx_arr]
        refine findIdx_born (l := (es.push ⟨key, z, clock⟩).toList) (j := es.size) (e0 := ⟨key, z, clock⟩) ?_ (by simp)
        rw [Array.toList_push, List.map_append, List.nodup_append]
        refine ⟨S2, by simp, fun y hy c hc he => ?_⟩
        have hc' : c = clock := by simpa using hc
        obtain ⟨x, hx, rfl⟩ := List.mem_map.1 hy
        have := S1 x hx
        omega
      have new : (es.push ⟨key, z, clock⟩).modify es.size (fun e => { e with val := val }) = es.push ⟨key, val, clock⟩ := by
        apply Array.ext'
        rw [Array.toList_modify, Array.toList_push, Array.toList_push, ← Array.length_toList, modify_last]
      simp [Instr.entryStore, MapKept.run_getObj_map h2, asInt, asIntOf, goInt, pos, new, MapKept.run_setObj_map _ h2, Result.andThen, setBlock]
    · simp [Instr.mapUpdate, run_underlying ht, MapKept.run_getObj_map hb, K.check w false hkey, no, MapKept.run_setObj_map _ hb, Result.andThen, setBlock]
  · have pos : es[j]? = some x := by simpa using at2
    have self : es.modify j (fun e => { e with key := key }) = es := by
      apply Array.ext'
      rw [Array.toList_modify, modify_eq_set _ _ _ _ at2, show ({ x with key := key } : MapEntry) = x by rw [← at3]]
      exact set_self _ _ _ at2
    refine ⟨x.val, x.born, .map es clock, by simp [Instr.mapEntry, run_underlying ht, MapKept.run_getObj_map hb, K.check w false hkey, at1, pos, at3, K.stays w hkey, self, MapKept.run_setObj_map _ hb, Result.andThen, setBlock], ⟨_, _, rfl⟩, fun w2 val h2 => ⟨.map (es.modify j (fun e' => { e' with key := key, val := val })) clock, ?_, ?_⟩⟩
    · have at4 : es.findIdx? (fun e => ((e.born : Nat) : Int) == ((x.born : Nat) : Int)) = some j := by
        rw [findIdx_arr]
        exact findIdx_born S2 at2
      have new : es.modify j (fun e => { e with val := val }) = es.modify j (fun e' => { e' with key := key, val := val }) := by
        apply Array.ext'
        rw [Array.toList_modify, Array.toList_modify, modify_eq_set _ _ _ _ at2, modify_eq_set _ _ _ _ at2, ← at3]
      simp [Instr.entryStore, MapKept.run_getObj_map h2, asInt, asIntOf, goInt, at4, new, MapKept.run_setObj_map _ h2, Result.andThen, setBlock]
    · simp [Instr.mapUpdate, run_underlying ht, MapKept.run_getObj_map hb, K.check w false hkey, at1, pos, at3, K.stays w hkey, MapKept.run_setObj_map _ hb, Result.andThen, setBlock]

open Go.ChangeMaps in
theorem block_twice (w : World) (b : Nat) (o o' : Obj) : setBlock (setBlock w b o) b o' = setBlock w b o' := by
  unfold setBlock
  simp [Array.setIfInBounds_setIfInBounds]

open Go.WideElems Go.ChangeMaps Go.MapKept in
/-- At the three operations of a tuple's assignment to a map's entry. -/
theorem wpList_entry {P : Program} {w : World} {ops : Array Oper} {rest : List Oper} {o1 o2 o3 : Oper} {a : Act} {Q : Exit → Act → World → Prop} (g1 : o1.guard = none) (g2 : o2.guard = none) (g3 : o3.guard = none) (m x u s v : Operand) {t k e : TypeId}
    (h1 : o1.op = .mapEntry t m x) (h2 : o2.op = .extract u 1) (h3 : o3.op = .entryStore t m s v) (K : Keyed P k) (ht : P.underlying t = some (.map k e)) {z : Value} (hz : ∀ u : World, (zeroValue e).run P u = .ok z u)
    (R : Value → Option (DataW Unit × List MemPlace)) (b n : Nat) (D : DataW Unit) (hm : a.eval m = .map (some b)) (hown : w.ownsMap P k R b n D) (hn : n < maxLen) (key val : Value) (kl : Lit) (hx : a.eval x = key) (hkey : keyOf P k key = some kl)
    (d : DataW Unit) (ps : List MemPlace) (hval : R val = some (d, ps))
    (hu : ∀ y, (a.put o1.dst y).eval u = y) (he : ∀ y y', ((a.put o1.dst y).put o2.dst y').eval m = .map (some b) ∧ ((a.put o1.dst y).put o2.dst y').eval s = y' ∧ ((a.put o1.dst y).put o2.dst y').eval v = val)
    (hK : ∀ y y' w', w'.ownsMap P k R b (n + 1) (D.put kl d) → w.mapTurned w' b → wpList P ops Q rest (((a.put o1.dst y).put o2.dst y').put o3.dst undef) w') :
    wpList P ops Q (o1 :: o2 :: o3 :: rest) a w := by
  obtain ⟨es, clock, hb, F, hs, hD⟩ := id hown
  obtain ⟨v0, st, ob, r1, ⟨es1, c1, rfl⟩, r2⟩ := entry_store K ht hz hb F hkey
  obtain ⟨w', r3, r4, r5⟩ := hown.store K ht hn hkey hval
  have hb1 : (setBlock w b (.map es1 c1)).heap[b]? = some (.map es1 c1) := heap_setBlock_same hb _
  obtain ⟨o2', q1, q2⟩ := r2 (setBlock w b (.map es1 c1)) val hb1
  rw [r3] at q2
  have ew : w' = setBlock w b o2' := by injection q2
  rw [block_twice, ← ew] at q1
  refine wpList_plain g1 fun K1 hK1 => ?_
  unfold Oper.wp
  simp only [execOp, h1, hm, hx, r1, Sem.run_bind, Sem.run_pure, Result.andThen_ok]
  refine hK1 _ _ ?_
  refine wpList_plain g2 fun K2 hK2 => ?_
  unfold Oper.wp
  simp only [execOp, h2, hu, Sem.run_bind, Sem.run_pure]
  refine hK2 ((a.put o1.dst (.tuple #[v0, goInt st])).put o2.dst (goInt st)) _ ?_
  refine wpList_plain g3 fun K3 hK3 => ?_
  obtain ⟨e1, e2, e3⟩ := he (.tuple #[v0, goInt st]) (goInt st)
  unfold Oper.wp
  simp only [execOp, h3, e1, e2, e3, q1, Sem.run_bind, Sem.run_pure, Result.andThen_ok]
  exact hK3 _ _ (hK _ _ _ r4 r5)

theorem NumsAt.put {w' : World} {b n : Nat} {f : Int → Int} {D : DataW Unit} (h2 : IsMap D) (h3 : ∀ t, D.atKey (bkey t) (ival 0) = ival (f t)) (t c : Int) (h1 : w'.ownsMap Tryz.prog 3 (plainElem Tryz.prog 3) b n (D.put (bkey t) (ival c))) : NumsAt w' b n (updN f t c) := by
  refine ⟨_, h1, h2.put _ _, fun y => ?_⟩
  unfold updN
  by_cases e : y = t
  · subst e; rw [if_pos rfl]; exact atKey_put_same h2 (bkey_lit y) _ _
  · rw [if_neg e, ← h3 y]; exact atKey_put_other (bkey_ne e) _ _
theorem OffAt.put {w' : World} {b n : Nat} {f : Int → Bool} {D : DataW Unit} (h2 : IsMap D) (h3 : ∀ t, D.atKey (bkey t) (bval false) = bval (f t)) (t : Int) (c : Bool) (h1 : w'.ownsMap Tryz.prog 3 (plainElem Tryz.prog 4) b n (D.put (bkey t) (bval c))) : OffAt w' b n (updI f t c) := by
  refine ⟨_, h1, h2.put _ _, fun y => ?_⟩
  unfold updI
  by_cases e : y = t
  · subst e; rw [if_pos rfl]; exact atKey_put_same h2 (bkey_lit y) _ _
  · rw [if_neg e, ← h3 y]; exact atKey_put_other (bkey_ne e) _ _

section
variable {w : World} {ops : Array Oper} {rest : List Oper} {a : Act} {Q : Exit → Act → World → Prop}
/-- A number told anew in a map of numbers. -/
theorem wpList_num {o : Oper} (hg : o.guard = none) (m x v : Operand) (hop : o.op = Op.mapUpdate 29 m x v)
    (b n : Nat) (f : Int → Int) (hm : a.eval m = .map (some b)) (h : NumsAt w b n f) (hn : n < 9000000000000000000) (t c : Int) (hx : a.eval x = .int .i64 t) (hv : a.eval v = .int .i64 c) (ht : (Lit.int .i64 t).wf = true) (hc : (Lit.int .i64 c).wf = true)
    (hK : ∀ w', NumsAt w' b (n + 1) (updN f t c) → Only (· = b) w w' → wpList Tryz.prog ops Q rest (a.put o.dst undef) w') : wpList Tryz.prog ops Q (o :: rest) a w := by
  obtain ⟨D, h1, h2, h3⟩ := h
  exact wpList_mapUpdate_in w hg m x v 29 hop 3 3 keyed_int Tryz.underlying29 _ b n D hm h1 (by unfold maxLen; omega) _ _ _ hx hv (keyOf_int_mk Tryz.underlying3 ht) _ [] (plainElem_int Tryz.underlying3 hc) (fun w' hown hturn => hK w' (NumsAt.put h2 h3 t c hown) (only_turned hturn))
theorem wpList_off2 {o : Oper} (hg : o.guard = none) (m x v : Operand) (hop : o.op = Op.mapUpdate 30 m x v)
    (b n : Nat) (f : Int → Bool) (hm : a.eval m = .map (some b)) (h : OffAt w b n f) (hn : n < 9000000000000000000) (t : Int) (c : Bool) (hx : a.eval x = .int .i64 t) (hv : a.eval v = .bool c) (ht : (Lit.int .i64 t).wf = true)
    (hK : ∀ w', OffAt w' b (n + 1) (updI f t c) → Only (· = b) w w' → wpList Tryz.prog ops Q rest (a.put o.dst undef) w') : wpList Tryz.prog ops Q (o :: rest) a w := by
  obtain ⟨D, h1, h2, h3⟩ := h
  exact wpList_mapUpdate_in w hg m x v 30 hop 3 4 keyed_int Tryz.underlying30 _ b n D hm h1 (by unfold maxLen; omega) _ _ _ hx hv (keyOf_int_mk Tryz.underlying3 ht) _ [] (plainElem_bool Tryz.underlying4 c) (fun w' hown hturn => hK w' (OffAt.put h2 h3 t c hown) (only_turned hturn))
/-- The same by a tuple's assignment. -/
theorem wpList_num3 {o1 o2 o3 : Oper} (g1 : o1.guard = none) (g2 : o2.guard = none) (g3 : o3.guard = none) (m x u s v : Operand) (h1 : o1.op = .mapEntry 29 m x) (h2 : o2.op = .extract u 1) (h3 : o3.op = .entryStore 29 m s v)
    (b n : Nat) (f : Int → Int) (hm : a.eval m = .map (some b)) (h : NumsAt w b n f) (hn : n < 9000000000000000000) (t c : Int) (hx : a.eval x = .int .i64 t) (ht : (Lit.int .i64 t).wf = true) (hc : (Lit.int .i64 c).wf = true)
    (hu : ∀ y, (a.put o1.dst y).eval u = y) (he : ∀ y y', ((a.put o1.dst y).put o2.dst y').eval m = .map (some b) ∧ ((a.put o1.dst y).put o2.dst y').eval s = y' ∧ ((a.put o1.dst y).put o2.dst y').eval v = .int .i64 c)
    (hK : ∀ y y' w', NumsAt w' b (n + 1) (updN f t c) → Only (· = b) w w' → wpList Tryz.prog ops Q rest (((a.put o1.dst y).put o2.dst y').put o3.dst undef) w') : wpList Tryz.prog ops Q (o1 :: o2 :: o3 :: rest) a w := by
  obtain ⟨D, q1, q2, q3⟩ := h
  exact wpList_entry g1 g2 g3 m x u s v h1 h2 h3 keyed_int Tryz.underlying29 zero_int _ b n D hm q1 (by unfold maxLen; omega) _ _ _ hx (keyOf_int_mk Tryz.underlying3 ht) _ [] (plainElem_int Tryz.underlying3 hc) hu he (fun y y' w' hown hturn => hK y y' w' (NumsAt.put q2 q3 t c hown) (only_turned hturn))
theorem wpList_off3 {o1 o2 o3 : Oper} (g1 : o1.guard = none) (g2 : o2.guard = none) (g3 : o3.guard = none) (m x u s v : Operand) (h1 : o1.op = .mapEntry 30 m x) (h2 : o2.op = .extract u 1) (h3 : o3.op = .entryStore 30 m s v)
    (b n : Nat) (f : Int → Bool) (hm : a.eval m = .map (some b)) (h : OffAt w b n f) (hn : n < 9000000000000000000) (t : Int) (c : Bool) (hx : a.eval x = .int .i64 t) (ht : (Lit.int .i64 t).wf = true)
    (hu : ∀ y, (a.put o1.dst y).eval u = y) (he : ∀ y y', ((a.put o1.dst y).put o2.dst y').eval m = .map (some b) ∧ ((a.put o1.dst y).put o2.dst y').eval s = y' ∧ ((a.put o1.dst y).put o2.dst y').eval v = .bool c)
    (hK : ∀ y y' w', OffAt w' b (n + 1) (updI f t c) → Only (· = b) w w' → wpList Tryz.prog ops Q rest (((a.put o1.dst y).put o2.dst y').put o3.dst undef) w') : wpList Tryz.prog ops Q (o1 :: o2 :: o3 :: rest) a w := by
  obtain ⟨D, q1, q2, q3⟩ := h
  exact wpList_entry g1 g2 g3 m x u s v h1 h2 h3 keyed_int Tryz.underlying30 zero_bool _ b n D hm q1 (by unfold maxLen; omega) _ _ _ hx (keyOf_int_mk Tryz.underlying3 ht) _ [] (plainElem_bool Tryz.underlying4 c) hu he (fun y y' w' hown hturn => hK y y' w' (OffAt.put q2 q3 t c hown) (only_turned hturn))
end
end Go.Proofs.YtckaebpcghaobaaGreat.Of
/- The reference of one processor's scheduler in memory: its classes side by side in one block, three maps, and what changes what. -/
namespace Go.Proofs.YtckaebpcghaobaaGreat.Rk
open Go.ChangeShapes Go.WideShapes Go.ChangeAt Go.RowKit Go.Maps
open Go.Proofs.YtckaebpcghaobaaGreat.Of
set_option linter.unusedVariables false
set_option maxRecDepth 100000

/-- A block of cells of a type. -/
def Kind (w : World) (k t : Nat) : Prop := ∃ cs fr, w.heap[k]? = some (.cells cs t fr)
/-- A block that is a map. -/
def IsMp (w : World) (k : Nat) : Prop := ∃ es c, w.heap[k]? = some (.map es c)

theorem Kind.one {w : World} {k t t' : Nat} (h : Kind w k t) (h' : Kind w k t') : t = t' := by
  obtain ⟨cs, fr, h⟩ := h
  obtain ⟨cs', fr', h'⟩ := h'
  rw [h] at h'
  injection h' with e; injection e
theorem Kind.no_map {w : World} {k t : Nat} (h : Kind w k t) (h' : IsMp w k) : False := by
  obtain ⟨cs, fr, h⟩ := h
  obtain ⟨es, c, h'⟩ := h'
  rw [h] at h'
  injection h' with e; cases e
theorem Kind.lt {w : World} {k t : Nat} (h : Kind w k t) : k < w.heap.size := by obtain ⟨cs, fr, h⟩ := h; exact block_there h
theorem IsMp.lt {w : World} {k : Nat} (h : IsMp w k) : k < w.heap.size := by obtain ⟨cs, fr, h⟩ := h; exact block_there h

/-- Block q as it was outside the cells a .. a + n - 1. -/
def Still (q a n : Nat) (w w' : World) : Prop := ∀ cs T, w.heap[q]? = some (.cells cs T (0, 0)) → ∃ cs', w'.heap[q]? = some (.cells cs' T (0, 0)) ∧ cs'.size = cs.size ∧ ∀ j, j < a ∨ a + n ≤ j → cs'[j]? = cs[j]?
theorem Still.of {q a n : Nat} {w w' : World} {R : Nat → Prop} (hO : Only R w w') (hq : q < w.heap.size) (hR : ¬ R q) : Still q a n w w' := fun cs T h => ⟨cs, (hO.block q hq hR).trans h, rfl, fun _ _ => rfl⟩
theorem Still.set {q a n : Nat} {w w' : World} (h : Still q a n w w') {i : Nat} (hi : a ≤ i ∧ i < a + n) (u : Value) : Still q a n w (w'.setCell ⟨q, i, none⟩ u) := fun cs T hc => by
  obtain ⟨cs1, h1, s1, e1⟩ := h cs T hc
  refine ⟨_, heap_setCell_same w' q i cs1 T u h1, by simp [s1], fun j hj => ?_⟩
  rw [Array.getElem?_setIfInBounds, if_neg (by omega)]
  exact e1 j hj
theorem Still.cell {q a n : Nat} {w w' : World} (h : Still q a n w w') (hb : ∃ cs T, w.heap[q]? = some (.cells cs T (0, 0))) {j : Nat} (hj : j < a ∨ a + n ≤ j) : w'.cell? ⟨q, j, none⟩ = w.cell? ⟨q, j, none⟩ := by
  obtain ⟨cs, T, h1⟩ := hb
  obtain ⟨cs', h2, -, h3⟩ := h cs T h1
  rw [cell_at h1, cell_at h2]; exact h3 j hj
theorem Still.wide {q a n a' n' : Nat} {w w' : World} (h : Still q a n w w') (h1 : a' ≤ a) (h2 : a + n ≤ a' + n') : Still q a' n' w w' := fun cs T hc => by
  obtain ⟨cs1, q1, s1, e1⟩ := h cs T hc
  exact ⟨cs1, q1, s1, fun j hj => e1 j (by omega)⟩

section
variable {B : Nat} {w w' : World} {q a n D : Nat} {R : Nat → Prop}

theorem fair_keep {L : List (Nat × Nat)} {T : Fr.Tks} {G : Fr.Grs} {W GW : Nat → Int} (h : Fr.RefAt B w q 0 D L T G W GW) (hO : Only R w w') (hs : Still q a n w w') (ha : 28 ≤ a ∨ a + n ≤ 0)
    (hR : ∀ k, R k → k ≠ q → ¬ Kind w k 82 ∧ ¬ Kind w k 80) : Fr.RefAt B w' q 0 D L T G W GW := by
  obtain ⟨⟨cs, V, h1, h2, h3, h4⟩, h5, h6, h7, h8, h9⟩ := h
  obtain ⟨cs', q1, q2, q3⟩ := hs cs D h1
  have e : ∀ j, j < 28 → cs'[j]? = cs[j]? := fun j hj => q3 j (by omega)
  refine ⟨⟨cs', V, q1, ⟨by rw [q2]; exact h2.size, (e _ (by omega)).trans h2.v, fun g hg => (e _ (by omega)).trans (h2.is g hg), fun g hg => (e _ (by omega)).trans (h2.gw g hg), fun g hg => (e _ (by omega)).trans (h2.gv g hg)⟩, h3.keep hO (fun g hg hr => ?_), h4⟩, fun x hx => ?_, h6, h7, h8, h9⟩
  · obtain ⟨cur, hc⟩ := owns_type h3 hg
    exact (hR g hr (h4 g hg).1).2 ⟨cur, _, hc⟩
  · have := h5 x hx
    exact (hO.block x.1 (block_there this) (fun hr => (hR x.1 hr (h7 x hx)).1 ⟨_, _, this⟩)).trans this
theorem dead_keep {L : List (Nat × Nat)} {T : De.Tks} {m : Int} (h : De.RefAt B w q 36 D L T m) (hO : Only R w w') (hs : Still q a n w w') (ha : 38 ≤ a ∨ a + n ≤ 36)
    (hR : ∀ k, R k → k ≠ q → ¬ Kind w k 86 ∧ ¬ Kind w k 84) : De.RefAt B w' q 36 D L T m := by
  obtain ⟨⟨cs, V, h1, h2, h3, h4⟩, h5, h6, h7, h8, h9⟩ := h
  obtain ⟨cs', q1, q2, q3⟩ := hs cs D h1
  refine ⟨⟨cs', V, q1, ⟨(q3 _ (by omega)).trans h2.1, (q3 _ (by omega)).trans h2.2⟩, h3.keep hO (fun g hg hr => ?_), h4⟩, fun x hx => ?_, h6, h7, h8, h9⟩
  · obtain ⟨cur, hc⟩ := owns_type h3 hg
    exact (hR g hr (h4 g hg).1).2 ⟨cur, _, hc⟩
  · have := h5 x hx
    exact (hO.block x.1 (block_there this) (fun hr => (hR x.1 hr (h7 x hx)).1 ⟨_, _, this⟩)).trans this
theorem prio_keep {U : Nat → Value} {Q : Pr.Qs} (h : Pr.QAt w q 28 D U Q) (hO : Only R w w') (hs : Still q a n w w') (ha : 36 ≤ a ∨ a + n ≤ 28)
    (hR : ∀ k, R k → k ≠ q → ∀ i, i < 8 → (U i).ownBlock ≠ some k) : Pr.QAt w' q 28 D U Q := by
  obtain ⟨cs, h1, h2⟩ := h.block
  obtain ⟨cs', q1, q2, q3⟩ := hs cs D h1
  exact ⟨⟨cs', q1, fun i hi => (q3 _ (by omega)).trans (h2 i hi)⟩, h.type, fun i hi => (h.row i hi).keep hO (fun g hg hr => hR g hr (fun e => h.not_row hi (e ▸ hg)) i hi hg), h.apart⟩
end

/-- What the reference knows, and where. -/
structure RSt where
  LF : List (Nat × Nat)
  T : Fr.Tks
  W : Nat → Int
  U : Nat → Value
  Q : Pr.Qs
  LD : List (Nat × Nat)
  d : De.Tks
  n : Int
  kc : Nat
  kv : Nat
  ko : Nat
  c : Nat
  C : Int → Int
  A : Int → Int
  f : Int → Bool
  now : Int
  used : Int

/-- The reference in block q; all that it owns is not older than B. -/
structure RefP (B : Nat) (w : World) (q : Nat) (M : RSt) : Prop where
  fair : Fr.RefAt B w q 0 44 M.LF M.T Fr.noG M.W (fun _ => 0)
  prio : Pr.QAt w q 28 44 M.U M.Q
  dead : De.RefAt B w q 36 44 M.LD M.d M.n
  pc : w.cell? ⟨q, 38, none⟩ = some (.map (some M.kc))
  pv : w.cell? ⟨q, 39, none⟩ = some (.map (some M.kv))
  po : w.cell? ⟨q, 40, none⟩ = some (.map (some M.ko))
  now : w.cell? ⟨q, 41, none⟩ = some (.int .i64 M.now)
  used : w.cell? ⟨q, 42, none⟩ = some (.int .i64 M.used)
  mc : NumsAt w M.kc M.c M.C
  mv : NumsAt w M.kv M.c M.A
  mo : OffAt w M.ko M.c M.f
  k1 : M.kc ≠ M.kv
  k2 : M.kc ≠ M.ko
  k3 : M.kv ≠ M.ko
  low : B ≤ M.kc ∧ B ≤ M.kv ∧ B ≤ M.ko ∧ ∀ k, Pr.Foot q M.U k → B ≤ k

/-- The blocks that the reference may change. -/
def RFoot (w : World) (q : Nat) (U : Nat → Value) (k : Nat) : Prop := Pr.Foot q U k ∨ Kind w k 82 ∨ Kind w k 80 ∨ Kind w k 86 ∨ Kind w k 84 ∨ IsMp w k
/-- What a step of the reference leaves. -/
structure RStep (B q : Nat) (U U' : Nat → Value) (w w' : World) : Prop where
  only : Only (RFoot w q U) w w'
  grow : ∀ k, Pr.Foot q U' k → Pr.Foot q U k ∨ w.heap.size ≤ k
  low : ∀ k, k < w.heap.size → k < B → w'.heap[k]? = w.heap[k]?

/-- A row of one's own is not older than its base. -/
theorem own_low {w : World} {base : Nat} {e : TypeId} {size : Nat} {v : Value} {n : Nat} {xs : List Value} (h : w.ownsRow base e size v n xs) {k : Nat} (hk : v.ownBlock = some k) : base ≤ k := by
  rcases h.2 with ⟨rfl, h0⟩ | ⟨g, cap, cur, rfl, hb, -⟩
  · cases hk
  · cases hk; exact hb

theorem nums_map {w : World} {b n : Nat} {f : Int → Int} (h : NumsAt w b n f) : IsMp w b := by obtain ⟨D, ⟨es, clock, h1, -⟩, -⟩ := h; exact ⟨es, clock, h1⟩
theorem off_map {w : World} {b n : Nat} {f : Int → Bool} (h : OffAt w b n f) : IsMp w b := by obtain ⟨D, ⟨es, clock, h1, -⟩, -⟩ := h; exact ⟨es, clock, h1⟩

section
variable {B : Nat} {w w' : World} {q : Nat} {M : RSt} {U : Nat → Value} {R : Nat → Prop}
theorem RStep.refl (q : Nat) (U : Nat → Value) (w : World) : RStep B q U U w w := ⟨Only.refl _ w, fun _ h => Or.inl h, fun _ _ _ => rfl⟩
theorem RStep.of_quiet (h : Only (fun _ => False) w w') : RStep B q U U w w' := ⟨h.mono (fun _ _ e => e.elim), fun _ h => Or.inl h, fun k hk _ => h.block k hk id⟩
theorem RStep.of_only (h : Only R w w') (hR : ∀ k, k < w.heap.size → R k → RFoot w q U k) (hL : ∀ k, R k → B ≤ k) : RStep B q U U w w' := ⟨h.mono hR, fun _ h => Or.inl h, fun k hk hb => h.block k hk (fun e => by have := hL k e; omega)⟩
theorem RStep.trans {U' U'' : Nat → Value} {a b c : World} (h : RStep B q U U' a b) (k : RStep B q U' U'' b c) : RStep B q U U'' a c := by
  refine ⟨h.only.trans k.only (fun x hx e => ?_), fun x hx => ?_, fun x hx hb => (k.low x (Nat.lt_of_lt_of_le hx h.only.size) hb).trans (h.low x hx hb)⟩
  · by_cases hr : RFoot a q U x
    · exact hr
    · have hk := h.only.block x hx hr
      have kind : ∀ t, Kind b x t → Kind a x t := fun t ⟨cs, fr, e⟩ => ⟨cs, fr, hk.symm.trans e⟩
      rcases e with e | e | e | e | e | ⟨es, cl, e⟩
      · rcases h.grow x e with e | e
        · exact Or.inl e
        · omega
      · exact Or.inr (Or.inl (kind _ e))
      · exact Or.inr (Or.inr (Or.inl (kind _ e)))
      · exact Or.inr (Or.inr (Or.inr (Or.inl (kind _ e))))
      · exact Or.inr (Or.inr (Or.inr (Or.inr (Or.inl (kind _ e)))))
      · exact Or.inr (Or.inr (Or.inr (Or.inr (Or.inr ⟨es, cl, hk.symm.trans e⟩))))
  · rcases k.grow x hx with e | e
    · exact h.grow x e
    · exact Or.inr (Nat.le_trans h.only.size e)

theorem RefP.block (h : RefP B w q M) : ∃ cs, w.heap[q]? = some (.cells cs 44 (0, 0)) := by obtain ⟨⟨cs, V, h1, -⟩, -⟩ := h.fair; exact ⟨cs, h1⟩
theorem RefP.kind (h : RefP B w q M) : Kind w q 44 := by obtain ⟨cs, h1⟩ := h.block; exact ⟨cs, _, h1⟩
theorem RefP.lt (h : RefP B w q M) : q < w.heap.size := h.kind.lt
theorem RefP.frozen (h : RefP B w q M) (j : Nat) : w.frozen? ⟨q, j, none⟩ = false := by obtain ⟨cs, h1⟩ := h.block; exact frozen_at h1 j
theorem RefP.row_kind (h : RefP B w q M) {i k : Nat} (hi : i < 8) (e : (M.U i).ownBlock = some k) : Kind w k 3 := by obtain ⟨cur, hc⟩ := owns_type (h.prio.row i hi) e; exact ⟨cur, _, hc⟩
theorem RefP.cells (h : RefP B w q M) (hO : Only R w w') {a n : Nat} (hs : Still q a n w w') (ha : a + n ≤ 38) :
    w'.cell? ⟨q, 38, none⟩ = some (.map (some M.kc)) ∧ w'.cell? ⟨q, 39, none⟩ = some (.map (some M.kv)) ∧ w'.cell? ⟨q, 40, none⟩ = some (.map (some M.ko)) ∧ w'.cell? ⟨q, 41, none⟩ = some (.int .i64 M.now) ∧ w'.cell? ⟨q, 42, none⟩ = some (.int .i64 M.used) := by
  obtain ⟨cs, h1⟩ := h.block
  have e := fun j (hj : 38 ≤ j) => hs.cell ⟨cs, _, h1⟩ (j := j) (by omega)
  exact ⟨(e _ (by omega)).trans h.pc, (e _ (by omega)).trans h.pv, (e _ (by omega)).trans h.po, (e _ (by omega)).trans h.now, (e _ (by omega)).trans h.used⟩

/-- The fair class has changed. -/
theorem RefP.by_fair (h : RefP B w q M) {LF : List (Nat × Nat)} {T : Fr.Tks} {W : Nat → Int} (hF : Fr.RefAt B w' q 0 44 LF T Fr.noG W (fun _ => 0)) (hO : Only R w w') (hs : Still q 0 28 w w')
    (hR : ∀ k, k < w.heap.size → R k → k = q ∨ Kind w k 82 ∨ Kind w k 80) (hL : ∀ k, R k → B ≤ k) : RefP B w' q { M with LF := LF, T := T, W := W } ∧ RStep B q M.U M.U w w' := by
  have hO2 : Only (fun k => k = q ∨ Kind w k 82 ∨ Kind w k 80) w w' := hO.mono hR
  have nk : ∀ k, (k = q ∨ Kind w k 82 ∨ Kind w k 80) → k ≠ q → ∀ t, t ≠ 82 → t ≠ 80 → ¬ Kind w k t := fun k hk hq t t1 t2 ht => by
    rcases hk with e | e | e
    · exact hq e
    · exact t1 (ht.one e)
    · exact t2 (ht.one e)
  have nm : ∀ k, (k = q ∨ Kind w k 82 ∨ Kind w k 80) → ¬ IsMp w k := fun k hk hm => by
    rcases hk with e | e | e
    · exact h.kind.no_map (e ▸ hm)
    · exact e.no_map hm
    · exact e.no_map hm
  obtain ⟨c1, c2, c3, c4, c5⟩ := h.cells hO hs (by omega)
  refine ⟨⟨hF, prio_keep h.prio hO2 hs (by omega) (fun k hk hq i hi e => nk k hk hq 3 (by decide) (by decide) (h.row_kind hi e)), dead_keep h.dead hO2 hs (by omega) (fun k hk hq => ⟨nk k hk hq _ (by decide) (by decide), nk k hk hq _ (by decide) (by decide)⟩), c1, c2, c3, c4, c5,
    h.mc.keep hO2 (fun e => nm _ e (nums_map h.mc)), h.mv.keep hO2 (fun e => nm _ e (nums_map h.mv)), h.mo.keep hO2 (fun e => nm _ e (off_map h.mo)), h.k1, h.k2, h.k3, h.low⟩, RStep.of_only hO (fun k hk hr => ?_) hL⟩
  rcases hR k hk hr with e | e | e
  · exact Or.inl (Or.inl e)
  · exact Or.inr (Or.inl e)
  · exact Or.inr (Or.inr (Or.inl e))
/-- The class of deadlines has changed. -/
theorem RefP.by_dead (h : RefP B w q M) {LD : List (Nat × Nat)} {d : De.Tks} {n : Int} (hF : De.RefAt B w' q 36 44 LD d n) (hO : Only R w w') (hs : Still q 36 2 w w')
    (hR : ∀ k, k < w.heap.size → R k → k = q ∨ Kind w k 86 ∨ Kind w k 84) (hL : ∀ k, R k → B ≤ k) : RefP B w' q { M with LD := LD, d := d, n := n } ∧ RStep B q M.U M.U w w' := by
  have hO2 : Only (fun k => k = q ∨ Kind w k 86 ∨ Kind w k 84) w w' := hO.mono hR
  have nk : ∀ k, (k = q ∨ Kind w k 86 ∨ Kind w k 84) → k ≠ q → ∀ t, t ≠ 86 → t ≠ 84 → ¬ Kind w k t := fun k hk hq t t1 t2 ht => by
    rcases hk with e | e | e
    · exact hq e
    · exact t1 (ht.one e)
    · exact t2 (ht.one e)
  have nm : ∀ k, (k = q ∨ Kind w k 86 ∨ Kind w k 84) → ¬ IsMp w k := fun k hk hm => by
    rcases hk with e | e | e
    · exact h.kind.no_map (e ▸ hm)
    · exact e.no_map hm
    · exact e.no_map hm
  obtain ⟨c1, c2, c3, c4, c5⟩ := h.cells hO hs (by omega)
  refine ⟨⟨fair_keep h.fair hO2 hs (by omega) (fun k hk hq => ⟨nk k hk hq _ (by decide) (by decide), nk k hk hq _ (by decide) (by decide)⟩), prio_keep h.prio hO2 hs (by omega) (fun k hk hq i hi e => nk k hk hq 3 (by decide) (by decide) (h.row_kind hi e)), hF, c1, c2, c3, c4, c5,
    h.mc.keep hO2 (fun e => nm _ e (nums_map h.mc)), h.mv.keep hO2 (fun e => nm _ e (nums_map h.mv)), h.mo.keep hO2 (fun e => nm _ e (off_map h.mo)), h.k1, h.k2, h.k3, h.low⟩, RStep.of_only hO (fun k hk hr => ?_) hL⟩
  rcases hR k hk hr with e | e | e
  · exact Or.inl (Or.inl e)
  · exact Or.inr (Or.inr (Or.inr (Or.inl e)))
  · exact Or.inr (Or.inr (Or.inr (Or.inr (Or.inl e))))
/-- The queues have changed. -/
theorem RefP.by_prio (h : RefP B w q M) (hB : B ≤ w.heap.size) {U' : Nat → Value} {Q' : Pr.Qs} (hF : Pr.QAt w' q 28 44 U' Q') (hW : Pr.Step q 28 M.U U' w w') : RefP B w' q { M with U := U', Q := Q' } ∧ RStep B q M.U U' w w' := by
  have hs : Still q 28 8 w w' := fun cs T hc => by
    obtain ⟨cs', h1, -⟩ := hF.block
    obtain ⟨cs0, h0⟩ := h.block
    rw [h0] at hc
    injection hc with e; injection e with e1 e2
    subst e1 e2
    have ec : ∀ j, j < 28 ∨ 28 + 8 ≤ j → cs'[j]? = cs0[j]? := fun j hj => by
      have := hW.still j hj
      rw [cell_at h1, cell_at h0] at this; exact this
    refine ⟨cs', h1, ?_, ec⟩
    rcases Nat.lt_trichotomy cs'.size cs0.size with hl | hl | hl
    · exfalso
      have h42 := h.used
      rw [cell_at h0] at h42
      have hz := (Array.getElem?_eq_some_iff.1 h42).1
      have e3 := ec (cs0.size - 1) (by omega)
      rw [Array.getElem?_eq_none (by omega), Array.getElem?_eq_getElem (by omega)] at e3
      cases e3
    · exact hl
    · exfalso
      have h42 := h.used
      rw [cell_at h0] at h42
      have hz := (Array.getElem?_eq_some_iff.1 h42).1
      have e3 := ec (cs'.size - 1) (by omega)
      rw [Array.getElem?_eq_getElem (by omega), Array.getElem?_eq_none (by omega)] at e3
      cases e3
  have nk : ∀ k, Pr.Foot q M.U k → k ≠ q → ∀ t, t ≠ 3 → ¬ Kind w k t := fun k hk hq t t1 ht => by
    rcases hk with e | ⟨i, hi, e⟩
    · exact hq e
    · exact t1 (ht.one (h.row_kind hi e))
  have nm : ∀ k, Pr.Foot q M.U k → ¬ IsMp w k := fun k hk hm => by
    rcases hk with e | ⟨i, hi, e⟩
    · exact h.kind.no_map (e ▸ hm)
    · exact (h.row_kind hi e).no_map hm
  obtain ⟨c1, c2, c3, c4, c5⟩ := h.cells hW.only hs (by omega)
  exact ⟨⟨fair_keep h.fair hW.only hs (by omega) (fun k hk hq => ⟨nk k hk hq _ (by decide), nk k hk hq _ (by decide)⟩), hF, dead_keep h.dead hW.only hs (by omega) (fun k hk hq => ⟨nk k hk hq _ (by decide), nk k hk hq _ (by decide)⟩), c1, c2, c3, c4, c5,
    h.mc.keep hW.only (fun e => nm _ e (nums_map h.mc)), h.mv.keep hW.only (fun e => nm _ e (nums_map h.mv)), h.mo.keep hW.only (fun e => nm _ e (off_map h.mo)), h.k1, h.k2, h.k3, h.low.1, h.low.2.1, h.low.2.2.1, fun k hk => (hW.grow k hk).elim (h.low.2.2.2 k) (fun e => Nat.le_trans hB e)⟩, ⟨hW.only.mono (fun k _ e => Or.inl e), hW.grow, fun k hk hkB => hW.only.block k hk (fun e => by have := h.low.2.2.2 k e; omega)⟩⟩

/-- A map's block has changed. -/
theorem RefP.map_set (h : RefP B w q M) {k : Nat} (hB : B ≤ k) (hm : IsMp w k) (hO : Only (· = k) w w') :
    Fr.RefAt B w' q 0 44 M.LF M.T Fr.noG M.W (fun _ => 0) ∧ Pr.QAt w' q 28 44 M.U M.Q ∧ De.RefAt B w' q 36 44 M.LD M.d M.n ∧ (w'.cell? ⟨q, 38, none⟩ = some (.map (some M.kc)) ∧ w'.cell? ⟨q, 39, none⟩ = some (.map (some M.kv)) ∧ w'.cell? ⟨q, 40, none⟩ = some (.map (some M.ko)) ∧ w'.cell? ⟨q, 41, none⟩ = some (.int .i64 M.now) ∧ w'.cell? ⟨q, 42, none⟩ = some (.int .i64 M.used)) ∧ RStep B q M.U M.U w w' := by
  have hq : q ≠ k := fun e => h.kind.no_map (e ▸ hm)
  have hs : Still q 0 0 w w' := Still.of hO h.lt hq
  exact ⟨fair_keep h.fair hO hs (by omega) (fun x hx _ => by subst hx; exact ⟨fun t => t.no_map hm, fun t => t.no_map hm⟩), prio_keep h.prio hO hs (by omega) (fun x hx _ i hi e => by subst hx; exact (h.row_kind hi e).no_map hm), dead_keep h.dead hO hs (by omega) (fun x hx _ => by subst hx; exact ⟨fun t => t.no_map hm, fun t => t.no_map hm⟩), h.cells hO hs (by omega),
    RStep.of_only hO (fun x _ hx => Or.inr (Or.inr (Or.inr (Or.inr (Or.inr (by subst hx; exact hm)))))) (fun x hx => by subst hx; exact hB)⟩
/-- All three maps have changed, or may have: the counts and what they tell. -/
theorem RefP.maps (h : RefP B w q M) {c : Nat} {C A : Int → Int} {f : Int → Bool} (hO : Only (fun k => k = M.kc ∨ k = M.kv ∨ k = M.ko) w w') (hc : NumsAt w' M.kc c C) (hv : NumsAt w' M.kv c A) (ho : OffAt w' M.ko c f) : RefP B w' q { M with c := c, C := C, A := A, f := f } ∧ RStep B q M.U M.U w w' := by
  have nm : ∀ k, (k = M.kc ∨ k = M.kv ∨ k = M.ko) → IsMp w k := fun k hk => by
    rcases hk with rfl | rfl | rfl
    · exact nums_map h.mc
    · exact nums_map h.mv
    · exact off_map h.mo
  have hq : ¬ (q = M.kc ∨ q = M.kv ∨ q = M.ko) := fun e => h.kind.no_map (nm q e)
  have hs : Still q 0 0 w w' := Still.of hO h.lt hq
  obtain ⟨c1, c2, c3, c4, c5⟩ := h.cells hO hs (by omega)
  exact ⟨⟨fair_keep h.fair hO hs (by omega) (fun x hx _ => ⟨fun t => t.no_map (nm x hx), fun t => t.no_map (nm x hx)⟩), prio_keep h.prio hO hs (by omega) (fun x hx _ i hi e => (h.row_kind hi e).no_map (nm x hx)), dead_keep h.dead hO hs (by omega) (fun x hx _ => ⟨fun t => t.no_map (nm x hx), fun t => t.no_map (nm x hx)⟩), c1, c2, c3, c4, c5, hc, hv, ho, h.k1, h.k2, h.k3, h.low⟩,
    RStep.of_only hO (fun x _ hx => Or.inr (Or.inr (Or.inr (Or.inr (Or.inr (nm x hx)))))) (fun x hx => by rcases hx with e | e | e <;> subst e <;> first | exact h.low.1 | exact h.low.2.1 | exact h.low.2.2.1)⟩

/-- One of the last two numbers has been stored. -/
theorem RefP.set_last (h : RefP B w q M) (i : Nat) (hi : i = 41 ∨ i = 42) (x : Int) : RefP B (w.setCell ⟨q, i, none⟩ (.int .i64 x)) q { M with now := if i = 41 then x else M.now, used := if i = 42 then x else M.used } ∧ RStep B q M.U M.U w (w.setCell ⟨q, i, none⟩ (.int .i64 x)) := by
  have hO : Only (fun k => k = q) w (w.setCell ⟨q, i, none⟩ (.int .i64 x)) := (Only.refl (fun k => k = q) w).setCell (p := ⟨q, i, none⟩) rfl _
  have hs : Still q i 1 w (w.setCell ⟨q, i, none⟩ (.int .i64 x)) := Still.set (fun cs T hc => ⟨cs, hc, rfl, fun _ _ => rfl⟩) (by omega) _
  obtain ⟨cs, hb⟩ := h.block
  have hz : 43 ≤ cs.size := by
    have := h.used
    rw [cell_at hb] at this
    have := (Array.getElem?_eq_some_iff.1 this).1
    omega
  have e := fun j (hj : j ≠ i) => hs.cell ⟨cs, _, hb⟩ (j := j) (by omega)
  have e0 : (w.setCell ⟨q, i, none⟩ (.int .i64 x)).cell? ⟨q, i, none⟩ = some (.int .i64 x) := by
    rw [cell_at (heap_setCell_same w q i cs _ _ hb), Array.getElem?_setIfInBounds, if_pos rfl, if_pos (by omega)]
  have nq : ∀ k, k = q → k ≠ q → False := fun _ a b => b a
  refine ⟨⟨fair_keep h.fair hO hs (by omega) (fun k a b => (b a).elim), prio_keep h.prio hO hs (by omega) (fun k a b => (b a).elim), dead_keep h.dead hO hs (by omega) (fun k a b => (b a).elim), (e _ (by omega)).trans h.pc, (e _ (by omega)).trans h.pv, (e _ (by omega)).trans h.po, ?_, ?_,
    h.mc.keep hO (fun a => h.kind.no_map (a ▸ nums_map h.mc)), h.mv.keep hO (fun a => h.kind.no_map (a ▸ nums_map h.mv)), h.mo.keep hO (fun a => h.kind.no_map (a ▸ off_map h.mo)), h.k1, h.k2, h.k3, h.low⟩, RStep.of_only hO (fun k _ hk => Or.inl (Or.inl hk)) (fun k hk => by subst hk; exact h.fair.from'.1)⟩
  · rcases hi with rfl | rfl
    · exact e0
    · exact (e 41 (by omega)).trans h.now
  · rcases hi with rfl | rfl
    · exact (e 42 (by omega)).trans h.used
    · exact e0
theorem RefP.later (h : RefP B w q M) (hO : Only (fun _ => False) w w') : RefP B w' q M := by
  have hs : Still q 0 0 w w' := Still.of hO h.lt id
  obtain ⟨c1, c2, c3, c4, c5⟩ := h.cells hO hs (by omega)
  exact ⟨h.fair.later hO, h.prio.later hO, h.dead.later hO, c1, c2, c3, c4, c5, h.mc.later hO, h.mv.later hO, h.mo.later hO, h.k1, h.k2, h.k3, h.low⟩

/-- Something else has changed: blocks of the program's types that are not the reference's. -/
theorem RefP.beside (h : RefP B w q M) (hO : Only R w w') (hR : ∀ k, R k → (Kind w k 72 ∨ Kind w k 3) ∧ ¬ Pr.Foot q M.U k) : RefP B w' q M := by
  have hq : ¬ R q := fun e => (hR q e).2 (Or.inl rfl)
  have hs : Still q 0 0 w w' := Still.of hO h.lt hq
  obtain ⟨c1, c2, c3, c4, c5⟩ := h.cells hO hs (by omega)
  have nk : ∀ k, R k → ∀ t, t ≠ 72 → t ≠ 3 → ¬ Kind w k t := fun k hk t t1 t2 ht => by
    rcases (hR k hk).1 with e | e
    · exact t1 (ht.one e)
    · exact t2 (ht.one e)
  have nm : ∀ k, R k → ¬ IsMp w k := fun k hk hm => by
    rcases (hR k hk).1 with e | e
    · exact e.no_map hm
    · exact e.no_map hm
  exact ⟨fair_keep h.fair hO hs (by omega) (fun k hk _ => ⟨nk k hk _ (by decide) (by decide), nk k hk _ (by decide) (by decide)⟩), prio_keep h.prio hO hs (by omega) (fun k hk _ i hi e => (hR k hk).2 (Or.inr ⟨i, hi, e⟩)), dead_keep h.dead hO hs (by omega) (fun k hk _ => ⟨nk k hk _ (by decide) (by decide), nk k hk _ (by decide) (by decide)⟩), c1, c2, c3, c4, c5,
    h.mc.keep hO (fun e => nm _ e (nums_map h.mc)), h.mv.keep hO (fun e => nm _ e (nums_map h.mv)), h.mo.keep hO (fun e => nm _ e (off_map h.mo)), h.k1, h.k2, h.k3, h.low⟩

/-- What is known behind a call of the reference's. -/
def RDid (B q : Nat) (U : Nat → Value) (M : RSt) (x : Value) (w : World) (e : Ending) (w' : World) : Prop := e = .returned x ∧ RefP B w' q M ∧ RStep B q U M.U w w'
end
end Go.Proofs.YtckaebpcghaobaaGreat.Rk
/- The reference's Next. -/
namespace Go.Proofs.YtckaebpcghaobaaGreat.Fr
open Go.ChangeShapes Go.WideShapes Go.ChangeAt Go.RowKit Go.Maps
open Go.Proofs.YtckaebpcghaobaaGreat.Vt Go.Proofs.YtckaebpcghaobaaGreat.Pt
set_option linter.unusedVariables false

theorem pick_group {T : Tks} {G : Grs} {k : Nat} (h0 : (T 0).r = false) (hz : (next T G).1 ≠ 0) (hk : k < 8) (hf : first T ((k : Int) + 1) ≠ 0) (hv : (G (k + 1)).v = (next T G).2) (hno : ∀ g : Nat, 1 ≤ g → g ≤ k → first T g ≠ 0 → (G g).v ≠ (next T G).2) : (next T G).1 = first T ((k : Int) + 1) := by
  have ek : ((k : Int) + 1) = ((k + 1 : Nat) : Int) := by omega
  rw [ek] at hf ⊢
  rcases ((next_spec (G := G) h0).2 hz).2.2 with ⟨g, h1, h2, h3, h4⟩ | ⟨h1, h2, h3⟩
  · rw [h3] at hv hno ⊢
    simp only at hv hno ⊢
    by_cases e : g = k + 1
    · subst e; rfl
    · by_cases l : g ≤ k
      · exact absurd rfl (hno g h1.1 l h2)
      · exact absurd hv (h4 (k + 1) (by omega) (by omega) hf)
  · rw [h2] at hv
    exact absurd hv (h3 (k + 1) (by omega) (by omega) hf)
theorem pick_solo {T : Tks} {G : Grs} (h0 : (T 0).r = false) (hz : (next T G).1 ≠ 0) (hno : ∀ g : Nat, 1 ≤ g → g ≤ 8 → first T g ≠ 0 → (G g).v ≠ (next T G).2) : first T 0 ≠ 0 ∧ (next T G).1 = first T 0 := by
  rcases ((next_spec (G := G) h0).2 hz).2.2 with ⟨g, h1, h2, h3, h4⟩ | ⟨h1, h2, h3⟩
  · rw [h3] at hno
    exact absurd rfl (hno g h1.1 h1.2 h2)
  · rw [h2]; exact ⟨h1, rfl⟩

/-- What the reference's Next answers. -/
def NextAns (w : World) (L : List (Nat × Nat)) (n : Nat) (e : Ending) (w' : World) : Prop :=
  ((n = 0 ∧ e = .returned (.pointer none)) ∨ (n ≠ 0 ∧ ∃ b, (b, n) ∈ L ∧ e = .returned (pt b))) ∧ Only (fun _ => False) w w'

set_option maxRecDepth 100000 in
set_option maxHeartbeats 1000000 in
theorem nextr_any {B : Nat} {w : World} {q o D : Nat} {L : List (Nat × Nat)} {T : Tks} {G : Grs} {W GW : Nat → Int} (h : RefAt B w q o D L T G W GW) (hs : Same L T G W GW) (h0 : (T 0).r = false) (hrc : ∀ t, t < 17 → (T t).r = true → (T t).c ≠ 0) :
    Calls Tryz.prog 49 #[.pointer (some ⟨q, o, none⟩)] w (NextAns w L (next T G).1) := by
  have H := Lib.hid h
  have HS := Lib.hid (⟨hs, h0, hrc⟩ : Same L T G W GW ∧ (T 0).r = false ∧ ∀ t, t < 17 → (T t).r = true → (T t).c ≠ 0)
  have ct := Lib.hid (topsr_any h hs h0 hrc)
  clear h hs h0 hrc
  by_cases hz : (next T G).1 = 0
  · have HZ := Lib.hid hz
    clear hz
    go_enter Tryz.func49, Tryz.ntmps49
    go_wp2_with (go_at_call 61; (with_reducible refine ct.out.mono ?_); rintro e w1 ⟨a, n, c, U, rfl, hU, hn, hN, hT, hO⟩; have hn0 : ((n : Int) == 0) = true := (by have := (tops_empty HS.out.2.1 hT).2 HZ.out; rw [this] at hU; simp at hU; simp; omega); have HO := Lib.hid hO; clear hU hN hT hO)
    go_ret
    exact ⟨Or.inl ⟨HZ.out, rfl⟩, HO.out⟩
  · have HZ := Lib.hid hz
    obtain ⟨m, hm⟩ : ∃ m, (next T G).2 = m := ⟨_, rfl⟩
    have HM := Lib.hid hm
    clear hz hm
    go_enter Tryz.func49, Tryz.ntmps49
    go_wp2_with (first
      | (go_at_call 61; (with_reducible refine ct.out.mono ?_); rintro e w1 ⟨a, n, c, U, rfl, hU, hn, hN, hT, hO⟩; have hn1 : 1 ≤ n := (by have h1 : U ≠ [] := fun e => HZ.out ((tops_empty HS.out.2.1 hT).1 e); have := List.length_pos_iff.2 h1; omega); have hn0 : ((n : Int) == 0) = false := (by simp; omega); have HO := Lib.hid hO; have cm := min_any a n c U w1 hN hU hn1 (by omega); rw [show leastTo U (n - 1) = m from (by have hls := leastTo_spec U (n - 1) (by omega); rw [tops_least HS.out.2.1 hT hls.1 (fun x hx => by obtain ⟨i, hi, e⟩ := List.getElem_of_mem hx; have := hls.2 i (by omega); rw [← e]; simpa [List.getD, hi] using this)]; exact HM.out)] at cm; have CM := Lib.hid cm; clear hU hN hT hO cm)
      | (go_at_call 63; (with_reducible refine CM.out.mono ?_); rintro e w' ⟨rfl, rfl⟩))
    clear ct CM
    go_loopw [5] (fun i wr => ∃ k : Nat, k ≤ 8 ∧ i = .int .i64 ((k : Int) + 1) ∧ (∀ g : Nat, 1 ≤ g → g ≤ k → first T g ≠ 0 → (G g).v ≠ m) ∧ Only (fun _ => False) w wr) (fun i _ => 9 - (intOf i).toNat)
    case atStart => exact ⟨0, by omega, rfl, fun g h1 h2 => by omega, HO.out⟩
    case round =>
      obtain ⟨k, hk, rfl, hno, hO⟩ := hrel
      have HNO := Lib.hid hno
      have HO2 := Lib.hid hO
      clear hno hO
      by_cases hlt : k < 8
      · have co := Lib.hid (ofh_any (H.out.later HO2.out) HS.out.1 HS.out.2.1 HS.out.2.2 ((k : Int) + 1))
        have g1 : (k : Int) + 1 < 9 := by omega
        by_cases hf : first T ((k : Int) + 1) = 0
        · have HF := Lib.hid hf
          clear hf
          go_wp2_with (go_at_call 62; (with_reducible refine co.out.mono ?_); rintro e w2 ⟨a2, n2, c2, K, rfl, hK, hc1, hc2, hn16, hrow, hmem, hz, hnz, hO1⟩; have HO1 := Lib.hid (HO2.out.trans hO1 (fun _ _ h => h)); have hn0 : ¬ (0 : Int) < n2 := (by intro h; exact (hnz (by omega)).1 HF.out); clear hK hrow hmem hz hnz hO1)
          go_roundw
          case rel =>
            refine ⟨k + 1, by omega, by go_num, fun g h1 h2 h3 => ?_, HO1.out⟩
            by_cases e : g = k + 1
            · subst e; exact absurd HF.out h3
            · exact HNO.out g h1 (by omega) h3
          case measure => simp [intOf]; omega
        · have HF := Lib.hid hf
          by_cases hv : (G (k + 1)).v = m
          · have HP := Lib.hid (pick_group HS.out.2.1 HZ.out hlt hf (by rw [hv, HM.out]) (fun g h1 h2 h3 => by rw [HM.out]; exact HNO.out g h1 h2 h3))
            have hv2 : ((G (k + 1)).v == m) = true := by simp [hv]
            clear hf hv
            go_wp2_with (go_at_call 62; (with_reducible refine co.out.mono ?_); rintro e w2 ⟨a2, n2, c2, K, rfl, hK, hc1, hc2, hn16, hrow, hmem, hz, hnz, hO1⟩; have HO1 := Lib.hid (HO2.out.trans hO1 (fun _ _ h => h)); have hn0 : (0 : Int) < n2 := (by have : n2 ≠ 0 := fun h => HF.out (hz h); omega); have dv := (H.out.later HO1.out).gv (k + 1) (by omega); have hkn := (hnz (by omega)).2; obtain ⟨gk, rfl, -, -, d0⟩ := row_at hrow (j := 0) (by omega); have HKN := Lib.hid hkn; generalize K.getD 0 0 = b0 at *; unfold pt at d0; clear hkn hK hrow hmem hz hnz hO1)
            go_ret
            exact ⟨Or.inr ⟨HZ.out, _, by rw [HP.out]; exact HKN.out, rfl⟩, HO1.out⟩
          · have hv2 : ((G (k + 1)).v == m) = false := by simp [hv]
            have HV := Lib.hid hv
            clear hf hv
            go_wp2_with (go_at_call 62; (with_reducible refine co.out.mono ?_); rintro e w2 ⟨a2, n2, c2, K, rfl, hK, hc1, hc2, hn16, hrow, hmem, hz, hnz, hO1⟩; have HO1 := Lib.hid (HO2.out.trans hO1 (fun _ _ h => h)); have hn0 : (0 : Int) < n2 := (by have : n2 ≠ 0 := fun h => HF.out (hz h); omega); have dv := (H.out.later HO1.out).gv (k + 1) (by omega); clear hK hrow hmem hz hnz hO1)
            go_roundw
            case rel =>
              refine ⟨k + 1, by omega, by go_num, fun g h1 h2 h3 => ?_, HO1.out⟩
              by_cases e : g = k + 1
              · subst e; exact HV.out
              · exact HNO.out g h1 (by omega) h3
            case measure => simp [intOf]; omega
      · obtain rfl : k = 8 := by omega
        have co := Lib.hid (ofh_any (H.out.later HO2.out) HS.out.1 HS.out.2.1 HS.out.2.2 0)
        have HP := Lib.hid (pick_solo HS.out.2.1 HZ.out (fun g h1 h2 h3 => by rw [HM.out]; exact HNO.out g h1 h2 h3))
        go_wp2_with (go_at_call 62; (with_reducible refine co.out.mono ?_); rintro e w2 ⟨a2, n2, c2, K, rfl, hK, hc1, hc2, hn16, hrow, hmem, hz, hnz, hO1⟩; have HO1 := Lib.hid (HO2.out.trans hO1 (fun _ _ h => h)); have hn0 : (0 : Int) < n2 := (by have : n2 ≠ 0 := fun h => HP.out.1 (hz h); omega); have hkn := (hnz (by omega)).2; obtain ⟨gk, rfl, -, -, d0⟩ := row_at hrow (j := 0) (by omega); have HKN := Lib.hid hkn; generalize K.getD 0 0 = b0 at *; unfold pt at d0; clear hkn hK hrow hmem hz hnz hO1)
        go_ret
        exact ⟨Or.inr ⟨HZ.out, _, by rw [HP.out.2]; exact HKN.out, rfl⟩, HO1.out⟩
end Go.Proofs.YtckaebpcghaobaaGreat.Fr
/- The reference of one processor's scheduler: what ties it to the program's, and who is the best. -/
namespace Go.Proofs.YtckaebpcghaobaaGreat.Rk
open Go.ChangeShapes Go.WideShapes Go.ChangeAt Go.RowKit Go.Maps
open Go.Proofs.YtckaebpcghaobaaGreat.Of Go.Proofs.YtckaebpcghaobaaGreat.Pk
set_option linter.unusedVariables false
set_option maxRecDepth 100000

/-- The reference tells what the program's scheduler tells. -/
structure Link (S : St) (M : RSt) : Prop where
  T : M.T = S.T
  Q : M.Q = S.Q
  d : M.d = S.d
  n : M.n = S.n
  fs : Fr.Same M.LF S.T Fr.noG M.W (fun _ => 0)
  ds : De.Same M.LD S.d
  C : ∀ t : Int, M.C t = if 1 ≤ t ∧ t ≤ 16 then S.C t.toNat else 0
  off : ∀ k : Nat, 1 ≤ k → k ≤ 16 → S.C k ≠ 0 → M.f k = !ready S k
  inq : ∀ k v : Nat, v < 8 → (k : Int) ∈ S.Q v → M.A k = v
  outq : ∀ k : Nat, 1 ≤ k → k ≤ 16 → S.C k = 2 → (∀ v, v < 8 → (k : Int) ∉ S.Q v) → M.A k = S.A k
  now : M.now = S.now
  used : S.now ≠ 0 → M.used = S.row

section
variable {B : Nat} {w w' : World} {q : Nat} {M : RSt} {S : St} {b : Int}

theorem Link.gno (hI : Inv S b) : S.G = Fr.noG := hI.gno
theorem fair_ref (h : RefP B w q M) (hL : Link S M) : Fr.RefAt B w q 0 44 M.LF S.T Fr.noG M.W (fun _ => 0) := hL.T ▸ h.fair
theorem dead_ref (h : RefP B w q M) (hL : Link S M) : De.RefAt B w q 36 44 M.LD S.d S.n := hL.d ▸ hL.n ▸ h.dead
theorem prio_ref (h : RefP B w q M) (hL : Link S M) : Pr.QAt w q 28 44 M.U S.Q := hL.Q ▸ h.prio

theorem nextd_no (h : RefP B w q M) (hL : Link S M) (hI : Inv S b) (hp : De.pick S.d = 0) :
    Calls Tryz.prog 47 #[.pointer (some ⟨q, 36, none⟩)] w (fun e w' => e = .returned (.pointer none) ∧ Only (fun _ => False) w w') :=
  (De.nextr_any (dead_ref h hL) ((dead_ref h hL).len16 hL.ds) hL.ds hI.dfit).mono fun e w' ⟨h1, h2⟩ => by
    rcases h1 with ⟨h1, -⟩ | ⟨x, ⟨-, h3⟩, -⟩
    · exact ⟨h1, h2⟩
    · exact absurd hp h3
theorem nextd_yes (h : RefP B w q M) (hL : Link S M) (hI : Inv S b) (hp : De.pick S.d ≠ 0) :
    Calls Tryz.prog 47 #[.pointer (some ⟨q, 36, none⟩)] w (fun e w' => (∃ x, e = .returned (.pointer (some ⟨x, 0, none⟩)) ∧ w'.cell? ⟨x, 0, none⟩ = some (.int .i64 (De.pick S.d : Nat))) ∧ Only (fun _ => False) w w') :=
  (De.nextr_any (dead_ref h hL) ((dead_ref h hL).len16 hL.ds) hL.ds hI.dfit).mono fun e w' ⟨h1, h2⟩ => by
    rcases h1 with ⟨-, h1⟩ | ⟨x, ⟨h3, -⟩, h4⟩
    · exact absurd h1 hp
    · exact ⟨⟨x, h4, ((dead_ref h hL).later h2).tn h3⟩, h2⟩
theorem nextf_no (h : RefP B w q M) (hL : Link S M) (hI : Inv S b) (hp : (Fr.next S.T S.G).1 = 0) :
    Calls Tryz.prog 49 #[.pointer (some ⟨q, 0, none⟩)] w (fun e w' => e = .returned (.pointer none) ∧ Only (fun _ => False) w w') :=
  (Fr.nextr_any (fair_ref h hL) hL.fs hI.tr0 hI.fit.rc).mono fun e w' ⟨h1, h2⟩ => by
    rw [hI.gno] at hp
    rcases h1 with ⟨-, h1⟩ | ⟨h3, x, -, -⟩
    · exact ⟨h1, h2⟩
    · exact absurd hp h3
theorem nextf_yes (h : RefP B w q M) (hL : Link S M) (hI : Inv S b) (hp : (Fr.next S.T S.G).1 ≠ 0) :
    Calls Tryz.prog 49 #[.pointer (some ⟨q, 0, none⟩)] w (fun e w' => (∃ x, e = .returned (.pointer (some ⟨x, 0, none⟩)) ∧ w'.cell? ⟨x, 0, none⟩ = some (.int .i64 ((Fr.next S.T S.G).1 : Nat))) ∧ Only (fun _ => False) w w') :=
  (Fr.nextr_any (fair_ref h hL) hL.fs hI.tr0 hI.fit.rc).mono fun e w' ⟨h1, h2⟩ => by
    rw [hI.gno] at hp ⊢
    rcases h1 with ⟨h1, -⟩ | ⟨-, x, h3, h4⟩
    · exact absurd h1 hp
    · exact ⟨⟨x, h4, ((fair_ref h hL).later h2).tn h3⟩, h2⟩

theorem rbest_any (h : RefP B w q M) (hL : Link S M) (hI : Inv S b) :
    Calls Tryz.prog 18 #[.pointer (some ⟨q, 0, none⟩)] w (fun e w' => e = .returned (.int .i64 (best S)) ∧ Only (fun _ => False) w w') := by
  obtain ⟨m, hm, hm16, hg⟩ := hI.goes
  rw [hm]
  cases hg with
  | dead h1 hr hc =>
    have k1 := Lib.hid (nextd_yes h hL hI h1)
    clear h hL hI h1 hr hc hm
    generalize De.pick S.d = m at *
    go_enter Tryz.func18, Tryz.ntmps18
    go_wp2_with (go_at_call 47; (with_reducible refine k1.out.mono ?_); rintro e w1 ⟨⟨x, rfl, cx⟩, hO⟩; have HO := Lib.hid hO; clear hO)
    go_ret
    exact ⟨rfl, HO.out⟩
  | prio h1 v m xs ht hv hq m1 m2 hc =>
    have k1 := Lib.hid (nextd_no h hL hI h1)
    have k2 := Lib.hid (fun W (hW : Only (fun _ => False) w W) => Pr.firstref_is (Pr.ref_first ((prio_ref h hL).later hW) (fun j hj => by have := hI.uniq.len hj; omega)) ht)
    rw [hq] at k2
    have g1 : (0 : Int) < m := by omega
    have g2 : 0 < m := by omega
    clear h hL hI h1 hc hm ht hq
    simp only [List.getD_cons_zero] at k2
    go_enter Tryz.func18, Tryz.ntmps18
    go_wp2_with (first
      | (go_at_call 47; (with_reducible refine k1.out.mono ?_); rintro e w1 ⟨rfl, hO⟩; have HO := Lib.hid hO; clear hO)
      | (go_at_call 48; (with_reducible refine (k2.out _ HO.out).mono ?_); rintro e w2 ⟨rfl, hO⟩; have HO2 := Lib.hid (HO.out.trans hO (fun _ _ h => h)); clear hO))
    go_ret
    exact ⟨rfl, HO2.out⟩
  | fair h1 ht hn hr hc =>
    have k1 := Lib.hid (nextd_no h hL hI h1)
    have k2 := Lib.hid (fun W (hW : Only (fun _ => False) w W) => Pr.firstref_not (Pr.ref_first ((prio_ref h hL).later hW) (fun j hj => by have := hI.uniq.len hj; omega)) ht)
    have k3 := Lib.hid (fun W (hW : Only (fun _ => False) w W) => nextf_yes (h.later hW) hL hI hn)
    clear h hL hI h1 hc hm ht hn hr
    generalize (Fr.next S.T S.G).1 = m at *
    go_enter Tryz.func18, Tryz.ntmps18
    go_wp2_with (first
      | (go_at_call 47; (with_reducible refine k1.out.mono ?_); rintro e w1 ⟨rfl, hO⟩; have HO := Lib.hid hO; clear hO)
      | (go_at_call 48; (with_reducible refine (k2.out _ HO.out).mono ?_); rintro e w2 ⟨rfl, hO⟩; have HO2 := Lib.hid (HO.out.trans hO (fun _ _ h => h)); clear hO)
      | (go_at_call 49; (with_reducible refine (k3.out _ HO2.out).mono ?_); rintro e w3 ⟨⟨x, rfl, cx⟩, hO⟩; have HO3 := Lib.hid (HO2.out.trans hO (fun _ _ h => h)); clear hO))
    go_ret
    exact ⟨rfl, HO3.out⟩
  | none h1 ht hn =>
    have k1 := Lib.hid (nextd_no h hL hI h1)
    have k2 := Lib.hid (fun W (hW : Only (fun _ => False) w W) => Pr.firstref_not (Pr.ref_first ((prio_ref h hL).later hW) (fun j hj => by have := hI.uniq.len hj; omega)) ht)
    have k3 := Lib.hid (fun W (hW : Only (fun _ => False) w W) => nextf_no (h.later hW) hL hI hn)
    clear h hL hI h1 hm ht hn
    go_enter Tryz.func18, Tryz.ntmps18
    go_wp2_with (first
      | (go_at_call 47; (with_reducible refine k1.out.mono ?_); rintro e w1 ⟨rfl, hO⟩; have HO := Lib.hid hO; clear hO)
      | (go_at_call 48; (with_reducible refine (k2.out _ HO.out).mono ?_); rintro e w2 ⟨rfl, hO⟩; have HO2 := Lib.hid (HO.out.trans hO (fun _ _ h => h)); clear hO)
      | (go_at_call 49; (with_reducible refine (k3.out _ HO2.out).mono ?_); rintro e w3 ⟨rfl, hO⟩; have HO3 := Lib.hid (HO2.out.trans hO (fun _ _ h => h)); clear hO))
    go_ret
    exact ⟨rfl, HO3.out⟩
end
end Go.Proofs.YtckaebpcghaobaaGreat.Rk
/- The reference's within, Weight, Task, Cost. -/
namespace Go.Proofs.YtckaebpcghaobaaGreat.Vt
open Go.ChangeShapes Go.WideShapes Go.ChangeAt Go.RowKit
set_option linter.unusedVariables false

theorem within_any (x a b : Int) (w : World) :
    Calls Tryz.prog 60 #[.int .i64 x, .int .i64 a, .int .i64 b] w fun e w' => e = .returned (.bool (decide (a ≤ x ∧ x ≤ b))) ∧ w = w' := by
  by_cases h1 : a ≤ x
  · by_cases h2 : x ≤ b
    · rw [decide_eq_true (p := a ≤ x ∧ x ≤ b) ⟨h1, h2⟩]
      go_enter Tryz.func60, Tryz.ntmps60
      go_wp2
      go_ret
      exact ⟨rfl, rfl⟩
    · rw [decide_eq_false (p := a ≤ x ∧ x ≤ b) (by omega)]
      go_enter Tryz.func60, Tryz.ntmps60
      go_wp2
      go_ret
      exact ⟨rfl, rfl⟩
  · rw [decide_eq_false (p := a ≤ x ∧ x ≤ b) (by omega)]
    go_enter Tryz.func60, Tryz.ntmps60
    go_wp2
    go_ret
    exact ⟨rfl, rfl⟩

theorem ref_weight (x : Int) (w : World) : Calls Tryz.prog 31 #[.int .i64 x] w fun e w' => e = .returned (.bool (isW x)) ∧ w = w' := by
  have c := Lib.hid (within_any x 1 100 w)
  unfold isW
  generalize decide (1 ≤ x ∧ x ≤ 100) = b at *
  go_enter Tryz.func31, Tryz.ntmps31
  go_wp2_with (go_at_call 60; (with_reducible refine c.out.mono ?_); rintro e w' ⟨rfl, rfl⟩)
  go_ret
  exact ⟨rfl, rfl⟩

theorem ref_cost (x : Int) (w : World) (h : isW x = true) : Calls Tryz.prog 41 #[.int .i64 x] w fun e w' => e = .returned (.int .i64 (costOf x)) ∧ w = w' := by
  obtain ⟨h1, h2⟩ := isW_yes h
  obtain ⟨c0, c1⟩ := costOf_bd h
  unfold costOf at *
  clear h
  go_enter Tryz.func41, Tryz.ntmps41
  go_wp2
  go_ret
  exact ⟨rfl, rfl⟩

/-- May this be the number of a task? -/
def isN (x : Int) : Bool := decide (1 ≤ x ∧ x ≤ 16)
theorem ref_task (x : Int) (w : World) : Calls Tryz.prog 30 #[.int .i64 x] w fun e w' => e = .returned (.bool (isN x)) ∧ w = w' := by
  have c := Lib.hid (within_any x 1 16 w)
  unfold isN
  generalize decide (1 ≤ x ∧ x ≤ 16) = b at *
  go_enter Tryz.func30, Tryz.ntmps30
  go_wp2_with (go_at_call 60; (with_reducible refine c.out.mono ?_); rintro e w' ⟨rfl, rfl⟩)
  go_ret
  exact ⟨rfl, rfl⟩
end Go.Proofs.YtckaebpcghaobaaGreat.Vt
/- The reference of one processor's scheduler: a tick. -/
namespace Go.Proofs.YtckaebpcghaobaaGreat.Rk
open Go.ChangeShapes Go.WideShapes Go.ChangeAt Go.RowKit Go.Maps
open Go.Proofs.YtckaebpcghaobaaGreat.Of Go.Proofs.YtckaebpcghaobaaGreat.Pk Go.Proofs.YtckaebpcghaobaaGreat.Vt
set_option linter.unusedVariables false
set_option maxRecDepth 100000

theorem ffind_yes {B : Nat} {w : World} {q o D : Nat} {L : List (Nat × Nat)} {T : Fr.Tks} {G : Fr.Grs} {W GW : Nat → Int} (h : Fr.RefAt B w q o D L T G W GW) (hs : Fr.Same L T G W GW) {b t : Nat} (hx : (b, t) ∈ L) :
    Calls Tryz.prog 38 #[.pointer (some ⟨q, o, none⟩), .int .i64 t] w fun e w' => e = .returned (.pointer (some ⟨b, 0, none⟩)) ∧ w = w' := by
  refine (Fr.findr_any h (h.len16 hs) t).mono ?_
  rintro e w' ⟨⟨b', n, rfl, hm, hn⟩ | ⟨rfl, hno⟩, rfl⟩
  · have : n = t := by omega
    subst this
    rw [h.same_num hm hx]
    exact ⟨rfl, rfl⟩
  · exact absurd rfl (hno _ hx)
theorem dfind_yes {B : Nat} {w : World} {q o D : Nat} {L : List (Nat × Nat)} {T : De.Tks} {n : Int} (h : De.RefAt B w q o D L T n) (hs : De.Same L T) {b t : Nat} (hx : (b, t) ∈ L) :
    Calls Tryz.prog 39 #[.pointer (some ⟨q, o, none⟩), .int .i64 t] w fun e w' => e = .returned (.pointer (some ⟨b, 0, none⟩)) ∧ w = w' := by
  refine (De.findr_any h (h.len16 hs) t).mono ?_
  rintro e w' ⟨⟨b', n, rfl, hm, hn⟩ | ⟨rfl, hno⟩, rfl⟩
  · have : n = t := by omega
    subst this
    rw [h.same_num hm hx]
    exact ⟨rfl, rfl⟩
  · exact absurd rfl (hno _ hx)

section
variable {B : Nat} {w w' : World} {q : Nat} {M : RSt} {S : St} {b : Int}

/-- The reference's class of deadlines behind a tick of it. -/
def ticked (M : RSt) (d : De.Tks) (n : Int) : RSt := { M with d := d, n := n }
theorem dtick_any (h : RefP B w q M) (hd : M.d = S.d) (hn : M.n = S.n) (hs : De.Same M.LD S.d) (hI : Inv S b) (hb : b ≤ 8000000000000) (pass : Bool) {U : De.Tks} {kk : Nat} (hfu : De.Fit U S.n)
    (hp : ((pass = true ∨ De.pick S.d = 0) ∧ U = S.d ∧ kk = 0) ∨ (pass = false ∧ De.pick S.d ≠ 0 ∧ U = De.upd S.d (De.pick S.d) (De.use (S.d (De.pick S.d))) ∧ kk = De.pick S.d)) :
    Calls Tryz.prog 43 #[.pointer (some ⟨q, 36, none⟩), .bool pass] w (fun e w' => e = .returned (.int .i64 kk) ∧ RefP B w' q (ticked M (De.past U S.n) (S.n + 1)) ∧ RStep B q M.U M.U w w') := by
  have hR : De.RefAt B w q 36 44 M.LD S.d S.n := hd ▸ hn ▸ h.dead
  have n0 := hI.n0
  have nB := hI.nB
  refine (De.tickr_any hR hs hI.dfit (hR.len16 hs) n0 (by omega) pass hfu hp).mono ?_
  rintro e w' ⟨h1, h2, h3⟩
  obtain ⟨q1, q2⟩ := h.by_dead h2 h3.only (show Still q 36 2 w w' from Still.wide (a := 36) (n := 1) (fun cs T hc => by
    obtain ⟨cs', r1, r2, r3⟩ := h3.still cs T hc
    exact ⟨cs', r1, r2, fun j hj => r3 j (by omega)⟩) (by omega) (by omega)) (fun k _ hk => by
    rcases hk with e | ⟨y, hy, e⟩
    · exact Or.inl e
    · exact Or.inr (Or.inl (by subst e; exact ⟨_, _, hR.task y hy⟩))) (fun k hk => by
    rcases hk with e | ⟨y, hy, e⟩
    · subst e; exact h.fair.from'.1
    · subst e; exact hR.from'.2 y hy)
  exact ⟨h1, q1, q2⟩

/-- Who has the tick, and for how many in a row, of the reference. -/
def rhead (S : St) (M : RSt) : RSt := { M with now := best S, used := if best S = S.now then M.used + 1 else 1 }
theorem rhead_same (h : best S = S.now) : rhead S M = { M with now := best S, used := M.used + 1 } := by unfold rhead; rw [if_pos h]
theorem rhead_other (h : best S ≠ S.now) : rhead S M = { M with now := best S, used := 1 } := by unfold rhead; rw [if_neg h]

theorem head_1 (h : RefP B w q M) {m : Nat} (hm : best S = m) (e : best S = S.now) (x : Int) (hx : M.used + 1 = x) :
    RefP B ((w.setCell ⟨q, 41, none⟩ (.int .i64 m)).setCell ⟨q, 42, none⟩ (.int .i64 x)) q (rhead S M) ∧ RStep B q M.U M.U w ((w.setCell ⟨q, 41, none⟩ (.int .i64 m)).setCell ⟨q, 42, none⟩ (.int .i64 x)) := by
  obtain ⟨h1, s1⟩ := h.set_last 41 (Or.inl rfl) m
  obtain ⟨h2, s2⟩ := h1.set_last 42 (Or.inr rfl) x
  refine ⟨?_, s1.trans s2⟩
  rw [rhead_same e, hx, hm]
  exact h2
theorem head_2 (h : RefP B w q M) {m : Nat} (hm : best S = m) (e : best S ≠ S.now) :
    RefP B (((w.setCell ⟨q, 42, none⟩ (.int .i64 0)).setCell ⟨q, 41, none⟩ (.int .i64 m)).setCell ⟨q, 42, none⟩ (.int .i64 1)) q (rhead S M) ∧ RStep B q M.U M.U w (((w.setCell ⟨q, 42, none⟩ (.int .i64 0)).setCell ⟨q, 41, none⟩ (.int .i64 m)).setCell ⟨q, 42, none⟩ (.int .i64 1)) := by
  obtain ⟨h0, s0⟩ := h.set_last 42 (Or.inr rfl) 0
  obtain ⟨h1, s1⟩ := h0.set_last 41 (Or.inl rfl) m
  obtain ⟨h2, s2⟩ := h1.set_last 42 (Or.inr rfl) 1
  refine ⟨?_, (s0.trans s1).trans s2⟩
  rw [rhead_other e, hm]
  exact h2

/-- What a tick leaves of the reference. -/
structure Ticked (S : St) (M M' : RSt) : Prop where
  same : M'.LF = M.LF ∧ M'.LD = M.LD ∧ M'.W = M.W ∧ M'.c = M.c ∧ M'.C = M.C ∧ M'.A = M.A ∧ M'.f = M.f
  T : M'.T = (tickS S).T
  Q : M'.Q = (tickS S).Q
  d : M'.d = (tickS S).d
  n : M'.n = (tickS S).n
  now : M'.now = best S
  used : M'.used = (rhead S M).used

theorem fsame_congr {L : List (Nat × Nat)} {T T' : Fr.Tks} {W : Nat → Int} (h : Fr.Same L T Fr.noG W (fun _ => 0)) (hT : ∀ t, t < 17 → (T' t).c = (T t).c ∧ (T' t).g = (T t).g) : Fr.Same L T' Fr.noG W (fun _ => 0) :=
  ⟨h.num, fun t ht hc => h.all t ht (by rw [← (hT t ht).1]; exact hc), fun x hx => by have := h.num x hx; rw [(hT _ (by omega)).1]; exact h.wt x hx, h.gw, h.g0, fun x hx => by have := h.num x hx; rw [(hT _ (by omega)).2]; exact h.tg x hx⟩
theorem dsame_congr {L : List (Nat × Nat)} {T T' : De.Tks} (h : De.Same L T) (hT : ∀ t, t < 17 → (T' t).p = (T t).p) : De.Same L T' :=
  ⟨h.num, fun t ht hp => h.all t ht (by rw [← hT t ht]; exact hp), fun x hx => by have := h.num x hx; rw [hT _ (by omega)]; exact h.there x hx⟩
theorem mem_turned (Q : Pr.Qs) (t : Int) (v : Nat) : t ∈ turned Q v ↔ t ∈ Q v := by
  unfold turned
  cases ht : Pr.top Q with
  | none => rfl
  | some k =>
    obtain ⟨hv, hne, -⟩ := Pr.topTo_is ht
    cases hq : Q k with
    | nil => exact absurd hq hne
    | cons x xs =>
      simp only [hq, List.tail_cons]
      by_cases e : v = k
      · subst e
        show t ∈ Pr.upd Q v _ v ↔ _
        rw [Pr.upd_same, hq]
        simp [or_comm]
      · show t ∈ Pr.upd Q k _ v ↔ _
        rw [Pr.upd_other _ _ e]
theorem tickS_Q (S : St) (t : Int) (v : Nat) : t ∈ (tickS S).Q v ↔ t ∈ S.Q v := by
  unfold tickS
  split
  · rfl
  · split
    · show t ∈ (if (head S).row % 3 = 0 then turned S.Q else S.Q) v ↔ _
      split
      · exact mem_turned _ _ _
      · rfl
    · split <;> rfl
theorem tickS_row (S : St) : (tickS S).row = (head S).row := by
  unfold tickS
  split
  · rfl
  · split
    · rfl
    · split <;> rfl
theorem tickS_A (S : St) : (tickS S).A = S.A := by
  unfold tickS
  split
  · rfl
  · split
    · rfl
    · split <;> rfl
theorem tickS_T (S : St) (t : Nat) : ((tickS S).T t).c = (S.T t).c ∧ ((tickS S).T t).g = (S.T t).g := by
  unfold tickS
  split
  · exact ⟨rfl, rfl⟩
  · split
    · exact ⟨rfl, rfl⟩
    · split
      · show (Fr.tickT S.T _ t).c = _ ∧ (Fr.tickT S.T _ t).g = _
        unfold Fr.tickT Fr.upd
        split
        · rename_i e; subst e; exact ⟨rfl, rfl⟩
        · exact ⟨rfl, rfl⟩
      · exact ⟨rfl, rfl⟩
theorem tickS_d (S : St) {t : Nat} (ht : t < 17) : ((tickS S).d t).p = (S.d t).p := by
  unfold tickS
  split
  · exact tick_p _ _ ht
  · split
    · exact past_p _ _ ht
    · split <;> exact past_p _ _ ht
theorem tickS_n (S : St) : (tickS S).n = S.n + 1 := by
  unfold tickS
  split
  · rfl
  · split
    · rfl
    · split <;> rfl
theorem link_tick {M' : RSt} (hL : Link S M) (hI : Inv S b) (h : Ticked S M M') : Link (tickS S) M' := by
  obtain ⟨s1, s2, s3, s4, s5, s6, s7⟩ := h.same
  refine ⟨h.T, h.Q, h.d, h.n, ?_, ?_, fun t => ?_, fun k h1 h2 h3 => ?_, fun k v hv hm => ?_, fun k h1 h2 h3 h4 => ?_, ?_, fun h0 => ?_⟩
  · rw [s1, s3]; exact fsame_congr hL.fs (fun t _ => tickS_T S t)
  · rw [s2]; exact dsame_congr hL.ds (fun t ht => tickS_d S ht)
  · rw [s5, tickS_C]; exact hL.C t
  · rw [s7, ready_tick S (by omega)]; exact hL.off k h1 h2 (by rw [tickS_C] at h3; exact h3)
  · rw [s6]; exact hL.inq k v hv ((tickS_Q S _ _).1 hm)
  · rw [s6, tickS_A]; exact hL.outq k h1 h2 (by rw [tickS_C] at h3; exact h3) (fun v hv hm => h4 v hv ((tickS_Q S _ _).2 hm))
  · rw [h.now, tickS_now]
  · rw [tickS_now] at h0
    rw [h.used, tickS_row]
    show (if best S = S.now then M.used + 1 else 1) = (if best S = S.now then S.row + 1 else 1)
    by_cases e : best S = S.now
    · rw [if_pos e, if_pos e, hL.used (by rw [← e]; exact h0)]
    · rw [if_neg e, if_neg e]

/-- What is known behind the reference's tick. -/
def RTick (B q : Nat) (S : St) (M : RSt) (w : World) (e : Ending) (w' : World) : Prop := e = .returned (.int .i64 (best S)) ∧ ∃ M', RefP B w' q M' ∧ RStep B q M.U M'.U w w' ∧ Ticked S M M'

theorem C_at (hL : Link S M) {m : Nat} (hm : m ≤ 16) (hI : Inv S b) : M.C m = S.C m := by
  rw [hL.C]
  by_cases e : 1 ≤ m
  · rw [if_pos (by omega)]; simp
  · rw [if_neg (by omega)]
    have : m = 0 := by omega
    subst this
    exact hI.c0.symm
end
end Go.Proofs.YtckaebpcghaobaaGreat.Rk
