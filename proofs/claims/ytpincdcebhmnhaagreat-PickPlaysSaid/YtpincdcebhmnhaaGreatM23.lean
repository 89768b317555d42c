/- Texts of this claim, merged: OffAt, NumAt, Rk, OFNextr. -/
import Derived.Test.YtpincdcebhmnhaaGreatM01
import Derived.Maps.OwnOps
import Derived.Deep.CutBlock
import Derived.WideKeyEntry
import Derived.Test.YtpincdcebhmnhaaGreatM19
import Derived.Test.YtpincdcebhmnhaaGreatM21
import Derived.Test.YtpincdcebhmnhaaGreatM10
import Derived.Test.YtpincdcebhmnhaaGreatM18
/- A map from numbers to bools of a call's own. -/
namespace Go.Proofs.YtpincdcebhmnhaaGreat.Of
open Go.ChangeShapes Go.WideShapes Go.ChangeAt Go.RowKit Go.Maps
set_option linter.unusedVariables false
set_option maxRecDepth 100000

def bkey (t : Int) : Lit := .int .i64 t
theorem bkey_ne {a b : Int} (h : a ≠ b) : bkey a ≠ bkey b := by intro e; cases e; exact h rfl
theorem bkey_lit (a : Int) : WideAt.IsKeyLit (bkey a) := by simp [WideAt.IsKeyLit, bkey]
def bval (b : Bool) : DataW Unit := .lit (.bool b)

theorem keyed_int : Keyed Tryz.prog 3 := int_keyed Tryz.underlying3
theorem zero_bool (w : World) : (zeroValue 4).run Tryz.prog w = .ok (.bool false) w := by kernel_rfl

theorem plain_bool_inv {v : Value} {z : DataW Unit × List MemPlace} (h : plainElem Tryz.prog 4 v = some z) : ∃ b, v = .bool b ∧ z = (bval b, []) := by
  unfold plainElem at h
  rw [Tryz.underlying4] at h
  cases v <;> simp at h
  exact ⟨_, rfl, h.symm⟩

/-- A map in block b, of at most n entries, that tells f. -/
def OffAt (w : World) (b n : Nat) (f : Int → Bool) : Prop := ∃ D : DataW Unit, w.ownsMap Tryz.prog 3 (plainElem Tryz.prog 4) b n D ∧ IsMap D ∧ ∀ t, D.atKey (bkey t) (bval false) = bval (f t)

section
variable {w w' : World} {b n : Nat} {f : Int → Bool}
theorem OffAt.keep {S : Nat → Prop} (h : OffAt w b n f) (hO : Only S w w') (hS : ¬ S b) : OffAt w' b n f := by
  obtain ⟨D, ⟨es, clock, h1, h2⟩, h3⟩ := h
  exact ⟨D, ⟨es, clock, (hO.block _ (block_there h1) hS).trans h1, h2⟩, h3⟩
theorem OffAt.later (h : OffAt w b n f) (hO : Only (fun _ => False) w w') : OffAt w' b n f := h.keep hO id
theorem OffAt.lt (h : OffAt w b n f) : b < w.heap.size := by obtain ⟨D, ⟨es, clock, h1, h2⟩, h3⟩ := h; exact block_there h1
theorem OffAt.made (w : World) : OffAt (w.alloc (.map #[] 0)) w.heap.size 0 (fun _ => false) := ⟨_, World.ownsMap_made w _ _ _, isMap_empty, fun t => rfl⟩
theorem OffAt.mono (h : OffAt w b n f) {m : Nat} (hm : n ≤ m) : OffAt w b m f := by obtain ⟨D, h1, h2⟩ := h; exact ⟨D, h1.mono hm, h2⟩

theorem OffAt.look (h : OffAt w b n f) (t : Int) (ht : (Lit.int .i64 t).wf = true) : (Instr.lookup 30 (.map (some b)) (.int .i64 t) false).run Tryz.prog w = .ok (.bool (f t)) w := by
  obtain ⟨D, h1, h2, h3⟩ := h
  obtain ⟨v, ps, hrun, hv⟩ := h1.lookup keyed_int Tryz.underlying30 (zero_bool w) (plainElem_bool Tryz.underlying4 false) (keyOf_int_mk Tryz.underlying3 ht)
  obtain ⟨c, rfl, hc⟩ := plain_bool_inv hv
  have := h3 t
  unfold bkey bval at *
  rw [Prod.mk.injEq] at hc
  rw [this] at hc
  have e : f t = c := by have := hc.1; cases this; rfl
  rw [e]
  exact hrun
end

/-- A number's bool told anew. -/
def updI (f : Int → Bool) (t : Int) (c : Bool) : Int → Bool := fun x => if x = t then c else f x

theorem only_turned {w w' : World} {b : Nat} (h : w.mapTurned w' b) : Only (· = b) w w' :=
  Only.of_grown (S := fun k => k = b) h.grown (fun k hk => by cases hk; rfl)

theorem wpList_off {w : World} {ops : Array Oper} {rest : List Oper} {o : Oper} {a : Act} {Q : Exit → Act → World → Prop} (hg : o.guard = none) (m x v : Operand) (hop : o.op = Op.mapUpdate 30 m x v)
    (b n : Nat) (f : Int → Bool) (hm : a.eval m = .map (some b)) (h : OffAt w b n f) (hn : n < 1000) (t : Int) (c : Bool) (hx : a.eval x = .int .i64 t) (hv : a.eval v = .bool c) (ht : (Lit.int .i64 t).wf = true)
    (hK : ∀ w', OffAt w' b (n + 1) (updI f t c) → Only (· = b) w w' → wpList Tryz.prog ops Q rest (a.put o.dst undef) w') : wpList Tryz.prog ops Q (o :: rest) a w := by
  obtain ⟨D, h1, h2, h3⟩ := h
  refine wpList_mapUpdate_in w hg m x v 30 hop 3 4 keyed_int Tryz.underlying30 _ b n D hm h1 (by unfold maxLen; omega) _ _ _ hx hv (keyOf_int_mk Tryz.underlying3 ht) _ [] (plainElem_bool Tryz.underlying4 c) ?_
  intro w' hown hturn
  refine hK w' ⟨_, hown, h2.put _ _, fun y => ?_⟩ (only_turned hturn)
  unfold updI
  by_cases e : y = t
  · subst e; rw [if_pos rfl]; exact atKey_put_same h2 (bkey_lit y) _ _
  · rw [if_neg e, ← h3 y]; exact atKey_put_other (bkey_ne e) _ _
end Go.Proofs.YtpincdcebhmnhaaGreat.Of
/- A map from numbers to numbers of a call's own; an entry stored by a tuple's assignment. -/
namespace Go.Proofs.YtpincdcebhmnhaaGreat.Of
open Go.ChangeShapes Go.WideShapes Go.ChangeAt Go.RowKit Go.Maps
set_option linter.unusedVariables false
set_option maxRecDepth 100000

/-- A map told of by another block's name. -/
def ival (x : Int) : DataW Unit := .lit (.int .i64 x)
theorem zero_int (w : World) : (zeroValue 3).run Tryz.prog w = .ok (.int .i64 0) w := by kernel_rfl
theorem plain_int_inv {v : Value} {z : DataW Unit × List MemPlace} (h : plainElem Tryz.prog 3 v = some z) : ∃ b, v = .int .i64 b ∧ z = (ival b, []) := by
  obtain ⟨a, h1, h2, -⟩ := plainElem_int_inv Tryz.underlying3 h
  exact ⟨a, h1, h2⟩
/-- A map in block b, of at most n entries, of ints, that tells f. -/
def NumsAt (w : World) (b n : Nat) (f : Int → Int) : Prop := ∃ D : DataW Unit, w.ownsMap Tryz.prog 3 (plainElem Tryz.prog 3) b n D ∧ IsMap D ∧ ∀ t, D.atKey (bkey t) (ival 0) = ival (f t)

section
variable {w w' : World} {b n : Nat} {f : Int → Int}
theorem NumsAt.keep {S : Nat → Prop} (h : NumsAt w b n f) (hO : Only S w w') (hS : ¬ S b) : NumsAt w' b n f := by
  obtain ⟨D, ⟨es, clock, h1, h2⟩, h3⟩ := h
  exact ⟨D, ⟨es, clock, (hO.block _ (block_there h1) hS).trans h1, h2⟩, h3⟩
theorem NumsAt.later (h : NumsAt w b n f) (hO : Only (fun _ => False) w w') : NumsAt w' b n f := h.keep hO id
theorem NumsAt.lt (h : NumsAt w b n f) : b < w.heap.size := by obtain ⟨D, ⟨es, clock, h1, h2⟩, h3⟩ := h; exact block_there h1
theorem NumsAt.made (w : World) : NumsAt (w.alloc (.map #[] 0)) w.heap.size 0 (fun _ => 0) := ⟨_, World.ownsMap_made w _ _ _, isMap_empty, fun t => rfl⟩
theorem NumsAt.mono (h : NumsAt w b n f) {m : Nat} (hm : n ≤ m) : NumsAt w b m f := by obtain ⟨D, h1, h2⟩ := h; exact ⟨D, h1.mono hm, h2⟩

theorem NumsAt.look (h : NumsAt w b n f) (t : Int) (ht : (Lit.int .i64 t).wf = true) : (Instr.lookup 29 (.map (some b)) (.int .i64 t) false).run Tryz.prog w = .ok (.int .i64 (f t)) w := by
  obtain ⟨D, h1, h2, h3⟩ := h
  obtain ⟨v, ps, hrun, hv⟩ := h1.lookup keyed_int Tryz.underlying29 (zero_int w) (plainElem_int Tryz.underlying3 (by decide)) (keyOf_int_mk Tryz.underlying3 ht)
  obtain ⟨c, rfl, hc⟩ := plain_int_inv hv
  have := h3 t
  unfold bkey ival at *
  rw [Prod.mk.injEq] at hc
  rw [this] at hc
  have e : f t = c := by have := hc.1; cases this; rfl
  rw [e]
  exact hrun
end


/-- A number told anew. -/
def updN (f : Int → Int) (t : Int) (c : Int) : Int → Int := fun x => if x = t then c else f x

open Go.WideElems Go.ChangeMaps Go.MapKept in
/-- An entry asked for, and stored later: as one update. -/
theorem entry_store {P : Program} {t k e : TypeId} {R : Value → Option (DataW Unit × List MemPlace)} {w : World} {b : Nat} {es : Array MapEntry} {clock : Nat} (K : Keyed P k) (ht : P.underlying t = some (.map k e)) {z : Value} (hz : ∀ u : World, (zeroValue e).run P u = .ok z u)
    (hb : w.heap[b]? = some (.map es clock)) (F : Fit P k R es clock) {key : Value} {kl : Lit} (hkey : keyOf P k key = some kl) :
    ∃ (v0 : Value) (st : Nat) (o1 : Obj), (Instr.mapEntry t (.map (some b)) key).run P w = .ok (.tuple #[v0, goInt st]) (setBlock w b o1) ∧ (∃ es1 c1, o1 = .map es1 c1) ∧
      ∀ (w2 : World) (val : Value), w2.heap[b]? = some o1 → ∃ o2 : Obj, (Instr.entryStore t (.map (some b)) (goInt st) val).run P w2 = .ok () (setBlock w2 b o2) ∧ (Instr.mapUpdate t (.map (some b)) key val).run P w = .ok () (setBlock w b o2) := by
  have S1 := F.stamped.1
  have S2 := F.stamped.2.1
  rcases K.find w hkey es.toList F.keys with ⟨no, -⟩ | ⟨j, x, at1, at2, at3⟩
  · refine ⟨z, clock, .map (es.push ⟨key, z, clock⟩) (clock + 1), by simp [Instr.mapEntry, run_underlying ht, MapKept.run_getObj_map hb, K.check w false hkey, no, hz, MapKept.run_setObj_map _ hb, Result.andThen, setBlock], ⟨_, _, rfl⟩, fun w2 val h2 => ⟨.map (es.push ⟨key, val, clock⟩) (clock + 1), ?_, ?_⟩⟩
    · have pos : (es.push ⟨key, z, clock⟩).findIdx? (fun e => ((e.born : Nat) : Int) == ((clock : Nat) : Int)) = some es.size := by
        rw [findIdx_arr]
        refine findIdx_born (l := (es.push ⟨key, z, clock⟩).toList) (j := es.size) (e0 := ⟨key, z, clock⟩) ?_ (by simp)
        rw [Array.toList_push, List.map_append, List.nodup_append]
        refine ⟨S2, by simp, fun y hy c hc he => ?_⟩
        have hc' : c = clock := by simpa using hc
        obtain ⟨x, hx, rfl⟩ := List.mem_map.1 hy
        have := S1 x hx
        omega
      have new : (es.push ⟨key, z, clock⟩).modify es.size (fun e => { e with val := val }) = es.push ⟨key, val, clock⟩ := by
        apply Array.ext'
        rw [Array.toList_modify, Array.toList_push, Array.toList_push, ← Array.length_toList, modify_last]
      simp [Instr.entryStore, MapKept.run_getObj_map h2, asInt, asIntOf, goInt, pos, new, MapKept.run_setObj_map _ h2, Result.andThen, setBlock]
    · simp [Instr.mapUpdate, run_underlying ht, MapKept.run_getObj_map hb, K.check w false hkey, no, MapKept.run_setObj_map _ hb, Result.andThen, setBlock]
  · have pos : es[j]? = some x := by simpa using at2
    have self : es.modify j (fun e => { e with key := key }) = es := by
      apply Array.ext'
      rw [Array.toList_modify, modify_eq_set _ _ _ _ at2, show ({ x with key := key } : MapEntry) = x by rw [← at3]]
      exact set_self _ _ _ at2
    refine ⟨x.val, x.born, .map es clock, by simp [Instr.mapEntry, run_underlying ht, MapKept.run_getObj_map hb, K.check w false hkey, at1, pos, at3, K.stays w hkey, self, MapKept.run_setObj_map _ hb, Result.andThen, setBlock], ⟨_, _, rfl⟩, fun w2 val h2 => ⟨.map (es.modify j (fun e' => { e' with key := key, val := val })) clock, ?_, ?_⟩⟩
    · have at4 : es.findIdx? (fun e => ((e.born : Nat) : Int) == ((x.born : Nat) : Int)) = some j := by
        rw [findIdx_arr]
        exact findIdx_born S2 at2
      have new : es.modify j (fun e => { e with val := val }) = es.modify j (fun e' => { e' with key := key, val := val }) := by
        apply Array.ext'
        rw [Array.toList_modify, Array.toList_modify, modify_eq_set _ _ _ _ at2, modify_eq_set _ _ _ _ at2, ← at3]
      simp [Instr.entryStore, MapKept.run_getObj_map h2, asInt, asIntOf, goInt, at4, new, MapKept.run_setObj_map _ h2, Result.andThen, setBlock]
    · simp [Instr.mapUpdate, run_underlying ht, MapKept.run_getObj_map hb, K.check w false hkey, at1, pos, at3, K.stays w hkey, MapKept.run_setObj_map _ hb, Result.andThen, setBlock]

open Go.ChangeMaps in
theorem block_twice (w : World) (b : Nat) (o o' : Obj) : setBlock (setBlock w b o) b o' = setBlock w b o' := by
  unfold setBlock
  simp [Array.setIfInBounds_setIfInBounds]

open Go.WideElems Go.ChangeMaps Go.MapKept in
/-- At the three operations of a tuple's assignment to a map's entry. -/
theorem wpList_entry {P : Program} {w : World} {ops : Array Oper} {rest : List Oper} {o1 o2 o3 : Oper} {a : Act} {Q : Exit → Act → World → Prop} (g1 : o1.guard = none) (g2 : o2.guard = none) (g3 : o3.guard = none) (m x u s v : Operand) {t k e : TypeId}
    (h1 : o1.op = .mapEntry t m x) (h2 : o2.op = .extract u 1) (h3 : o3.op = .entryStore t m s v) (K : Keyed P k) (ht : P.underlying t = some (.map k e)) {z : Value} (hz : ∀ u : World, (zeroValue e).run P u = .ok z u)
    (R : Value → Option (DataW Unit × List MemPlace)) (b n : Nat) (D : DataW Unit) (hm : a.eval m = .map (some b)) (hown : w.ownsMap P k R b n D) (hn : n < maxLen) (key val : Value) (kl : Lit) (hx : a.eval x = key) (hkey : keyOf P k key = some kl)
    (d : DataW Unit) (ps : List MemPlace) (hval : R val = some (d, ps))
    (hu : ∀ y, (a.put o1.dst y).eval u = y) (he : ∀ y y', ((a.put o1.dst y).put o2.dst y').eval m = .map (some b) ∧ ((a.put o1.dst y).put o2.dst y').eval s = y' ∧ ((a.put o1.dst y).put o2.dst y').eval v = val)
    (hK : ∀ y y' w', w'.ownsMap P k R b (n + 1) (D.put kl d) → w.mapTurned w' b → wpList P ops Q rest (((a.put o1.dst y).put o2.dst y').put o3.dst undef) w') :
    wpList P ops Q (o1 :: o2 :: o3 :: rest) a w := by
  obtain ⟨es, clock, hb, F, hs, hD⟩ := id hown
  obtain ⟨v0, st, ob, r1, ⟨es1, c1, rfl⟩, r2⟩ := entry_store K ht hz hb F hkey
  obtain ⟨w', r3, r4, r5⟩ := hown.store K ht hn hkey hval
  have hb1 : (setBlock w b (.map es1 c1)).heap[b]? = some (.map es1 c1) := heap_setBlock_same hb _
  obtain ⟨o2', q1, q2⟩ := r2 (setBlock w b (.map es1 c1)) val hb1
  rw [r3] at q2
  have ew : w' = setBlock w b o2' := by injection q2
  rw [block_twice, ← ew] at q1
  refine wpList_plain g1 fun K1 hK1 => ?_
  unfold Oper.wp
  simp only [execOp, h1, hm, hx, r1, Sem.run_bind, Sem.run_pure, Result.andThen_ok]
  refine hK1 _ _ ?_
  refine wpList_plain g2 fun K2 hK2 => ?_
  unfold Oper.wp
  simp only [execOp, h2, hu, Sem.run_bind, Sem.run_pure]
  refine hK2 ((a.put o1.dst (.tuple #[v0, goInt st])).put o2.dst (goInt st)) _ ?_
  refine wpList_plain g3 fun K3 hK3 => ?_
  obtain ⟨e1, e2, e3⟩ := he (.tuple #[v0, goInt st]) (goInt st)
  unfold Oper.wp
  simp only [execOp, h3, e1, e2, e3, q1, Sem.run_bind, Sem.run_pure, Result.andThen_ok]
  exact hK3 _ _ (hK _ _ _ r4 r5)

theorem NumsAt.put {w' : World} {b n : Nat} {f : Int → Int} {D : DataW Unit} (h2 : IsMap D) (h3 : ∀ t, D.atKey (bkey t) (ival 0) = ival (f t)) (t c : Int) (h1 : w'.ownsMap Tryz.prog 3 (plainElem Tryz.prog 3) b n (D.put (bkey t) (ival c))) : NumsAt w' b n (updN f t c) := by
  refine ⟨_, h1, h2.put _ _, fun y => ?_⟩
  unfold updN
  by_cases e : y = t
  · subst e; rw [if_pos rfl]; exact atKey_put_same h2 (bkey_lit y) _ _
  · rw [if_neg e, ← h3 y]; exact atKey_put_other (bkey_ne e) _ _
theorem OffAt.put {w' : World} {b n : Nat} {f : Int → Bool} {D : DataW Unit} (h2 : IsMap D) (h3 : ∀ t, D.atKey (bkey t) (bval false) = bval (f t)) (t : Int) (c : Bool) (h1 : w'.ownsMap Tryz.prog 3 (plainElem Tryz.prog 4) b n (D.put (bkey t) (bval c))) : OffAt w' b n (updI f t c) := by
  refine ⟨_, h1, h2.put _ _, fun y => ?_⟩
  unfold updI
  by_cases e : y = t
  · subst e; rw [if_pos rfl]; exact atKey_put_same h2 (bkey_lit y) _ _
  · rw [if_neg e, ← h3 y]; exact atKey_put_other (bkey_ne e) _ _

section
variable {w : World} {ops : Array Oper} {rest : List Oper} {a : Act} {Q : Exit → Act → World → Prop}
/-- A number told anew in a map of numbers. -/
theorem wpList_num {o : Oper} (hg : o.guard = none) (m x v : Operand) (hop : o.op = Op.mapUpdate 29 m x v)
    (b n : Nat) (f : Int → Int) (hm : a.eval m = .map (some b)) (h : NumsAt w b n f) (hn : n < 9000000000000000000) (t c : Int) (hx : a.eval x = .int .i64 t) (hv : a.eval v = .int .i64 c) (ht : (Lit.int .i64 t).wf = true) (hc : (Lit.int .i64 c).wf = true)
    (hK : ∀ w', NumsAt w' b (n + 1) (updN f t c) → Only (· = b) w w' → wpList Tryz.prog ops Q rest (a.put o.dst undef) w') : wpList Tryz.prog ops Q (o :: rest) a w := by
  obtain ⟨D, h1, h2, h3⟩ := h
  exact wpList_mapUpdate_in w hg m x v 29 hop 3 3 keyed_int Tryz.underlying29 _ b n D hm h1 (by unfold maxLen; omega) _ _ _ hx hv (keyOf_int_mk Tryz.underlying3 ht) _ [] (plainElem_int Tryz.underlying3 hc) (fun w' hown hturn => hK w' (NumsAt.put h2 h3 t c hown) (only_turned hturn))
theorem wpList_off2 {o : Oper} (hg : o.guard = none) (m x v : Operand) (hop : o.op = Op.mapUpdate 30 m x v)
    (b n : Nat) (f : Int → Bool) (hm : a.eval m = .map (some b)) (h : OffAt w b n f) (hn : n < 9000000000000000000) (t : Int) (c : Bool) (hx : a.eval x = .int .i64 t) (hv : a.eval v = .bool c) (ht : (Lit.int .i64 t).wf = true)
    (hK : ∀ w', OffAt w' b (n + 1) (updI f t c) → Only (· = b) w w' → wpList Tryz.prog ops Q rest (a.put o.dst undef) w') : wpList Tryz.prog ops Q (o :: rest) a w := by
  obtain ⟨D, h1, h2, h3⟩ := h
  exact wpList_mapUpdate_in w hg m x v 30 hop 3 4 keyed_int Tryz.underlying30 _ b n D hm h1 (by unfold maxLen; omega) _ _ _ hx hv (keyOf_int_mk Tryz.underlying3 ht) _ [] (plainElem_bool Tryz.underlying4 c) (fun w' hown hturn => hK w' (OffAt.put h2 h3 t c hown) (only_turned hturn))
/-- The same by a tuple's assignment. -/
theorem wpList_num3 {o1 o2 o3 : Oper} (g1 : o1.guard = none) (g2 : o2.guard = none) (g3 : o3.guard = none) (m x u s v : Operand) (h1 : o1.op = .mapEntry 29 m x) (h2 : o2.op = .extract u 1) (h3 : o3.op = .entryStore 29 m s v)
    (b n : Nat) (f : Int → Int) (hm : a.eval m = .map (some b)) (h : NumsAt w b n f) (hn : n < 9000000000000000000) (t c : Int) (hx : a.eval x = .int .i64 t) (ht : (Lit.int .i64 t).wf = true) (hc : (Lit.int .i64 c).wf = true)
    (hu : ∀ y, (a.put o1.dst y).eval u = y) (he : ∀ y y', ((a.put o1.dst y).put o2.dst y').eval m = .map (some b) ∧ ((a.put o1.dst y).put o2.dst y').eval s = y' ∧ ((a.put o1.dst y).put o2.dst y').eval v = .int .i64 c)
    (hK : ∀ y y' w', NumsAt w' b (n + 1) (updN f t c) → Only (· = b) w w' → wpList Tryz.prog ops Q rest (((a.put o1.dst y).put o2.dst y').put o3.dst undef) w') : wpList Tryz.prog ops Q (o1 :: o2 :: o3 :: rest) a w := by
  obtain ⟨D, q1, q2, q3⟩ := h
  exact wpList_entry g1 g2 g3 m x u s v h1 h2 h3 keyed_int Tryz.underlying29 zero_int _ b n D hm q1 (by unfold maxLen; omega) _ _ _ hx (keyOf_int_mk Tryz.underlying3 ht) _ [] (plainElem_int Tryz.underlying3 hc) hu he (fun y y' w' hown hturn => hK y y' w' (NumsAt.put q2 q3 t c hown) (only_turned hturn))
theorem wpList_off3 {o1 o2 o3 : Oper} (g1 : o1.guard = none) (g2 : o2.guard = none) (g3 : o3.guard = none) (m x u s v : Operand) (h1 : o1.op = .mapEntry 30 m x) (h2 : o2.op = .extract u 1) (h3 : o3.op = .entryStore 30 m s v)
    (b n : Nat) (f : Int → Bool) (hm : a.eval m = .map (some b)) (h : OffAt w b n f) (hn : n < 9000000000000000000) (t : Int) (c : Bool) (hx : a.eval x = .int .i64 t) (ht : (Lit.int .i64 t).wf = true)
    (hu : ∀ y, (a.put o1.dst y).eval u = y) (he : ∀ y y', ((a.put o1.dst y).put o2.dst y').eval m = .map (some b) ∧ ((a.put o1.dst y).put o2.dst y').eval s = y' ∧ ((a.put o1.dst y).put o2.dst y').eval v = .bool c)
    (hK : ∀ y y' w', OffAt w' b (n + 1) (updI f t c) → Only (· = b) w w' → wpList Tryz.prog ops Q rest (((a.put o1.dst y).put o2.dst y').put o3.dst undef) w') : wpList Tryz.prog ops Q (o1 :: o2 :: o3 :: rest) a w := by
  obtain ⟨D, q1, q2, q3⟩ := h
  exact wpList_entry g1 g2 g3 m x u s v h1 h2 h3 keyed_int Tryz.underlying30 zero_bool _ b n D hm q1 (by unfold maxLen; omega) _ _ _ hx (keyOf_int_mk Tryz.underlying3 ht) _ [] (plainElem_bool Tryz.underlying4 c) hu he (fun y y' w' hown hturn => hK y y' w' (OffAt.put q2 q3 t c hown) (only_turned hturn))
end
end Go.Proofs.YtpincdcebhmnhaaGreat.Of
/- The reference of one processor's scheduler in memory: its classes side by side in one block, three maps, and what changes what. -/
namespace Go.Proofs.YtpincdcebhmnhaaGreat.Rk
open Go.ChangeShapes Go.WideShapes Go.ChangeAt Go.RowKit Go.Maps
open Go.Proofs.YtpincdcebhmnhaaGreat.Of
set_option linter.unusedVariables false
set_option maxRecDepth 100000

/-- A block of cells of a type. -/
def Kind (w : World) (k t : Nat) : Prop := ∃ cs fr, w.heap[k]? = some (.cells cs t fr)
/-- A block that is a map. -/
def IsMp (w : World) (k : Nat) : Prop := ∃ es c, w.heap[k]? = some (.map es c)

theorem Kind.one {w : World} {k t t' : Nat} (h : Kind w k t) (h' : Kind w k t') : t = t' := by
  obtain ⟨cs, fr, h⟩ := h
  obtain ⟨cs', fr', h'⟩ := h'
  rw [h] at h'
  injection h' with e; injection e
theorem Kind.no_map {w : World} {k t : Nat} (h : Kind w k t) (h' : IsMp w k) : False := by
  obtain ⟨cs, fr, h⟩ := h
  obtain ⟨es, c, h'⟩ := h'
  rw [h] at h'
  injection h' with e; cases e
theorem Kind.lt {w : World} {k t : Nat} (h : Kind w k t) : k < w.heap.size := by obtain ⟨cs, fr, h⟩ := h; exact block_there h
theorem IsMp.lt {w : World} {k : Nat} (h : IsMp w k) : k < w.heap.size := by obtain ⟨cs, fr, h⟩ := h; exact block_there h

/-- Block q as it was outside the cells a .. a + n - 1. -/
def Still (q a n : Nat) (w w' : World) : Prop := ∀ cs T, w.heap[q]? = some (.cells cs T (0, 0)) → ∃ cs', w'.heap[q]? = some (.cells cs' T (0, 0)) ∧ cs'.size = cs.size ∧ ∀ j, j < a ∨ a + n ≤ j → cs'[j]? = cs[j]?
theorem Still.of {q a n : Nat} {w w' : World} {R : Nat → Prop} (hO : Only R w w') (hq : q < w.heap.size) (hR : ¬ R q) : Still q a n w w' := fun cs T h => ⟨cs, (hO.block q hq hR).trans h, rfl, fun _ _ => rfl⟩
theorem Still.set {q a n : Nat} {w w' : World} (h : Still q a n w w') {i : Nat} (hi : a ≤ i ∧ i < a + n) (u : Value) : Still q a n w (w'.setCell ⟨q, i, none⟩ u) := fun cs T hc => by
  obtain ⟨cs1, h1, s1, e1⟩ := h cs T hc
  refine ⟨_, heap_setCell_same w' q i cs1 T u h1, by simp [s1], fun j hj => ?_⟩
  rw [Array.getElem?_setIfInBounds, if_neg (by omega)]
  exact e1 j hj
theorem Still.cell {q a n : Nat} {w w' : World} (h : Still q a n w w') (hb : ∃ cs T, w.heap[q]? = some (.cells cs T (0, 0))) {j : Nat} (hj : j < a ∨ a + n ≤ j) : w'.cell? ⟨q, j, none⟩ = w.cell? ⟨q, j, none⟩ := by
  obtain ⟨cs, T, h1⟩ := hb
  obtain ⟨cs', h2, -, h3⟩ := h cs T h1
  rw [cell_at h1, cell_at h2]; exact h3 j hj
theorem Still.wide {q a n a' n' : Nat} {w w' : World} (h : Still q a n w w') (h1 : a' ≤ a) (h2 : a + n ≤ a' + n') : Still q a' n' w w' := fun cs T hc => by
  obtain ⟨cs1, q1, s1, e1⟩ := h cs T hc
  exact ⟨cs1, q1, s1, fun j hj => e1 j (by omega)⟩

section
variable {B : Nat} {w w' : World} {q a n D : Nat} {R : Nat → Prop}

theorem fair_keep {L : List (Nat × Nat)} {T : Fr.Tks} {G : Fr.Grs} {W GW : Nat → Int} (h : Fr.RefAt B w q 0 D L T G W GW) (hO : Only R w w') (hs : Still q a n w w') (ha : 28 ≤ a ∨ a + n ≤ 0)
    (hR : ∀ k, R k → k ≠ q → ¬ Kind w k 84 ∧ ¬ Kind w k 82) : Fr.RefAt B w' q 0 D L T G W GW := by
  obtain ⟨⟨cs, V, h1, h2, h3, h4⟩, h5, h6, h7, h8, h9⟩ := h
  obtain ⟨cs', q1, q2, q3⟩ := hs cs D h1
  have e : ∀ j, j < 28 → cs'[j]? = cs[j]? := fun j hj => q3 j (by omega)
  refine ⟨⟨cs', V, q1, ⟨by rw [q2]; exact h2.size, (e _ (by omega)).trans h2.v, fun g hg => (e _ (by omega)).trans (h2.is g hg), fun g hg => (e _ (by omega)).trans (h2.gw g hg), fun g hg => (e _ (by omega)).trans (h2.gv g hg)⟩, h3.keep hO (fun g hg hr => ?_), h4⟩, fun x hx => ?_, h6, h7, h8, h9⟩
  · obtain ⟨cur, hc⟩ := owns_type h3 hg
    exact (hR g hr (h4 g hg).1).2 ⟨cur, _, hc⟩
  · have := h5 x hx
    exact (hO.block x.1 (block_there this) (fun hr => (hR x.1 hr (h7 x hx)).1 ⟨_, _, this⟩)).trans this
theorem dead_keep {L : List (Nat × Nat)} {T : De.Tks} {m : Int} (h : De.RefAt B w q 36 D L T m) (hO : Only R w w') (hs : Still q a n w w') (ha : 38 ≤ a ∨ a + n ≤ 36)
    (hR : ∀ k, R k → k ≠ q → ¬ Kind w k 88 ∧ ¬ Kind w k 86) : De.RefAt B w' q 36 D L T m := by
  obtain ⟨⟨cs, V, h1, h2, h3, h4⟩, h5, h6, h7, h8, h9⟩ := h
  obtain ⟨cs', q1, q2, q3⟩ := hs cs D h1
  refine ⟨⟨cs', V, q1, ⟨(q3 _ (by omega)).trans h2.1, (q3 _ (by omega)).trans h2.2⟩, h3.keep hO (fun g hg hr => ?_), h4⟩, fun x hx => ?_, h6, h7, h8, h9⟩
  · obtain ⟨cur, hc⟩ := owns_type h3 hg
    exact (hR g hr (h4 g hg).1).2 ⟨cur, _, hc⟩
  · have := h5 x hx
    exact (hO.block x.1 (block_there this) (fun hr => (hR x.1 hr (h7 x hx)).1 ⟨_, _, this⟩)).trans this
theorem prio_keep {U : Nat → Value} {Q : Pr.Qs} (h : Pr.QAt w q 28 D U Q) (hO : Only R w w') (hs : Still q a n w w') (ha : 36 ≤ a ∨ a + n ≤ 28)
    (hR : ∀ k, R k → k ≠ q → ∀ i, i < 8 → (U i).ownBlock ≠ some k) : Pr.QAt w' q 28 D U Q := by
  obtain ⟨cs, h1, h2⟩ := h.block
  obtain ⟨cs', q1, q2, q3⟩ := hs cs D h1
  exact ⟨⟨cs', q1, fun i hi => (q3 _ (by omega)).trans (h2 i hi)⟩, h.type, fun i hi => (h.row i hi).keep hO (fun g hg hr => hR g hr (fun e => h.not_row hi (e ▸ hg)) i hi hg), h.apart⟩
end

/-- What the reference knows, and where. -/
structure RSt where
  LF : List (Nat × Nat)
  T : Fr.Tks
  W : Nat → Int
  U : Nat → Value
  Q : Pr.Qs
  LD : List (Nat × Nat)
  d : De.Tks
  n : Int
  kc : Nat
  kv : Nat
  ko : Nat
  c : Nat
  C : Int → Int
  A : Int → Int
  f : Int → Bool
  now : Int
  used : Int

/-- The reference in block q; all that it owns is not older than B. -/
structure RefP (B : Nat) (w : World) (q : Nat) (M : RSt) : Prop where
  fair : Fr.RefAt B w q 0 44 M.LF M.T Fr.noG M.W (fun _ => 0)
  prio : Pr.QAt w q 28 44 M.U M.Q
  dead : De.RefAt B w q 36 44 M.LD M.d M.n
  pc : w.cell? ⟨q, 38, none⟩ = some (.map (some M.kc))
  pv : w.cell? ⟨q, 39, none⟩ = some (.map (some M.kv))
  po : w.cell? ⟨q, 40, none⟩ = some (.map (some M.ko))
  now : w.cell? ⟨q, 41, none⟩ = some (.int .i64 M.now)
  used : w.cell? ⟨q, 42, none⟩ = some (.int .i64 M.used)
  mc : NumsAt w M.kc M.c M.C
  mv : NumsAt w M.kv M.c M.A
  mo : OffAt w M.ko M.c M.f
  k1 : M.kc ≠ M.kv
  k2 : M.kc ≠ M.ko
  k3 : M.kv ≠ M.ko
  low : B ≤ M.kc ∧ B ≤ M.kv ∧ B ≤ M.ko ∧ ∀ k, Pr.Foot q M.U k → B ≤ k

/-- The blocks that the reference may change. -/
def RFoot (w : World) (q : Nat) (U : Nat → Value) (k : Nat) : Prop := Pr.Foot q U k ∨ Kind w k 84 ∨ Kind w k 82 ∨ Kind w k 88 ∨ Kind w k 86 ∨ IsMp w k
/-- What a step of the reference leaves. -/
structure RStep (B q : Nat) (U U' : Nat → Value) (w w' : World) : Prop where
  only : Only (RFoot w q U) w w'
  grow : ∀ k, Pr.Foot q U' k → Pr.Foot q U k ∨ w.heap.size ≤ k
  low : ∀ k, k < w.heap.size → k < B → w'.heap[k]? = w.heap[k]?

/-- A row of one's own is not older than its base. -/
theorem own_low {w : World} {base : Nat} {e : TypeId} {size : Nat} {v : Value} {n : Nat} {xs : List Value} (h : w.ownsRow base e size v n xs) {k : Nat} (hk : v.ownBlock = some k) : base ≤ k := by
  rcases h.2 with ⟨rfl, h0⟩ | ⟨g, cap, cur, rfl, hb, -⟩
  · cases hk
  · cases hk; exact hb

theorem nums_map {w : World} {b n : Nat} {f : Int → Int} (h : NumsAt w b n f) : IsMp w b := by obtain ⟨D, ⟨es, clock, h1, -⟩, -⟩ := h; exact ⟨es, clock, h1⟩
theorem off_map {w : World} {b n : Nat} {f : Int → Bool} (h : OffAt w b n f) : IsMp w b := by obtain ⟨D, ⟨es, clock, h1, -⟩, -⟩ := h; exact ⟨es, clock, h1⟩

section
variable {B : Nat} {w w' : World} {q : Nat} {M : RSt} {U : Nat → Value} {R : Nat → Prop}
theorem RStep.refl (q : Nat) (U : Nat → Value) (w : World) : RStep B q U U w w := ⟨Only.refl _ w, fun _ h => Or.inl h, fun _ _ _ => rfl⟩
theorem RStep.of_quiet (h : Only (fun _ => False) w w') : RStep B q U U w w' := ⟨h.mono (fun _ _ e => e.elim), fun _ h => Or.inl h, fun k hk _ => h.block k hk id⟩
theorem RStep.of_only (h : Only R w w') (hR : ∀ k, k < w.heap.size → R k → RFoot w q U k) (hL : ∀ k, R k → B ≤ k) : RStep B q U U w w' := ⟨h.mono hR, fun _ h => Or.inl h, fun k hk hb => h.block k hk (fun e => by have := hL k e; omega)⟩
theorem RStep.trans {U' U'' : Nat → Value} {a b c : World} (h : RStep B q U U' a b) (k : RStep B q U' U'' b c) : RStep B q U U'' a c := by
  refine ⟨h.only.trans k.only (fun x hx e => ?_), fun x hx => ?_, fun x hx hb => (k.low x (Nat.lt_of_lt_of_le hx h.only.size) hb).trans (h.low x hx hb)⟩
  · by_cases hr : RFoot a q U x
    · exact hr
    · have hk := h.only.block x hx hr
      have kind : ∀ t, Kind b x t → Kind a x t := fun t ⟨cs, fr, e⟩ => ⟨cs, fr, hk.symm.trans e⟩
      rcases e with e | e | e | e | e | ⟨es, cl, e⟩
      · rcases h.grow x e with e | e
        · exact Or.inl e
        · omega
      · exact Or.inr (Or.inl (kind _ e))
      · exact Or.inr (Or.inr (Or.inl (kind _ e)))
      · exact Or.inr (Or.inr (Or.inr (Or.inl (kind _ e))))
      · exact Or.inr (Or.inr (Or.inr (Or.inr (Or.inl (kind _ e)))))
      · exact Or.inr (Or.inr (Or.inr (Or.inr (Or.inr ⟨es, cl, hk.symm.trans e⟩))))
  · rcases k.grow x hx with e | e
    · exact h.grow x e
    · exact Or.inr (Nat.le_trans h.only.size e)

theorem RefP.block (h : RefP B w q M) : ∃ cs, w.heap[q]? = some (.cells cs 44 (0, 0)) := by obtain ⟨⟨cs, V, h1, -⟩, -⟩ := h.fair; exact ⟨cs, h1⟩
theorem RefP.kind (h : RefP B w q M) : Kind w q 44 := by obtain ⟨cs, h1⟩ := h.block; exact ⟨cs, _, h1⟩
theorem RefP.lt (h : RefP B w q M) : q < w.heap.size := h.kind.lt
theorem RefP.frozen (h : RefP B w q M) (j : Nat) : w.frozen? ⟨q, j, none⟩ = false := by obtain ⟨cs, h1⟩ := h.block; exact frozen_at h1 j
theorem RefP.row_kind (h : RefP B w q M) {i k : Nat} (hi : i < 8) (e : (M.U i).ownBlock = some k) : Kind w k 3 := by obtain ⟨cur, hc⟩ := owns_type (h.prio.row i hi) e; exact ⟨cur, _, hc⟩
theorem RefP.cells (h : RefP B w q M) (hO : Only R w w') {a n : Nat} (hs : Still q a n w w') (ha : a + n ≤ 38) :
    w'.cell? ⟨q, 38, none⟩ = some (.map (some M.kc)) ∧ w'.cell? ⟨q, 39, none⟩ = some (.map (some M.kv)) ∧ w'.cell? ⟨q, 40, none⟩ = some (.map (some M.ko)) ∧ w'.cell? ⟨q, 41, none⟩ = some (.int .i64 M.now) ∧ w'.cell? ⟨q, 42, none⟩ = some (.int .i64 M.used) := by
  obtain ⟨cs, h1⟩ := h.block
  have e := fun j (hj : 38 ≤ j) => hs.cell ⟨cs, _, h1⟩ (j := j) (by omega)
  exact ⟨(e _ (by omega)).trans h.pc, (e _ (by omega)).trans h.pv, (e _ (by omega)).trans h.po, (e _ (by omega)).trans h.now, (e _ (by omega)).trans h.used⟩

/-- The fair class has changed. -/
theorem RefP.by_fair (h : RefP B w q M) {LF : List (Nat × Nat)} {T : Fr.Tks} {W : Nat → Int} (hF : Fr.RefAt B w' q 0 44 LF T Fr.noG W (fun _ => 0)) (hO : Only R w w') (hs : Still q 0 28 w w')
    (hR : ∀ k, k < w.heap.size → R k → k = q ∨ Kind w k 84 ∨ Kind w k 82) (hL : ∀ k, R k → B ≤ k) : RefP B w' q { M with LF := LF, T := T, W := W } ∧ RStep B q M.U M.U w w' := by
  have hO2 : Only (fun k => k = q ∨ Kind w k 84 ∨ Kind w k 82) w w' := hO.mono hR
  have nk : ∀ k, (k = q ∨ Kind w k 84 ∨ Kind w k 82) → k ≠ q → ∀ t, t ≠ 84 → t ≠ 82 → ¬ Kind w k t := fun k hk hq t t1 t2 ht => by
    rcases hk with e | e | e
    · exact hq e
    · exact t1 (ht.one e)
    · exact t2 (ht.one e)
  have nm : ∀ k, (k = q ∨ Kind w k 84 ∨ Kind w k 82) → ¬ IsMp w k := fun k hk hm => by
    rcases hk with e | e | e
    · exact h.kind.no_map (e ▸ hm)
    · exact e.no_map hm
    · exact e.no_map hm
  obtain ⟨c1, c2, c3, c4, c5⟩ := h.cells hO hs (by omega)
  refine ⟨⟨hF, prio_keep h.prio hO2 hs (by omega) (fun k hk hq i hi e => nk k hk hq 3 (by decide) (by decide) (h.row_kind hi e)), dead_keep h.dead hO2 hs (by omega) (fun k hk hq => ⟨nk k hk hq _ (by decide) (by decide), nk k hk hq _ (by decide) (by decide)⟩), c1, c2, c3, c4, c5,
    h.mc.keep hO2 (fun e => nm _ e (nums_map h.mc)), h.mv.keep hO2 (fun e => nm _ e (nums_map h.mv)), h.mo.keep hO2 (fun e => nm _ e (off_map h.mo)), h.k1, h.k2, h.k3, h.low⟩, RStep.of_only hO (fun k hk hr => ?_) hL⟩
  rcases hR k hk hr with e | e | e
  · exact Or.inl (Or.inl e)
  · exact Or.inr (Or.inl e)
  · exact Or.inr (Or.inr (Or.inl e))
/-- The class of deadlines has changed. -/
theorem RefP.by_dead (h : RefP B w q M) {LD : List (Nat × Nat)} {d : De.Tks} {n : Int} (hF : De.RefAt B w' q 36 44 LD d n) (hO : Only R w w') (hs : Still q 36 2 w w')
    (hR : ∀ k, k < w.heap.size → R k → k = q ∨ Kind w k 88 ∨ Kind w k 86) (hL : ∀ k, R k → B ≤ k) : RefP B w' q { M with LD := LD, d := d, n := n } ∧ RStep B q M.U M.U w w' := by
  have hO2 : Only (fun k => k = q ∨ Kind w k 88 ∨ Kind w k 86) w w' := hO.mono hR
  have nk : ∀ k, (k = q ∨ Kind w k 88 ∨ Kind w k 86) → k ≠ q → ∀ t, t ≠ 88 → t ≠ 86 → ¬ Kind w k t := fun k hk hq t t1 t2 ht => by
    rcases hk with e | e | e
    · exact hq e
    · exact t1 (ht.one e)
    · exact t2 (ht.one e)
  have nm : ∀ k, (k = q ∨ Kind w k 88 ∨ Kind w k 86) → ¬ IsMp w k := fun k hk hm => by
    rcases hk with e | e | e
    · exact h.kind.no_map (e ▸ hm)
    · exact e.no_map hm
    · exact e.no_map hm
  obtain ⟨c1, c2, c3, c4, c5⟩ := h.cells hO hs (by omega)
  refine ⟨⟨fair_keep h.fair hO2 hs (by omega) (fun k hk hq => ⟨nk k hk hq _ (by decide) (by decide), nk k hk hq _ (by decide) (by decide)⟩), prio_keep h.prio hO2 hs (by omega) (fun k hk hq i hi e => nk k hk hq 3 (by decide) (by decide) (h.row_kind hi e)), hF, c1, c2, c3, c4, c5,
    h.mc.keep hO2 (fun e => nm _ e (nums_map h.mc)), h.mv.keep hO2 (fun e => nm _ e (nums_map h.mv)), h.mo.keep hO2 (fun e => nm _ e (off_map h.mo)), h.k1, h.k2, h.k3, h.low⟩, RStep.of_only hO (fun k hk hr => ?_) hL⟩
  rcases hR k hk hr with e | e | e
  · exact Or.inl (Or.inl e)
  · exact Or.inr (Or.inr (Or.inr (Or.inl e)))
  · exact Or.inr (Or.inr (Or.inr (Or.inr (Or.inl e))))
/-- The queues have changed. -/
theorem RefP.by_prio (h : RefP B w q M) (hB : B ≤ w.heap.size) {U' : Nat → Value} {Q' : Pr.Qs} (hF : Pr.QAt w' q 28 44 U' Q') (hW : Pr.Step q 28 M.U U' w w') : RefP B w' q { M with U := U', Q := Q' } ∧ RStep B q M.U U' w w' := by
  have hs : Still q 28 8 w w' := fun cs T hc => by
    obtain ⟨cs', h1, -⟩ := hF.block
    obtain ⟨cs0, h0⟩ := h.block
    rw [h0] at hc
    injection hc with e; injection e with e1 e2
    subst e1 e2
    have ec : ∀ j, j < 28 ∨ 28 + 8 ≤ j → cs'[j]? = cs0[j]? := fun j hj => by
      have := hW.still j hj
      rw [cell_at h1, cell_at h0] at this; exact this
    refine ⟨cs', h1, ?_, ec⟩
    rcases Nat.lt_trichotomy cs'.size cs0.size with hl | hl | hl
    · exfalso
      have h42 := h.used
      rw [cell_at h0] at h42
      have hz := (Array.getElem?_eq_some_iff.1 h42).1
      have e3 := ec (cs0.size - 1) (by omega)
      rw [Array.getElem?_eq_none (by omega), Array.getElem?_eq_getElem (by omega)] at e3
      cases e3
    · exact hl
    · exfalso
      have h42 := h.used
      rw [cell_at h0] at h42
      have hz := (Array.getElem?_eq_some_iff.1 h42).1
      have e3 := ec (cs'.size - 1) (by omega)
      rw [Array.getElem?_eq_getElem (by omega), Array.getElem?_eq_none (by omega)] at e3
      cases e3
  have nk : ∀ k, Pr.Foot q M.U k → k ≠ q → ∀ t, t ≠ 3 → ¬ Kind w k t := fun k hk hq t t1 ht => by
    rcases hk with e | ⟨i, hi, e⟩
    · exact hq e
    · exact t1 (ht.one (h.row_kind hi e))
  have nm : ∀ k, Pr.Foot q M.U k → ¬ IsMp w k := fun k hk hm => by
    rcases hk with e | ⟨i, hi, e⟩
    · exact h.kind.no_map (e ▸ hm)
    · exact (h.row_kind hi e).no_map hm
  obtain ⟨c1, c2, c3, c4, c5⟩ := h.cells hW.only hs (by omega)
  exact ⟨⟨fair_keep h.fair hW.only hs (by omega) (fun k hk hq => ⟨nk k hk hq _ (by decide), nk k hk hq _ (by decide)⟩), hF, dead_keep h.dead hW.only hs (by omega) (fun k hk hq => ⟨nk k hk hq _ (by decide), nk k hk hq _ (by decide)⟩), c1, c2, c3, c4, c5,
    h.mc.keep hW.only (fun e => nm _ e (nums_map h.mc)), h.mv.keep hW.only (fun e => nm _ e (nums_map h.mv)), h.mo.keep hW.only (fun e => nm _ e (off_map h.mo)), h.k1, h.k2, h.k3, h.low.1, h.low.2.1, h.low.2.2.1, fun k hk => (hW.grow k hk).elim (h.low.2.2.2 k) (fun e => Nat.le_trans hB e)⟩, ⟨hW.only.mono (fun k _ e => Or.inl e), hW.grow, fun k hk hkB => hW.only.block k hk (fun e => by have := h.low.2.2.2 k e; omega)⟩⟩

/-- A map's block has changed. -/
theorem RefP.map_set (h : RefP B w q M) {k : Nat} (hB : B ≤ k) (hm : IsMp w k) (hO : Only (· = k) w w') :
    Fr.RefAt B w' q 0 44 M.LF M.T Fr.noG M.W (fun _ => 0) ∧ Pr.QAt w' q 28 44 M.U M.Q ∧ De.RefAt B w' q 36 44 M.LD M.d M.n ∧ (w'.cell? ⟨q, 38, none⟩ = some (.map (some M.kc)) ∧ w'.cell? ⟨q, 39, none⟩ = some (.map (some M.kv)) ∧ w'.cell? ⟨q, 40, none⟩ = some (.map (some M.ko)) ∧ w'.cell? ⟨q, 41, none⟩ = some (.int .i64 M.now) ∧ w'.cell? ⟨q, 42, none⟩ = some (.int .i64 M.used)) ∧ RStep B q M.U M.U w w' := by
  have hq : q ≠ k := fun e => h.kind.no_map (e ▸ hm)
  have hs : Still q 0 0 w w' := Still.of hO h.lt hq
  exact ⟨fair_keep h.fair hO hs (by omega) (fun x hx _ => by subst hx; exact ⟨fun t => t.no_map hm, fun t => t.no_map hm⟩), prio_keep h.prio hO hs (by omega) (fun x hx _ i hi e => by subst hx; exact (h.row_kind hi e).no_map hm), dead_keep h.dead hO hs (by omega) (fun x hx _ => by subst hx; exact ⟨fun t => t.no_map hm, fun t => t.no_map hm⟩), h.cells hO hs (by omega),
    RStep.of_only hO (fun x _ hx => Or.inr (Or.inr (Or.inr (Or.inr (Or.inr (by subst hx; exact hm)))))) (fun x hx => by subst hx; exact hB)⟩
/-- All three maps have changed, or may have: the counts and what they tell. -/
theorem RefP.maps (h : RefP B w q M) {c : Nat} {C A : Int → Int} {f : Int → Bool} (hO : Only (fun k => k = M.kc ∨ k = M.kv ∨ k = M.ko) w w') (hc : NumsAt w' M.kc c C) (hv : NumsAt w' M.kv c A) (ho : OffAt w' M.ko c f) : RefP B w' q { M with c := c, C := C, A := A, f := f } ∧ RStep B q M.U M.U w w' := by
  have nm : ∀ k, (k = M.kc ∨ k = M.kv ∨ k = M.ko) → IsMp w k := fun k hk => by
    rcases hk with rfl | rfl | rfl
    · exact nums_map h.mc
    · exact nums_map h.mv
    · exact off_map h.mo
  have hq : ¬ (q = M.kc ∨ q = M.kv ∨ q = M.ko) := fun e => h.kind.no_map (nm q e)
  have hs : Still q 0 0 w w' := Still.of hO h.lt hq
  obtain ⟨c1, c2, c3, c4, c5⟩ := h.cells hO hs (by omega)
  exact ⟨⟨fair_keep h.fair hO hs (by omega) (fun x hx _ => ⟨fun t => t.no_map (nm x hx), fun t => t.no_map (nm x hx)⟩), prio_keep h.prio hO hs (by omega) (fun x hx _ i hi e => (h.row_kind hi e).no_map (nm x hx)), dead_keep h.dead hO hs (by omega) (fun x hx _ => ⟨fun t => t.no_map (nm x hx), fun t => t.no_map (nm x hx)⟩), c1, c2, c3, c4, c5, hc, hv, ho, h.k1, h.k2, h.k3, h.low⟩,
    RStep.of_only hO (fun x _ hx => Or.inr (Or.inr (Or.inr (Or.inr (Or.inr (nm x hx)))))) (fun x hx => by rcases hx with e | e | e <;> subst e <;> first | exact h.low.1 | exact h.low.2.1 | exact h.low.2.2.1)⟩

/-- One of the last two numbers has been stored. -/
theorem RefP.set_last (h : RefP B w q M) (i : Nat) (hi : i = 41 ∨ i = 42) (x : Int) : RefP B (w.setCell ⟨q, i, none⟩ (.int .i64 x)) q { M with now := if i = 41 then x else M.now, used := if i = 42 then x else M.used } ∧ RStep B q M.U M.U w (w.setCell ⟨q, i, none⟩ (.int .i64 x)) := by
  have hO : Only (fun k => k = q) w (w.setCell ⟨q, i, none⟩ (.int .i64 x)) := (Only.refl (fun k => k = q) w).setCell (p := ⟨q, i, none⟩) rfl _
  have hs : Still q i 1 w (w.setCell ⟨q, i, none⟩ (.int .i64 x)) := Still.set (fun cs T hc => ⟨cs, hc, rfl, fun _ _ => rfl⟩) (by omega) _
  obtain ⟨cs, hb⟩ := h.block
  have hz : 43 ≤ cs.size := by
    have := h.used
    rw [cell_at hb] at this
    have := (Array.getElem?_eq_some_iff.1 this).1
    omega
  have e := fun j (hj : j ≠ i) => hs.cell ⟨cs, _, hb⟩ (j := j) (by omega)
  have e0 : (w.setCell ⟨q, i, none⟩ (.int .i64 x)).cell? ⟨q, i, none⟩ = some (.int .i64 x) := by
    rw [cell_at (heap_setCell_same w q i cs _ _ hb), Array.getElem?_setIfInBounds, if_pos rfl, if_pos (by omega)]
  have nq : ∀ k, k = q → k ≠ q → False := fun _ a b => b a
  refine ⟨⟨fair_keep h.fair hO hs (by omega) (fun k a b => (b a).elim), prio_keep h.prio hO hs (by omega) (fun k a b => (b a).elim), dead_keep h.dead hO hs (by omega) (fun k a b => (b a).elim), (e _ (by omega)).trans h.pc, (e _ (by omega)).trans h.pv, (e _ (by omega)).trans h.po, ?_, ?_,
    h.mc.keep hO (fun a => h.kind.no_map (a ▸ nums_map h.mc)), h.mv.keep hO (fun a => h.kind.no_map (a ▸ nums_map h.mv)), h.mo.keep hO (fun a => h.kind.no_map (a ▸ off_map h.mo)), h.k1, h.k2, h.k3, h.low⟩, RStep.of_only hO (fun k _ hk => Or.inl (Or.inl hk)) (fun k hk => by subst hk; exact h.fair.from'.1)⟩
  · rcases hi with rfl | rfl
    · exact e0
    · exact (e 41 (by omega)).trans h.now
  · rcases hi with rfl | rfl
    · exact (e 42 (by omega)).trans h.used
    · exact e0
theorem RefP.later (h : RefP B w q M) (hO : Only (fun _ => False) w w') : RefP B w' q M := by
  have hs : Still q 0 0 w w' := Still.of hO h.lt id
  obtain ⟨c1, c2, c3, c4, c5⟩ := h.cells hO hs (by omega)
  exact ⟨h.fair.later hO, h.prio.later hO, h.dead.later hO, c1, c2, c3, c4, c5, h.mc.later hO, h.mv.later hO, h.mo.later hO, h.k1, h.k2, h.k3, h.low⟩

/-- Something else has changed: blocks of the program's types that are not the reference's. -/
theorem RefP.beside (h : RefP B w q M) (hO : Only R w w') (hR : ∀ k, R k → (Kind w k 74 ∨ Kind w k 3) ∧ ¬ Pr.Foot q M.U k) : RefP B w' q M := by
  have hq : ¬ R q := fun e => (hR q e).2 (Or.inl rfl)
  have hs : Still q 0 0 w w' := Still.of hO h.lt hq
  obtain ⟨c1, c2, c3, c4, c5⟩ := h.cells hO hs (by omega)
  have nk : ∀ k, R k → ∀ t, t ≠ 74 → t ≠ 3 → ¬ Kind w k t := fun k hk t t1 t2 ht => by
    rcases (hR k hk).1 with e | e
    · exact t1 (ht.one e)
    · exact t2 (ht.one e)
  have nm : ∀ k, R k → ¬ IsMp w k := fun k hk hm => by
    rcases (hR k hk).1 with e | e
    · exact e.no_map hm
    · exact e.no_map hm
  exact ⟨fair_keep h.fair hO hs (by omega) (fun k hk _ => ⟨nk k hk _ (by decide) (by decide), nk k hk _ (by decide) (by decide)⟩), prio_keep h.prio hO hs (by omega) (fun k hk _ i hi e => (hR k hk).2 (Or.inr ⟨i, hi, e⟩)), dead_keep h.dead hO hs (by omega) (fun k hk _ => ⟨nk k hk _ (by decide) (by decide), nk k hk _ (by decide) (by decide)⟩), c1, c2, c3, c4, c5,
    h.mc.keep hO (fun e => nm _ e (nums_map h.mc)), h.mv.keep hO (fun e => nm _ e (nums_map h.mv)), h.mo.keep hO (fun e => nm _ e (off_map h.mo)), h.k1, h.k2, h.k3, h.low⟩

/-- What is known behind a call of the reference's. -/
def RDid (B q : Nat) (U : Nat → Value) (M : RSt) (x : Value) (w : World) (e : Ending) (w' : World) : Prop := e = .returned x ∧ RefP B w' q M ∧ RStep B q U M.U w w'
end
end Go.Proofs.YtpincdcebhmnhaaGreat.Rk
/- The reference's Next. -/
namespace Go.Proofs.YtpincdcebhmnhaaGreat.Fr
open Go.ChangeShapes Go.WideShapes Go.ChangeAt Go.RowKit Go.Maps
open Go.Proofs.YtpincdcebhmnhaaGreat.Vt Go.Proofs.YtpincdcebhmnhaaGreat.Pt
set_option linter.unusedVariables false

theorem pick_group {T : Tks} {G : Grs} {k : Nat} (h0 : (T 0).r = false) (hz : (next T G).1 ≠ 0) (hk : k < 8) (hf : first T ((k : Int) + 1) ≠ 0) (hv : (G (k + 1)).v = (next T G).2) (hno : ∀ g : Nat, 1 ≤ g → g ≤ k → first T g ≠ 0 → (G g).v ≠ (next T G).2) : (next T G).1 = first T ((k : Int) + 1) := by
  have ek : ((k : Int) + 1) = ((k + 1 : Nat) : Int) := by omega
  rw [ek] at hf ⊢
  rcases ((next_spec (G := G) h0).2 hz).2.2 with ⟨g, h1, h2, h3, h4⟩ | ⟨h1, h2, h3⟩
  · rw [h3] at hv hno ⊢
    simp only at hv hno ⊢
    by_cases e : g = k + 1
    · subst e; rfl
    · by_cases l : g ≤ k
      · exact absurd rfl (hno g h1.1 l h2)
      · exact absurd hv (h4 (k + 1) (by omega) (by omega) hf)
  · rw [h2] at hv
    exact absurd hv (h3 (k + 1) (by omega) (by omega) hf)
theorem pick_solo {T : Tks} {G : Grs} (h0 : (T 0).r = false) (hz : (next T G).1 ≠ 0) (hno : ∀ g : Nat, 1 ≤ g → g ≤ 8 → first T g ≠ 0 → (G g).v ≠ (next T G).2) : first T 0 ≠ 0 ∧ (next T G).1 = first T 0 := by
  rcases ((next_spec (G := G) h0).2 hz).2.2 with ⟨g, h1, h2, h3, h4⟩ | ⟨h1, h2, h3⟩
  · rw [h3] at hno
    exact absurd rfl (hno g h1.1 h1.2 h2)
  · rw [h2]; exact ⟨h1, rfl⟩

/-- What the reference's Next answers. -/
def NextAns (w : World) (L : List (Nat × Nat)) (n : Nat) (e : Ending) (w' : World) : Prop :=
  ((n = 0 ∧ e = .returned (.pointer none)) ∨ (n ≠ 0 ∧ ∃ b, (b, n) ∈ L ∧ e = .returned (pt b))) ∧ Only (fun _ => False) w w'

set_option maxRecDepth 100000 in
set_option maxHeartbeats 1000000 in
theorem nextr_any {B : Nat} {w : World} {q o D : Nat} {L : List (Nat × Nat)} {T : Tks} {G : Grs} {W GW : Nat → Int} (h : RefAt B w q o D L T G W GW) (hs : Same L T G W GW) (h0 : (T 0).r = false) (hrc : ∀ t, t < 17 → (T t).r = true → (T t).c ≠ 0) :
    Calls Tryz.prog 49 #[.pointer (some ⟨q, o, none⟩)] w (NextAns w L (next T G).1) := by
  have H := Lib.hid h
  have HS := Lib.hid (⟨hs, h0, hrc⟩ : Same L T G W GW ∧ (T 0).r = false ∧ ∀ t, t < 17 → (T t).r = true → (T t).c ≠ 0)
  have ct := Lib.hid (topsr_any h hs h0 hrc)
  clear h hs h0 hrc
  by_cases hz : (next T G).1 = 0
  · have HZ := Lib.hid hz
    clear hz
    go_enter Tryz.func49, Tryz.ntmps49
    go_wp2_with (go_at_call 62; (with_reducible refine ct.out.mono ?_); rintro e w1 ⟨a, n, c, U, rfl, hU, hn, hN, hT, hO⟩; have hn0 : ((n : Int) == 0) = true := (by have := (tops_empty HS.out.2.1 hT).2 HZ.out; rw [this] at hU; simp at hU; simp; omega); have HO := Lib.hid hO; clear hU hN hT hO)
    go_ret
    exact ⟨Or.inl ⟨HZ.out, rfl⟩, HO.out⟩
  · have HZ := Lib.hid hz
    obtain ⟨m, hm⟩ : ∃ m, (next T G).2 = m := ⟨_, rfl⟩
    have HM := Lib.hid hm
    clear hz hm
    go_enter Tryz.func49, Tryz.ntmps49
    go_wp2_with (first
      | (go_at_call 62; (with_reducible refine ct.out.mono ?_); rintro e w1 ⟨a, n, c, U, rfl, hU, hn, hN, hT, hO⟩; have hn1 : 1 ≤ n := (by have h1 : U ≠ [] := fun e => HZ.out ((tops_empty HS.out.2.1 hT).1 e); have := List.length_pos_iff.2 h1; omega); have hn0 : ((n : Int) == 0) = false := (by simp; omega); have HO := Lib.hid hO; have cm := min_any a n c U w1 hN hU hn1 (by omega); rw [show leastTo U (n - 1) = m from (by have hls := leastTo_spec U (n - 1) (by omega); rw [tops_least HS.out.2.1 hT hls.1 (fun x hx => by obtain ⟨i, hi, e⟩ := List.getElem_of_mem hx; have := hls.2 i (by omega); rw [← e]; simpa [List.getD, hi] using this)]; exact HM.out)] at cm; have CM := Lib.hid cm; clear hU hN hT hO cm)
      | (go_at_call 64; (with_reducible refine CM.out.mono ?_); rintro e w' ⟨rfl, rfl⟩))
    clear ct CM
    go_loopw [5] (fun i wr => ∃ k : Nat, k ≤ 8 ∧ i = .int .i64 ((k : Int) + 1) ∧ (∀ g : Nat, 1 ≤ g → g ≤ k → first T g ≠ 0 → (G g).v ≠ m) ∧ Only (fun _ => False) w wr) (fun i _ => 9 - (intOf i).toNat)
    case atStart => exact ⟨0, by omega, rfl, fun g h1 h2 => by omega, HO.out⟩
    case round =>
      obtain ⟨k, hk, rfl, hno, hO⟩ := hrel
      have HNO := Lib.hid hno
      have HO2 := Lib.hid hO
      clear hno hO
      by_cases hlt : k < 8
      · have co := Lib.hid (ofh_any (H.out.later HO2.out) HS.out.1 HS.out.2.1 HS.out.2.2 ((k : Int) + 1))
        have g1 : (k : Int) + 1 < 9 := by omega
        by_cases hf : first T ((k : Int) + 1) = 0
        · have HF := Lib.hid hf
          clear hf
          go_wp2_with (go_at_call 63; (with_reducible refine co.out.mono ?_); rintro e w2 ⟨a2, n2, c2, K, rfl, hK, hc1, hc2, hn16, hrow, hmem, hz, hnz, hO1⟩; have HO1 := Lib.hid (HO2.out.trans hO1 (fun _ _ h => h)); have hn0 : ¬ (0 : Int) < n2 := (by intro h; exact (hnz (by omega)).1 HF.out); clear hK hrow hmem hz hnz hO1)
          go_roundw
          case rel =>
            refine ⟨k + 1, by omega, by go_num, fun g h1 h2 h3 => ?_, HO1.out⟩
            by_cases e : g = k + 1
            · subst e; exact absurd HF.out h3
            · exact HNO.out g h1 (by omega) h3
          case measure => simp [intOf]; omega
        · have HF := Lib.hid hf
          by_cases hv : (G (k + 1)).v = m
          · have HP := Lib.hid (pick_group HS.out.2.1 HZ.out hlt hf (by rw [hv, HM.out]) (fun g h1 h2 h3 => by rw [HM.out]; exact HNO.out g h1 h2 h3))
            have hv2 : ((G (k + 1)).v == m) = true := by simp [hv]
            clear hf hv
            go_wp2_with (go_at_call 63; (with_reducible refine co.out.mono ?_); rintro e w2 ⟨a2, n2, c2, K, rfl, hK, hc1, hc2, hn16, hrow, hmem, hz, hnz, hO1⟩; have HO1 := Lib.hid (HO2.out.trans hO1 (fun _ _ h => h)); have hn0 : (0 : Int) < n2 := (by have : n2 ≠ 0 := fun h => HF.out (hz h); omega); have dv := (H.out.later HO1.out).gv (k + 1) (by omega); have hkn := (hnz (by omega)).2; obtain ⟨gk, rfl, -, -, d0⟩ := row_at hrow (j := 0) (by omega); have HKN := Lib.hid hkn; generalize K.getD 0 0 = b0 at *; unfold pt at d0; clear hkn hK hrow hmem hz hnz hO1)
            go_ret
            exact ⟨Or.inr ⟨HZ.out, _, by rw [HP.out]; exact HKN.out, rfl⟩, HO1.out⟩
          · have hv2 : ((G (k + 1)).v == m) = false := by simp [hv]
            have HV := Lib.hid hv
            clear hf hv
            go_wp2_with (go_at_call 63; (with_reducible refine co.out.mono ?_); rintro e w2 ⟨a2, n2, c2, K, rfl, hK, hc1, hc2, hn16, hrow, hmem, hz, hnz, hO1⟩; have HO1 := Lib.hid (HO2.out.trans hO1 (fun _ _ h => h)); have hn0 : (0 : Int) < n2 := (by have : n2 ≠ 0 := fun h => HF.out (hz h); omega); have dv := (H.out.later HO1.out).gv (k + 1) (by omega); clear hK hrow hmem hz hnz hO1)
            go_roundw
            case rel =>
              refine ⟨k + 1, by omega, by go_num, fun g h1 h2 h3 => ?_, HO1.out⟩
              by_cases e : g = k + 1
              · subst e; exact HV.out
              · exact HNO.out g h1 (by omega) h3
            case measure => simp [intOf]; omega
      · obtain rfl : k = 8 := by omega
        have co := Lib.hid (ofh_any (H.out.later HO2.out) HS.out.1 HS.out.2.1 HS.out.2.2 0)
        have HP := Lib.hid (pick_solo HS.out.2.1 HZ.out (fun g h1 h2 h3 => by rw [HM.out]; exact HNO.out g h1 h2 h3))
        go_wp2_with (go_at_call 63; (with_reducible refine co.out.mono ?_); rintro e w2 ⟨a2, n2, c2, K, rfl, hK, hc1, hc2, hn16, hrow, hmem, hz, hnz, hO1⟩; have HO1 := Lib.hid (HO2.out.trans hO1 (fun _ _ h => h)); have hn0 : (0 : Int) < n2 := (by have : n2 ≠ 0 := fun h => HP.out.1 (hz h); omega); have hkn := (hnz (by omega)).2; obtain ⟨gk, rfl, -, -, d0⟩ := row_at hrow (j := 0) (by omega); have HKN := Lib.hid hkn; generalize K.getD 0 0 = b0 at *; unfold pt at d0; clear hkn hK hrow hmem hz hnz hO1)
        go_ret
        exact ⟨Or.inr ⟨HZ.out, _, by rw [HP.out.2]; exact HKN.out, rfl⟩, HO1.out⟩
end Go.Proofs.YtpincdcebhmnhaaGreat.Fr
