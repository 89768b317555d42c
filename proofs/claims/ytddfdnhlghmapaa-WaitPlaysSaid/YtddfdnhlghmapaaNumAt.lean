/- A map from numbers to numbers of a call's own; an entry stored by a tuple's assignment. -/
import Derived.Test.YtddfdnhlghmapaaOffAt
import Derived.WideKeyEntry
namespace Go.Proofs.Ytddfdnhlghmapaa.Of
open Go.ChangeShapes Go.WideShapes Go.ChangeAt Go.RowKit Go.Maps
set_option linter.unusedVariables false
set_option maxRecDepth 100000

/-- A map told of by another block's name. -/
def ival (x : Int) : DataW Unit := .lit (.int .i64 x)
theorem zero_int (w : World) : (zeroValue 3).run Try.prog w = .ok (.int .i64 0) w := by kernel_rfl
theorem plain_int_inv {v : Value} {z : DataW Unit × List MemPlace} (h : plainElem Try.prog 3 v = some z) : ∃ b, v = .int .i64 b ∧ z = (ival b, []) := by
  obtain ⟨a, h1, h2, -⟩ := plainElem_int_inv Try.underlying3 h
  exact ⟨a, h1, h2⟩
/-- A map in block b, of at most n entries, of ints, that tells f. -/
def NumsAt (w : World) (b n : Nat) (f : Int → Int) : Prop := ∃ D : DataW Unit, w.ownsMap Try.prog 3 (plainElem Try.prog 3) b n D ∧ IsMap D ∧ ∀ t, D.atKey (bkey t) (ival 0) = ival (f t)

section
variable {w w' : World} {b n : Nat} {f : Int → Int}
theorem NumsAt.keep {S : Nat → Prop} (h : NumsAt w b n f) (hO : Only S w w') (hS : ¬ S b) : NumsAt w' b n f := by
  obtain ⟨D, ⟨es, clock, h1, h2⟩, h3⟩ := h
  exact ⟨D, ⟨es, clock, (hO.block _ (block_there h1) hS).trans h1, h2⟩, h3⟩
theorem NumsAt.later (h : NumsAt w b n f) (hO : Only (fun _ => False) w w') : NumsAt w' b n f := h.keep hO id
theorem NumsAt.lt (h : NumsAt w b n f) : b < w.heap.size := by obtain ⟨D, ⟨es, clock, h1, h2⟩, h3⟩ := h; exact block_there h1
theorem NumsAt.made (w : World) : NumsAt (w.alloc (.map #[] 0)) w.heap.size 0 (fun _ => 0) := ⟨_, World.ownsMap_made w _ _ _, isMap_empty, fun t => rfl⟩
theorem NumsAt.mono (h : NumsAt w b n f) {m : Nat} (hm : n ≤ m) : NumsAt w b m f := by obtain ⟨D, h1, h2⟩ := h; exact ⟨D, h1.mono hm, h2⟩

theorem NumsAt.look (h : NumsAt w b n f) (t : Int) (ht : (Lit.int .i64 t).wf = true) : (Instr.lookup 30 (.map (some b)) (.int .i64 t) false).run Try.prog w = .ok (.int .i64 (f t)) w := by
  obtain ⟨D, h1, h2, h3⟩ := h
  obtain ⟨v, ps, hrun, hv⟩ := h1.lookup keyed_int Try.underlying30 (zero_int w) (plainElem_int Try.underlying3 (by decide)) (keyOf_int_mk Try.underlying3 ht)
  obtain ⟨c, rfl, hc⟩ := plain_int_inv hv
  have := h3 t
  unfold bkey ival at *
  rw [Prod.mk.injEq] at hc
  rw [this] at hc
  have e : f t = c := by have := hc.1; cases this; rfl
  rw [e]
  exact hrun
end


/-- A number told anew. -/
def updN (f : Int → Int) (t : Int) (c : Int) : Int → Int := fun x => if x = t then c else f x

open Go.WideElems Go.ChangeMaps Go.MapKept in
/-- An entry asked for, and stored later: as one update. -/
theorem entry_store {P : Program} {t k e : TypeId} {R : Value → Option (DataW Unit × List MemPlace)} {w : World} {b : Nat} {es : Array MapEntry} {clock : Nat} (K : Keyed P k) (ht : P.underlying t = some (.map k e)) {z : Value} (hz : ∀ u : World, (zeroValue e).run P u = .ok z u)
    (hb : w.heap[b]? = some (.map es clock)) (F : Fit P k R es clock) {key : Value} {kl : Lit} (hkey : keyOf P k key = some kl) :
    ∃ (v0 : Value) (st : Nat) (o1 : Obj), (Instr.mapEntry t (.map (some b)) key).run P w = .ok (.tuple #[v0, goInt st]) (setBlock w b o1) ∧ (∃ es1 c1, o1 = .map es1 c1) ∧
      ∀ (w2 : World) (val : Value), w2.heap[b]? = some o1 → ∃ o2 : Obj, (Instr.entryStore t (.map (some b)) (goInt st) val).run P w2 = .ok () (setBlock w2 b o2) ∧ (Instr.mapUpdate t (.map (some b)) key val).run P w = .ok () (setBlock w b o2) := by
  have S1 := F.stamped.1
  have S2 := F.stamped.2.1
  rcases K.find w hkey es.toList F.keys with ⟨no, -⟩ | ⟨j, x, at1, at2, at3⟩
  · refine ⟨z, clock, .map (es.push ⟨key, z, clock⟩) (clock + 1), by simp [Instr.mapEntry, run_underlying ht, MapKept.run_getObj_map hb, K.check w false hkey, no, hz, MapKept.run_setObj_map _ hb, Result.andThen, setBlock], ⟨_, _, rfl⟩, fun w2 val h2 => ⟨.map (es.push ⟨key, val, clock⟩) (clock + 1), ?_, ?_⟩⟩
    · have pos : (es.push ⟨key, z, clock⟩).findIdx? (fun e => ((e.born : Nat) : Int) == ((clock : Nat) : Int)) = some es.size := by
        rw [findIdx_arr]
        refine findIdx_born (l := (es.push ⟨key, z, clock⟩).toList) (j := es.size) (e0 := ⟨key, z, clock⟩) ?_ (by simp)
        rw [Array.toList_push, List.map_append, List.nodup_append]
        refine ⟨S2, by simp, fun y hy c hc he => ?_⟩
        have hc' : c = clock := by simpa using hc
        obtain ⟨x, hx, rfl⟩ := List.mem_map.1 hy
        have := S1 x hx
        omega
      have new : (es.push ⟨key, z, clock⟩).modify es.size (fun e => { e with val := val }) = es.push ⟨key, val, clock⟩ := by
        apply Array.ext'
        rw [Array.toList_modify, Array.toList_push, Array.toList_push, ← Array.length_toList, modify_last]
      simp [Instr.entryStore, MapKept.run_getObj_map h2, asInt, asIntOf, goInt, pos, new, MapKept.run_setObj_map _ h2, Result.andThen, setBlock]
    · simp [Instr.mapUpdate, run_underlying ht, MapKept.run_getObj_map hb, K.check w false hkey, no, MapKept.run_setObj_map _ hb, Result.andThen, setBlock]
  · have pos : es[j]? = some x := by simpa using at2
    have self : es.modify j (fun e => { e with key := key }) = es := by
      apply Array.ext'
      rw [Array.toList_modify, modify_eq_set _ _ _ _ at2, show ({ x with key := key } : MapEntry) = x by rw [← at3]]
      exact set_self _ _ _ at2
    refine ⟨x.val, x.born, .map es clock, by simp [Instr.mapEntry, run_underlying ht, MapKept.run_getObj_map hb, K.check w false hkey, at1, pos, at3, K.stays w hkey, self, MapKept.run_setObj_map _ hb, Result.andThen, setBlock], ⟨_, _, rfl⟩, fun w2 val h2 => ⟨.map (es.modify j (fun e' => { e' with key := key, val := val })) clock, ?_, ?_⟩⟩
    · have at4 : es.findIdx? (fun e => ((e.born : Nat) : Int) == ((x.born : Nat) : Int)) = some j := by
        rw [findIdx_arr]
        exact findIdx_born S2 at2
      have new : es.modify j (fun e => { e with val := val }) = es.modify j (fun e' => { e' with key := key, val := val }) := by
        apply Array.ext'
        rw [Array.toList_modify, Array.toList_modify, modify_eq_set _ _ _ _ at2, modify_eq_set _ _ _ _ at2, ← at3]
      simp [Instr.entryStore, MapKept.run_getObj_map h2, asInt, asIntOf, goInt, at4, new, MapKept.run_setObj_map _ h2, Result.andThen, setBlock]
    · simp [Instr.mapUpdate, run_underlying ht, MapKept.run_getObj_map hb, K.check w false hkey, at1, pos, at3, K.stays w hkey, MapKept.run_setObj_map _ hb, Result.andThen, setBlock]

open Go.ChangeMaps in
theorem block_twice (w : World) (b : Nat) (o o' : Obj) : setBlock (setBlock w b o) b o' = setBlock w b o' := by
  unfold setBlock
  simp [Array.setIfInBounds_setIfInBounds]

open Go.WideElems Go.ChangeMaps Go.MapKept in
/-- At the three operations of a tuple's assignment to a map's entry. -/
theorem wpList_entry {P : Program} {w : World} {ops : Array Oper} {rest : List Oper} {o1 o2 o3 : Oper} {a : Act} {Q : Exit → Act → World → Prop} (g1 : o1.guard = none) (g2 : o2.guard = none) (g3 : o3.guard = none) (m x u s v : Operand) {t k e : TypeId}
    (h1 : o1.op = .mapEntry t m x) (h2 : o2.op = .extract u 1) (h3 : o3.op = .entryStore t m s v) (K : Keyed P k) (ht : P.underlying t = some (.map k e)) {z : Value} (hz : ∀ u : World, (zeroValue e).run P u = .ok z u)
    (R : Value → Option (DataW Unit × List MemPlace)) (b n : Nat) (D : DataW Unit) (hm : a.eval m = .map (some b)) (hown : w.ownsMap P k R b n D) (hn : n < maxLen) (key val : Value) (kl : Lit) (hx : a.eval x = key) (hkey : keyOf P k key = some kl)
    (d : DataW Unit) (ps : List MemPlace) (hval : R val = some (d, ps))
    (hu : ∀ y, (a.put o1.dst y).eval u = y) (he : ∀ y y', ((a.put o1.dst y).put o2.dst y').eval m = .map (some b) ∧ ((a.put o1.dst y).put o2.dst y').eval s = y' ∧ ((a.put o1.dst y).put o2.dst y').eval v = val)
    (hK : ∀ y y' w', w'.ownsMap P k R b (n + 1) (D.put kl d) → w.mapTurned w' b → wpList P ops Q rest (((a.put o1.dst y).put o2.dst y').put o3.dst undef) w') :
    wpList P ops Q (o1 :: o2 :: o3 :: rest) a w := by
  obtain ⟨es, clock, hb, F, hs, hD⟩ := id hown
  obtain ⟨v0, st, ob, r1, ⟨es1, c1, rfl⟩, r2⟩ := entry_store K ht hz hb F hkey
  obtain ⟨w', r3, r4, r5⟩ := hown.store K ht hn hkey hval
  have hb1 : (setBlock w b (.map es1 c1)).heap[b]? = some (.map es1 c1) := heap_setBlock_same hb _
  obtain ⟨o2', q1, q2⟩ := r2 (setBlock w b (.map es1 c1)) val hb1
  rw [r3] at q2
  have ew : w' = setBlock w b o2' := by injection q2
  rw [block_twice, ← ew] at q1
  refine wpList_plain g1 fun K1 hK1 => ?_
  unfold Oper.wp
  simp only [execOp, h1, hm, hx, r1, Sem.run_bind, Sem.run_pure, Result.andThen_ok]
  refine hK1 _ _ ?_
  refine wpList_plain g2 fun K2 hK2 => ?_
  unfold Oper.wp
  simp only [execOp, h2, hu, Sem.run_bind, Sem.run_pure]
  refine hK2 ((a.put o1.dst (.tuple #[v0, goInt st])).put o2.dst (goInt st)) _ ?_
  refine wpList_plain g3 fun K3 hK3 => ?_
  obtain ⟨e1, e2, e3⟩ := he (.tuple #[v0, goInt st]) (goInt st)
  unfold Oper.wp
  simp only [execOp, h3, e1, e2, e3, q1, Sem.run_bind, Sem.run_pure, Result.andThen_ok]
  exact hK3 _ _ (hK _ _ _ r4 r5)

theorem NumsAt.put {w' : World} {b n : Nat} {f : Int → Int} {D : DataW Unit} (h2 : IsMap D) (h3 : ∀ t, D.atKey (bkey t) (ival 0) = ival (f t)) (t c : Int) (h1 : w'.ownsMap Try.prog 3 (plainElem Try.prog 3) b n (D.put (bkey t) (ival c))) : NumsAt w' b n (updN f t c) := by
  refine ⟨_, h1, h2.put _ _, fun y => ?_⟩
  unfold updN
  by_cases e : y = t
  · subst e; rw [if_pos rfl]; exact atKey_put_same h2 (bkey_lit y) _ _
  · rw [if_neg e, ← h3 y]; exact atKey_put_other (bkey_ne e) _ _
theorem OffAt.put {w' : World} {b n : Nat} {f : Int → Bool} {D : DataW Unit} (h2 : IsMap D) (h3 : ∀ t, D.atKey (bkey t) (bval false) = bval (f t)) (t : Int) (c : Bool) (h1 : w'.ownsMap Try.prog 3 (plainElem Try.prog 4) b n (D.put (bkey t) (bval c))) : OffAt w' b n (updI f t c) := by
  refine ⟨_, h1, h2.put _ _, fun y => ?_⟩
  unfold updI
  by_cases e : y = t
  · subst e; rw [if_pos rfl]; exact atKey_put_same h2 (bkey_lit y) _ _
  · rw [if_neg e, ← h3 y]; exact atKey_put_other (bkey_ne e) _ _

section
variable {w : World} {ops : Array Oper} {rest : List Oper} {a : Act} {Q : Exit → Act → World → Prop}
/-- A number told anew in a map of numbers. -/
theorem wpList_num {o : Oper} (hg : o.guard = none) (m x v : Operand) (hop : o.op = Op.mapUpdate 30 m x v)
    (b n : Nat) (f : Int → Int) (hm : a.eval m = .map (some b)) (h : NumsAt w b n f) (hn : n < 9000000000000000000) (t c : Int) (hx : a.eval x = .int .i64 t) (hv : a.eval v = .int .i64 c) (ht : (Lit.int .i64 t).wf = true) (hc : (Lit.int .i64 c).wf = true)
    (hK : ∀ w', NumsAt w' b (n + 1) (updN f t c) → Only (· = b) w w' → wpList Try.prog ops Q rest (a.put o.dst undef) w') : wpList Try.prog ops Q (o :: rest) a w := by
  obtain ⟨D, h1, h2, h3⟩ := h
  exact wpList_mapUpdate_in w hg m x v 30 hop 3 3 keyed_int Try.underlying30 _ b n D hm h1 (by unfold maxLen; omega) _ _ _ hx hv (keyOf_int_mk Try.underlying3 ht) _ [] (plainElem_int Try.underlying3 hc) (fun w' hown hturn => hK w' (NumsAt.put h2 h3 t c hown) (only_turned hturn))
/-- The same by a tuple's assignment. -/
theorem wpList_num3 {o1 o2 o3 : Oper} (g1 : o1.guard = none) (g2 : o2.guard = none) (g3 : o3.guard = none) (m x u s v : Operand) (h1 : o1.op = .mapEntry 30 m x) (h2 : o2.op = .extract u 1) (h3 : o3.op = .entryStore 30 m s v)
    (b n : Nat) (f : Int → Int) (hm : a.eval m = .map (some b)) (h : NumsAt w b n f) (hn : n < 9000000000000000000) (t c : Int) (hx : a.eval x = .int .i64 t) (ht : (Lit.int .i64 t).wf = true) (hc : (Lit.int .i64 c).wf = true)
    (hu : ∀ y, (a.put o1.dst y).eval u = y) (he : ∀ y y', ((a.put o1.dst y).put o2.dst y').eval m = .map (some b) ∧ ((a.put o1.dst y).put o2.dst y').eval s = y' ∧ ((a.put o1.dst y).put o2.dst y').eval v = .int .i64 c)
    (hK : ∀ y y' w', NumsAt w' b (n + 1) (updN f t c) → Only (· = b) w w' → wpList Try.prog ops Q rest (((a.put o1.dst y).put o2.dst y').put o3.dst undef) w') : wpList Try.prog ops Q (o1 :: o2 :: o3 :: rest) a w := by
  obtain ⟨D, q1, q2, q3⟩ := h
  exact wpList_entry g1 g2 g3 m x u s v h1 h2 h3 keyed_int Try.underlying30 zero_int _ b n D hm q1 (by unfold maxLen; omega) _ _ _ hx (keyOf_int_mk Try.underlying3 ht) _ [] (plainElem_int Try.underlying3 hc) hu he (fun y y' w' hown hturn => hK y y' w' (NumsAt.put q2 q3 t c hown) (only_turned hturn))
end
end Go.Proofs.Ytddfdnhlghmapaa.Of
