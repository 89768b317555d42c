/- A heap, and a map that tells each id's key. -/
import Derived.Test.YtonlhcebnbdjjaaTwo
import Derived.Test.YtonlhcebnbdjjaaArgs
import Derived.Maps.RangeWalk
import Derived.Deep.CutBlock
namespace Go.Proofs.Ytonlhcebnbdjjaa
open Go.ChangeShapes Go.WideShapes Go.ChangeAt Go.RowKit Go.Maps
set_option linter.unusedVariables false

/-- A map literal's entry: stored as any other. -/
theorem wpList_insert_in {H : Type} {P : Program} (w : World) {ops : Array Oper} {rest : List Oper} {o : Oper} {a : Act} {Q : Exit → Act → World → Prop} (hg : o.guard = none) (m x v : Operand) (t : TypeId) (hop : o.op = Op.insert t m x v)
    (k e : TypeId) (K : Keyed P k) (ht : P.underlying t = some (.map k e)) (R : Value → Option (DataW H × List MemPlace)) (b n : Nat) (D : DataW H)
    (hm : a.eval m = .map (some b)) (hown : w.ownsMap P k R b n D) (hn : n < maxLen) (key val : Value) (kl : Lit) (hx : a.eval x = key) (hv : a.eval v = val) (hkey : keyOf P k key = some kl)
    (d : DataW H) (ps : List MemPlace) (hval : R val = some (d, ps))
    (hK : ∀ w', w'.ownsMap P k R b (n + 1) (D.put kl d) → w.mapTurned w' b → wpList P ops Q rest (a.put o.dst undef) w') :
    wpList P ops Q (o :: rest) a w := by
  refine wpList_plain hg fun K' hK' => ?_
  obtain ⟨w', hrun, r1, r2⟩ := hown.store K ht hn hkey hval
  unfold Oper.wp
  simp [execOp, hop, hm, hx, hv, hrun, Result.andThen]
  exact hK' _ _ (hK w' r1 r2)

/-- The map tells each item's key, and knows no other id. -/
structure Told (D : DataW Unit) (S : List (Int × Int)) : Prop where
  tidy : Tidy D
  size : Maps.size D = S.length
  there : ∀ x ∈ S, Maps.has D (key x.1) = true ∧ ∀ z, D.atKey (key x.1) z = spot x.2
  only : ∀ id, Maps.has D (key id) = true → ∃ x ∈ S, x.1 = id

section
variable {D : DataW Unit} {S : List (Int × Int)} {id k : Int}
theorem told_nil : Told (.map []) [] := ⟨tidy_empty, rfl, fun x hx => absurd hx (by simp), fun id h => by simp [has_eq] at h⟩

theorem told_has (h : Told D S) (hno : ∀ x ∈ S, x.1 ≠ id) : Maps.has D (key id) = false := by
  rcases Bool.eq_false_or_eq_true (Maps.has D (key id)) with hx | hx
  · obtain ⟨x, hm, he⟩ := h.only id hx
    exact absurd he (hno x hm)
  · exact hx

theorem told_push (h : Told D S) (hno : ∀ x ∈ S, x.1 ≠ id) : Told (D.put (key id) (spot k)) (S ++ [(id, k)]) := by
  refine ⟨h.tidy.put (key_lit _) _, ?_, fun x hx => ?_, fun y hy => ?_⟩
  · rw [size_put h.tidy, told_has h hno]; simp [h.size]
  · rcases List.mem_append.1 hx with hx | hx
    · rw [has_put_other (key_ne (hno x hx))]
      exact ⟨(h.there x hx).1, fun z => by rw [atKey_put_other (key_ne (hno x hx))]; exact (h.there x hx).2 z⟩
    · simp only [List.mem_singleton] at hx
      subst hx
      exact ⟨has_put_same h.tidy.isMap (key_lit _) _, fun z => atKey_put_same h.tidy.isMap (key_lit _) _ z⟩
  · by_cases e : y = id
    · subst e; exact ⟨(y, k), by simp, rfl⟩
    · rw [has_put_other (key_ne e)] at hy
      obtain ⟨x, hx, he⟩ := h.only y hy
      exact ⟨x, List.mem_append_left _ hx, he⟩

theorem told_turn (h : Told D S) {x0 : Int × Int} (hx0 : x0 ∈ S) : Told (D.put (key x0.1) (spot k)) (rekey S x0.1 k) := by
  refine ⟨h.tidy.put (key_lit _) _, ?_, fun x hx => ?_, fun y hy => ?_⟩
  · rw [size_put h.tidy, if_pos (h.there x0 hx0).1, h.size]; simp [rekey]
  · obtain ⟨y, hy, rfl⟩ := List.mem_map.1 hx
    by_cases e : y.1 = x0.1
    · rw [if_pos e]
      exact ⟨has_put_same h.tidy.isMap (key_lit _) _, fun z => atKey_put_same h.tidy.isMap (key_lit _) _ z⟩
    · rw [if_neg e, has_put_other (key_ne e)]
      exact ⟨(h.there y hy).1, fun z => by rw [atKey_put_other (key_ne e)]; exact (h.there y hy).2 z⟩
  · by_cases e : y = x0.1
    · exact ⟨(x0.1, k), List.mem_map.2 ⟨x0, hx0, by simp⟩, e.symm⟩
    · rw [has_put_other (key_ne e)] at hy
      obtain ⟨x, hx, he⟩ := h.only y hy
      exact ⟨x, List.mem_map.2 ⟨x, hx, by rw [if_neg (by rw [he]; exact e)]⟩, he⟩

theorem told_out (h : Told D S) (hS : Ids S) {x0 : Int × Int} (hx0 : x0 ∈ S) : Told (D.del (key x0.1)) (without S x0.1) := by
  refine ⟨h.tidy.del _, ?_, fun x hx => ?_, fun y hy => ?_⟩
  · have h1 := size_del (k := key x0.1) h.tidy
    rw [if_pos (h.there x0 hx0).1, h.size] at h1
    have h2 := without_len hS hx0
    omega
  · have hne := without_no S x0.1 x hx
    have hm := (List.mem_filter.1 hx).1
    rw [has_del_other (key_ne hne)]
    exact ⟨(h.there x hm).1, fun z => by rw [atKey_del_other (key_ne hne)]; exact (h.there x hm).2 z⟩
  · by_cases e : y = x0.1
    · subst e; rw [has_del_same] at hy; cases hy
    · rw [has_del_other (key_ne e)] at hy
      obtain ⟨x, hx, he⟩ := h.only y hy
      exact ⟨x, List.mem_filter.2 ⟨hx, by simp; rw [he]; exact e⟩, he⟩
end

theorem Told.perm {D : DataW Unit} {S T : List (Int × Int)} (h : Told D S) (p : S.Perm T) : Told D T :=
  ⟨h.tidy, by rw [h.size, p.length_eq], fun x hx => h.there x (p.mem_iff.2 hx), fun id hid => by
    obtain ⟨x, hx, he⟩ := h.only id hid
    exact ⟨x, p.mem_iff.1 hx, he⟩⟩

/-- A heap with the items Sh, and a map that tells the items Sm, in blocks from B on that have nothing to do with each other. -/
def Ledger (B : Nat) (w : World) (p bm : Nat) (Sh Sm : List (Int × Int)) : Prop :=
  ∃ (M : Nat → Prop) (D : DataW Unit), HeapAt M w p Sh ∧ w.ownsMap Try.prog 3 (plainElem Try.prog 3) bm Sm.length D ∧ Told D Sm ∧ ¬ M bm ∧ B ≤ bm ∧ ∀ k, M k → B ≤ k

def LAns (B : Nat) (w : World) (p bm : Nat) (v : Value) (Sh Sm : List (Int × Int)) (e : Ending) (w' : World) : Prop :=
  e = .returned v ∧ Ledger B w' p bm Sh Sm ∧ Below B w w'

section
variable {B : Nat} {w w' : World} {p bm : Nat} {Sh Sm : List (Int × Int)}

theorem own_kept {N : Nat → Prop} {b n : Nat} {D : DataW Unit} (h : w.ownsMap Try.prog 3 (plainElem Try.prog 3) b n D) (hO : Only N w w') (hN : ¬ N b) : w'.ownsMap Try.prog 3 (plainElem Try.prog 3) b n D := by
  obtain ⟨es, clock, h1, h2⟩ := h
  exact ⟨es, clock, (hO.block _ (block_there h1) hN).trans h1, h2⟩

theorem Ledger.low (h : Ledger B w p bm Sh Sm) : B ≤ w.heap.size := by
  obtain ⟨M, D, h1, ⟨es, clock, h2, -⟩, h3, h4, h5, h6⟩ := h
  have := block_there h2; omega

theorem Ledger.later (h : Ledger B w p bm Sh Sm) (hO : Only (fun _ => False) w w') : Ledger B w' p bm Sh Sm := by
  obtain ⟨M, D, h1, h2, h3⟩ := h
  exact ⟨M, D, h1.later hO, own_kept h2 hO (fun e => e), h3⟩

theorem ledger_heap {f : Nat} {args : Array Value} {v : Value} {Sh' : List (Int × Int)} (h : Ledger B w p bm Sh Sm) (hc : ∀ M, HeapAt M w p Sh → Calls Try.prog f args w (HAns M w p v Sh')) :
    Calls Try.prog f args w (LAns B w p bm v Sh' Sm) := by
  have hB := h.low
  obtain ⟨M, D, h1, h2, h3, h4, h5, h6⟩ := h
  refine (hc M h1).mono ?_
  rintro e w' ⟨rfl, ha, hO⟩
  refine ⟨rfl, ⟨_, D, ha, own_kept h2 hO h4, h3, ?_, h5, ?_⟩, hO.below hB h6⟩
  · rintro (e | e)
    · exact h4 e
    · obtain ⟨es, clock, q, -⟩ := h2
      have := block_there q; omega
  · rintro k (e | e)
    · exact h6 k e
    · omega

theorem ledger_quiet {f : Nat} {args : Array Value} {v : Value} (h : Ledger B w p bm Sh Sm) (hc : ∀ M, HeapAt M w p Sh → Calls Try.prog f args w (fun e w' => e = .returned v ∧ w = w')) :
    Calls Try.prog f args w (LAns B w p bm v Sh Sm) := by
  have h0 := h
  obtain ⟨M, D, h1, h2⟩ := h
  refine (hc M h1).mono ?_
  rintro e w' ⟨rfl, rfl⟩
  exact ⟨rfl, h0, Below.refl _ _⟩

theorem ledger_read {f : Nat} {args : Array Value} {v : Value} (h : Ledger B w p bm Sh Sm) (hc : ∀ M, HeapAt M w p Sh → Calls Try.prog f args w (fun e w' => e = .returned v ∧ Only (fun _ => False) w w')) :
    Calls Try.prog f args w (LAns B w p bm v Sh Sm) := by
  have h0 := h
  have hB := h.low
  obtain ⟨M, D, h1, h2⟩ := h
  refine (hc M h1).mono ?_
  rintro e w' ⟨rfl, hO⟩
  exact ⟨rfl, h0.later hO, hO.below hB (fun _ e => e.elim)⟩

theorem Ledger.ids (h : Ledger B w p bm Sh Sm) : Ids Sh := by obtain ⟨M, D, h1, h2⟩ := h; exact h1.ids
theorem Ledger.map (h : Ledger B w p bm Sh Sm) : ∃ D, w.ownsMap Try.prog 3 (plainElem Try.prog 3) bm Sm.length D ∧ Told D Sm := by obtain ⟨M, D, h1, h2, h3, h4⟩ := h; exact ⟨D, h2, h3⟩

/-- The map written, and nothing else. -/
theorem Ledger.turned {Sm' : List (Int × Int)} {D' : DataW Unit} {n : Nat} (h : Ledger B w p bm Sh Sm) (ho : w'.ownsMap Try.prog 3 (plainElem Try.prog 3) bm n D') (ht : w.mapTurned w' bm) (hT : Told D' Sm') :
    Ledger B w' p bm Sh Sm' ∧ Below B w w' := by
  have hB := h.low
  obtain ⟨M, D, h1, h2, h3, h4, h5, h6⟩ := h
  have hO := only_turned ht
  refine ⟨⟨M, D', h1.keep hO (fun k _ hk e => h4 (e ▸ hk)), ?_, hT, h4, h5, h6⟩, hO.below hB (fun k e => by subst e; exact h5)⟩
  have := own_tight ho
  rwa [hT.size] at this
end
end Go.Proofs.Ytonlhcebnbdjjaa
