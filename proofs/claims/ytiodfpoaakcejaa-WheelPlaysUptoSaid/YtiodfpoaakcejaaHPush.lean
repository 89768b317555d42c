/- The contract of Push. -/
import Derived.Test.YtiodfpoaakcejaaHChange
namespace Go.Proofs.Ytiodfpoaakcejaa.Hp
open Go.ChangeShapes Go.WideShapes Go.ChangeAt Go.RowKit Go.Maps
set_option linter.unusedVariables false

/-- A heap with a map, its items' row wherever it lies. -/
structure Pre (p o T : Nat) (F : Nat → Option Value) (b : Nat) (V : Value) (w : World) (L : List (Int × Int)) : Prop where
  self : Host w p o T F V (.map (some b))
  items : w.ownsRow 0 79 2 V L.length (cellsOf L)
  map : ∃ D, w.ownsMap Try.prog 3 (plainElem Try.prog 3) b L.length D ∧ Placed D L
  apart : Apart L
  wf : ∀ i, i < L.length → (Lit.int .i64 (it L i).1).wf = true
  len : L.length + 1 ≤ 6000000000000
  pb : p ≠ b

theorem placed_nil : Placed (.map []) [] := ⟨tidy_empty, rfl, fun i hi => absurd hi (Nat.not_lt_zero _), fun id h => by simp [has_eq] at h⟩

theorem placed_push {D : DataW Unit} {L : List (Int × Int)} {id k : Int} (h : Placed D L) (hno : ∀ i, i < L.length → (it L i).1 ≠ id) : Placed (D.put (key id) (spot L.length)) (L ++ [(id, k)]) := by
  have hn : Maps.has D (key id) = false := by
    rcases Bool.eq_false_or_eq_true (Maps.has D (key id)) with hx | hx
    · obtain ⟨i, hi, he⟩ := h.only id hx
      exact absurd he (hno i hi)
    · exact hx
  have hit : ∀ j, j < L.length → it (L ++ [(id, k)]) j = it L j := fun j hj => by simp [it, List.getD, List.getElem?_append_left hj]
  have hil : it (L ++ [(id, k)]) L.length = (id, k) := by simp [it, List.getD]
  refine ⟨h.tidy.put (key_lit _) _, ?_, fun j hj => ?_, fun x hx => ?_⟩
  · rw [size_put h.tidy, hn]; simp [h.size]
  · by_cases hj2 : j < L.length
    · rw [hit j hj2, has_put_other (key_ne (hno j hj2))]
      refine ⟨(h.there j hj2).1, fun z => ?_⟩
      rw [atKey_put_other (key_ne (hno j hj2))]
      exact (h.there j hj2).2 z
    · have : j = L.length := by simp at hj; omega
      subst this
      rw [hil]
      exact ⟨has_put_same h.tidy.isMap (key_lit _) _, fun z => atKey_put_same h.tidy.isMap (key_lit _) _ z⟩
  · by_cases e : x = id
    · subst e; exact ⟨L.length, by simp, by rw [hil]⟩
    · rw [has_put_other (key_ne e)] at hx
      obtain ⟨j, hj, he⟩ := h.only x hx
      exact ⟨j, by simp; omega, by rw [hit j hj]; exact he⟩

theorem it_push {L : List (Int × Int)} (x : Int × Int) : (∀ j, j < L.length → it (L ++ [x]) j = it L j) ∧ it (L ++ [x]) L.length = x :=
  ⟨fun j hj => by simp [it, List.getD, List.getElem?_append_left hj], by simp [it, List.getD]⟩

theorem rise_push {L : List (Int × Int)} {x : Int × Int} (h : Ordered L) : RiseOk (L ++ [x]) L.length L.length := by
  obtain ⟨h1, h2⟩ := it_push (L := L) x
  refine ⟨Nat.le_refl _, fun j hj hjl hne _ => ?_, fun _ j hj hjl hp => ?_⟩
  · simp at hjl
    unfold okAt
    rw [h1 j (by omega), h1 _ (by omega)]
    exact h j hj (by omega)
  · simp at hjl; omega

theorem ordered_of_sink {L : List (Int × Int)} {i : Nat} (h : SinkOk L i) (hl : L.length ≤ i + 1) : Ordered L := fun j hj hjl => h.1 j hj hjl (by omega)

/-- A heap as New makes it, with a map made. -/
theorem pre_fresh {p o T : Nat} {F : Nat → Option Value} {w : World} (h : Fresh p o T F w) : Pre p o T F w.heap.size (.slice none 0 0) ((w.alloc (.map #[] 0)).setCell ⟨p, o + 1, none⟩ (.map (some w.heap.size))) [] ∧
    Only (fun k => k = p) w ((w.alloc (.map #[] 0)).setCell ⟨p, o + 1, none⟩ (.map (some w.heap.size))) := by
  have hp := Host.there h
  have hs : Host (w.alloc (.map #[] 0)) p o T F (.slice none 0 0) (.map none) := Host.moved h (Below.heap_alloc _ _ _ hp)
  refine ⟨⟨?_, ⟨rfl, Or.inl ⟨rfl, rfl⟩⟩, ⟨.map [], ?_, placed_nil⟩, fun i j hi => absurd hi (Nat.not_lt_zero _), fun i hi => absurd hi (Nat.not_lt_zero _), by simp, by omega⟩, ?_⟩
  · exact hs.set1 _
  · exact (World.ownsMap_made w Try.prog 3 (plainElem Try.prog 3)).setCell (a := ⟨p, o + 1, none⟩) (by show w.heap.size ≠ p; omega) _
  · exact Only.setCell (S := fun x => x = p) ((Only.refl _ w).alloc _) (p := ⟨p, o + 1, none⟩) rfl _

theorem pre_rep {p o T : Nat} {F : Nat → Option Value} {g b cap : Nat} {w : World} {L : List (Int × Int)} (h : Rep p o T F g b cap w L) (hl : L.length + 1 ≤ 6000000000000) : Pre p o T F b (.slice (some ⟨g, 0, none⟩) L.length cap) w L :=
  ⟨h.self, h.items, h.map, h.apart, h.wf, hl, h.apart_blocks.2.1⟩

/-- What is known behind the append and the store of a Push. -/
structure Put (p o T : Nat) (F : Nat → Option Value) (g b cap : Nat) (V : Value) (w : World) (L : List (Int × Int)) (x : Int × Int) (w4 : World) : Prop where
  self : Host w4 p o T F (.slice (some ⟨g, 0, none⟩) (L.length + 1) cap) (.map (some b))
  items : w4.ownsRow 0 79 2 (.slice (some ⟨g, 0, none⟩) (L.length + 1) cap) (L.length + 1) (cellsOf (L ++ [x]))
  map : ∃ D, w4.ownsMap Try.prog 3 (plainElem Try.prog 3) b L.length D ∧ Placed D L
  only : Only (fun k => k = p ∨ V.ownBlock = some k) w w4
  at_ : V.ownBlock = some g ∨ w.heap.size ≤ g

theorem put_store {p o T : Nat} {F : Nat → Option Value} {g b cap : Nat} {V : Value} {w w3 : World} {L : List (Int × Int)} {x : Int × Int} (h : Pre p o T F b V w L)
    (ho3 : w3.ownsRow 0 79 2 (.slice (some ⟨g, 0, none⟩) (L.length + 1) cap) (L.length + 1) (cellsOf L ++ [.int .i64 x.1, .int .i64 x.2]))
    (hg : (w.alloc (.cells #[.int .i64 x.1, .int .i64 x.2] 79)).grownBy w3 V.ownBlock) (hat : V.ownBlock = some g ∨ g = (w.alloc (.cells #[.int .i64 x.1, .int .i64 x.2] 79)).heap.size) :
    (w3.cell? ⟨p, o, none⟩ = some V ∧ w3.frozen? ⟨p, o, none⟩ = false ∧ w3.cell? ⟨p, o + 1, none⟩ = some (.map (some b))) ∧ Put p o T F g b cap V w L x (w3.setCell ⟨p, o, none⟩ (.slice (some ⟨g, 0, none⟩) (L.length + 1) cap)) := by
  obtain ⟨D, hD, hP⟩ := h.map
  have hV : ∀ k, V.ownBlock = some k → ∃ cur, w.heap[k]? = some (.cells cur 79 (0, 0)) := fun k hk => owns_type h.items hk
  have hpV : ¬ V.ownBlock = some p := fun e => by
    obtain ⟨cur, hc⟩ := hV p e
    exact h.self.not_item hc
  have hbV : ¬ V.ownBlock = some b := fun e => by
    obtain ⟨cur, hc⟩ := hV b e
    obtain ⟨es, clock, q, -⟩ := hD
    rw [q] at hc; cases hc
  have hO3 : Only (fun k => V.ownBlock = some k) w w3 := ((Only.refl (fun _ => False) w).alloc _ |>.mono (T := fun k => V.ownBlock = some k) (fun _ _ h => h.elim)).trans (Only.of_grown (S := fun k => V.ownBlock = some k) hg (fun k hk => hk)) (fun _ _ h => h)
  have hs3 := h.self.moved (hO3.block p h.self.there hpV)
  have hO4 : Only (fun k => k = p) w3 (w3.setCell ⟨p, o, none⟩ (.slice (some ⟨g, 0, none⟩) (L.length + 1) cap)) := Only.setCell (S := fun x => x = p) (Only.refl _ w3) (p := ⟨p, o, none⟩) rfl _
  refine ⟨⟨hs3.c0, hs3.frozen o, hs3.c1⟩, ?_, ?_, ⟨D, ?_, hP⟩, ?_, ?_⟩
  · exact hs3.set0 _
  · rw [cellsOf_append]
    refine owns_kept ho3 hO4 (fun k hk e => ?_)
    obtain ⟨cur, hc⟩ := owns_type ho3 hk
    subst e
    exact hs3.not_item hc
  · obtain ⟨es, clock, q1, q2⟩ := hD
    have hb3 : w3.heap[b]? = _ := (hO3.block b (block_there q1) hbV).trans q1
    exact ⟨es, clock, (hO4.block b (block_there hb3) h.pb.symm).trans hb3, q2⟩
  · exact (hO3.mono (T := fun k => k = p ∨ V.ownBlock = some k) (fun _ _ h => Or.inr h)).trans hO4 (fun _ _ h => Or.inl h)
  · rcases hat with h | h
    · exact Or.inl h
    · right; simp at h; omega

theorem rep_of_put {p o T : Nat} {F : Nat → Option Value} {g b cap m : Nat} {V : Value} {w w4 w5 : World} {L : List (Int × Int)} {x : Int × Int} {D : DataW Unit} (hp : Pre p o T F b V w L) (h : Put p o T F g b cap V w L x w4) (hP : Placed D L) (hno : ∀ i, i < L.length → (it L i).1 ≠ x.1) (hw : (Lit.int .i64 x.1).wf = true)
    (ho : w5.ownsMap Try.prog 3 (plainElem Try.prog 3) b m (D.put (key x.1) (spot L.length))) (ht : w4.mapTurned w5 b) :
    Rep p o T F g b cap w5 (L ++ [x]) ∧ Only (fun k => k = p ∨ V.ownBlock = some k ∨ k = b) w w5 := by
  have hT := only_turned ht
  have hPP := placed_push (k := x.2) hP hno
  obtain ⟨h1, h2⟩ := it_push (L := L) x
  have hl : (L ++ [x]).length = L.length + 1 := by simp
  have hgb : g ≠ b := by
    rintro rfl
    obtain ⟨cur, hc⟩ := owns_type h.items rfl
    obtain ⟨D2, ⟨es, clock, q, -⟩, -⟩ := h.map
    rw [q] at hc; cases hc
  refine ⟨⟨?_, ?_, ⟨_, ?_, hPP⟩, fun i j hi hj he => ?_, fun i hi => ?_, by rw [hl]; exact hp.len⟩, ?_⟩
  · rw [hl]; exact h.self.moved (hT.block p h.self.there hp.pb)
  · rw [hl]; exact owns_kept h.items hT (fun k hk e => by cases hk; exact hgb e)
  · have := own_tight ho
    rw [hPP.size] at this; exact this
  · rw [hl] at hi hj
    by_cases hi2 : i < L.length
    · rw [h1 i hi2] at he
      by_cases hj2 : j < L.length
      · rw [h1 j hj2] at he; exact hp.apart i j hi2 hj2 he
      · have : j = L.length := by omega
        subst this; rw [h2] at he; exact absurd he (hno i hi2)
    · have e0 : i = L.length := by omega
      subst e0
      rw [h2] at he
      by_cases hj2 : j < L.length
      · rw [h1 j hj2] at he; exact absurd he.symm (hno j hj2)
      · omega
  · rw [hl] at hi
    by_cases hi2 : i < L.length
    · rw [h1 i hi2]; exact hp.wf i hi2
    · have e0 : i = L.length := by omega
      subst e0; rw [h2]; exact hw
  · exact (h.only.mono (T := fun k => k = p ∨ V.ownBlock = some k ∨ k = b) (fun _ _ e => e.elim Or.inl (fun e => Or.inr (Or.inl e)))).trans hT (fun _ _ e => Or.inr (Or.inr e))

/-- What is known behind a Push. -/
def Pushed (p o T : Nat) (F : Nat → Option Value) (b : Nat) (V : Value) (w : World) (P : List (Int × Int) → Prop) (e : Ending) (w' : World) : Prop :=
  e = .returned (.int .i64 0) ∧ ∃ g cap L, P L ∧ Rep p o T F g b cap w' L ∧ Only (fun k => k = p ∨ V.ownBlock = some k ∨ k = b) w w' ∧ (V.ownBlock = some g ∨ w.heap.size ≤ g)

theorem push_there (p o T : Nat) (F : Nat → Option Value) (g b cap i : Nat) (k : Int) (L : List (Int × Int)) (w : World) (h : Rep p o T F g b cap w L) (hi : i < L.length) :
    Calls Try.prog 30 #[.pointer (some ⟨p, o, none⟩), .int .i64 (it L i).1, .int .i64 k] w fun e w' => e = .returned (.int .i64 5) ∧ w = w' := by
  obtain ⟨-, c1⟩ := h.cells
  obtain ⟨D, hD, hP⟩ := h.map
  have hh : Maps.has D (.int .i64 (it L i).1) = true := (hP.there i hi).1
  have hkey := keyOf_int_mk Try.underlying3 (h.wf i hi)
  clear h hP
  go_enter Try.func30, Try.ntmps30
  go_wp2_with (at_lookup; refine wpList_lookup_own_ok_int _ rfl _ _ 59 rfl 3 3 .i64 law3 Try.underlying59 Try.underlying3 (zero3 _) b L.length D rfl hD _ _ rfl hkey ?_; intro c hat hwc)
  go_ret
  exact ⟨rfl, rfl⟩

set_option maxRecDepth 100000 in
set_option maxHeartbeats 1000000 in
theorem push_rep (p o T : Nat) (F : Nat → Option Value) (g b cap : Nat) (id k : Int) (L : List (Int × Int)) (w : World) (h : Rep p o T F g b cap w L) (hw : (Lit.int .i64 id).wf = true) (hno : ∀ i, i < L.length → (it L i).1 ≠ id) (hl : L.length + 1 ≤ 6000000000000) (hR : Ordered L) :
    Calls Try.prog 30 #[.pointer (some ⟨p, o, none⟩), .int .i64 id, .int .i64 k] w (Pushed p o T F b (.slice (some ⟨g, 0, none⟩) L.length cap) w (fun K => K.Perm (L ++ [(id, k)]) ∧ Ordered K)) := by
  obtain ⟨c0, c1⟩ := h.cells
  obtain ⟨D, hD, hP⟩ := h.map
  obtain ⟨i0, hi, hz0, hz1, hz2⟩ := info_parts Try.info79
  have hh : Maps.has D (.int .i64 id) = false := by
    rcases Bool.eq_false_or_eq_true (Maps.has D (key id)) with hx | hx
    · obtain ⟨i, hi, he⟩ := hP.only id hx
      exact absurd he (hno i hi)
    · exact hx
  have hkey := keyOf_int_mk Try.underlying3 hw
  have hmn : (binOp .eql 59 (.map (some b)) (.map none)).run Try.prog w = .ok (.bool false) w := run_eql_map_nil w 59 3 3 (some b) Try.underlying59
  have HPRE := Lib.hid (pre_rep h hl)
  have HNO := Lib.hid hno
  have HR := Lib.hid (rise_push (x := (id, k)) hR)
  clear h hP hno hR
  go_enter Try.func30, Try.ntmps30
  go_upto_region 7 with (at_lookup; refine wpList_lookup_own_ok_int _ rfl _ _ 59 rfl 3 3 .i64 law3 Try.underlying59 Try.underlying3 (zero3 _) b L.length D rfl hD _ _ rfl hkey ?_; intro c hat hwc)
  clear hD hh hkey hat hwc hmn
  generalize hVe : Value.slice (some ⟨g, 0, none⟩) L.length cap = V at *
  have C2 := Lib.hid (show ∀ u ∈ ([.int .i64 id, .int .i64 k] : List Value), u.oneCell' = true from by intro u hu; simp at hu; rcases hu with rfl | rfl <;> rfl)
  have C3 := Lib.hid (show L.length + 1 ≤ maxLen from by unfold maxLen; omega)
  have C4 := Lib.hid (show (L.length + 1) * 16 ≤ 140737488355328 from by omega)
  have hval := spot_elem L.length (by omega)
  have hkey2 := keyOf_int_mk Try.underlying3 hw
  go_wp2_with (first
    | (at_builtin; go_must (refine wpList_append_lies _ rfl _ _ 58 rfl 0 79 i0 (.agg #[.int .i64 0, .int .i64 0]) 2 16 Try.underlying58 hi hz0 hz1 hz2 rfl (by decide) _ L.length (cellsOf L) rfl (HPRE.out.items.alloc _) ⟨w.heap.size, 0, none⟩ 1 1 [.int .i64 id, .int .i64 k] rfl rfl (World.news_of_block (cs := #[.int .i64 id, .int .i64 k]) (t := 79) (fr := (0, 0)) (heap_alloc_new w _)) ?_ Nat.one_pos ?_ ?_ ?_ _ rfl ?_); (go_must (exact C2.out)); (go_must (exact C3.out)); (go_must (exact C4.out)); (go_must (exact Nat.zero_le _)); go_must (intro g3 cap3 w3 hown3 hgrow hat _); go_must (have hbox := put_store (x := (id, k)) HPRE.out hown3 hgrow hat); have d3 := hbox.1.1; have f3 := hbox.1.2.1; have d4 := hbox.1.2.2; have HPUT := Lib.hid hbox.2; clear hbox hown3 hgrow hat)
    | (at_mapUpdate; go_must (obtain ⟨D4, hD4, hP4⟩ := HPUT.out.map); have HP4 := Lib.hid hP4; clear hP4; refine wpList_mapUpdate_in _ rfl _ _ _ 59 rfl 3 3 law3 Try.underlying59 _ _ L.length D4 rfl hD4 (by unfold maxLen; omega) _ _ _ rfl rfl hkey2 _ [] hval ?_; intro w5 hown5 hturn5; have hbox := rep_of_put (x := (id, k)) HPRE.out HPUT.out HP4.out HNO.out hw hown5 hturn5; have HR5 := Lib.hid hbox.1; have HO5 := Lib.hid hbox.2; clear hbox hown5 hturn5)
    | (go_at_call 40; refine (rise_any p o T F _ _ _ L.length _ _ HR5.out (by simp) HR.out).mono ?_; rintro e w6 ⟨rfl, L6, hL6, hr6, ho6⟩; have HL6 := Lib.hid hL6; have HR6 := Lib.hid hr6; have HO6 := Lib.hid ho6; clear hL6 hr6 ho6))
  go_ret
  subst hVe
  exact ⟨rfl, _, _, L6, ⟨HL6.out.1, ordered_of_sink HL6.out.2 (by rw [HL6.out.1.length_eq]; simp)⟩, HR6.out, HO5.out.trans HO6.out (fun x hx e => by
    rcases e with rfl | rfl
    · rcases HPUT.out.at_ with h | h
      · exact Or.inr (Or.inl h)
      · omega
    · exact Or.inr (Or.inr rfl)), HPUT.out.at_⟩

set_option maxRecDepth 100000 in
set_option maxHeartbeats 1000000 in
theorem push_fresh (p o T : Nat) (F : Nat → Option Value) (id k : Int) (w : World) (h : Fresh p o T F w) (hw : (Lit.int .i64 id).wf = true) :
    Calls Try.prog 30 #[.pointer (some ⟨p, o, none⟩), .int .i64 id, .int .i64 k] w (Pushed p o T F w.heap.size (.slice none 0 0) w (fun K => K.Perm [(id, k)] ∧ Ordered K)) := by
  have c0 : w.cell? ⟨p, o, none⟩ = some (.slice none 0 0) := Host.c0 h
  have c1 : w.cell? ⟨p, o + 1, none⟩ = some (.map none) := Host.c1 h
  have f1 := Host.frozen h (o + 1)
  have hrun := look_nil (w := w) true law3 Try.underlying59 (zero3 _) (keyOf_int_mk Try.underlying3 hw)
  have hmm := @run_makeMap Try.prog
  have hmn : (binOp .eql 59 (.map none) (.map none)).run Try.prog w = .ok (.bool true) w := run_eql_map_nil w 59 3 3 none Try.underlying59
  have hpb := Host.there h
  obtain ⟨i0, hi, hz0, hz1, hz2⟩ := info_parts Try.info79
  obtain ⟨hq, hO⟩ := pre_fresh h
  rw [show (w.alloc (.map #[] 0)).setCell ⟨p, o + 1, none⟩ (.map (some w.heap.size)) = (w.setCell ⟨p, o + 1, none⟩ (.map (some w.heap.size))).alloc (.map #[] 0) from World.setCell_alloc_past _ _ _ _ hpb] at hq hO
  have HPRE := Lib.hid hq
  have HOF := Lib.hid hO
  have HNO := Lib.hid (show ∀ i, i < ([] : List (Int × Int)).length → (it [] i).1 ≠ id from fun i hi => absurd hi (Nat.not_lt_zero _))
  have HR := Lib.hid (rise_push (L := []) (x := (id, k)) (fun j _ hj => absurd hj (Nat.not_lt_zero _)))
  clear h hq hO
  go_enter Try.func30, Try.ntmps30
  go_upto_region 7 with fail
  generalize hWe : (w.setCell ⟨p, o + 1, none⟩ (.map (some w.heap.size))).alloc (.map #[] 0) = W at *
  have HPB := Lib.hid hpb
  clear c0 c1 f1 hrun hmm hmn hpb
  have c0 : W.cell? ⟨p, o, none⟩ = some (.slice none 0 0) := HPRE.out.self.c0
  have c1 : W.cell? ⟨p, o + 1, none⟩ = some (.map (some w.heap.size)) := HPRE.out.self.c1
  generalize hVe : Value.slice none 0 0 = V at *
  have C2 := Lib.hid (show ∀ u ∈ ([.int .i64 id, .int .i64 k] : List Value), u.oneCell' = true from by intro u hu; simp at hu; rcases hu with rfl | rfl <;> rfl)
  have C3 := Lib.hid (show 0 + 1 ≤ maxLen from by unfold maxLen; omega)
  have C4 := Lib.hid (show (0 + 1) * 16 ≤ 140737488355328 from by omega)
  have hval := spot_elem 0 (by omega)
  have hkey2 := keyOf_int_mk Try.underlying3 hw
  go_wp2_with (first
    | (at_builtin; go_must (refine wpList_append_lies _ rfl _ _ 58 rfl 0 79 i0 (.agg #[.int .i64 0, .int .i64 0]) 2 16 Try.underlying58 hi hz0 hz1 hz2 rfl (by decide) _ 0 (cellsOf []) rfl (HPRE.out.items.alloc _) ⟨W.heap.size, 0, none⟩ 1 1 [.int .i64 id, .int .i64 k] rfl rfl (World.news_of_block (cs := #[.int .i64 id, .int .i64 k]) (t := 79) (fr := (0, 0)) (heap_alloc_new W _)) ?_ Nat.one_pos ?_ ?_ ?_ _ rfl ?_); (go_must (exact C2.out)); (go_must (exact C3.out)); (go_must (exact C4.out)); (go_must (exact Nat.zero_le _)); go_must (intro g3 cap3 w3 hown3 hgrow hat _); go_must (have hbox := put_store (x := (id, k)) HPRE.out hown3 hgrow hat); have d3 := hbox.1.1; have f3 := hbox.1.2.1; have d4 := hbox.1.2.2; have HPUT := Lib.hid hbox.2; clear hbox hown3 hgrow hat)
    | (at_mapUpdate; go_must (obtain ⟨D4, hD4, hP4⟩ := HPUT.out.map); have HP4 := Lib.hid hP4; clear hP4; refine wpList_mapUpdate_in _ rfl _ _ _ 59 rfl 3 3 law3 Try.underlying59 _ _ 0 D4 rfl hD4 (by unfold maxLen; omega) _ _ _ rfl rfl hkey2 _ [] hval ?_; intro w5 hown5 hturn5; have hbox := rep_of_put (x := (id, k)) HPRE.out HPUT.out HP4.out HNO.out hw hown5 hturn5; have HR5 := Lib.hid hbox.1; have HO5 := Lib.hid hbox.2; clear hbox hown5 hturn5)
    | (go_at_call 40; refine (rise_any p o T F _ _ _ 0 _ _ HR5.out (by simp) HR.out).mono ?_; rintro e w6 ⟨rfl, L6, hL6, hr6, ho6⟩; have HL6 := Lib.hid hL6; have HR6 := Lib.hid hr6; have HO6 := Lib.hid ho6; clear hL6 hr6 ho6))
  go_ret
  subst hVe
  have hg := HPUT.out.at_.resolve_left (fun e => by cases e)
  have hs := HOF.out.size
  exact ⟨rfl, g3, cap3, L6, ⟨HL6.out.1, ordered_of_sink HL6.out.2 (by rw [HL6.out.1.length_eq]; simp)⟩, HR6.out,
    ((HOF.out.mono (T := fun k => k = p ∨ (Value.slice none 0 0).ownBlock = some k ∨ k = w.heap.size) (fun _ _ e => Or.inl e)).trans HO5.out (fun _ _ e => e)).trans HO6.out (fun x hx e => by
      rcases e with rfl | rfl
      · omega
      · exact Or.inr (Or.inr rfl)), Or.inr (by omega)⟩
end Go.Proofs.Ytiodfpoaakcejaa.Hp
