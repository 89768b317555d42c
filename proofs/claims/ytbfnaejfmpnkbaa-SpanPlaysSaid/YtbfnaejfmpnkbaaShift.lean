/- slices.Insert of one thing, not at the end: in place, and in a new row. -/
import Derived.Test.YtbfnaejfmpnkbaaInsert
namespace Go.Proofs.Ytbfnaejfmpnkbaa
open Go.ChangeShapes Go.WideShapes Go.ChangeAt Go.RowKit
set_option linter.unusedVariables false

theorem one3_len (x : El) : (one3 x).length = 3 := rfl

theorem shifted {L : List El} {cur : List Value} {i n : Nat} (x : El) (hn : L.length = n) (hi : i < n) (hcl : (n + 1) * 3 ≤ cur.length) (hc : ∀ k, k < i * 3 → cur[k]? = (cells3 L)[k]?) :
    (over ((i + 1) * 3) (cells3 (L.drop i)) (over (i * 3) (one3 x) cur)).take ((n + 1) * 3) = cells3 (L.take i ++ x :: L.drop i) ∧
      (over (i * 3) (one3 x) (over ((i + 1) * 3) (cells3 (L.drop i)) cur)).take ((n + 1) * 3) = cells3 (L.take i ++ x :: L.drop i) := by
  have hl : (cells3 (L.drop i)).length = (n - i) * 3 := by rw [cells3_len]; simp; omega
  have hs := cells3_len L
  have key : ∀ M : List Value, M.length = cur.length → (∀ k, M[k]? = if (i + 1) * 3 ≤ k ∧ k < (n + 1) * 3 then (cells3 (L.drop i))[k - (i + 1) * 3]? else if i * 3 ≤ k ∧ k < (i + 1) * 3 then (one3 x)[k - i * 3]? else cur[k]?) →
      M.take ((n + 1) * 3) = cells3 (L.take i ++ x :: L.drop i) := by
    intro M hM hk
    rw [cells3_append, cells3_cons, ← cells3_take]
    apply List.ext_getElem?
    intro k
    rw [List.getElem?_take]
    by_cases h : k < (n + 1) * 3
    · rw [if_pos h, hk]
      by_cases h2 : k < i * 3
      · rw [if_neg (by omega), if_neg (by omega), List.getElem?_append_left (by simp; omega), List.getElem?_take_of_lt h2, hc k h2]
      · rw [List.getElem?_append_right (by simp; omega)]
        have e : ((cells3 L).take (i * 3)).length = i * 3 := by rw [List.length_take]; omega
        rw [e]
        by_cases h3 : k < (i + 1) * 3
        · rw [if_neg (by omega), if_pos (by omega), List.getElem?_append_left (by rw [one3_len]; omega)]
        · rw [if_pos (by omega), List.getElem?_append_right (by rw [one3_len]; omega), one3_len]
          congr 1; omega
    · rw [if_neg h, List.getElem?_eq_none]
      simp only [List.length_append, List.length_take, hl, one3_len]; omega
  refine ⟨key _ (by rw [over_length, over_length]) (fun k => ?_), key _ (by rw [over_length, over_length]) (fun k => ?_)⟩
  · rw [over_get _ _ _ _ (by rw [over_length, hl]; omega), hl]
    by_cases h1 : (i + 1) * 3 ≤ k ∧ k < (n + 1) * 3
    · rw [if_pos (by omega), if_pos h1]
    · rw [if_neg (by omega), if_neg h1, over_get _ _ _ _ (by rw [one3_len]; omega), one3_len]
      by_cases h2 : i * 3 ≤ k ∧ k < (i + 1) * 3
      · rw [if_pos (by omega), if_pos h2]
      · rw [if_neg (by omega), if_neg h2]
  · rw [over_get _ _ _ _ (by rw [over_length, one3_len]; omega), one3_len]
    by_cases h2 : i * 3 ≤ k ∧ k < (i + 1) * 3
    · rw [if_pos (by omega), if_neg (by omega), if_pos h2]
    · rw [if_neg (by omega), if_neg h2, over_get _ _ _ _ (by rw [hl]; omega), hl]
      by_cases h1 : (i + 1) * 3 ≤ k ∧ k < (n + 1) * 3
      · rw [if_pos (by omega), if_pos h1]
      · rw [if_neg (by omega), if_neg h1]

theorem shape_at {w : World} {p : Nat} {cs : Array Value} {t : TypeId} {fr : Nat × Nat} (h : w.heap[p]? = some (.cells cs t fr)) : w.shape? p = some (t, cs.size) := by simp [World.shape?, h]

theorem zsize32 (w : World) : (Go.sizeOf 32).run Try.prog w = .ok 3 w := by
  obtain ⟨i0, hi, hz0, hz1, hz2⟩ := info_parts Try.info32
  simp [sizeOf, typeInfo, hi, hz1]

theorem overlaps_no (w : World) (vb g n off lb cb : Nat) (x : El) (cur : Array Value) (hx : OneAt w vb x) (hg : w.heap[g]? = some (.cells cur 32 (0, 0))) (hne : vb ≠ g) (hz : cur.size ≠ 0) :
    (callFunc 29 #[.slice (some ⟨vb, 0, none⟩) 1 1, .slice (some ⟨g, off, none⟩) lb cb]).run Try.prog w = .ok (.value (.bool false)) w := by
  rw [run_callFunc_extern Try.func29 (by kernel_rfl) (by kernel_rfl) (by kernel_rfl) (e := Extern.SlicesOverlaps.overlaps #[28, 28] #[4]) (by kernel_rfl),
    Lib.run_overlaps_apart w 28 4 32 Try.underlying28 3 zsize32 ⟨vb, 0, none⟩ ⟨g, off, none⟩ 1 1 lb cb hne 32 32 3 cur.size (shape_at hx) (shape_at hg) hz (frozen_at hx 0) (frozen_at hx 3)]
  rfl

/-- The row behind the two copies in place. -/
theorem shift_is {B g cap i n : Nat} {L : List El} {x : El} {w : World} {cur : Array Value} (hB : B ≤ g) (hg : w.heap[g]? = some (.cells cur 32 (0, 0))) (hcs : cur.size = cap * 3) (ht : cur.toList.take (n * 3) = cells3 L) (hn : L.length = n) (hi : i < n) (hc : n + 1 ≤ cap) (hc2 : cap ≤ maxLen) :
    InsAns B (.slice (some ⟨g, 0, none⟩) n cap) (L.take i ++ x :: L.drop i) w (.returned (.slice (some ⟨g, 0, none⟩) (n + 1) cap)) ((w.drew.setCells g ((i + 1) * 3) (cells3 (L.drop i))).setCells g (i * 3) (one3 x)) := by
  obtain ⟨c1, hh1, hs1, ht1, hO1⟩ := heap_setCells (cells3 (L.drop i)) ((i + 1) * 3) w.drew cur hg
  obtain ⟨c2, hh2, hs2, ht2, hO2⟩ := heap_setCells (one3 x) (i * 3) _ c1 hh1
  have hs := cells3_len L
  have hlen : (L.take i ++ x :: L.drop i).length = n + 1 := by simp; omega
  refine ⟨_, rfl, ?_, (((Only.refl (S := fun k => k = g) w).drew.trans hO1 (fun _ _ e => e)).trans hO2 (fun _ _ e => e)).mono (fun k _ e => by rw [e]; rfl), fun k hk => Or.inl hk⟩
  unfold ThingsAt
  rw [hlen]
  refine ⟨by rw [cells3_len, hlen], Or.inr ⟨g, cap, c2, rfl, hB, hh2, hc, hc2, by omega, ?_⟩⟩
  rw [ht2, ht1]
  exact (shifted x hn hi (by rw [Array.length_toList, hcs]; omega) (fun k hk => by rw [← ht, List.getElem?_take_of_lt (by omega)])).2

set_option maxRecDepth 100000 in
set_option maxHeartbeats 2000000 in
theorem insert_shift (B vb g cap i : Nat) (L : List El) (x : El) (w : World) (h : ThingsAt w B (.slice (some ⟨g, 0, none⟩) L.length cap) L) (hx : OneAt w vb x) (hne : vb ≠ g) (hi : i < L.length) (hcap : L.length + 1 ≤ cap) :
    Calls Try.prog 14 #[.slice (some ⟨g, 0, none⟩) L.length cap, .int .i64 i, .slice (some ⟨vb, 0, none⟩) 1 1] w (InsAns B (.slice (some ⟨g, 0, none⟩) L.length cap) (L.take i ++ x :: L.drop i) w) := by
  rcases h.2 with ⟨h1, _⟩ | ⟨g', cap', cur, h1, hlo, hg, hnc, hcm, hcs, htake⟩
  · cases h1
  · cases h1
    have HF := Lib.hid (shift_is (x := x) hlo hg hcs htake rfl hi hcap hcm)
    have hov := fun off lb cb => overlaps_no w vb g L.length off lb cb x cur hx hg hne (by omega)
    have HOV := Lib.hid hov
    generalize hn : L.length = n at *
    have hsl := cells3_len L
    have hdl : (cells3 (L.drop i)).length = (n - i) * 3 := by rw [cells3_len]; simp; omega
    have hcapm : cap ≤ 9223372036854775807 := by unfold maxLen at hcm; omega
    clear hov
    have hself : w.drew.heap[g]? = some (.cells cur 32 (0, 0)) := hg
    have e1 : (i : Int) ≤ n := by omega
    have e2 : (i : Int) < n := by omega
    have e3 : ((i : Int) == (n : Int)) = false := by simp; omega
    have e4 : ¬ (cap : Int) < n + 1 := by omega
    have e5 : ((i : Int) + 1).toNat = i + 1 := by omega
    have e6 : (0 : Int) ≤ (i : Int) + 1 := by omega
    have e7 : ¬ cap = i + 1 := by omega
    have e8 : ¬ cap = i := by omega
    have e9 : (i : Int) + 1 ≤ n + 1 := by omega
    have e10 : ((n : Int) + 1).toNat = n + 1 := by omega
    obtain ⟨W1, hW1⟩ : ∃ W1, W1 = w.drew.setCells g ((i + 1) * 3) (cells3 (L.drop i)) := ⟨_, rfl⟩
    obtain ⟨c1, hh1, hs1, ht1, hO1⟩ := heap_setCells (cells3 (L.drop i)) ((i + 1) * 3) w.drew cur hself
    rw [← hW1] at hh1 hO1
    have hx1 : OneAt W1 vb x := (hO1.block vb (block_there hx) hne).trans hx
    have C1 : Hid (∀ ty dl sl dc sc, dl = n - i → n - i ≤ sl → (Builtin.copy_ #[28, 28] ty #[.slice (some ⟨g, (i + 1) * 3, none⟩) dl dc, .slice (some ⟨g, i * 3, none⟩) sl sc]).run Try.prog w.drew = .ok (goInt (Nat.min sl dl)) W1) := Lib.hid (by
      intro ty dl sl dc sc hd hsl2
      rw [hW1]
      refine run_copy3 w.drew ty g _ dl dc ⟨g, i * 3, none⟩ sl sc _ (by rw [hdl, hd]; congr 1; simp only [Nat.min_def]; split <;> omega) (fun j v hj => ?_) (fun j hj => ?_) (fun j hj => frozen_at hself _) cells3_one
      · have hjl := (List.getElem?_eq_some_iff.1 hj).1
        rw [add_plain, cell_at hself]
        rw [← cells3_drop, List.getElem?_drop, ← htake, List.getElem?_take_of_lt (by omega)] at hj
        simpa using hj
      · rw [cell_at hself]; simp; omega)
    have C2 : Hid (∀ ty dl dc, 1 ≤ dl → (Builtin.copy_ #[28, 28] ty #[.slice (some ⟨g, i * 3, none⟩) dl dc, .slice (some ⟨vb, 0, none⟩) 1 1]).run Try.prog W1 = .ok (goInt (Nat.min 1 dl)) (W1.setCells g (i * 3) (one3 x))) := Lib.hid (by
      intro ty dl dc hd
      refine run_copy3 W1 ty g _ dl dc ⟨vb, 0, none⟩ 1 1 _ (by rw [one3_len]; simp only [Nat.min_def]; split <;> omega) (fun j v hj => by rw [add_plain, Nat.zero_add]; exact hx1.cell j v hj) (fun j hj => ?_) (fun j hj => frozen_at hh1 _) (one3_ones x)
      rw [cell_at hh1, one3_len] at *
      simp; omega)
    have HF2 : Hid (InsAns B (.slice (some ⟨g, 0, none⟩) n cap) (L.take i ++ x :: L.drop i) w (.returned (.slice (some ⟨g, 0, none⟩) (n + 1) cap)) (W1.setCells g (i * 3) (one3 x))) := Lib.hid (by rw [hW1]; exact HF.out)
    clear h hg htake hsl hh1 hs1 ht1 hO1 hW1 hself hx1 hx
    go_enter Try.func14, Try.ntmps14
    go_wp2_with (simp only [HOV.out])
    have ew : IntKind.i64.wrap ((i : Int) + 1) = (i : Int) + 1 := IntWalk.i64_in _ (by omega)
    have e11 : (i : Int) ≤ (n : Int) + 1 := by omega
    have hr := C1.out 3 (n - i) (n + 1 - i) (cap - (i + 1)) (cap - i) rfl (by omega)
    have HR := Lib.hid hr
    clear hr
    go_region_law (refine step_copy_runI rfl (.tmp 73) (.tmp 76) 28 28 rfl (.slice (some ⟨g, (i + 1) * 3, none⟩) (n - i) (cap - (i + 1))) (.slice (some ⟨g, i * 3, none⟩) (n + 1 - i) (cap - i)) (by simp [Act.eval, Act.put]) (by simp [Act.eval, Act.put]) HR.out ?_)
    have hr2 := C2.out 3 (n + 1 - i) (cap - i) (by omega)
    have HR2 := Lib.hid hr2
    clear hr2
    go_wp2_with (with_reducible refine wpList_copy_runI _ rfl (.tmp 80) (.tmp 81) 28 28 rfl (.slice (some ⟨g, i * 3, none⟩) (n + 1 - i) (cap - i)) (.slice (some ⟨vb, 0, none⟩) 1 1) rfl rfl HR2.out ?_)
    go_ret
    exact HF2.out

/-- The row behind the two copies into a new row. -/
theorem grow_is {B N G i n : Nat} {V : Value} {L : List El} {x : El} {w W1 : World} {ROW : Array Value} (hN : N = w.heap.size) (hB : B ≤ w.heap.size) (hO : Only (fun _ => False) w W1) (hg : W1.heap[N]? = some (.cells ROW 32 (0, 0))) (hcs : ROW.size = G * 3)
    (ht : ROW.toList.take (i * 3) = cells3 (L.take i)) (hn : L.length = n) (hi : i < n) (hc : n + 1 ≤ G) (hc2 : G ≤ maxLen) :
    InsAns B V (L.take i ++ x :: L.drop i) w (.returned (.slice (some ⟨N, 0, none⟩) (n + 1) G)) ((W1.setCells N (i * 3) (one3 x)).drew.setCells N ((i + 1) * 3) (cells3 (L.drop i))) := by
  obtain ⟨c1, hh1, hs1, ht1, hO1⟩ := heap_setCells (one3 x) (i * 3) W1 ROW hg
  obtain ⟨c2, hh2, hs2, ht2, hO2⟩ := heap_setCells (cells3 (L.drop i)) ((i + 1) * 3) (W1.setCells N (i * 3) (one3 x)).drew c1 hh1
  have hs := cells3_len L
  have hst := cells3_len (L.take i)
  have hlen : (L.take i ++ x :: L.drop i).length = n + 1 := by simp; omega
  have hnew : ∀ k, k < w.heap.size → k = N → False := fun k hk e => by omega
  refine ⟨_, rfl, ?_, ?_, fun k hk => by cases hk; exact Or.inr (Nat.le_of_eq hN.symm)⟩
  · unfold ThingsAt
    rw [hlen]
    refine ⟨by rw [cells3_len, hlen], Or.inr ⟨N, G, c2, rfl, by omega, hh2, hc, hc2, by omega, ?_⟩⟩
    rw [ht2, ht1]
    refine (shifted x hn hi (by rw [Array.length_toList, hcs]; omega) (fun k hk => ?_)).1
    have h1 : (cells3 L)[k]? = (cells3 (L.take i))[k]? := by rw [← cells3_take, List.getElem?_take_of_lt hk]
    rw [h1, ← ht, List.getElem?_take_of_lt hk]
  · have a1 : Only (fun k => V.ownBlock = some k) w W1 := hO.mono (fun _ _ e => e.elim)
    have a2 := a1.trans hO1 (fun k hk e => (hnew k hk e).elim)
    exact (a2.drew).trans hO2 (fun k hk e => (hnew k hk e).elim)

set_option maxRecDepth 100000 in
set_option maxHeartbeats 2000000 in
theorem insert_grow (B vb g i : Nat) (L : List El) (x : El) (w : World) (h : ThingsAt w B (.slice (some ⟨g, 0, none⟩) L.length L.length) L) (hx : OneAt w vb x) (hi : i < L.length) (hB : B ≤ w.heap.size) (hbig : (L.length + 1) * 24 ≤ 140737488355328) :
    Calls Try.prog 14 #[.slice (some ⟨g, 0, none⟩) L.length L.length, .int .i64 i, .slice (some ⟨vb, 0, none⟩) 1 1] w (InsAns B (.slice (some ⟨g, 0, none⟩) L.length L.length) (L.take i ++ x :: L.drop i) w) := by
  rcases h.2 with ⟨h1, _⟩ | ⟨g', cap', cur, h1, hlo, hg, hnc, hcm, hcs, htake⟩
  · cases h1
  · cases h1
    obtain ⟨i0, hi0, hz0, hz1, hz2⟩ := info_parts Try.info32
    generalize hn : L.length = n at *
    have hsl := cells3_len L
    have hdl : (cells3 (L.drop i)).length = (n - i) * 3 := by rw [cells3_len]; simp; omega
    have hglt := block_there hg
    have hik : i + (n + 1 - i) = n + 1 := by omega
    have hold : (Builtin.firstCells i0.size i (.slice (some ⟨g, 0, none⟩) i n)).run Try.prog w.drew = .ok (cells3 (L.take i)).toArray w.drew := by
      rw [hz1]
      refine run_firstCells_some w.drew 3 i ⟨g, 0, none⟩ i n (cells3 (L.take i)) (by rw [cells3_len]; simp; omega) (fun j v hj => ?_)
      have hjl := (List.getElem?_eq_some_iff.1 hj).1
      rw [cells3_len, List.length_take] at hjl
      have hself : w.drew.heap[g]? = some (.cells cur 32 (0, 0)) := hg
      rw [add_plain, cell_at hself]
      rw [← cells3_take, List.getElem?_take_of_lt (by omega), ← htake, List.getElem?_take_of_lt (by omega)] at hj
      simpa using hj
    have hap := fun ty => Lib.run_append_grow_zeros w 28 3 ty 32 i0 _ .i64 .i64 Try.underlying28 Try.underlying3 hi0 hz0 (some ⟨g, 0, none⟩) i n (cells3 (L.take i)) hold (n + 1 - i) (by omega) (by omega) (by omega) (by omega) (by rw [hz2]; omega) (by rw [hz2, hik]; exact growslice_fits (by omega) hbig)
    rw [hik] at hap
    have hGn : n + 1 ≤ grownCap w (n + 1) n 32 := grownCap_ge w _ _ _
    have hGm : grownCap w (n + 1) n 32 ≤ maxLen := grownCap_le_maxLen w (n + 1) n 32 (by unfold maxLen; omega)
    generalize grownCap w (n + 1) n 32 = G at *
    obtain ⟨ROW, hROW⟩ : ∃ ROW : Array Value, ROW = (cells3 (L.take i)).toArray ++ Builtin.zeroCells (Value.agg #[.int .i64 0, .int .i64 0, .int .i64 0]).cells (n + 1 - i) ++ Builtin.zeroCells (Value.agg #[.int .i64 0, .int .i64 0, .int .i64 0]).cells (G - (n + 1)) := ⟨_, rfl⟩
    rw [← hROW] at hap
    have hz3 : (Value.agg #[.int .i64 0, .int .i64 0, .int .i64 0]).cells.size = 3 := rfl
    have hst : (cells3 (L.take i)).length = i * 3 := by rw [cells3_len]; simp; omega
    have hRs : ROW.size = G * 3 := by
      rw [hROW]; simp only [Array.size_append, List.size_toArray, size_zeroCells, hz3, hst]; omega
    have hRt : ROW.toList.take (i * 3) = cells3 (L.take i) := by
      rw [hROW]; simp only [Array.toList_append, List.append_assoc]
      rw [← hst]; exact List.take_left
    obtain ⟨W1, hW1⟩ : ∃ W1, W1 = w.drew.alloc (.cells ROW 32) := ⟨_, rfl⟩
    rw [← hW1] at hap
    have hO1 : Only (fun _ => False) w W1 := by rw [hW1]; exact ((Only.refl _ w).drew).alloc _
    have hN1 : W1.heap[w.heap.size]? = some (.cells ROW 32 (0, 0)) := by rw [hW1]; exact heap_alloc_new w.drew _
    have hg1 : W1.heap[g]? = some (.cells cur 32 (0, 0)) := (hO1.block g hglt (fun e => e)).trans hg
    have hx1 : OneAt W1 vb x := (hO1.block vb (block_there hx) (fun e => e)).trans hx
    have e13 : ((n + 1 - i : Nat) : Int) = (n : Int) + 1 - i := by omega
    have HAP := Lib.hid (show (Builtin.append_ #[28, 3] 28 #[.slice (some ⟨g, 0, none⟩) i n, .int .i64 ((n : Int) + 1 - i)]).run Try.prog w = .ok (.slice (some ⟨w.heap.size, 0, none⟩) (n + 1) G) W1 by rw [← e13]; exact hap 28)
    obtain ⟨W2, hW2⟩ : ∃ W2, W2 = W1.setCells w.heap.size (i * 3) (one3 x) := ⟨_, rfl⟩
    obtain ⟨c2, hh2, hs2, ht2, hO2⟩ := heap_setCells (one3 x) (i * 3) W1 ROW hN1
    rw [← hW2] at hh2 hO2
    have hg2 : W2.drew.heap[g]? = some (.cells cur 32 (0, 0)) := (hO2.block g (block_there hg1) (by omega)).trans hg1
    have hh2d : W2.drew.heap[w.heap.size]? = some (.cells c2 32 (0, 0)) := hh2
    obtain ⟨W3, hW3⟩ : ∃ W3, W3 = W2.drew.setCells w.heap.size ((i + 1) * 3) (cells3 (L.drop i)) := ⟨_, rfl⟩
    have HF : Hid (InsAns B (.slice (some ⟨g, 0, none⟩) n n) (L.take i ++ x :: L.drop i) w (.returned (.slice (some ⟨w.heap.size, 0, none⟩) (n + 1) G)) W3) := Lib.hid (by
      rw [hW3, hW2]; exact grow_is rfl hB hO1 hN1 hRs hRt hn hi hGn hGm)
    have C2 : Hid (∀ ty dl dc, 1 ≤ dl → (Builtin.copy_ #[28, 28] ty #[.slice (some ⟨w.heap.size, i * 3, none⟩) dl dc, .slice (some ⟨vb, 0, none⟩) 1 1]).run Try.prog W1 = .ok (goInt (Nat.min 1 dl)) W2) := Lib.hid (by
      intro ty dl dc hd
      rw [hW2]
      refine run_copy3 W1 ty w.heap.size _ dl dc ⟨vb, 0, none⟩ 1 1 _ (by rw [one3_len]; simp only [Nat.min_def]; split <;> omega) (fun j v hj => by rw [add_plain, Nat.zero_add]; exact hx1.cell j v hj) (fun j hj => ?_) (fun j hj => frozen_at hN1 _) (one3_ones x)
      rw [cell_at hN1, one3_len] at *
      simp; omega)
    have C3 : Hid (∀ ty dl sl dc sc, dl = n - i → n - i ≤ sl → (Builtin.copy_ #[28, 28] ty #[.slice (some ⟨w.heap.size, (i + 1) * 3, none⟩) dl dc, .slice (some ⟨g, i * 3, none⟩) sl sc]).run Try.prog W2.drew = .ok (goInt (Nat.min sl dl)) W3) := Lib.hid (by
      intro ty dl sl dc sc hd hsl2
      rw [hW3]
      refine run_copy3 W2.drew ty w.heap.size _ dl dc ⟨g, i * 3, none⟩ sl sc _ (by rw [hdl, hd]; congr 1; simp only [Nat.min_def]; split <;> omega) (fun j v hj => ?_) (fun j hj => ?_) (fun j hj => frozen_at hh2d _) cells3_one
      · have hjl := (List.getElem?_eq_some_iff.1 hj).1
        rw [add_plain, cell_at hg2]
        rw [← cells3_drop, List.getElem?_drop, ← htake, List.getElem?_take_of_lt (by omega)] at hj
        simpa using hj
      · rw [cell_at hh2d]; simp; omega)
    have hGc : G ≤ 9223372036854775807 := by unfold maxLen at hGm; omega
    have hnm : n ≤ 9000000000000 := by omega
    generalize w.heap.size = N at *
    clear h hg htake hsl hold hap hROW hRs hRt hst hW1 hO1 hN1 hg1 hx1 hW2 hh2 hs2 ht2 hO2 hg2 hh2d hW3 hx hcs hcm hnc hz0 hz1 hz2 hi0 hGm hz3
    have e1 : (i : Int) ≤ n := by omega
    have e2 : (i : Int) < n := by omega
    have e3 : ((i : Int) == (n : Int)) = false := by simp; omega
    have e4 : (n : Int) < n + 1 := by omega
    have e5 : ((i : Int) + 1).toNat = i + 1 := by omega
    have e6 : (0 : Int) ≤ (i : Int) + 1 := by omega
    have e7 : ¬ G = i + 1 := by omega
    have e8 : ¬ G = i := by omega
    have e9 : (i : Int) + 1 ≤ n + 1 := by omega
    have e10 : ((n : Int) + 1).toNat = n + 1 := by omega
    have e11 : (i : Int) ≤ (n : Int) + 1 := by omega
    have e12 : ¬ n = i := by omega
    clear e13
    have hr2 := C2.out 3 (n + 1 - i) (G - i) (by omega)
    have HR2 := Lib.hid hr2
    have hr3 := C3.out 3 (n - i) (n - i) (G - (i + 1)) (n - i) rfl (Nat.le_refl _)
    have HR3 := Lib.hid hr3
    clear hr2 hr3
    go_enter Try.func14, Try.ntmps14
    go_upto_region 11 with (first
      | (with_reducible refine Lib.wpList_append_run _ rfl (.tmp 34) (.tmp 39) 28 3 rfl (.slice (some ⟨g, 0, none⟩) i n) (.int .i64 ((n : Int) + 1 - i)) rfl rfl _ _ HAP.out ?_)
      | (with_reducible refine wpList_copy_runI _ rfl (.tmp 43) (.tmp 44) 28 28 rfl (.slice (some ⟨N, i * 3, none⟩) (n + 1 - i) (G - i)) (.slice (some ⟨vb, 0, none⟩) 1 1) rfl rfl HR2.out ?_))
    have ew : IntKind.i64.wrap ((i : Int) + 1) = (i : Int) + 1 := IntWalk.i64_in _ (by omega)
    go_region_law (refine step_copy_runI rfl (.tmp 50) (.tmp 53) 28 28 rfl (.slice (some ⟨N, (i + 1) * 3, none⟩) (n - i) (G - (i + 1))) (.slice (some ⟨g, i * 3, none⟩) (n - i) (n - i)) (by simp [Act.eval, Act.put]) (by simp [Act.eval, Act.put]) HR3.out ?_)
    go_wp2
    go_ret
    exact HF.out
end Go.Proofs.Ytbfnaejfmpnkbaa
