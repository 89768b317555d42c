/- The walk of VtimeLags. -/
import Derived.Test.YtbdkibigcjpkbaaVtLagm
import Derived.Test.YtbdkibigcjpkbaaClone
import Derived.Test.YtbdkibigcjpkbaaRest
import Derived.Lib.MinMax
import Derived.Deep.RegionHeld3
namespace Go.Proofs.Ytbdkibigcjpkbaa.Vt
open Go.ChangeShapes Go.WideShapes Go.ChangeAt Go.RowKit
set_option linter.unusedVariables false

/-- The weights, and the ticks, that the statement makes of the first k. -/
def wsOf (zs : List Int) (k : Nat) : List Int := (zs.take k).map fun z => 1 + restOf z 100
def tsOf (zs : List Int) (k : Nat) : List Int := (zs.take k).map fun z => restOf z 1000

theorem wsOf_succ (zs : List Int) (k : Nat) (h : k < zs.length) : wsOf zs (k + 1) = wsOf zs k ++ [1 + restOf (zs.getD k 0) 100] := by
  unfold wsOf; rw [List.take_succ_eq_append_getElem h, List.map_append]; simp [List.getD, h]
theorem tsOf_succ (zs : List Int) (k : Nat) (h : k < zs.length) : tsOf zs (k + 1) = tsOf zs k ++ [restOf (zs.getD k 0) 1000] := by
  unfold tsOf; rw [List.take_succ_eq_append_getElem h, List.map_append]; simp [List.getD, h]
theorem wsOf_len (zs : List Int) (k : Nat) (h : k ≤ zs.length) : (wsOf zs k).length = k := by unfold wsOf; simp; omega
theorem tsOf_len (zs : List Int) (k : Nat) (h : k ≤ zs.length) : (tsOf zs k).length = k := by unfold tsOf; simp; omega

/-- Two rows of the call's own, apart. -/
structure Twain (w : World) (base : Nat) (v u : Value) (xs ys : List Int) : Prop where
  one : Ints w base v xs
  two : Ints w base u ys
  apart : ∀ g, v.ownBlock = some g → u.ownBlock ≠ some g

theorem Twain.swap {w : World} {base : Nat} {v u : Value} {xs ys : List Int} (h : Twain w base v u xs ys) : Twain w base u v ys xs := ⟨h.two, h.one, fun g e1 e2 => h.apart g e2 e1⟩
theorem Twain.later {w w' : World} {base : Nat} {v u : Value} {xs ys : List Int} (h : Twain w base v u xs ys) (hO : Only (fun _ => False) w w') : Twain w' base v u xs ys := ⟨h.one.later hO, h.two.later hO, h.apart⟩

/-- One number more behind the first row, at a step of a region that draws its order. -/
theorem step_push {w : World} {ops : Array Oper} {o : Oper} {a : Act} {K : Act → World → Prop} {Q : Exit → Act → World → Prop} {E : Prop} (hgd : o.guard = none) (s y : Operand)
    (ho : o.op = .call { callee := .builtin .append, args := #[s, y], argTypes := #[22, 22] })
    (wr : World) (base b : Nat) (v u : Value) (xs ys : List Int) (x : Int) (hT : Twain wr base v u xs ys) (hO : Only (fun _ => False) wr w) (hs : a.eval s = v) (hy : a.eval y = .slice (some ⟨b, 0, none⟩) 1 1)
    (hb : w.heap[b]? = some (.cells #[.int .i64 x] 3 (0, 0))) (hl : xs.length ≤ 1000000) (hbase : base ≤ wr.heap.size)
    (h : ∀ v' w', Twain w' base v' u (xs ++ [x]) ys → Only (fun k => base ≤ k) wr w' → K (a.put o.dst v') w') :
    if Region.wanted o (yielded ops a.tmps) = true then Oper.wp Try.prog o a w K Q else E := by
  obtain ⟨i0, hi, hz0, hz1, hz2⟩ := info_parts Try.infoInt
  have hsz := hO.size
  have T := hT.later hO
  refine step_append_lies w hgd s y 22 ho base 3 i0 (.int .i64 0) 1 8 Try.underlying22 hi hz0 hz1 hz2 rfl (by decide) v xs.length (numCells xs) hs T.one ⟨b, 0, none⟩ 1 1 [.int .i64 x] hy rfl
    (World.news_of_block (cs := #[.int .i64 x]) hb) (one_num x) (by omega) (by unfold maxLen; omega) (by omega) (by omega) w.heap.size rfl ?_
  intro g cap w' hown hg hat hlt
  refine h _ w' ⟨?_, ?_, ?_⟩ ?_
  · unfold Ints
    rw [List.length_append, show numCells (xs ++ [x]) = numCells xs ++ [.int .i64 x] from numCells_snoc xs x]
    exact hown
  · exact T.two.keep (Only.of_grown (S := fun k => v.ownBlock = some k) hg (fun k hk => hk)) (fun g' e1 e2 => T.apart g' e2 e1)
  · intro g' e1 e2
    have e3 : g = g' := Option.some.inj e1
    subst e3
    rcases hat with hat | rfl
    · exact T.apart g hat e2
    · have := (T.two.block e2).2; omega
  · exact (hO.mono (T := fun k => base ≤ k) (fun _ _ h => h.elim)).trans (Only.of_grown (S := fun k => base ≤ k) hg (fun k hk => (T.one.block hk).1)) (fun _ _ h => h)

theorem only_cell {S : Nat → Prop} {w w' : World} (hO : Only S w w') {b o : Nat} {v : Value} (hc : w.cell? ⟨b, o, none⟩ = some v) (hS : ¬ S b) : w'.cell? ⟨b, o, none⟩ = some v := by
  rw [← hc]
  unfold World.cell?
  rw [hO.block b (block_lt hc) hS]

theorem fit_made {zs zs' : List Int} {n : Nat} (h : n ≤ zs.length) (h' : n ≤ zs'.length) (hn : n ≤ 16) : Fit (wsOf zs n) (tsOf zs' n) n :=
  ⟨wsOf_len zs n h, tsOf_len zs' n h', hn, fun x hx => by
    unfold wsOf at hx
    obtain ⟨z, -, rfl⟩ := List.mem_map.1 hx
    have := restOf_lo z 100 (by omega)
    have := restOf_hi z 100 (by omega)
    omega, fun x hx => by
    unfold tsOf at hx
    obtain ⟨z, -, rfl⟩ := List.mem_map.1 hx
    have := restOf_lo z 1000 (by omega)
    have := restOf_hi z 1000 (by omega)
    omega⟩

theorem fit_more {zs zs' : List Int} {n q : Nat} (h : n ≤ zs.length) (h' : n ≤ zs'.length) (hn : n ≤ 16) (hq : q < n) : Fit (wsOf zs n) (moreOf (tsOf zs' n) q) n := by
  have F := fit_made h h' hn
  refine ⟨F.lw, by unfold moreOf; rw [List.length_set]; exact F.lt, hn, F.w, fun x hx => ?_⟩
  have hlt : ∀ x ∈ tsOf zs' n, 0 ≤ x ∧ x ≤ 999 := fun x hx => by
    unfold tsOf at hx
    obtain ⟨z, -, rfl⟩ := List.mem_map.1 hx
    have := restOf_lo z 1000 (by omega)
    have := restOf_hi z 1000 (by omega)
    omega
  rcases mem_set hx with h | rfl
  · have := hlt x h; omega
  · have := hlt _ (getD_mem (j := q) (by rw [F.lt]; exact hq))
    omega

theorem ints_set {w : World} {base g n c : Nat} {xs : List Int} (h : Ints w base (.slice (some ⟨g, 0, none⟩) n c) xs) (j : Nat) (x : Int) : Ints (w.setCell ⟨g, j, none⟩ (.int .i64 x)) base (.slice (some ⟨g, 0, none⟩) n c) (xs.set j x) := by
  obtain ⟨h1, h2⟩ := h
  refine ⟨by rw [numCells_len, List.length_set, Nat.mul_one], ?_⟩
  rcases h2 with ⟨e, _⟩ | ⟨g', cap, cur, e, hb, hg, r1, r2, r3, r4⟩
  · cases e
  · cases e
    right
    refine ⟨g, c, _, by rw [List.length_set], hb, heap_setCell_same w g j cur _ _ hg, by rw [List.length_set]; exact r1, r2, by simpa using r3, ?_⟩
    rw [Array.toList_setIfInBounds, List.take_set, List.length_set, r4]
    unfold numCells
    rw [List.map_set]

theorem ints_frozen {w : World} {base g n c : Nat} {xs : List Int} (h : Ints w base (.slice (some ⟨g, 0, none⟩) n c) xs) (j : Nat) : w.frozen? ⟨g, j, none⟩ = false := by
  obtain ⟨cur, hg⟩ := owns_type h rfl
  exact frozen_at hg j

theorem ints_cell {w : World} {base g n c : Nat} {xs : List Int} (h : Ints w base (.slice (some ⟨g, 0, none⟩) n c) xs) {j : Nat} (hj : j < xs.length) : w.cell? ⟨g, j, none⟩ = some (.int .i64 (xs.getD j 0)) := by
  obtain ⟨g', e, hc⟩ := h.cell hj
  cases e
  exact hc

theorem run_min3 (w : World) (ts : Array TypeId) (t : TypeId) (k : IntKind) (x y z n : Int) (h : min (min x y) z = n) :
    (Builtin.min_ ts t #[.int k x, .int k y, .int k z]).run Try.prog w = .ok (.int k n) w := by
  subst h
  have e : ∀ x y : Int, (if y < x then y else x) = min x y := by
    intro x y
    rw [Int.min_def]
    split <;> split <;> omega
  simp [Builtin.min_, Builtin.min2, e]

theorem lag_first (w : World) : Calls Try.prog 8 #[.slice (some ⟨w.heap.size, 0, none⟩) 2 2, .slice (some ⟨w.heap.size + 1, 0, none⟩) 2 2, .int .i64 0]
    ((w.alloc (.cells #[.int .i64 1, .int .i64 1] 3)).alloc (.cells #[.int .i64 3, .int .i64 5] 3)) (PairOnly (2, 0) ((w.alloc (.cells #[.int .i64 1, .int .i64 1] 3)).alloc (.cells #[.int .i64 3, .int .i64 5] 3))) := by
  have h1 : Nums (w.alloc (.cells #[.int .i64 1, .int .i64 1] 3)) (.slice (some ⟨w.heap.size, 0, none⟩) 2 2) [1, 1] := nums_block (heap_alloc_new w _) rfl (c := 2) (xs := [1, 1])
  have h2 := nums_block (heap_alloc_new (w.alloc (.cells #[.int .i64 1, .int .i64 1] 3)) (.cells #[.int .i64 3, .int .i64 5] 3)) rfl (c := 2) (xs := [3, 5])
  have e : (w.alloc (.cells #[.int .i64 1, .int .i64 1] 3)).heap.size = w.heap.size + 1 := by simp
  rw [e] at h2
  have := lag_any _ _ [1, 1] [3, 5] 0 2 _ (h1.later ((Only.refl _ _).alloc (.cells #[.int .i64 3, .int .i64 5] 3))) h2 rfl rfl (by decide)
  rwa [show lagAns [1, 1] [3, 5] 0 = (2, 0) by decide] at this

set_option maxHeartbeats 2000000 in
set_option maxRecDepth 100000 in
theorem lags_any (i : Int) (ad ad' : Option Addr) (m m' cap cap' : Nat) (zs zs' : List Int) (w : World) (h : Nums w (.slice ad m cap) zs) (h' : Nums w (.slice ad' m' cap') zs') (hm : zs.length = m) (hm' : zs'.length = m')
    (hl : m ≤ 9223372036854775807) (hl' : m' ≤ 9223372036854775807)  :
    Calls Try.prog 5 #[.slice ad m cap, .slice ad' m' cap', .int .i64 i] w (fun e w' => e = .returned (.bool true) ∧ Below w.heap.size w w') := by
  have HM := Lib.hid hm
  have HM' := Lib.hid hm'
  have H := Lib.hid h
  have H' := Lib.hid h'
  clear hm hm' h h'
  obtain ⟨n, hn⟩ : ∃ n : Nat, n = min (min m m') 16 := ⟨_, rfl⟩
  have hn0 : n ≤ 16 := by omega
  have hn1 : n ≤ m := by omega
  have hn2 : n ≤ m' := by omega
  have q3 : ∀ (w : World) (ts : Array TypeId) (t : TypeId), (Builtin.min_ ts t #[.int .i64 m, .int .i64 m', .int .i64 16]).run Try.prog w = .ok (.int .i64 n) w := fun w ts t => run_min3 w ts t .i64 _ _ _ _ (by omega)
  clear hn
  have O1 := Lib.hid (((Only.refl (fun _ => False) w).alloc (.cells #[.int .i64 1, .int .i64 1] 3)).alloc (.cells #[.int .i64 3, .int .i64 5] 3))
  go_enter Try.func5, Try.ntmps5
  go_wp2_with (go_at_call 8; (with_reducible refine (lag_first w).mono ?_); rintro e w1 ⟨rfl, hO⟩; have O2 := Lib.hid (O1.out.trans hO (fun _ _ h => h)); clear hO O1)
  go_loopw [10, 11, 12, 38, 41, 42, 43, 44, 45, 46, 47, 48, 49, 50, 51, 52, 53, 54, 55, 56, 57] (fun v u _ j _ _ _ _ _ _ _ _ _ _ _ _ _ _ _ _ _ wr => ∃ k : Nat, k ≤ n ∧ j = .int .i64 k ∧ Twain wr w.heap.size v u (wsOf zs k) (tsOf zs' k) ∧ Below w.heap.size w wr) (fun _ _ _ j _ _ _ _ _ _ _ _ _ _ _ _ _ _ _ _ _ _ => n - (intOf j).toNat)
  case atStart => exact ⟨0, Nat.zero_le _, rfl, ⟨ints_nil _ _, ints_nil _ _, (fun g e => by cases e)⟩, O2.out.below (Nat.le_refl _) (fun _ e => e.elim)⟩
  case round =>
    obtain ⟨k, hk, rfl, hT, hB⟩ := hrel
    have HT := Lib.hid hT
    have HB := Lib.hid hB
    clear hT hB
    by_cases hlt : k < n
    · obtain ⟨b, off, rfl, hbl, hc0⟩ := H.out.at (show k < zs.length by rw [HM.out]; omega)
      obtain ⟨b', off', rfl, hbl', hc0'⟩ := H'.out.at (show k < zs'.length by rw [HM'.out]; omega)
      have hc : wr.cell? ⟨b, off + k, none⟩ = some (.int .i64 (zs.getD k 0)) := (HB.out.cell (p := ⟨b, off + k, none⟩) hbl).trans hc0
      have hc' : wr.cell? ⟨b', off' + k, none⟩ = some (.int .i64 (zs'.getD k 0)) := (HB.out.cell (p := ⟨b', off' + k, none⟩) hbl').trans hc0'
      have S1 := Lib.hid (wsOf_succ zs k (by rw [HM.out]; omega))
      have S2 := Lib.hid (tsOf_succ zs' k (by rw [HM'.out]; omega))
      have L1 := Lib.hid (wsOf_len zs k (by rw [HM.out]; omega))
      have L2 := Lib.hid (tsOf_len zs' k (by rw [HM'.out]; omega))
      have N1 := Lib.hid (show ¬ w.heap.size ≤ b by omega)
      have N2 := Lib.hid (show ¬ w.heap.size ≤ b' by omega)
      have Z1 := Lib.hid HB.out.size
      have R1 := Lib.hid (fun W => rest_any (zs.getD k 0) 100 (by omega) (by omega) W)
      have R2 := Lib.hid (fun W => rest_any (zs'.getD k 0) 1000 (by omega) (by omega) W)
      have a1 := restOf_lo (zs.getD k 0) 100 (by omega)
      have a2 := restOf_hi (zs.getD k 0) 100 (by omega)
      clear hc0 hc0' hbl hbl'
      generalize restOf (zs.getD k 0) 100 = r at *
      generalize restOf (zs'.getD k 0) 1000 = r' at *
      generalize zs.getD k 0 = x at *
      generalize zs'.getD k 0 = y at *
      generalize wsOf zs k = ws at *
      generalize tsOf zs' k = ts at *
      have j0 : (0 : Int) ≤ k := by omega
      have j1 : (k : Int) < m := by omega
      have j2 : (k : Int) < m' := by omega
      have E1 : IntKind.i64.wrap (1 + r) = 1 + r := IntWalk.i64_in _ (by omega)
      clear a1 a2
      go_wp2_with fail
      go_region_held3 (fun w' => w'.cell? ⟨b, off + k, none⟩ = some (.int .i64 x) ∧ w'.cell? ⟨b', off' + k, none⟩ = some (.int .i64 y)) (go_keep)
        (first
          | (go_at_call_of 11 (Value.int .i64 x); refine (R1.out _).mono ?_; rintro e w' ⟨rfl, rfl⟩)
          | (go_at_call_of 11 (Value.int .i64 y); refine (R2.out _).mono ?_; rintro e w' ⟨rfl, rfl⟩)
          | (refine step_push rfl (.tmp 41) (.tmp 48) (by rfl) wr w.heap.size wr.heap.size _ _ ws ts (1 + r) HT.out (((Only.refl _ wr).alloc _).drew) (by rfl) (by rfl) (heap_alloc_new wr _) (by rw [L1.out]; omega) Z1.out ?_; intro v5 w5 hT5 hO5; have hc5 := only_cell hO5 hc N1.out; have hc5' := only_cell hO5 hc' N2.out; have HT5 := Lib.hid hT5; have HO5 := Lib.hid hO5; clear hT5 hO5)
          | (refine step_push rfl (.tmp 50) (.tmp 56) (by rfl) w5 w.heap.size w5.heap.size _ _ ts _ r' HT5.out.swap ((Only.refl _ w5).alloc _) (by rfl) (by rfl) (heap_alloc_new w5 _) (by rw [L2.out]; omega) (Nat.le_trans Z1.out HO5.out.size) ?_; intro v6 w6 hT6 hO6; have hc6 := only_cell hO6 hc5 N1.out; have hc6' := only_cell hO6 hc5' N2.out; have HT6 := Lib.hid hT6.swap; have HO6 := Lib.hid (HO5.out.trans hO6 (fun _ _ h => h)); clear hT6 hO6))
      go_wp2_with fail
      go_roundw
      case rel => exact ⟨k + 1, by omega, by go_num, by rw [S1.out, S2.out]; exact HT6.out, HB.out.trans (HO6.out.below Z1.out (fun _ h => h))⟩
      case measure => simp [intOf]; omega
    · obtain rfl : k = n := by omega
      clear q3 hlt hk
      have FW := Lib.hid (fit_made (n := k) (zs := zs) (zs' := zs') (by rw [HM.out]; exact hn1) (by rw [HM'.out]; exact hn2) hn0)
      by_cases h0 : k = 0
      · subst h0
        go_wp2_with fail
        go_ret
        exact ⟨rfl, HB.out⟩
      · have r0 := restOf_lo i k (by omega)
        have r1 := restOf_hi i k (by omega)
        have R1 := Lib.hid (fun W => rest_any i k (by omega) (by omega) W)
        obtain ⟨q, hq⟩ : ∃ q : Nat, restOf i k = q := ⟨(restOf i k).toNat, by omega⟩
        rw [hq] at R1 r0 r1
        clear hq
        have hqk : q < k := by omega
        have FM := Lib.hid (fit_more (n := k) (zs := zs) (zs' := zs') (q := q) (by rw [HM.out]; exact hn1) (by rw [HM'.out]; exact hn2) hn0 hqk)
        generalize wsOf zs k = ws at *
        generalize tsOf zs' k = ts at *
        obtain ⟨ga, ca, rfl, -, -, -⟩ := HT.out.one.at_block FW.out.lw (by omega)
        obtain ⟨gb, cb, rfl, -, -, -⟩ := HT.out.two.at_block FW.out.lt (by omega)
        have C1 := Lib.hid (clone_ints _ ts wr HT.out.two.nums HT.out.two.nil_cap (by rw [FW.out.lt]; omega))
        have ya := FW.out.t _ (getD_mem (j := q) (by rw [FW.out.lt]; exact hqk))
        obtain ⟨y, hy⟩ : ∃ y, ts.getD q 0 = y := ⟨_, rfl⟩
        rw [hy] at ya
        have HY := Lib.hid hy
        have HMM := Lib.hid (show moreOf ts q = ts.set q (y + 1) from by rw [← hy]; rfl)
        clear hy
        have k0 : ((k : Int) == 0) = false := by rw [beq_eq_false_iff_ne]; omega
        go_wp2_with (first
          | (go_at_call 11; (with_reducible refine (R1.out _).mono ?_); rintro e w' ⟨rfl, rfl⟩)
          | (go_at_call 12; (with_reducible refine C1.out.mono ?_); rintro e w7 ⟨v7, rfl, hI, hO⟩; obtain ⟨g, c, rfl, hg0, hg1, hI⟩ := hI.at_block FW.out.lt (by omega); have HI := Lib.hid hI; have HO7 := Lib.hid hO; have hcq := ints_cell hI (j := q) (by rw [FW.out.lt]; exact hqk); rw [HY.out] at hcq; have hfq := ints_frozen hI q; clear hI hO))
        have M8 := Lib.hid (show Ints (w7.setCell ⟨g, q, none⟩ (.int .i64 (y + 1))) wr.heap.size (.slice (some ⟨g, 0, none⟩) k c) (moreOf ts q) from by rw [HMM.out]; exact ints_set HI.out q _)
        have O8 := Lib.hid ((HO7.out.mono (T := fun x => wr.heap.size ≤ x) (fun _ _ h => h.elim)).setCell (p := ⟨g, q, none⟩) hg0 (.int .i64 (y + 1)))
        clear hcq hfq ya hI HI HO7 C1
        generalize w7.setCell ⟨g, q, none⟩ (.int .i64 (y + 1)) = w8 at *
        have I1 := Lib.hid (HT.out.one.keep O8.out (fun g h hh => by have := (HT.out.one.block h).2; omega))
        have T1 := Lib.hid I1.out.nums
        have T2 := Lib.hid (Ints.nums <| HT.out.two.keep O8.out (fun g h hh => by have := (HT.out.two.block h).2; omega))
        have T3 := Lib.hid M8.out.nums
        have B8 := Lib.hid (HB.out.trans (O8.out.below HB.out.size (fun x h => Nat.le_trans HB.out.size h)))
        have hk1 : k ≤ 16 := hn0
        clear R1 r0 r1 hg0 hg1 M8 O8 HT HB hn1 hn2 O2
        go_loopw [14, 15, 16, 17, 18, 19, 73] (fun s _ _ _ _ _ j wx => ∃ l : Nat, l ≤ k ∧ j = .int .i64 l ∧ s = .int .i64 (lagTo ws ts k l) ∧ Only (fun _ => False) w8 wx) (fun _ _ _ _ _ _ j _ => k - (intOf j).toNat)
        case atStart => exact ⟨0, Nat.zero_le _, rfl, by rw [lagTo_zero], Only.refl _ _⟩
        case round =>
          obtain ⟨l, hlk, rfl, rfl, hO⟩ := hrel
          have O9 := Lib.hid hO
          clear hO
          by_cases hlt : l < k
          · have A1 := Lib.hid (fun W hW => lag_any _ _ ws ts l k W (T1.out.later hW) (T2.out.later hW) FW.out.lw FW.out.lt hk1)
            have A2 := Lib.hid (fun W hW => lag_any _ _ ws (moreOf ts q) l k W (T1.out.later hW) (T3.out.later hW) FM.out.lw FM.out.lt hk1)
            rw [FW.out.ans hlt] at A1
            rw [FM.out.ans hlt] at A2
            have LS := Lib.hid (FW.out.lagTo_succ hlt)
            have b1 := FW.out.lagTo_bd (j := l) hlk
            have b2 := FW.out.lagTo_bd (j := l + 1) hlt
            rw [LS.out] at b2
            have b3 := FW.out.lag_bd hlt
            have b4 := FW.out.w _ (getD_mem (j := l) (by rw [FW.out.lw]; exact hlt))
            have hc0 := Lib.hid (ints_cell I1.out (j := l) (by rw [FW.out.lw]; exact hlt))
            have g1 : (l : Int) < k := by omega
            by_cases hlq : l = q
            · subst hlq
              by_cases hk2 : 1 < k
              · have hlt2 := FW.out.lag_self hqk hk2
                have b5 := FM.out.lag_bd hlt
                generalize lagOf ws (moreOf ts l) l = n2 at *
                generalize lagOf ws ts l = n1 at *
                generalize lagTo ws ts k l = sl at *
                have g2 : (1 : Int) < k := by omega
                go_wp2_with (go_at_call 8; first
                  | ((with_reducible refine (A1.out _ O9.out).mono ?_); rintro e w9 ⟨rfl, hO⟩; have O10 := Lib.hid (O9.out.trans hO (fun _ _ h => h)); clear hO)
                  | ((with_reducible refine (A2.out _ O10.out).mono ?_); rintro e w10 ⟨rfl, hO⟩; have O11 := Lib.hid (O10.out.trans hO (fun _ _ h => h)); have hc := only_cell O11.out hc0.out (fun h => h); clear hO))
                go_roundw
                case rel => exact ⟨l + 1, by omega, by go_num, by rw [LS.out], O11.out⟩
                case measure => simp [intOf]; omega
              · have g2 : ¬ (1 : Int) < k := by omega
                generalize lagOf ws (moreOf ts l) l = n2 at *
                generalize lagOf ws ts l = n1 at *
                generalize lagTo ws ts k l = sl at *
                clear hk2
                go_wp2_with (go_at_call 8; first
                  | ((with_reducible refine (A1.out _ O9.out).mono ?_); rintro e w9 ⟨rfl, hO⟩; have O10 := Lib.hid (O9.out.trans hO (fun _ _ h => h)); clear hO)
                  | ((with_reducible refine (A2.out _ O10.out).mono ?_); rintro e w10 ⟨rfl, hO⟩; have O11 := Lib.hid (O10.out.trans hO (fun _ _ h => h)); have hc := only_cell O11.out hc0.out (fun h => h); clear hO))
                go_roundw
                case rel => exact ⟨l + 1, by omega, by go_num, by rw [LS.out], O11.out⟩
                case measure => simp [intOf]; omega
            · have g3 : ¬ (l : Int) = q := by omega
              rw [FW.out.lag_other hqk hlq] at A2
              generalize ws.getD l 0 = x at *
              generalize lagOf ws ts l = n1 at *
              generalize lagTo ws ts k l = sl at *
              clear hlq
              go_wp2_with (go_at_call 8; first
                | ((with_reducible refine (A1.out _ O9.out).mono ?_); rintro e w9 ⟨rfl, hO⟩; have O10 := Lib.hid (O9.out.trans hO (fun _ _ h => h)); clear hO)
                | ((with_reducible refine (A2.out _ O10.out).mono ?_); rintro e w10 ⟨rfl, hO⟩; have O11 := Lib.hid (O10.out.trans hO (fun _ _ h => h)); have hc := only_cell O11.out hc0.out (fun h => h); clear hO))
              go_roundw
              case rel => exact ⟨l + 1, by omega, by go_num, by rw [LS.out], O11.out⟩
              case measure => simp [intOf]; omega
          · obtain rfl : l = k := by omega
            have E0 := lagTo_all ws ts l
            go_wp2_with fail
            go_ret
            exact ⟨rfl, B8.out.trans (O9.out.below B8.out.size (fun _ e => e.elim))⟩
end Go.Proofs.Ytbdkibigcjpkbaa.Vt
