/- slices.Insert of one thing, whole; slices.Delete at a place of a row of things. -/
import Derived.Test.YtbfnaejfmpnkbaaShift
namespace Go.Proofs.Ytbfnaejfmpnkbaa
open Go.ChangeShapes Go.WideShapes Go.ChangeAt Go.RowKit
set_option linter.unusedVariables false

theorem insert_any (B vb i : Nat) (V : Value) (L : List El) (x : El) (w : World) (h : ThingsAt w B V L) (hx : OneAt w vb x) (hne : ∀ g, V.ownBlock = some g → vb ≠ g) (hi : i ≤ L.length) (hB : B ≤ w.heap.size) (hbig : (L.length + 1) * 24 ≤ 140737488355328) :
    Calls Try.prog 14 #[V, .int .i64 i, .slice (some ⟨vb, 0, none⟩) 1 1] w (InsAns B V (L.take i ++ x :: L.drop i) w) := by
  rcases h.cases with ⟨rfl, rfl⟩ | ⟨g, cap, cur, rfl, -, hcap, -⟩
  · obtain rfl : i = 0 := by simpa using hi
    exact insert_nil B vb x w hx hB
  · by_cases e : i = L.length
    · subst e
      rw [List.take_length, List.drop_length]
      exact insert_end B vb g cap L x w h hx hB hbig hcap
    · rcases Nat.lt_or_ge L.length cap with hc | hc
      · exact insert_shift B vb g cap i L x w h hx (hne g rfl) (by omega) hc
      · obtain rfl : cap = L.length := by omega
        exact insert_grow B vb g i L x w h hx (by omega) hB hbig

theorem erased {S : List El} {cur : List Value} {i m : Nat} (z : List Value) (hz : z.length = 3) (hS : S.length = m + 1) (hi : i < m + 1) (hcl : (m + 1) * 3 ≤ cur.length) (ht : cur.take ((m + 1) * 3) = cells3 S) :
    (over (m * 3) z (over (i * 3) (cells3 (S.drop (i + 1))) cur)).take (m * 3) = cells3 (S.eraseIdx i) := by
  have hl : (cells3 (S.drop (i + 1))).length = (m - i) * 3 := by rw [cells3_len]; simp; omega
  have hs := cells3_len S
  have hc : ∀ k, k < (m + 1) * 3 → cur[k]? = (cells3 S)[k]? := fun k hk => by rw [← ht, List.getElem?_take_of_lt hk]
  rw [List.eraseIdx_eq_take_drop_succ, cells3_append, ← cells3_take]
  apply List.ext_getElem?
  intro k
  rw [List.getElem?_take]
  by_cases h : k < m * 3
  · rw [if_pos h, over_get _ _ _ _ (by rw [over_length]; omega), if_neg (by omega), over_get _ _ _ _ (by omega)]
    by_cases h2 : k < i * 3
    · rw [if_neg (by omega), List.getElem?_append_left (by simp; omega), List.getElem?_take_of_lt h2, hc k (by omega)]
    · rw [if_pos (by omega), List.getElem?_append_right (by simp; omega)]
      congr 1
      simp; omega
  · rw [if_neg h, List.getElem?_eq_none]
    rw [List.length_append, hl, List.length_take]; omega

theorem zero32 (w : World) : (zeroValue 32).run Try.prog w = .ok (.agg #[.int .i64 0, .int .i64 0, .int .i64 0]) w := by
  obtain ⟨i0, hi, hz0, hz1, hz2⟩ := info_parts Try.info32
  simp [zeroValue, typeInfo, hi, hz0]

theorem run_clear_thing (w : World) (ty : TypeId) (b o c : Nat) (hc : ∀ j, j < 3 → (w.cell? ⟨b, o + j, none⟩).isSome = true) (hf : ∀ j, j < 3 → w.frozen? ⟨b, o + j, none⟩ = false) :
    (Builtin.clear_ #[28] ty #[.slice (some ⟨b, o, none⟩) 1 c]).run Try.prog w = .ok (.tuple #[]) (w.setCells b o [.int .i64 0, .int .i64 0, .int .i64 0]) := by
  have hst := run_storeCells_cells (P := Try.prog) b o [.int .i64 0, .int .i64 0, .int .i64 0] 0 w (by simpa using hc) (by simpa using hf) (by intro v hv'; simp at hv'; subst hv'; rfl)
  simp only [Nat.add_zero] at hst
  have hzc : (Builtin.zeroCells (Value.agg #[.int .i64 0, .int .i64 0, .int .i64 0]).cells 1).toList = [.int .i64 0, .int .i64 0, .int .i64 0] := by
    simp [Builtin.zeroCells, Value.cells]
    rfl
  simp [Builtin.clear_, run_underlying Try.underlying28, hzc, hst]

/-- What is known behind Delete. -/
def DelAns (B g m cap i : Nat) (S : List El) (w : World) (e : Ending) (w' : World) : Prop :=
  e = .returned (.slice (some ⟨g, 0, none⟩) m cap) ∧ ThingsAt w' B (.slice (some ⟨g, 0, none⟩) m cap) (S.eraseIdx i) ∧ Only (· = g) w w'

set_option maxRecDepth 100000 in
set_option maxHeartbeats 1000000 in
theorem delete_thing (lo g m cap i : Nat) (S : List El) (w : World) (hown : ThingsAt w lo (.slice (some ⟨g, 0, none⟩) (m + 1) cap) S) (hS : S.length = m + 1) (hi : i < m + 1) (hb : m ≤ 6000000000000) :
    Calls Try.prog 16 #[.slice (some ⟨g, 0, none⟩) (m + 1) cap, .int .i64 i, .int .i64 ((i : Int) + 1)] w (DelAns lo g m cap i S w) := by
  obtain ⟨i0, hi0, hz0, hz1, hz2⟩ := info_parts Try.info32
  unfold ThingsAt at hown
  rw [hS] at hown
  rcases hown with ⟨hlen, ⟨h1, _⟩ | ⟨g', cap', cur, h1, hlo, hg, hnc, hcm, hcs, htake⟩⟩
  · cases h1
  · cases h1
    have hcapm : cap ≤ 9223372036854775807 := by unfold maxLen at hcm; omega
    have hself : w.drew.heap[g]? = some (.cells cur 32 (0, 0)) := hg
    have hel : (S.eraseIdx i).length = m := by rw [List.length_eraseIdx, if_pos (by omega)]; omega
    obtain ⟨c1, hh1, hs1, ht1, hO1⟩ := heap_setCells (cells3 (S.drop (i + 1))) (0 + i * 3) w.drew cur hself
    obtain ⟨W1, hW1⟩ : ∃ W1, W1 = w.drew.setCells g (0 + i * 3) (cells3 (S.drop (i + 1))) := ⟨_, rfl⟩
    rw [← hW1] at hh1 hO1
    obtain ⟨c2, hh2, hs2, ht2, hO2⟩ := heap_setCells [.int .i64 0, .int .i64 0, .int .i64 0] (m * 3) W1 c1 hh1
    have hcl : ∀ ty, (Builtin.clear_ #[28] ty #[.slice (some ⟨g, m * 3, none⟩) 1 (cap - m)]).run Try.prog W1 = .ok (.tuple #[]) (W1.setCells g (m * 3) [.int .i64 0, .int .i64 0, .int .i64 0]) := by
      intro ty
      refine run_clear_thing _ ty g _ _ (fun j hj => ?_) (fun j hj => frozen_at hh1 _)
      rw [cell_at hh1]
      simp; omega
    have HF := Lib.hid (show DelAns lo g m cap i S w (.returned (.slice (some ⟨g, 0, none⟩) m cap)) (W1.setCells g (m * 3) [.int .i64 0, .int .i64 0, .int .i64 0]) from by
      refine ⟨rfl, ?_, ((Only.refl _ w).drew.trans hO1 (fun _ _ h => h)).trans hO2 (fun _ _ h => h)⟩
      unfold ThingsAt
      rw [hel]
      refine ⟨by rw [cells3_len, hel], Or.inr ⟨g, cap, c2, rfl, hlo, hh2, by omega, hcm, by omega, ?_⟩⟩
      rw [ht2, ht1, Nat.zero_add]
      exact erased _ rfl hS hi (by rw [Array.length_toList, hcs]; omega) htake)
    have s1 : Hid ((cells3 (S.drop (i + 1))).length = (m - i) * 3) := by show _ = _; rw [cells3_len]; simp; omega
    have s2 : Hid (∀ u ∈ cells3 (S.drop (i + 1)), u.oneCell' = true) := Lib.hid cells3_one
    have s3 : Hid (∀ j, j < (cells3 (S.drop (i + 1))).length → (w.drew.cell? ⟨g, 0 + i * 3 + j, none⟩).isSome = true ∧ w.drew.frozen? ⟨g, 0 + i * 3 + j, none⟩ = false) := by
      intro j hj
      have := s1.out
      refine ⟨?_, frozen_at hself _⟩
      rw [cell_at hself]
      simp; omega
    obtain ⟨A, hA, hsrc⟩ : ∃ A : Addr, (if cap = i + 1 then some (⟨g, 0, none⟩ : Addr) else some ⟨g, (i + 1) * 3, none⟩) = some A ∧ Hid (∀ j u, (cells3 (S.drop (i + 1)))[j]? = some u → w.drew.cell? (A.add j) = some u) := by
      by_cases h : cap = i + 1
      · refine ⟨⟨g, 0, none⟩, by rw [if_pos h], fun j u hu => ?_⟩
        have := (List.getElem?_eq_some_iff.1 hu).1
        have := s1.out
        omega
      · refine ⟨⟨g, (i + 1) * 3, none⟩, by rw [if_neg h], fun j u hu => ?_⟩
        have hj := (List.getElem?_eq_some_iff.1 hu).1
        have := s1.out
        have hsl := cells3_len S
        rw [add_plain, cell_at hself]
        rw [← cells3_drop, List.getElem?_drop, ← htake, List.getElem?_take_of_lt (by omega)] at hu
        simpa using hu
    have hW : Hid (W1 = w.drew.setCells g (0 + i * 3) (cells3 (S.drop (i + 1)))) := hW1
    clear hlen hg hcs htake hcm hself hh1 hs1 ht1 hO1 hW1 hh2 hs2 ht2 hO2 hS hel hz0 hz2
    generalize cells3 (S.drop (i + 1)) = news at *
    have e1 : (i : Int) + 1 ≤ (m : Int) + 1 := by omega
    have e2 : (i : Int) ≤ (m : Int) + 1 := by omega
    have e3 : ((i : Int) == (i : Int) + 1) = false := by simp; omega
    have e4 : ((i : Int) + 1).toNat = i + 1 := by omega
    have e5 : (0 : Int) ≤ (i : Int) + 1 := by omega
    have e6 : i ≤ m + 1 := by omega
    have e7 : i + 1 ≤ m + 1 := by omega
    have e8 : i ≤ cap := by omega
    go_enter Try.func16, Try.ntmps16
    go_wp2_with fail
    go_region_law (refine step_append_room rfl (.tmp 22) (.tmp 25) 28 rfl 32 i0 3 Try.underlying28 hi0 hz1 g 0 i cap (by simp [Act.eval, Act.put]) A (m - i) (cap - (i + 1)) news (by simp [Act.eval, Act.put]) s1.out hsrc.out s2.out (by omega) s3.out ?_; rw [← hW.out, show i + (m - i) = m from by omega])
    go_wp2
    go_ret
    exact HF.out

theorem at_in (a : Addr) (n cap j : Nat) (x : Int) (w : World) (hj : j < n) (hn : n ≤ 9223372036854775807) (hc : w.cell? (a.add j) = some (.int .i64 x)) :
    Calls Try.prog 12 #[.slice (some a) n cap, .int .i64 j] w fun e w' => e = .returned (.int .i64 x) ∧ w = w' := by
  have h1 : (j : Int) < n := by omega
  have h2 : (0 : Int) ≤ j := by omega
  go_enter Try.func12, Try.ntmps12
  go_wp2
  go_ret
  exact ⟨rfl, rfl⟩

theorem at_out (a : Option Addr) (n cap j : Nat) (w : World) (hj : n ≤ j) (hn : n ≤ 9223372036854775807) (hjj : j ≤ 100) :
    Calls Try.prog 12 #[.slice a n cap, .int .i64 j] w fun e w' => e = .returned (.int .i64 0) ∧ w = w' := by
  have h1 : ¬ (j : Int) < n := by omega
  go_enter Try.func12, Try.ntmps12
  go_wp2
  go_ret
  exact ⟨rfl, rfl⟩

/-- The number of a record at a place; 0 if there is none. -/
def atn (xs : List Int) (j : Nat) : Int := xs.getD j 0

theorem atn_any (v : Value) (xs : List Int) (j : Nat) (w : World) (h : NumRow w v xs) (hjj : j ≤ 100) :
    Calls Try.prog 12 #[v, .int .i64 j] w fun e w' => e = .returned (.int .i64 (atn xs j)) ∧ w = w' := by
  obtain ⟨a, c, rfl, h1, h2, h3, h4⟩ := h
  have hm : xs.length ≤ 9223372036854775807 := by unfold maxLen at h2; omega
  by_cases hj : j < xs.length
  · obtain ⟨ad, rfl, hl, hc⟩ := h3 j hj
    exact at_in ad xs.length c j _ w hj hm hc
  · have e : atn xs j = 0 := by simp [atn, List.getD, List.getElem?_eq_none (show xs.length ≤ j by omega)]
    rw [e]
    exact at_out a xs.length c j w (by omega) hm hjj

/-- A thing as a value. -/
def thgVal (x : El) : Value := .agg #[.int .i64 x.k, .int .i64 x.i, .int .i64 x.w]

theorem before_any (x : El) (k i : Int) (v : Bool) (hv : decide (bef x k i) = v) (w : World) :
    Calls Try.prog 13 #[thgVal x, .int .i64 k, .int .i64 i] w fun e w' => e = .returned (.bool v) ∧ Below w.heap.size w w' := by
  unfold thgVal
  subst hv
  rcases Int.lt_trichotomy x.k k with h | h | h
  · have e : decide (bef x k i) = true := by simp [bef, h]
    rw [e]
    clear e
    go_enter Try.func13, Try.ntmps13
    go_wp2
    go_ret
    exact ⟨rfl, (Below.refl _ w).alloc (Nat.le_refl _) _⟩
  · have e : decide (bef x k i) = decide (x.i < i) := by simp [bef, h]
    rw [e]
    have h2 : ¬ x.k < k := by omega
    have h3 : (x.k == k) = true := by simpa using h
    clear h e
    go_enter Try.func13, Try.ntmps13
    go_wp2
    go_ret
    exact ⟨rfl, (Below.refl _ w).alloc (Nat.le_refl _) _⟩
  · have e : decide (bef x k i) = false := decide_eq_false (fun g => by unfold bef at g; omega)
    rw [e]
    have h2 : ¬ x.k < k := by omega
    have h3 : (x.k == k) = false := by simp; omega
    clear h e
    go_enter Try.func13, Try.ntmps13
    go_wp2
    go_ret
    exact ⟨rfl, (Below.refl _ w).alloc (Nat.le_refl _) _⟩
end Go.Proofs.Ytbfnaejfmpnkbaa
