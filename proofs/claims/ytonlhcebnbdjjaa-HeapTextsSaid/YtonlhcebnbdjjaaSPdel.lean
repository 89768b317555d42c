/- slices.Delete at a place of a row of pairs. -/
import Derived.Test.YtonlhcebnbdjjaaSFirst
namespace Go.Proofs.Ytonlhcebnbdjjaa.S
open Go.ChangeShapes Go.WideShapes Go.ChangeAt Go.RowKit Go.Maps
set_option linter.unusedVariables false

/-- Some elements laid over a list from a place on. -/
def over : Nat → List Value → List Value → List Value
  | _, [], xs => xs
  | o, v :: r, xs => over (o + 1) r (xs.set o v)

theorem over_length (o : Nat) (vs xs : List Value) : (over o vs xs).length = xs.length := by
  induction vs generalizing o xs with
  | nil => rfl
  | cons v r ih => rw [over, ih]; simp

theorem over_get (o : Nat) (vs xs : List Value) (i : Nat) (h : o + vs.length ≤ xs.length) : (over o vs xs)[i]? = if o ≤ i ∧ i < o + vs.length then vs[i - o]? else xs[i]? := by
  induction vs generalizing o xs with
  | nil => rw [over, if_neg (by simp)]
  | cons v r ih =>
    simp only [List.length_cons] at h
    rw [over, ih _ _ (by simp; omega)]
    simp only [List.length_cons]
    by_cases h1 : o + 1 ≤ i ∧ i < o + 1 + r.length
    · rw [if_pos h1, if_pos (by omega), show i - o = (i - (o + 1)) + 1 by omega]
      simp
    · rw [if_neg h1]
      by_cases h2 : i = o
      · subst h2
        rw [if_pos (by omega)]
        simp [show i < xs.length by omega]
      · rw [if_neg (by omega)]
        simp [Ne.symm h2]

theorem heap_setCells {g : Nat} {t : TypeId} (vs : List Value) : ∀ (o : Nat) (w : World) (cs : Array Value), w.heap[g]? = some (.cells cs t (0, 0)) →
    ∃ cs', (w.setCells g o vs).heap[g]? = some (.cells cs' t (0, 0)) ∧ cs'.size = cs.size ∧ cs'.toList = over o vs cs.toList ∧ Only (· = g) w (w.setCells g o vs) := by
  induction vs with
  | nil => exact fun o w cs h => ⟨cs, h, rfl, rfl, Only.refl _ w⟩
  | cons v r ih =>
    intro o w cs h
    obtain ⟨cs', h1, h2, h3, h4⟩ := ih (o + 1) (w.setCell ⟨g, o, none⟩ v) _ (heap_setCell_same w g o cs t v h)
    refine ⟨cs', h1, by simpa using h2, by rw [h3, Array.toList_setIfInBounds]; rfl, ?_⟩
    exact (Only.setCell (S := fun x => x = g) (Only.refl _ w) (p := ⟨g, o, none⟩) rfl v).trans h4 (fun _ _ h => h)

theorem cellsOf_drop (L : List (Int × ByteArray)) (n : Nat) : (cellsOf L).drop (n * 2) = cellsOf (L.drop n) := by
  induction L generalizing n with
  | nil => simp [cellsOf]
  | cons x xs ih =>
    cases n with
    | zero => simp [cellsOf]
    | succ n =>
      have e : (n + 1) * 2 = n * 2 + 2 := by omega
      have := ih n
      rw [e]
      simpa [cellsOf] using this

theorem erased {S : List (Int × ByteArray)} {cur : List Value} {i m : Nat} (z : List Value) (hz : z.length = 2) (hS : S.length = m + 1) (hi : i < m + 1) (hcl : (m + 1) * 2 ≤ cur.length) (ht : cur.take ((m + 1) * 2) = cellsOf S) :
    (over (m * 2) z (over (i * 2) (cellsOf (S.drop (i + 1))) cur)).take (m * 2) = cellsOf (S.eraseIdx i) := by
  have hl : (cellsOf (S.drop (i + 1))).length = (m - i) * 2 := by rw [cellsOf_len]; simp; omega
  have hs := cellsOf_len S
  have hc : ∀ k, k < (m + 1) * 2 → cur[k]? = (cellsOf S)[k]? := fun k hk => by rw [← ht, List.getElem?_take_of_lt hk]
  rw [List.eraseIdx_eq_take_drop_succ, cellsOf_append, ← cellsOf_take]
  apply List.ext_getElem?
  intro k
  rw [List.getElem?_take]
  by_cases h : k < m * 2
  · rw [if_pos h, over_get _ _ _ _ (by rw [over_length]; omega), if_neg (by omega), over_get _ _ _ _ (by omega)]
    by_cases h2 : k < i * 2
    · rw [if_neg (by omega), List.getElem?_append_left (by simp; omega), List.getElem?_take_of_lt h2, hc k (by omega)]
    · rw [if_pos (by omega), List.getElem?_append_right (by simp; omega)]
      congr 1
      simp; omega
  · rw [if_neg h, List.getElem?_eq_none]
    rw [List.length_append, hl, List.length_take]; omega

theorem Try.info73 : (Try.prog.info? 73).map (fun i => (i.zero, i.size, i.bytes)) = some (some (.agg #[.int .i64 0, .string ByteArray.empty]), 2, 24) := by kernel_rfl
theorem zero73 (w : World) : (zeroValue 73).run Try.prog w = .ok (.agg #[.int .i64 0, .string ByteArray.empty]) w := by
  obtain ⟨i0, hi, hz0, hz1, hz2⟩ := info_parts Try.info73
  simp [zeroValue, typeInfo, hi, hz0]

theorem run_clear_pair (w : World) (ty : TypeId) (b o c : Nat) (hc : ∀ j, j < 2 → (w.cell? ⟨b, o + j, none⟩).isSome = true) (hf : ∀ j, j < 2 → w.frozen? ⟨b, o + j, none⟩ = false) :
    (Builtin.clear_ #[70] ty #[.slice (some ⟨b, o, none⟩) 1 c]).run Try.prog w = .ok (.tuple #[]) (w.setCells b o [.int .i64 0, .string ByteArray.empty]) := by
  have hst := run_storeCells_cells (P := Try.prog) b o [.int .i64 0, .string ByteArray.empty] 0 w (by simpa using hc) (by simpa using hf) (by intro v hv'; simp at hv'; rcases hv' with rfl | rfl <;> rfl)
  simp only [Nat.add_zero] at hst
  have hzc : (Builtin.zeroCells (Value.agg #[.int .i64 0, .string ByteArray.empty]).cells 1).toList = [.int .i64 0, .string ByteArray.empty] := by
    simp [Builtin.zeroCells, Value.cells]
    rfl
  have hz2 : (Builtin.zeroCells (Value.agg #[Value.int .i64 0, Value.string ⟨#[]⟩]).cells 1).toList = [.int .i64 0, .string ByteArray.empty] := hzc
  simp [Builtin.clear_, run_underlying Try.underlying70]
  rw [hz2, hst]
  rfl

/-- What is known behind Delete. -/
def PDelAnswer (lo g m cap i : Nat) (S : List (Int × ByteArray)) (w : World) (e : Ending) (w' : World) : Prop :=
  e = .returned (.slice (some ⟨g, 0, none⟩) m cap) ∧ PairsAt w' lo (.slice (some ⟨g, 0, none⟩) m cap) (S.eraseIdx i) ∧ Only (· = g) w w'

set_option maxRecDepth 100000 in
set_option maxHeartbeats 1000000 in
theorem delete_pair (lo g m cap i : Nat) (S : List (Int × ByteArray)) (w : World) (hown : PairsAt w lo (.slice (some ⟨g, 0, none⟩) (m + 1) cap) S) (hS : S.length = m + 1) (hi : i < m + 1) (hb : m ≤ 5864062014700) :
    Calls Try.prog 40 #[.slice (some ⟨g, 0, none⟩) (m + 1) cap, .int .i64 i, .int .i64 ((i : Int) + 1)] w (PDelAnswer lo g m cap i S w) := by
  obtain ⟨i0, hi0, hz0, hz1, hz2⟩ := info_parts Try.info73
  unfold PairsAt at hown
  rw [hS] at hown
  rcases hown with ⟨hlen, ⟨h1, _⟩ | ⟨g', cap', cur, h1, hlo, hg, hnc, hcm, hcs, htake⟩⟩
  · cases h1
  · cases h1
    have hcapm : cap ≤ 9223372036854775807 := by unfold maxLen at hcm; omega
    have hself : w.drew.heap[g]? = some (.cells cur 73 (0, 0)) := hg
    have hel : (S.eraseIdx i).length = m := by rw [List.length_eraseIdx, if_pos (by omega)]; omega
    obtain ⟨c1, hh1, hs1, ht1, hO1⟩ := heap_setCells (cellsOf (S.drop (i + 1))) (0 + i * 2) w.drew cur hself
    obtain ⟨W1, hW1⟩ : ∃ W1, W1 = w.drew.setCells g (0 + i * 2) (cellsOf (S.drop (i + 1))) := ⟨_, rfl⟩
    rw [← hW1] at hh1 hO1
    obtain ⟨c2, hh2, hs2, ht2, hO2⟩ := heap_setCells [.int .i64 0, .string ByteArray.empty] (m * 2) W1 c1 hh1
    have hcl : ∀ ty, (Builtin.clear_ #[70] ty #[.slice (some ⟨g, m * 2, none⟩) 1 (cap - m)]).run Try.prog W1 = .ok (.tuple #[]) (W1.setCells g (m * 2) [.int .i64 0, .string ByteArray.empty]) := by
      intro ty
      refine run_clear_pair _ ty g _ _ (fun j hj => ?_) (fun j hj => frozen_at hh1 _)
      rw [cell_at hh1]
      simp; omega
    have HF := Lib.hid (show PDelAnswer lo g m cap i S w (.returned (.slice (some ⟨g, 0, none⟩) m cap)) (W1.setCells g (m * 2) [.int .i64 0, .string ByteArray.empty]) from by
      refine ⟨rfl, ?_, ((Only.refl _ w).drew.trans hO1 (fun _ _ h => h)).trans hO2 (fun _ _ h => h)⟩
      unfold PairsAt
      rw [hel]
      refine ⟨by rw [cellsOf_len, hel], Or.inr ⟨g, cap, c2, rfl, hlo, hh2, by omega, hcm, by omega, ?_⟩⟩
      rw [ht2, ht1, Nat.zero_add]
      exact erased _ rfl hS hi (by rw [Array.length_toList, hcs]; omega) htake)
    have s1 : Hid ((cellsOf (S.drop (i + 1))).length = (m - i) * 2) := by show _ = _; rw [cellsOf_len]; simp; omega
    have s2 : Hid (∀ u ∈ cellsOf (S.drop (i + 1)), u.oneCell' = true) := by
      intro u hu
      obtain ⟨x, hx, hu⟩ := List.mem_flatMap.1 hu
      simp at hu
      rcases hu with rfl | rfl <;> rfl
    have s3 : Hid (∀ j, j < (cellsOf (S.drop (i + 1))).length → (w.drew.cell? ⟨g, 0 + i * 2 + j, none⟩).isSome = true ∧ w.drew.frozen? ⟨g, 0 + i * 2 + j, none⟩ = false) := by
      intro j hj
      have := s1.out
      refine ⟨?_, frozen_at hself _⟩
      rw [cell_at hself]
      simp; omega
    obtain ⟨A, hA, hsrc⟩ : ∃ A : Addr, (if cap = i + 1 then some (⟨g, 0, none⟩ : Addr) else some ⟨g, (i + 1) * 2, none⟩) = some A ∧ Hid (∀ j u, (cellsOf (S.drop (i + 1)))[j]? = some u → w.drew.cell? (A.add j) = some u) := by
      by_cases h : cap = i + 1
      · refine ⟨⟨g, 0, none⟩, by rw [if_pos h], fun j u hu => ?_⟩
        have := (List.getElem?_eq_some_iff.1 hu).1
        have := s1.out
        omega
      · refine ⟨⟨g, (i + 1) * 2, none⟩, by rw [if_neg h], fun j u hu => ?_⟩
        have hj := (List.getElem?_eq_some_iff.1 hu).1
        have := s1.out
        have hsl := cellsOf_len S
        rw [add_plain, cell_at hself]
        rw [← cellsOf_drop, List.getElem?_drop, ← htake, List.getElem?_take_of_lt (by omega)] at hu
        simpa using hu
    have hW : Hid (W1 = w.drew.setCells g (0 + i * 2) (cellsOf (S.drop (i + 1)))) := hW1
    clear hlen hg hcs htake hcm hself hh1 hs1 ht1 hO1 hW1 hh2 hs2 ht2 hO2 hS hel hz0 hz2
    generalize cellsOf (S.drop (i + 1)) = news at *
    have e1 : (i : Int) + 1 ≤ (m : Int) + 1 := by omega
    have e2 : (i : Int) ≤ (m : Int) + 1 := by omega
    have e3 : ((i : Int) == (i : Int) + 1) = false := by simp; omega
    have e4 : ((i : Int) + 1).toNat = i + 1 := by omega
    have e5 : (0 : Int) ≤ (i : Int) + 1 := by omega
    have e6 : i ≤ m + 1 := by omega
    have e7 : i + 1 ≤ m + 1 := by omega
    have e8 : i ≤ cap := by omega
    go_enter Try.func40, Try.ntmps40
    go_wp2_with fail
    go_region_law (refine step_append_room rfl (.tmp 22) (.tmp 25) 70 rfl 73 i0 2 Try.underlying70 hi0 hz1 g 0 i cap (by simp [Act.eval, Act.put]) A (m - i) (cap - (i + 1)) news (by simp [Act.eval, Act.put]) s1.out hsrc.out s2.out (by omega) s3.out ?_; rw [← hW.out, show i + (m - i) = m from by omega])
    go_wp2
    go_ret
    exact HF.out
end Go.Proofs.Ytonlhcebnbdjjaa.S
