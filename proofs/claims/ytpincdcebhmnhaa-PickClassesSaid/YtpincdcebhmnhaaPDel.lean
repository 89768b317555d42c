/- slices.Delete of one number. -/
import Derived.Test.YtpincdcebhmnhaaInts
import Derived.Test.YtpincdcebhmnhaaFlat
import Derived.Deep.RegionLaw
import Derived.Lib.SliceRun
namespace Go.Proofs.Ytpincdcebhmnhaa.Pr
open Go.ChangeShapes Go.WideShapes Go.ChangeAt Go.RowKit Go.Maps
set_option linter.unusedVariables false

def enc (x : Int) : List Value := [.int .i64 x]
theorem enc_len (x : Int) : (enc x).length = 1 := rfl
theorem enc_one (x : Int) : ∀ u ∈ enc x, u.oneCell' = true := one_num x
theorem flat_is (L : List Int) : flat enc L = numCells L := by
  induction L with
  | nil => rfl
  | cons x xs ih => rw [flat_cons, ih]; rfl

theorem run_clear (w : World) (ty : TypeId) (b o c : Nat) (hc : (w.cell? ⟨b, o, none⟩).isSome = true) (hf : w.frozen? ⟨b, o, none⟩ = false) :
    (Builtin.clear_ #[30] ty #[.slice (some ⟨b, o, none⟩) 1 c]).run Try.prog w = .ok (.tuple #[]) (w.setCells b o [.int .i64 0]) := by
  have hst := run_storeCells_cells (P := Try.prog) b o [.int .i64 0] 0 w (by intro j hj; simp at hj; subst hj; simpa using hc) (by intro j hj; simp at hj; subst hj; simpa using hf) (by intro v hv'; simp at hv'; rcases hv' with rfl; rfl)
  simp only [Nat.add_zero] at hst
  have hzc : (Builtin.zeroCells (Value.int .i64 0).cells 1).toList = [.int .i64 0] := by
    simp [Builtin.zeroCells, Value.cells]
    try rfl
  obtain ⟨i0, hi, hz0, hz1, hz2⟩ := info_parts Try.infoInt
  have hze : ∀ w, (zeroValue 3).run Try.prog w = .ok (.int .i64 0) w := fun w => by simp [zeroValue, typeInfo, hi, hz0]
  simp [Builtin.clear_, run_underlying Try.underlying30, hze, hzc, hst]

/-- What is known behind Delete. -/
def Deleted (lo g m cap i : Nat) (S : List Int) (w : World) (e : Ending) (w' : World) : Prop :=
  e = .returned (.slice (some ⟨g, 0, none⟩) m cap) ∧ Ints w' lo (.slice (some ⟨g, 0, none⟩) m cap) (S.eraseIdx i) ∧ Only (· = g) w w'

set_option maxRecDepth 100000 in
set_option maxHeartbeats 1000000 in
theorem delete_row (lo g m cap i : Nat) (S : List Int) (w : World) (hown : Ints w lo (.slice (some ⟨g, 0, none⟩) (m + 1) cap) S) (hS : S.length = m + 1) (hi : i < m + 1) (hb : m ≤ 6000000000000) :
    Calls Try.prog 69 #[.slice (some ⟨g, 0, none⟩) (m + 1) cap, .int .i64 i, .int .i64 ((i : Int) + 1)] w (Deleted lo g m cap i S w) := by
  obtain ⟨i0, hi0, hz0, hz1, hz2⟩ := info_parts Try.infoInt
  unfold Ints at hown
  rw [hS] at hown
  rcases hown with ⟨hlen, ⟨h1, _⟩ | ⟨g', cap', cur, h1, hlo, hg, hnc, hcm, hcs, htake⟩⟩
  · cases h1
  · cases h1
    rw [← flat_is] at htake
    have hcapm : cap ≤ 9223372036854775807 := by unfold maxLen at hcm; omega
    have hself : w.drew.heap[g]? = some (.cells cur 3 (0, 0)) := hg
    have hel : (S.eraseIdx i).length = m := by rw [List.length_eraseIdx, if_pos (by omega)]; omega
    obtain ⟨c1, hh1, hs1, ht1, hO1⟩ := heap_setCells (flat enc (S.drop (i + 1))) (0 + i * 1) w.drew cur hself
    obtain ⟨W1, hW1⟩ : ∃ W1, W1 = w.drew.setCells g (0 + i * 1) (flat enc (S.drop (i + 1))) := ⟨_, rfl⟩
    rw [← hW1] at hh1 hO1
    obtain ⟨c2, hh2, hs2, ht2, hO2⟩ := heap_setCells [.int .i64 0] m W1 c1 hh1
    have hcl : ∀ ty, (Builtin.clear_ #[30] ty #[.slice (some ⟨g, m, none⟩) 1 (cap - m)]).run Try.prog W1 = .ok (.tuple #[]) (W1.setCells g m [.int .i64 0]) := by
      intro ty
      refine run_clear _ ty g _ _ ?_ (frozen_at hh1 _)
      rw [cell_at hh1]
      simp; omega
    have HF := Lib.hid (show Deleted lo g m cap i S w (.returned (.slice (some ⟨g, 0, none⟩) m cap)) (W1.setCells g m [.int .i64 0]) from by
      refine ⟨rfl, ?_, ((Only.refl _ w).drew.trans hO1 (fun _ _ h => h)).trans hO2 (fun _ _ h => h)⟩
      unfold Ints
      rw [hel]
      refine ⟨by rw [numCells_len, hel, Nat.mul_one], Or.inr ⟨g, cap, c2, rfl, hlo, hh2, by omega, hcm, by omega, ?_⟩⟩
      have := flat_erased enc_len (i := i) [.int .i64 0] rfl hS hi (by rw [Array.length_toList, hcs]; omega) htake
      rw [ht2, ht1, Nat.zero_add, ← flat_is]
      simpa using this)
    have s1 : Hid ((flat enc (S.drop (i + 1))).length = m - i) := by show _ = _; rw [flat_len enc_len]; simp; omega
    have s2 : Hid (∀ u ∈ flat enc (S.drop (i + 1)), u.oneCell' = true) := flat_cells enc_one _
    have s3 : Hid (∀ j, j < (flat enc (S.drop (i + 1))).length → (w.drew.cell? ⟨g, 0 + i * 1 + j, none⟩).isSome = true ∧ w.drew.frozen? ⟨g, 0 + i * 1 + j, none⟩ = false) := by
      intro j hj
      have := s1.out
      refine ⟨?_, frozen_at hself _⟩
      rw [cell_at hself]
      simp; omega
    obtain ⟨A, hA, hsrc⟩ : ∃ A : Addr, (if cap = i + 1 then some (⟨g, 0, none⟩ : Addr) else some ⟨g, i + 1, none⟩) = some A ∧ Hid (∀ j u, (flat enc (S.drop (i + 1)))[j]? = some u → w.drew.cell? (A.add j) = some u) := by
      by_cases h : cap = i + 1
      · refine ⟨⟨g, 0, none⟩, by rw [if_pos h], fun j u hu => ?_⟩
        have := (List.getElem?_eq_some_iff.1 hu).1
        have := s1.out
        omega
      · refine ⟨⟨g, i + 1, none⟩, by rw [if_neg h], fun j u hu => ?_⟩
        have hj := (List.getElem?_eq_some_iff.1 hu).1
        have := s1.out
        have hsl := flat_len enc_len S
        rw [add_plain, cell_at hself]
        rw [← flat_drop enc_len, List.getElem?_drop, ← htake, List.getElem?_take_of_lt (by omega)] at hu
        simpa using hu
    have hW : Hid (W1 = w.drew.setCells g (0 + i * 1) (flat enc (S.drop (i + 1)))) := hW1
    clear hlen hg hcs htake hcm hself hh1 hs1 ht1 hO1 hW1 hh2 hs2 ht2 hO2 hS hel hz0 hz2
    generalize flat enc (S.drop (i + 1)) = news at *
    have e1 : (i : Int) + 1 ≤ (m : Int) + 1 := by omega
    have e2 : (i : Int) ≤ (m : Int) + 1 := by omega
    have e3 : ((i : Int) == (i : Int) + 1) = false := by simp; omega
    have e4 : ((i : Int) + 1).toNat = i + 1 := by omega
    have e5 : (0 : Int) ≤ (i : Int) + 1 := by omega
    have e6 : i ≤ m + 1 := by omega
    have e7 : i + 1 ≤ m + 1 := by omega
    have e8 : i ≤ cap := by omega
    go_enter Try.func69, Try.ntmps69
    go_wp2_with fail
    go_region_law (refine step_append_room rfl (.tmp 22) (.tmp 25) 30 rfl 3 i0 1 Try.underlying30 hi0 hz1 g 0 i cap (by simp [Act.eval, Act.put]) A (m - i) (cap - (i + 1)) news (by simp [Act.eval, Act.put]) (by rw [Nat.mul_one]; exact s1.out) hsrc.out s2.out (by omega) s3.out ?_; rw [← hW.out, show i + (m - i) = m from by omega])
    go_wp2
    go_ret
    exact HF.out
end Go.Proofs.Ytpincdcebhmnhaa.Pr
