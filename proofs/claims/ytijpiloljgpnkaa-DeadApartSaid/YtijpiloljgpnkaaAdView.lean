/- Slices of tasks in memory, wherever they lie. -/
import Derived.Test.YtijpiloljgpnkaaAUse
import Derived.Test.YtijpiloljgpnkaaAdPure
import Derived.Test.YtijpiloljgpnkaaInts
namespace Go.Proofs.Ytijpiloljgpnkaa.Ad
open Go.ChangeShapes Go.WideShapes Go.ChangeAt Go.RowKit
set_option linter.unusedVariables false

/-- A slice whose tasks are S, wherever they lie. -/
def UV (w : World) (v : Value) (S : List Use) : Prop :=
  ∃ a c, v = .slice a S.length c ∧ S.length ≤ c ∧ c ≤ 9223372036854775807 ∧ ∀ j, j < S.length → ∃ b off, a = some ⟨b, off, none⟩ ∧ b < w.heap.size ∧ w.cell? ⟨b, off + j * 2, none⟩ = some (.int .i64 (nthU S j).1) ∧ w.cell? ⟨b, off + j * 2 + 1, none⟩ = some (.int .i64 (nthU S j).2)

theorem UV.keep {N : Nat → Prop} {w w' : World} {v : Value} {S : List Use} (h : UV w v S) (hO : Only N w w') (hN : ∀ a l c, v = .slice (some a) l c → ¬ N a.block) : UV w' v S := by
  obtain ⟨a, c, rfl, h0, h1, h2⟩ := h
  refine ⟨a, c, rfl, h0, h1, fun j hj => ?_⟩
  obtain ⟨b, off, rfl, hb, hc, hd⟩ := h2 j hj
  have := hO.block b hb (hN _ _ _ rfl)
  refine ⟨b, off, rfl, Nat.lt_of_lt_of_le hb hO.size, ?_, ?_⟩
  · rw [← hc]; unfold World.cell?; rw [this]
  · rw [← hd]; unfold World.cell?; rw [this]
theorem UV.later {w w' : World} {v : Value} {S : List Use} (h : UV w v S) (hO : Only (fun _ => False) w w') : UV w' v S := h.keep hO (fun _ _ _ _ e => e)
theorem UV.nil (w : World) : UV w (.slice none 0 0) [] := ⟨none, 0, rfl, Nat.le_refl _, by omega, fun j hj => absurd hj (Nat.not_lt_zero _)⟩

theorem row_view {w : World} {B : Nat} {v : Value} {S : List Use} (h : Us.RowAt w B v S) : UV w v S := by
  rcases h.cases with ⟨rfl, rfl⟩ | ⟨g, cap, rfl, -, h1, h2, ⟨cur, hg⟩, h3⟩
  · exact UV.nil w
  · refine ⟨_, cap, rfl, h1, h2, fun j hj => ⟨g, 0, rfl, block_there hg, ?_⟩⟩
    have := h3 j hj
    rw [Nat.zero_add]
    exact this

/-- Some tasks of a slice, behind one another. -/
theorem UV.cut {w : World} {a : Option Addr} {n c : Nat} {S : List Use} (h : UV w (.slice a n c) S) (i m : Nat) (him : i + m ≤ n) {b off : Nat} (ha : a = some ⟨b, off, none⟩) {c' : Nat} (hc1 : m ≤ c') (hc2 : c' ≤ 9223372036854775807) :
    UV w (.slice (some ⟨b, off + i * 2, none⟩) m c') ((S.drop i).take m) := by
  obtain ⟨a', c0, e, h0, h1, h2⟩ := h
  cases e
  have hl : ((S.drop i).take m).length = m := by rw [List.length_take, List.length_drop]; omega
  refine ⟨_, c', by rw [hl], by rw [hl]; exact hc1, hc2, fun j hj => ?_⟩
  rw [hl] at hj
  obtain ⟨b', off', e', hb, q1, q2⟩ := h2 (i + j) (by omega)
  rw [ha] at e'
  cases e'
  have hn : nthU ((S.drop i).take m) j = nthU S (i + j) := by
    unfold nthU
    simp only [List.getD]
    rw [List.getElem?_take_of_lt hj, List.getElem?_drop]
  rw [hn]
  refine ⟨b, off + i * 2, rfl, hb, ?_, ?_⟩
  · rw [← q1]; congr 2; omega
  · rw [← q2]; congr 2; omega
end Go.Proofs.Ytijpiloljgpnkaa.Ad
