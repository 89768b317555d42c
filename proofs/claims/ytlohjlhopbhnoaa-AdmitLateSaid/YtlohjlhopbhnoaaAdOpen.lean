/- What a walk is told of a slice of tasks that came in. -/
import Derived.Test.YtlohjlhopbhnoaaAdView
import Derived.Deep.SlicePairs
namespace Go.Proofs.Ytlohjlhopbhnoaa.Ad
open Go.ChangeShapes Go.WideShapes Go.ChangeAt Go.RowKit
set_option linter.unusedVariables false

theorem uv_len {w : World} {a : Option Addr} {n c : Nat} {S : List Use} (h : UV w (.slice a n c) S) : S.length = n := by
  obtain ⟨a', c', e, -⟩ := h
  cases e; rfl

theorem open_uses {H : Type} {enc : TypeId × Value → H} {w : World} {base fuel : Nat} {held : Bool} {a0 : Option Addr} {len cap : Nat} {x : DataW H × List MemPlace}
    (h : DataW.trod enc Try.prog w base (fun _ => true) held fuel 22 [.slice a0 len cap] = some x) : ∃ S, UV w (.slice a0 len cap) S := by
  rcases Deep.open_slice_pairs Try.underlying22 Try.underlying40 (by kernel_rfl) rfl rfl (by kernel_rfl) (by kernel_rfl) h with ⟨hcs, _⟩ | ⟨a, l, c, m, n, V0, V1, D0, D1, P0, P1, hcs, _, hl, hm, hmm, _, hr⟩
  · cases hcs
    exact ⟨[], UV.nil w⟩
  · cases hcs
    have hml : len ≤ m := by rw [hmm]; simp; omega
    have hlen : ((List.range len).map fun i => (intOf (V0 i), intOf (V1 i))).length = len := by simp
    refine ⟨(List.range len).map fun i => (intOf (V0 i), intOf (V1 i)), some a, cap, by rw [hlen], by rw [hlen]; exact hl, by unfold maxLen at hm; omega, fun j hj => ?_⟩
    rw [hlen] at hj
    obtain ⟨h1, h2, h3, h4⟩ := hr j (by omega)
    obtain ⟨n0, e0, -, -⟩ := DataW.trod_int Try.underlying3 h3
    obtain ⟨n1, e1, -, -⟩ := DataW.trod_int Try.underlying3 h4
    simp only [List.cons.injEq, and_true] at e0 e1
    have hsp : a.spot = none := by
      have := World.cell?_spot (hr 0 (by omega)).1
      simpa [Addr.add] using this
    have hbl := block_lt (hr 0 (by omega)).1
    obtain ⟨b, off, sp⟩ := a
    have hbl2 : b < w.heap.size := hbl
    simp only at hsp
    subst hsp
    rw [add_plain] at h1 h2
    have hn : nthU ((List.range len).map fun i => (intOf (V0 i), intOf (V1 i))) j = (n0, n1) := by
      unfold nthU
      simp [List.getD, hj, e0, e1, intOf]
    rw [hn]
    exact ⟨b, off, rfl, hbl2, by rw [h1, e0], by rw [show off + j * 2 + 1 = off + (j * 2 + 1) by omega, h2, e1]⟩
end Go.Proofs.Ytlohjlhopbhnoaa.Ad
