/- What a walk is told of a slice of records that came in; and what a ring holds behind some Puts. -/
import Derived.Test.YtjeifpjjnfaefaaEq
import Derived.Deep.Matrix
namespace Go.Proofs.Ytjeifpjjnfaefaa
open Go.ChangeShapes Go.WideShapes Go.ChangeAt Go.RowKit
set_option linter.unusedVariables false

/-- A record that came in: a slice whose bytes are 'xs', with room as Go has it. -/
def RecAt (w : World) (v : Value) (xs : List Int) : Prop := ∃ a c, v = .slice a xs.length c ∧ xs.length ≤ c ∧ c ≤ maxLen ∧ Bytes w v xs ∧ ∀ x ∈ xs, (Lit.int .u8 x).wf = true

/-- A slice of records that came in. -/
def ArgRows (w : World) (a : Option Addr) (len cap : Nat) (recs : List (List Int)) : Prop :=
  len = recs.length ∧ len ≤ cap ∧ cap ≤ maxLen ∧ (a = none → cap = 0) ∧ ∀ j, j < recs.length → ∃ b off v, a = some ⟨b, off, none⟩ ∧ b < w.heap.size ∧ w.cell? ⟨b, off + j, none⟩ = some v ∧ RecAt w v (recs.getD j [])

theorem open_rows {H : Type} {enc : TypeId × Value → H} {w : World} {base fuel : Nat} {held : Bool} {a0 : Option Addr} {len cap : Nat} {x : DataW H × List MemPlace}
    (h : DataW.trod enc Try.prog w base (fun _ => true) held fuel 30 [.slice a0 len cap] = some x) : ∃ recs, ArgRows w a0 len cap recs := by
  rcases Deep.open_int_rows Try.underlying30 Try.underlying35 Try.underlying5 (by kernel_rfl) (by kernel_rfl) h with ⟨hcs, _⟩ | ⟨a, l, c, A, L, C, Z, hcs, _, hl, hm, _, hr⟩
  · cases hcs
    exact ⟨[], rfl, Nat.le_refl _, by unfold maxLen; omega, fun _ => rfl, fun j hj => by cases hj⟩
  · cases hcs
    refine ⟨(List.range len).map fun r => (Z r).take (L r), by simp, hl, hm, (fun e => by cases e), fun j hj => ?_⟩
    simp only [List.length_map, List.length_range] at hj
    obtain ⟨h1, h2, h3, h4, h5, h6, h7⟩ := hr j (by omega)
    have hsp : a.spot = none := by
      have := World.cell?_spot (hr 0 (by omega)).1
      simpa [Addr.add] using this
    have hbl := block_lt (hr 0 (by omega)).1
    obtain ⟨b, off, sp⟩ := a
    have hbl2 : b < w.heap.size := hbl
    simp only at hsp
    subst hsp
    have e : ((List.range len).map fun r => (Z r).take (L r)).getD j [] = (Z j).take (L j) := by simp [List.getD, hj]
    have el : ((Z j).take (L j)).length = L j := by rw [List.length_take]; omega
    rw [add_plain] at h1
    rw [e]
    refine ⟨b, off, _, rfl, hbl2, h1, A j, C j, by rw [el], by rw [el]; exact h2, h3, ⟨A j, C j, by rw [el], h6, fun hne => ?_⟩, fun x hx => h5 x (List.mem_of_mem_take hx)⟩
    have hpos : 0 < L j := by
      rcases Nat.eq_zero_or_pos (L j) with h0 | h0
      · exact absurd (by rw [h0]; simp) hne
      · exact h0
    cases hA : A j with
    | none => have := h6 hA; omega
    | some a' =>
      obtain ⟨_, h8⟩ := h7 a' hA
      have h80 := h8 0 (by omega)
      have hsp : a'.spot = none := by
        have := World.cell?_spot h80
        simpa [Addr.add] using this
      have hbl := block_lt h80
      obtain ⟨b', off', sp⟩ := a'
      have hbl2 : b' < w.heap.size := hbl
      simp only at hsp
      subst hsp
      refine ⟨b', off', rfl, hbl2, fun i hi => ?_⟩
      rw [el] at hi
      have := h8 i (by omega)
      rw [add_plain] at this
      rw [this]
      simp [List.getD, hi]

theorem RecAt.later {w w' : World} {v : Value} {xs : List Int} (h : RecAt w v xs) (hb : Below w.heap.size w w') : RecAt w' v xs := by
  obtain ⟨a, c, e, h1, h2, h3, h4⟩ := h
  exact ⟨a, c, e, h1, h2, h3.later hb, h4⟩

theorem Bytes.take {w : World} {a : Option Addr} {l c : Nat} {xs : List Int} (h : Bytes w (.slice a l c) xs) (n : Nat) : Bytes w (.slice a (min xs.length n) c) (xs.take n) := by
  obtain ⟨a', c', e, h1, h2⟩ := h
  cases e
  refine ⟨a, c, by rw [List.length_take, Nat.min_comm], h1, fun hne => ?_⟩
  obtain ⟨b, off, rfl, hb, hc⟩ := h2 (by rintro rfl; simp at hne)
  refine ⟨b, off, rfl, hb, fun j hj => ?_⟩
  rw [List.length_take] at hj
  rw [hc j (by omega)]
  simp [List.getD, show j < n by omega]

/-- The last records of some. -/
def lastN (size : Nat) (l : List (List Int)) : List (List Int) := l.drop (l.length - size)

theorem lastN_length (size : Nat) (l : List (List Int)) : (lastN size l).length = min l.length size := by unfold lastN; simp; omega

theorem pushed_lastN (size : Nat) (h : 1 ≤ size) (l : List (List Int)) (x : List Int) : pushed size (lastN size l) x = lastN size (l ++ [x]) := by
  unfold pushed
  rw [lastN_length]
  unfold lastN
  by_cases hl : size ≤ l.length
  · rw [if_pos (by omega), List.drop_append_of_le_length (l₁ := l.drop (l.length - size)) (by simp; omega), List.drop_drop]
    simp only [List.length_append, List.length_singleton]
    rw [List.drop_append_of_le_length (by omega)]
    congr 2; omega
  · rw [if_neg (by omega)]
    simp only [List.length_append, List.length_singleton]
    rw [show l.length - size = 0 by omega, show l.length + 1 - size = 0 by omega]
    rfl
end Go.Proofs.Ytjeifpjjnfaefaa
