/- The contracts of bytes.Equal and slices.EqualFunc where both sides hold the same bytes. -/
import Derived.Test.YtjeifpjjnfaefaaFrom
import Derived.Laws.BytesArg
namespace Go.Proofs.Ytjeifpjjnfaefaa
open Go.ChangeShapes Go.WideShapes Go.ChangeAt Go.RowKit
set_option linter.unusedVariables false

/-- The string of some bytes. -/
def textOf (xs : List Int) : ByteArray := if xs = [] then ByteArray.empty else strOfNums xs

theorem bytes_text {w : World} {v : Value} {xs : List Int} (h : Bytes w v xs) : (convert 35 9 v).run Try.prog w = .ok (.string (textOf xs)) w := by
  obtain ⟨a, cap, rfl, h1, h2⟩ := h
  by_cases e : xs = []
  · subst e
    rw [List.length_nil]
    rw [run_convert_bytes_string w 35 9 5 _ 0 cap Try.underlying35 Try.underlying5 Try.underlying9]
    cases a <;> simp [Conv.bytesToString, loadCells, textOf]
    all_goals rfl
  · obtain ⟨b, off, rfl, hb, hc⟩ := h2 e
    unfold textOf
    rw [if_neg e]
    exact run_convert_bytes_arg (P := Try.prog) w 35 5 Try.underlying35 Try.underlying5 b off xs.length cap xs rfl hc 9 Try.underlying9

theorem equal_same (v v' : Value) (xs : List Int) (w : World) (h : Bytes w v xs) (h' : Bytes w v' xs) :
    Calls Try.prog 19 #[v, v'] w fun e w' => e = .returned (.bool true) ∧ w = w' := by
  have e1 := bytes_text h
  have e2 := bytes_text h'
  generalize textOf xs = s at *
  go_enter Try.func19, Try.ntmps19
  go_wp2
  go_ret
  exact ⟨by simp, rfl⟩

theorem RowsAt.shape {w : World} {base : Nat} {V : Value} {recs : List (List Int)} (h : RowsAt w base V recs) : ∃ a c, V = .slice a recs.length c ∧ ∀ j, j < recs.length → ∃ g v, a = some ⟨g, 0, none⟩ ∧ w.cell? ⟨g, j, none⟩ = some v ∧ Bytes w v (recs.getD j []) := by
  obtain ⟨vals, hv, ho, hr⟩ := h
  rcases ho.2 with ⟨rfl, h0⟩ | ⟨g, cap, cur, rfl, _, hg, h1, h2, _⟩
  · exact ⟨none, 0, by rw [h0], fun j hj => by omega⟩
  · refine ⟨some ⟨g, 0, none⟩, cap, rfl, fun j hj => ⟨g, vals.getD j (.slice none 0 0), rfl, ?_, (hr j hj).bytes⟩⟩
    rw [ho.cellAt j (by omega)]
    simp [List.getD, List.getElem?_eq_getElem (show j < vals.length by omega)]

/-- The rows of a slice, as they are read: at each place a slice of the record's bytes. -/
def ReadRows (w : World) (V : Value) (recs : List (List Int)) : Prop :=
  ∃ a c, V = .slice a recs.length c ∧ ∀ j, j < recs.length → ∃ b off v, a = some ⟨b, off, none⟩ ∧ w.cell? ⟨b, off + j, none⟩ = some v ∧ Bytes w v (recs.getD j [])

theorem RowsAt.read {w : World} {base : Nat} {V : Value} {recs : List (List Int)} (h : RowsAt w base V recs) : ReadRows w V recs := by
  obtain ⟨a, c, rfl, hr⟩ := h.shape
  refine ⟨a, c, rfl, fun j hj => ?_⟩
  obtain ⟨g, v, hg, hc, hb⟩ := hr j hj
  exact ⟨g, 0, v, hg, by rw [Nat.zero_add]; exact hc, hb⟩

set_option maxHeartbeats 1000000 in
theorem equal_rows (V V' : Value) (recs : List (List Int)) (w : World) (h : ReadRows w V recs) (h' : ReadRows w V' recs) (hl : recs.length ≤ 9223372036854775807) :
    Calls Try.prog 21 #[V, V', .func (Fn.func 19) #[] #[]] w fun e w' => e = .returned (.bool true) ∧ w = w' := by
  obtain ⟨a, c, rfl, hr⟩ := h
  obtain ⟨a', c', rfl, hr'⟩ := h'
  have HR := Lib.hid hr
  have HR' := Lib.hid hr'
  clear hr hr'
  go_enter Try.func21, Try.ntmps21
  go_wp2_with fail
  go_loop [7, 8, 9, 17, 18, 19, 20, 21, 22, 23, 24, 25, 26, 27, 28, 29, 30, 31] (fun _ _ _ i _ _ _ _ _ _ _ _ _ _ _ _ _ _ => ∃ k : Nat, k ≤ recs.length ∧ i = .int .i64 k) (fun _ _ _ i _ _ _ _ _ _ _ _ _ _ _ _ _ _ => recs.length - (intOf i).toNat)
  case atStart => exact ⟨0, Nat.zero_le _, rfl⟩
  case round =>
    obtain ⟨k, hk, rfl⟩ := hrel
    by_cases hlt : k < recs.length
    · obtain ⟨b, off, v, rfl, hc, hb⟩ := HR.out k hlt
      obtain ⟨b', off', v', rfl, hc', hb'⟩ := HR'.out k hlt
      have E := Lib.hid (equal_same v v' _ w hb hb')
      clear hb hb'
      go_wp2_with (go_at_call 19; refine E.out.mono ?_; rintro e w' ⟨rfl, rfl⟩)
      go_round
      case rel => exact ⟨k + 1, by omega, by go_num⟩
      case measure => simp [intOf]; omega
    · go_wp2
      go_ret
      exact ⟨rfl, rfl⟩
end Go.Proofs.Ytjeifpjjnfaefaa
