/- The closure that gives a number its text. -/
import Derived.Test.YtonlhcebnbdjjaaSBase
import Derived.Test.YtonlhcebnbdjjaaArgs
import Derived.IntWalk
import Derived.SliceStrings
namespace Go.Proofs.Ytonlhcebnbdjjaa.S
open Go.ChangeShapes Go.WideShapes Go.ChangeAt Go.RowKit
set_option linter.unusedVariables false

/-- A slice of texts that came in. -/
def TextRow (w : World) (a : Option Addr) (len : Nat) (ts : List ByteArray) : Prop :=
  len = ts.length ∧ len ≤ 9223372036854775807 ∧ ∀ i, i < ts.length → ∃ x : Addr, a = some x ∧ x.block < w.heap.size ∧ w.cell? (x.add i) = some (.string (ts.getD i ByteArray.empty))

theorem TextRow.later {w w' : World} {a : Option Addr} {len : Nat} {ts : List ByteArray} (h : TextRow w a len ts) (hb : Below w.heap.size w w') : TextRow w' a len ts := by
  obtain ⟨h1, h2, h3⟩ := h
  refine ⟨h1, h2, fun i hi => ?_⟩
  obtain ⟨x, rfl, hx, hc⟩ := h3 i hi
  have hlt := block_lt hc
  exact ⟨x, rfl, Nat.lt_of_lt_of_le hx hb.size, (hb.cell (p := x.add i) hlt).trans hc⟩

theorem open_texts {H : Type} {enc : TypeId × Value → H} {w : World} {base fuel : Nat} {held : Bool} {a0 : Option Addr} {len cap : Nat} {x : DataW H × List MemPlace}
    (h : DataW.trod enc Try.prog w base (fun _ => true) held fuel 31 [.slice a0 len cap] = some x) : ∃ ts, TextRow w a0 len ts := by
  rcases open_strings Try.underlying31 Try.underlying9 (by kernel_rfl) h with ⟨hcs, _⟩ | ⟨a, l, c, ss, hcs, _, hl, hm, hz, _, hcell, _⟩
  · cases hcs
    exact ⟨[], rfl, by omega, fun i hi => absurd hi (Nat.not_lt_zero _)⟩
  · cases hcs
    have hz2 : ss.length = cap := by simpa using hz
    have hlen : (ss.take len).length = len := by rw [List.length_take]; omega
    refine ⟨ss.take len, hlen.symm, by unfold maxLen at hm; omega, fun i hi => ?_⟩
    rw [hlen] at hi
    have hc := hcell i (by omega)
    refine ⟨a, rfl, add_block a i ▸ block_lt hc, ?_⟩
    rw [hc]
    congr 2
    simp [List.getD, hi]

/-- The text of a number. -/
def textOf (ts : List ByteArray) (n : Int) : ByteArray := ts.getD (restOf n ts.length).toNat ByteArray.empty

theorem u64_wrap (k : Int) : IntKind.u64.wrap k = k % 18446744073709551616 := by
  simp [IntKind.wrap, IntKind.signed, IntKind.bits]

set_option maxRecDepth 100000 in
theorem text_some (tb : Nat) (x : Addr) (len cap r : Nat) (n : Int) (t : ByteArray) (w : World) (hb : w.cell? ⟨tb, 0, none⟩ = some (.slice (some x) len cap)) (h0 : 0 < len) (hl : len ≤ 9223372036854775807) (hr : restOf n len = r) (hc : w.cell? (x.add r) = some (.string t)) :
    Calls Try.prog 17 #[.int .i64 n, .pointer (some ⟨tb, 0, none⟩)] w fun e w' => e = .returned (.string t) ∧ Only (fun _ => False) w w' := by
  have hlo := restOf_lo n len (by omega)
  have hhi := restOf_hi n len (by omega)
  have hn : ¬ IntKind.u64.wrap (len : Int) = 0 := by rw [u64_wrap]; omega
  have hz : ((len : Int) == 0) = false := by simp; omega
  have he : IntKind.i64.wrap ((IntKind.u64.wrap n).tmod (IntKind.u64.wrap len)) = r := by
    rw [u64_wrap, u64_wrap, Int.tmod_eq_emod_of_nonneg (by omega), show (len : Int) % 18446744073709551616 = len by omega]
    have e : n % 18446744073709551616 % (len : Int) = r := hr
    rw [e]
    simp [IntKind.wrap, IntKind.signed, IntKind.bits]
    omega
  have g1 : (r : Int) < len := by omega
  have g2 : (0 : Int) ≤ r := by omega
  go_enter Try.func17, Try.ntmps17
  go_wp2_with fail
  go_quiet (fail)
  go_wp2
  go_ret
  exact ⟨rfl, only_drewN (Only.refl _ w) _⟩

theorem text_none (tb : Nat) (a : Option Addr) (cap : Nat) (n : Int) (w : World) (hb : w.cell? ⟨tb, 0, none⟩ = some (.slice a 0 cap)) :
    Calls Try.prog 17 #[.int .i64 n, .pointer (some ⟨tb, 0, none⟩)] w fun e w' => e = .returned (.string ByteArray.empty) ∧ Only (fun _ => False) w w' := by
  go_enter Try.func17, Try.ntmps17
  go_wp2
  go_ret
  exact ⟨rfl, Only.refl _ w⟩

theorem text_any (tb : Nat) (a : Option Addr) (len cap : Nat) (n : Int) (ts : List ByteArray) (w : World) (hb : w.cell? ⟨tb, 0, none⟩ = some (.slice a len cap)) (ht : TextRow w a len ts) :
    Calls Try.prog 17 #[.int .i64 n, .pointer (some ⟨tb, 0, none⟩)] w fun e w' => e = .returned (.string (textOf ts n)) ∧ Only (fun _ => False) w w' := by
  obtain ⟨rfl, h2, h3⟩ := ht
  by_cases h0 : ts.length = 0
  · have e : ts = [] := List.eq_nil_of_length_eq_zero h0
    subst e
    have := text_none tb a cap n w hb
    exact this
  · have hlo := restOf_lo n ts.length (by omega)
    have hhi := restOf_hi n ts.length (by omega)
    obtain ⟨r, hr⟩ : ∃ r : Nat, restOf n ts.length = r := ⟨(restOf n ts.length).toNat, by omega⟩
    obtain ⟨x, rfl, hx, hc⟩ := h3 r (by omega)
    have e : textOf ts n = ts.getD r ByteArray.empty := by unfold textOf; rw [hr]; rfl
    rw [e]
    exact text_some tb x ts.length cap r n _ w hb (by omega) h2 hr hc
end Go.Proofs.Ytonlhcebnbdjjaa.S
