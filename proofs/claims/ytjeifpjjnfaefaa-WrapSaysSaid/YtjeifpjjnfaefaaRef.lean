/- The contracts of the reference's functions: Far by numbers of 64 bits, Last by a search. -/
import Derived.Test.YtjeifpjjnfaefaaLast
namespace Go.Proofs.Ytjeifpjjnfaefaa
open Go.ChangeShapes Go.WideShapes Go.ChangeAt Go.RowKit
set_option linter.unusedVariables false

theorem ref_far (a b : Int) (ha : 0 ≤ a ∧ a < 4294967296) (hb : 0 ≤ b ∧ b < 4294967296) (w : World) :
    Calls Try.prog 12 #[.int .u32 a, .int .u32 b] w fun e w' => e = .returned (.int .i64 (dist a b)) ∧ w = w' := by
  have e1 : wrap64 a = a := IntWalk.wrap64_in _ (by omega)
  have e2 : wrap64 b = b := IntWalk.wrap64_in _ (by omega)
  obtain ⟨a0, a1⟩ := ha
  obtain ⟨b0, b1⟩ := hb
  go_enter Try.func12, Try.ntmps12
  go_wp2
  go_loop [5, 11, 12, 13, 14] (fun t u11 u12 u13 u14 => ∃ d : Int, t = .int .i64 d ∧ -4294967296 < d ∧ d < 4294967296 ∧ (d + 8589934592) % 4294967296 = (b - a + 8589934592) % 4294967296) (fun t _ _ _ _ => (4294967296 - intOf t).toNat)
  case atStart => exact ⟨b - a, rfl, by omega, by omega, rfl⟩
  case round =>
    obtain ⟨d, rfl, h1, h2, h3⟩ := hrel
    have H3 := Lib.hid h3
    clear h3
    by_cases hd : d < -2147483648
    · go_wp2
      go_round
      case rel => exact ⟨d + 4294967296, rfl, by omega, by omega, by have := H3.out; omega⟩
      case measure => simp [intOf]; omega
    · go_wp2
      go_loop [5, 15, 16, 17, 18] (fun t u15 u16 u17 u18 => ∃ d : Int, t = .int .i64 d ∧ -2147483648 ≤ d ∧ d < 4294967296 ∧ (d + 8589934592) % 4294967296 = (b - a + 8589934592) % 4294967296) (fun t _ _ _ _ => (4294967296 + intOf t).toNat)
      case atStart => exact ⟨d, rfl, by omega, by omega, H3.out⟩
      case round =>
        obtain ⟨d, rfl, h1, h2, h3⟩ := hrel
        have H3 := Lib.hid h3
        clear h3
        by_cases hd : d < 2147483648
        · go_wp2
          go_ret
          exact ⟨ret_int (by have := H3.out; show d = _; unfold dist; omega), rfl⟩
        · go_wp2
          go_round
          case rel => exact ⟨d - 4294967296, rfl, by omega, by omega, by have := H3.out; omega⟩
          case measure => simp [intOf]; omega

theorem ref_one (p : Addr) (n m : Int) (hn : 0 ≤ n ∧ n < 4294967296) (hm : 0 ≤ m ∧ m < 4294967296) (w : World) (hc : w.cell? p = some (.int .u32 n)) :
    Calls Try.prog 28 #[.int .u32 m, .pointer (some p)] w fun e w' => e = .returned (.bool (decide (0 < dist n m))) ∧ w = w' := by
  have c := Lib.hid (ref_far n m hn hm)
  go_enter Try.func28, Try.ntmps28
  go_wp2_with (go_at_call 12; refine (c.out _).mono ?_; rintro e w' ⟨rfl, rfl⟩)
  go_ret
  exact ⟨rfl, rfl⟩

theorem ref_one_no (p : Addr) (n m : Int) (hn : 0 ≤ n ∧ n < 4294967296) (hm : 0 ≤ m ∧ m < 4294967296) (w : World) (hc : w.cell? p = some (.int .u32 n)) (h : dist n m ≤ 0) :
    Calls Try.prog 28 #[.int .u32 m, .pointer (some p)] w fun e w' => e = .returned (.bool false) ∧ w = w' := by
  refine (ref_one p n m hn hm w hc).mono ?_
  rintro e w' ⟨rfl, rfl⟩; exact ⟨by rw [decide_eq_false (by omega)], rfl⟩

theorem ref_one_yes (p : Addr) (n m : Int) (hn : 0 ≤ n ∧ n < 4294967296) (hm : 0 ≤ m ∧ m < 4294967296) (w : World) (hc : w.cell? p = some (.int .u32 n)) (h : 0 < dist n m) :
    Calls Try.prog 28 #[.int .u32 m, .pointer (some p)] w fun e w' => e = .returned (.bool true) ∧ w = w' := by
  refine (ref_one p n m hn hm w hc).mono ?_
  rintro e w' ⟨rfl, rfl⟩; exact ⟨by rw [decide_eq_true (by omega)], rfl⟩

/-- A number from 0 on was answered, and nothing changed. -/
def SomeNonneg (w : World) (e : Ending) (w' : World) : Prop := ∃ i : Int, 0 ≤ i ∧ e = .returned (.int .i64 i) ∧ w = w'

set_option maxHeartbeats 400000 in
theorem index_no (b off cap : Nat) (zs : List Int) (p : Addr) (n : Int) (hn : 0 ≤ n ∧ n < 4294967296) (w : World) (hl : zs.length ≤ 9223372036854775807) (hr : InRange zs)
    (hc : CellsAt w b off zs) (hp : w.cell? p = some (.int .u32 n)) (h : isLast zs n = true) :
    Calls Try.prog 33 #[.slice (some ⟨b, off, none⟩) zs.length cap, .func (Fn.func 28) #[] #[.pointer (some p)]] w fun e w' => e = .returned (.int .i64 (-1)) ∧ w = w' := by
  have HC := Lib.hid hc
  have Hr := Lib.hid hr
  have HL := Lib.hid ((isLast_iff zs n).1 h)
  have CN := Lib.hid (fun m hm hd => ref_one_no p n m hn hm w hp hd)
  clear hc hr h hn hp
  go_enter Try.func33, Try.ntmps33
  go_wp2
  go_loop [5, 8, 11, 16] (fun _ i _ _ => ∃ k : Nat, k ≤ zs.length ∧ i = .int .i64 k) (fun _ i _ _ => zs.length - (intOf i).toNat)
  case atStart => exact ⟨0, Nat.zero_le _, rfl⟩
  case round =>
    obtain ⟨k, hk, rfl⟩ := hrel
    by_cases hlt : k < zs.length
    · have hcell : w.cell? ⟨b, off + k, none⟩ = some (.int .u32 (zs.getD k 0)) := HC.out k hlt
      have c := Lib.hid (CN.out (zs.getD k 0) (Hr.out _ (getD_mem zs k hlt)) (HL.out _ (getD_mem zs k hlt)))
      generalize zs.getD k 0 = y at *
      go_wp2_with (go_at_call 28; refine c.out.mono ?_; rintro e w' ⟨rfl, rfl⟩)
      go_round
      case rel => exact ⟨k + 1, by omega, by go_num⟩
      case measure => simp [intOf]; omega
    · go_wp2
      go_ret
      exact ⟨rfl, rfl⟩

set_option maxHeartbeats 400000 in
theorem index_yes (b off cap : Nat) (zs : List Int) (p : Addr) (n : Int) (hn : 0 ≤ n ∧ n < 4294967296) (w : World) (hl : zs.length ≤ 9223372036854775807) (hr : InRange zs)
    (hc : CellsAt w b off zs) (hp : w.cell? p = some (.int .u32 n)) (h : isLast zs n = false) :
    Calls Try.prog 33 #[.slice (some ⟨b, off, none⟩) zs.length cap, .func (Fn.func 28) #[] #[.pointer (some p)]] w (SomeNonneg w) := by
  have HC := Lib.hid hc
  have Hr := Lib.hid hr
  have HL := Lib.hid (show ¬ ∀ y ∈ zs, dist n y ≤ 0 from fun g => by rw [(isLast_iff zs n).2 g] at h; cases h)
  have CN := Lib.hid (fun m hm hd => ref_one_no p n m hn hm w hp hd)
  have CY := Lib.hid (fun m hm hd => ref_one_yes p n m hn hm w hp hd)
  clear hc hr h hn hp
  go_enter Try.func33, Try.ntmps33
  go_wp2
  go_loop [5, 8, 11, 16] (fun _ i _ _ => ∃ k : Nat, k ≤ zs.length ∧ i = .int .i64 k ∧ ∀ j, j < k → dist n (zs.getD j 0) ≤ 0) (fun _ i _ _ => zs.length - (intOf i).toNat)
  case atStart => exact ⟨0, Nat.zero_le _, rfl, fun j hj => by omega⟩
  case round =>
    obtain ⟨k, hk, rfl, hall⟩ := hrel
    have HA := Lib.hid hall
    clear hall
    by_cases hlt : k < zs.length
    · have hcell : w.cell? ⟨b, off + k, none⟩ = some (.int .u32 (zs.getD k 0)) := HC.out k hlt
      by_cases hd : 0 < dist n (zs.getD k 0)
      · have c := Lib.hid (CY.out (zs.getD k 0) (Hr.out _ (getD_mem zs k hlt)) hd)
        clear hd
        generalize zs.getD k 0 = y at *
        go_wp2_with (go_at_call 28; refine c.out.mono ?_; rintro e w' ⟨rfl, rfl⟩)
        go_ret
        exact ⟨k, by omega, rfl, rfl⟩
      · have c := Lib.hid (CN.out (zs.getD k 0) (Hr.out _ (getD_mem zs k hlt)) (by omega))
        have HA' := Lib.hid (show ∀ j, j < k + 1 → dist n (zs.getD j 0) ≤ 0 from fun j hj => by
          by_cases e : j = k
          · subst e; omega
          · exact HA.out j (by omega))
        clear hd
        generalize zs.getD k 0 = y at *
        go_wp2_with (go_at_call 28; refine c.out.mono ?_; rintro e w' ⟨rfl, rfl⟩)
        go_round
        case rel => exact ⟨k + 1, by omega, by go_num, HA'.out⟩
        case measure => simp [intOf]; omega
    · exfalso
      refine HL.out fun y hy => ?_
      obtain ⟨j, hj, rfl⟩ := List.getElem_of_mem hy
      have := HA.out j (by omega)
      simpa [List.getD, List.getElem?_eq_getElem hj] using this

theorem contains_no (b off cap : Nat) (zs : List Int) (p : Addr) (n : Int) (hn : 0 ≤ n ∧ n < 4294967296) (w : World) (hl : zs.length ≤ 9223372036854775807) (hr : InRange zs)
    (hc : CellsAt w b off zs) (hp : w.cell? p = some (.int .u32 n)) (h : isLast zs n = true) :
    Calls Try.prog 27 #[.slice (some ⟨b, off, none⟩) zs.length cap, .func (Fn.func 28) #[] #[.pointer (some p)]] w fun e w' => e = .returned (.bool false) ∧ w = w' := by
  have c := Lib.hid (index_no b off cap zs p n hn w hl hr hc hp h)
  clear hr hc hp h hn
  go_enter Try.func27, Try.ntmps27
  go_wp2_with (go_at_call 33; refine c.out.mono ?_; rintro e w' ⟨rfl, rfl⟩)
  go_ret
  exact ⟨rfl, rfl⟩

theorem contains_yes (b off cap : Nat) (zs : List Int) (p : Addr) (n : Int) (hn : 0 ≤ n ∧ n < 4294967296) (w : World) (hl : zs.length ≤ 9223372036854775807) (hr : InRange zs)
    (hc : CellsAt w b off zs) (hp : w.cell? p = some (.int .u32 n)) (h : isLast zs n = false) :
    Calls Try.prog 27 #[.slice (some ⟨b, off, none⟩) zs.length cap, .func (Fn.func 28) #[] #[.pointer (some p)]] w fun e w' => e = .returned (.bool true) ∧ w = w' := by
  have c := Lib.hid (index_yes b off cap zs p n hn w hl hr hc hp h)
  clear hr hc hp h hn
  go_enter Try.func27, Try.ntmps27
  go_wp2_with (go_at_call 33; refine c.out.mono ?_; rintro e w' ⟨i, hi, rfl, rfl⟩)
  go_ret
  exact ⟨by simp, rfl⟩
end Go.Proofs.Ytjeifpjjnfaefaa
