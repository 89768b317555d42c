/- Contracts of package prio: List, Bits. -/
import Derived.Test.YtcnmpgkapedniaaPTurn
namespace Go.Proofs.Ytcnmpgkapedniaa.Pr
open Go.ChangeShapes Go.WideShapes Go.ChangeAt Go.RowKit Go.Maps
set_option linter.unusedVariables false

/-- A mask of the first k places. -/
def bitsTo (f : Nat → Bool) : Nat → Nat
  | 0 => 0
  | k + 1 => bitsTo f k + if f k = true then 2 ^ k else 0
/-- Which queues have somebody. -/
def some? (Q : Qs) (k : Nat) : Bool := decide (0 < (Q k).length)
def bits (Q : Qs) : Nat := bitsTo (some? Q) 8

theorem bitsTo_lt (f : Nat → Bool) (k : Nat) : bitsTo f k < 2 ^ k := by
  induction k with
  | zero => simp [bitsTo]
  | succ k ih =>
    unfold bitsTo
    rw [Nat.pow_succ]
    split <;> omega

theorem or_all : ∀ k, k < 8 → ∀ b, b < 2 ^ k → Go.bits BinOp.or IntKind.i64 ((b : Nat) : Int) (wrap64 (2 ^ k)) = ((b + 2 ^ k : Nat) : Int) := by decide +kernel
theorem or_bit {k b : Nat} (hk : k < 8) (hb : b < 2 ^ k) : Go.bits BinOp.or IntKind.i64 (b : Int) (wrap64 (2 ^ k)) = ((b + 2 ^ k : Nat) : Int) := or_all k hk b hb

section
variable {w : World} {p o T : Nat} {V : Nat → Value} {Q : Qs}

theorem list_bad (h : QAt w p o T V Q) (v : Int) (hv : valid v = false) :
    Calls Try.prog 19 #[.pointer (some ⟨p, o, none⟩), .int .i64 v] w fun e w' => e = .returned (.tuple #[.slice none 0 0, .int .i64 1]) ∧ Only (fun _ => False) w w' := by
  have C := Lib.hid (fun w => valid_any v w)
  rw [hv] at C
  clear h hv
  go_enter Try.func19, Try.ntmps19
  go_wp2_with (go_at_call 25; (with_reducible refine (C.out _).mono ?_); rintro e w1 ⟨rfl, rfl⟩)
  go_ret2
  exact ⟨rfl, Only.refl _ _⟩

/-- A copy of a queue was answered. -/
def Listed (xs : List Int) (w : World) (e : Ending) (w' : World) : Prop := ∃ v, e = .returned (.tuple #[v, .int .i64 0]) ∧ Ints w' w.heap.size v xs ∧ Only (fun _ => False) w w'

theorem list_yes (h : QAt w p o T V Q) (v : Nat) (hv : v < 8) (hl : (Q v).length ≤ 17000000000000) :
    Calls Try.prog 19 #[.pointer (some ⟨p, o, none⟩), .int .i64 v] w (Listed (Q v) w) := by
  have C := Lib.hid (fun w => valid_any v w)
  rw [show valid (v : Int) = true from decide_eq_true (by omega)] at C
  have c0 := h.cell hv
  have D := Lib.hid (clone_ints (V v) (Q v) w (h.row v hv).nums (h.row v hv).nil_cap hl)
  obtain ⟨sa, sc, hsv, -, -⟩ := (h.row v hv).shape
  rw [hsv] at c0 D
  clear h hsv hl
  have g1 : (v : Int) < 8 := by omega
  go_enter Try.func19, Try.ntmps19
  go_wp2_with (first
    | (go_at_call 25; (with_reducible refine (C.out _).mono ?_); rintro e w1 ⟨rfl, rfl⟩)
    | (go_at_call 30; (with_reducible refine D.out.mono ?_); rintro e w1 ⟨v', rfl, hr, hO⟩; have HR := Lib.hid hr; have HO := Lib.hid hO; clear hr hO))
  go_ret2
  exact ⟨_, rfl, HR.out, HO.out⟩

theorem bits_any (h : QAt w p o T V Q) (hl : ∀ i, i < 8 → (Q i).length ≤ 17000000000000) :
    Calls Try.prog 9 #[.pointer (some ⟨p, o, none⟩)] w (IntOnly (bits Q) w) := by
  have H := Lib.hid h
  have HL := Lib.hid hl
  have HX := Lib.hid (index_arr V)
  have HA := Lib.hid (load_arr h)
  clear hl h
  generalize arrOf V = arr at *
  go_enter Try.func9, Try.ntmps9
  go_wp2_with (refine wpList_load_known rfl 29 _ rfl ⟨p, o, none⟩ rfl (.agg arr) HA.out ?_)
  go_loopw [3, 4, 5, 10] (fun b _ _ i wr => ∃ k : Nat, k ≤ 8 ∧ i = .int .i64 k ∧ b = .int .i64 (bitsTo (some? Q) k : Nat) ∧ Only (fun _ => False) w wr) (fun _ _ _ i _ => 8 - (intOf i).toNat)
  case atStart => exact ⟨0, Nat.zero_le _, rfl, rfl, Only.refl _ w⟩
  case round =>
    obtain ⟨k, hk, rfl, rfl, hO⟩ := hrel
    have HO := Lib.hid hO
    clear hO
    by_cases hlt : k < 8
    · have ix := HX.out k hlt
      have g1 : (k : Int) < 8 := by omega
      obtain ⟨a, c, hv, -, -⟩ := (H.out.row k hlt).shape
      rw [hv] at ix
      clear hv
      have hb := bitsTo_lt (some? Q) k
      have HS := Lib.hid (show bitsTo (some? Q) (k + 1) = bitsTo (some? Q) k + if some? Q k = true then 2 ^ k else 0 from rfl)
      have HL1 := HL.out k hlt
      by_cases hn : (Q k).length = 0
      · have HE : Hid (bitsTo (some? Q) (k + 1) = bitsTo (some? Q) k) := by have := HS.out; simp [some?, hn] at this; exact this
        rw [hn] at ix
        clear HS hb hn
        generalize bitsTo (some? Q) k = b at *
        go_wp2_with fail
        go_roundw
        case rel => exact ⟨k + 1, by omega, by go_num, by rw [HE.out], HO.out⟩
        case measure => simp [intOf]; omega
      · have HE : Hid (bitsTo (some? Q) (k + 1) = bitsTo (some? Q) k + 2 ^ k) := by have := HS.out; simp [some?, show 0 < (Q k).length by omega] at this; exact this
        have hn' : (0 : Int) < ((Q k).length : Int) := by omega
        generalize (Q k).length = n at *
        clear HS hn
        generalize bitsTo (some? Q) k = b at *
        go_wp2_with fail
        go_roundw
        case rel => exact ⟨k + 1, by omega, by go_num, by rw [HE.out, or_bit hlt hb], HO.out⟩
        case measure => simp [intOf]; omega
    · obtain rfl : k = 8 := by omega
      go_wp2_with fail
      go_ret
      exact int_is rfl HO.out
end
end Go.Proofs.Ytcnmpgkapedniaa.Pr
