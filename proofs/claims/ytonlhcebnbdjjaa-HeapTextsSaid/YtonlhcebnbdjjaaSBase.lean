/- Strings as keys: their order, and the contracts of cmp.Compare and precedes at strings. -/
import Derived.Test.YtonlhcebnbdjjaaBase
import Derived.Laws.Strings
import Derived.Laws.Cover1
import Derived.Lib.Bytes
namespace Go.Proofs.Ytonlhcebnbdjjaa.S
open Go.ChangeShapes Go.WideShapes Go.ChangeAt Go.RowKit
set_option linter.unusedVariables false

theorem bl_irrefl : ∀ x : List UInt8, Op.bytesLess x x = false
  | [] => rfl
  | a :: x => by simp [Op.bytesLess, bl_irrefl x]

theorem bl_trans : ∀ {x y z : List UInt8}, Op.bytesLess x y = true → Op.bytesLess y z = true → Op.bytesLess x z = true
  | _, [], _, h, _ => by simp [Op.bytesLess] at h
  | _, _ :: _, [], _, h => by simp [Op.bytesLess] at h
  | [], _ :: _, _ :: _, _, _ => rfl
  | a :: x, b :: y, c :: z, h1, h2 => by
    simp only [Op.bytesLess, Bool.or_eq_true, Bool.and_eq_true, decide_eq_true_eq, beq_iff_eq] at *
    rcases h1 with h1 | ⟨rfl, h1⟩
    · rcases h2 with h2 | ⟨rfl, h2⟩
      · exact Or.inl (UInt8.lt_trans h1 h2)
      · exact Or.inl h1
    · rcases h2 with h2 | ⟨rfl, h2⟩
      · exact Or.inl h2
      · exact Or.inr ⟨rfl, bl_trans h1 h2⟩

theorem bl_tri : ∀ {x y : List UInt8}, Op.bytesLess x y = false → Op.bytesLess y x = false → x = y
  | [], [], _, _ => rfl
  | [], _ :: _, h, _ => by simp [Op.bytesLess] at h
  | _ :: _, [], _, h => by simp [Op.bytesLess] at h
  | a :: x, b :: y, h1, h2 => by
    simp only [Op.bytesLess, Bool.or_eq_false_iff, Bool.and_eq_false_imp, decide_eq_false_iff_not, beq_iff_eq] at *
    have e : a = b := UInt8.le_antisymm (UInt8.not_lt.1 h2.1) (UInt8.not_lt.1 h1.1)
    subst e
    rw [bl_tri (h1.2 rfl) (h2.2 rfl)]

theorem list_inj {a b : ByteArray} (h : a.toList = b.toList) : a = b := by
  rw [Lib.toList_data, Lib.toList_data] at h
  exact ByteArray.ext (Array.toList_inj.1 h)

/-- The order of strings. -/
def sless (a b : ByteArray) : Bool := Op.bytesLess a.toList b.toList

theorem sless_irrefl (a : ByteArray) : sless a a = false := bl_irrefl _
theorem sless_trans {a b c : ByteArray} (h1 : sless a b = true) (h2 : sless b c = true) : sless a c = true := bl_trans h1 h2
theorem sless_tri {a b : ByteArray} (h1 : sless a b = false) (h2 : sless b a = false) : a = b := list_inj (bl_tri h1 h2)
theorem sless_asymm {a b : ByteArray} (h : sless a b = true) : sless b a = false := by
  cases g : sless b a with
  | false => rfl
  | true => have := sless_trans h g; rw [sless_irrefl] at this; cases this
theorem sless_ne {a b : ByteArray} (h : sless a b = true) : a ≠ b := by rintro rfl; rw [sless_irrefl] at h; cases h
theorem three (a b : ByteArray) : sless a b = true ∨ a = b ∨ sless b a = true := by
  cases h : sless a b with
  | true => exact Or.inl rfl
  | false =>
    cases g : sless b a with
    | true => exact Or.inr (Or.inr rfl)
    | false => exact Or.inr (Or.inl (sless_tri h g))

/-- What cmp.Compare answers of two strings. -/
def cmps (a b : ByteArray) : Int := if sless a b = true then -1 else if sless b a = true then 1 else 0

theorem nan_any (a : ByteArray) (w : World) : Calls Try.prog 77 #[.string a] w fun e w' => e = .returned (.bool false) ∧ w = w' := by
  go_enter Try.func77, Try.ntmps77
  go_wp2
  go_ret
  exact ⟨by simp, rfl⟩

theorem compare_any (a b : ByteArray) (w : World) : Calls Try.prog 69 #[.string a, .string b] w fun e w' => e = .returned (.int .i64 (cmps a b)) ∧ w = w' := by
  rcases three a b with h | rfl | h
  · have h1 : Op.bytesLess a.toList b.toList = true := h
    go_enter Try.func69, Try.ntmps69
    go_wp2_with (go_at_call 77; refine (nan_any _ _).mono ?_; rintro e w' ⟨rfl, rfl⟩)
    go_ret
    exact ⟨ret_int (by simp [cmps, h]), rfl⟩
  · have h1 : Op.bytesLess a.toList a.toList = false := bl_irrefl _
    have h2 : (a.toList == a.toList) = true := by simp
    go_enter Try.func69, Try.ntmps69
    go_wp2_with (go_at_call 77; refine (nan_any _ _).mono ?_; rintro e w' ⟨rfl, rfl⟩)
    go_ret
    exact ⟨ret_int (by simp [cmps, sless_irrefl]), rfl⟩
  · have h1 : Op.bytesLess a.toList b.toList = false := sless_asymm h
    have h2 : (a.toList == b.toList) = false := by simpa using fun e => sless_ne h (list_inj e).symm
    go_enter Try.func69, Try.ntmps69
    go_wp2_with (go_at_call 77; refine (nan_any _ _).mono ?_; rintro e w' ⟨rfl, rfl⟩)
    go_ret
    exact ⟨ret_int (by simp [cmps, h, sless_asymm h]), rfl⟩

/-- Which of two items comes first. -/
def prec (x y : Int × ByteArray) : Bool := decide (sless x.2 y.2 = true ∨ x.2 = y.2 ∧ x.1 < y.1)

/-- An item as a value. -/
def itemVal (x : Int × ByteArray) : Value := .agg #[.int .i64 x.1, .string x.2]

theorem orv_prec (x y : Int × ByteArray) : decide (orv (cmps x.2 y.2) (cmpi x.1 y.1) < 0) = prec x y := by
  unfold prec orv cmps cmpi
  rw [decide_eq_decide]
  rcases three x.2 y.2 with h | h | h
  · simp [h]
  · rw [h, sless_irrefl]
    simp only [Bool.false_eq_true, if_false, if_true, false_or, true_and]
    repeat (split <;> try omega)
  · rw [sless_asymm h, h]
    simp
    intro e
    exact absurd e.symm (sless_ne h)

set_option maxRecDepth 100000 in
theorem precedes_any (x y : Int × ByteArray) (w : World) :
    Calls Try.prog 53 #[itemVal x, itemVal y] w fun e w' => e = .returned (.bool (prec x y)) ∧ Below w.heap.size w w' := by
  unfold itemVal
  go_enter Try.func53, Try.ntmps53
  go_wp2_with fail
  go_region_held3 (fun w' => w'.cell? ⟨w.heap.size, 0, none⟩ = some (.int .i64 x.1) ∧ w'.cell? ⟨w.heap.size, 1, none⟩ = some (.string x.2) ∧ w'.cell? ⟨w.heap.size + 1, 0, none⟩ = some (.int .i64 y.1) ∧ w'.cell? ⟨w.heap.size + 1, 1, none⟩ = some (.string y.2)) (go_keep)
   (first
    | (go_at_call 69; refine (compare_any _ _ _).mono ?_; rintro e w' ⟨rfl, rfl⟩)
    | (go_at_call 23; refine (Ytonlhcebnbdjjaa.compare_any _ _ _).mono ?_; rintro e w' ⟨rfl, rfl⟩)
    | (go_at_call 22; refine (or_made _ _ _ _ (by simp)).mono ?_; rintro e w' ⟨rfl, rfl⟩))
  all_goals (generalize hv : decide (orv (cmps x.2 y.2) (cmpi x.1 y.1) < 0) = v; rw [orv_prec] at hv; subst hv; go_wp2; go_ret; exact ⟨rfl, below_boxes _ _ _ _⟩)
end Go.Proofs.Ytonlhcebnbdjjaa.S
