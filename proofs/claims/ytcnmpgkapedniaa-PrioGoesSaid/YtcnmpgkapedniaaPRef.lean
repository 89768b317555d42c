/- Contracts of the reference: within, Task, Of, Go, Turn, First of ringref1.Prio. -/
import Derived.Test.YtcnmpgkapedniaaPBits
namespace Go.Proofs.Ytcnmpgkapedniaa.Pr
open Go.ChangeShapes Go.WideShapes Go.ChangeAt Go.RowKit Go.Maps
set_option linter.unusedVariables false

theorem within_any (x a b : Int) (w : World) :
    Calls Try.prog 28 #[.int .i64 x, .int .i64 a, .int .i64 b] w fun e w' => e = .returned (.bool (decide (a ≤ x ∧ x ≤ b))) ∧ w = w' := by
  by_cases h1 : a ≤ x
  · by_cases h2 : x ≤ b
    · rw [decide_eq_true (p := a ≤ x ∧ x ≤ b) ⟨h1, h2⟩]
      go_enter Try.func28, Try.ntmps28
      go_wp2
      go_ret
      exact ⟨rfl, rfl⟩
    · rw [decide_eq_false (p := a ≤ x ∧ x ≤ b) (by omega)]
      go_enter Try.func28, Try.ntmps28
      go_wp2
      go_ret
      exact ⟨rfl, rfl⟩
  · rw [decide_eq_false (p := a ≤ x ∧ x ≤ b) (by omega)]
    go_enter Try.func28, Try.ntmps28
    go_wp2
    go_ret
    exact ⟨rfl, rfl⟩

/-- May this be the number of a task? -/
def isN (x : Int) : Bool := decide (1 ≤ x ∧ x ≤ 16)
theorem ref_task (x : Int) (w : World) : Calls Try.prog 12 #[.int .i64 x] w fun e w' => e = .returned (.bool (isN x)) ∧ w = w' := by
  have c := Lib.hid (within_any x 1 16 w)
  unfold isN
  generalize decide (1 ≤ x ∧ x ≤ 16) = b at *
  go_enter Try.func12, Try.ntmps12
  go_wp2_with (go_at_call 28; (with_reducible refine c.out.mono ?_); rintro e w' ⟨rfl, rfl⟩)
  go_ret
  exact ⟨rfl, rfl⟩

section
variable {w : World} {p o T : Nat} {V : Nat → Value} {Q : Qs}

/-- The priority of a task; -1: it is in none. -/
def ofQ (Q : Qs) (t : Int) : Int := match seek Q t with
  | some i => (i : Nat)
  | none => -1
theorem ofQ_some {Q : Qs} {t : Int} {i : Nat} (h : seek Q t = some i) : ofQ Q t = i := by unfold ofQ; simp only [h]
theorem ofQ_none {Q : Qs} {t : Int} (h : seek Q t = none) : ofQ Q t = -1 := by unfold ofQ; simp only [h]

set_option maxHeartbeats 1000000 in
theorem of_any (h : QAt w p o T V Q) (hl : ∀ i, i < 8 → (Q i).length ≤ 17000000000000) (t : Int) :
    Calls Try.prog 11 #[.pointer (some ⟨p, o, none⟩), .int .i64 t] w (IntOnly (ofQ Q t) w) := by
  have H := Lib.hid h
  have HL := Lib.hid hl
  clear hl h
  go_enter Try.func11, Try.ntmps11
  go_wp2_with fail
  go_loopw [5, 6, 9] (fun _ _ i wr => ∃ k : Nat, k ≤ 8 ∧ i = .int .i64 k ∧ (∀ j, j < k → t ∉ Q j) ∧ Only (fun _ => False) w wr) (fun _ _ i _ => 8 - (intOf i).toNat)
  case atStart => exact ⟨0, Nat.zero_le _, rfl, fun j hj => absurd hj (Nat.not_lt_zero _), Only.refl _ w⟩
  case round =>
    obtain ⟨k, hk, rfl, ht, hO⟩ := hrel
    have HT := Lib.hid ht
    have HO := Lib.hid hO
    clear ht hO
    by_cases hlt : k < 8
    · have H1 := Lib.hid (H.out.later HO.out)
      have c0 := H1.out.cell hlt
      have C := Lib.hid (fun (W : World) (hW : Only (fun _ => False) wr W) => contains_any (V k) (Q k) t W ((H1.out.later hW).row k hlt).nums (by have := HL.out k hlt; omega))
      obtain ⟨sa, sc, hv, -, -⟩ := (H1.out.row k hlt).shape
      rw [hv] at c0 C
      clear hv
      have g1 : (k : Int) < 8 := by omega
      by_cases hm : t ∈ Q k
      · rw [decide_eq_true hm] at C
        have HS := Lib.hid (show seek Q t = some k from seekTo_some hlt hm HT.out)
        clear hm
        go_wp2_with fail
        go_quiet (fail)
        go_wp2_with (go_at_call 27; (with_reducible refine (C.out _ ?_).mono ?_); (first | exact only_drewN (Only.refl _ _) _ | exact (Only.refl _ _).drew | exact Only.refl _ _); rintro e w1 ⟨rfl, hO1⟩; have HO1 := Lib.hid ((only_drewN HO.out _).trans hO1 (fun _ _ h => h)); clear hO1)
        go_ret
        exact int_is (ofQ_some HS.out) HO1.out
      · rw [decide_eq_false hm] at C
        have HM := Lib.hid hm
        clear hm
        go_wp2_with fail
        go_quiet (fail)
        go_wp2_with (go_at_call 27; (with_reducible refine (C.out _ ?_).mono ?_); (first | exact only_drewN (Only.refl _ _) _ | exact (Only.refl _ _).drew | exact Only.refl _ _); rintro e w1 ⟨rfl, hO1⟩; have HO1 := Lib.hid ((only_drewN HO.out _).trans hO1 (fun _ _ h => h)); clear hO1)
        go_roundw
        case rel => exact ⟨k + 1, by omega, by go_num, fun j hj => by
          by_cases e : j = k
          · subst e; exact HM.out
          · exact HT.out j (by omega), HO1.out⟩
        case measure => simp [intOf]; omega
    · obtain rfl : k = 8 := by omega
      go_wp2_with fail
      go_ret
      exact int_is (ofQ_none (seek_none HT.out)) HO.out

def rank (Q : Qs) (n : Nat) : Int := (Q n).getD 0 0
/-- What the reference's First answers. -/
def FirstRef (Q : Qs) (w : World) (e : Ending) (w' : World) : Prop :=
  match top Q with
  | some n => Pair ((Q n).getD 0 0) n w e w'
  | none => Pair 0 0 w e w'
theorem FirstRef.some {Q : Qs} {n : Nat} {w : World} {e : Ending} {w' : World} (hn : top Q = some n) (h : Pair ((Q n).getD 0 0) n w e w') : FirstRef Q w e w' := by unfold FirstRef; simpa only [hn] using h
theorem FirstRef.none {Q : Qs} {w : World} {e : Ending} {w' : World} (hn : top Q = none) (h : Pair 0 0 w e w') : FirstRef Q w e w' := by unfold FirstRef; simpa only [hn] using h
theorem firstref_is {Q : Qs} {f : Nat} {args : Array Value} {w : World} (h : Calls Try.prog f args w (FirstRef Q w)) {n : Nat} (hn : top Q = some n) : Calls Try.prog f args w (Pair ((Q n).getD 0 0) n w) := by
  unfold FirstRef at h
  simpa only [hn] using h
theorem firstref_not {Q : Qs} {f : Nat} {args : Array Value} {w : World} (h : Calls Try.prog f args w (FirstRef Q w)) (hn : top Q = none) : Calls Try.prog f args w (Pair 0 0 w) := by
  unfold FirstRef at h
  simpa only [hn] using h

theorem ref_first (h : QAt w p o T V Q) (hl : ∀ i, i < 8 → (Q i).length ≤ 17000000000000) :
    Calls Try.prog 17 #[.pointer (some ⟨p, o, none⟩)] w (FirstRef Q w) := by
  have H := Lib.hid h
  have HL := Lib.hid hl
  clear hl h
  go_enter Try.func17, Try.ntmps17
  go_wp2_with fail
  go_loopw [4] (fun i wr => ∃ (k : Nat) (z : Int), k ≤ 8 ∧ i = .int .i64 z ∧ z + 1 = k ∧ (∀ j, k ≤ j → j < 8 → Q j = []) ∧ Only (fun _ => False) w wr) (fun i _ => (intOf i + 1).toNat)
  case atStart => exact ⟨8, 7, Nat.le_refl _, rfl, rfl, fun j h1 h2 => by omega, Only.refl _ w⟩
  case round =>
    obtain ⟨k, z, hk, rfl, hz, ht, hO⟩ := hrel
    have HT := Lib.hid ht
    have HO := Lib.hid hO
    clear ht hO
    by_cases h0 : k = 0
    · obtain rfl : z = -1 := by omega
      subst h0
      go_wp2_with fail
      go_ret2
      exact FirstRef.none (top_none (fun j hj => HT.out j (Nat.zero_le _) hj)) ⟨rfl, HO.out⟩
    · obtain ⟨n, rfl⟩ : ∃ n : Nat, z = n := ⟨z.toNat, by omega⟩
      obtain rfl : k = n + 1 := by omega
      have hn : n < 8 := by omega
      have H1 := Lib.hid (H.out.later HO.out)
      have c0 := H1.out.cell hn
      have HLn := Lib.hid (HL.out n hn)
      have g1 : (n : Int) < 8 := by omega
      by_cases he : Q n = []
      · have HE := Lib.hid he
        obtain ⟨a, c, hv, -, -⟩ := (H1.out.row n hn).shape
        rw [hv, he] at c0
        clear he hz h0 hk hv
        go_wp2_with fail
        go_roundw
        case rel => exact ⟨n, (n : Int) - 1, by omega, by go_num, by omega, fun j h1 h2 => by
          by_cases e : j = n
          · subst e; exact HE.out
          · exact HT.out j (by omega) h2, HO.out⟩
        case measure => simp [intOf]; try omega
      · have HE := Lib.hid he
        obtain ⟨m, hm⟩ : ∃ m, (Q n).length = m + 1 := ⟨(Q n).length - 1, by have := List.length_pos_iff.2 he; omega⟩
        obtain ⟨g, c, hv, -, hg, HR⟩ := (H1.out.row n hn).at_block hm (by omega)
        have d0 := ints_cell HR (j := 0) (by omega)
        rw [hv] at c0
        rw [hm] at HLn
        have hmb : (m : Int) + 1 ≤ 17000000000000 := by have := HLn.out; omega
        clear he hz h0 hk hv HR hm
        go_wp2_with fail
        go_ret2
        exact FirstRef.some (top_some hn HE.out HT.out) ⟨rfl, HO.out⟩
end
end Go.Proofs.Ytcnmpgkapedniaa.Pr
