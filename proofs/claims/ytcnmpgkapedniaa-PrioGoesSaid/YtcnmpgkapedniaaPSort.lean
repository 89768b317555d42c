/- slices.SortStableFunc of at most 20 numbers, at the closure of PrioGoes: insertion sort, stable. -/
import Derived.Test.YtcnmpgkapedniaaPB
import Derived.Test.YtcnmpgkapedniaaPTwo
namespace Go.Proofs.Ytcnmpgkapedniaa.Pr
open Go.ChangeShapes Go.WideShapes Go.ChangeAt Go.RowKit Go.Maps
set_option linter.unusedVariables false

/-- The priority of the task of a place. -/
def keyOf (xs : List Int) (i : Int) : Int := restOf (xs.getD i.toNat 0) 8
theorem keyOf_lo (xs : List Int) (i : Int) : 0 ≤ keyOf xs i := restOf_lo _ 8 (by omega)
theorem keyOf_hi (xs : List Int) (i : Int) : keyOf xs i < 8 := restOf_hi _ 8 (by omega)

/-- The captured slice, and its numbers. -/
structure Caught (w : World) (B : Nat) (a : Option Addr) (c : Nat) (xs : List Int) : Prop where
  box : w.heap[B]? = some (.cells #[.slice a xs.length c] 28 (0, 0))
  nums : Nums w (.slice a xs.length c) xs

section
variable {w w' : World} {B c : Nat} {a : Option Addr} {xs : List Int}
theorem Caught.keep {S : Nat → Prop} (h : Caught w B a c xs) (hO : Only S w w') (hB : ¬ S B) (hS : ∀ x, a = some x → ¬ S x.block) : Caught w' B a c xs :=
  ⟨by rw [hO.block B (block_there h.box) hB]; exact h.box, h.nums.keep hO (fun x l c' e => by cases e; exact hS x rfl)⟩
theorem Caught.later (h : Caught w B a c xs) (hO : Only (fun _ => False) w w') : Caught w' B a c xs := h.keep hO id (fun _ _ => id)

set_option maxHeartbeats 1000000 in
theorem cmp_any (h : Caught w B a c xs) (i j : Nat) (hi : i < xs.length) (hj : j < xs.length) (hl : xs.length ≤ 1000) :
    Calls Try.prog 24 #[.int .i64 i, .int .i64 j, .pointer (some ⟨B, 0, none⟩)] w fun e w' => e = .returned (.int .i64 (keyOf xs j - keyOf xs i)) ∧ ∃ m, w' = w.drewN m := by
  have c0 : w.cell? ⟨B, 0, none⟩ = some (.slice a xs.length c) := by rw [cell_at h.box]; rfl
  obtain ⟨b, off, rfl, -, ci⟩ := h.nums.at hi
  obtain ⟨b', off', e, -, cj⟩ := h.nums.at hj
  cases e
  have HX := Lib.hid (show keyOf xs i = restOf (xs.getD i 0) 8 from rfl)
  have HY := Lib.hid (show keyOf xs j = restOf (xs.getD j 0) 8 from rfl)
  have RX := Lib.hid (fun (x : Int) m => (rest_any x 8 (by omega) (by omega) (w.drewN m)).mono (fun e w' h => (⟨h.1, h.2.symm⟩ : e = .returned (.int .i64 (restOf x 8)) ∧ w' = w.drewN m)))
  have x0 := restOf_lo (xs.getD i 0) 8 (by omega)
  have x1 := restOf_hi (xs.getD i 0) 8 (by omega)
  have y0 := restOf_lo (xs.getD j 0) 8 (by omega)
  have y1 := restOf_hi (xs.getD j 0) 8 (by omega)
  have g1 : (i : Int) < xs.length := by omega
  have g2 : (j : Int) < xs.length := by omega
  have KX := Lib.hid (RX.out (xs.getD i 0))
  have KY := Lib.hid (RX.out (xs.getD j 0))
  rw [HX.out, HY.out]
  clear h RX HX HY
  generalize xs.length = n at *
  generalize restOf (xs.getD i 0) 8 = rx at *
  generalize restOf (xs.getD j 0) 8 = ry at *
  generalize xs.getD i 0 = x at *
  generalize xs.getD j 0 = y at *
  go_enter Try.func24, Try.ntmps24
  go_wp2_with fail
  go_quiet (first
    | (go_at_call 22; (with_reducible exact Calls.quiet_of_same (KX.out _)))
    | (go_at_call 22; (with_reducible exact Calls.quiet_of_same (KY.out _))))
  go_wp2_with fail
  go_ret
  exact ⟨rfl, _, rfl⟩
end

/-- The places sorted: each one's priority is no greater than those ahead of it, among the first i, but for place j. -/
def Ord (k : Int → Int) (S : List Int) (i j : Nat) : Prop := ∀ a b, a < b → b ≤ i → b ≠ j → k (S.getD b 0) ≤ k (S.getD a 0)
def SortedTo (k : Int → Int) (S : List Int) (i : Nat) : Prop := ∀ a b, a < b → b < i → k (S.getD b 0) ≤ k (S.getD a 0)
/-- The same places, those of one priority in the same order. -/
structure Same (k : Int → Int) (S0 S : List Int) : Prop where
  len : S.length = S0.length
  filt : ∀ q, S.filter (fun x => decide (k x = q)) = S0.filter (fun x => decide (k x = q))
theorem Same.refl (k : Int → Int) (S : List Int) : Same k S S := ⟨rfl, fun _ => rfl⟩
theorem Same.mem {k : Int → Int} {S0 S : List Int} (h : Same k S0 S) {x : Int} (hx : x ∈ S) : x ∈ S0 := by
  have : x ∈ S.filter (fun y => decide (k y = k x)) := List.mem_filter.2 ⟨hx, by simp⟩
  rw [h.filt] at this
  exact (List.mem_filter.1 this).1

theorem Ord.start {k : Int → Int} {S : List Int} {i : Nat} (h : SortedTo k S i) : Ord k S i i := fun a b hab hb hne => h a b hab (by omega)
theorem Ord.done {k : Int → Int} {S : List Int} {i j : Nat} (h : Ord k S i j) (hj : j = 0 ∨ ∃ m, j = m + 1 ∧ k (S.getD j 0) ≤ k (S.getD m 0)) : SortedTo k S (i + 1) := by
  intro a b hab hb
  by_cases e : b = j
  · subst e
    rcases hj with rfl | ⟨m, rfl, hm⟩
    · omega
    · by_cases e : a = m
      · subst e; exact hm
      · exact Int.le_trans hm (h a m (by omega) (by omega) (by omega))
  · exact h a b hab (by omega) e

/-- Two neighbours exchanged. -/
def swapAt (S : List Int) (m : Nat) : List Int := (S.set (m + 1) (S.getD m 0)).set m (S.getD (m + 1) 0)
theorem swapAt_len (S : List Int) (m : Nat) : (swapAt S m).length = S.length := by simp [swapAt]
theorem swapAt_get (S : List Int) {m : Nat} (hm : m + 1 < S.length) (t : Nat) : (swapAt S m).getD t 0 = if t = m then S.getD (m + 1) 0 else if t = m + 1 then S.getD m 0 else S.getD t 0 := by
  unfold swapAt
  simp only [List.getD_eq_getElem?_getD, List.getElem?_set, List.length_set]
  by_cases e : t = m
  · subst e
    simp [show t < S.length by omega]
  · rw [if_neg (Ne.symm e), if_neg e]
    by_cases e2 : t = m + 1
    · subst e2
      simp [hm]
    · rw [if_neg (Ne.symm e2), if_neg e2]

theorem Ord.swap {k : Int → Int} {S : List Int} {i m : Nat} (h : Ord k S i (m + 1)) (hi : m + 1 ≤ i) (hl : i < S.length) (hk : k (S.getD m 0) < k (S.getD (m + 1) 0)) : Ord k (swapAt S m) i m := by
  intro a b hab hb hne
  rw [swapAt_get S (by omega), swapAt_get S (by omega), if_neg hne]
  by_cases e1 : b = m + 1
  · rw [if_pos e1]
    by_cases e2 : a = m
    · rw [if_pos e2]; omega
    · rw [if_neg e2, if_neg (by omega)]
      exact h a m (by omega) (by omega) (by omega)
  · rw [if_neg e1]
    by_cases e2 : a = m
    · rw [if_pos e2]; exact h (m + 1) b (by omega) hb e1
    · rw [if_neg e2]
      by_cases e3 : a = m + 1
      · rw [if_pos e3]; exact h m b (by omega) hb e1
      · rw [if_neg e3]; exact h a b hab hb e1

theorem swap_split {S : List Int} {m : Nat} (hm : m + 1 < S.length) : ∃ A B, S = A ++ S.getD m 0 :: S.getD (m + 1) 0 :: B ∧ swapAt S m = A ++ S.getD (m + 1) 0 :: S.getD m 0 :: B := by
  have e : S = S.take m ++ S.getD m 0 :: S.getD (m + 1) 0 :: S.drop (m + 2) := by
    have h1 : S.drop m = S[m] :: S.drop (m + 1) := List.drop_eq_getElem_cons (by omega)
    have h2 : S.drop (m + 1) = S[m + 1] :: S.drop (m + 2) := List.drop_eq_getElem_cons hm
    have g1 : S.getD m 0 = S[m] := by simp [List.getD, show m < S.length by omega]
    have g2 : S.getD (m + 1) 0 = S[m + 1] := by simp [List.getD, hm]
    rw [g1, g2, ← h2, ← h1, List.take_append_drop]
  refine ⟨S.take m, S.drop (m + 2), e, ?_⟩
  have hl : (S.take m).length = m := by rw [List.length_take]; omega
  unfold swapAt
  generalize S.getD m 0 = x at *
  generalize S.getD (m + 1) 0 = y at *
  generalize S.take m = A at *
  generalize S.drop (m + 2) = R at *
  subst hl
  rw [e, List.set_append_right _ _ (by omega), List.set_append_right _ _ (by omega)]
  simp

theorem Same.swap {k : Int → Int} {S0 S : List Int} (h : Same k S0 S) {m : Nat} (hm : m + 1 < S.length) (hk : k (S.getD m 0) < k (S.getD (m + 1) 0)) : Same k S0 (swapAt S m) := by
  refine ⟨(swapAt_len S m).trans h.len, fun q => ?_⟩
  rw [← h.filt q]
  obtain ⟨A, R, e1, e2⟩ := swap_split hm
  generalize S.getD m 0 = x at *
  generalize S.getD (m + 1) 0 = y at *
  rw [e2]
  conv => rhs; rw [e1]
  rw [List.filter_append, List.filter_append]
  congr 1
  by_cases hx : k x = q
  · have hy : ¬ k y = q := by omega
    simp [hx, hy]
  · simp [List.filter_cons, hx]

section
variable {w w' : World} {B c g n cap : Nat} {a : Option Addr} {xs S0 S : List Int}

/-- Two neighbours exchanged in memory, in either order. -/
theorem swap_mem (h : Ints w 0 (.slice (some ⟨g, 0, none⟩) n cap) S) (m : Nat) :
    Ints ((w.setCell ⟨g, m + 1, none⟩ (.int .i64 (S.getD m 0))).setCell ⟨g, m, none⟩ (.int .i64 (S.getD (m + 1) 0))) 0 (.slice (some ⟨g, 0, none⟩) n cap) (swapAt S m) ∧
    Ints ((w.setCell ⟨g, m, none⟩ (.int .i64 (S.getD (m + 1) 0))).setCell ⟨g, m + 1, none⟩ (.int .i64 (S.getD m 0))) 0 (.slice (some ⟨g, 0, none⟩) n cap) (swapAt S m) := by
  refine ⟨ints_set (ints_set h _ _) _ _, ?_⟩
  have := ints_set (ints_set h m (S.getD (m + 1) 0)) (m + 1) (S.getD m 0)
  rw [List.set_comm _ _ (by omega)] at this
  exact this
theorem only_two (w : World) (g i j : Nat) (u v : Value) : Only (· = g) w ((w.setCell ⟨g, i, none⟩ u).setCell ⟨g, j, none⟩ v) :=
  ((Only.refl (S := fun k => k = g) w).setCell (p := ⟨g, i, none⟩) rfl _).setCell (p := ⟨g, j, none⟩) rfl _

/-- What holds in the sorting. -/
structure Srt (w wr : World) (B : Nat) (a : Option Addr) (c : Nat) (xs : List Int) (g n cap : Nat) (S0 S : List Int) : Prop where
  row : Ints wr 0 (.slice (some ⟨g, 0, none⟩) n cap) S
  cau : Caught wr B a c xs
  same : Same (keyOf xs) S0 S
  only : Only (· = g) w wr

theorem Srt.val {wr : World} (h : Srt w wr B a c xs g n cap S0 S) (hS0 : S0 = (List.range n).map Int.ofNat) (hn : n = xs.length) {j : Nat} (hj : j < n) : ∃ k : Nat, S.getD j 0 = k ∧ k < xs.length ∧ wr.cell? ⟨g, j, none⟩ = some (.int .i64 k) := by
  have hl : S.length = n := by rw [h.same.len, hS0]; simp
  have hm : S.getD j 0 ∈ S := by simp [List.getD, show j < S.length by omega]
  have := h.same.mem hm
  rw [hS0, List.mem_map] at this
  obtain ⟨k, hk, e⟩ := this
  have e : (k : Int) = S.getD j 0 := e
  refine ⟨k, e.symm, ?_, ?_⟩
  · rw [List.mem_range] at hk; omega
  · rw [e]; exact ints_cell h.row (by omega)

theorem Srt.draw {wr : World} (h : Srt w wr B a c xs g n cap S0 S) (m : Nat) : Srt w (wr.drewN m) B a c xs g n cap S0 S :=
  ⟨h.row.later (only_drewN (Only.refl _ _) m), h.cau.later (only_drewN (Only.refl _ _) m), h.same, only_drewN h.only m⟩
end
end Go.Proofs.Ytcnmpgkapedniaa.Pr
