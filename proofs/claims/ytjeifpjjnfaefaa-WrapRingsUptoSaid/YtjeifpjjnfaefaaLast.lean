/- The contracts of the functions that look for the last of some numbers: walk and Last of package wrap. -/
import Derived.Test.YtjeifpjjnfaefaaRows
import Derived.WalkKit
import Derived.ProofKit
import Derived.OpenShut
import Derived.Outline
import Derived.Lib.Hide
import Derived.Test.YtjeifpjjnfaefaaBase
namespace Go.Proofs.Ytjeifpjjnfaefaa
open Go.ChangeShapes Go.WideShapes Go.ChangeAt Go.RowKit
set_option linter.unusedVariables false

/-- One step of a walk: to a number that stands ahead. -/
def stepTo (x y : Int) : Int := if 0 < dist x y then y else x
/-- A walk through some numbers, each time to one that stands ahead. -/
def walkOf (zs : List Int) (x : Int) : Int := zs.foldl stepTo x

theorem walkOf_snoc (zs : List Int) (k : Nat) (hk : k < zs.length) (x : Int) : walkOf (zs.take (k + 1)) x = stepTo (walkOf (zs.take k) x) (zs.getD k 0) := by
  unfold walkOf
  rw [List.take_add_one, List.foldl_append]
  simp [List.getD, List.getElem?_eq_getElem hk]

/-- The cells of a slice of numbers of 32 bits. -/
def CellsAt (w : World) (b off : Nat) (zs : List Int) : Prop := ∀ j, j < zs.length → w.cell? ⟨b, off + j, none⟩ = some (.int .u32 (zs.getD j 0))

theorem walk_none (a : Option Addr) (cap : Nat) (x : Int) (w : World) :
    Calls Try.prog 26 #[.slice a 0 cap, .int .u32 x] w fun e w' => e = .returned (.int .u32 x) ∧ w = w' := by
  go_enter Try.func26, Try.ntmps26
  go_wp2
  go_loop [1, 9] (fun t i => i = .int .i64 0 ∧ t = .int .u32 x) (fun _ _ => 0)
  case atStart => exact ⟨rfl, rfl⟩
  case round =>
    obtain ⟨rfl, rfl⟩ := hrel
    go_wp2
    go_ret
    exact ⟨rfl, rfl⟩

set_option maxHeartbeats 400000 in
theorem walk_some (b off cap : Nat) (zs : List Int) (x : Int) (w : World) (hl : zs.length ≤ 9223372036854775807) (hc : CellsAt w b off zs) :
    Calls Try.prog 26 #[.slice (some ⟨b, off, none⟩) zs.length cap, .int .u32 x] w fun e w' => e = .returned (.int .u32 (walkOf zs x)) ∧ w = w' := by
  have HC := Lib.hid hc
  clear hc
  go_enter Try.func26, Try.ntmps26
  go_wp2
  go_loop [1, 6, 9, 15] (fun t y i c => ∃ k : Nat, k ≤ zs.length ∧ i = .int .i64 k ∧ t = .int .u32 (walkOf (zs.take k) x)) (fun _ _ i _ => zs.length - (intOf i).toNat)
  case atStart => exact ⟨0, Nat.zero_le _, rfl, rfl⟩
  case round =>
    obtain ⟨k, hk, rfl, rfl⟩ := hrel
    by_cases hlt : k < zs.length
    · have hcell : w.cell? ⟨b, off + k, none⟩ = some (.int .u32 (zs.getD k 0)) := HC.out k hlt
      have HS := Lib.hid (walkOf_snoc zs k hlt x)
      by_cases hd : 0 < dist (walkOf (zs.take k) x) (zs.getD k 0)
      · have c := Lib.hid (less_yes (walkOf (zs.take k) x) (zs.getD k 0) hd)
        have HD := Lib.hid hd
        clear hd
        generalize zs.getD k 0 = y at *
        generalize walkOf (zs.take k) x = t at *
        go_wp2_with (go_at_call 14; refine (c.out _).mono ?_; rintro e w' ⟨rfl, rfl⟩)
        go_round
        case rel => exact ⟨k + 1, by omega, by go_num, by rw [HS.out]; unfold stepTo; rw [if_pos HD.out]⟩
        case measure => simp [intOf]; omega
      · have c := Lib.hid (less_no (walkOf (zs.take k) x) (zs.getD k 0) (by omega))
        have HD := Lib.hid hd
        clear hd
        generalize zs.getD k 0 = y at *
        generalize walkOf (zs.take k) x = t at *
        go_wp2_with (go_at_call 14; refine (c.out _).mono ?_; rintro e w' ⟨rfl, rfl⟩)
        go_round
        case rel => exact ⟨k + 1, by omega, by go_num, by rw [HS.out]; unfold stepTo; rw [if_neg (Int.not_lt.2 HD.out)]⟩
        case measure => simp [intOf]; omega
    · go_wp2
      go_ret
      exact ⟨ret_int (by rw [List.take_of_length_le (by omega)]), rfl⟩

/-- Does no number of some stand ahead of x? -/
def isLast (zs : List Int) (x : Int) : Bool := zs.all fun y => decide (dist x y ≤ 0)

/-- What Last answers: the first number ahead of which none stands. -/
def lastOf (zs : List Int) : Int × Int :=
  match zs.find? (isLast zs) with
  | some x => (x, 0)
  | none => if zs = [] then (0, 4) else (0, 3)

def InRange (zs : List Int) : Prop := ∀ x ∈ zs, 0 ≤ x ∧ x < 4294967296

theorem walkOf_cons (y : Int) (zs : List Int) (x : Int) : walkOf (y :: zs) x = walkOf zs (stepTo x y) := rfl

theorem walkOf_mem (zs : List Int) (x : Int) : walkOf zs x = x ∨ walkOf zs x ∈ zs := by
  induction zs generalizing x with
  | nil => exact Or.inl rfl
  | cons y zs ih =>
    rw [walkOf_cons]
    rcases ih (stepTo x y) with h | h
    · rw [h]; unfold stepTo; split
      · exact Or.inr (by simp)
      · exact Or.inl rfl
    · exact Or.inr (by simp [h])

theorem isLast_iff (zs : List Int) (x : Int) : isLast zs x = true ↔ ∀ y ∈ zs, dist x y ≤ 0 := by
  unfold isLast; simp

/-- From less than half the way behind a last number m, or at m, a walk that meets m ends there. -/
theorem walk_ends (zs : List Int) (m x : Int) (hm : ∀ y ∈ zs, dist m y ≤ 0) (hr : InRange zs) (hmr : 0 ≤ m ∧ m < 4294967296) (hxr : 0 ≤ x ∧ x < 4294967296)
    (hx : dist m x ≤ 0) (hx2 : dist m x ≠ -2147483648) (h : x = m ∨ m ∈ zs) : walkOf zs x = m := by
  induction zs generalizing x with
  | nil => simpa [walkOf] using h
  | cons y zs ih =>
    rw [walkOf_cons]
    have hy := hm y (by simp)
    have hyr := hr y (by simp)
    have hm' : ∀ y ∈ zs, dist m y ≤ 0 := fun z hz => hm z (by simp [hz])
    have hr' : InRange zs := fun z hz => hr z (by simp [hz])
    unfold stepTo
    split
    · rename_i hd
      refine ih y hm' hr' hyr hy ?_ ?_
      · unfold dist at *; omega
      · rcases h with h | h
        · subst h; omega
        · rcases List.mem_cons.1 h with h | h
          · exact Or.inl h.symm
          · exact Or.inr h
    · rename_i hd
      refine ih x hm' hr' hxr hx hx2 ?_
      rcases h with h | h
      · exact Or.inl h
      · rcases List.mem_cons.1 h with h | h
        · left
          subst h
          unfold dist at *; omega
        · exact Or.inr h

/-- A walk from half the way behind a last number m stays there only if none but m and that place are there; else it ends less than half the way behind m. -/
theorem walk_leaves (zs : List Int) (m x : Int) (hm : ∀ y ∈ zs, dist m y ≤ 0) (hr : InRange zs) (hmr : 0 ≤ m ∧ m < 4294967296) (hxr : 0 ≤ x ∧ x < 4294967296)
    (hx : dist m x ≤ 0) : (walkOf zs x = x ∧ dist m x = -2147483648 ∧ ∀ y ∈ zs, y = x ∨ y = m) ∨ (dist m (walkOf zs x) ≤ 0 ∧ dist m (walkOf zs x) ≠ -2147483648) := by
  induction zs generalizing x with
  | nil =>
    by_cases h : dist m x = -2147483648
    · exact Or.inl ⟨rfl, h, by simp⟩
    · exact Or.inr ⟨hx, h⟩
  | cons y zs ih =>
    rw [walkOf_cons]
    have hy := hm y (by simp)
    have hyr := hr y (by simp)
    have hm' : ∀ y ∈ zs, dist m y ≤ 0 := fun z hz => hm z (by simp [hz])
    have hr' : InRange zs := fun z hz => hr z (by simp [hz])
    unfold stepTo
    split
    · rename_i hd
      rcases ih y hm' hr' hyr hy with ⟨h1, h2, h3⟩ | h
      · exfalso; unfold dist at *; omega
      · exact Or.inr h
    · rename_i hd
      rcases ih x hm' hr' hxr hx with ⟨h1, h2, h3⟩ | h
      · refine Or.inl ⟨h1, h2, ?_⟩
        intro z hz
        rcases List.mem_cons.1 hz with h | h
        · subst h; unfold dist at *; omega
        · exact h3 z h
      · exact Or.inr h

/-- What two walks end at, from the first number on. -/
def twice (zs : List Int) : Int := walkOf zs (walkOf zs (zs.getD 0 0))

theorem twice_mem (zs : List Int) (h : zs ≠ []) : twice zs ∈ zs := by
  have h0 : zs.getD 0 0 ∈ zs := by cases zs with | nil => exact absurd rfl h | cons a l => simp
  unfold twice
  rcases walkOf_mem zs (walkOf zs (zs.getD 0 0)) with e | e
  · rw [e]
    rcases walkOf_mem zs (zs.getD 0 0) with e | e
    · rw [e]; exact h0
    · exact e
  · exact e

theorem twice_last (zs : List Int) (m : Int) (hr : InRange zs) (hf : zs.find? (isLast zs) = some m) : twice zs = m := by
  have hmm := List.mem_of_find?_eq_some hf
  have hml := (isLast_iff zs m).1 (List.find?_some hf)
  have hmr := hr m hmm
  have hne : zs ≠ [] := by rintro rfl; simp at hmm
  have h0 : zs.getD 0 0 ∈ zs := by cases zs with | nil => exact absurd rfl hne | cons a l => simp
  rcases walk_leaves zs m (zs.getD 0 0) hml hr hmr (hr _ h0) (hml _ h0) with ⟨h1, h2, h3⟩ | ⟨h1, h2⟩
  · have hl0 : isLast zs (zs.getD 0 0) = true := by
      rw [isLast_iff]
      intro y hy
      rcases h3 y hy with h | h
      · rw [h]; unfold dist; omega
      · rw [h]; unfold dist at *; omega
    have hf0 : zs.find? (isLast zs) = some (zs.getD 0 0) := by
      cases zs with
      | nil => exact absurd rfl hne
      | cons a l => exact List.find?_cons_of_pos (by simpa using hl0)
    rw [hf0] at hf
    unfold twice
    rw [h1, h1]
    exact Option.some.inj hf
  · unfold twice
    have hwm : walkOf zs (zs.getD 0 0) ∈ zs := by
      rcases walkOf_mem zs (zs.getD 0 0) with e | e
      · rw [e]; exact h0
      · exact e
    exact walk_ends zs m _ hml hr hmr (hr _ hwm) h1 h2 (Or.inr hmm)

theorem lastOf_yes (zs : List Int) (hne : zs ≠ []) (hr : InRange zs) (h : isLast zs (twice zs) = true) : lastOf zs = (twice zs, 0) := by
  unfold lastOf
  cases hf : zs.find? (isLast zs) with
  | some m => rw [twice_last zs m hr hf]
  | none =>
    exfalso
    have := List.find?_eq_none.1 hf _ (twice_mem zs hne)
    exact this h

theorem lastOf_no (zs : List Int) (hne : zs ≠ []) (hr : InRange zs) (h : isLast zs (twice zs) = false) : lastOf zs = (0, 3) := by
  unfold lastOf
  cases hf : zs.find? (isLast zs) with
  | some m =>
    exfalso
    have := List.find?_some hf
    rw [twice_last zs m hr hf] at h
    rw [h] at this; cases this
  | none => simp [hne]

theorem getD_mem (zs : List Int) (k : Nat) (h : k < zs.length) : zs.getD k 0 ∈ zs := by
  simp [List.getD, List.getElem?_eq_getElem h]

theorem ret_two {a b c d : Int} (h1 : a = c) (h2 : b = d) : Ending.returned (.tuple #[.int .u32 a, .int .i64 b]) = .returned (.tuple #[.int .u32 c, .int .i64 d]) := by rw [h1, h2]

theorem last_none (a : Option Addr) (cap : Nat) (w : World) :
    Calls Try.prog 10 #[.slice a 0 cap] w fun e w' => e = .returned (.tuple #[.int .u32 (lastOf []).1, .int .i64 (lastOf []).2]) ∧ w = w' := by
  go_enter Try.func10, Try.ntmps10
  go_wp2
  go_ret2
  exact ⟨rfl, rfl⟩

set_option maxHeartbeats 400000 in
theorem last_some (b off cap : Nat) (zs : List Int) (w : World) (hl : zs.length ≤ 9223372036854775807) (hne : zs ≠ []) (hr : InRange zs) (hc : CellsAt w b off zs) :
    Calls Try.prog 10 #[.slice (some ⟨b, off, none⟩) zs.length cap] w fun e w' => e = .returned (.tuple #[.int .u32 (lastOf zs).1, .int .i64 (lastOf zs).2]) ∧ w = w' := by
  have hpos : 0 < zs.length := List.length_pos_iff.2 hne
  have Hne := Lib.hid hne
  have Hr := Lib.hid hr
  have c1 := Lib.hid (walk_some b off cap zs (zs.getD 0 0) w hl hc)
  have c2 := Lib.hid (walk_some b off cap zs (walkOf zs (zs.getD 0 0)) w hl hc)
  have hz : ((zs.length : Int) == 0) = false := by simpa using hne
  have hcell0 : w.cell? ⟨b, off, none⟩ = some (.int .u32 (zs.getD 0 0)) := by simpa using hc 0 hpos
  have HT := Lib.hid (show walkOf zs (walkOf zs (zs.getD 0 0)) = twice zs from rfl)
  have HC := Lib.hid hc
  clear hc hne hr
  generalize zs.getD 0 0 = z0 at *
  go_enter Try.func10, Try.ntmps10
  go_wp2_with fail
  refine c1.out.mono ?_; rintro e w' ⟨rfl, rfl⟩
  go_wp2_with fail
  refine c2.out.mono ?_; rintro e w' ⟨rfl, rfl⟩
  clear c1 c2 hcell0
  rw [HT.out]
  clear HT
  have LY := Lib.hid (lastOf_yes zs Hne.out Hr.out)
  have LN := Lib.hid (lastOf_no zs Hne.out Hr.out)
  have LI := Lib.hid (isLast_iff zs (twice zs))
  generalize twice zs = x at *
  go_wp2_with fail
  go_loop [6, 19, 25] (fun y i c => ∃ k : Nat, k ≤ zs.length ∧ i = .int .i64 k ∧ ∀ j, j < k → dist x (zs.getD j 0) ≤ 0) (fun _ i _ => zs.length - (intOf i).toNat)
  case atStart => exact ⟨0, Nat.zero_le _, rfl, fun j hj => by omega⟩
  case round =>
    obtain ⟨k, hk, rfl, hall⟩ := hrel
    have HA := Lib.hid hall
    clear hall
    by_cases hlt : k < zs.length
    · have hcell : w.cell? ⟨b, off + k, none⟩ = some (.int .u32 (zs.getD k 0)) := HC.out k hlt
      have HM := Lib.hid (getD_mem zs k hlt)
      by_cases hd : 0 < dist x (zs.getD k 0)
      · have c := Lib.hid (less_yes x (zs.getD k 0) hd)
        have HE := Lib.hid (show lastOf zs = (0, 3) from LN.out (by
          rw [Bool.eq_false_iff]
          intro h
          have := LI.out.1 h _ HM.out
          omega))
        clear hd HM
        generalize zs.getD k 0 = y at *
        go_wp2_with (go_at_call 14; refine (c.out _).mono ?_; rintro e w' ⟨rfl, rfl⟩)
        go_ret2
        exact ⟨by rw [HE.out]; rfl, rfl⟩
      · have c := Lib.hid (less_no x (zs.getD k 0) (by omega))
        have HA' := Lib.hid (show ∀ j, j < k + 1 → dist x (zs.getD j 0) ≤ 0 from fun j hj => by
          by_cases e : j = k
          · subst e; omega
          · exact HA.out j (by omega))
        clear hd HM
        generalize zs.getD k 0 = y at *
        go_wp2_with (go_at_call 14; refine (c.out _).mono ?_; rintro e w' ⟨rfl, rfl⟩)
        go_round
        case rel => exact ⟨k + 1, by omega, by go_num, HA'.out⟩
        case measure => simp [intOf]; omega
    · have HE := Lib.hid (show lastOf zs = (x, 0) from LY.out (LI.out.2 (fun y hy => by
        obtain ⟨j, hj, rfl⟩ := List.getElem_of_mem hy
        have := HA.out j (by omega)
        simpa [List.getD, List.getElem?_eq_getElem hj] using this)))
      go_wp2
      go_ret2
      exact ⟨by rw [HE.out]; rfl, rfl⟩
end Go.Proofs.Ytjeifpjjnfaefaa
