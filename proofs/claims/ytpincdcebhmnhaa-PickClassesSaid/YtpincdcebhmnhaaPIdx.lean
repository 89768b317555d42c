/- Contracts of slices.Index and slices.Contains at numbers, of package prio's valid and find, and of ringref1's Of. -/
import Derived.Test.YtpincdcebhmnhaaPQ
namespace Go.Proofs.Ytpincdcebhmnhaa.Pr
open Go.ChangeShapes Go.WideShapes Go.ChangeAt Go.RowKit Go.Maps
set_option linter.unusedVariables false

/-- Where a list has a number; -1: nowhere. -/
def idx (xs : List Int) (t : Int) : Int := if t ∈ xs then (xs.idxOf t : Nat) else -1

theorem idx_hit {xs : List Int} {t : Int} {k : Nat} (hk : k < xs.length) (hx : xs.getD k 0 = t) (hn : ∀ j, j < k → xs.getD j 0 ≠ t) : idx xs t = k := by
  have hx' : xs[k] = t := by simpa [List.getD, hk] using hx
  have hm : t ∈ xs := by rw [← hx']; exact List.getElem_mem hk
  unfold idx
  rw [if_pos hm]
  congr 1
  unfold List.idxOf
  rw [List.findIdx_eq hk]
  refine ⟨by simp [hx'], fun j hj => ?_⟩
  have := hn j hj
  simpa [List.getD, show j < xs.length by omega] using this

theorem idx_miss {xs : List Int} {t : Int} (hn : ∀ j, j < xs.length → xs.getD j 0 ≠ t) : idx xs t = -1 := by
  unfold idx
  rw [if_neg]
  intro hm
  obtain ⟨j, hj, e⟩ := List.getElem_of_mem hm
  exact hn j hj (by simpa [List.getD, hj] using e)

theorem idx_nonneg {xs : List Int} {t : Int} (h : t ∈ xs) : idx xs t = (xs.idxOf t : Nat) ∧ xs.idxOf t < xs.length := by
  unfold idx; rw [if_pos h]; exact ⟨rfl, List.idxOf_lt_length_iff.2 h⟩
theorem idx_neg {xs : List Int} {t : Int} (h : t ∉ xs) : idx xs t = -1 := by unfold idx; rw [if_neg h]

/-- A number was answered, and memory is as it was. -/
def IntOnly (x : Int) (w : World) (e : Ending) (w' : World) : Prop := e = .returned (.int .i64 x) ∧ Only (fun _ => False) w w'
theorem int_is {b c : Int} {w w' : World} (h : c = b) (hO : Only (fun _ => False) w w') : IntOnly c w (.returned (.int .i64 b)) w' := by subst h; exact ⟨rfl, hO⟩
def Triple (x y z : Int) (w : World) (e : Ending) (w' : World) : Prop := e = .returned (.tuple #[.int .i64 x, .int .i64 y, .int .i64 z]) ∧ Only (fun _ => False) w w'
theorem triple_is {x y z x' y' z' : Int} {w w' : World} (h : x = x') (h2 : y = y') (h3 : z = z') (hO : Only (fun _ => False) w w') : Triple x y z w (.returned (.tuple #[.int .i64 x', .int .i64 y', .int .i64 z'])) w' := by subst h h2 h3; exact ⟨rfl, hO⟩
def Pair (x y : Int) (w : World) (e : Ending) (w' : World) : Prop := e = .returned (.tuple #[.int .i64 x, .int .i64 y]) ∧ Only (fun _ => False) w w'
theorem pair_is {x y x' y' : Int} {w w' : World} (h : x = x') (h2 : y = y') (hO : Only (fun _ => False) w w') : Pair x y w (.returned (.tuple #[.int .i64 x', .int .i64 y'])) w' := by subst h h2; exact ⟨rfl, hO⟩
theorem results_tmp2 {fn : Func} {t u : Tmp} (h : fn.results = #[.tmp t, .tmp u]) (tmps : Array Value) (P : Program) (w : World) :
    (results fn tmps).run P w = .ok (.tuple #[tmps.getD t undef, tmps.getD u undef]) w := by
  simp [results, h]

set_option maxHeartbeats 1000000 in
theorem index_any (v : Value) (xs : List Int) (t : Int) (w : World) (h : Nums w v xs) (hl : xs.length ≤ 9223372036854775807) :
    Calls Try.prog 48 #[v, .int .i64 t] w (IntOnly (idx xs t) w) := by
  obtain ⟨a, c, rfl, hr⟩ := h
  have HR := Lib.hid hr
  clear hr
  go_enter Try.func48, Try.ntmps48
  go_wp2_with fail
  go_loopw [5, 8] (fun _ i wr => ∃ k : Nat, k ≤ xs.length ∧ i = .int .i64 k ∧ (∀ j, j < k → xs.getD j 0 ≠ t) ∧ Only (fun _ => False) w wr) (fun _ i _ => xs.length - (intOf i).toNat)
  case atStart => exact ⟨0, Nat.zero_le _, rfl, fun j hj => absurd hj (Nat.not_lt_zero _), Only.refl _ w⟩
  case round =>
    obtain ⟨k, hk, rfl, ht, hO⟩ := hrel
    have HT := Lib.hid ht
    have HO := Lib.hid hO
    clear ht hO
    by_cases hlt : k < xs.length
    · obtain ⟨b, off, rfl, hc⟩ := HR.out k hlt
      have d0 : wr.cell? ⟨b, off + k, none⟩ = some (.int .i64 (xs.getD k 0)) := by
        rw [← hc]; unfold World.cell?; rw [HO.out.block b (block_lt hc) (fun e => e)]
      clear hc
      have g1 : (k : Int) < xs.length := by omega
      have g2 : (0 : Int) ≤ k := by omega
      generalize hx : xs.getD k 0 = x at *
      have EX := Lib.hid hx
      clear hx
      by_cases hxt : t = x
      · subst hxt
        go_wp2_with fail
        go_ret
        exact int_is (idx_hit hlt EX.out HT.out) HO.out
      · have hne : (t == x) = false := by simpa using hxt
        have HN := Lib.hid hxt
        clear hxt
        go_wp2_with fail
        go_roundw
        case rel => exact ⟨k + 1, by omega, by go_num, fun j hj => by
          by_cases e : j = k
          · subst e; rw [EX.out]; exact fun e => HN.out e.symm
          · exact HT.out j (by omega), HO.out⟩
        case measure => simp [intOf]; omega
    · obtain rfl : k = xs.length := by omega
      go_wp2_with fail
      go_ret
      exact int_is (idx_miss HT.out) HO.out

/-- Is there such a priority? -/
def valid (v : Int) : Bool := decide (0 ≤ v ∧ v < 8)
theorem valid_any (v : Int) (w : World) : Calls Try.prog 36 #[.int .i64 v] w fun e w' => e = .returned (.bool (valid v)) ∧ w = w' := by
  by_cases h1 : 0 ≤ v
  · by_cases h2 : v < 8
    · have E := Lib.hid (show valid v = true from decide_eq_true ⟨h1, h2⟩)
      go_enter Try.func36, Try.ntmps36
      go_wp2
      go_ret
      rw [E.out]; exact ⟨rfl, rfl⟩
    · have E := Lib.hid (show valid v = false from decide_eq_false (by omega))
      go_enter Try.func36, Try.ntmps36
      go_wp2
      go_ret
      rw [E.out]; exact ⟨rfl, rfl⟩
  · have E := Lib.hid (show valid v = false from decide_eq_false (by omega))
    go_enter Try.func36, Try.ntmps36
    go_wp2
    go_ret
    rw [E.out]; exact ⟨rfl, rfl⟩

/-- The first queue, from the first k, that has a task. -/
def seekTo (Q : Qs) (t : Int) : Nat → Option Nat
  | 0 => none
  | k + 1 => match seekTo Q t k with
    | some i => some i
    | none => if t ∈ Q k then some k else none
def seek (Q : Qs) (t : Int) : Option Nat := seekTo Q t 8

theorem seekTo_none {Q : Qs} {t : Int} {k : Nat} : seekTo Q t k = none ↔ ∀ j, j < k → t ∉ Q j := by
  induction k with
  | zero => simp [seekTo]
  | succ k ih =>
    unfold seekTo
    constructor
    · intro h j hj
      cases hs : seekTo Q t k with
      | some i => rw [hs] at h; cases h
      | none =>
        rw [hs] at h
        by_cases e : j = k
        · subst e
          intro hm
          simp [hm] at h
        · exact ih.1 hs j (by omega)
    · intro h
      rw [ih.2 (fun j hj => h j (by omega))]
      simp [h k (by omega)]

theorem seekTo_some {Q : Qs} {t : Int} {k i : Nat} (hi : i < k) (ht : t ∈ Q i) (hb : ∀ j, j < i → t ∉ Q j) : seekTo Q t k = some i := by
  induction k with
  | zero => omega
  | succ k ih =>
    unfold seekTo
    by_cases e : i = k
    · subst e
      rw [seekTo_none.2 hb]
      simp [ht]
    · rw [ih (by omega)]

theorem seekTo_is {Q : Qs} {t : Int} {k i : Nat} (h : seekTo Q t k = some i) : i < k ∧ t ∈ Q i := by
  induction k with
  | zero => cases h
  | succ k ih =>
    unfold seekTo at h
    cases hs : seekTo Q t k with
    | some j =>
      rw [hs] at h
      cases h
      have := ih hs
      exact ⟨by omega, this.2⟩
    | none =>
      rw [hs] at h
      by_cases hm : t ∈ Q k
      · simp [hm] at h; subst h; exact ⟨by omega, hm⟩
      · simp [hm] at h

theorem seek_is {Q : Qs} {t : Int} {i : Nat} (h : seek Q t = some i) : i < 8 ∧ t ∈ Q i := seekTo_is h
theorem seek_no {Q : Qs} {t : Int} (h : seek Q t = none) {i : Nat} (hi : i < 8) : t ∉ Q i := seekTo_none.1 h i hi
theorem seek_none {Q : Qs} {t : Int} (h : ∀ i, i < 8 → t ∉ Q i) : seek Q t = none := seekTo_none.2 h

section
variable {w : World} {p o T : Nat} {V : Nat → Value} {Q : Qs}

def FindNo (w : World) (e : Ending) (w' : World) : Prop := e = .returned (.tuple #[.int .i64 0, .int .i64 0, .bool false]) ∧ Only (fun _ => False) w w'
def FindYes (i : Nat) (j : Nat) (w : World) (e : Ending) (w' : World) : Prop := e = .returned (.tuple #[.int .i64 i, .int .i64 j, .bool true]) ∧ Only (fun _ => False) w w'
/-- What find answers. -/
def FindAns (Q : Qs) (t : Int) (w : World) (e : Ending) (w' : World) : Prop :=
  match seek Q t with
  | some i => FindYes i ((Q i).idxOf t) w e w'
  | none => FindNo w e w'

set_option maxHeartbeats 1000000 in
set_option maxRecDepth 100000 in
theorem find_any (h : QAt w p o T V Q) (hl : ∀ i, i < 8 → (Q i).length ≤ 17000000000000) (t : Int) :
    Calls Try.prog 37 #[.pointer (some ⟨p, o, none⟩), .int .i64 t] w (FindAns Q t w) := by
  have H := Lib.hid h
  have HL := Lib.hid hl
  have HX := Lib.hid (index_arr V)
  have HA := Lib.hid (load_arr h)
  clear hl h
  generalize arrOf V = arr at *
  go_enter Try.func37, Try.ntmps37
  go_wp2_with (refine wpList_load_known rfl 50 _ rfl ⟨p, o, none⟩ rfl (.agg arr) HA.out ?_)
  go_loopw [7, 8, 9, 14] (fun _ _ _ i wr => ∃ k : Nat, k ≤ 8 ∧ i = .int .i64 k ∧ (∀ j, j < k → t ∉ Q j) ∧ Only (fun _ => False) w wr) (fun _ _ _ i _ => 8 - (intOf i).toNat)
  case atStart => exact ⟨0, Nat.zero_le _, rfl, fun j hj => absurd hj (Nat.not_lt_zero _), Only.refl _ w⟩
  case round =>
    obtain ⟨k, hk, rfl, ht, hO⟩ := hrel
    have HT := Lib.hid ht
    have HO := Lib.hid hO
    clear ht hO
    by_cases hlt : k < 8
    · have ix := HX.out k hlt
      have C := Lib.hid (index_any (V k) (Q k) t wr ((H.out.later HO.out).row k hlt).nums (by have := HL.out k hlt; omega))
      have g1 : (k : Int) < 8 := by omega
      generalize hv : V k = v at *
      clear hv
      by_cases hm : t ∈ Q k
      · obtain ⟨e1, e2⟩ := idx_nonneg hm
        have HE := Lib.hid e1
        have HS := Lib.hid (show seek Q t = some k from seekTo_some hlt hm HT.out)
        have h0 : 0 ≤ idx (Q k) t := by omega
        clear e1 e2 hm
        generalize idx (Q k) t = x at *
        go_wp2_with (go_at_call 48; (with_reducible refine C.out.mono ?_); rintro e w1 ⟨rfl, hO1⟩; have HO1 := Lib.hid (HO.out.trans hO1 (fun _ _ h => h)); clear hO1)
        (try simp only [Exit.inBlock, Exit.then])
        refine bodyPost_ret (results_tmp3 rfl _ _ _) rfl ?_
        unfold FindAns
        rw [HS.out]
        have := HE.out
        subst this
        exact ⟨rfl, HO1.out⟩
      · have e1 := idx_neg hm
        have HM := Lib.hid hm
        have h0 : ¬ 0 ≤ idx (Q k) t := by omega
        clear e1 hm
        generalize idx (Q k) t = x at *
        go_wp2_with (go_at_call 48; (with_reducible refine C.out.mono ?_); rintro e w1 ⟨rfl, hO1⟩; have HO1 := Lib.hid (HO.out.trans hO1 (fun _ _ h => h)); clear hO1)
        go_roundw
        case rel => exact ⟨k + 1, by omega, by go_num, fun j hj => by
          by_cases e : j = k
          · subst e; exact HM.out
          · exact HT.out j (by omega), HO1.out⟩
        case measure => simp [intOf]; omega
    · obtain rfl : k = 8 := by omega
      go_wp2_with fail
      (try simp only [Exit.inBlock, Exit.then])
      refine bodyPost_ret (results_tmp3 rfl _ _ _) rfl ?_
      unfold FindAns
      rw [seek_none HT.out]
      exact ⟨rfl, HO.out⟩
end
end Go.Proofs.Ytpincdcebhmnhaa.Pr
