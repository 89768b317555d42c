/- Contracts of the reference: Go and Turn of ringref1.Prio. -/
import Derived.Test.YtcnmpgkapedniaaPRef
namespace Go.Proofs.Ytcnmpgkapedniaa.Pr
open Go.ChangeShapes Go.WideShapes Go.ChangeAt Go.RowKit Go.Maps
set_option linter.unusedVariables false

/-- A list without a number. -/
def sans (t : Int) (xs : List Int) : List Int := xs.filter (fun x => x != t)

theorem sans_len (t : Int) (xs : List Int) : (sans t xs).length ≤ xs.length := List.length_filter_le _ _
theorem sans_take {t : Int} {xs : List Int} {k : Nat} (hk : k < xs.length) : sans t (xs.take (k + 1)) = sans t (xs.take k) ++ if xs.getD k 0 = t then [] else [xs.getD k 0] := by
  unfold sans
  rw [List.take_succ_eq_append_getElem hk, List.filter_append]
  congr 1
  have : xs.getD k 0 = xs[k] := by simp [List.getD, hk]
  rw [this]
  by_cases e : xs[k] = t <;> simp [e]

/-- The queues below k without a number. -/
def goneTo (Q : Qs) (t : Int) (k : Nat) : Qs := fun j => if j < k then sans t (Q j) else Q j
def gone (Q : Qs) (t : Int) : Qs := fun j => if j < 8 then sans t (Q j) else Q j
theorem goneTo_zero (Q : Qs) (t : Int) : goneTo Q t 0 = Q := by funext j; simp [goneTo]
theorem goneTo_next (Q : Qs) (t : Int) (k : Nat) : upd (goneTo Q t k) k (sans t (Q k)) = goneTo Q t (k + 1) := by
  funext j
  unfold upd goneTo
  by_cases e : j = k
  · subst e; simp
  · rw [if_neg e]
    by_cases h : j < k
    · rw [if_pos h, if_pos (by omega)]
    · rw [if_neg h, if_neg (by omega)]
theorem goneTo_at (Q : Qs) (t : Int) (k : Nat) : goneTo Q t k k = Q k := by simp [goneTo]

section
variable {w : World} {p o T : Nat} {V : Nat → Value} {Q : Qs}

theorem go_store {w1 w2 : World} {V1 : Nat → Value} {k : Nat} {v : Value} {t : Int} (h : QAt w1 p o T V1 (goneTo Q t k)) (hs : Step p o V V1 w w1) (hk : k < 8) (hr : Ints w2 w1.heap.size v (sans t (Q k))) (hO : Only (fun _ => False) w1 w2) :
    w2.cell? ⟨p, o + k, none⟩ = some (V1 k) ∧ w2.frozen? ⟨p, o + k, none⟩ = false ∧ QAt (w2.setCell ⟨p, o + k, none⟩ v) p o T (upd V1 k v) (goneTo Q t (k + 1)) ∧ Step p o V (upd V1 k v) w (w2.setCell ⟨p, o + k, none⟩ v) := by
  obtain ⟨q1, q2⟩ := h.row_set hk (hr.base (Nat.zero_le _)) (hO.mono (fun _ _ e => e.elim)) (fun x hx => Or.inr (hr.block hx).1)
  rw [goneTo_next] at q1
  exact ⟨(h.later hO).cell hk, (h.later hO).frozen _, q1, hs.trans q2⟩

theorem app_only {w1 wr w5 : World} {v : Value} {ys : List Int} {oo : Obj} (hr : Ints wr w1.heap.size v ys) (hO : Only (fun _ => False) w1 wr) (h5 : Only (fun k => v.ownBlock = some k) (wr.alloc oo) w5) : Only (fun _ => False) w1 w5 :=
  (hO.alloc oo).trans h5 (fun k hk e => by have := (hr.block e).1; omega)

set_option maxHeartbeats 1000000 in
theorem go_any (h : QAt w p o T V Q) (hl : ∀ i, i < 8 → (Q i).length ≤ 1000000000000) (t : Int) :
    Calls Try.prog 14 #[.pointer (some ⟨p, o, none⟩), .int .i64 t] w (Moved p o T V (goneTo Q t 8) (.tuple #[]) w) := by
  have H := Lib.hid h
  have HL := Lib.hid hl
  clear hl h
  go_enter Try.func14, Try.ntmps14
  go_wp2_with fail
  go_loopw [4, 5, 6, 8, 11] (fun _ _ _ _ i wr => ∃ (k : Nat) (V1 : Nat → Value), k ≤ 8 ∧ i = .int .i64 k ∧ QAt wr p o T V1 (goneTo Q t k) ∧ Step p o V V1 w wr) (fun _ _ _ _ i _ => 8 - (intOf i).toNat)
  case atStart => exact ⟨0, V, Nat.zero_le _, rfl, by rw [goneTo_zero]; exact H.out, Step.refl _ _ _ _⟩
  case round =>
    obtain ⟨k, V1, hk, rfl, hq, hs⟩ := hrel
    have HQ := Lib.hid hq
    have HS := Lib.hid hs
    clear hq hs
    by_cases hlt : k < 8
    · have c0 := HQ.out.cell hlt
      have R := HQ.out.row k hlt
      rw [goneTo_at] at R
      have HR := Lib.hid R
      obtain ⟨sa, sc, hv, -, -⟩ := R.shape
      have HV := Lib.hid hv
      rw [hv] at c0
      clear hv R
      have g1 : (k : Int) < 8 := by omega
      have HLk := HL.out k hlt
      generalize hw1 : wr = w1 at *
      go_wp2_with fail
      go_quiet (fail)
      obtain ⟨w2, hw2⟩ : ∃ w2, w1.drewN nq = w2 := ⟨_, rfl⟩
      have HW2 := Lib.hid (show Only (fun _ => False) w1 w2 from by rw [← hw2]; exact only_drewN (Only.refl _ _) _)
      rw [hw2]
      clear hw2
      have HZ := Lib.hid HW2.out.size
      generalize hn : (Q k).length = n at *
      have HN := Lib.hid hn
      clear hn
      go_wp2_with fail
      go_loopw [6, 8, 19] (fun l _ i wr => ∃ j : Nat, j ≤ n ∧ i = .int .i64 j ∧ Ints wr w1.heap.size l (sans t ((Q k).take j)) ∧ Only (fun _ => False) w1 wr) (fun _ _ i _ => n - (intOf i).toNat)
      case atStart => exact ⟨0, Nat.zero_le _, rfl, by simpa [sans] using ints_nil w2 w1.heap.size, HW2.out⟩
      case round =>
        obtain ⟨j, hj, rfl, hr, hO⟩ := hrel
        have HR1 := Lib.hid hr
        have HO := Lib.hid hO
        clear hr hO
        by_cases hjn : j < n
        · have HRq := Lib.hid (HR.out.later HO.out)
          obtain ⟨b, off, e, -, hc⟩ := (HV.out ▸ HRq.out.nums : Nums wr (.slice sa n sc) (Q k)).at (j := j) (by rw [HN.out]; exact hjn)
          subst e
          have HT := Lib.hid (sans_take (t := t) (xs := Q k) (k := j) (by rw [HN.out]; exact hjn))
          have g2 : (j : Int) < n := by omega
          generalize (Q k).getD j 0 = x at *
          by_cases hx : x = t
          · have HX : Hid (sans t ((Q k).take (j + 1)) = sans t ((Q k).take j)) := by have := HT.out; rw [if_pos hx, List.append_nil] at this; exact this
            subst hx
            clear HT
            go_wp2_with fail
            go_roundw
            case rel => exact ⟨j + 1, by omega, by go_num, by rw [HX.out]; exact HR1.out, HO.out⟩
            case measure => simp [intOf]; omega
          · have HX : Hid (sans t ((Q k).take (j + 1)) = sans t ((Q k).take j) ++ [x]) := by have := HT.out; rw [if_neg hx] at this; exact this
            have hx' : (x == t) = false := by simpa using hx
            have hlb := Lib.hid (show (sans t ((Q k).take j)).length + 1 ≤ 17000000000000 from by have := sans_len t ((Q k).take j); rw [List.length_take] at this; omega)
            clear HT hx
            generalize sans t ((Q k).take j) = ys at *
            have HA := Lib.hid (HR1.out.later ((Only.refl (fun _ => False) wr).alloc (.cells #[.int .i64 x] 3)))
            have HB := Lib.hid (show w1.heap.size ≤ (wr.alloc (.cells #[.int .i64 x] 3)).heap.size from by have := HO.out.size; simp; omega)
            go_wp2_with (at_builtin; go_must (refine append_one rfl (.tmp 26) (.tmp 28) rfl w1.heap.size wr.heap.size 1 _ ys x rfl rfl HA.out (heap_alloc_new wr _) hlb.out HB.out ?_); go_must (intro v5 w5 hr5 hO5 hb5); have HR5 := Lib.hid hr5; have HO5 := Lib.hid (app_only HR1.out HO.out hO5); clear hr5 hO5 hb5)
            go_roundw
            case rel => exact ⟨j + 1, by omega, by go_num, by rw [HX.out]; exact HR5.out, HO5.out⟩
            case measure => simp [intOf]; omega
        · obtain rfl : j = n := by omega
          have HF := Lib.hid (show Ints wr w1.heap.size _ (sans t (Q k)) from by have := HR1.out; rw [List.take_of_length_le (by rw [HN.out]; exact Nat.le_refl _)] at this; exact this)
          obtain ⟨fa, fc, e0, -, -⟩ := HF.out.shape
          obtain ⟨e1, e2, e3, e4⟩ := go_store HQ.out HS.out hlt HF.out HO.out
          rw [e0] at e3 e4
          rw [HV.out] at e1
          subst e0
          have E3 := Lib.hid e3
          have E4 := Lib.hid e4
          clear e3 e4
          go_wp2_with fail
          go_roundw
          case rel => exact ⟨k + 1, _, by omega, by go_num, E3.out, E4.out⟩
          case measure => simp [intOf]; omega
    · obtain rfl : k = 8 := by omega
      go_wp2_with fail
      go_end0
      exact ⟨rfl, V1, HQ.out, HS.out⟩

theorem goneTo_lt (Q : Qs) (t : Int) {i : Nat} (hi : i < 8) : goneTo Q t 8 i = sans t (Q i) := by simp [goneTo, hi]

set_option maxHeartbeats 1000000 in
theorem ref_turn (h : QAt w p o T V Q) (hl : ∀ i, i < 8 → (Q i).length ≤ 1000000000000) (v : Nat) (hv : v < 8) (x : Int) (xs : List Int) (he : Q v = x :: xs) :
    Calls Try.prog 15 #[.pointer (some ⟨p, o, none⟩), .int .i64 v] w (Moved p o T V (upd (goneTo Q x 8) v (sans x (Q v) ++ [x])) (.tuple #[]) w) := by
  have H := Lib.hid h
  have c0 := h.cell hv
  have hL := hl v hv
  obtain ⟨n, hn⟩ : ∃ n, xs.length = n := ⟨_, rfl⟩
  have hq : (Q v).length = n + 1 := by rw [he]; simp [hn]
  obtain ⟨g, c, hw, -, hgl, HR⟩ := (h.row v hv).at_block (n := n + 1) hq (by omega)
  have d0 := ints_cell HR (j := 0) (by rw [he]; simp)
  rw [he] at d0
  have d0 : w.cell? ⟨g, 0, none⟩ = some (.int .i64 x) := d0
  rw [hw] at c0
  have C := Lib.hid (fun (W : World) (hW : QAt W p o T V Q) => go_any hW hl x)
  have HS := Lib.hid (goneTo_lt Q x hv)
  have HL := Lib.hid (show (goneTo Q x 8 v).length + 1 ≤ 17000000000000 from by rw [HS.out]; have := sans_len x (Q v); omega)
  have g1 : (v : Int) < 8 := by omega
  rw [hq] at hL
  rw [← HS.out]
  generalize goneTo Q x 8 = Q1 at *
  clear h hl hn hq he HR hw
  go_enter Try.func15, Try.ntmps15
  go_wp2_with (go_at_call 14; (with_reducible refine (C.out _ H.out).mono ?_); rintro e w1 ⟨rfl, V1, hq1, hs1⟩; have HQ1 := Lib.hid hq1; have HS1 := Lib.hid hs1; clear hq1 hs1)
  have c1 := HQ1.out.cell hv
  have hp := HQ1.out.lt
  obtain ⟨sa, sc, hsv, -, -⟩ := (HQ1.out.row v hv).shape
  have HSV := Lib.hid hsv
  rw [hsv] at c1
  clear hsv
  go_region_law (refine step_add rfl (.tmp 21) (.tmp 23) rfl w1 p o T w1.heap.size V1 Q1 v x HQ1.out hv ((Only.refl _ w1).alloc _).drew (by rw [HSV.out]; rfl) (by rfl) (heap_alloc_new w1 _) HL.out ?_; intro g c w2 q1 q2 HA; rw [HSV.out] at q1)
  all_goals (
    (try go_wp2_with fail)
    go_end0
    exact ⟨rfl, _, HA.out.at_, HS1.out.trans HA.out.step⟩)
end
end Go.Proofs.Ytcnmpgkapedniaa.Pr
