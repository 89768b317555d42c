/- Contracts of package spread: place, queue, clear, first, least, all, now. -/
import Derived.Test.YtddfdnhlghmapaaSpPrec
namespace Go.Proofs.Ytddfdnhlghmapaa.Sp
open Go.ChangeShapes Go.WideShapes Go.ChangeAt Go.RowKit Go.Maps
open Go.Proofs.Ytddfdnhlghmapaa.Vt
set_option linter.unusedVariables false

/-- What is so of any run that came of calls: processors, numbers, masks, values. -/
structure Fine (S : St) : Prop where
  n1 : 1 ≤ S.n
  n4 : S.n ≤ 4
  on : ∀ i, i < 4 → S.on i ≤ 16
  m : ∀ t, t < 17 → (S.T t).m < 16
  v : ∀ t, t < 17 → (-1000 ≤ (S.T t).v ∧ (S.T t).v ≤ 1000) ∧ -1000 ≤ (S.T t).bv ∧ (S.T t).bv ≤ 1000

theorem place_none {S : St} {t : Nat} (h : ∀ j, j < 4 → S.on j ≠ t) : place S t = none := by
  unfold place
  rw [if_neg (h 0 (by omega)), if_neg (h 1 (by omega)), if_neg (h 2 (by omega)), if_neg (h 3 (by omega))]
theorem place_some {S : St} {t k : Nat} (hk : k < 4) (hx : S.on k = t) (h : ∀ j, j < k → S.on j ≠ t) : place S t = some k := by
  unfold place
  rcases (show k = 0 ∨ k = 1 ∨ k = 2 ∨ k = 3 by omega) with rfl | rfl | rfl | rfl
  · rw [if_pos hx]
  · rw [if_neg (h 0 (by omega)), if_pos hx]
  · rw [if_neg (h 0 (by omega)), if_neg (h 1 (by omega)), if_pos hx]
  · rw [if_neg (h 0 (by omega)), if_neg (h 1 (by omega)), if_neg (h 2 (by omega)), if_pos hx]
theorem place_is {S : St} {t k : Nat} (h : place S t = some k) : k < 4 ∧ S.on k = t := by
  unfold place at h
  split at h
  · next e => cases h; exact ⟨by omega, e⟩
  · split at h
    · next e => cases h; exact ⟨by omega, e⟩
    · split at h
      · next e => cases h; exact ⟨by omega, e⟩
      · split at h
        · next e => cases h; exact ⟨by omega, e⟩
        · cases h
theorem place_no {S : St} {t : Nat} (h : place S t = none) (j : Nat) (hj : j < 4) : S.on j ≠ t := by
  unfold place at h
  split at h
  · cases h
  · split at h
    · cases h
    · split at h
      · cases h
      · split at h
        · cases h
        · rcases (show j = 0 ∨ j = 1 ∨ j = 2 ∨ j = 3 by omega) with rfl | rfl | rfl | rfl <;> assumption
theorem placeI_some {S : St} {t k : Nat} (h : place S t = some k) : placeI S t = k := by unfold placeI; rw [h]
theorem placeI_none {S : St} {t : Nat} (h : place S t = none) : placeI S t = -1 := by unfold placeI; rw [h]

section
variable {w w' : World} {p : Nat} {S : St}
theorem index_on (h : RunAt w p S) (t : Nat) :
    Calls Try.prog 58 #[.slice (some ⟨p, 1, none⟩) 4 4, .int .i64 t] w fun e w' => e = .returned (.int .i64 (placeI S t)) ∧ w = w' := by
  have H := Lib.hid h
  clear h
  go_enter Try.func58, Try.ntmps58
  go_wp2_with fail
  go_loopw [5, 8] (fun _ i wr => ∃ k : Nat, k ≤ 4 ∧ i = .int .i64 k ∧ (∀ j, j < k → S.on j ≠ t) ∧ w = wr) (fun _ i _ => 4 - (intOf i).toNat)
  case atStart => exact ⟨0, Nat.zero_le _, rfl, fun j hj => absurd hj (Nat.not_lt_zero _), rfl⟩
  case round =>
    obtain ⟨k, hk, rfl, ht, rfl⟩ := hrel
    have HT := Lib.hid ht
    clear ht
    by_cases hlt : k < 4
    · have d0 := H.out.on k hlt
      have g1 : (k : Int) < 4 := by omega
      have g2 : (0 : Int) ≤ k := by omega
      generalize hx : S.on k = x at *
      have EX := Lib.hid hx
      clear hx
      by_cases hxt : t = x
      · subst hxt
        have hne : ((t : Int) == t) = true := by simp
        go_wp2_with fail
        go_ret
        exact ⟨ret_int (placeI_some (place_some hlt EX.out HT.out)).symm, rfl⟩
      · have hne : ((t : Int) == x) = false := by simp; omega
        have HN := Lib.hid hxt
        clear hxt
        go_wp2_with fail
        go_roundw
        case rel => exact ⟨k + 1, by omega, by go_num, fun j hj => by
          by_cases e : j = k
          · subst e; rw [EX.out]; exact fun e => HN.out e.symm
          · exact HT.out j (by omega), trivial⟩
        case measure => simp [intOf]; omega
    · obtain rfl : k = 4 := by omega
      go_wp2_with fail
      go_ret
      exact ⟨ret_int (placeI_none (place_none HT.out)).symm, rfl⟩

theorem place_any (h : RunAt w p S) (t : Nat) :
    Calls Try.prog 83 #[.pointer (some ⟨p, 0, none⟩), .int .i64 t] w fun e w' => e = .returned (.int .i64 (placeI S t)) ∧ w = w' := by
  have hi := Lib.hid (index_on h t)
  clear h
  go_enter Try.func83, Try.ntmps83
  go_wp2_with (go_at_call 58; (with_reducible refine hi.out.mono ?_); rintro e w' ⟨rfl, rfl⟩)
  go_ret
  exact ⟨rfl, rfl⟩

theorem queue_any (h : RunAt w p S) (t : Nat) (ht : t < 17) (g0 : 0 ≤ S.g) (g1 : S.g ≤ 9000000000000000000) :
    Calls Try.prog 124 #[.pointer (some ⟨p, 0, none⟩), .pointer (some ⟨p, 5 + t * 13, none⟩)] w (Keep p (queue S t) (.tuple #[]) w) := by
  have H := Lib.hid h
  have cg := h.hg
  have cs := h.qs t ht
  have fz := h.frozen
  clear h
  go_enter Try.func124, Try.ntmps124
  go_wp2
  go_end0
  refine ⟨rfl, ?_, only1 _ _ (only1 _ _ (Only.refl _ _))⟩
  exact (H.out.set_g (S.g + 1)).set_s t ht (S.g + 1)

theorem clear_no (h : RunAt w p S) (x : Int) (hx : x < 0) :
    Calls Try.prog 82 #[.pointer (some ⟨p, 0, none⟩), .int .i64 x] w (Keep p S (.tuple #[]) w) := by
  have H := Lib.hid h
  have hx2 : ¬ 0 ≤ x := by omega
  clear h
  go_enter Try.func82, Try.ntmps82
  go_wp2
  go_end0
  exact ⟨rfl, H.out, Only.refl _ _⟩
theorem clear_any (h : RunAt w p S) (cpu : Nat) (hc : cpu < 4) (ho : S.on cpu ≤ 16) (g0 : 0 ≤ S.g) (g1 : S.g ≤ 9000000000000000000) :
    Calls Try.prog 82 #[.pointer (some ⟨p, 0, none⟩), .int .i64 cpu] w (Keep p (clr S cpu) (.tuple #[]) w) := by
  have H := Lib.hid h
  have co := h.on cpu hc
  have k1 : (0 : Int) ≤ cpu := by omega
  have k2 : (cpu : Int) < 4 := by omega
  by_cases e : S.on cpu = 0
  · rw [show clr S cpu = S by unfold clr; rw [if_pos e]]
    rw [e] at co
    clear h e
    go_enter Try.func82, Try.ntmps82
    go_wp2
    go_end0
    exact ⟨rfl, H.out, Only.refl _ _⟩
  · rw [show clr S cpu = { queue S (S.on cpu) with on := upd S.on cpu 0 } by unfold clr; rw [if_neg e]]
    have hq := Lib.hid (fun W (h : RunAt W p S) => queue_any h (S.on cpu) (by omega) g0 g1)
    have fz := h.frozen
    have e0 : (((S.on cpu : Nat) : Int) != 0) = true := by simp [e]
    have e1 : ((S.on cpu : Nat) : Int) < 17 := by omega
    have e2 : (0 : Int) ≤ ((S.on cpu : Nat) : Int) := by omega
    have EQ : Hid ((queue S (S.on cpu)).on = S.on) := Lib.hid rfl
    clear h e
    generalize S.on cpu = u at *
    go_enter Try.func82, Try.ntmps82
    go_wp2_with fail
    go_region_with (go_at_call 124; (with_reducible refine (hq.out _ (H.out.later (Only.refl _ _).drew)).mono ?_); rintro e w2 ⟨rfl, hR, hO⟩; have H2 := Lib.hid hR; have O2 := Lib.hid (only_pp (only_p (Only.refl _ w).drew) hO); clear hR hO)
    have fz2 := H2.out.frozen
    have co2 := H2.out.on cpu hc
    go_wp2_with fail
    go_end0
    exact ⟨rfl, H2.out.set_on cpu hc 0, only1 _ _ O2.out⟩

theorem firstTo_zero (S : St) (cpu : Nat) : firstTo S cpu 0 = 0 := rfl
theorem firstTo_skip {S : St} {cpu k : Nat} (h : asks S cpu k = false) : firstTo S cpu (k + 1) = firstTo S cpu k := by
  show (if asks S cpu k ∧ _ then k else firstTo S cpu k) = _
  rw [if_neg (by rw [h]; simp)]
theorem firstTo_take {S : St} {cpu k : Nat} (h : asks S cpu k = true) (h2 : firstTo S cpu k = 0 ∨ prec (S.T k) (S.T (firstTo S cpu k)) = true) : firstTo S cpu (k + 1) = k := by
  show (if asks S cpu k ∧ _ then k else firstTo S cpu k) = _
  rw [if_pos ⟨h, h2⟩]
theorem firstTo_stay {S : St} {cpu k : Nat} (h1 : firstTo S cpu k ≠ 0) (h2 : prec (S.T k) (S.T (firstTo S cpu k)) = false) : firstTo S cpu (k + 1) = firstTo S cpu k := by
  show (if asks S cpu k ∧ _ then k else firstTo S cpu k) = _
  rw [if_neg (fun q => q.2.elim h1 (fun e => by rw [h2] at e; cases e))]
theorem firstTo_le (S : St) (cpu k : Nat) : firstTo S cpu k ≤ k := by
  induction k with
  | zero => exact Nat.le_refl _
  | succ k ih =>
    show (if asks S cpu k ∧ _ then k else firstTo S cpu k) ≤ _
    split <;> omega
theorem firstTo_lt (S : St) (cpu k : Nat) (h : firstTo S cpu k ≠ 0) : firstTo S cpu k < k := by
  induction k with
  | zero => exact absurd rfl h
  | succ k ih =>
    revert h
    show (if asks S cpu k ∧ _ then k else firstTo S cpu k) ≠ 0 → (if asks S cpu k ∧ _ then k else firstTo S cpu k) < _
    split
    · intro _; omega
    · intro h; have := ih h; omega

theorem first_any (h : RunAt w p S) (hf : Fine S) (cpu : Nat) (hc : cpu < 4) :
    Calls Try.prog 125 #[.pointer (some ⟨p, 0, none⟩), .int .i64 cpu] w fun e w' => e = .returned (.int .i64 (first S cpu : Nat)) ∧ Only (fun _ => False) w w' := by
  have H := Lib.hid h
  have HF := Lib.hid hf
  clear h hf
  unfold first
  go_enter Try.func125, Try.ntmps125
  go_wp2_with fail
  go_loopw [5, 8] (fun f i wr => ∃ k : Nat, k ≤ 17 ∧ i = .int .i64 k ∧ f = .int .i64 (firstTo S cpu k : Nat) ∧ Only (fun _ => False) w wr) (fun _ i _ => 17 - (intOf i).toNat)
  case atStart => exact ⟨0, by omega, rfl, rfl, Only.refl _ _⟩
  case round =>
    obtain ⟨k, hk, rfl, rfl, hO⟩ := hrel
    have HO := Lib.hid hO
    have HR := Lib.hid (H.out.later hO)
    clear hO
    by_cases hlt : k < 17
    · have g1 : (k : Int) < 17 := by omega
      have g2 : (0 : Int) ≤ k := by omega
      have w1 := Lib.hid (mayWait_any HR.out k hlt)
      have w2 := Lib.hid (mayRun_any HR.out k hlt cpu hc (HF.out.m k hlt))
      have w3 := Lib.hid (place_any HR.out k)
      have HP := Lib.hid (precedes_any HR.out k (firstTo S cpu k) hlt (by have := firstTo_le S cpu k; omega) HF.out.v)
      have EA : Hid (asks S cpu k = (waits (S.T k) && may (S.T k) cpu && (place S k).isNone)) := Lib.hid rfl
      have ES := Lib.hid (firstTo_skip (S := S) (cpu := cpu) (k := k))
      have ET := Lib.hid (firstTo_take (S := S) (cpu := cpu) (k := k))
      have EY := Lib.hid (firstTo_stay (S := S) (cpu := cpu) (k := k))
      have EL := firstTo_le S cpu k
      generalize firstTo S cpu k = f at *
      cases hw : waits (S.T k) with
      | false =>
        rw [hw] at w1 EA
        have E := Lib.hid (ES.out (by rw [EA.out]; rfl))
        clear w2 w3 HP EA ES ET EY
        go_wp2_with (go_at_call 149; (with_reducible refine w1.out.mono ?_); rintro e w' ⟨rfl, rfl⟩)
        go_roundw
        case rel => exact ⟨k + 1, by omega, by go_num, by rw [E.out], HO.out⟩
        case measure => simp [intOf]; omega
      | true =>
        rw [hw] at w1 EA
        cases hm : may (S.T k) cpu with
        | false =>
          rw [hm] at w2 EA
          have E := Lib.hid (ES.out (by rw [EA.out]; rfl))
          clear w3 HP EA ES ET EY
          go_wp2_with (first
            | (go_at_call 149; (with_reducible refine w1.out.mono ?_); rintro e w' ⟨rfl, rfl⟩)
            | (go_at_call 99; (with_reducible refine w2.out.mono ?_); rintro e w' ⟨rfl, rfl⟩))
          go_roundw
          case rel => exact ⟨k + 1, by omega, by go_num, by rw [E.out], HO.out⟩
          case measure => simp [intOf]; omega
        | true =>
          rw [hm] at w2 EA
          cases hp : place S k with
          | some i =>
            rw [hp] at EA
            rw [placeI_some hp] at w3
            have E := Lib.hid (ES.out (by rw [EA.out]; rfl))
            have i0 : (0 : Int) ≤ (i : Int) := by omega
            clear HP EA ES ET EY
            go_wp2_with (first
              | (go_at_call 149; (with_reducible refine w1.out.mono ?_); rintro e w' ⟨rfl, rfl⟩)
              | (go_at_call 99; (with_reducible refine w2.out.mono ?_); rintro e w' ⟨rfl, rfl⟩)
              | (go_at_call 83; (with_reducible refine w3.out.mono ?_); rintro e w' ⟨rfl, rfl⟩))
            go_roundw
            case rel => exact ⟨k + 1, by omega, by go_num, by rw [E.out], HO.out⟩
            case measure => simp [intOf]; omega
          | none =>
            rw [hp] at EA
            rw [placeI_none hp] at w3
            have A : Hid (asks S cpu k = true) := Lib.hid (by rw [EA.out]; rfl)
            by_cases hf0 : f = 0
            · have E := Lib.hid (ET.out A.out (Or.inl hf0))
              have f0 : ((f : Int) == 0) = true := by simp [hf0]
              clear HP EA ES ET EY hf0
              go_wp2_with (first
                | (go_at_call 149; (with_reducible refine w1.out.mono ?_); rintro e w' ⟨rfl, rfl⟩)
                | (go_at_call 99; (with_reducible refine w2.out.mono ?_); rintro e w' ⟨rfl, rfl⟩)
                | (go_at_call 83; (with_reducible refine w3.out.mono ?_); rintro e w' ⟨rfl, rfl⟩))
              go_roundw
              case rel => exact ⟨k + 1, by omega, by go_num, by rw [E.out], HO.out⟩
              case measure => simp [intOf]; omega
            · have f0 : ((f : Int) == 0) = false := by simp [hf0]
              have f1 : (0 : Int) ≤ f := by omega
              have f2 : (f : Int) < 17 := by omega
              cases hp2 : prec (S.T k) (S.T f) with
              | true =>
                rw [hp2] at HP
                have E := Lib.hid (ET.out A.out (Or.inr hp2))
                clear EA ES ET EY hf0
                go_wp2_with (first
                  | (go_at_call 149; (with_reducible refine w1.out.mono ?_); rintro e w' ⟨rfl, rfl⟩)
                  | (go_at_call 99; (with_reducible refine w2.out.mono ?_); rintro e w' ⟨rfl, rfl⟩)
                  | (go_at_call 83; (with_reducible refine w3.out.mono ?_); rintro e w' ⟨rfl, rfl⟩)
                  | (go_at_call 150; (with_reducible refine HP.out.mono ?_); rintro e w5 ⟨rfl, hO5⟩; have HO5 := Lib.hid (HO.out.trans hO5 (fun _ _ e => e)); clear hO5))
                go_roundw
                case rel => exact ⟨k + 1, by omega, by go_num, by rw [E.out], HO5.out⟩
                case measure => simp [intOf]; omega
              | false =>
                rw [hp2] at HP
                have E := Lib.hid (EY.out hf0 hp2)
                clear EA ES ET EY hf0
                go_wp2_with (first
                  | (go_at_call 149; (with_reducible refine w1.out.mono ?_); rintro e w' ⟨rfl, rfl⟩)
                  | (go_at_call 99; (with_reducible refine w2.out.mono ?_); rintro e w' ⟨rfl, rfl⟩)
                  | (go_at_call 83; (with_reducible refine w3.out.mono ?_); rintro e w' ⟨rfl, rfl⟩)
                  | (go_at_call 150; (with_reducible refine HP.out.mono ?_); rintro e w5 ⟨rfl, hO5⟩; have HO5 := Lib.hid (HO.out.trans hO5 (fun _ _ e => e)); clear hO5))
                go_roundw
                case rel => exact ⟨k + 1, by omega, by go_num, by rw [E.out], HO5.out⟩
                case measure => simp [intOf]; omega
    · obtain rfl : k = 17 := by omega
      go_wp2_with fail
      go_ret
      exact ⟨rfl, HO.out⟩
end
end Go.Proofs.Ytddfdnhlghmapaa.Sp
