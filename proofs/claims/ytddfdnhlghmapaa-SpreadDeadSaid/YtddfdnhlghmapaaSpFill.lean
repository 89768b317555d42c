/- Contracts of package spread: fill, least, start, all, now, find, enter. -/
import Derived.Test.YtddfdnhlghmapaaSpFirst
namespace Go.Proofs.Ytddfdnhlghmapaa.Sp
open Go.ChangeShapes Go.WideShapes Go.ChangeAt Go.RowKit Go.Maps
open Go.Proofs.Ytddfdnhlghmapaa.Vt
set_option linter.unusedVariables false

theorem upd_on_le {f : Nat → Nat} {i x : Nat} (h : ∀ j, j < 4 → f j ≤ 16) (hx : x ≤ 16) (j : Nat) (hj : j < 4) : upd f i x j ≤ 16 := by
  unfold upd; split
  · exact hx
  · exact h j hj
theorem first_le (S : St) (cpu : Nat) : first S cpu ≤ 16 := by
  unfold first
  by_cases h : firstTo S cpu 17 = 0
  · omega
  · have := firstTo_lt S cpu 17 h; omega
section
variable {S : St}
theorem Fine.set_on (h : Fine S) {f : Nat → Nat} (hf : ∀ i, i < 4 → f i ≤ 16) : Fine { S with on := f } := ⟨h.n1, h.n4, hf, h.m, h.v⟩
theorem Fine.put1 (h : Fine S) (c : Nat) : Fine (put1 S c) := by
  unfold Sp.put1; split
  · exact h.set_on (upd_on_le h.on (first_le S c))
  · exact h
theorem put1_n (S : St) (c : Nat) : (put1 S c).n = S.n := by unfold put1; split <;> rfl
theorem put1_T (S : St) (c : Nat) : (put1 S c).T = S.T := by unfold put1; split <;> rfl
theorem fillTo_n (S : St) (c : Nat) : (fillTo S c).n = S.n := by
  induction c with
  | zero => rfl
  | succ c ih => show (put1 (fillTo S c) c).n = _; rw [put1_n]; exact ih
theorem fillTo_T (S : St) (c : Nat) : (fillTo S c).T = S.T := by
  induction c with
  | zero => rfl
  | succ c ih => show (put1 (fillTo S c) c).T = _; rw [put1_T]; exact ih
theorem Fine.fillTo (h : Fine S) (c : Nat) : Fine (fillTo S c) := by
  induction c with
  | zero => exact h
  | succ c ih => exact ih.put1 c
theorem Fine.fill (h : Fine S) : Fine (fill S) := h.fillTo _
theorem fillTo_stay {S : St} {c : Nat} (h : (fillTo S c).on c ≠ 0) : fillTo S (c + 1) = fillTo S c := by
  show put1 (fillTo S c) c = _
  unfold put1; rw [if_neg h]
theorem fillTo_put {S : St} {c : Nat} (h : (fillTo S c).on c = 0) : fillTo S (c + 1) = { fillTo S c with on := upd (fillTo S c).on c (first (fillTo S c) c) } := by
  show put1 (fillTo S c) c = _
  unfold put1; rw [if_pos h]
end

section
variable {w w' : World} {p : Nat} {S : St}
theorem fills (h : RunAt w p S) (hf : Fine S) :
    Calls Try.prog 84 #[.pointer (some ⟨p, 0, none⟩)] w (Keep p (fill S) (.tuple #[]) w) := by
  have H := Lib.hid h
  have HF := Lib.hid hf
  have cn := h.hn
  have n4 := hf.n4
  clear h hf
  unfold fill
  go_enter Try.func84, Try.ntmps84
  go_wp2_with fail
  clear cn
  go_loopw [7] (fun i wr => ∃ k : Nat, k ≤ S.n ∧ i = .int .i64 k ∧ RunAt wr p (fillTo S k) ∧ Only (fun k => k = p) w wr) (fun i _ => S.n - (intOf i).toNat)
  case atStart => exact ⟨0, by omega, rfl, H.out, Only.refl _ _⟩
  case round =>
    obtain ⟨k, hk, rfl, hR, hO⟩ := hrel
    have HO := Lib.hid hO
    have HR := Lib.hid hR
    have HG := Lib.hid (HF.out.fillTo k)
    clear hO hR
    by_cases hlt : k < S.n
    · have g1 : (k : Int) < S.n := by omega
      have g2 : (0 : Int) ≤ k := by omega
      have g3 : (k : Int) < 4 := by omega
      have co := HR.out.on k (by omega)
      have EK := Lib.hid (fillTo_stay (S := S) (c := k))
      have EP := Lib.hid (fillTo_put (S := S) (c := k))
      have hfirst := Lib.hid (fun W (h : RunAt W p (fillTo S k)) => first_any h HG.out k (by omega))
      have fz := HR.out.frozen
      generalize hU : fillTo S k = U at *
      by_cases e : U.on k = 0
      · rw [e] at co
        have E := Lib.hid (EP.out e)
        clear EK EP e hU
        go_wp2_with fail
        go_region_with (go_at_call 125; (with_reducible refine (hfirst.out _ (HR.out.later (Only.refl _ _).drew)).mono ?_); rintro e w2 ⟨rfl, hO⟩; have HR2 := Lib.hid ((HR.out.later (Only.refl (fun _ => False) _).drew).later hO); have HO2 := Lib.hid (only_pp (only_pp HO.out (only_p (Only.refl _ wr).drew)) (only_p hO)); have fz2 := HR2.out.frozen; have co2 := HR2.out.on k (by omega); clear hO)
        all_goals (
          (try go_wp2_with fail)
          go_roundw
          case rel => exact ⟨k + 1, by omega, by go_num, by rw [E.out]; exact HR2.out.set_on k (by omega) _, only1 _ _ HO2.out⟩
          case measure => simp [intOf]; omega)
      · have E := Lib.hid (EK.out e)
        have e0 : (((U.on k : Nat) : Int) == 0) = false := by simp [e]
        clear EK EP e hU hfirst
        go_wp2_with fail
        go_roundw
        case rel => exact ⟨k + 1, by omega, by go_num, by rw [E.out]; exact HR.out, HO.out⟩
        case measure => simp [intOf]; omega
    · have e : k = S.n := by omega
      subst e
      go_wp2_with fail
      go_end0
      exact ⟨rfl, HR.out, HO.out⟩

theorem leastTo_skip {S : St} {k : Nat} (h : isF S k = false) : leastTo S (k + 1) = leastTo S k := by
  show (if isF S k = true ∧ _ then k else leastTo S k) = _
  rw [if_neg (by rw [h]; simp)]
theorem leastTo_take {S : St} {k : Nat} (h : isF S k = true) (h2 : leastTo S k = 0 ∨ (S.T k).t < (S.T (leastTo S k)).t) : leastTo S (k + 1) = k := by
  show (if isF S k = true ∧ _ then k else leastTo S k) = _
  rw [if_pos ⟨h, h2⟩]
theorem leastTo_stay {S : St} {k : Nat} (h1 : leastTo S k ≠ 0) (h2 : ¬ (S.T k).t < (S.T (leastTo S k)).t) : leastTo S (k + 1) = leastTo S k := by
  show (if isF S k = true ∧ _ then k else leastTo S k) = _
  rw [if_neg (fun q => q.2.elim h1 h2)]
theorem leastTo_le (S : St) (k : Nat) (hk : 1 ≤ k) : leastTo S k < k := by
  induction k with
  | zero => omega
  | succ k ih =>
    show (if isF S k = true ∧ _ then k else leastTo S k) < _
    split
    · omega
    · by_cases h : 1 ≤ k
      · have := ih h; omega
      · have : k = 0 := by omega
        subst this
        show 0 < 1
        omega

theorem least_any (h : RunAt w p S) :
    Calls Try.prog 131 #[.pointer (some ⟨p, 0, none⟩)] w fun e w' => e = .returned (.int .i64 (least S)) ∧ Only (fun _ => False) w w' := by
  have H := Lib.hid h
  clear h
  unfold least
  go_enter Try.func131, Try.ntmps131
  go_wp2_with fail
  go_loopw [3, 6] (fun f i wr => ∃ k : Nat, k ≤ 17 ∧ i = .int .i64 k ∧ f = .int .i64 (leastTo S k : Nat) ∧ Only (fun _ => False) w wr) (fun _ i _ => 17 - (intOf i).toNat)
  case atStart => exact ⟨0, by omega, rfl, rfl, Only.refl _ _⟩
  case round =>
    obtain ⟨k, hk, rfl, rfl, hO⟩ := hrel
    have HO := Lib.hid hO
    have HR := Lib.hid (H.out.later hO)
    clear hO
    by_cases hlt : k < 17
    · have g1 : (k : Int) < 17 := by omega
      have g2 : (0 : Int) ≤ k := by omega
      have cc := HR.out.qc k hlt
      have cr := HR.out.qr k hlt
      have ct := HR.out.qt k hlt
      have EF : Hid (isF S k = (decide ((S.T k).c = 1) && (S.T k).r)) := Lib.hid rfl
      have ES := Lib.hid (leastTo_skip (S := S) (k := k))
      have ET := Lib.hid (leastTo_take (S := S) (k := k))
      have EY := Lib.hid (leastTo_stay (S := S) (k := k))
      have EL : leastTo S k ≤ 16 := by
        by_cases h : 1 ≤ k
        · have := leastTo_le S k h; omega
        · have : k = 0 := by omega
          subst this
          show 0 ≤ 16
          omega
      have cf := HR.out.qt (leastTo S k) (by omega)
      generalize leastTo S k = f at *
      by_cases hc : (S.T k).c = 1
      · rw [hc] at cc
        cases hr : (S.T k).r with
        | true =>
          rw [hr] at cr EF
          have A : Hid (isF S k = true) := Lib.hid (by rw [EF.out, decide_eq_true hc]; rfl)
          by_cases hf0 : f = 0
          · have E := Lib.hid (ET.out A.out (Or.inl hf0))
            have f0 : ((f : Int) == 0) = true := by simp [hf0]
            clear ES ET EY hf0 hc hr EF A
            go_wp2_with fail
            go_quiet (fail)
            go_wp2_with fail
            go_roundw
            case rel => exact ⟨k + 1, by omega, by go_num, by rw [E.out], only_drewN HO.out _⟩
            case measure => simp [intOf]; omega
          · have f0 : ((f : Int) == 0) = false := by simp [hf0]
            have f1 : (0 : Int) ≤ f := by omega
            have f2 : (f : Int) < 17 := by omega
            by_cases hl : (S.T k).t < (S.T f).t
            · have E := Lib.hid (ET.out A.out (Or.inr hl))
              have dl : decide ((S.T k).t < (S.T f).t) = true := decide_eq_true hl
              clear ES ET EY hf0 hc hr EF A hl
              go_wp2_with fail
              go_quiet (fail)
              go_wp2_with fail
              go_roundw
              case rel => exact ⟨k + 1, by omega, by go_num, by rw [E.out], only_drewN HO.out _⟩
              case measure => simp [intOf]; omega
            · have E := Lib.hid (EY.out hf0 hl)
              have dl : decide ((S.T k).t < (S.T f).t) = false := decide_eq_false hl
              clear ES ET EY hf0 hc hr EF A hl
              go_wp2_with fail
              go_quiet (fail)
              go_wp2_with fail
              go_roundw
              case rel => exact ⟨k + 1, by omega, by go_num, by rw [E.out], only_drewN HO.out _⟩
              case measure => simp [intOf]; omega
        | false =>
          rw [hr] at cr EF
          have E := Lib.hid (ES.out (by rw [EF.out]; simp))
          clear ES ET EY hc hr EF
          go_wp2_with fail
          go_quiet (fail)
          go_wp2_with fail
          go_roundw
          case rel => exact ⟨k + 1, by omega, by go_num, by rw [E.out], only_drewN HO.out _⟩
          case measure => simp [intOf]; omega
      · have E := Lib.hid (ES.out (by rw [EF.out, decide_eq_false hc]; rfl))
        have c0 : ((S.T k).c == 1) = false := by simp [hc]
        clear ES ET EY hc EF
        go_wp2_with fail
        go_quiet (fail)
        go_wp2_with fail
        go_roundw
        case rel => exact ⟨k + 1, by omega, by go_num, by rw [E.out], only_drewN HO.out _⟩
        case measure => simp [intOf]; omega
    · obtain rfl : k = 17 := by omega
      have hl := leastTo_le S 17 (by omega)
      have ct := HR.out.qt (leastTo S 17) hl
      generalize hgf : leastTo S 17 = f at *
      have EG := Lib.hid hgf
      clear hgf
      have f1 : (0 : Int) ≤ f := by omega
      have f2 : (f : Int) < 17 := by omega
      go_wp2_with fail
      go_ret
      exact ⟨by rw [EG.out]; rfl, HO.out⟩
end
end Go.Proofs.Ytddfdnhlghmapaa.Sp
