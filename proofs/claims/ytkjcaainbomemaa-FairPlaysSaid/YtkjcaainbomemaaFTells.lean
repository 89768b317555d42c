/- The statements' fairTells: a class of fair shares and its reference tell the same. -/
import Derived.Test.YtkjcaainbomemaaFWokeUp2
import Derived.Test.YtkjcaainbomemaaFNextr
namespace Go.Proofs.Ytkjcaainbomemaa.Fr
open Go.ChangeShapes Go.WideShapes Go.ChangeAt Go.RowKit Go.Maps
open Go.Proofs.Ytkjcaainbomemaa.Vt Go.Proofs.Ytkjcaainbomemaa.Pt
set_option linter.unusedVariables false

/-- A class and its reference, that hold the same. -/
structure Both (B : Nat) (w : World) (p q : Nat) (L : List (Nat × Nat)) (T : Tks) (G : Grs) (W GW : Nat → Int) (M : Int) : Prop where
  fair : FairAt w p T G
  ref : RefAt B w q L T G W GW
  same : Same L T G W GW
  fit : Fit T G M
  new : B ≤ p

section
variable {B : Nat} {w w' : World} {p q : Nat} {L : List (Nat × Nat)} {T : Tks} {G : Grs} {W GW : Nat → Int} {M : Int}
theorem Both.r0 (h : Both B w p q L T G W GW M) : (T 0).r = false := by
  cases hr : (T 0).r with
  | false => rfl
  | true => exact absurd h.fit.no (h.fit.rc 0 (by omega) hr)
theorem Both.later (h : Both B w p q L T G W GW M) (hO : Only (fun _ => False) w w') : Both B w' p q L T G W GW M := ⟨h.fair.later hO, h.ref.later hO, h.same, h.fit, h.new⟩

theorem findr_yes (h : RefAt B w q L T G W GW) (hs : Same L T G W GW) {b t : Nat} (hx : (b, t) ∈ L) :
    Calls Try.prog 13 #[.pointer (some ⟨q, 0, none⟩), .int .i64 t] w fun e w' => e = .returned (.pointer (some ⟨b, 0, none⟩)) ∧ w = w' := by
  refine (findr_any h (h.len16 hs) t).mono ?_
  rintro e w' ⟨⟨b', n, rfl, hm, hn⟩ | ⟨rfl, hno⟩, rfl⟩
  · have : n = t := by omega
    subst this
    rw [h.same_num hm hx]
    exact ⟨rfl, rfl⟩
  · exact absurd rfl (hno _ hx)
theorem findr_no (h : RefAt B w q L T G W GW) (hs : Same L T G W GW) {t : Int} (hx : ∀ x ∈ L, (x.2 : Int) ≠ t) :
    Calls Try.prog 13 #[.pointer (some ⟨q, 0, none⟩), .int .i64 t] w fun e w' => e = .returned (.pointer none) ∧ w = w' := by
  refine (findr_any h (h.len16 hs) t).mono ?_
  rintro e w' ⟨⟨b', n, rfl, hm, hn⟩ | ⟨rfl, hno⟩, rfl⟩
  · exact absurd hn (hx _ hm)
  · exact ⟨rfl, rfl⟩

theorem Same.there (hs : Same L T G W GW) {x : Nat × Nat} (hx : x ∈ L) : (T x.2).c ≠ 0 := by
  have h1 := hs.wt x hx
  have := costOf_lo h1.1
  omega
theorem Same.not_there (hs : Same L T G W GW) {t : Int} (ht : ¬ isTask T t) : ∀ x ∈ L, (x.2 : Int) ≠ t := by
  intro x hx e
  have h1 := hs.num x hx
  exact ht ⟨by omega, by omega, by rw [← e]; exact hs.there hx⟩

set_option maxRecDepth 100000 in
set_option maxHeartbeats 1000000 in
theorem tells_any (h : Both B w p q L T G W GW M) :
    Calls Try.prog 26 #[.pointer (some ⟨p, 0, none⟩), .pointer (some ⟨q, 0, none⟩)] w fun e w' => e = .returned (.bool true) ∧ Only (fun _ => False) w w' := by
  have H := Lib.hid h
  have kp := Lib.hid (pick_any h.fair)
  have kn := Lib.hid (fun (w2 : World) (hO : Only (fun _ => False) w w2) => nextr_any (h.ref.later hO) h.same h.r0 h.fit.rc)
  have hl := next_lt T G
  clear h
  by_cases hz : (next T G).1 = 0
  · have e1 : pickAns T G = (0, 4) := by unfold pickAns; rw [if_pos hz]
    rw [e1] at kp
    have HZ := Lib.hid hz
    clear e1 hz hl
    go_enter Try.func26, Try.ntmps26
    go_wp2_with (first
      | (go_at_call 41; (with_reducible refine kp.out.mono ?_); rintro e w1 ⟨rfl, hO⟩; have HO1 := Lib.hid hO; clear hO)
      | (go_at_call 24; (with_reducible refine (kn.out _ HO1.out).mono ?_); rintro e w2 ⟨hcs, hO⟩; have HO2 := Lib.hid (HO1.out.trans hO (fun _ _ h => h)); obtain rfl : e = .returned (.pointer none) := (by rcases hcs with ⟨_, h⟩ | ⟨h, _⟩; exact h; exact absurd HZ.out h); clear hcs hO))
    go_loopw [40] (fun i wr => ∃ k : Nat, k ≤ 18 ∧ i = .int .i64 k ∧ wr = w2) (fun i _ => 18 - (intOf i).toNat)
    case atStart => exact ⟨0, by omega, rfl, rfl⟩
    case round =>
      obtain ⟨k, hk, rfl, rfl⟩ := hrel
      by_cases hlt : k < 18
      · have g1 : (k : Int) < 18 := by omega
        by_cases hT : isTask T k
        · have hTk : 1 ≤ k ∧ k ≤ 16 ∧ (T k).c ≠ 0 := ⟨by have := hT.1; omega, by have := hT.2.1; omega, by simpa using hT.2.2⟩
          obtain ⟨b, hb⟩ := H.out.same.all k (by omega) hTk.2.2
          have H2 := Lib.hid (H.out.later HO2.out)
          have ka := Lib.hid (at_yes H2.out.fair k hTk.1 hTk.2.1 hTk.2.2)
          have kf := Lib.hid (findr_yes H2.out.ref H2.out.same hb)
          have dv := H2.out.ref.tv hb
          clear hb hT
          generalize (T k).v = v at *
          go_wp2_with (first
            | (go_at_call 31; (with_reducible refine ka.out.mono ?_); rintro e w' ⟨rfl, rfl⟩)
            | (go_at_call 13; (with_reducible refine kf.out.mono ?_); rintro e w' ⟨rfl, rfl⟩))
          go_roundw
          case rel => exact ⟨k + 1, by omega, by go_num, trivial⟩
          case measure => simp [intOf]; omega
        · have H2 := Lib.hid (H.out.later HO2.out)
          have ka := Lib.hid (at_no H2.out.fair k hT)
          have kf := Lib.hid (findr_no H2.out.ref H2.out.same (H2.out.same.not_there hT))
          clear hT
          go_wp2_with (first
            | (go_at_call 31; (with_reducible refine ka.out.mono ?_); rintro e w' ⟨rfl, rfl⟩)
            | (go_at_call 13; (with_reducible refine kf.out.mono ?_); rintro e w' ⟨rfl, rfl⟩))
          go_roundw
          case rel => exact ⟨k + 1, by omega, by go_num, trivial⟩
          case measure => simp [intOf]; omega
      · have g18 : ¬ (k : Int) < 18 := by omega
        go_wp2_with fail
        obtain ⟨w3, hw3⟩ : ∃ w3, wr = w3 := ⟨_, rfl⟩
        rw [hw3]
        rw [hw3] at HO2
        clear hw3
        go_loopw [71] (fun i wx => ∃ k : Nat, k ≤ 9 ∧ i = .int .i64 k ∧ wx = w3) (fun i _ => 9 - (intOf i).toNat)
        case atStart => exact ⟨0, by omega, rfl, rfl⟩
        case round =>
          obtain ⟨k, hk, rfl, rfl⟩ := hrel
          by_cases hlt2 : k < 9
          · have g1 : (k : Int) < 9 := by omega
            have H2 := Lib.hid (H.out.later HO2.out)
            have di := H2.out.ref.is k hlt2
            have dv := H2.out.ref.gv k hlt2
            by_cases hc : (G k).c = 0
            · have e1 : decide ((G k).c ≠ 0) = false := decide_eq_false (fun h => h hc)
              rw [e1] at di
              have ka := Lib.hid (gat_no H2.out.fair k (fun h => h.2.2 (by simpa using hc)))
              clear hc e1
              go_wp2_with (go_at_call 32; (with_reducible refine ka.out.mono ?_); rintro e w' ⟨rfl, rfl⟩)
              go_roundw
              case rel => exact ⟨k + 1, by omega, by go_num, trivial⟩
              case measure => simp [intOf]; omega
            · have e1 : decide ((G k).c ≠ 0) = true := decide_eq_true hc
              rw [e1] at di
              have hk0 : k ≠ 0 := by rintro rfl; exact hc H.out.same.g0
              have ka := Lib.hid (gat_yes H2.out.fair k (by omega) (by omega) hc)
              clear hc e1
              generalize (G k).v = v at *
              go_wp2_with (go_at_call 32; (with_reducible refine ka.out.mono ?_); rintro e w' ⟨rfl, rfl⟩)
              go_roundw
              case rel => exact ⟨k + 1, by omega, by go_num, trivial⟩
              case measure => simp [intOf]; omega
          · obtain rfl : k = 9 := by omega
            go_wp2_with fail
            go_ret
            exact ⟨rfl, HO2.out⟩
  · have e1 : pickAns T G = (((next T G).1 : Int), 0) := by unfold pickAns; rw [if_neg hz]
    rw [e1] at kp
    have HZ := Lib.hid hz
    clear e1 hz
    generalize (next T G).1 = n at *
    go_enter Try.func26, Try.ntmps26
    go_wp2_with (first
      | (go_at_call 41; (with_reducible refine kp.out.mono ?_); rintro e w1 ⟨rfl, hO⟩; have HO1 := Lib.hid hO; clear hO)
      | (go_at_call 24; (with_reducible refine (kn.out _ HO1.out).mono ?_); rintro e w2 ⟨hcs, hO⟩; have HO2 := Lib.hid (HO1.out.trans hO (fun _ _ h => h)); obtain ⟨b0, hb0, rfl⟩ : ∃ b, (b, n) ∈ L ∧ e = .returned (pt b) := (by rcases hcs with ⟨h, _⟩ | ⟨_, h⟩; exact absurd h HZ.out; exact h); have dn := (H.out.later HO2.out).ref.tn hb0; unfold pt; clear hb0 hcs hO))
    go_loopw [40] (fun i wr => ∃ k : Nat, k ≤ 18 ∧ i = .int .i64 k ∧ wr = w2) (fun i _ => 18 - (intOf i).toNat)
    case atStart => exact ⟨0, by omega, rfl, rfl⟩
    case round =>
      obtain ⟨k, hk, rfl, rfl⟩ := hrel
      by_cases hlt : k < 18
      · have g1 : (k : Int) < 18 := by omega
        by_cases hT : isTask T k
        · have hTk : 1 ≤ k ∧ k ≤ 16 ∧ (T k).c ≠ 0 := ⟨by have := hT.1; omega, by have := hT.2.1; omega, by simpa using hT.2.2⟩
          obtain ⟨b, hb⟩ := H.out.same.all k (by omega) hTk.2.2
          have H2 := Lib.hid (H.out.later HO2.out)
          have ka := Lib.hid (at_yes H2.out.fair k hTk.1 hTk.2.1 hTk.2.2)
          have kf := Lib.hid (findr_yes H2.out.ref H2.out.same hb)
          have dv := H2.out.ref.tv hb
          clear hb hT
          generalize (T k).v = v at *
          go_wp2_with (first
            | (go_at_call 31; (with_reducible refine ka.out.mono ?_); rintro e w' ⟨rfl, rfl⟩)
            | (go_at_call 13; (with_reducible refine kf.out.mono ?_); rintro e w' ⟨rfl, rfl⟩))
          go_roundw
          case rel => exact ⟨k + 1, by omega, by go_num, trivial⟩
          case measure => simp [intOf]; omega
        · have H2 := Lib.hid (H.out.later HO2.out)
          have ka := Lib.hid (at_no H2.out.fair k hT)
          have kf := Lib.hid (findr_no H2.out.ref H2.out.same (H2.out.same.not_there hT))
          clear hT
          go_wp2_with (first
            | (go_at_call 31; (with_reducible refine ka.out.mono ?_); rintro e w' ⟨rfl, rfl⟩)
            | (go_at_call 13; (with_reducible refine kf.out.mono ?_); rintro e w' ⟨rfl, rfl⟩))
          go_roundw
          case rel => exact ⟨k + 1, by omega, by go_num, trivial⟩
          case measure => simp [intOf]; omega
      · have g18 : ¬ (k : Int) < 18 := by omega
        go_wp2_with fail
        obtain ⟨w3, hw3⟩ : ∃ w3, wr = w3 := ⟨_, rfl⟩
        rw [hw3]
        rw [hw3] at HO2
        clear hw3
        go_loopw [71] (fun i wx => ∃ k : Nat, k ≤ 9 ∧ i = .int .i64 k ∧ wx = w3) (fun i _ => 9 - (intOf i).toNat)
        case atStart => exact ⟨0, by omega, rfl, rfl⟩
        case round =>
          obtain ⟨k, hk, rfl, rfl⟩ := hrel
          by_cases hlt2 : k < 9
          · have g1 : (k : Int) < 9 := by omega
            have H2 := Lib.hid (H.out.later HO2.out)
            have di := H2.out.ref.is k hlt2
            have dv := H2.out.ref.gv k hlt2
            by_cases hc : (G k).c = 0
            · have e1 : decide ((G k).c ≠ 0) = false := decide_eq_false (fun h => h hc)
              rw [e1] at di
              have ka := Lib.hid (gat_no H2.out.fair k (fun h => h.2.2 (by simpa using hc)))
              clear hc e1
              go_wp2_with (go_at_call 32; (with_reducible refine ka.out.mono ?_); rintro e w' ⟨rfl, rfl⟩)
              go_roundw
              case rel => exact ⟨k + 1, by omega, by go_num, trivial⟩
              case measure => simp [intOf]; omega
            · have e1 : decide ((G k).c ≠ 0) = true := decide_eq_true hc
              rw [e1] at di
              have hk0 : k ≠ 0 := by rintro rfl; exact hc H.out.same.g0
              have ka := Lib.hid (gat_yes H2.out.fair k (by omega) (by omega) hc)
              clear hc e1
              generalize (G k).v = v at *
              go_wp2_with (go_at_call 32; (with_reducible refine ka.out.mono ?_); rintro e w' ⟨rfl, rfl⟩)
              go_roundw
              case rel => exact ⟨k + 1, by omega, by go_num, trivial⟩
              case measure => simp [intOf]; omega
          · obtain rfl : k = 9 := by omega
            go_wp2_with fail
            go_ret
            exact ⟨rfl, HO2.out⟩
end
end Go.Proofs.Ytkjcaainbomemaa.Fr
