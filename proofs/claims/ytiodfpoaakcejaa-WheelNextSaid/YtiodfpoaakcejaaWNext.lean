/- The walk of WheelNext. -/
import Derived.Test.YtiodfpoaakcejaaTimers
namespace Go.Proofs.Ytiodfpoaakcejaa.Wh
open Go.ChangeShapes Go.WideShapes Go.ChangeAt Go.RowKit Go.Maps
open Go.Proofs.Ytiodfpoaakcejaa.Hp
set_option linter.unusedVariables false

/-- Where WheelNext stands: so many are gone, it is so late, R are left. -/
structure Nexting (B C : Nat) (n k g : Nat) (q : Nat) (t : Int) (R : Timers) (w : World) : Prop where
  wheel : WheelAt (fun k => B ≤ k ∧ k < C) w q t R
  left : R.length + g = n
  rounds : k ≤ g
  late : ∀ r ∈ R, t ≤ r.2 ∧ r.2 < t + 5000 ∧ r.2 < 4294967296 + 5000
  now : t < 4294967296 + 5000
  size : C ≤ w.heap.size

section
variable {B C n k g q : Nat} {t : Int} {R : Timers} {w w' : World}
theorem Nexting.there (h : Nexting B C n k g q t R w) : ∀ k, B ≤ k ∧ k < C → k < w.heap.size := fun k hk => Nat.lt_of_lt_of_le hk.2 h.size
theorem Nexting.later (h : Nexting B C n k g q t R w) (hO : Only (fun _ => False) w w') : Nexting B C n k g q t R w' := ⟨h.wheel.later hO, h.left, h.rounds, h.late, h.now, Nat.le_trans h.size hO.size⟩
theorem Nexting.only {w0 : World} (h : Nexting B C n k g q t R w) (hB : w0.heap.size ≤ B) (h0 : Only (fun _ => False) w0 w) (hO : Only (fun k => B ≤ k ∧ k < C) w w') : Only (fun _ => False) w0 w' := only_above h0 hO (fun _ e => Nat.le_trans hB e.1)
theorem Nexting.still {u : Int} (h : Nexting B C n k g q t R w) (hO : Only (fun k => B ≤ k ∧ k < C) w w') (hw : WheelAt (fun k => B ≤ k ∧ k < C) w' q u (stay R u)) (hl : ∀ r ∈ R, u < r.2) (hu : t < u + 1) (hb : u < 4294967296 + 5000) : Nexting B C n k g q u R w' := by
  rw [stay_all hl] at hw
  refine ⟨hw, h.left, h.rounds, fun r hr => by have := hl r hr; have := h.late r hr; omega, hb, Nat.le_trans h.size hO.size⟩
theorem Nexting.next {u : Int} {n2 : Nat} (h : Nexting B C n k g q t R w) (hO : Only (fun k => B ≤ k ∧ k < C) w w') (hw : WheelAt (fun k => B ≤ k ∧ k < C) w' q u (stay R u)) (hn : (goers R u).length = n2) (h2 : 0 < n2) (hu : t ≤ u) (hb : u < 4294967296 + 5000) : Nexting B C n (k + 1) (g + n2) q u (stay R u) w' := by
  have hl := goers_len R u
  have hl2 := h.left
  have hr := h.rounds
  refine ⟨hw, by omega, by omega, fun r hr => ?_, hb, Nat.le_trans h.size hO.size⟩
  have := mem_stay.1 hr
  have := h.late r this.1
  omega
end

theorem next_some {R : Timers} {m : Int × Int} (hm : Least R m) : 0 < (goers R m.2).length := List.length_pos_of_mem (mem_goers.2 ⟨hm.1, by omega⟩)

theorem none_yet {R : Timers} {m : Int × Int} (hm : Least R m) : (goers R (m.2 - 1)).length = 0 ∧ ∀ r ∈ R, m.2 - 1 < r.2 := by
  have h : ∀ r ∈ R, m.2 - 1 < r.2 := fun r hr => by
    have := hm.2 r hr
    simp only [prec, decide_eq_false_iff_not] at this
    omega
  exact ⟨by rw [goers_none h]; rfl, h⟩

theorem nexting_zero {B : Nat} {a : Int} {xs : List Int} {q : Nat} {w : World} (h : WheelAt (fun k => B ≤ k ∧ k < w.heap.size) w q a (timersOf a xs xs.length)) (hB : B ≤ w.heap.size) (ha : a < 4294967296) : Nexting B w.heap.size xs.length 0 0 q a (timersOf a xs xs.length) w := by
  refine ⟨h, by rw [timersOf_len]; rfl, Nat.le_refl _, fun r hr => ?_, by omega, Nat.le_refl _⟩
  obtain ⟨i, -, rfl⟩ := List.mem_map.1 hr
  have r0 := restOf_lo (xs.getD i 0) 5000 (by omega)
  have r1 := restOf_hi (xs.getD i 0) 5000 (by omega)
  simp only; omega

set_option maxRecDepth 100000 in
set_option maxHeartbeats 2000000 in
theorem next_start (a : Int) (ad : Option Addr) (len cap : Nat) (zs : List Int) (w : World) (ha : (Lit.int .u32 a).wf = true) (h : IsRow .i64 w ad len cap zs) :
    Calls Try.prog 7 #[.int .u32 a, .slice ad len cap] w fun e w' => e = .returned (.bool true) ∧ Below w.heap.size w w' := by
  obtain ⟨xs, hxl, hx, hc1, hc2⟩ := nums_cut h 60
  obtain ⟨a0, a1⟩ := u32_bd ha
  have HX := Lib.hid hx
  have HXL := Lib.hid hxl
  have hx2 : xs.length ≤ 60 := by omega
  clear h hx hxl ha
  go_enter Try.func7, Try.ntmps7
  go_upto_region 3 with (go_at_call 21; refine (begun_any _).mono ?_; rintro e w1 ⟨rfl, hO⟩; have HO1 := Lib.hid hO; clear hO)
  go_cut [0, 1] (fun s0 s1 wx => s0 = .int .u32 a ∧ s1 = .slice ad xs.length cap ∧ wx = w1)
  case first =>
    have HE := HXL.out
    rcases Nat.lt_or_ge 60 len with h200 | h200
    rotate_left
    · have h201 : (len : Int) ≤ 60 := by omega
      rw [Nat.min_eq_left (by omega)] at HE
      clear HX HXL
      have HE := Lib.hid HE
      go_wp2
      go_meet
      exact ⟨rfl, by rw [HE.out], rfl⟩
    · have h201 : (60 : Int) < len := by omega
      rw [Nat.min_eq_right (by omega)] at HE
      clear HX HXL
      have HE := Lib.hid HE
      go_wp2
      go_meet
      exact ⟨rfl, by rw [HE.out], rfl⟩
  case rest =>
    obtain ⟨rfl, rfl, rfl⟩ := hcut
    have HX1 := Lib.hid (HX.out.later HO1.out)
    clear HX HXL hc1 hc2
    go_wp2_with (go_at_call 22; refine (timers_any _ xs a _ a0 a1 HX1.out (by omega)).mono ?_; rintro e w2 ⟨q, rfl, hw, hO⟩; have HW := Lib.hid hw.there; have HO2 := Lib.hid hO; clear hw hO)
    have HN0 := Lib.hid (nexting_zero HW.out HO2.out.size (by omega))
    have HB := Lib.hid (show Only (fun _ => False) w w2 from HO1.out.trans HO2.out (fun _ _ e => e))
    have HC := Lib.hid HO1.out.size
    generalize wc.heap.size = B at *
    generalize w2.heap.size = C at *
    clear HW HO2 HX1 HO1
    go_loopw [0, 7, 31] (fun s0 s7 s31 wr => ∃ (k g : Nat) (t : Int) (R : Timers), s0 = .int .u32 (t % 4294967296) ∧ s7 = .int .i64 g ∧ s31 = .int .i64 k ∧ Nexting B C xs.length k g q t R wr ∧ Only (fun _ => False) w wr) (fun _ _ s31 _ => xs.length + 1 - (intOf s31).toNat)
    case atStart => exact ⟨0, 0, a, _, by rw [Int.emod_eq_of_lt a0 a1], rfl, rfl, HN0.out, HB.out⟩
    case round =>
      obtain ⟨k, g, t, R, rfl, rfl, rfl, hN, hO⟩ := hrel
      have HN := Lib.hid hN
      have HO := Lib.hid hO
      have hleft := hN.left
      have hround := hN.rounds
      have hlate := hN.now
      have hpast := hN.wheel.past
      clear hN hO HN0 HB
      have g1 : (k : Int) < xs.length + 1 := by omega
      cases R with
      | nil =>
        have hg : g = xs.length := by simpa using hleft
        subst hg
        go_wp2_with (go_at_call 20; refine (wnext_none HN.out.wheel).mono ?_; rintro e w3 ⟨rfl, rfl⟩)
        go_ret
        exact ⟨rfl, HO.out.below (Nat.le_refl _) (fun _ e => e.elim)⟩
      | cons r R =>
        generalize hRe : r :: R = R1 at *
        have HNE := Lib.hid (show R1 ≠ [] by rw [← hRe]; simp)
        clear hRe
        obtain ⟨m, hm⟩ := least_any HNE.out
        have HM1 := Lib.hid hm
        have hm2 := HN.out.late m hm.1
        have HL2 := Lib.hid (next_some hm)
        obtain ⟨n2, hn2⟩ : ∃ n2, (goers R1 m.2).length = n2 := ⟨_, rfl⟩
        have hn3 : 0 < n2 := by rw [← hn2]; exact HL2.out
        have hn4 : n2 ≤ R1.length := by rw [← hn2]; have := goers_len R1 m.2; omega
        have HN2 := Lib.hid hn2
        clear hm hn2
        by_cases hmt : m.2 = t
        · subst hmt
          go_wp2_with (first
            | (go_at_call 20; refine (wnext HN.out.wheel HM1.out).mono ?_; rintro e w3 ⟨rfl, hO3⟩; have HN3 := Lib.hid (HN.out.later hO3); have HO3 := Lib.hid (HO.out.trans hO3 (fun _ _ e => e)); clear hO3)
            | (go_at_call 17; refine (wstep_to m.2 _ HN3.out.wheel HN3.out.there rfl (by omega) (by omega) (by omega)).mono ?_; intro e w4 hs; obtain ⟨a4, c4, rfl, hr, hw, hO4⟩ := hs.open HN2.out; have HN4 := Lib.hid (HN3.out.next hO4 hw HN2.out hn3 (by omega) (by omega)); have HO4 := Lib.hid (HN3.out.only HC.out HO3.out hO4); clear hs hr hw hO4))
          go_roundw
          case rel => exact ⟨k + 1, g + n2, _, _, rfl, by go_num, by go_num, HN4.out, HO4.out⟩
          case measure => simp [intOf]; omega
        · have hlt : t < m.2 := by omega
          have hne : ¬ m.2 % 4294967296 = t % 4294967296 := by omega
          have HL1 := Lib.hid (none_yet HM1.out)
          go_wp2_with (first
            | (go_at_call 20; refine (wnext HN.out.wheel HM1.out).mono ?_; rintro e w3 ⟨rfl, hO3⟩; have HN3 := Lib.hid (HN.out.later hO3); have HO3 := Lib.hid (HO.out.trans hO3 (fun _ _ e => e)); clear hO3)
            | (go_at_call 17; refine (wstep_to (m.2 - 1) _ HN3.out.wheel HN3.out.there (by omega) (by omega) (by omega) (by omega)).mono ?_; intro e w4 hs; obtain ⟨a4, c4, rfl, hr, hw, hO4⟩ := hs.open HL1.out.1; have HN4 := Lib.hid (HN3.out.still hO4 hw HL1.out.2 (by omega) (by omega)); have HO4 := Lib.hid (HN3.out.only HC.out HO3.out hO4); clear hs hr hw hO4)
            | (go_at_call 17; refine (wstep_to m.2 _ HN4.out.wheel HN4.out.there (by omega) (by omega) (by omega) (by omega)).mono ?_; intro e w5 hs; obtain ⟨a5, c5, rfl, hr, hw, hO5⟩ := hs.open HN2.out; have HN5 := Lib.hid (HN4.out.next hO5 hw HN2.out hn3 (by omega) (by omega)); have HO5 := Lib.hid (HN4.out.only HC.out HO4.out hO5); clear hs hr hw hO5))
          go_roundw
          case rel => exact ⟨k + 1, g + n2, _, _, rfl, by go_num, by go_num, HN5.out, HO5.out⟩
          case measure => simp [intOf]; omega
end Go.Proofs.Ytiodfpoaakcejaa.Wh
