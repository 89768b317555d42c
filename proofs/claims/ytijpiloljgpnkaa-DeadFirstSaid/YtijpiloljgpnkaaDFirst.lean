/- The walk of DeadFirst. -/
import Derived.Test.YtijpiloljgpnkaaDOff
namespace Go.Proofs.Ytijpiloljgpnkaa.De
open Go.ChangeShapes Go.WideShapes Go.ChangeAt Go.RowKit Go.Maps
set_option linter.unusedVariables false

/-- Tasks 1 to k are there and ready, the others are not there. -/
def Made (T : Tks) (k : Nat) : Prop := ∀ t, 1 ≤ t → t < 17 → (t ≤ k → (T t).p ≠ 0 ∧ (T t).r = true) ∧ (k < t → (T t).p = 0)
theorem made_none : Made noT 0 := fun t h1 h2 => ⟨fun h => by omega, fun _ => rfl⟩
theorem made_add {T : Tks} {k : Nat} (h : Made T k) {b q n : Int} (hq : q ≠ 0) : Made (upd T (k + 1) (came b q n)) (k + 1) := by
  intro t h1 h2
  by_cases e : t = k + 1
  · subst e; rw [upd_same]; exact ⟨fun _ => ⟨hq, rfl⟩, fun h => by omega⟩
  · rw [upd_other _ _ e]
    have := h t h1 h2
    exact ⟨fun h => this.1 (by omega), fun h => this.2 (by omega)⟩

/-- Tasks 1 to m are there, those that f tells not ready. -/
def Off (T : Tks) (m : Nat) (f : Int → Bool) : Prop := ∀ t, 1 ≤ t → t < 17 → (t ≤ m → (T t).p ≠ 0 ∧ f t = !(T t).r) ∧ (m < t → (T t).p = 0)
theorem Made.off {T : Tks} {m : Nat} (h : Made T m) : Off T m (fun _ => false) := fun t h1 h2 => ⟨fun h3 => by have := (h t h1 h2).1 h3; exact ⟨this.1, by rw [this.2]; rfl⟩, (h t h1 h2).2⟩
theorem Off.set {T : Tks} {m : Nat} {f : Int → Bool} (h : Off T m f) {t : Nat} (h1 : 1 ≤ t) (h2 : t ≤ m) (hm : m < 17) {x : Tk} {c : Bool} (hp : x.p = (T t).p) (hr : x.r = !c) : Off (upd T t x) m (updI f t c) := by
  intro s s1 s2
  have := h s s1 s2
  unfold updI
  by_cases e : s = t
  · subst e; rw [upd_same, if_pos rfl, hp, hr]; exact ⟨fun q => ⟨(this.1 q).1, by simp⟩, this.2⟩
  · rw [upd_other _ _ e, if_neg (by omega)]; exact this
theorem Off.tick {T : Tks} {m : Nat} {f : Int → Bool} (h : Off T m f) (n : Int) : Off (tick T n) m f := by
  have key : ∀ U : Tks, Off U m f → Off (past U n) m f := fun U hU t h1 h2 => by
    have e1 : (past U n t).p = (U t).p := by rw [past_at U n h2, again_p]
    have e2 : (past U n t).r = (U t).r := by rw [past_at U n h2]; unfold again fill; split <;> rfl
    rw [e1, e2]; exact hU t h1 h2
  unfold De.tick
  split
  · exact key T h
  · refine key _ (fun t h1 h2 => ?_)
    by_cases e : t = pick T
    · subst e; rw [upd_same]; exact h _ h1 h2
    · rw [upd_other _ _ e]; exact h t h1 h2

/-- The state between two plays. -/
def DState (w0 : World) (p bm m : Nat) (j c : Nat) (wr : World) : Prop :=
  ∃ (T : Tks) (f : Int → Bool), DeadAt wr p T j ∧ Fit T j ∧ Bare T ∧ Off T m f ∧ OffAt wr bm c f ∧ Only (fun _ => False) w0 wr

theorem DState.task {w0 wr : World} {p bm m j c : Nat} {T : Tks} {f : Int → Bool} (hD : DeadAt wr p T j) : True := trivial

section
variable {w : World} {p : Nat} {T : Tks} {n : Int} {m : Nat} {f : Int → Bool}
theorem isTask_of (hO : Off T m f) (hm : m < 17) {t : Nat} (h1 : 1 ≤ t) (h2 : t ≤ m) : (T t).p ≠ 0 := ((hO t h1 (by omega)).1 h2).1
theorem noTask_of (hO : Off T m f) {t : Nat} {x : Int} (e : (t : Int) = x) (h1 : m < t) : ¬ isTask T x := by
  rintro ⟨h2, h3, h4⟩
  subst e
  exact h4 ((hO _ (by omega) (by omega)).2 (by omega))
theorem block_is (h : DeadAt w p T n) (t : Nat) (x : Int) (e : (t : Int) = x) (h1 : 1 ≤ t) (h2 : t ≤ 16) (hc : (T t).p ≠ 0) (hr : (T t).r = true) :
    Calls Try.prog 17 #[.pointer (some ⟨p, 0, none⟩), .int .i64 x] w (DKeep w p (.int .i64 0) (upd T t (slept (T t))) n) := by subst e; exact block_yes h t h1 h2 hc hr
theorem block_st (h : DeadAt w p T n) (t : Nat) (x : Int) (e : (t : Int) = x) (h1 : 1 ≤ t) (h2 : t ≤ 16) (hc : (T t).p ≠ 0) (hr : (T t).r = false) :
    Calls Try.prog 17 #[.pointer (some ⟨p, 0, none⟩), .int .i64 x] w fun e w' => e = .returned (.int .i64 8) ∧ w = w' := by subst e; exact block_state h t h1 h2 hc hr
theorem wake_is {B : Int} (h : DeadAt w p T n) (hb : Fit T B) (hB : B ≤ 8000000000000000) (n0 : 0 ≤ n) (nB : n ≤ 8000000000000000) (t : Nat) (x : Int) (e : (t : Int) = x) (h1 : 1 ≤ t) (h2 : t ≤ 16) (hc : (T t).p ≠ 0) (hr : (T t).r = false) :
    Calls Try.prog 18 #[.pointer (some ⟨p, 0, none⟩), .int .i64 x] w (DKeep w p (.int .i64 0) (upd T t (woke (T t) n)) n) := by subst e; exact wk_yes h hb hB n0 nB t h1 h2 hc hr
theorem wake_st (h : DeadAt w p T n) (t : Nat) (x : Int) (e : (t : Int) = x) (h1 : 1 ≤ t) (h2 : t ≤ 16) (hc : (T t).p ≠ 0) (hr : (T t).r = true) :
    Calls Try.prog 18 #[.pointer (some ⟨p, 0, none⟩), .int .i64 x] w fun e w' => e = .returned (.int .i64 8) ∧ w = w' := by subst e; exact wk_state h t h1 h2 hc hr
theorem at_is (h : DeadAt w p T n) (t : Nat) (x : Int) (e : (t : Int) = x) (h1 : 1 ≤ t) (h2 : t ≤ 16) (hc : (T t).p ≠ 0) {c : Bool} (ho : (T t).o = c) :
    Calls Try.prog 25 #[.pointer (some ⟨p, 0, none⟩), .int .i64 x] w fun e w' => e = .returned (.tuple #[.int .i64 (T t).l, .int .i64 (T t).d, .bool c, .int .i64 0]) ∧ Only (fun _ => False) w w' := by subst e ho; exact at_yes h t h1 h2 hc
theorem pick_is (h : DeadAt w p T n) {m : Nat} {x c : Int} (hm : pick T = m) (e : (m : Int) = x) (hc : pickErr T = c) :
    Calls Try.prog 23 #[.pointer (some ⟨p, 0, none⟩)] w fun e w' => e = .returned (.tuple #[.int .i64 x, .int .i64 c]) ∧ Only (fun _ => False) w w' := by subst hm e hc; exact pick_any h
theorem woke_p (x : Tk) (n : Int) : (woke x n).p = x.p := by unfold woke fill; split <;> rfl
theorem woke_r (x : Tk) (n : Int) : (woke x n).r = true := by unfold woke fill; split <;> rfl
end

set_option maxHeartbeats 1000000 in
set_option maxRecDepth 100000 in
theorem dfirst_any (a1 a2 : Option Addr) (l1 c1 l2 c2 : Nat) (z1 z2 : List Int) (w : World) (hr1 : IsRow .i64 w a1 l1 c1 z1) (hr2 : IsRow .i64 w a2 l2 c2 z2) :
    Calls Try.prog 5 #[.slice a1 l1 c1, .slice a2 l2 c2] w (fun e w' => e = .returned (.bool true) ∧ Below w.heap.size w w') := by
  obtain ⟨xs, hx1, hx2, hx3, hx4⟩ := nums_cut hr1 8
  obtain ⟨ys, hy1, hy2, hy3, hy4⟩ := nums_cut hr2 150
  obtain ⟨m, hm⟩ : ∃ m, min l1 8 = m := ⟨_, rfl⟩
  obtain ⟨q, hq⟩ : ∃ q, min l2 150 = q := ⟨_, rfl⟩
  rw [hm] at hx1
  rw [hq] at hy1
  rw [hx1] at hx2
  rw [hy1] at hy2
  have hm1 : m ≤ 8 := by omega
  have hm2 : m ≤ l1 := by omega
  have hq1 : q ≤ 150 := by omega
  have hq2 : q ≤ l2 := by omega
  have q1 := run_min2 (l1 : Int) 8 m (by omega)
  have q2 := run_min2 (l2 : Int) 150 q (by omega)
  have HX := Lib.hid hx2
  have HL := Lib.hid hx1
  have HY := Lib.hid hy2
  have HM := Lib.hid hy1
  have hmm := @run_makeMap Try.prog
  clear hr1 hr2 hx1 hx2 hy1 hy2 hm hq
  go_enter Try.func5, Try.ntmps5
  go_wp2_with (first
    | (go_at_call 26; (with_reducible refine (begun_any _).mono ?_); rintro e w1 ⟨rfl, hO⟩; have HO := Lib.hid hO; clear hO)
    | (go_at_call 8; (with_reducible refine (new_any _).mono ?_); rintro e w4 ⟨p, rfl, hp, hF, hO⟩; have HF := Lib.hid hF; have HO4 := Lib.hid (only_trans HO.out hO); have HP := Lib.hid (Nat.le_trans HO.out.size hp); clear hF hO hp))
  clear q1
  go_loopw [35] (fun i wr => ∃ (k : Nat) (T : Tks), k ≤ m ∧ i = .int .i64 k ∧ DeadAt wr p T 0 ∧ (Fit T 0 ∧ Bare T ∧ Made T k) ∧ Only (fun _ => False) w wr) (fun i _ => m - (intOf i).toNat)
  case atStart => exact ⟨0, _, by omega, rfl, HF.out, ⟨fit_noT, bare_noT, made_none⟩, HO4.out⟩
  case round =>
    obtain ⟨k, T, hk, rfl, hF, hT, hO⟩ := hrel
    have HT := Lib.hid hT
    have HF2 := Lib.hid hF
    have HO5 := Lib.hid hO
    clear hF hO hT
    by_cases hlt : k < m
    · obtain ⟨b, off, rfl, hb, hc⟩ := (HX.out.later HO5.out).at (j := k) (by rw [HL.out]; exact hlt)
      obtain ⟨x, hx⟩ : ∃ x, xs.getD k 0 = x := ⟨_, rfl⟩
      rw [hx] at hc
      have g1 : (k : Int) < m := by omega
      have g2 : (0 : Int) ≤ k := by omega
      have g3 : (m : Int) ≤ 8 := by omega
      have C30 := Lib.hid (fun k w => rest_some k 30 (by omega) (by omega) w)
      clear hx
      go_wp2_with (first
        | (go_at_call 27; (with_reducible refine (C30.out _ _).mono ?_); rintro e w' ⟨r1, rfl, hr1, rfl⟩; have CP := Lib.hid (fun k w => rest_some k (1 + (r1 : Int)) (by omega) (by omega) w); have HR1 := Lib.hid hr1)
        | (go_at_call 27; (with_reducible refine (CP.out _ _).mono ?_); rintro e w' ⟨r2, rfl, hr2, rfl⟩; have ka := Lib.hid (add_is HF2.out (k + 1) ((k : Int) + 1) (1 + (r2 : Int)) (1 + (r1 : Int)) (by omega) ⟨by omega, by omega, by omega, by omega, by omega, by omega⟩ ((HT.out.2.2 (k + 1) (by omega) (by omega)).2 (by omega)) (by omega) (by omega)); have HR2 := Lib.hid hr2)
        | (go_at_call 9; (with_reducible refine ka.out.mono ?_); rintro e w1 ⟨rfl, hF1, hO1⟩; have HF1 := Lib.hid hF1; have HO1 := Lib.hid (only_new HO5.out hO1 HP.out); clear hF1 hO1))
      go_roundw
      case rel =>
        refine ⟨k + 1, _, by omega, by go_num, HF1.out, ⟨HT.out.1.upd (ok_came (by omega) (by have := HR2.out; omega) (by have := HR1.out; omega) (by omega)) (by omega), HT.out.2.1.upd (fun e => ?_), made_add HT.out.2.2 (by omega)⟩, HO1.out⟩
        rfl
      case measure => simp [intOf]; omega
    · obtain rfl : k = m := by omega
      go_wp2_with (fail)
      have HBM := Lib.hid (OffAt.made wr)
      have HO6 := Lib.hid (HO5.out.alloc (.map #[] 0))
      have HF6 := Lib.hid (HF2.out.later ((Only.refl _ wr).alloc (.map #[] 0)))
      have HPB : Hid (p ≠ wr.heap.size) := Lib.hid (by have := HF2.out.lt; omega)
      have HBB : Hid (w.heap.size ≤ wr.heap.size) := Lib.hid HO5.out.size
      generalize wr.alloc (.map #[] 0) = w6 at *
      generalize wr.heap.size = bm at *
      clear hmm q2 HF2 HO5 HF HO4 HX HL
      go_loopw [62] (fun i wr => ∃ j : Nat, j ≤ q ∧ i = .int .i64 j ∧ DState w p bm k j j wr) (fun i _ => q - (intOf i).toNat)
      case atStart => exact ⟨0, by omega, rfl, T, _, HF6.out, HT.out.1, HT.out.2.1, HT.out.2.2.off, HBM.out, HO6.out⟩
      case round =>
        obtain ⟨j, hj, rfl, hS⟩ := hrel
        have HS := Lib.hid hS
        clear hS HBM HO6 HF6 HT
        by_cases hlt : j < q
        · have hO0 : Only (fun _ => False) w wr := by obtain ⟨_, _, _, _, _, _, _, hO⟩ := HS.out; exact hO
          obtain ⟨b, off, rfl, hb, hc⟩ := (HY.out.later hO0).at (j := j) (by rw [HM.out]; exact hlt)
          obtain ⟨y, hy⟩ : ∃ y, ys.getD j 0 = y := ⟨_, rfl⟩
          rw [hy] at hc
          have g1 : (j : Int) < q := by omega
          have g2 : (0 : Int) ≤ j := by omega
          have g3 : (q : Int) ≤ 150 := by omega
          have C8 := Lib.hid (fun k w => rest_some k 8 (by omega) (by omega) w)
          have C4 := Lib.hid (fun k w => rest_some k 4 (by omega) (by omega) w)
          clear hy hO0
          go_upto_block 4 with (first
            | (go_at_call 27; (with_reducible refine (C8.out _ _).mono ?_); rintro e w' ⟨r1, rfl, hr1, rfl⟩)
            | (go_at_call 27; (with_reducible refine (C4.out _ _).mono ?_); rintro e w' ⟨r2, rfl, hr2, rfl⟩))
          go_cut [13] (fun s13 wx => DState w p bm k j (j + 1) wx)
          case first =>
            as_aux_lemma =>
              obtain ⟨T, f, hD, hT, hB, hOf, hMp, hO⟩ := HS.out
              have H := Lib.hid hD
              have HT := Lib.hid hT
              have HB := Lib.hid hB
              have HOF := Lib.hid hOf
              have HMP := Lib.hid hMp
              have HO := Lib.hid hO
              clear HS hD hT hB hOf hMp hO
              have wt : (Lit.int .i64 (1 + (r1 : Int))).wf = true := i64_wf (by omega)
              have WT := Lib.hid wt
              have HK : Hid (DState w p bm k j (j + 1) wr) := Lib.hid ⟨T, f, H.out, HT.out, HB.out, HOF.out, HMP.out.mono (by omega), HO.out⟩
              clear wt
              by_cases k0 : r2 = 0
              · have e0 : ((r2 : Int) == 0) = true := by simp [k0]
                clear k0
                by_cases ht : r1 + 1 ≤ k
                · have hp := isTask_of HOF.out (by omega) (show 1 ≤ r1 + 1 by omega) ht
                  cases hr : (T (r1 + 1)).r with
                  | false =>
                    have C := Lib.hid (block_st H.out (r1 + 1) (1 + (r1 : Int)) (by omega) (by omega) (by omega) hp hr)
                    clear hp hr ht
                    go_wp2_with (go_at_call 17; (with_reducible refine C.out.mono ?_); rintro e w8 ⟨rfl, rfl⟩)
                    go_meet
                    exact HK.out
                  | true =>
                    have C := Lib.hid (block_is H.out (r1 + 1) (1 + (r1 : Int)) (by omega) (by omega) (by omega) hp hr)
                    have HT2 := Lib.hid (HT.out.upd (t := r1 + 1) (HT.out.at (t := r1 + 1) (by omega)).slept (by omega))
                    have HB2 := Lib.hid (HB.out.upd (t := r1 + 1) (x := slept (T (r1 + 1))) (HB.out (r1 + 1) (by omega)))
                    have HOF2 : Hid (Off (upd T (r1 + 1) (slept (T (r1 + 1)))) k (updI f (1 + (r1 : Int)) true)) := Lib.hid (by have := HOF.out.set (x := slept (T (r1 + 1))) (c := true) (show 1 ≤ r1 + 1 by omega) ht (by omega) rfl rfl; rwa [show (((r1 + 1 : Nat) : Int)) = 1 + (r1 : Int) by omega] at this)
                    have HJ : Hid (j < 1000) := Lib.hid (by omega)
                    clear hp hr ht HK
                    go_wp2_with (first
                      | (go_at_call 17; (with_reducible refine C.out.mono ?_); rintro e w8 ⟨rfl, hF, hO8⟩; have HF8 := Lib.hid hF; have HM8 := Lib.hid (HMP.out.keep hO8 (fun e => HPB.out e.symm)); have HO8 := Lib.hid (only_new HO.out hO8 HP.out); clear hF hO8)
                      | (at_mapUpdate; refine wpList_off rfl _ _ _ rfl bm j f rfl HM8.out HJ.out (1 + (r1 : Int)) true rfl rfl WT.out ?_; intro w9 hM9 hO9; have HM9 := Lib.hid hM9; have HF9 := Lib.hid (HF8.out.keep hO9 HPB.out); have HO9 := Lib.hid (only_new HO8.out hO9 HBB.out); clear hM9 hO9))
                    go_meet
                    exact ⟨_, _, HF9.out, HT2.out, HB2.out, HOF2.out, HM9.out, HO9.out⟩
                · have C := Lib.hid (block_no H.out (1 + (r1 : Int)) (noTask_of HOF.out (t := r1 + 1) (by omega) (by omega)))
                  clear ht
                  go_wp2_with (go_at_call 17; (with_reducible refine C.out.mono ?_); rintro e w8 ⟨rfl, rfl⟩)
                  go_meet
                  exact HK.out
              · by_cases k1 : r2 = 1
                · have e0 : ((r2 : Int) == 0) = false := by simp [k0]
                  have e1 : ((r2 : Int) == 1) = true := by simp [k1]
                  clear k0 k1
                  by_cases ht : r1 + 1 ≤ k
                  · have hp := isTask_of HOF.out (by omega) (show 1 ≤ r1 + 1 by omega) ht
                    cases hr : (T (r1 + 1)).r with
                    | true =>
                      have C := Lib.hid (wake_st H.out (r1 + 1) (1 + (r1 : Int)) (by omega) (by omega) (by omega) hp hr)
                      clear hp hr ht
                      go_wp2_with (go_at_call 18; (with_reducible refine C.out.mono ?_); rintro e w8 ⟨rfl, rfl⟩)
                      go_meet
                      exact HK.out
                    | false =>
                      have C := Lib.hid (wake_is H.out HT.out (by omega) (by omega) (by omega) (r1 + 1) (1 + (r1 : Int)) (by omega) (by omega) (by omega) hp hr)
                      have HT2 := Lib.hid (HT.out.upd (t := r1 + 1) ((HT.out.at (t := r1 + 1) (by omega)).woke (by omega) hp) (by omega))
                      have HB2 := Lib.hid (HB.out.upd (t := r1 + 1) (x := woke (T (r1 + 1)) j) (fun e => absurd (by rw [woke_p] at e; exact e) hp))
                      have HOF2 : Hid (Off (upd T (r1 + 1) (woke (T (r1 + 1)) j)) k (updI f (1 + (r1 : Int)) false)) := Lib.hid (by have := HOF.out.set (x := woke (T (r1 + 1)) j) (c := false) (show 1 ≤ r1 + 1 by omega) ht (by omega) (woke_p _ _) (woke_r _ _); rwa [show (((r1 + 1 : Nat) : Int)) = 1 + (r1 : Int) by omega] at this)
                      have HJ : Hid (j < 1000) := Lib.hid (by omega)
                      clear hp hr ht HK
                      go_wp2_with (first
                        | (go_at_call 18; (with_reducible refine C.out.mono ?_); rintro e w8 ⟨rfl, hF, hO8⟩; have HF8 := Lib.hid hF; have HM8 := Lib.hid (HMP.out.keep hO8 (fun e => HPB.out e.symm)); have HO8 := Lib.hid (only_new HO.out hO8 HP.out); clear hF hO8)
                        | (at_mapUpdate; refine wpList_off rfl _ _ _ rfl bm j f rfl HM8.out HJ.out (1 + (r1 : Int)) false rfl rfl WT.out ?_; intro w9 hM9 hO9; have HM9 := Lib.hid hM9; have HF9 := Lib.hid (HF8.out.keep hO9 HPB.out); have HO9 := Lib.hid (only_new HO8.out hO9 HBB.out); clear hM9 hO9))
                      go_meet
                      exact ⟨_, _, HF9.out, HT2.out, HB2.out, HOF2.out, HM9.out, HO9.out⟩
                  · have C := Lib.hid (wk_no H.out (1 + (r1 : Int)) (noTask_of HOF.out (t := r1 + 1) (by omega) (by omega)))
                    clear ht
                    go_wp2_with (go_at_call 18; (with_reducible refine C.out.mono ?_); rintro e w8 ⟨rfl, rfl⟩)
                    go_meet
                    exact HK.out
                · have e0 : ((r2 : Int) == 0) = false := by simp [k0]
                  have e1 : ((r2 : Int) == 1) = false := by simp; omega
                  go_wp2_with fail
                  go_meet
                  exact HK.out
          case rest =>
            obtain ⟨T, f, hD, hT, hB, hOf, hMp, hO⟩ := hcut
            have H := Lib.hid hD
            have HT := Lib.hid hT
            have HB := Lib.hid hB
            have HOF := Lib.hid hOf
            have HMP := Lib.hid hMp
            have HO := Lib.hid hO
            clear HS hD hT hB hOf hMp hO C8 C4
            by_cases hp0 : pick T = 0
            · have HPK := Lib.hid hp0
              have C := Lib.hid (pick_is H.out hp0 (x := 0) rfl (pickErr_no hp0))
              clear hp0
              go_wp2_with (go_at_call 23; (with_reducible refine C.out.mono ?_); rintro e w8 ⟨rfl, hO8⟩; have H8 := Lib.hid (H.out.later hO8); have HM8 := Lib.hid (HMP.out.later hO8); have HO8 := Lib.hid (only_trans HO.out hO8); clear hO8)
              go_loopw [20] (fun x wx => ∃ z : Nat, z ≤ k ∧ x = .int .i64 ((z : Int) + 1) ∧ Only (fun _ => False) w8 wx) (fun x _ => k + 1 - (intOf x).toNat)
              case atStart => exact ⟨0, by omega, rfl, Only.refl _ _⟩
              case round =>
                obtain ⟨z, hz, rfl, hO9⟩ := hrel
                have HO9 := Lib.hid hO9
                clear hO9
                by_cases hzk : z < k
                · have x1 : (z : Int) + 1 ≤ k := by omega
                  have hp := isTask_of HOF.out (by omega) (show 1 ≤ z + 1 by omega) (show z + 1 ≤ k by omega)
                  have hf := ((HOF.out (z + 1) (by omega) (by omega)).1 (by omega)).2
                  have wt : (Lit.int .i64 ((z : Int) + 1)).wf = true := i64_wf (by omega)
                  have LK := Lib.hid (fun wx (hO : Only (fun _ => False) w8 wx) => (HM8.out.later hO).look ((z : Int) + 1) wt)
                  clear wt
                  cases hr : (T (z + 1)).r with
                  | false =>
                    have hf2 : f ((z : Int) + 1) = true := by rw [show (((z + 1 : Nat) : Int)) = (z : Int) + 1 by omega] at hf; rw [hf, hr]; rfl
                    rw [hf2] at LK
                    have C := Lib.hid (fun wx (hx : DeadAt wx p T j) => at_is hx (z + 1) ((z : Int) + 1) (by omega) (by omega) (by omega) hp rfl)
                    clear hp hf hr hf2
                    go_wp2_with (go_at_call 25; (with_reducible refine (C.out _ (H8.out.later HO9.out)).mono ?_); rintro e w10 ⟨rfl, hO10⟩; have HO10 := Lib.hid (only_trans HO9.out hO10); have lk := LK.out _ HO10.out; clear hO10)
                    go_roundw
                    case rel => exact ⟨z + 1, by omega, by go_num, HO10.out⟩
                    case measure => simp [intOf]; omega
                  | true =>
                    have hf2 : f ((z : Int) + 1) = false := by rw [show (((z + 1 : Nat) : Int)) = (z : Int) + 1 by omega] at hf; rw [hf, hr]; rfl
                    rw [hf2] at LK
                    have ho : (T (z + 1)).o = true := by
                      cases h : (T (z + 1)).o with
                      | true => rfl
                      | false => exact absurd ⟨hr, h⟩ (pick_none HT.out.zero HPK.out (by omega))
                    have C := Lib.hid (fun wx (hx : DeadAt wx p T j) => at_is hx (z + 1) ((z : Int) + 1) (by omega) (by omega) (by omega) hp ho)
                    clear hp hf hr hf2 ho
                    go_wp2_with (go_at_call 25; (with_reducible refine (C.out _ (H8.out.later HO9.out)).mono ?_); rintro e w10 ⟨rfl, hO10⟩; have HO10 := Lib.hid (only_trans HO9.out hO10); have lk := LK.out _ HO10.out; clear hO10)
                    go_roundw
                    case rel => exact ⟨z + 1, by omega, by go_num, HO10.out⟩
                    case measure => simp [intOf]; omega
                · obtain rfl : z = k := by omega
                  have KT := Lib.hid (fun wx (hx : DeadAt wx p T j) => tick_is hx HT.out (by omega) (by omega) HPK.out (k := 0) rfl (n' := ((j + 1 : Nat) : Int)) (by omega))
                  have HT2 : Hid (Fit (tick T j) ((j + 1 : Nat) : Int)) := Lib.hid (by have := HT.out.tick HB.out (by omega); rwa [show (j : Int) + 1 = ((j + 1 : Nat) : Int) by omega] at this)
                  have HB2 := Lib.hid (HB.out.tick HT.out)
                  have HOF2 := Lib.hid (HOF.out.tick j)
                  go_wp2_with (go_at_call 10; (with_reducible refine (KT.out _ (H8.out.later HO9.out)).mono ?_); rintro e w10 ⟨rfl, hF, hO10⟩; have HF10 := Lib.hid hF; have HM10 := Lib.hid ((HM8.out.later HO9.out).keep hO10 (fun e => HPB.out e.symm)); have HO10 := Lib.hid (only_new (only_trans HO8.out HO9.out) hO10 HP.out); clear hF hO10)
                  go_roundw
                  case rel => exact ⟨j + 1, by omega, by go_num, _, _, HF10.out, HT2.out, HB2.out, HOF2.out, HM10.out, HO10.out⟩
                  case measure => simp [intOf]; omega
            · obtain ⟨m0, hm0⟩ : ∃ m0, pick T = m0 := ⟨_, rfl⟩
              have hcan := pick_can hp0
              have hl := pick_lt T
              have C := Lib.hid (pick_is H.out hm0 (x := m0) rfl (pickErr_yes hp0))
              rw [hm0] at hp0 hcan hl
              have HPK := Lib.hid hm0
              have hmk : m0 ≤ k := by
                apply Decidable.byContradiction; intro hh
                exact HT.out.rp m0 hl hcan.1 ((HOF.out m0 (by omega) hl).2 (by omega))
              have hp := isTask_of HOF.out (by omega) (show 1 ≤ m0 by omega) hmk
              have hl0 : (T m0).l ≠ 0 := fun q => by have := (HT.out.lo m0 hl hp).mpr q; rw [hcan.2] at this; cases this
              have hl1 : ¬ (T m0).l < 1 := by have := HT.out.l m0 hl; omega
              have CA := Lib.hid (fun wx (hx : DeadAt wx p T j) => at_is hx m0 m0 rfl (by omega) (by omega) hp hcan.2)
              have hf : f m0 = false := by have := ((HOF.out m0 (by omega) hl).1 hmk).2; rw [hcan.1] at this; exact this
              have LKm := Lib.hid (fun wx (hx : OffAt wx bm (j + 1) f) => hx.look m0 (i64_wf (by omega)))
              rw [hf] at LKm
              clear hm0 hcan hp hl0 hf
              go_wp2_with (first
                | (go_at_call 25; (with_reducible refine (CA.out _ H7.out).mono ?_); rintro e w8 ⟨rfl, hO8⟩; have H8 := Lib.hid (H7.out.later hO8); have HM8 := Lib.hid (HM7.out.later hO8); have HO8 := Lib.hid (only_trans HO7.out hO8); have lkm := LKm.out _ HM8.out; clear hO8)
                | (go_at_call 23; (with_reducible refine C.out.mono ?_); rintro e w7 ⟨rfl, hO8⟩; have H7 := Lib.hid (H.out.later hO8); have HM7 := Lib.hid (HMP.out.later hO8); have HO7 := Lib.hid (only_trans HO.out hO8); clear hO8))
              clear hl1 lkm
              go_loopw [20] (fun x wx => ∃ z : Nat, z ≤ k ∧ x = .int .i64 ((z : Int) + 1) ∧ Only (fun _ => False) w8 wx) (fun x _ => k + 1 - (intOf x).toNat)
              case atStart => exact ⟨0, by omega, rfl, Only.refl _ _⟩
              case round =>
                obtain ⟨z, hz, rfl, hO9⟩ := hrel
                have HO9 := Lib.hid hO9
                clear hO9
                by_cases hzk : z < k
                · have x1 : (z : Int) + 1 ≤ k := by omega
                  have hp := isTask_of HOF.out (by omega) (show 1 ≤ z + 1 by omega) (show z + 1 ≤ k by omega)
                  have hf := ((HOF.out (z + 1) (by omega) (by omega)).1 (by omega)).2
                  have wt : (Lit.int .i64 ((z : Int) + 1)).wf = true := i64_wf (by omega)
                  have LK := Lib.hid (fun wx (hO : Only (fun _ => False) w8 wx) => (HM8.out.later hO).look ((z : Int) + 1) wt)
                  clear wt
                  cases hr : (T (z + 1)).r with
                  | false =>
                    have hf2 : f ((z : Int) + 1) = true := by rw [show (((z + 1 : Nat) : Int)) = (z : Int) + 1 by omega] at hf; rw [hf, hr]; rfl
                    rw [hf2] at LK
                    have C := Lib.hid (fun wx (hx : DeadAt wx p T j) => at_is hx (z + 1) ((z : Int) + 1) (by omega) (by omega) (by omega) hp rfl)
                    clear hp hf hr hf2
                    go_wp2_with (go_at_call 25; (with_reducible refine (C.out _ (H8.out.later HO9.out)).mono ?_); rintro e w10 ⟨rfl, hO10⟩; have HO10 := Lib.hid (only_trans HO9.out hO10); have lk := LK.out _ HO10.out; clear hO10)
                    go_roundw
                    case rel => exact ⟨z + 1, by omega, by go_num, HO10.out⟩
                    case measure => simp [intOf]; omega
                  | true =>
                    have hf2 : f ((z : Int) + 1) = false := by rw [show (((z + 1 : Nat) : Int)) = (z : Int) + 1 by omega] at hf; rw [hf, hr]; rfl
                    rw [hf2] at LK
                    cases ho : (T (z + 1)).o with
                    | true =>
                      have C := Lib.hid (fun wx (hx : DeadAt wx p T j) => at_is hx (z + 1) ((z : Int) + 1) (by omega) (by omega) (by omega) hp ho)
                      clear hp hf hr hf2 ho
                      go_wp2_with (go_at_call 25; (with_reducible refine (C.out _ (H8.out.later HO9.out)).mono ?_); rintro e w10 ⟨rfl, hO10⟩; have HO10 := Lib.hid (only_trans HO9.out hO10); have lk := LK.out _ HO10.out; clear hO10)
                      go_roundw
                      case rel => exact ⟨z + 1, by omega, by go_num, HO10.out⟩
                      case measure => simp [intOf]; omega
                    | false =>
                      have C := Lib.hid (fun wx (hx : DeadAt wx p T j) => at_is hx (z + 1) ((z : Int) + 1) (by omega) (by omega) (by omega) hp ho)
                      have hfi := (pick_first HT.out.zero (show z + 1 < 17 by omega) ⟨hr, ho⟩).2
                      rw [HPK.out] at hfi
                      have d1 : ¬ (T (z + 1)).d < (T m0).d := by omega
                      clear hp hf hr hf2 ho
                      by_cases d2 : (T (z + 1)).d = (T m0).d
                      · have d3 : ¬ (z : Int) + 1 < m0 := by omega
                        have d4 : ((T (z + 1)).d == (T m0).d) = true := by simp [d2]
                        clear hfi
                        go_wp2_with (go_at_call 25; (with_reducible refine (C.out _ (H8.out.later HO9.out)).mono ?_); rintro e w10 ⟨rfl, hO10⟩; have HO10 := Lib.hid (only_trans HO9.out hO10); have lk := LK.out _ HO10.out; clear hO10)
                        go_roundw
                        case rel => exact ⟨z + 1, by omega, by go_num, HO10.out⟩
                        case measure => simp [intOf]; omega
                      · have d4 : ((T (z + 1)).d == (T m0).d) = false := by simp [d2]
                        clear hfi
                        go_wp2_with (go_at_call 25; (with_reducible refine (C.out _ (H8.out.later HO9.out)).mono ?_); rintro e w10 ⟨rfl, hO10⟩; have HO10 := Lib.hid (only_trans HO9.out hO10); have lk := LK.out _ HO10.out; clear hO10)
                        go_roundw
                        case rel => exact ⟨z + 1, by omega, by go_num, HO10.out⟩
                        case measure => simp [intOf]; omega
                · obtain rfl : z = k := by omega
                  have KT := Lib.hid (fun wx (hx : DeadAt wx p T j) => tick_is hx HT.out (by omega) (by omega) HPK.out (k := (m0 : Int)) rfl (n' := ((j + 1 : Nat) : Int)) (by omega))
                  have HT2 : Hid (Fit (tick T j) ((j + 1 : Nat) : Int)) := Lib.hid (by have := HT.out.tick HB.out (by omega); rwa [show (j : Int) + 1 = ((j + 1 : Nat) : Int) by omega] at this)
                  have HB2 := Lib.hid (HB.out.tick HT.out)
                  have HOF2 := Lib.hid (HOF.out.tick j)
                  go_wp2_with (go_at_call 10; (with_reducible refine (KT.out _ (H8.out.later HO9.out)).mono ?_); rintro e w10 ⟨rfl, hF, hO10⟩; have HF10 := Lib.hid hF; have HM10 := Lib.hid ((HM8.out.later HO9.out).keep hO10 (fun e => HPB.out e.symm)); have HO10 := Lib.hid (only_new (only_trans HO8.out HO9.out) hO10 HP.out); clear hF hO10)
                  go_roundw
                  case rel => exact ⟨j + 1, by omega, by go_num, _, _, HF10.out, HT2.out, HB2.out, HOF2.out, HM10.out, HO10.out⟩
                  case measure => simp [intOf]; omega
        · obtain rfl : j = q := by omega
          obtain ⟨_, _, _, _, _, _, _, hO⟩ := HS.out
          have HO7 := Lib.hid hO
          go_wp2_with fail
          go_ret
          exact ⟨rfl, Only.below HO7.out (Nat.le_refl _) (fun _ e => e.elim)⟩
end Go.Proofs.Ytijpiloljgpnkaa.De
