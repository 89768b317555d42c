/- Contracts of package admit: Round, Share, Fits, Demand. -/
import Derived.Test.YtijpiloljgpnkaaAdCheck
import Derived.Deep.QuietTactic
import Derived.BigQuiet
namespace Go.Proofs.Ytijpiloljgpnkaa.Ad
open Go.ChangeShapes Go.WideShapes Go.ChangeAt Go.RowKit
set_option linter.unusedVariables false

/-- Two numbers were answered, and nothing that was there changed. -/
def Pair (x y : Int) (w : World) (e : Ending) (w' : World) : Prop := e = .returned (.tuple #[.int .i64 x, .int .i64 y]) ∧ Only (fun _ => False) w w'
def Triple (x y z : Int) (w : World) (e : Ending) (w' : World) : Prop := e = .returned (.tuple #[.int .i64 x, .int .i64 y, .int .i64 z]) ∧ Only (fun _ => False) w w'
def Truth (x : Bool) (y : Int) (w : World) (e : Ending) (w' : World) : Prop := e = .returned (.tuple #[.bool x, .int .i64 y]) ∧ Only (fun _ => False) w w'
theorem pair_is {x y x' y' : Int} {w w' : World} (h : x = x') (h2 : y = y') (hO : Only (fun _ => False) w w') : Pair x y w (.returned (.tuple #[.int .i64 x', .int .i64 y'])) w' := by subst h h2; exact ⟨rfl, hO⟩

theorem only_quiet {w w' : World} (h : Only (fun _ => False) w w') (n : Nat) : Only (fun _ => False) w (w'.drewN n) := only_drewN h n
theorem trans_quiet {a b c : World} (h : Only (fun _ => False) a b) (k : Only (fun _ => False) b c) : Only (fun _ => False) a c := h.trans k (fun _ _ e => e)

theorem wrap_add {s m s' : Nat} (h : s' = s + m) (hb : s' ≤ 37265433004800) : wrap64 ((s : Int) + m) = s' := by
  subst h
  rw [← Int.natCast_add]
  exact IntWalk.wrap64_in _ (by omega)

theorem round_bad (v : Value) (S : List Use) (w : World) (h : UV w v S) (hc : chk S ≠ 0) :
    Calls Try.prog 69 #[v] w (Pair 0 (chk S) w) := by
  have C := Lib.hid (check_any v S w h)
  obtain ⟨a, c, rfl, -⟩ := h
  have e0 : (chk S == 0) = false := by simp [hc]
  clear hc
  generalize chk S = x at *
  go_enter Try.func69, Try.ntmps69
  go_wp2_with (go_at_call 76; (with_reducible refine C.out.mono ?_); rintro e w1 ⟨rfl, hO⟩; have HO := Lib.hid hO; clear hO)
  go_ret2
  exact ⟨rfl, HO.out⟩

set_option maxHeartbeats 1000000 in
theorem round_good (v : Value) (S : List Use) (w : World) (h : UV w v S) (hc : chk S = 0) :
    Calls Try.prog 69 #[v] w (Pair (rnd S) 0 w) := by
  have C := Lib.hid (check_any v S w h)
  rw [hc] at C
  obtain ⟨hl, hok⟩ := chk_zero hc
  have HOK := Lib.hid hok
  have H := Lib.hid h
  obtain ⟨a, c, rfl, h0, h1, h2⟩ := h
  clear h2 hok hc
  obtain ⟨n, hn⟩ : ∃ n, S.length = n := ⟨_, rfl⟩
  have HN := Lib.hid hn
  rw [hn] at H h0 hl C ⊢
  clear hn
  go_enter Try.func69, Try.ntmps69
  go_wp2_with (go_at_call 76; (with_reducible refine C.out.mono ?_); rintro e w1 ⟨rfl, hO⟩; have HO := Lib.hid hO; clear hO)
  go_loopw [5, 15] (fun r i wr => ∃ k : Nat, k ≤ n ∧ i = .int .i64 k ∧ r = .int .i64 (rndTo S k) ∧ Only (fun _ => False) w wr) (fun _ i _ => n - (intOf i).toNat)
  case atStart => exact ⟨0, Nat.zero_le _, rfl, rfl, HO.out⟩
  case round =>
    obtain ⟨k, hk, rfl, rfl, hOr⟩ := hrel
    have HR := Lib.hid hOr
    clear hOr
    by_cases hlt : k < n
    · obtain ⟨b, off, rfl, hb, c1, c2⟩ : ∃ b off, a = some ⟨b, off, none⟩ ∧ b < wr.heap.size ∧ wr.cell? ⟨b, off + k * 2, none⟩ = some (.int .i64 (nthU S k).1) ∧ wr.cell? ⟨b, off + k * 2 + 1, none⟩ = some (.int .i64 (nthU S k).2) := by
        obtain ⟨a', c', e, -, -, h3⟩ := H.out.later HR.out
        cases e
        exact h3 k (by rw [HN.out]; exact hlt)
      have g1 : (k : Int) < n := by omega
      have hu := okU_nat (HOK.out k (by rw [HN.out]; exact hlt))
      have hr1 := rndTo_pos HOK.out (k := k) (by rw [HN.out]; omega)
      have hr2 := rndTo_le HOK.out (k := k) (by rw [HN.out]; omega)
      have hr3 := rndTo_le HOK.out (k := k + 1) (by rw [HN.out]; omega)
      have hS := (lcm_step hr1 hu.2.2.1).symm
      obtain ⟨r', hr'⟩ : ∃ r', rndTo S (k + 1) = r' := ⟨_, rfl⟩
      have HR' := Lib.hid hr'
      rw [hr'] at hr3
      rw [show Nat.lcm (rndTo S k) (per (nthU S k)) = r' from hr'] at hS
      clear hr'
      generalize rndTo S k = r at *
      obtain ⟨u1, u2, u3, u4, u5, u6⟩ := hu
      rw [u1] at c1
      rw [u2] at c2
      clear u1 u2
      generalize cst (nthU S k) = x at *
      generalize per (nthU S k) = p at *
      have D := Lib.hid (fun w => divisor_any r p (by omega) (by omega) w)
      have hg : 0 < Nat.gcd r p := Nat.gcd_pos_of_pos_right _ (by omega)
      generalize Nat.gcd r p = g at *
      obtain ⟨z, hz⟩ : ∃ z, p / g = z := ⟨_, rfl⟩
      have hz1 : z ≤ p := hz ▸ Nat.div_le_self p g
      have q0 : (p : Int) / g = (z : Int) := by rw [← hz]; rfl
      rw [hz] at hS
      have HS := Lib.hid hS
      have q1 : wrap64 ((p : Int) / g) = z := by rw [q0]; exact IntWalk.wrap64_in _ (by omega)
      have q2 : wrap64 ((r : Int) * z) = r' := by
        rw [HS.out, Int.natCast_mul]
        exact IntWalk.wrap64_in _ (by rw [← Int.natCast_mul, ← HS.out]; omega)
      clear hz hS q0
      have e1 : ¬ (g : Int) = 0 := by omega
      have e2 : (0 : Int) ≤ p := by omega
      go_wp2_with fail
      go_quiet ((go_at_call 70; with_reducible exact Calls.quiet_of (D.out _)))
      go_wp2_with fail
      go_roundw
      case rel => exact ⟨k + 1, by omega, by go_num, by rw [HR'.out, q2], only_quiet (HR.out.alloc _) _⟩
      case measure => simp [intOf]; omega
    · obtain rfl : k = n := by omega
      have HE : Hid (rndTo S k = rnd S) := Lib.hid (by unfold rnd; rw [HN.out])
      go_wp2_with fail
      go_ret2
      exact pair_is (by rw [HE.out]) rfl HR.out

theorem triple_is {x y z x' y' z' : Int} {w w' : World} (h : x = x') (h2 : y = y') (h3 : z = z') (hO : Only (fun _ => False) w w') : Triple x y z w (.returned (.tuple #[.int .i64 x', .int .i64 y', .int .i64 z'])) w' := by subst h h2 h3; exact ⟨rfl, hO⟩

theorem results_tmp3 {fn : Func} {t u v : Tmp} (h : fn.results = #[.tmp t, .tmp u, .tmp v]) (tmps : Array Value) (P : Program) (w : World) :
    (results fn tmps).run P w = .ok (.tuple #[tmps.getD t undef, tmps.getD u undef, tmps.getD v undef]) w := by
  simp [results, h]

theorem share_bad (v : Value) (S : List Use) (w : World) (h : UV w v S) (hc : chk S ≠ 0) :
    Calls Try.prog 49 #[v] w (Triple 0 0 (chk S) w) := by
  have C := Lib.hid (round_bad v S w h hc)
  obtain ⟨a, c, rfl, -⟩ := h
  have e0 : (chk S == 0) = false := by simp [hc]
  clear hc
  generalize chk S = x at *
  go_enter Try.func49, Try.ntmps49
  go_wp2_with (go_at_call 69; (with_reducible refine C.out.mono ?_); rintro e w1 ⟨rfl, hO⟩; have HO := Lib.hid hO; clear hO)
  (try simp only [Exit.inBlock, Exit.then])
  refine bodyPost_ret (results_tmp3 rfl _ _ _) rfl ?_
  exact ⟨rfl, HO.out⟩

set_option maxHeartbeats 1000000 in
theorem share_good (v : Value) (S : List Use) (w : World) (h : UV w v S) (hc : chk S = 0) :
    Calls Try.prog 49 #[v] w (Triple (shareN S) (shareD S) 0 w) := by
  have C := Lib.hid (round_good v S w h hc)
  obtain ⟨hl, hok⟩ := chk_zero hc
  have HOK := Lib.hid hok
  have H := Lib.hid h
  obtain ⟨a, c, rfl, h0, h1, h2⟩ := h
  clear h2 hok hc
  obtain ⟨n, hn⟩ : ∃ n, S.length = n := ⟨_, rfl⟩
  have HN := Lib.hid hn
  rw [hn] at H h0 hl C ⊢
  clear hn
  have hr1 : 1 ≤ rnd S := rndTo_pos HOK.out (Nat.le_refl _)
  have hr2 : rnd S ≤ 2329089562800 := rndTo_le HOK.out (Nat.le_refl _)
  have HE : Hid (shareN S = usedTo S (rnd S) n / Nat.gcd (rnd S) (usedTo S (rnd S) n) ∧ shareD S = rnd S / Nat.gcd (rnd S) (usedTo S (rnd S) n)) := Lib.hid (by unfold shareN shareD used; rw [HN.out]; exact ⟨rfl, rfl⟩)
  generalize rnd S = r at *
  go_enter Try.func49, Try.ntmps49
  go_wp2_with (go_at_call 69; (with_reducible refine C.out.mono ?_); rintro e w1 ⟨rfl, hO⟩; have HO := Lib.hid hO; clear hO)
  go_loopw [7, 21] (fun s i wr => ∃ k : Nat, k ≤ n ∧ i = .int .i64 k ∧ s = .int .i64 (usedTo S r k) ∧ Only (fun _ => False) w wr) (fun _ i _ => n - (intOf i).toNat)
  case atStart => exact ⟨0, Nat.zero_le _, rfl, rfl, HO.out⟩
  case round =>
    obtain ⟨k, hk, rfl, rfl, hOr⟩ := hrel
    have HR := Lib.hid hOr
    clear hOr
    by_cases hlt : k < n
    · obtain ⟨b, off, rfl, hb, c1, c2⟩ : ∃ b off, a = some ⟨b, off, none⟩ ∧ b < wr.heap.size ∧ wr.cell? ⟨b, off + k * 2, none⟩ = some (.int .i64 (nthU S k).1) ∧ wr.cell? ⟨b, off + k * 2 + 1, none⟩ = some (.int .i64 (nthU S k).2) := by
        obtain ⟨a', c', e, -, -, h3⟩ := H.out.later HR.out
        cases e
        exact h3 k (by rw [HN.out]; exact hlt)
      have g1 : (k : Int) < n := by omega
      have hu := okU_nat (HOK.out k (by rw [HN.out]; exact hlt))
      have hs1 := usedTo_bd HOK.out (by rw [HN.out]; exact hl) hr2 (k := k + 1) (by rw [HN.out]; omega)
      have hS : usedTo S r (k + 1) = usedTo S r k + r / per (nthU S k) * cst (nthU S k) := rfl
      obtain ⟨s', hs'⟩ : ∃ s', usedTo S r (k + 1) = s' := ⟨_, rfl⟩
      have HS' := Lib.hid hs'
      rw [hs'] at hs1 hS
      clear hs'
      generalize usedTo S r k = s at *
      obtain ⟨u1, u2, u3, u4, u5, u6⟩ := hu
      rw [u1] at c1
      rw [u2] at c2
      clear u1 u2
      generalize cst (nthU S k) = x at *
      generalize per (nthU S k) = p at *
      obtain ⟨z, hz⟩ : ∃ z, r / p = z := ⟨_, rfl⟩
      have hz1 : z ≤ r := hz ▸ Nat.div_le_self r p
      have q0 : (r : Int) / p = (z : Int) := by rw [← hz]; rfl
      rw [hz] at hS
      have q1 : wrap64 ((r : Int) / p) = z := by rw [q0]; exact IntWalk.wrap64_in _ (by omega)
      obtain ⟨m, hm⟩ : ∃ m, z * x = m := ⟨_, rfl⟩
      rw [hm] at hS
      have q2 : wrap64 ((z : Int) * x) = m := by rw [← Int.natCast_mul, hm]; exact IntWalk.wrap64_in _ (by omega)
      have q3 : wrap64 ((s : Int) + m) = s' := wrap_add hS hs1
      clear hz hS q0 hm
      have e1 : ¬ (p : Int) = 0 := by omega
      have e2 : (0 : Int) ≤ r := by omega
      go_wp2_with fail
      go_quiet (fail)
      go_wp2_with fail
      go_roundw
      case rel => exact ⟨k + 1, by omega, by go_num, by rw [HS'.out, q3], only_quiet (HR.out.alloc _) _⟩
      case measure => simp [intOf]; omega
    · obtain rfl : k = n := by omega
      have hs1 := usedTo_bd HOK.out (by rw [HN.out]; exact hl) hr2 (k := k) (by rw [HN.out]; omega)
      generalize usedTo S r k = s at *
      have D := Lib.hid (fun w => divisor_any r s (by omega) (by omega) w)
      have hg : 0 < Nat.gcd r s := Nat.gcd_pos_of_pos_left _ (by omega)
      generalize Nat.gcd r s = g at *
      have hz1 : s / g ≤ s := Nat.div_le_self s g
      have hz2 : r / g ≤ r := Nat.div_le_self r g
      obtain ⟨z1, y1⟩ : ∃ z, s / g = z := ⟨_, rfl⟩
      obtain ⟨z2, y2⟩ : ∃ z, r / g = z := ⟨_, rfl⟩
      rw [y1] at hz1
      rw [y2] at hz2
      have q1 : wrap64 ((s : Int) / g) = z1 := by rw [show (s : Int) / g = (z1 : Int) by rw [← y1]; rfl]; exact IntWalk.wrap64_in _ (by omega)
      have q2 : wrap64 ((r : Int) / g) = z2 := by rw [show (r : Int) / g = (z2 : Int) by rw [← y2]; rfl]; exact IntWalk.wrap64_in _ (by omega)
      have HE2 : Hid (shareN S = z1 ∧ shareD S = z2) := Lib.hid (by rw [← y1, ← y2]; exact HE.out)
      clear y1 y2
      have e1 : ¬ (g : Int) = 0 := by omega
      have e2 : (0 : Int) ≤ r := by omega
      have e3 : (0 : Int) ≤ s := by omega
      go_wp2_with (go_at_call 70; (with_reducible refine (D.out _).mono ?_); rintro e w2 ⟨rfl, m, rfl⟩)
      go_quiet (fail)
      go_wp2_with fail
      (try simp only [Exit.inBlock, Exit.then])
      refine bodyPost_ret (results_tmp3 rfl _ _ _) rfl ?_
      show Triple _ _ _ _ (.returned (.tuple #[.int .i64 (wrap64 ((s : Int) / g)), .int .i64 (wrap64 ((r : Int) / g)), .int .i64 0])) _
      rw [q1, q2]
      exact triple_is (by rw [HE2.out.1]) (by rw [HE2.out.2]) rfl (only_quiet (only_quiet HR.out _) _)

theorem truth_is {x x' : Bool} {y y' : Int} {w w' : World} (h : x = x') (h2 : y = y') (hO : Only (fun _ => False) w w') : Truth x y w (.returned (.tuple #[.bool x', .int .i64 y'])) w' := by subst h h2; exact ⟨rfl, hO⟩

theorem fits_bad (v : Value) (S : List Use) (k : Int) (w : World) (h : UV w v S) (hc : chk S ≠ 0) :
    Calls Try.prog 40 #[v, .int .i64 k] w (Truth false (chk S) w) := by
  have C := Lib.hid (share_bad v S w h hc)
  obtain ⟨a, c, rfl, -⟩ := h
  have e0 : (chk S == 0) = false := by simp [hc]
  clear hc
  generalize chk S = x at *
  go_enter Try.func40, Try.ntmps40
  go_wp2_with (go_at_call 49; (with_reducible refine C.out.mono ?_); rintro e w1 ⟨rfl, hO⟩; have HO := Lib.hid hO; clear hO)
  go_ret2
  exact ⟨rfl, HO.out⟩

theorem fits_cpus (v : Value) (S : List Use) (k : Int) (w : World) (h : UV w v S) (hc : chk S = 0) (hk : k < 1 ∨ 4 < k) :
    Calls Try.prog 40 #[v, .int .i64 k] w (Truth false 1 w) := by
  have C := Lib.hid (share_good v S w h hc)
  obtain ⟨a, c, rfl, -⟩ := h
  clear hc
  generalize shareN S = x at *
  generalize shareD S = y at *
  by_cases h1 : k < 1
  · clear hk
    go_enter Try.func40, Try.ntmps40
    go_wp2_with (go_at_call 49; (with_reducible refine C.out.mono ?_); rintro e w1 ⟨rfl, hO⟩; have HO := Lib.hid hO; clear hO)
    go_ret2
    exact ⟨rfl, HO.out⟩
  · have h2 : 4 < k := by omega
    clear hk
    go_enter Try.func40, Try.ntmps40
    go_wp2_with (go_at_call 49; (with_reducible refine C.out.mono ?_); rintro e w1 ⟨rfl, hO⟩; have HO := Lib.hid hO; clear hO)
    go_ret2
    exact ⟨rfl, HO.out⟩

theorem shareD_le {S : List Use} (h : chk S = 0) : shareD S ≤ 2329089562800 :=
  Nat.le_trans (Nat.div_le_self _ _) (rndTo_le (chk_zero h).2 (Nat.le_refl _))
theorem shareN_le {S : List Use} (h : chk S = 0) : shareN S ≤ 37265433004800 :=
  Nat.le_trans (Nat.div_le_self _ _) (usedTo_bd (chk_zero h).2 (chk_zero h).1 (rndTo_le (chk_zero h).2 (Nat.le_refl _)) (Nat.le_refl _))

theorem wrap_mul {k y : Nat} (h : k ≤ 4) (hb : y ≤ 2329089562800) : wrap64 ((k : Int) * y) = ((k * y : Nat) : Int) := by
  have : k * y ≤ 4 * 2329089562800 := Nat.mul_le_mul h hb
  rw [← Int.natCast_mul]
  exact IntWalk.wrap64_in _ (by omega)

theorem fits_good (v : Value) (S : List Use) (k : Nat) (w : World) (h : UV w v S) (hc : chk S = 0) (hk : 1 ≤ k ∧ k ≤ 4) :
    Calls Try.prog 40 #[v, .int .i64 k] w (Truth (decide (shareN S ≤ k * shareD S)) 0 w) := by
  have C := Lib.hid (share_good v S w h hc)
  obtain ⟨a, c, rfl, -⟩ := h
  have hb := shareD_le hc
  clear hc
  generalize shareN S = x at *
  generalize shareD S = y at *
  have q1 : wrap64 ((k : Int) * y) = ((k * y : Nat) : Int) := wrap_mul hk.2 hb
  generalize k * y = z at *
  obtain ⟨h1, h2⟩ := hk
  have e1 : ¬ (k : Int) < 1 := by omega
  have e2 : ¬ (4 : Int) < k := by omega
  by_cases hz : x ≤ z
  · have e3 : (x : Int) ≤ z := by omega
    go_enter Try.func40, Try.ntmps40
    go_wp2_with (go_at_call 49; (with_reducible refine C.out.mono ?_); rintro e w1 ⟨rfl, hO⟩; have HO := Lib.hid hO; clear hO)
    go_ret2
    exact truth_is (by simp [hz]) rfl HO.out
  · have e3 : ¬ (x : Int) ≤ z := by omega
    go_enter Try.func40, Try.ntmps40
    go_wp2_with (go_at_call 49; (with_reducible refine C.out.mono ?_); rintro e w1 ⟨rfl, hO⟩; have HO := Lib.hid hO; clear hO)
    go_ret2
    exact truth_is (by simp [hz]) rfl HO.out

end Go.Proofs.Ytijpiloljgpnkaa.Ad
