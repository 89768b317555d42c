/- Contracts of the reference: Round, Share. -/
import Derived.Test.YtlohjlhopbhnoaaAdRef
namespace Go.Proofs.Ytlohjlhopbhnoaa.Ad
open Go.ChangeShapes Go.WideShapes Go.ChangeAt Go.RowKit
set_option linter.unusedVariables false

theorem run_max2 (x y m : Int) (h : max x y = m) (w : World) (ts : Array TypeId) (t : TypeId) : (Builtin.max_ ts t #[.int .i64 x, .int .i64 y]).run Try.prog w = .ok (.int .i64 m) w := by
  subst h
  have e : (if y > x then y else x) = max x y := by rw [Int.max_def]; split <;> split <;> omega
  simp [Builtin.max_, Builtin.max2, e]

theorem pr_cell {r : Nat} (h : r < 10) (w : World) (t : TypeId) : (w.alloc (.cells #[.int .i64 2, .int .i64 3, .int .i64 5, .int .i64 7, .int .i64 11, .int .i64 13, .int .i64 17, .int .i64 19, .int .i64 23, .int .i64 29] t)).cell? ⟨w.heap.size, r, none⟩ = some (.int .i64 (pr r)) := by
  rw [cell_at (heap_alloc_new w _)]
  have : ∀ q : Fin 10, (#[.int .i64 2, .int .i64 3, .int .i64 5, .int .i64 7, .int .i64 11, .int .i64 13, .int .i64 17, .int .i64 19, .int .i64 23, .int .i64 29] : Array Value)[q.val]? = some (.int .i64 (pr q.val)) := by
    intro q; rcases q with ⟨q, hq⟩
    rcases (show q = 0 ∨ q = 1 ∨ q = 2 ∨ q = 3 ∨ q = 4 ∨ q = 5 ∨ q = 6 ∨ q = 7 ∨ q = 8 ∨ q = 9 by omega) with rfl | rfl | rfl | rfl | rfl | rfl | rfl | rfl | rfl | rfl <;> rfl
  exact this ⟨r, h⟩

theorem wrap_nat {z x m : Nat} (h : z * x = m) (hm : m ≤ 37265433004800) : wrap64 ((z : Int) * x) = m := by
  rw [← Int.natCast_mul, h]; exact IntWalk.wrap64_in _ (by omega)
theorem wrap_one {z : Nat} (hm : z ≤ 37265433004800) : wrap64 (z : Int) = z := IntWalk.wrap64_in _ (by omega)

set_option maxHeartbeats 2000000 in
set_option maxRecDepth 100000 in
theorem ref_round (v : Value) (S : List Use) (w : World) (h : UV w v S) (hc : chk S = 0) :
    Calls Try.prog 20 #[v] w (Num (rnd S : Nat) w) := by
  obtain ⟨hl, hok⟩ := chk_zero hc
  have HOK := Lib.hid hok
  have H := Lib.hid h
  obtain ⟨a, c, rfl, h0, h1, h2⟩ := h
  clear h2 hok hc
  obtain ⟨n, hn⟩ : ∃ n, S.length = n := ⟨_, rfl⟩
  have HN := Lib.hid hn
  rw [hn] at H h0 hl ⊢
  clear hn
  have HT := Lib.hid (fun (r : Nat) (hr : r < 10) => pr_cell hr w 3)
  have HO := Lib.hid ((Only.refl (fun _ => False) w).alloc (.cells #[.int .i64 2, .int .i64 3, .int .i64 5, .int .i64 7, .int .i64 11, .int .i64 13, .int .i64 17, .int .i64 19, .int .i64 23, .int .i64 29] 3))
  go_enter Try.func20, Try.ntmps20
  go_wp2_with fail
  generalize w.alloc (.cells #[.int .i64 2, .int .i64 3, .int .i64 5, .int .i64 7, .int .i64 11, .int .i64 13, .int .i64 17, .int .i64 19, .int .i64 23, .int .i64 29] 3) = w1 at *
  generalize w.heap.size = g at *
  go_loopw [3, 13] (fun x i wr => ∃ k r : Nat, k ≤ 10 ∧ i = .int .i64 k ∧ x = .int .i64 r ∧ RoundTo S k r ∧ Only (fun _ => False) w1 wr) (fun _ i _ => 10 - (intOf i).toNat)
  case atStart => exact ⟨0, 1, Nat.zero_le _, rfl, rfl, RoundTo.start S, Only.refl _ w1⟩
  case round =>
    obtain ⟨k, r, hk, rfl, rfl, hR, hO1⟩ := hrel
    have HR := Lib.hid hR
    have HO1 := Lib.hid hO1
    clear hR hO1
    by_cases hlt : k < 10
    · have ht := only_cell1 HO1.out (HT.out k hlt)
      have hgl := block_lt ht
      have hp := pr_bd hlt
      have HSTEP := Lib.hid (fun M => HR.out.step (M := M) hlt)
      have hr1 : r ≤ 2329089562800 := Nat.le_trans (Nat.le_of_dvd (rndTo_pos HOK.out (Nat.le_refl _)) HR.out.dvd) (rndTo_le HOK.out (Nat.le_refl _))
      generalize pr k = p at *
      have k1 : (k : Int) < 10 := by omega
      go_wp2_with fail
      go_loopw [6, 19] (fun m i wr => ∃ j M : Nat, j ≤ n ∧ i = .int .i64 j ∧ m = .int .i64 M ∧ Most S p j M ∧ M ≤ 30 ∧ Only (fun _ => False) w1 wr) (fun _ i _ => n - (intOf i).toNat)
      case atStart => exact ⟨0, 1, Nat.zero_le _, rfl, rfl, Most.start S p, by omega, HO1.out⟩
      case round =>
        obtain ⟨j, M, hj, rfl, rfl, hM, hM30, hO2⟩ := hrel
        have HM := Lib.hid hM
        have HO2 := Lib.hid hO2
        clear hM hO2 ht hgl
        by_cases hjn : j < n
        · obtain ⟨b, off, rfl, hb, c1, c2⟩ : ∃ b off, a = some ⟨b, off, none⟩ ∧ b < wr.heap.size ∧ wr.cell? ⟨b, off + j * 2, none⟩ = some (.int .i64 (nthU S j).1) ∧ wr.cell? ⟨b, off + j * 2 + 1, none⟩ = some (.int .i64 (nthU S j).2) := by
            obtain ⟨a', c', e, -, -, h3⟩ := H.out.later (trans_quiet HO.out HO2.out)
            cases e
            exact h3 j (by rw [HN.out]; exact hjn)
          have g1 : (j : Int) < n := by omega
          have hu := okU_nat (HOK.out j (by rw [HN.out]; exact hjn))
          have HMS := Lib.hid (fun (q m e : Nat) (hq : q = p ^ e) (hm : q * m = per (nthU S j)) (hn : ¬ p ∣ m) => HM.out.step hp.1 hq hm hn)
          obtain ⟨u1, u2, u3, u4, u5, u6⟩ := hu
          rw [u1] at c1
          rw [u2] at c2
          clear u1 u2
          generalize cst (nthU S j) = x at *
          generalize per (nthU S j) = y at *
          have e1 : ¬ (p : Int) = 0 := by omega
          go_wp2_with fail
          have HOA := Lib.hid (HO2.out.alloc (.cells #[.int .i64 (x : Int), .int .i64 (y : Int)] 40))
          clear c1 c2 hb
          generalize wr.alloc (.cells #[.int .i64 (x : Int), .int .i64 (y : Int)] 40) = w2 at *
          go_loopw [9, 10] (fun s t wr => ∃ q m : Nat, s = .int .i64 q ∧ t = .int .i64 m ∧ (∃ e, q = p ^ e) ∧ q * m = y ∧ Only (fun _ => False) w2 wr) (fun _ t _ => (intOf t).toNat)
          case atStart => exact ⟨1, y, rfl, rfl, ⟨0, by simp⟩, by simp, Only.refl _ _⟩
          case round =>
            obtain ⟨q, m, rfl, rfl, hqe, hqm, hO3⟩ := hrel
            have HQE := Lib.hid hqe
            have HO3 := Lib.hid hO3
            have hm0 : 1 ≤ m := by
              rcases Nat.eq_zero_or_pos m with e | e
              · rw [e, Nat.mul_zero] at hqm; omega
              · exact e
            have hq0 : 1 ≤ q := by
              rcases Nat.eq_zero_or_pos q with e | e
              · rw [e, Nat.zero_mul] at hqm; omega
              · exact e
            have hm30 : m ≤ 30 := Nat.le_trans (Nat.le_mul_of_pos_left m hq0) (by omega)
            have hq30 : q ≤ 30 := Nat.le_trans (Nat.le_mul_of_pos_right q hm0) (by omega)
            have HQM := Lib.hid hqm
            obtain ⟨z, hz⟩ : ∃ z, m % p = z := ⟨_, rfl⟩
            have qz : (m : Int) % p = (z : Int) := by rw [← hz]; rfl
            clear hqe hO3 hqm
            have e2 : (0 : Int) ≤ m := by omega
            by_cases z0 : z = 0
            · have e3 : ((z : Int) == 0) = true := by simp [z0]
              obtain ⟨d, hd⟩ : ∃ d, m / p = d := ⟨_, rfl⟩
              have qd : (m : Int) / p = (d : Int) := by rw [← hd]; rfl
              have hdm : p * d = m := by have := Nat.div_add_mod m p; rw [hd, hz, z0] at this; omega
              have hdlt : d < m := hd ▸ Nat.div_lt_self (by omega) hp.1
              have HD : Hid ((∃ e, q * p = p ^ e) ∧ q * p * d = y) := Lib.hid ⟨by obtain ⟨e, he⟩ := HQE.out; exact ⟨e + 1, by rw [he, Nat.pow_succ]⟩, by rw [Nat.mul_assoc, hdm]; exact HQM.out⟩
              have hqp : q * p ≤ 30 * 29 := Nat.mul_le_mul hq30 hp.2
              have q1 : wrap64 ((q : Int) * p) = ((q * p : Nat) : Int) := wrap_nat rfl (by omega)
              have q2 : wrap64 ((m : Int) / p) = d := by rw [qd]; exact wrap_one (by omega)
              have HQ1 := Lib.hid q1
              clear hd hz hdm hqp q1 q2
              generalize q * p = q' at *
              go_wp2_with fail
              go_roundw
              case rel => exact ⟨q', d, by rw [HQ1.out], rfl, HD.out.1, HD.out.2, HO3.out⟩
              case measure => simp [intOf]; omega
            · have e3 : ((z : Int) == 0) = false := by simp [z0]
              have hnd : ¬ p ∣ m := fun hh => z0 (by rw [← hz]; exact Nat.mod_eq_zero_of_dvd hh)
              have HST : Hid (Most S p (j + 1) (max M q)) := Lib.hid (by obtain ⟨e, he⟩ := HQE.out; exact HMS.out q m e he HQM.out hnd)
              have mx := run_max2 (M : Int) (q : Int) ((max M q : Nat) : Int) (by omega)
              have hmx : max M q ≤ 30 := by omega
              clear hz hnd
              generalize max M q = M' at *
              go_wp2_with fail
              go_roundw
              case rel => exact ⟨j + 1, M', by omega, by go_num, rfl, HST.out, hmx, trans_quiet HOA.out HO3.out⟩
              case measure => simp [intOf]; omega
        · obtain rfl : j = n := by omega
          have HST := Lib.hid (HSTEP.out M (by rw [HN.out]; exact HM.out))
          have hb : r * M ≤ 2329089562800 * 30 := Nat.mul_le_mul hr1 hM30
          have q1 : wrap64 ((r : Int) * M) = ((r * M : Nat) : Int) := by rw [← Int.natCast_mul]; exact IntWalk.wrap64_in _ (by omega)
          have HQ1 := Lib.hid q1
          clear q1 hb
          generalize r * M = r' at *
          go_wp2_with fail
          go_roundw
          case rel => exact ⟨k + 1, r', by omega, by go_num, by rw [HQ1.out], HST.out, HO2.out⟩
          case measure => simp [intOf]; omega
    · obtain rfl : k = 10 := by omega
      have HE := Lib.hid (HR.out.done HOK.out)
      go_wp2_with fail
      go_ret
      exact num_is (by rw [HE.out]) (trans_quiet HO.out HO1.out)

theorem mul_div_of {r p c : Nat} (hp : 1 ≤ p) (h : p ∣ r) : r * c / p = r / p * c := by
  obtain ⟨a, rfl⟩ := h
  rw [Nat.mul_div_cancel_left _ (by omega), Nat.mul_assoc, Nat.mul_div_cancel_left _ (by omega)]

set_option maxHeartbeats 2000000 in
set_option maxRecDepth 100000 in
theorem ref_share (v : Value) (S : List Use) (w : World) (h : UV w v S) (hc : chk S = 0) :
    Calls Try.prog 19 #[v] w (Pair (shareN S : Nat) (shareD S : Nat) w) := by
  have C := Lib.hid (ref_round v S w h hc)
  obtain ⟨hl, hok⟩ := chk_zero hc
  have HOK := Lib.hid hok
  have H := Lib.hid h
  obtain ⟨a, c, rfl, h0, h1, h2⟩ := h
  clear h2 hok hc
  obtain ⟨n, hn⟩ : ∃ n, S.length = n := ⟨_, rfl⟩
  have HN := Lib.hid hn
  rw [hn] at H h0 hl C ⊢
  clear hn
  have hr1 : 1 ≤ rnd S := rndTo_pos HOK.out (Nat.le_refl _)
  have hr2 : rnd S ≤ 2329089562800 := rndTo_le HOK.out (Nat.le_refl _)
  have HU : Hid (used S = usedTo S (rnd S) n) := Lib.hid (by unfold used; rw [HN.out])
  have HST := Lib.hid (Struck.start S)
  have HPD := Lib.hid (fun (j : Nat) (hj : j < n) => per_dvd (S := S) (k := S.length) (j := j) (by rw [HN.out]; exact hj))
  have HR : Hid (rnd S = rndTo S S.length) := Lib.hid rfl
  rw [← HR.out] at HPD
  clear HR
  generalize rnd S = r at *
  go_enter Try.func19, Try.ntmps19
  go_wp2_with (go_at_call 20; (with_reducible refine C.out.mono ?_); rintro e w1 ⟨rfl, hO⟩; have HO := Lib.hid hO; clear hO)
  go_loopw [5, 14] (fun s i wr => ∃ k : Nat, k ≤ n ∧ i = .int .i64 k ∧ s = .int .i64 (usedTo S r k) ∧ Only (fun _ => False) w wr) (fun _ i _ => n - (intOf i).toNat)
  case atStart => exact ⟨0, Nat.zero_le _, rfl, rfl, HO.out⟩
  case round =>
    obtain ⟨k, hk, rfl, rfl, hOr⟩ := hrel
    have HR := Lib.hid hOr
    clear hOr
    by_cases hlt : k < n
    · obtain ⟨b, off, rfl, hb, c1, c2⟩ : ∃ b off, a = some ⟨b, off, none⟩ ∧ b < wr.heap.size ∧ wr.cell? ⟨b, off + k * 2, none⟩ = some (.int .i64 (nthU S k).1) ∧ wr.cell? ⟨b, off + k * 2 + 1, none⟩ = some (.int .i64 (nthU S k).2) := by
        obtain ⟨a', c', e, -, -, h3⟩ := H.out.later HR.out
        cases e
        exact h3 k (by rw [HN.out]; exact hlt)
      have g1 : (k : Int) < n := by omega
      have hu := okU_nat (HOK.out k (by rw [HN.out]; exact hlt))
      have hs1 := usedTo_bd HOK.out (by rw [HN.out]; exact hl) hr2 (k := k + 1) (by rw [HN.out]; omega)
      have hS : usedTo S r (k + 1) = usedTo S r k + r / per (nthU S k) * cst (nthU S k) := rfl
      have hmd := mul_div_of (c := cst (nthU S k)) hu.2.2.1 (HPD.out k hlt)
      obtain ⟨s', hs'⟩ : ∃ s', usedTo S r (k + 1) = s' := ⟨_, rfl⟩
      have HS' := Lib.hid hs'
      rw [hs'] at hs1 hS
      clear hs'
      generalize usedTo S r k = s at *
      obtain ⟨u1, u2, u3, u4, u5, u6⟩ := hu
      rw [u1] at c1
      rw [u2] at c2
      clear u1 u2
      generalize cst (nthU S k) = x at *
      generalize per (nthU S k) = p at *
      rw [← hmd] at hS
      obtain ⟨y, hy⟩ : ∃ y, r * x = y := ⟨_, rfl⟩
      have hyb : y ≤ 2329089562800 * 30 := by rw [← hy]; exact Nat.mul_le_mul hr2 (by omega)
      rw [hy] at hS
      obtain ⟨z, hz⟩ : ∃ z, y / p = z := ⟨_, rfl⟩
      rw [hz] at hS
      have hzb : z ≤ y := hz ▸ Nat.div_le_self y p
      have q0 : (r : Int) * x = y := by rw [← Int.natCast_mul, hy]
      have q1 : (y : Int) / p = z := by rw [← hz]; rfl
      have q3 : (s : Int) + z = s' := by rw [hS]; rfl
      clear hy hz hmd hS
      have e1 : ¬ (p : Int) = 0 := by omega
      have e2 : (0 : Int) ≤ y := by omega
      go_wp2_with fail
      go_roundw
      case rel => exact ⟨k + 1, by omega, by go_num, by rw [HS'.out], HR.out.alloc _⟩
      case measure => simp [intOf]; omega
    · obtain rfl : k = n := by omega
      rw [← HU.out]
      have hub : used S ≤ 37265433004800 := by rw [HU.out]; exact usedTo_bd HOK.out (by rw [HN.out]; exact hl) hr2 (by rw [HN.out]; omega)
      go_wp2_with fail
      have HT := Lib.hid (fun (r : Nat) (hr : r < 10) => pr_cell hr wr 3)
      have HO2 := Lib.hid (HR.out.alloc (.cells #[.int .i64 2, .int .i64 3, .int .i64 5, .int .i64 7, .int .i64 11, .int .i64 13, .int .i64 17, .int .i64 19, .int .i64 23, .int .i64 29] 3))
      generalize wr.alloc (.cells #[.int .i64 2, .int .i64 3, .int .i64 5, .int .i64 7, .int .i64 11, .int .i64 13, .int .i64 17, .int .i64 19, .int .i64 23, .int .i64 29] 3) = w2 at *
      generalize wr.heap.size = g at *
      generalize used S = u at *
      go_loopw [5, 4, 30] (fun s t i wr => ∃ i0 x y : Nat, i0 ≤ 10 ∧ i = .int .i64 i0 ∧ s = .int .i64 x ∧ t = .int .i64 y ∧ Struck S i0 x y ∧ x ≤ u ∧ y ≤ r ∧ Only (fun _ => False) w2 wr) (fun _ _ i _ => 10 - (intOf i).toNat)
      case atStart => exact ⟨0, u, r, Nat.zero_le _, rfl, rfl, rfl, HST.out, Nat.le_refl _, Nat.le_refl _, Only.refl _ _⟩
      case round =>
        obtain ⟨i0, x0, y0, hi0, rfl, rfl, rfl, hS0, hx0, hy0, hO3⟩ := hrel
        have HS0 := Lib.hid hS0
        have HO3 := Lib.hid hO3
        clear hS0 hO3
        by_cases hi : i0 < 10
        · have ht := only_cell1 HO3.out (HT.out i0 hi)
          have hgl := block_lt ht
          have hp := pr_bd hi
          have HNX := Lib.hid (fun (x y : Nat) (h : Struck S i0 x y) (hn : x = 0 ∨ ¬ (pr i0 ∣ x ∧ pr i0 ∣ y)) => h.next hn)
          generalize pr i0 = p at *
          have k1 : (i0 : Int) < 10 := by omega
          go_wp2_with fail
          go_loopw [5, 4] (fun s t wr => ∃ x y : Nat, s = .int .i64 x ∧ t = .int .i64 y ∧ Struck S i0 x y ∧ x ≤ u ∧ y ≤ r ∧ Only (fun _ => False) w2 wr) (fun s _ _ => (intOf s).toNat)
          case atStart => exact ⟨x0, y0, rfl, rfl, HS0.out, hx0, hy0, HO3.out⟩
          case round =>
            clear HS0 HO3 ht hgl hx0 hy0
            obtain ⟨x, y, rfl, rfl, hS0, hx0, hy0, hO3⟩ := hrel
            have HS0 := Lib.hid hS0
            have HO3 := Lib.hid hO3
            clear hS0 hO3
            have e1 : ¬ (p : Int) = 0 := by omega
            have e2 : (0 : Int) ≤ x := by omega
            have e3 : (0 : Int) ≤ y := by omega
            obtain ⟨m1, hm1⟩ : ∃ m, x % p = m := ⟨_, rfl⟩
            obtain ⟨m2, hm2⟩ : ∃ m, y % p = m := ⟨_, rfl⟩
            have qm1 : (x : Int) % p = (m1 : Int) := by rw [← hm1]; rfl
            have qm2 : (y : Int) % p = (m2 : Int) := by rw [← hm2]; rfl
            by_cases hx : x = 0
            · have HN2 := Lib.hid (HNX.out x y HS0.out (Or.inl hx))
              have e4 : ¬ (0 : Int) < x := by omega
              clear hm1 hm2
              go_wp2_with fail
              go_roundw
              case rel => exact ⟨i0 + 1, x, y, by omega, by go_num, rfl, rfl, HN2.out, hx0, hy0, HO3.out⟩
              case measure => simp [intOf]; omega
            · have e4 : (0 : Int) < x := by omega
              by_cases h1 : m1 = 0
              · have e5 : ((m1 : Int) == 0) = true := by simp [h1]
                by_cases h2 : m2 = 0
                · have e6 : ((m2 : Int) == 0) = true := by simp [h2]
                  obtain ⟨x', hx'⟩ : ∃ d, x / p = d := ⟨_, rfl⟩
                  obtain ⟨y', hy'⟩ : ∃ d, y / p = d := ⟨_, rfl⟩
                  have qx : (x : Int) / p = (x' : Int) := by rw [← hx']; rfl
                  have qy : (y : Int) / p = (y' : Int) := by rw [← hy']; rfl
                  have hxm : x' * p = x := by have := Nat.div_add_mod x p; rw [hx', hm1, h1, Nat.mul_comm] at this; omega
                  have hym : y' * p = y := by have := Nat.div_add_mod y p; rw [hy', hm2, h2, Nat.mul_comm] at this; omega
                  have hlt2 : x' < x := hx' ▸ Nat.div_lt_self (by omega) hp.1
                  have hle2 : y' ≤ y := hy' ▸ Nat.div_le_self y p
                  have HN2 := Lib.hid (HS0.out.out (by omega) hxm hym)
                  have q1 : wrap64 ((x : Int) / p) = x' := by rw [qx]; exact wrap_one (by omega)
                  have q2 : wrap64 ((y : Int) / p) = y' := by rw [qy]; exact wrap_one (by omega)
                  have HQ1 := Lib.hid q1
                  have HQ2 := Lib.hid q2
                  clear q1 q2
                  clear hm1 hm2 hx' hy' hxm hym
                  go_wp2_with fail
                  go_quiet (fail)
                  go_wp2_with fail
                  go_roundw
                  case rel => exact ⟨x', y', by first | rw [HQ1.out] | rfl, by first | rw [HQ2.out] | rfl, HN2.out, by omega, by omega, only_drewN HO3.out _⟩
                  case measure => simp [intOf]; omega
                · have e6 : ((m2 : Int) == 0) = false := by simp [h2]
                  have HN2 := Lib.hid (HNX.out x y HS0.out (Or.inr (fun hh => h2 (by rw [← hm2]; exact Nat.mod_eq_zero_of_dvd hh.2))))
                  clear hm1 hm2
                  go_wp2_with fail
                  go_roundw
                  case rel => exact ⟨i0 + 1, x, y, by omega, by go_num, rfl, rfl, HN2.out, hx0, hy0, HO3.out⟩
                  case measure => simp [intOf]; omega
              · have e5 : ((m1 : Int) == 0) = false := by simp [h1]
                have HN2 := Lib.hid (HNX.out x y HS0.out (Or.inr (fun hh => h1 (by rw [← hm1]; exact Nat.mod_eq_zero_of_dvd hh.1))))
                clear hm1 hm2
                go_wp2_with fail
                go_roundw
                case rel => exact ⟨i0 + 1, x, y, by omega, by go_num, rfl, rfl, HN2.out, hx0, hy0, HO3.out⟩
                case measure => simp [intOf]; omega
        · obtain rfl : i0 = 10 := by omega
          obtain ⟨hd1, hd2⟩ := HS0.out.done HOK.out
          by_cases hx : x0 = 0
          · rw [if_pos hx] at hd2
            have HD := Lib.hid (And.intro hd1 hd2)
            have e4 : ((x0 : Int) == 0) = true := by simp [hx]
            clear hd1 hd2
            go_wp2_with fail
            go_ret2
            exact pair_is (by rw [HD.out.1]) (by rw [HD.out.2]; rfl) (trans_quiet HO2.out HO3.out)
          · rw [if_neg hx] at hd2
            have HD := Lib.hid (And.intro hd1 hd2)
            have e4 : ((x0 : Int) == 0) = false := by simp [hx]
            clear hd1 hd2
            go_wp2_with fail
            go_ret2
            exact pair_is (by rw [HD.out.1]) (by rw [HD.out.2]) (trans_quiet HO2.out HO3.out)
end Go.Proofs.Ytlohjlhopbhnoaa.Ad
