/- The contract of package admit's Late. -/
import Derived.Test.YtlohjlhopbhnoaaAdLate
namespace Go.Proofs.Ytlohjlhopbhnoaa.Ad
open Go.ChangeShapes Go.WideShapes Go.ChangeAt Go.RowKit
set_option linter.unusedVariables false

theorem late_bad (v : Value) (S : List Use) (t : Int) (w : World) (h : UV w v S) (hc : chk S ≠ 0) :
    Calls Try.prog 21 #[v, .int .i64 t] w (Pair 0 (chk S) w) := by
  have C := Lib.hid (check_any v S w h)
  obtain ⟨a, c, rfl, -⟩ := h
  have e0 : (chk S == 0) = false := by simp [hc]
  clear hc
  generalize chk S = x at *
  go_enter Try.func21, Try.ntmps21
  go_wp2_with (go_at_call 18; (with_reducible refine C.out.mono ?_); rintro e w1 ⟨rfl, hO⟩; have HO := Lib.hid hO; clear hO)
  go_ret2
  exact ⟨rfl, HO.out⟩

theorem late_time (v : Value) (S : List Use) (t : Int) (w : World) (h : UV w v S) (hc : chk S = 0) (ht : t < 0 ∨ 2000 < t) :
    Calls Try.prog 21 #[v, .int .i64 t] w (Pair 0 1 w) := by
  have C := Lib.hid (check_any v S w h)
  rw [hc] at C
  obtain ⟨a, c, rfl, -⟩ := h
  clear hc
  by_cases h1 : t < 0
  · clear ht
    go_enter Try.func21, Try.ntmps21
    go_wp2_with (go_at_call 18; (with_reducible refine C.out.mono ?_); rintro e w1 ⟨rfl, hO⟩; have HO := Lib.hid hO; clear hO)
    go_ret2
    exact ⟨rfl, HO.out⟩
  · have h2 : 2000 < t := by omega
    clear ht
    go_enter Try.func21, Try.ntmps21
    go_wp2_with (go_at_call 18; (with_reducible refine C.out.mono ?_); rintro e w1 ⟨rfl, hO⟩; have HO := Lib.hid hO; clear hO)
    go_ret2
    exact ⟨rfl, HO.out⟩

theorem fAt_bd {S : List Use} (h : allOk S) (t : Nat) (i : Nat) : fAt S t i ≤ 1000 := by
  have h1 := fAt_le S t i
  by_cases hi : i < S.length
  · have := okU_nat (h i hi); omega
  · have : nthU S i = (0, 0) := by unfold nthU; simp [List.getD, List.getElem?_eq_none (show S.length ≤ i by omega)]
    rw [this] at h1; unfold cst at h1; simp at h1; omega

/-- The jobs at the beginning, as far as k. -/
def startTo (S : List Use) (k : Nat) : Nat → Nat := fun i => if i < k then cst (nthU S i) else 0
theorem start_succ (S : List Use) (k : Nat) : startTo S (k + 1) = updN (startTo S k) k (cst (nthU S k)) := by
  funext i
  by_cases e : i = k
  · subst e; simp [startTo, updN]
  · have h2 : i < k + 1 ↔ i < k := by omega
    simp [startTo, updN, e, h2]
theorem start_zero (S : List Use) (n : Nat) : fl n (startTo S 0) = List.replicate n 0 := by
  apply List.ext_getElem
  · simp [fl]
  · intro i h1 h2; simp [fl, startTo]
theorem start_all (S : List Use) : fl S.length (startTo S S.length) = fl S.length (fAt S 0) := by
  apply List.ext_getElem
  · simp [fl]
  · intro i h1 h2
    have : i < S.length := by simpa [fl] using h1
    simp [fl, startTo, fAt, this]

set_option maxHeartbeats 2000000 in
theorem late_good (v : Value) (S : List Use) (t : Nat) (w : World) (h : UV w v S) (hc : chk S = 0) (ht : t ≤ 2000) :
    Calls Try.prog 21 #[v, .int .i64 t] w (Pair (lateAt S t : Nat) 0 w) := by
  have C := Lib.hid (check_any v S w h)
  have HCK := Lib.hid hc
  rw [hc] at C
  obtain ⟨hl, hok⟩ := chk_zero hc
  have HOK := Lib.hid hok
  have H := Lib.hid h
  obtain ⟨a, c, rfl, h0, h1, h2⟩ := h
  clear h2 hok hc
  obtain ⟨n, hn⟩ : ∃ n, S.length = n := ⟨_, rfl⟩
  have HN := Lib.hid hn
  have HSA := Lib.hid (start_all S)
  rw [hn] at H h0 hl C HSA ⊢
  clear hn
  have t1 : ¬ (t : Int) < 0 := by omega
  have t2 : ¬ (2000 : Int) < t := by omega
  have mk := run_mk n (by omega)
  go_enter Try.func21, Try.ntmps21
  go_wp2_with (go_at_call 18; (with_reducible refine C.out.mono ?_); rintro e w1 ⟨rfl, hO⟩; have HO := Lib.hid hO; clear hO)
  have hblk : BlockOf (w1.alloc (.cells (numCells (List.replicate n 0)).toArray 3)) w1.heap.size (fl n (startTo S 0)) := by rw [start_zero]; exact BlockOf.new w1 _
  have HG := Lib.hid HO.out.size
  have HB := Lib.hid hblk
  have HO2 := Lib.hid (HO.out.alloc (.cells (numCells (List.replicate n 0)).toArray 3))
  have HOF : Hid (0 < n → Off (.slice a n c) w1.heap.size) := Lib.hid (fun hp x l k e => by
    intro hh
    obtain ⟨a', c', e', -, -, h3⟩ := H.out.later HO.out
    obtain ⟨b, off, e2, hb, -⟩ := h3 0 (by rw [HN.out]; exact hp)
    rw [e] at e'
    injection e' with e3
    rw [e2] at e3
    injection e3 with e4
    rw [e4] at hh
    simp only at hh
    omega)
  clear mk HO hblk
  generalize w1.alloc (.cells (numCells (List.replicate n 0)).toArray 3) = w2 at *
  generalize w1.heap.size = g at *
  go_loopw [29] (fun i wr => ∃ k : Nat, k ≤ n ∧ i = .int .i64 k ∧ BlockOf wr g (fl n (startTo S k)) ∧ Only (fun k => k = g) w2 wr) (fun i _ => n - (intOf i).toNat)
  case atStart => exact ⟨0, Nat.zero_le _, rfl, HB.out, Only.refl _ _⟩
  case round =>
    obtain ⟨k, hk, rfl, hBr, hOr⟩ := hrel
    have HBR := Lib.hid hBr
    have HR := Lib.hid hOr
    clear hOr hBr
    by_cases hlt : k < n
    · obtain ⟨b, off, rfl, hb, c1, c2⟩ : ∃ b off, a = some ⟨b, off, none⟩ ∧ b < wr.heap.size ∧ wr.cell? ⟨b, off + k * 2, none⟩ = some (.int .i64 (nthU S k).1) ∧ wr.cell? ⟨b, off + k * 2 + 1, none⟩ = some (.int .i64 (nthU S k).2) := by
        obtain ⟨a', c', e, -, -, h3⟩ := (H.out.later HO2.out).off HR.out (HOF.out (by omega))
        cases e
        exact h3 k (by rw [HN.out]; exact hlt)
      have c3 := HBR.out.cell (j := k) (by rw [fl_len]; exact hlt)
      have hgl := HBR.out.lt
      have fz := HBR.out.frozen k
      have g1 : (k : Int) < n := by omega
      have hu := okU_nat (HOK.out k (by rw [HN.out]; exact hlt))
      have hst := HBR.out.set k (cst (nthU S k))
      rw [fl_set, ← start_succ] at hst
      have HST := Lib.hid hst
      have HRS := Lib.hid (HR.out.setCell (p := ⟨g, k, none⟩) rfl (.int .i64 (cst (nthU S k) : Int)))
      obtain ⟨u1, u2, u3, u4, u5, u6⟩ := hu
      rw [u1] at c1
      rw [u2] at c2
      clear u1 u2 hst
      generalize cst (nthU S k) = x at *
      generalize per (nthU S k) = p at *
      go_wp2_with fail
      go_roundw
      case rel => exact ⟨k + 1, by omega, by go_num, HST.out.later ((Only.refl _ _).alloc _), HRS.out.alloc _⟩
      case measure => simp [intOf]; omega
    · obtain rfl : k = n := by omega
      have hB0 := HBR.out
      rw [HSA.out] at hB0
      have HB0 := Lib.hid hB0
      clear hB0
      go_wp2_with fail
      go_loopw [10, 41] (fun x i wx => ∃ j : Nat, j ≤ t ∧ i = .int .i64 j ∧ x = .int .i64 (lateAt S j : Nat) ∧ BlockOf wx g (fl k (fAt S j)) ∧ Only (fun k => k = g) w2 wx) (fun _ i _ => t - (intOf i).toNat)
      case atStart => exact ⟨0, Nat.zero_le _, rfl, rfl, HB0.out, HR.out⟩
      case round =>
        obtain ⟨j, hj, rfl, rfl, hBr, hOr⟩ := hrel
        have HBX := Lib.hid hBr
        have HX := Lib.hid hOr
        clear hOr hBr
        by_cases hlt2 : j < t
        · have g1 : (j : Int) < t := by omega
          have HV := Lib.hid (fun (wy : World) (hO : Only (fun k => k = g) wr wy) => (H.out.later HO2.out).off0 (HX.out.trans hO (fun _ _ e => e)) (fun hp => HOF.out (by rw [HN.out] at hp; exact hp)))
          have hfb := fAt_bd HOK.out j
          have KN := Lib.hid (next_any _ S g k (fAt S j) j wr (HV.out _ (Only.refl _ _)) HCK.out (by rw [HN.out]; exact HBX.out) hfb (by omega))
          have hpk := pkI_lt S (fAt S j) j
          have hrb : ∀ i, run S (fAt S j) j i ≤ 1000 := fun i => Nat.le_trans (run_le S _ j i) (hfb i)
          have KR := Lib.hid (fun (wy : World) (hO : Only (fun k => k = g) wr wy) (hb : BlockOf wy g (fl k (run S (fAt S j) j))) (m : Int) (hm : m = ((j + 1 : Nat) : Int)) => show Calls _ _ #[_, _, .int .i64 m] _ _ from hm ▸ release_any _ S g k (run S (fAt S j) j) (j + 1) wy (HV.out _ hO) HCK.out (by rw [HN.out]; exact hb) hrb (by omega) (fun hp => HOF.out (by rw [HN.out] at hp; exact hp)))
          have hll := lateAt_le S j
          have hll2 : S.length * j ≤ 16 * 2000 := Nat.mul_le_mul (by rw [HN.out]; exact hl) (by omega)
          have hla : lateAt S j ≤ 32000 := Nat.le_trans hll hll2
          have hcl := cntTo_le S (run S (fAt S j) j) (j + 1) S.length
          have hcl2 : cnt S (run S (fAt S j) j) (j + 1) ≤ 16 := by unfold cnt; have := HN.out; omega
          have HF2 : Hid (fAt S (j + 1) = rel S (run S (fAt S j) j) (j + 1)) := Lib.hid rfl
          have HL2 : Hid (lateAt S (j + 1) = lateAt S j + cnt S (run S (fAt S j) j) (j + 1)) := Lib.hid rfl
          have HRN : Hid (run S (fAt S j) j = if 0 ≤ pkI S (fAt S j) j then updN (fAt S j) (pkI S (fAt S j) j).toNat (fAt S j (pkI S (fAt S j) j).toNat - 1) else fAt S j) := Lib.hid rfl
          unfold Released at KR
          rw [HN.out] at KN KR
          rw [← HF2.out] at KR
          generalize cnt S (run S (fAt S j) j) (j + 1) = cn at *
          generalize run S (fAt S j) j = f1 at *
          generalize lateAt S j = la at *
          clear hll hcl hrb hll2
          generalize pkI S (fAt S j) j = pk at *
          rcases hpk with rfl | ⟨i, rfl, hi, hfi⟩
          · have HE : Hid (f1 = fAt S j) := Lib.hid (by rw [HRN.out, if_neg (by omega)])
            have HB1 : Hid (BlockOf wr g (fl k f1)) := Lib.hid (by rw [HE.out]; exact HBX.out)
            clear hfb
            go_wp2_with (first
              | (go_at_call 48; (with_reducible refine KN.out.mono ?_); rintro e w3 ⟨rfl, hO⟩; have HO3 := Lib.hid hO; clear hO)
              | (go_at_call 49; (with_reducible refine (KR.out _ (HO3.out.mono (fun _ _ e => e.elim)) (HB1.out.later HO3.out) _ (by omega)).mono ?_); rintro e w4 ⟨rfl, hb, hO⟩; have HB4 := Lib.hid hb; have HO4 := Lib.hid ((HO3.out.mono (T := fun k => k = g) (fun _ _ e => e.elim)).trans hO (fun _ _ e => e)); clear hO hb))
            go_roundw
            case rel => exact ⟨j + 1, by omega, by go_num, by rw [HL2.out]; go_num, HB4.out, HX.out.trans HO4.out (fun _ _ e => e)⟩
            case measure => simp [intOf]; omega
          · have hin : i < k := by rw [HN.out] at hi; exact hi
            have HE : Hid (f1 = updN (fAt S j) i (fAt S j i - 1)) := Lib.hid (by rw [HRN.out, if_pos (by omega), Int.toNat_natCast])
            have hst := fun (wy : World) (hO : Only (fun _ => False) wr wy) => (HBX.out.later hO).set i (fAt S j i - 1 : Nat)
            rw [fl_set, ← HE.out] at hst
            have HST := Lib.hid hst
            have hfi2 := hfb i
            have c3 := fun (wy : World) (hO : Only (fun _ => False) wr wy) => (HBX.out.later hO).cell (j := i) (by rw [fl_len]; exact hin)
            rw [fl_get _ hin] at c3
            have C3 := Lib.hid c3
            have FZ := Lib.hid (fun (wy : World) (hO : Only (fun _ => False) wr wy) => (HBX.out.later hO).frozen i)
            clear hfb hst c3
            have HS1 := Lib.hid (fun (wy : World) (hO : Only (fun _ => False) wr wy) => (hO.mono (T := fun k => k = g) (fun _ _ e => e.elim)).setCell (p := ⟨g, i, none⟩) rfl (.int .i64 ((fAt S j i - 1 : Nat) : Int)))
            have KR2 := Lib.hid (fun (wy : World) (hO : Only (fun _ => False) wr wy) => KR.out _ (HS1.out wy hO) (HST.out wy hO))
            generalize fAt S j i = y at *
            have ey : ((y : Int) - 1) = ((y - 1 : Nat) : Int) := by omega
            have i1 : (i : Int) < k := by omega
            have i2 : (0 : Int) ≤ i := by omega
            go_wp2_with (first
              | (go_at_call 48; (with_reducible refine KN.out.mono ?_); rintro e w3 ⟨rfl, hO⟩; have c3 := C3.out _ hO; have fz := FZ.out _ hO; have HO3 := Lib.hid hO; clear hO)
              | (go_at_call 49; (with_reducible refine (KR2.out _ HO3.out _ (by omega)).mono ?_); rintro e w4 ⟨rfl, hb, hO⟩; have HB4 := Lib.hid hb; have HO4 := Lib.hid ((HS1.out _ HO3.out).trans hO (fun _ _ e => e)); clear hO hb))
            go_roundw
            case rel => exact ⟨j + 1, by omega, by go_num, by rw [HL2.out]; go_num, HB4.out, HX.out.trans HO4.out (fun _ _ e => e)⟩
            case measure => simp [intOf]; omega
        · obtain rfl : j = t := by omega
          go_wp2_with fail
          go_ret2
          exact ⟨rfl, HO2.out.trans HX.out (fun k hk e => by have := HG.out; omega)⟩
end Go.Proofs.Ytlohjlhopbhnoaa.Ad
