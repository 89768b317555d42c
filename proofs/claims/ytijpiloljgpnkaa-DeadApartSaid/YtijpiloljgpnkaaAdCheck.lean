/- Contracts of package admit: Check, divisor. -/
import Derived.Test.YtijpiloljgpnkaaAdView
import Derived.IntWalk
namespace Go.Proofs.Ytijpiloljgpnkaa.Ad
open Go.ChangeShapes Go.WideShapes Go.ChangeAt Go.RowKit
set_option linter.unusedVariables false

/-- A number was answered, and nothing that was there changed. -/
def Num (x : Int) (w : World) (e : Ending) (w' : World) : Prop := e = .returned (.int .i64 x) ∧ Only (fun _ => False) w w'
theorem num_is {x y : Int} {w w' : World} (h : x = y) (hO : Only (fun _ => False) w w') : Num x w (.returned (.int .i64 y)) w' := by subst h; exact ⟨rfl, hO⟩

set_option maxHeartbeats 1000000 in
theorem check_any (v : Value) (S : List Use) (w : World) (h : UV w v S) :
    Calls Try.prog 76 #[v] w (Num (chk S) w) := by
  have H := Lib.hid h
  obtain ⟨a, c, rfl, h0, h1, h2⟩ := h
  clear h2
  obtain ⟨n, hn⟩ : ∃ n, S.length = n := ⟨_, rfl⟩
  have HN := Lib.hid hn
  rw [hn] at H h0 ⊢
  clear hn
  by_cases hl : 16 < n
  · have hl2 : (16 : Int) < n := by omega
    have HC := Lib.hid (chk_large (S := S) (by rw [HN.out]; exact hl))
    go_enter Try.func76, Try.ntmps76
    go_wp2
    go_ret
    exact num_is HC.out (Only.refl _ w)
  · have hl2 : ¬ (16 : Int) < n := by omega
    go_enter Try.func76, Try.ntmps76
    go_wp2_with fail
    go_loopw [10] (fun i wr => ∃ k : Nat, k ≤ n ∧ i = .int .i64 k ∧ (∀ j, j < k → okU (nthU S j) = true) ∧ Only (fun _ => False) w wr) (fun i _ => n - (intOf i).toNat)
    case atStart => exact ⟨0, Nat.zero_le _, rfl, (fun j hj => absurd hj (Nat.not_lt_zero _)), Only.refl _ w⟩
    case round =>
      obtain ⟨k, hk, rfl, hok, hO⟩ := hrel
      have HK := Lib.hid hok
      have HO := Lib.hid hO
      clear hok hO
      by_cases hlt : k < n
      · obtain ⟨b, off, rfl, hb, c1, c2⟩ : ∃ b off, a = some ⟨b, off, none⟩ ∧ b < wr.heap.size ∧ wr.cell? ⟨b, off + k * 2, none⟩ = some (.int .i64 (nthU S k).1) ∧ wr.cell? ⟨b, off + k * 2 + 1, none⟩ = some (.int .i64 (nthU S k).2) := by
          obtain ⟨a', c', e, -, -, h3⟩ := H.out.later HO.out
          cases e
          exact h3 k (by rw [HN.out]; exact hlt)
        have g1 : (k : Int) < n := by omega
        have HKL := Lib.hid (show k < S.length by rw [HN.out]; exact hlt)
        have HSL := Lib.hid (show S.length ≤ 16 by rw [HN.out]; omega)
        cases hu : okU (nthU S k) with
        | false =>
          have HC := Lib.hid (chk_bad HSL.out HKL.out hu)
          have hno := okU_no hu
          clear hu
          generalize nthU S k = u at *
          obtain ⟨x, y⟩ := u
          simp only at hno c1 c2
          by_cases q1 : y < 1
          · clear hno
            go_wp2_with fail
            go_ret
            exact num_is HC.out (HO.out.alloc _)
          · by_cases q2 : 30 < y
            · clear hno
              go_wp2_with fail
              go_ret
              exact num_is HC.out (HO.out.alloc _)
            · by_cases q3 : x < 1
              · clear hno
                go_wp2_with fail
                go_ret
                exact num_is HC.out (HO.out.alloc _)
              · have q4 : y < x := by omega
                clear hno
                go_wp2_with fail
                go_ret
                exact num_is HC.out (HO.out.alloc _)
        | true =>
          have HB := Lib.hid hu
          obtain ⟨q1, q2, q3, q4⟩ := okU_bd hu
          have HK2 : Hid (∀ j, j < k + 1 → okU (nthU S j) = true) := Lib.hid (fun j hj => by
            by_cases e : j = k
            · subst e; exact HB.out
            · exact HK.out j (by omega))
          clear hu HB
          generalize nthU S k = u at *
          obtain ⟨x, y⟩ := u
          simp only at q1 q2 q3 q4 c1 c2
          have e1 : ¬ y < 1 := by omega
          have e2 : ¬ 30 < y := by omega
          have e3 : ¬ x < 1 := by omega
          have e4 : ¬ y < x := by omega
          go_wp2_with fail
          go_roundw
          case rel => exact ⟨k + 1, by omega, by go_num, HK2.out, HO.out.alloc _⟩
          case measure => simp [intOf]; omega
      · obtain rfl : k = n := by omega
        have HC := Lib.hid (chk_ok (S := S) (by rw [HN.out]; omega) (fun j hj => HK.out j (by rw [HN.out] at hj; exact hj)))
        go_wp2_with fail
        go_ret
        exact num_is HC.out HO.out

theorem divisor_any (a b : Nat) (ha : a ≤ 4611686018427387904) (hb : b ≤ 4611686018427387904) (w : World) :
    Calls Try.prog 70 #[.int .i64 a, .int .i64 b] w fun e w' => e = .returned (.int .i64 (Nat.gcd a b : Nat)) ∧ ∃ q, w' = w.drewN q := by
  obtain ⟨g, hg⟩ : ∃ g, Nat.gcd a b = g := ⟨_, rfl⟩
  have HG := Lib.hid hg
  rw [hg]
  clear hg
  go_enter Try.func70, Try.ntmps70
  go_wp2_with fail
  go_loopw [0, 1, 5, 7, 8, 9, 10] (fun x y _ _ _ _ _ wr => ∃ a b : Nat, x = .int .i64 a ∧ y = .int .i64 b ∧ a ≤ 4611686018427387904 ∧ b ≤ 4611686018427387904 ∧ Nat.gcd a b = g ∧ ∃ q, wr = w.drewN q) (fun _ y _ _ _ _ _ _ => (intOf y).toNat)
  case atStart => exact ⟨a, b, rfl, rfl, ha, hb, HG.out, 0, rfl⟩
  case round =>
    obtain ⟨x, y, rfl, rfl, hx, hy, hgc, q, rfl⟩ := hrel
    have HGC := Lib.hid hgc
    clear hgc
    by_cases h0 : y = 0
    · have HE : Hid (x = g) := Lib.hid (by have := HGC.out; rw [h0, Nat.gcd_zero_right] at this; exact this)
      have e0 : ((y : Int) == 0) = true := by simp [h0]
      go_wp2_with fail
      go_ret
      exact ⟨by rw [HE.out]; rfl, _, rfl⟩
    · have e0 : ((y : Int) == 0) = false := by simp [h0]
      have e1 : ¬ (y : Int) = 0 := by omega
      have e2 : (0 : Int) ≤ x := by omega
      have HM : Hid ((x : Int) % (y : Int) = ((x % y : Nat) : Int)) := Lib.hid rfl
      have HLT : Hid (x % y < y) := Lib.hid (Nat.mod_lt _ (by omega))
      have HG2 : Hid (Nat.gcd y (x % y) = g) := Lib.hid (by rw [← HGC.out, Nat.gcd_comm x y, Nat.gcd_rec y x, Nat.gcd_comm])
      go_wp2_with fail
      go_region
      go_wp2_with fail
      go_roundw
      case rel => exact ⟨y, x % y, rfl, by rw [HM.out], hy, by have := HLT.out; omega, HG2.out, q + 1, rfl⟩
      case measure => simp [intOf]; rw [HM.out]; have := HLT.out; omega
end Go.Proofs.Ytijpiloljgpnkaa.Ad
