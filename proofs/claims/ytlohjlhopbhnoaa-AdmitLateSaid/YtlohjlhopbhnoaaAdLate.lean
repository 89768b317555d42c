/- Contracts of package admit: next, release, Late. -/
import Derived.Test.YtlohjlhopbhnoaaAdLateP
import Derived.Test.YtlohjlhopbhnoaaAdOps
import Derived.Test.YtlohjlhopbhnoaaNumRow
import Derived.Deep.QuietTactic
import Derived.BigQuiet
namespace Go.Proofs.Ytlohjlhopbhnoaa.Ad
open Go.ChangeShapes Go.WideShapes Go.ChangeAt Go.RowKit
set_option linter.unusedVariables false

set_option maxHeartbeats 1000000 in
theorem next_any (v : Value) (S : List Use) (g c : Nat) (f : Nat → Nat) (now : Nat) (w : World) (h : UV w v S) (hc : chk S = 0) (hb : BlockOf w g (fl S.length f)) (hf : ∀ i, f i ≤ 1000) (hn : now ≤ 100000) :
    Calls Try.prog 48 #[v, .slice (some ⟨g, 0, none⟩) S.length c, .int .i64 now] w (Num (pkI S f now) w) := by
  obtain ⟨hl, hok⟩ := chk_zero hc
  have HOK := Lib.hid hok
  have H := Lib.hid h
  have HB := Lib.hid hb
  have HF := Lib.hid hf
  obtain ⟨a, k0, rfl, h0, h1, h2⟩ := h
  clear h2 hok hc hb hf
  obtain ⟨n, hn⟩ : ∃ n, S.length = n := ⟨_, rfl⟩
  have HN := Lib.hid hn
  have HP : Hid (pkI S f now = (pkTo S f now n).1) := Lib.hid (by unfold pkI; rw [hn])
  rw [hn] at H h0 hl HB ⊢
  clear hn
  go_enter Try.func48, Try.ntmps48
  go_wp2_with fail
  go_loopw [7, 8, 14] (fun x y i wr => ∃ k : Nat, k ≤ n ∧ i = .int .i64 k ∧ x = .int .i64 (pkTo S f now k).1 ∧ y = .int .i64 ((pkTo S f now k).2 : Nat) ∧ Only (fun _ => False) w wr) (fun _ _ i _ => n - (intOf i).toNat)
  case atStart => exact ⟨0, Nat.zero_le _, rfl, rfl, rfl, Only.refl _ w⟩
  case round =>
    obtain ⟨k, hk, rfl, rfl, rfl, hOr⟩ := hrel
    have HR := Lib.hid hOr
    clear hOr
    by_cases hlt : k < n
    · obtain ⟨b, off, rfl, hb, c1, c2⟩ : ∃ b off, a = some ⟨b, off, none⟩ ∧ b < wr.heap.size ∧ wr.cell? ⟨b, off + k * 2, none⟩ = some (.int .i64 (nthU S k).1) ∧ wr.cell? ⟨b, off + k * 2 + 1, none⟩ = some (.int .i64 (nthU S k).2) := by
        obtain ⟨a', c', e, -, -, h3⟩ := H.out.later HR.out
        cases e
        exact h3 k (by rw [HN.out]; exact hlt)
      have c3 := (HB.out.later HR.out).cell (j := k) (by rw [fl_len]; exact hlt)
      rw [fl_get f hlt] at c3
      have hgl := (HB.out.later HR.out).lt
      have g1 : (k : Int) < n := by omega
      have hu := okU_nat (HOK.out k (by rw [HN.out]; exact hlt))
      have hS : pkTo S f now (k + 1) = if 0 < f k ∧ ((pkTo S f now k).1 < 0 ∨ endAt now (per (nthU S k)) < (pkTo S f now k).2) then ((k : Int), endAt now (per (nthU S k))) else pkTo S f now k := rfl
      have hfk := HF.out k
      obtain ⟨u1, u2, u3, u4, u5, u6⟩ := hu
      rw [u1] at c1
      rw [u2] at c2
      clear u1 u2
      generalize cst (nthU S k) = x at *
      generalize per (nthU S k) = p at *
      obtain ⟨m, hm⟩ : ∃ m, now % p = m := ⟨_, rfl⟩
      have hmp : m < p := hm ▸ Nat.mod_lt _ (by omega)
      have hmn : m ≤ now := hm ▸ Nat.mod_le _ _
      have qm : (now : Int) % p = (m : Int) := by rw [← hm]; rfl
      have qd : (now : Int) + p - m = (endAt now p : Nat) := by unfold endAt; rw [hm]; omega
      clear hm
      have e1 : ¬ (p : Int) = 0 := by omega
      have e2 : (0 : Int) ≤ now := by omega
      generalize endAt now p = d at *
      generalize f k = y at *
      obtain ⟨⟨s1, s2⟩, hs⟩ : ∃ s, pkTo S f now k = s := ⟨_, rfl⟩
      rw [hs] at hS
      obtain ⟨s', hs'⟩ : ∃ s', pkTo S f now (k + 1) = s' := ⟨_, rfl⟩
      rw [hs'] at hS
      have HS' := Lib.hid hs'
      clear hs'
      simp only [hs]
      clear hs
      by_cases y0 : y = 0
      · have HE : Hid (s' = (s1, s2)) := Lib.hid (by rw [hS, if_neg (fun q => by have := q.1; omega)])
        have e3 : ¬ (0 : Int) < y := by omega
        clear hS
        go_wp2_with fail
        go_quiet (fail)
        go_wp2_with fail
        go_roundw
        case rel => exact ⟨k + 1, by omega, by go_num, by rw [HS'.out, HE.out], by rw [HS'.out, HE.out], only_quiet (HR.out.alloc _) _⟩
        case measure => simp [intOf]; omega
      · have e3 : (0 : Int) < y := by omega
        by_cases z1 : s1 < 0
        · have HE : Hid (s' = ((k : Int), d)) := Lib.hid (by rw [hS, if_pos ⟨by omega, Or.inl z1⟩])
          clear hS
          go_wp2_with fail
          go_quiet (fail)
          go_wp2_with fail
          go_roundw
          case rel => exact ⟨k + 1, by omega, by go_num, by rw [HS'.out, HE.out], by rw [HS'.out, HE.out], only_quiet (HR.out.alloc _) _⟩
          case measure => simp [intOf]; omega
        · by_cases z2 : d < s2
          · have HE : Hid (s' = ((k : Int), d)) := Lib.hid (by rw [hS, if_pos ⟨by omega, Or.inr z2⟩])
            have e4 : (d : Int) < s2 := by omega
            have e5 : (now : Int) + p - m < s2 := by omega
            clear hS
            go_wp2_with fail
            go_quiet (fail)
            go_wp2_with fail
            go_roundw
            case rel => exact ⟨k + 1, by omega, by go_num, by rw [HS'.out, HE.out], by rw [HS'.out, HE.out], only_quiet (HR.out.alloc _) _⟩
            case measure => simp [intOf]; omega
          · have HE : Hid (s' = (s1, s2)) := Lib.hid (by rw [hS, if_neg (fun q => q.2.elim z1 z2)])
            have e4 : ¬ (d : Int) < s2 := by omega
            have e5 : ¬ (now : Int) + p - m < s2 := by omega
            clear hS
            go_wp2_with fail
            go_quiet (fail)
            go_wp2_with fail
            go_roundw
            case rel => exact ⟨k + 1, by omega, by go_num, by rw [HS'.out, HE.out], by rw [HS'.out, HE.out], only_quiet (HR.out.alloc _) _⟩
            case measure => simp [intOf]; omega
    · obtain rfl : k = n := by omega
      go_wp2_with fail
      go_ret
      exact num_is HP.out HR.out

/-- Where a slice lies, that is none of block g. -/
def Off (v : Value) (g : Nat) : Prop := ∀ a l k, v = .slice (some a) l k → a.block ≠ g

theorem UV.off {w w' : World} {v : Value} {S : List Use} {g : Nat} (h : UV w v S) (hO : Only (fun k => k = g) w w') (hg : Off v g) : UV w' v S := h.keep hO (fun a l c e => hg a l c e)

theorem UV.off0 {w w' : World} {v : Value} {S : List Use} {g : Nat} (h : UV w v S) (hO : Only (fun k => k = g) w w') (hg : 0 < S.length → Off v g) : UV w' v S := by
  by_cases h0 : S.length = 0
  · obtain ⟨a, c, e, h1, h2, -⟩ := h
    exact ⟨a, c, e, h1, h2, fun j hj => by omega⟩
  · exact h.off hO (hg (by omega))

/-- Jobs were released: so many were late. -/
def Released (S : List Use) (f : Nat → Nat) (now g n : Nat) (w : World) (e : Ending) (w' : World) : Prop :=
  e = .returned (.int .i64 (cnt S f now : Nat)) ∧ BlockOf w' g (fl n (rel S f now)) ∧ Only (fun k => k = g) w w'

set_option maxHeartbeats 1000000 in
theorem release_any (v : Value) (S : List Use) (g c : Nat) (f : Nat → Nat) (now : Nat) (w : World) (h : UV w v S) (hc : chk S = 0) (hb : BlockOf w g (fl S.length f)) (hf : ∀ i, f i ≤ 1000) (hn : now ≤ 100000) (hd : 0 < S.length → Off v g) :
    Calls Try.prog 49 #[v, .slice (some ⟨g, 0, none⟩) S.length c, .int .i64 now] w (Released S f now g S.length w) := by
  obtain ⟨hl, hok⟩ := chk_zero hc
  have HOK := Lib.hid hok
  have H := Lib.hid h
  have HB := Lib.hid hb
  have HF := Lib.hid hf
  have HD := Lib.hid hd
  obtain ⟨a, k0, rfl, h0, h1, h2⟩ := h
  clear h2 hok hc hb hf hd
  obtain ⟨n, hn⟩ : ∃ n, S.length = n := ⟨_, rfl⟩
  have HN := Lib.hid hn
  have HP : Hid (cnt S f now = cntTo S f now n ∧ rel S f now = relTo S f now n) := Lib.hid (by unfold cnt rel; rw [hn]; exact ⟨rfl, rfl⟩)
  rw [hn] at H h0 hl HB HD ⊢
  clear hn
  go_enter Try.func49, Try.ntmps49
  go_wp2_with fail
  go_loopw [7, 12] (fun x i wr => ∃ k : Nat, k ≤ n ∧ i = .int .i64 k ∧ x = .int .i64 (cntTo S f now k : Nat) ∧ BlockOf wr g (fl n (relTo S f now k)) ∧ Only (fun k => k = g) w wr) (fun _ i _ => n - (intOf i).toNat)
  case atStart => exact ⟨0, Nat.zero_le _, rfl, rfl, by rw [relTo_zero]; exact HB.out, Only.refl _ w⟩
  case round =>
    obtain ⟨k, hk, rfl, rfl, hBr, hOr⟩ := hrel
    have HBR := Lib.hid hBr
    have HR := Lib.hid hOr
    clear hOr hBr
    by_cases hlt : k < n
    · obtain ⟨b, off, rfl, hb, c1, c2⟩ : ∃ b off, a = some ⟨b, off, none⟩ ∧ b < wr.heap.size ∧ wr.cell? ⟨b, off + k * 2, none⟩ = some (.int .i64 (nthU S k).1) ∧ wr.cell? ⟨b, off + k * 2 + 1, none⟩ = some (.int .i64 (nthU S k).2) := by
        obtain ⟨a', c', e, -, -, h3⟩ := H.out.off HR.out (HD.out (by omega))
        cases e
        exact h3 k (by rw [HN.out]; exact hlt)
      have c3 := HBR.out.cell (j := k) (by rw [fl_len]; exact hlt)
      rw [fl_get _ hlt, relTo_at (Nat.le_refl _)] at c3
      have hgl := HBR.out.lt
      have fz := HBR.out.frozen k
      have g1 : (k : Int) < n := by omega
      have hu := okU_nat (HOK.out k (by rw [HN.out]; exact hlt))
      have hC : cntTo S f now (k + 1) = cntTo S f now k + (if now % per (nthU S k) = 0 ∧ 0 < f k then 1 else 0) := rfl
      have hcl := cntTo_le S f now k
      have hfk := HF.out k
      have HY := Lib.hid (relTo_succ_yes (S := S) (f := f) (now := now) (k := k))
      have HNO := Lib.hid (relTo_succ_no (S := S) (f := f) (now := now) (k := k))
      obtain ⟨u1, u2, u3, u4, u5, u6⟩ := hu
      rw [u1] at c1
      rw [u2] at c2
      clear u1 u2
      generalize cst (nthU S k) = x at *
      generalize per (nthU S k) = p at *
      obtain ⟨m, hm⟩ : ∃ m, now % p = m := ⟨_, rfl⟩
      have qm : (now : Int) % p = (m : Int) := by rw [← hm]; rfl
      rw [hm] at HY HNO hC
      clear hm
      have e1 : ¬ (p : Int) = 0 := by omega
      have e2 : (0 : Int) ≤ now := by omega
      obtain ⟨c', hc'⟩ : ∃ c', cntTo S f now (k + 1) = c' := ⟨_, rfl⟩
      rw [hc'] at hC
      have HC' := Lib.hid hc'
      clear hc'
      generalize f k = y at *
      generalize cntTo S f now k = q at *
      by_cases m0 : m = 0
      · have HRL := Lib.hid (HY.out m0)
        have hst := HBR.out.set k x
        rw [fl_set, ← HRL.out] at hst
        have HST := Lib.hid hst
        have HRS := Lib.hid (HR.out.setCell (p := ⟨g, k, none⟩) rfl (.int .i64 (x : Int)))
        clear hst
        have e4 : ((m : Int) == 0) = true := by simp [m0]
        by_cases y0 : y = 0
        · have HE : Hid (c' = q) := Lib.hid (by rw [hC, if_neg (fun z => by have := z.2; omega)]; rfl)
          have e3 : ¬ (0 : Int) < y := by omega
          clear hC
          go_wp2_with fail
          go_roundw
          case rel => exact ⟨k + 1, by omega, by go_num, by rw [HC'.out, HE.out], HST.out.later ((Only.refl _ _).alloc _), HRS.out.alloc _⟩
          case measure => simp [intOf]; omega
        · have HE : Hid (c' = q + 1) := Lib.hid (by rw [hC, if_pos ⟨m0, by omega⟩])
          have e3 : (0 : Int) < y := by omega
          clear hC
          go_wp2_with fail
          go_roundw
          case rel => exact ⟨k + 1, by omega, by go_num, by rw [HC'.out, HE.out]; go_num, HST.out.later ((Only.refl _ _).alloc _), HRS.out.alloc _⟩
          case measure => simp [intOf]; omega
      · have HRL := Lib.hid (HNO.out m0)
        have HE : Hid (c' = q) := Lib.hid (by rw [hC, if_neg (fun z => m0 z.1)]; rfl)
        have e4 : ((m : Int) == 0) = false := by simp [m0]
        clear hC
        go_wp2_with fail
        go_roundw
        case rel => exact ⟨k + 1, by omega, by go_num, by rw [HC'.out, HE.out], by rw [HRL.out]; exact HBR.out.later ((Only.refl _ _).alloc _), HR.out.alloc _⟩
        case measure => simp [intOf]; omega
    · obtain rfl : k = n := by omega
      go_wp2_with fail
      go_ret
      exact ⟨by rw [HP.out.1]; rfl, by rw [HP.out.2]; exact HBR.out, HR.out⟩
end Go.Proofs.Ytlohjlhopbhnoaa.Ad
