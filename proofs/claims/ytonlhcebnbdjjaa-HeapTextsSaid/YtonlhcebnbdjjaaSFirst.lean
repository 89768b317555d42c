/- The contract of first: where the first of some pairs is. -/
import Derived.Test.YtonlhcebnbdjjaaSPairs
namespace Go.Proofs.Ytonlhcebnbdjjaa.S
open Go.ChangeShapes Go.WideShapes Go.ChangeAt Go.RowKit Go.Maps
set_option linter.unusedVariables false

/-- Where the first of some items is; -1: there is none. -/
def FirstAt (S : List (Int × ByteArray)) (r : Int) : Prop := (r = -1 ∧ S = []) ∨ ∃ i : Nat, r = i ∧ i < S.length ∧ Least S (it S i)

def FirstAns (S : List (Int × ByteArray)) (w : World) (e : Ending) (w' : World) : Prop := ∃ r, e = .returned (.int .i64 r) ∧ FirstAt S r ∧ Below w.heap.size w w'

/-- Place m holds the first of the items ahead of place j. -/
def Best1 (S : List (Int × ByteArray)) (m j : Nat) : Prop := m < j ∧ ∀ k, k < j → prec (it S k) (it S m) = false

theorem best1_keep {S : List (Int × ByteArray)} {m j : Nat} (h : Best1 S m j) (hp : prec (it S j) (it S m) = false) : Best1 S m (j + 1) := by
  refine ⟨by have := h.1; omega, fun k hk => ?_⟩
  by_cases e : k = j
  · subst e; exact hp
  · exact h.2 k (by omega)

theorem best1_turn {S : List (Int × ByteArray)} {m j : Nat} (h : Best1 S m j) (hp : prec (it S j) (it S m) = true) : Best1 S j (j + 1) := by
  refine ⟨by omega, fun k hk => ?_⟩
  by_cases e : k = j
  · subst e; exact prec_irrefl _
  · exact le_trans' (prec_asymm hp) (h.2 k (by omega))

theorem best1_all {S : List (Int × ByteArray)} {m : Nat} (h : Best1 S m S.length) : Least S (it S m) := by
  refine ⟨it_mem h.1, fun x hx => ?_⟩
  obtain ⟨k, hk, rfl⟩ := List.getElem_of_mem hx
  rw [← it_eq hk]; exact h.2 k hk

theorem below_box {b : Nat} (w : World) (o : Obj) (h : b ≤ w.heap.size) : Below b w (w.alloc o) := (Below.refl b w).alloc h o

theorem below_drewN {b : Nat} {w w' : World} (h : Below b w w') (n : Nat) : Below b w (w'.drewN n) := ⟨h.os, h.tape, h.output, h.size, h.block⟩

set_option maxRecDepth 100000 in
set_option maxHeartbeats 1000000 in
theorem first_any (lo : Nat) (V : Value) (S : List (Int × ByteArray)) (w : World) (h : PairsAt w lo V S) :
    Calls Try.prog 39 #[V] w (FirstAns S w) := by
  rcases h.cases with ⟨rfl, rfl⟩ | ⟨g, cap, rfl, -, hcap, hmx, ⟨cur, hcur⟩, hc⟩
  · go_enter Try.func39, Try.ntmps39
    go_wp2
    refine wp_loop_rounds 1 ?_
    rw [rounds_succ]
    go_wp2
    go_ret
    exact ⟨-1, rfl, Or.inl ⟨rfl, rfl⟩, Below.refl _ _⟩
  · have HC := Lib.hid hc
    have hgl := block_there hcur
    clear h hc hcur
    have hlen : S.length ≤ 9223372036854775807 := by omega
    go_enter Try.func39, Try.ntmps39
    go_wp2_with fail
    go_loopw [3, 8] (fun bv v wr => ∃ j : Nat, v = .int .i64 j ∧ j ≤ S.length ∧ ((j = 0 ∧ bv = .int .i64 (-1)) ∨ ∃ m : Nat, bv = .int .i64 m ∧ Best1 S m j) ∧ Below w.heap.size w wr) (fun _ v _ => S.length - (intOf v).toNat)
    case atStart => exact ⟨0, rfl, Nat.zero_le _, Or.inl ⟨rfl, rfl⟩, Below.refl _ _⟩
    case round =>
      obtain ⟨j, rfl, hj, hbv, hb⟩ := hrel
      have HB := Lib.hid hb
      clear hb
      by_cases hjn : j < S.length
      · have g1 : (j : Int) < S.length := by omega
        have g2 : (0 : Int) ≤ j := by omega
        have x0 := (HB.out.cell (p := ⟨g, j * 2, none⟩) hgl).trans (HC.out j hjn).1
        have x1 := (HB.out.cell (p := ⟨g, j * 2 + 1, none⟩) hgl).trans (HC.out j hjn).2
        have HBN := Lib.hid (HB.out.trans (below_box wr (.cells #[.int .i64 (it S j).1, .string (it S j).2] 73) HB.out.size))
        rcases hbv with ⟨h0, rfl⟩ | ⟨m, rfl, hm⟩
        · have H0 := Lib.hid h0
          clear h0
          go_upto_region 5 with fail
          go_quiet (fail)
          go_wp2_with fail
          go_roundw
          case rel => exact ⟨j + 1, by go_num, by omega, Or.inr ⟨j, rfl, by have := H0.out; omega, fun k hk => by
            have h1 := H0.out
            have h2 : k = j := by omega
            rw [h2]; exact prec_irrefl _⟩, below_drewN HBN.out _⟩
          case measure => simp [intOf]; omega
        · have HM := Lib.hid hm
          have hmj := hm.1
          have y0 := (HB.out.cell (p := ⟨g, m * 2, none⟩) hgl).trans (HC.out m (by omega)).1
          have y1 := (HB.out.cell (p := ⟨g, m * 2 + 1, none⟩) hgl).trans (HC.out m (by omega)).2
          have hgw : g < wr.heap.size := Nat.lt_of_lt_of_le hgl HB.out.size
          have g3 : (m : Int) < S.length := by omega
          have g4 : (0 : Int) ≤ m := by omega
          have g5 : decide ((m : Int) < 0) = false := by simp
          clear hm
          rcases three (it S j).2 (it S m).2 with hk | hk | hk
          · have g6 : Op.bytesLess (it S j).2.toList (it S m).2.toList = true := hk
            have HP : Hid (prec (it S j) (it S m) = true) := Lib.hid (prec_iff.2 (Or.inl hk))
            clear hk
            go_upto_region 5 with fail
            go_quiet (fail)
            go_wp2_with fail
            go_roundw
            case rel => exact ⟨j + 1, by go_num, by omega, Or.inr ⟨j, rfl, best1_turn HM.out HP.out⟩, below_drewN HBN.out _⟩
            case measure => simp [intOf]; omega
          · have g6 : Op.bytesLess (it S j).2.toList (it S m).2.toList = false := by rw [hk]; exact bl_irrefl _
            have g7 : ((it S j).2.toList == (it S m).2.toList) = true := by rw [hk]; simp
            have HK := Lib.hid hk
            clear hk
            by_cases hk3 : (it S j).1 < (it S m).1
            · have HP : Hid (prec (it S j) (it S m) = true) := Lib.hid (prec_iff.2 (Or.inr ⟨HK.out, hk3⟩))
              go_upto_region 5 with fail
              go_quiet (fail)
              go_wp2_with fail
              go_roundw
              case rel => exact ⟨j + 1, by go_num, by omega, Or.inr ⟨j, rfl, best1_turn HM.out HP.out⟩, below_drewN HBN.out _⟩
              case measure => simp [intOf]; omega
            · have g8 : decide ((it S j).1 < (it S m).1) = false := by simpa using hk3
              have HP : Hid (prec (it S j) (it S m) = false) := Lib.hid (by
                cases h : prec (it S j) (it S m) with
                | false => rfl
                | true =>
                  rcases prec_iff.1 h with g | g
                  · exact absurd HK.out (sless_ne g)
                  · exact absurd g.2 hk3)
              go_upto_region 5 with fail
              go_quiet (fail)
              go_wp2_with fail
              go_roundw
              case rel => exact ⟨j + 1, by go_num, by omega, Or.inr ⟨m, rfl, best1_keep HM.out HP.out⟩, below_drewN HBN.out _⟩
              case measure => simp [intOf]; omega
          · have g6 : Op.bytesLess (it S j).2.toList (it S m).2.toList = false := sless_asymm hk
            have g7 : ((it S j).2.toList == (it S m).2.toList) = false := by simpa using fun e => sless_ne hk (list_inj e).symm
            have HP : Hid (prec (it S j) (it S m) = false) := Lib.hid (prec_asymm (prec_iff.2 (Or.inl hk)))
            clear hk
            go_upto_region 5 with fail
            go_quiet (fail)
            go_wp2_with fail
            go_roundw
            case rel => exact ⟨j + 1, by go_num, by omega, Or.inr ⟨m, rfl, best1_keep HM.out HP.out⟩, below_drewN HBN.out _⟩
            case measure => simp [intOf]; omega
      · have e : j = S.length := by omega
        subst e
        rcases hbv with ⟨h0, rfl⟩ | ⟨m, rfl, hm⟩
        · go_wp2_with fail
          go_ret
          exact ⟨-1, rfl, Or.inl ⟨rfl, List.eq_nil_of_length_eq_zero h0⟩, HB.out⟩
        · have HM := Lib.hid hm
          clear hm
          go_wp2_with fail
          go_ret
          exact ⟨m, rfl, Or.inr ⟨m, rfl, HM.out.1, best1_all HM.out⟩, HB.out⟩
end Go.Proofs.Ytonlhcebnbdjjaa.S
