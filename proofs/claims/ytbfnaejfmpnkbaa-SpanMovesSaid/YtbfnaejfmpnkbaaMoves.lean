/- The walk of SpanMoves. -/
import Derived.Test.YtbfnaejfmpnkbaaMovel
namespace Go.Proofs.Ytbfnaejfmpnkbaa
open Go.ChangeShapes Go.WideShapes Go.ChangeAt Go.RowKit
set_option linter.unusedVariables false

/-- A slice of numbers in a block below B. -/
def NumsU (B : Nat) (w : World) (a : Option Addr) (xs : List Int) : Prop := xs.length = 0 ∨ ∃ b off, a = some ⟨b, off, none⟩ ∧ b < B ∧ CellsOf .i64 w b off xs

/-- What is known in the two loops: both trees, and the numbers. -/
structure Two2 (B C : Nat) (a : Option Addr) (xs : List Int) (p q : Nat) (L : List El) (w : World) : Prop where
  one : TreeAt (fun k => B ≤ k ∧ k < C) w p (treeTo xs xs.length)
  two : TreeAt (fun k => C ≤ k) w q L
  nums : NumsU B w a xs
  bc : B ≤ C
  size : C ≤ w.heap.size

theorem Two2.step {B C : Nat} {a : Option Addr} {xs : List Int} {p q : Nat} {L L' : List El} {w w' : World} (h : Two2 B C a xs p q L w) (ht : TreeAt (fun k => C ≤ k ∨ w.heap.size ≤ k) w' q L') (ho : Only (fun k => C ≤ k) w w') :
    Two2 B C a xs p q L' w' := by
  refine ⟨h.one.keep ho (fun k _ e f => by omega), ht.mono (fun k hk => ?_), ?_, h.bc, Nat.le_trans h.size ho.size⟩
  · rcases hk with hk | hk
    · exact hk
    · exact Nat.le_trans h.size hk
  · rcases h.nums with h0 | ⟨b, off, e, hb, hc⟩
    · exact Or.inl h0
    · refine Or.inr ⟨b, off, e, hb, fun j hj => ?_⟩
      have hbl := ho.below (B := B) (Nat.le_trans h.bc h.size) (fun x hx => Nat.le_trans h.bc hx)
      rw [hbl.cell (p := ⟨b, off + j, none⟩) hb]
      exact hc j hj
theorem Two2.later {B C : Nat} {a : Option Addr} {xs : List Int} {p q : Nat} {L : List El} {w w' : World} (h : Two2 B C a xs p q L w) (ho : Only (fun _ => False) w w') : Two2 B C a xs p q L w' :=
  h.step ((h.two.later ho).mono (fun k hk => Or.inl hk)) (ho.mono (fun _ _ e => e.elim))
theorem Two2.below {B C : Nat} {a : Option Addr} {xs : List Int} {p q : Nat} {L : List El} {w w' : World} (h : Two2 B C a xs p q L w) (ho : Only (fun k => C ≤ k) w w') : Below B w w' := ho.below (Nat.le_trans h.bc h.size) (fun x hx => Nat.le_trans h.bc hx)
theorem Two2.cell {B C : Nat} {xs : List Int} {p q b off : Nat} {L : List El} {w : World} (h : Two2 B C (some ⟨b, off, none⟩) xs p q L w) {i : Nat} (hi : i < xs.length) : w.cell? ⟨b, off + i, none⟩ = some (.int .i64 (num xs i)) := by
  rcases h.nums with h0 | ⟨b', off', e, hb, hc⟩
  · omega
  · cases e; exact hc i hi
theorem Two2.addr {B C : Nat} {a : Option Addr} {xs : List Int} {p q : Nat} {L : List El} {w : World} (h : Two2 B C a xs p q L w) (hx : 0 < xs.length) : ∃ b off, a = some ⟨b, off, none⟩ := by
  rcases h.nums with h0 | ⟨b, off, e, hb, hc⟩
  · omega
  · exact ⟨b, off, e⟩

theorem TreeAt.drewT {M : Nat → Prop} {w : World} {p : Nat} {L : List El} (h : TreeAt M w p L) : TreeAt M w.drew p L := h.later ((Only.refl _ w).drew)

theorem moves_pm {n t j : Nat} (h : 0 < n) : ((j : Int) + t) % (n : Int) = ((pm n t j : Nat) : Int) := by
  unfold pm; rw [Int.natCast_emod]; rfl

set_option maxRecDepth 100000 in
set_option maxHeartbeats 2000000 in
theorem moves_start (a : Option Addr) (len cap : Nat) (zs : List Int) (turn key id n : Int) (w : World) (h : IsRow .i64 w a len cap zs) (hn : (Lit.int .i64 n).wf = true) :
    Calls Try.prog 6 #[.slice a len cap, .int .i64 turn, .int .i64 key, .int .i64 id, .int .i64 n] w fun e w' => e = .returned (.bool true) ∧ Below w.heap.size w w' := by
  obtain ⟨xs, hxl, hx, -, hc1, hc2, hc3, hc4, hc5⟩ := nums_cut h 100
  have HX := Lib.hid hx
  have HXL := Lib.hid hxl
  have HNW := Lib.hid hn
  unfold maxLen at hc3
  have hx2 : xs.length ≤ 100 := by omega
  clear h hx hc4 hxl hn
  go_enter Try.func6, Try.ntmps6
  go_upto_region 4 with (first
    | (go_at_call 18; (with_reducible refine (tree_any _ 2 2 [5, 3] _ (nums_two w) (by decide)).mono ?_); rintro e w1 ⟨q, rfl, ht, hb⟩; have HT := Lib.hid ht; have HB := Lib.hid ((below_two w).trans (hb.mono (by simp))); clear ht hb)
    | (go_at_call 19; go_must (refine (tlen_is HT.out len_two).mono ?_); rintro e w2 ⟨rfl, rfl⟩))
  go_cut [0, 1, 2, 3, 4] (fun s0 s1 s2 s3 s4 wx => s0 = .slice a xs.length cap ∧ s1 = .int .i64 turn ∧ s2 = .int .i64 key ∧ s3 = .int .i64 id ∧ s4 = .int .i64 n ∧ wx = w1)
  case first =>
    have HE := HXL.out
    rcases Nat.lt_or_ge 100 len with h200 | h200
    rotate_left
    · have h201 : (len : Int) ≤ 100 := by omega
      rw [Nat.min_eq_left (by omega)] at HE
      clear HX HXL
      have HE := Lib.hid HE
      go_wp2
      go_meet
      exact ⟨by rw [HE.out], rfl, rfl, rfl, rfl, rfl⟩
    · have h201 : (100 : Int) < len := by omega
      rw [Nat.min_eq_right (by omega)] at HE
      clear HX HXL
      have HE := Lib.hid HE
      go_wp2
      go_meet
      exact ⟨by rw [HE.out], rfl, rfl, rfl, rfl, rfl⟩
  case rest =>
    obtain ⟨rfl, rfl, rfl, rfl, rfl, rfl⟩ := hcut
    have HN : Hid (Nums wc a xs.length xs) := Lib.hid (by have := HX.out.later HB.out; rwa [this.1] at this)
    have HN0 : Hid (NumsU w.heap.size w a xs) := Lib.hid (by
      rcases HX.out.2 with h0 | ⟨b, off, e, hb, hc⟩
      · exact Or.inl (by rw [HXL.out]; exact h0)
      · exact Or.inr ⟨b, off, e, hb, hc⟩)
    clear HX HXL hc1 hc2
    have r0 := restOf_lo turn (xs.length + 1) (by omega)
    have r1 := restOf_hi turn (xs.length + 1) (by omega)
    obtain ⟨t, htt⟩ := Int.eq_ofNat_of_zero_le r0
    rw [htt] at r0 r1
    have HTT := Lib.hid htt
    have t1 : t ≤ xs.length := by omega
    clear htt
    have HU : Hid (NumsU w.heap.size wc a xs) := Lib.hid (by
      rcases HN0.out with h0 | ⟨b, off, e, hb, hc⟩
      · exact Or.inl h0
      · exact Or.inr ⟨b, off, e, hb, fun j hj => by rw [HB.out.cell (p := ⟨b, off + j, none⟩) hb]; exact hc j hj⟩)
    clear HN0
    go_wp2_with (first
      | (go_at_call 18; go_must (have hc := tree_any _ _ cap xs _ HN.out (by omega)); (with_reducible refine hc.mono ?_); clear hc; rintro e w3 ⟨p, rfl, ht, hb⟩; have HT3 := Lib.hid ht.there; have HO3 := Lib.hid hb; have HS3 := Lib.hid HB.out.size; clear ht hb)
      | (go_at_call 9; go_must (refine (tnew _).mono ?_); rintro e w4 ⟨q, rfl, ht, ho⟩; have HW : Hid (Two2 w.heap.size w3.heap.size a xs p q [] w4) := (Lib.hid ⟨(HT3.out.mono (fun k hk => ⟨Nat.le_trans HS3.out hk.1, hk.2⟩)).keep ho (fun _ _ _ e => e), ht, (by rcases HU.out with h0 | ⟨b, off, e, hb, hc⟩; exact Or.inl h0; exact Or.inr ⟨b, off, e, hb, fun j hj => by rw [(ho.below (B := w3.heap.size) (Nat.le_refl _) (fun _ e => e.elim)).cell (p := ⟨b, off + j, none⟩) (Nat.lt_of_lt_of_le hb (Nat.le_trans HS3.out HO3.out.size)), HO3.out.cell (p := ⟨b, off + j, none⟩) (Nat.lt_of_lt_of_le hb HS3.out)]; exact hc j hj⟩), Nat.le_trans HS3.out HO3.out.size, ho.size⟩); have HB4 := Lib.hid ((HB.out.trans (HO3.out.mono HS3.out)).trans (ho.below (B := w.heap.size) (Nat.le_trans HS3.out HO3.out.size) (fun _ e => e.elim))); clear ht ho)
      | (go_at_call 21; go_must (refine (rest_is _ (by omega) (by omega) _).mono ?_); rintro e w5 ⟨rfl, rfl⟩; rw [HTT.out]))
    generalize w3.heap.size = C at *
    clear HT3 HO3 HS3 HU HN
    go_loopw [71] (fun s wr => ∃ (j : Nat) (L : List El), s = .int .i64 j ∧ j ≤ xs.length ∧ InA xs t j L ∧ Two2 w.heap.size C a xs p q L wr ∧ Below w.heap.size w wr) (fun s _ => xs.length - (intOf s).toNat)
    case atStart => exact ⟨0, [], rfl, Nat.zero_le _, ⟨by simp, fun x => by simp⟩, HW.out, HB4.out⟩
    case round =>
      obtain ⟨j, L, rfl, hj, ha, hw, hb⟩ := hrel
      have HA := Lib.hid ha
      have HW5 := Lib.hid hw
      have HB5 := Lib.hid hb
      clear ha hw hb HW HB4
      by_cases hlt : j < xs.length
      · obtain ⟨b, off, rfl⟩ := HW5.out.addr (by omega)
        have hpm := pm_lt (n := xs.length) (t := t) (j := j) (by omega)
        have HPM := Lib.hid (moves_pm (n := xs.length) (t := t) (j := j) (by omega))
        have jl : (j : Int) < xs.length := by omega
        go_upto_region 14 with fail
        rw [HPM.out]
        clear HPM
        generalize hi : pm xs.length t j = i at *
        have HI := Lib.hid hi
        clear hi
        have i0 : (0 : Int) ≤ i := by omega
        have i1 : (i : Int) < xs.length := by omega
        generalize hv : num xs i = v at *
        have HV := Lib.hid hv
        clear hv
        have q0 := restOf_lo v 100 (by decide)
        have q1 := restOf_hi v 100 (by decide)
        have HE1 : Hid (ex i = ⟨500, i, 7⟩) := Lib.hid rfl
        have HE2 : Hid (elAt xs i = ⟨restOf v 20, i, restOf v 100⟩) := Lib.hid (by rw [← HV.out]; rfl)
        go_cut [71, 99] (fun s71 s99 wx => s71 = .int .i64 j ∧ s99 = .bool false ∧ Two2 w.heap.size C (some ⟨b, off, none⟩) xs p q (put (elAt xs i) (put (ex i) L)) wx ∧ Below w.heap.size w wx)
        case first =>
          have hc0 : wr.drew.cell? ⟨b, off + i, none⟩ = some (.int .i64 v) := by rw [← HV.out]; exact HW5.out.cell (by omega)
          go_region_held3 (fun w' => w'.cell? ⟨b, off + i, none⟩ = some (.int .i64 v)) (first | (with_reducible exact hcl8) | (with_reducible exact hcl) | (with_reducible exact hc0)) (first
            | (go_at_call 10; go_must (have hc := tput HW5.out.two.drewT (k := 500) (i := i) (v := 7) (by have := a_new HA.out hlt; rw [HI.out] at this; exact this) (by decide) (by decide) (by have := HA.out.1; omega)); (with_reducible refine hc.mono ?_); clear hc; rintro e w6 ⟨rfl, ht, ho⟩; have HW6 := Lib.hid (Two2.step (HW5.out.later ((Only.refl _ wr).drew)) ht ho); have HB6 := Lib.hid ((HB5.out.drew).trans ((HW5.out.later ((Only.refl _ wr).drew)).below ho)); have hcl := HW6.out.cell (i := i) (by omega); rw [HV.out] at hcl; clear ht ho)
            | (go_at_call 21; go_must (refine (rest_is _ (by decide) (by decide) _).mono ?_); rintro e w7 ⟨rfl, rfl⟩)
            | (go_at_call 10; go_must (have hc := tput HW6.out.two (k := restOf v 20) (i := i) (v := restOf v 100) (by have := a_new2 HA.out hlt; rw [HI.out, HE2.out] at this; exact this) q0 (by omega) (by rw [put_len]; have := HA.out.1; omega)); (with_reducible refine hc.mono ?_); clear hc; rintro e w8 ⟨rfl, ht, ho⟩; have HW8 := Lib.hid (Two2.step HW6.out ht ho); have HB8 := Lib.hid (HB6.out.trans (HW6.out.below ho)); have hcl8 := HW8.out.cell (i := i) (by omega); rw [HV.out] at hcl8; clear ht ho))
          go_wp2
          go_meet
          exact ⟨rfl, rfl, by rw [HE2.out, HE1.out]; exact HW8.out, HB8.out⟩
        case rest =>
          obtain ⟨rfl, rfl, hw, hb⟩ := hcut
          have HW9 := Lib.hid hw
          have HB9 := Lib.hid hb
          clear hw hb
          rcases Nat.mod_two_eq_zero_or_one j with hp | hp
          · have HP := Lib.hid hp
            have hp2 : ((j : Int) % 2 == 1) = false := by
              have : (j : Int) % 2 = 0 := by omega
              rw [this]; rfl
            clear hp
            go_wp2
            go_roundw
            case rel => exact ⟨j + 1, _, by go_num, by omega, by have := a_even HA.out HP.out; rw [HI.out] at this; exact this, HW9.out, HB9.out⟩
            case measure => simp [intOf]; omega
          · have HP := Lib.hid hp
            have hp2 : ((j : Int) % 2 == 1) = true := by
              have : (j : Int) % 2 = 1 := by omega
              rw [this]; rfl
            clear hp
            go_wp2_with (go_at_call 15; go_must (have hc : Calls Try.prog 15 #[.pointer (some ⟨q, 0, none⟩), .int .i64 500, .int .i64 i] wc (TAns (fun k => C ≤ k) wc q (.tuple #[.int .i64 7, .int .i64 0]) (cut 500 i (put (elAt xs i) (put (ex i) L)))) := tout HW9.out.two (x := ex i) (put_mem.2 (Or.inr (put_mem.2 (Or.inl rfl))))); (with_reducible refine hc.mono ?_); clear hc; rintro e w10 ⟨rfl, ht, ho⟩; have HW10 := Lib.hid (Two2.step HW9.out ht ho); have HB10 := Lib.hid (HB9.out.trans (HW9.out.below ho)); clear ht ho)
            go_roundw
            case rel => exact ⟨j + 1, _, by go_num, by omega, by have := a_odd HA.out (by omega) HP.out (by rw [HI.out]; exact HW9.out.two.sorted); rw [HI.out] at this; exact this, HW10.out, HB10.out⟩
            case measure => simp [intOf]; omega
      · have e : j = xs.length := by omega
        subst e
        have HB0 := Lib.hid (b_of_a HA.out t1)
        go_wp2_with fail
        go_loopw [118] (fun s wr => ∃ (j : Nat) (L : List El), s = .int .i64 j ∧ j ≤ xs.length ∧ InB xs t j L ∧ Two2 w.heap.size C a xs p q L wr ∧ Below w.heap.size w wr) (fun s _ => xs.length - (intOf s).toNat)
        case atStart => exact ⟨0, L, rfl, Nat.zero_le _, HB0.out, HW5.out, HB5.out⟩
        case round =>
          obtain ⟨j, L2, rfl, hj, ha, hw, hb⟩ := hrel
          have HA6 := Lib.hid ha
          have HW6 := Lib.hid hw
          have HB6 := Lib.hid hb
          clear ha hw hb HW5 HB5 HA HB0
          by_cases hlt2 : j < xs.length
          · have hpm := pm_lt (n := xs.length) (t := t) (j := j) (by omega)
            have HPM := Lib.hid (moves_pm (n := xs.length) (t := t) (j := j) (by omega))
            have jl : (j : Int) < xs.length := by omega
            rcases Nat.mod_two_eq_zero_or_one j with hp | hp
            · have HP := Lib.hid hp
              have hp2 : ((j : Int) % 2 == 0) = true := by
                have : (j : Int) % 2 = 0 := by omega
                rw [this]; rfl
              clear hp
              go_wp2_with fail
              rw [HPM.out]
              clear HPM
              go_wp2_with (go_at_call 15; go_must (have hc : Calls Try.prog 15 #[.pointer (some ⟨q, 0, none⟩), .int .i64 500, .int .i64 (pm xs.length t j : Nat)] wr (TAns (fun k => C ≤ k) wr q (.tuple #[.int .i64 7, .int .i64 0]) (cut 500 (pm xs.length t j : Nat) L2)) := tout HW6.out.two (x := ex (pm xs.length t j)) (b_there HA6.out hlt2 HP.out)); (with_reducible refine hc.mono ?_); clear hc; rintro e w10 ⟨rfl, ht, ho⟩; have HW10 := Lib.hid (Two2.step HW6.out ht ho); have HB10 := Lib.hid (HB6.out.trans (HW6.out.below ho)); clear ht ho)
              go_roundw
              case rel => exact ⟨j + 1, _, by go_num, by omega, b_even HA6.out hlt2 HW6.out.two.sorted, HW10.out, HB10.out⟩
              case measure => simp [intOf]; omega
            · have HP := Lib.hid hp
              have hp2 : ((j : Int) % 2 == 0) = false := by
                have : (j : Int) % 2 = 1 := by omega
                rw [this]; rfl
              clear hp
              go_wp2
              go_roundw
              case rel => exact ⟨j + 1, _, by go_num, by omega, b_odd HA6.out HP.out, HW6.out, HB6.out⟩
              case measure => simp [intOf]; omega
          · have e : j = xs.length := by omega
            subst e
            have hE := b_end HA6.out HW6.out.two.sorted HW6.out.one.sorted
            clear HA6
            have HL2 := Lib.hid hE
            clear hE
            obtain ⟨a1, a2, a3, a4, ht, -⟩ := tells_of (nextL (treeTo xs xs.length) key id)
            obtain ⟨c1, c2, c3, c4, hu, -⟩ := tells_of (atL (treeTo xs xs.length) n)
            obtain ⟨av, hav⟩ : ∃ v, aheadL (treeTo xs xs.length) key id = v := ⟨_, rfl⟩
            obtain ⟨sv, hsv⟩ : ∃ v, wts (treeTo xs xs.length) = v := ⟨_, rfl⟩
            have HLEN : Hid ((treeTo xs xs.length).length = xs.length) := Lib.hid (treeTo_len _ _)
            have T1 := Lib.hid ht
            have T2 := Lib.hid hu
            have T3 := Lib.hid hav
            have T4 := Lib.hid hsv
            clear ht hu hav hsv
            have HW6 : Hid (Two2 w.heap.size C a xs p q (treeTo xs xs.length) wr) := Lib.hid (by rw [← HL2.out]; exact HW6.out)
            go_wp2_with (first
              | (go_at_call_of 23 p; go_must (refine (tnext HW6.out.one key id).mono ?_); rintro e w7 ⟨rfl, ho⟩; rw [T1.out]; have HW7 := Lib.hid (HW6.out.later ho); have HB7 := Lib.hid (HB6.out.trans (HW6.out.below (ho.mono (fun _ _ e => e.elim)))); clear ho)
              | (go_at_call_of 23 q; go_must (refine (tnext HW7.out.two key id).mono ?_); rintro e w8 ⟨rfl, ho⟩; rw [T1.out]; have HW8 := Lib.hid (HW7.out.later ho); have HB8 := Lib.hid (HB7.out.trans (HW7.out.below (ho.mono (fun _ _ e => e.elim)))); clear ho)
              | (go_at_call_of 24 p; go_must (refine (tat HW8.out.one HNW.out).mono ?_); rintro e w9 ⟨rfl, ho⟩; rw [T2.out]; have HW9 := Lib.hid (HW8.out.later ho); have HB9 := Lib.hid (HB8.out.trans (HW8.out.below (ho.mono (fun _ _ e => e.elim)))); clear ho)
              | (go_at_call_of 24 q; go_must (refine (tat HW9.out.two HNW.out).mono ?_); rintro e w10 ⟨rfl, ho⟩; rw [T2.out]; have HW10 := Lib.hid (HW9.out.later ho); have HB10 := Lib.hid (HB9.out.trans (HW9.out.below (ho.mono (fun _ _ e => e.elim)))); clear ho)
              | (go_at_call_of 19 p; go_must (refine (tlen_is HW10.out.one HLEN.out).mono ?_); rintro e w12 ⟨rfl, rfl⟩)
              | (go_at_call_of 19 q; go_must (refine (tlen_is HW10.out.two HLEN.out).mono ?_); rintro e w12 ⟨rfl, rfl⟩)
              | (go_at_call_of 11 p; go_must (refine (tsum_is HW10.out.one T4.out).mono ?_); rintro e w12 ⟨rfl, rfl⟩)
              | (go_at_call_of 11 q; go_must (refine (tsum_is HW10.out.two T4.out).mono ?_); rintro e w12 ⟨rfl, rfl⟩)
              | (go_at_call_of 22 p; go_must (refine (tahead_is HW10.out.one T3.out).mono ?_); rintro e w11 ⟨rfl, ho⟩; have HW11 := Lib.hid (HW10.out.later ho); have HB11 := Lib.hid (HB10.out.trans (HW10.out.below (ho.mono (fun _ _ e => e.elim)))); clear ho)
              | (go_at_call_of 22 q; go_must (refine (tahead_is HW11.out.two T3.out).mono ?_); rintro e w12 ⟨rfl, ho⟩; have HW12 := Lib.hid (HW11.out.later ho); have HB12 := Lib.hid (HB11.out.trans (HW11.out.below (ho.mono (fun _ _ e => e.elim)))); clear ho))
            go_ret
            exact ⟨rfl, HB12.out⟩
end Go.Proofs.Ytbfnaejfmpnkbaa
