/- The walk of DeadBudget. -/
import Derived.Test.YtijpiloljgpnkaaDTwo
import Derived.Test.YtijpiloljgpnkaaDFirst
import Derived.Test.YtijpiloljgpnkaaOne
namespace Go.Proofs.Ytijpiloljgpnkaa.De
open Go.ChangeShapes Go.WideShapes Go.ChangeAt Go.RowKit Go.Maps
set_option linter.unusedVariables false

/-- Nothing of w0 has changed, and there is room for blocks from B on. -/
def Grew (w0 : World) (B : Nat) (wr : World) : Prop := Only (fun _ => False) w0 wr ∧ B ≤ wr.heap.size
theorem Grew.new {w0 a c : World} {B p : Nat} (h : Grew w0 B a) (k : Only (fun k => k = p) a c) (hp : w0.heap.size ≤ p) : Grew w0 B c := ⟨only_new h.1 k hp, Nat.le_trans h.2 k.size⟩
theorem Grew.later {w0 a c : World} {B : Nat} (h : Grew w0 B a) (k : Only (fun _ => False) a c) : Grew w0 B c := ⟨only_trans h.1 k, Nat.le_trans h.2 k.size⟩

theorem Grew.app {w0 a c : World} {B : Nat} {o : Obj} {v : Value} {gs : List Int} (h : Grew w0 B a) (k : Only (fun k => v.ownBlock = some k) (a.alloc o) c) (hI : Ints a B v gs) (hB : w0.heap.size ≤ B) : Grew w0 B c := by
  have h2 := h.later ((Only.refl (fun _ => False) a).alloc o)
  exact ⟨h2.1.trans k (fun x hx e => by have := (hI.block e).1; omega), Nat.le_trans h2.2 k.size⟩
theorem Grew.set {w0 a : World} {B g j : Nat} {u : Value} (h : Grew w0 B a) (hg : B ≤ g) (hB : w0.heap.size ≤ B) : Grew w0 B (a.setCell ⟨g, j, none⟩ u) :=
  h.new (only_set1 (Only.refl _ a) j u) (Nat.le_trans hB hg)

theorem ints_cap {w : World} {base g n c : Nat} {xs : List Int} (h : Ints w base (.slice (some ⟨g, 0, none⟩) n c) xs) : n ≤ c := by
  obtain ⟨h1, h2⟩ := h
  rcases h2 with ⟨e, _⟩ | ⟨g', cap, cur, e, hb, hg, r1, r2, r3, r4⟩
  · cases e
  · cases e; exact r1

/-- Ahead of a tick. -/
def MidB (w0 : World) (B pd : Nat) (v : Value) (q p : Int) (j : Nat) (gs : List Int) (wx : World) : Prop :=
  ∃ (l d : Int) (r : Bool) (m e : Int), DeadAt wx pd (st q p l d r m e) j ∧ SInvT q p j l d r m e gs ∧ Ints wx B v gs ∧ Grew w0 B wx

theorem from_take (gs : List Int) (j z : Nat) (h : j + z < gs.length) : ((gs.drop j).take (z + 1)).sum = ((gs.drop j).take z).sum + gs.getD (j + z) 0 := by
  rw [List.take_add_one, List.sum_append]
  congr 1
  rw [List.getElem?_drop, List.getElem?_eq_getElem h, List.getD, List.getElem?_eq_getElem h]
  simp
theorem from_all (gs : List Int) (j z : Nat) (h : gs.length = j + z) : ((gs.drop j).take z).sum = from_ gs j := by
  unfold from_; rw [List.take_of_length_le (by rw [List.length_drop]; omega)]
theorem take_bd {gs : List Int} (h : ∀ x ∈ gs, 0 ≤ x ∧ x ≤ 1) (j z : Nat) : 0 ≤ ((gs.drop j).take z).sum ∧ ((gs.drop j).take z).sum ≤ z := by
  have := sum_le (gs := (gs.drop j).take z) (fun x hx => h x (List.mem_of_mem_drop (List.mem_of_mem_take hx)))
  rw [List.length_take] at this
  omega
theorem snoc_set (gs : List Int) (x y : Int) : (gs ++ [x]).set gs.length y = gs ++ [y] := by simp
theorem getD_bd {gs : List Int} (h : ∀ x ∈ gs, 0 ≤ x ∧ x ≤ 1) (j : Nat) : 0 ≤ gs.getD j 0 ∧ gs.getD j 0 ≤ 1 := by
  by_cases hj : j < gs.length
  · have : gs.getD j 0 = gs[j] := by simp [List.getD, hj]
    rw [this]; exact h _ (List.getElem_mem hj)
  · have : gs.getD j 0 = 0 := by simp [List.getD, List.getElem?_eq_none (show gs.length ≤ j by omega)]
    rw [this]; omega

section
variable {q p l d m e l' d' n : Int} {r : Bool}
theorem st_block : upd (st q p l d r m e) 1 (slept (st q p l d r m e 1)) = st q p l d false m e := two_upd1
theorem st_wake (h : woke ⟨q, p, l, d, false, l == 0⟩ n = ⟨q, p, l', d', true, l' == 0⟩) : upd (st q p l d false m e) 1 (woke (st q p l d false m e 1) n) = st q p l' d' true m e := by
  show upd (two _ _) 1 (woke ⟨q, p, l, d, false, l == 0⟩ n) = _
  rw [h, two_upd1]; rfl
end

set_option maxHeartbeats 1000000 in
set_option maxRecDepth 100000 in
theorem dbudget_any (a1 a2 : Int) (a : Option Addr) (len cap : Nat) (zs : List Int) (w : World) (hr : IsRow .i64 w a len cap zs) :
    Calls Try.prog 4 #[.int .i64 a1, .int .i64 a2, .slice a len cap] w (fun e w' => e = .returned (.bool true) ∧ Below w.heap.size w w') := by
  obtain ⟨ys, hy1, hy2, hy3, hy4⟩ := nums_cut hr 200
  obtain ⟨k, hk⟩ : ∃ k, min len 200 = k := ⟨_, rfl⟩
  rw [hk] at hy1
  rw [hy1] at hy2
  have hk1 : k ≤ 200 := by omega
  have hk2 : k ≤ len := by omega
  have q2 := run_min2 (len : Int) 200 k (by omega)
  have HY := Lib.hid hy2
  have HM := Lib.hid hy1
  have C30 := Lib.hid (fun k w => rest_some k 30 (by omega) (by omega) w)
  clear hr hy1 hy2 hk
  go_enter Try.func4, Try.ntmps4
  go_upto_region 5 with (first
    | (go_at_call 26; (with_reducible refine (begun_any _).mono ?_); rintro e w1 ⟨rfl, hO⟩; have HO := Lib.hid hO; clear hO)
    | (go_at_call 27; (with_reducible refine (C30.out _ _).mono ?_); rintro e w' ⟨r1, rfl, hr1, rfl⟩; have CP := Lib.hid (fun k w => rest_some k (1 + (r1 : Int)) (by omega) (by omega) w))
    | (go_at_call 27; (with_reducible refine (CP.out _ _).mono ?_); rintro e w' ⟨r2, rfl, hr2, rfl⟩))
  obtain ⟨p, hp⟩ : ∃ p : Int, 1 + (r1 : Int) = p := ⟨_, rfl⟩
  obtain ⟨q, hq⟩ : ∃ q : Int, 1 + (r2 : Int) = q := ⟨_, rfl⟩
  rw [hp, hq]
  have p1 : 1 ≤ p ∧ p ≤ 30 := by omega
  have qq : 1 ≤ q ∧ q ≤ p := by omega
  have P1 := Lib.hid p1
  have QQ := Lib.hid qq
  clear CP C30 hp hq hr1 hr2
  have A1 := Lib.hid (fun wx px (hx : DeadAt wx px noT 0) => add_is hx 1 1 q p rfl ⟨by omega, by omega, by omega, by omega, by omega, by omega⟩ rfl (by omega) (by omega))
  have A2 := Lib.hid (fun wx px (hx : DeadAt wx px (upd noT 1 (came q p 0)) 0) => add_is hx 2 2 1 30 rfl ⟨by omega, by omega, by omega, by omega, by omega, by omega⟩ rfl (by omega) (by omega))
  go_upto_region 8 with (first
    | (go_at_call 8; (with_reducible refine (new_any _).mono ?_); rintro e w4 ⟨pd, rfl, hp, hF, hO⟩; have HF := Lib.hid hF; have HO4 := Lib.hid (only_trans HO.out hO); have HP := Lib.hid (Nat.le_trans HO.out.size hp); clear hF hO hp)
    | (go_at_call 9; (with_reducible refine (A1.out _ _ HF.out).mono ?_); rintro e w5 ⟨rfl, hF, hO⟩; have HF5 := Lib.hid hF; have HO5 := Lib.hid (only_new HO4.out hO HP.out); clear hF hO)
    | (go_at_call 9; (with_reducible refine (A2.out _ _ HF5.out).mono ?_); rintro e w6 ⟨rfl, hF, hO⟩; have HF6 := Lib.hid hF; have HO6 := Lib.hid (only_new HO5.out hO HP.out); clear hF hO))
  have HF7 : Hid (DeadAt w6 pd (st q p q (0 + p) true 1 30) 0) := by
    have := HF6.out
    rw [two_made] at this
    have e1 : (q == 0) = false := by simp; omega
    unfold st
    rw [e1]
    exact Lib.hid this
  have HI0 := Lib.hid (SInv.start QQ.out.1 QQ.out.2 P1.out.2)
  rw [Int.zero_add] at HF7
  have HB : Hid (w.heap.size ≤ w6.heap.size) := Lib.hid HO6.out.size
  have HPB : Hid (pd < w6.heap.size) := Lib.hid HF7.out.lt
  have HI1 := Lib.hid (ints_nil w6 w6.heap.size)
  obtain ⟨B, hB⟩ : ∃ B, w6.heap.size = B := ⟨_, rfl⟩
  have HBB : Hid (B ≤ w6.heap.size) := Lib.hid (by omega)
  rw [hB] at HB HPB HI1
  clear hB
  clear HF HO HO4 HF5 HO5 HF6 A1 A2
  go_wp2_with fail
  go_loopw [8, 45] (fun v i wr => ∃ (j : Nat) (gs : List Int) (l d : Int) (r : Bool) (m e : Int), j ≤ k ∧ i = .int .i64 j ∧ DeadAt wr pd (st q p l d r m e) j ∧ SInv q p j l d r m e gs ∧ Ints wr B v gs ∧ Grew w B wr) (fun _ i _ => k - (intOf i).toNat)
  case atStart => exact ⟨0, [], _, _, _, _, _, by omega, rfl, HF7.out, HI0.out, HI1.out, HO6.out, HBB.out⟩
  case round =>
    obtain ⟨j, gs, l, d, r, m, e, hj, rfl, hF, hS, hI, hO⟩ := hrel
    have HF := Lib.hid hF
    have HS := Lib.hid hS
    have HI := Lib.hid hI
    have HO := Lib.hid hO
    clear hF hS hI hO HF7 HO6 HI0 HI1
    by_cases hlt : j < k
    · obtain ⟨b, off, rfl, hb, hc⟩ := (HY.out.later HO.out.1).at (j := j) (by rw [HM.out]; exact hlt)
      obtain ⟨y, hy⟩ : ∃ y, ys.getD j 0 = y := ⟨_, rfl⟩
      rw [hy] at hc
      have g1 : (j : Int) < k := by omega
      have g2 : (0 : Int) ≤ j := by omega
      have g3 : (k : Int) ≤ 200 := by omega
      have C8 := Lib.hid (fun k w => rest_some k 8 (by omega) (by omega) w)
      have HP0 : Hid (p ≠ 0) := Lib.hid (by omega)
      clear hy
      go_upto_block 2 with (first
        | (go_at_call 27; (with_reducible refine (C8.out _ _).mono ?_); rintro e w' ⟨r3, rfl, hr3, rfl⟩))
      go_cut [10] (fun s10 wx => MidB w B pd u8 q p j gs wx)
      case first =>
        as_aux_lemma =>
          by_cases k0 : r3 = 0
          · have e0 : ((r3 : Int) == 0) = true := by simp [k0]
            clear k0
            cases r with
            | false =>
              have C := Lib.hid (block_st HF.out 1 1 rfl (by omega) (by omega) HP0.out rfl)
              go_wp2_with (go_at_call 17; (with_reducible refine C.out.mono ?_); rintro e w8 ⟨rfl, rfl⟩)
              go_meet
              exact ⟨_, _, _, _, _, HF.out, HS.out.stay, HI.out, HO.out⟩
            | true =>
              have C := Lib.hid (block_is HF.out 1 1 rfl (by omega) (by omega) HP0.out rfl)
              rw [st_block] at C
              go_wp2_with (go_at_call 17; (with_reducible refine C.out.mono ?_); rintro e w8 ⟨rfl, hF, hO8⟩; have HF8 := Lib.hid hF; have HI8 := Lib.hid (HI.out.keep hO8 (fun g hg h => by have := (HI.out.block hg).1; have := HPB.out; omega)); have HO8 := Lib.hid (HO.out.new hO8 HP.out); clear hF hO8)
              go_meet
              exact ⟨_, _, _, _, _, HF8.out, HS.out.block, HI8.out, HO8.out⟩
          · have e0 : ((r3 : Int) == 0) = false := by simp [k0]
            by_cases k12 : r3 = 1 ∨ r3 = 2
            · rcases (show ((r3 : Int) == 1) = true ∨ ((r3 : Int) == 1) = false ∧ ((r3 : Int) == 2) = true by rcases k12 with h | h <;> subst h <;> decide) with e1 | ⟨e1, e2⟩
              · clear k0 k12
                cases r with
                | true =>
                  have C := Lib.hid (wake_st HF.out 1 1 rfl (by omega) (by omega) HP0.out rfl)
                  go_wp2_with (go_at_call 18; (with_reducible refine C.out.mono ?_); rintro e w8 ⟨rfl, rfl⟩)
                  go_meet
                  exact ⟨_, _, _, _, _, HF.out, HS.out.stay, HI.out, HO.out⟩
                | false =>
                  obtain ⟨l', d', hwk, hSw⟩ := HS.out.wake
                  have C := Lib.hid (wake_is HF.out HS.out.base.fit (by omega) (by omega) (by omega) 1 1 rfl (by omega) (by omega) HP0.out rfl)
                  rw [st_wake hwk] at C
                  have HSW := Lib.hid hSw
                  clear hwk hSw
                  go_wp2_with (go_at_call 18; (with_reducible refine C.out.mono ?_); rintro e w8 ⟨rfl, hF, hO8⟩; have HF8 := Lib.hid hF; have HI8 := Lib.hid (HI.out.keep hO8 (fun g hg h => by have := (HI.out.block hg).1; have := HPB.out; omega)); have HO8 := Lib.hid (HO.out.new hO8 HP.out); clear hF hO8)
                  go_meet
                  exact ⟨_, _, _, _, _, HF8.out, HSW.out, HI8.out, HO8.out⟩
              · clear k0 k12
                cases r with
                | true =>
                  have C := Lib.hid (wake_st HF.out 1 1 rfl (by omega) (by omega) HP0.out rfl)
                  go_wp2_with (go_at_call 18; (with_reducible refine C.out.mono ?_); rintro e w8 ⟨rfl, rfl⟩)
                  go_meet
                  exact ⟨_, _, _, _, _, HF.out, HS.out.stay, HI.out, HO.out⟩
                | false =>
                  obtain ⟨l', d', hwk, hSw⟩ := HS.out.wake
                  have C := Lib.hid (wake_is HF.out HS.out.base.fit (by omega) (by omega) (by omega) 1 1 rfl (by omega) (by omega) HP0.out rfl)
                  rw [st_wake hwk] at C
                  have HSW := Lib.hid hSw
                  clear hwk hSw
                  go_wp2_with (go_at_call 18; (with_reducible refine C.out.mono ?_); rintro e w8 ⟨rfl, hF, hO8⟩; have HF8 := Lib.hid hF; have HI8 := Lib.hid (HI.out.keep hO8 (fun g hg h => by have := (HI.out.block hg).1; have := HPB.out; omega)); have HO8 := Lib.hid (HO.out.new hO8 HP.out); clear hF hO8)
                  go_meet
                  exact ⟨_, _, _, _, _, HF8.out, HSW.out, HI8.out, HO8.out⟩
            · have e1 : ((r3 : Int) == 1) = false := by simp; omega
              have e2 : ((r3 : Int) == 2) = false := by simp; omega
              clear k0 k12
              go_wp2_with fail
              go_meet
              exact ⟨_, _, _, _, _, HF.out, HS.out.stay, HI.out, HO.out⟩
      case rest =>
        obtain ⟨l, d, r, m, e, hF, hS, hI, hO⟩ := hcut
        obtain ⟨kk, l', d', m', e', hpk, htk, hS2⟩ := hS.tick
        have KT := Lib.hid (tick_is hF hS.base.fit (by omega) (by omega) hpk (k := kk) rfl (n' := ((j + 1 : Nat) : Int)) (by omega))
        rw [htk] at KT
        rw [show (j : Int) + 1 = ((j + 1 : Nat) : Int) by omega] at hS2
        have HI3 := Lib.hid hI
        have HO3 := Lib.hid hO
        have HL3 : Hid (gs.length = j) := Lib.hid (by have := hS.len; omega)
        have HS2 := Lib.hid hS2
        have HLE : Hid (gs.length + 1 ≤ 17000000000000) := Lib.hid (by have := hS.len; omega)
        obtain ⟨n1, hn1⟩ : ∃ n1, j + 1 = n1 := ⟨_, rfl⟩
        have HN1 := Lib.hid hn1
        have en : (n1 : Int) - 1 = j := by omega
        have en2 : (0 : Int) < n1 := by omega
        rw [hn1] at KT HS2
        clear hF hS hI hO hpk htk hS2 HF HS HI HO C8
        by_cases hk1 : kk = 1
        · have e1 : ((kk : Int) == 1) = true := by simp [hk1]
          rw [if_pos hk1] at HS2
          clear hk1
          go_upto_region 22 with (first
            | (go_at_call 10; (with_reducible refine KT.out.mono ?_); rintro e w8 ⟨rfl, hF, hO8⟩; have HF8 := Lib.hid hF; have HI8 := Lib.hid (HI3.out.keep hO8 (fun g hg h => by have := (HI3.out.block hg).1; have := HPB.out; omega)); have HO8 := Lib.hid (HO3.out.new hO8 HP.out); clear hF hO8)
            | (at_builtin; go_must (refine append_one rfl _ _ rfl B w8.heap.size 1 _ gs 0 rfl rfl (HI8.out.later ((Only.refl _ w8).alloc _)) ?_ HLE.out ?_ ?_); (go_must (exact heap_alloc_new w8 _)); (go_must (exact Nat.le_trans HO8.out.2 (by simp))); go_must (intro v5 w9 hr5 hO5 hV5; obtain ⟨g, c, rfl, hg0, hg1, hI9⟩ := hr5.at_block (n := n1) (by rw [List.length_append, HL3.out]; exact HN1.out) (by omega)); have HI9 := Lib.hid hI9; have HG0 := Lib.hid hg0; have fz := ints_frozen hI9 j; have hcc := ints_cell hI9 (j := j) (by rw [List.length_append, HL3.out]; simp); have HF9 := Lib.hid ((HF8.out.later ((Only.refl _ w8).alloc _)).keep hO5 (fun e => by have := (HI8.out.block e).1; have := HPB.out; omega)); have HO9 := Lib.hid (HO8.out.app hO5 HI8.out HB.out); clear hr5 hO5 hV5 hI9))
          have HI10 : Hid (Ints (w9.setCell ⟨g, j, none⟩ (.int .i64 1)) B (.slice (some ⟨g, 0, none⟩) n1 c) (gs ++ [1])) := Lib.hid (by have := ints_set HI9.out j 1; have e : (gs ++ [(0 : Int)]).set j 1 = gs ++ [1] := (by rw [← HL3.out]; exact snoc_set gs 0 1); rwa [e] at this)
          have HF10 := Lib.hid (HF9.out.keep (only_set1 (Only.refl _ w9) (p := g) j (.int .i64 1)) (fun e => by have := HG0.out; have := HPB.out; omega))
          have HO10 := Lib.hid (HO9.out.set (j := j) (u := .int .i64 1) HG0.out HB.out)
          generalize w9.setCell ⟨g, j, none⟩ (.int .i64 1) = w10 at *
          have HL10 : Hid ((gs ++ [(1 : Int)]).length = n1) := Lib.hid (by rw [List.length_append, HL3.out]; exact HN1.out)
          generalize gs ++ [(1 : Int)] = G at *
          clear fz hcc HI9 HF9 HO9
          obtain ⟨j0, hj0⟩ : ∃ j0, n1 - p.toNat = j0 := ⟨_, rfl⟩
          have HJ0 := Lib.hid hj0
          have q3 := run_max2 0 ((n1 : Int) - p) j0 (by omega)
          have j1 : (j0 : Int) ≤ n1 := by omega
          have j2 : j0 ≤ n1 := by omega
          have HPN : Hid ((n1 : Int) ≤ 200) := Lib.hid (by omega)
          have pn := HPN.out
          have hcc2 := ints_cap HI10.out
          have j3 : j0 < n1 := by omega
          have j4 : ¬ c = j0 := by omega
          clear hj0 hc HI3 HF8 HI8 HO8 HO3 KT
          go_wp2_with fail
          obtain ⟨L, hL⟩ : ∃ L, n1 - j0 = L := ⟨_, rfl⟩
          rw [hL]
          have HLL : Hid (n1 = j0 + L) := Lib.hid (by omega)
          have HBT := Lib.hid HS2.out.bit
          clear hL j1 j2 j3 j4 pn hcc2 q3
          go_loopw [12, 80] (fun s i wx => ∃ z : Nat, z ≤ L ∧ i = .int .i64 z ∧ s = .int .i64 ((G.drop j0).take z).sum ∧ Only (fun _ => False) w10 wx) (fun _ i _ => L - (intOf i).toNat)
          case atStart => exact ⟨0, by omega, rfl, rfl, Only.refl _ _⟩
          case round =>
            obtain ⟨z, hz, rfl, rfl, hO⟩ := hrel
            have HOz := Lib.hid hO
            clear hO
            by_cases hzl : z < L
            · have z1 : (z : Int) < L := by omega
              have z2 : (L : Int) ≤ 200 := by have := HPN.out; have := HLL.out; omega
              have cz := ints_cell (HI10.out.later HOz.out) (j := j0 + z) (by rw [HL10.out, HLL.out]; omega)
              have HT := Lib.hid (from_take G j0 z (by rw [HL10.out, HLL.out]; omega))
              have tb := take_bd HBT.out j0 z
              have gb := getD_bd HBT.out (j0 + z)
              generalize G.getD (j0 + z) 0 = x at *
              generalize ((G.drop j0).take z).sum = s at *
              go_wp2_with fail
              go_roundw
              case rel => exact ⟨z + 1, by omega, by go_num, by rw [HT.out], HOz.out⟩
              case measure => simp [intOf]; omega
            · obtain rfl : z = L := by omega
              have hsum := HS2.out.sum
              rw [HL10.out, HJ0.out] at hsum
              have hfa := from_all G j0 z (by rw [HL10.out]; exact HLL.out)
              rw [← hfa] at hsum
              have hl := HS2.out.base.vl
              have s1 := hsum.1
              have s2 := hsum.2
              have l1 := hl.1
              have l2 := hl.2
              clear hsum hl hfa
              generalize ((G.drop j0).take z).sum = s at *
              have q30 : q ≤ 30 := by omega
              by_cases hl0 : l' = 0
              · have b0 : (l' == 0) = true := by simp [hl0]
                have CA : Hid (∀ wx, DeadAt wx pd (st q p l' d' r m' e') n1 → Calls Try.prog 25 #[.pointer (some ⟨pd, 0, none⟩), .int .i64 1] wx fun e w' => e = .returned (.tuple #[.int .i64 l', .int .i64 d', .bool true, .int .i64 0]) ∧ Only (fun _ => False) wx w') := Lib.hid (fun wx hx => at_is hx 1 1 rfl (by omega) (by omega) HP0.out b0)
                clear hl0
                go_wp2_with (go_at_call 25; (with_reducible refine (CA.out _ (HF10.out.later HOz.out)).mono ?_); rintro e w11 ⟨rfl, hO11⟩; have HO11 := Lib.hid (only_trans HOz.out hO11); clear hO11)
                go_roundw
                case rel => exact ⟨n1, G, _, _, _, _, _, by have := HN1.out; omega, by have := HN1.out; go_num, HF10.out.later HO11.out, HS2.out, HI10.out.later HO11.out, HO10.out.later HO11.out⟩
                case measure => simp [intOf]; omega
              · have b0 : (l' == 0) = false := by simp [hl0]
                have CA : Hid (∀ wx, DeadAt wx pd (st q p l' d' r m' e') n1 → Calls Try.prog 25 #[.pointer (some ⟨pd, 0, none⟩), .int .i64 1] wx fun e w' => e = .returned (.tuple #[.int .i64 l', .int .i64 d', .bool false, .int .i64 0]) ∧ Only (fun _ => False) wx w') := Lib.hid (fun wx hx => at_is hx 1 1 rfl (by omega) (by omega) HP0.out b0)
                clear hl0
                go_wp2_with (go_at_call 25; (with_reducible refine (CA.out _ (HF10.out.later HOz.out)).mono ?_); rintro e w11 ⟨rfl, hO11⟩; have HO11 := Lib.hid (only_trans HOz.out hO11); clear hO11)
                go_roundw
                case rel => exact ⟨n1, G, _, _, _, _, _, by have := HN1.out; omega, by have := HN1.out; go_num, HF10.out.later HO11.out, HS2.out, HI10.out.later HO11.out, HO10.out.later HO11.out⟩
                case measure => simp [intOf]; omega
        · have e1 : ((kk : Int) == 1) = false := by simp; omega
          rw [if_neg hk1] at HS2
          clear hk1
          go_upto_region 22 with (first
            | (go_at_call 10; (with_reducible refine KT.out.mono ?_); rintro e w8 ⟨rfl, hF, hO8⟩; have HF8 := Lib.hid hF; have HI8 := Lib.hid (HI3.out.keep hO8 (fun g hg h => by have := (HI3.out.block hg).1; have := HPB.out; omega)); have HO8 := Lib.hid (HO3.out.new hO8 HP.out); clear hF hO8)
            | (at_builtin; go_must (refine append_one rfl _ _ rfl B w8.heap.size 1 _ gs 0 rfl rfl (HI8.out.later ((Only.refl _ w8).alloc _)) ?_ HLE.out ?_ ?_); (go_must (exact heap_alloc_new w8 _)); (go_must (exact Nat.le_trans HO8.out.2 (by simp))); go_must (intro v5 w9 hr5 hO5 hV5; obtain ⟨g, c, rfl, hg0, hg1, hI9⟩ := hr5.at_block (n := n1) (by rw [List.length_append, HL3.out]; exact HN1.out) (by omega)); have HI9 := Lib.hid hI9; have HG0 := Lib.hid hg0; have fz := ints_frozen hI9 j; have hcc := ints_cell hI9 (j := j) (by rw [List.length_append, HL3.out]; simp); have HF9 := Lib.hid ((HF8.out.later ((Only.refl _ w8).alloc _)).keep hO5 (fun e => by have := (HI8.out.block e).1; have := HPB.out; omega)); have HO9 := Lib.hid (HO8.out.app hO5 HI8.out HB.out); clear hr5 hO5 hV5 hI9))
          have HI10 := HI9
          have HF10 := HF9
          have HO10 := HO9
          have HL10 : Hid ((gs ++ [(0 : Int)]).length = n1) := Lib.hid (by rw [List.length_append, HL3.out]; exact HN1.out)
          generalize gs ++ [(0 : Int)] = G at *
          clear fz hcc HI9 HF9 HO9
          generalize w9 = w10 at *
          obtain ⟨j0, hj0⟩ : ∃ j0, n1 - p.toNat = j0 := ⟨_, rfl⟩
          have HJ0 := Lib.hid hj0
          have q3 := run_max2 0 ((n1 : Int) - p) j0 (by omega)
          have j1 : (j0 : Int) ≤ n1 := by omega
          have j2 : j0 ≤ n1 := by omega
          have HPN : Hid ((n1 : Int) ≤ 200) := Lib.hid (by omega)
          have pn := HPN.out
          have hcc2 := ints_cap HI10.out
          have j3 : j0 < n1 := by omega
          have j4 : ¬ c = j0 := by omega
          clear hj0 hc HI3 HF8 HI8 HO8 HO3 KT
          go_wp2_with fail
          obtain ⟨L, hL⟩ : ∃ L, n1 - j0 = L := ⟨_, rfl⟩
          rw [hL]
          have HLL : Hid (n1 = j0 + L) := Lib.hid (by omega)
          have HBT := Lib.hid HS2.out.bit
          clear hL j1 j2 j3 j4 pn hcc2 q3
          go_loopw [12, 80] (fun s i wx => ∃ z : Nat, z ≤ L ∧ i = .int .i64 z ∧ s = .int .i64 ((G.drop j0).take z).sum ∧ Only (fun _ => False) w10 wx) (fun _ i _ => L - (intOf i).toNat)
          case atStart => exact ⟨0, by omega, rfl, rfl, Only.refl _ _⟩
          case round =>
            obtain ⟨z, hz, rfl, rfl, hO⟩ := hrel
            have HOz := Lib.hid hO
            clear hO
            by_cases hzl : z < L
            · have z1 : (z : Int) < L := by omega
              have z2 : (L : Int) ≤ 200 := by have := HPN.out; have := HLL.out; omega
              have cz := ints_cell (HI10.out.later HOz.out) (j := j0 + z) (by rw [HL10.out, HLL.out]; omega)
              have HT := Lib.hid (from_take G j0 z (by rw [HL10.out, HLL.out]; omega))
              have tb := take_bd HBT.out j0 z
              have gb := getD_bd HBT.out (j0 + z)
              generalize G.getD (j0 + z) 0 = x at *
              generalize ((G.drop j0).take z).sum = s at *
              go_wp2_with fail
              go_roundw
              case rel => exact ⟨z + 1, by omega, by go_num, by rw [HT.out], HOz.out⟩
              case measure => simp [intOf]; omega
            · obtain rfl : z = L := by omega
              have hsum := HS2.out.sum
              rw [HL10.out, HJ0.out] at hsum
              have hfa := from_all G j0 z (by rw [HL10.out]; exact HLL.out)
              rw [← hfa] at hsum
              have hl := HS2.out.base.vl
              have s1 := hsum.1
              have s2 := hsum.2
              have l1 := hl.1
              have l2 := hl.2
              clear hsum hl hfa
              generalize ((G.drop j0).take z).sum = s at *
              have q30 : q ≤ 30 := by omega
              by_cases hl0 : l' = 0
              · have b0 : (l' == 0) = true := by simp [hl0]
                have CA : Hid (∀ wx, DeadAt wx pd (st q p l' d' r m' e') n1 → Calls Try.prog 25 #[.pointer (some ⟨pd, 0, none⟩), .int .i64 1] wx fun e w' => e = .returned (.tuple #[.int .i64 l', .int .i64 d', .bool true, .int .i64 0]) ∧ Only (fun _ => False) wx w') := Lib.hid (fun wx hx => at_is hx 1 1 rfl (by omega) (by omega) HP0.out b0)
                clear hl0
                go_wp2_with (go_at_call 25; (with_reducible refine (CA.out _ (HF10.out.later HOz.out)).mono ?_); rintro e w11 ⟨rfl, hO11⟩; have HO11 := Lib.hid (only_trans HOz.out hO11); clear hO11)
                go_roundw
                case rel => exact ⟨n1, G, _, _, _, _, _, by have := HN1.out; omega, by have := HN1.out; go_num, HF10.out.later HO11.out, HS2.out, HI10.out.later HO11.out, HO10.out.later HO11.out⟩
                case measure => simp [intOf]; omega
              · have b0 : (l' == 0) = false := by simp [hl0]
                have CA : Hid (∀ wx, DeadAt wx pd (st q p l' d' r m' e') n1 → Calls Try.prog 25 #[.pointer (some ⟨pd, 0, none⟩), .int .i64 1] wx fun e w' => e = .returned (.tuple #[.int .i64 l', .int .i64 d', .bool false, .int .i64 0]) ∧ Only (fun _ => False) wx w') := Lib.hid (fun wx hx => at_is hx 1 1 rfl (by omega) (by omega) HP0.out b0)
                clear hl0
                go_wp2_with (go_at_call 25; (with_reducible refine (CA.out _ (HF10.out.later HOz.out)).mono ?_); rintro e w11 ⟨rfl, hO11⟩; have HO11 := Lib.hid (only_trans HOz.out hO11); clear hO11)
                go_roundw
                case rel => exact ⟨n1, G, _, _, _, _, _, by have := HN1.out; omega, by have := HN1.out; go_num, HF10.out.later HO11.out, HS2.out, HI10.out.later HO11.out, HO10.out.later HO11.out⟩
                case measure => simp [intOf]; omega
    · obtain rfl : j = k := by omega
      have hl : gs.length = j := by have := HS.out.len; omega
      obtain ⟨a', c', hv, -, -⟩ := HI.out.shape
      rw [hl] at hv
      subst hv
      have CN := Lib.hid (now_any HF.out)
      have ej : ((j : Int) == (j : Int)) = true := by simp
      clear hl
      go_wp2_with (go_at_call 22; (with_reducible refine CN.out.mono ?_); rintro e w11 ⟨rfl, rfl⟩)
      go_ret
      exact ⟨by simp, Only.below HO.out.1 (Nat.le_refl _) (fun _ e => e.elim)⟩
end Go.Proofs.Ytijpiloljgpnkaa.De
