/- The statements' sets: tasks that fit one processor. And admitBegun. -/
import Derived.Test.YtijpiloljgpnkaaAdFrac
import Derived.Test.YtijpiloljgpnkaaAdOps
import Derived.Test.YtijpiloljgpnkaaRest
import Derived.Deep.RegionWith
import Derived.Deep.RegionHeld3
import Derived.Deep.AppendLies
namespace Go.Proofs.Ytijpiloljgpnkaa.Ad
open Go.ChangeShapes Go.WideShapes Go.ChangeAt Go.RowKit
set_option linter.unusedVariables false

theorem fits_one (v : Value) (S : List Use) (w : World) (h : UV w v S) (hc : chk S = 0) :
    Calls Try.prog 40 #[v, .int .i64 1] w (Truth (decide (shareN S ≤ 1 * shareD S)) 0 w) := fits_good v S 1 w h hc ⟨by omega, by omega⟩

theorem begun_any (w : World) : Calls Try.prog 28 #[] w fun e w' => e = .returned (.bool true) ∧ Only (fun _ => False) w w' := by
  have hU : ∀ (t : TypeId), UV (w.alloc (.cells #[.int .i64 1, .int .i64 2, .int .i64 1, .int .i64 2] t)) (.slice (some ⟨w.heap.size, 0, none⟩) 2 2) [(1, 2), (1, 2)] := fun t => by
    refine ⟨_, 2, rfl, Nat.le_refl _, by omega, fun j hj => ⟨w.heap.size, 0, rfl, by simp, ?_⟩⟩
    have hb : (w.alloc (.cells #[.int .i64 1, .int .i64 2, .int .i64 1, .int .i64 2] t)).heap[w.heap.size]? = some (.cells #[.int .i64 1, .int .i64 2, .int .i64 1, .int .i64 2] t (0, 0)) := heap_alloc_new w _
    rw [cell_at hb, cell_at hb]
    have : j = 0 ∨ j = 1 := by simp at hj; omega
    rcases this with rfl | rfl <;> exact ⟨rfl, rfl⟩
  have C := Lib.hid (fun t => fits_one _ _ _ (hU t) (by decide))
  rw [show decide (shareN [(1, 2), (1, 2)] ≤ 1 * shareD [(1, 2), (1, 2)]) = true by decide] at C
  have HO := Lib.hid (fun (o : Obj) => (Only.refl (fun _ => False) w).alloc o)
  clear hU
  go_enter Try.func28, Try.ntmps28
  go_wp2_with (go_at_call 40; (with_reducible refine (C.out _).mono ?_); rintro e w1 ⟨rfl, hO⟩; have HO1 := Lib.hid hO; clear hO)
  go_ret
  exact ⟨rfl, trans_quiet (HO.out _) HO1.out⟩

/-- The periods of sets. -/
def tab (r : Nat) : Nat := [2, 3, 4, 5, 6, 8, 10, 12].getD r 0
theorem tab_in {r : Nat} (h : r < 8) : 2 ≤ tab r ∧ tab r ≤ 12 ∧ tab r ∣ 120 := by
  have : ∀ q : Fin 8, 2 ≤ tab q.val ∧ tab q.val ≤ 12 ∧ tab q.val ∣ 120 := by decide
  exact this ⟨r, h⟩
theorem tab_cell {r : Nat} (h : r < 8) (w : World) (t : TypeId) : (w.alloc (.cells #[.int .i64 2, .int .i64 3, .int .i64 4, .int .i64 5, .int .i64 6, .int .i64 8, .int .i64 10, .int .i64 12] t)).cell? ⟨w.heap.size, r, none⟩ = some (.int .i64 (tab r)) := by
  rw [cell_at (heap_alloc_new w _)]
  have : ∀ q : Fin 8, (#[.int .i64 2, .int .i64 3, .int .i64 4, .int .i64 5, .int .i64 6, .int .i64 8, .int .i64 10, .int .i64 12] : Array Value)[q.val]? = some (.int .i64 (tab q.val)) := by
    intro q; rcases q with ⟨q, hq⟩
    rcases (show q = 0 ∨ q = 1 ∨ q = 2 ∨ q = 3 ∨ q = 4 ∨ q = 5 ∨ q = 6 ∨ q = 7 by omega) with rfl | rfl | rfl | rfl | rfl | rfl | rfl | rfl <;> rfl
  exact this ⟨r, h⟩

/-- What sets answers: tasks that fit. -/
structure SetOk (S : List Use) : Prop where
  len : S.length ≤ 8
  each : ∀ u ∈ S, okU u = true ∧ per u ∣ 120
  fits : shares 120 S ≤ 120

theorem SetOk.nil : SetOk [] := ⟨by simp, by simp, by simp [shares, usedTo]⟩
theorem SetOk.chk {S : List Use} (h : SetOk S) : Ad.chk S = 0 := chk_of (by have := h.len; omega) (fun x hx => (h.each x hx).1)
theorem SetOk.snoc {S : List Use} {u : Use} (h : SetOk S) (hl : S.length < 8) (hu : okU u = true) (hd : per u ∣ 120) (hf : shareN (S ++ [u]) ≤ 1 * shareD (S ++ [u])) : SetOk (S ++ [u]) := by
  have he : ∀ x ∈ S ++ [u], okU x = true ∧ per x ∣ 120 := by
    intro x hx
    rcases List.mem_append.1 hx with hx | hx
    · exact h.each x hx
    · simp at hx; subst hx; exact ⟨hu, hd⟩
  refine ⟨by simp; omega, he, ?_⟩
  have := (share_le_of (S := S ++ [u]) (allOk_mem.2 fun x hx => (he x hx).1) (N := 120) (by omega) (fun j hj => (he _ (nthU_mem hj)).2) 1).1 hf
  unfold shares; omega

theorem rest_nat (k : Int) (p : Nat) (h : 0 < p) (h2 : p ≤ 1000000) (w : World) :
    Calls Try.prog 27 #[.int .i64 k, .int .i64 p] w fun e w' => ∃ c : Nat, c < p ∧ e = .returned (.int .i64 c) ∧ w = w' :=
  (rest_any k p (by omega) (by omega) w).mono fun e w' ⟨he, hw⟩ => by
    have h1 := restOf_lo k p (by omega)
    have h2 := restOf_hi k p (by omega)
    exact ⟨(restOf k p).toNat, by omega, by rw [he, show ((restOf k p).toNat : Int) = restOf k p by omega], hw⟩

theorem rest_8 (k : Int) (w : World) :
    Calls Try.prog 27 #[.int .i64 k, .int .i64 8] w fun e w' => ∃ c : Nat, c < 8 ∧ e = .returned (.int .i64 c) ∧ w = w' := rest_nat k 8 (by omega) (by omega) w

/-- One task more behind a row, at a step of a region that draws its order. -/
theorem step_use {w : World} {ops : Array Oper} {o : Oper} {a : Act} {K : Act → World → Prop} {Q : Exit → Act → World → Prop} {E : Prop} (hgd : o.guard = none) (s y : Operand)
    (ho : o.op = .call { callee := .builtin .append, args := #[s, y], argTypes := #[55, 55] })
    (w1 : World) (base b c : Nat) (v : Value) (S : List Use) (u : Use) (hown : Us.RowAt w1 base v S) (hO : Only (fun _ => False) w1 w) (hs : a.eval s = v) (hy : a.eval y = .slice (some ⟨b, 0, none⟩) 1 c)
    (hb : w.heap[b]? = some (.cells #[.int .i64 u.1, .int .i64 u.2] 58 (0, 0))) (hl : S.length ≤ 1000000) (hbase : base ≤ w.heap.size)
    (h : ∀ g' c' w', Us.RowAt w' base (.slice (some ⟨g', 0, none⟩) (S.length + 1) c') (S ++ [u]) → Only (fun k => v.ownBlock = some k) w w' → K (a.put o.dst (.slice (some ⟨g', 0, none⟩) (S.length + 1) c')) w') :
    if Region.wanted o (yielded ops a.tmps) = true then Oper.wp Try.prog o a w K Q else E := by
  obtain ⟨i0, hi, hz0, hz1, hz2⟩ := info_parts Us.Try.infoElem
  refine step_append_lies w hgd s y 55 ho base 58 i0 (.agg #[.int .i64 0, .int .i64 0]) 2 16 Try.underlying55 hi hz0 hz1 hz2 rfl (by decide) v S.length (flat Us.enc S) hs (hown.later hO) ⟨b, 0, none⟩ 1 c (Us.enc u) hy rfl
    (World.news_of_block (cs := #[.int .i64 u.1, .int .i64 u.2]) hb) (Us.enc_one u) (by omega) (by unfold maxLen; omega) (by omega) hbase w.heap.size rfl ?_
  intro g cap w' hown' hg hat hlt
  refine h _ _ w' ?_ (Only.of_grown (S := fun k => v.ownBlock = some k) hg (fun k hk => hk))
  unfold Us.RowAt
  rw [List.length_append, flat_append, flat_one]
  exact hown'

theorem only_cell0 {w w' : World} (hO : Only (fun _ => False) w w') {b o : Nat} {v : Value} (hc : w.cell? ⟨b, o, none⟩ = some v) : w'.cell? ⟨b, o, none⟩ = some v := by
  rw [← hc]
  unfold World.cell?
  rw [hO.block b (block_lt hc) id]

theorem only_row {a w w' : World} {B : Nat} {v : Value} {S : List Use} (h : Only (fun _ => False) a w) {w0 : World} (hr : Us.RowAt w0 B v S) (hO : Only (fun k => v.ownBlock = some k) w w') (hB : a.heap.size ≤ B := by first | exact Nat.le_refl _ | simp [World.drew]) : Only (fun _ => False) a w' :=
  h.trans hO (fun k hk e => by have := (hr.block e).1; omega)

theorem undrew {S : Nat → Prop} {w w' : World} (h : Only S w.drew w') : Only S w w' := ⟨h.os, h.tape, h.output, h.size, h.block⟩

/-- A set was answered in a row of the call's own. -/
def SetAns (w : World) (e : Ending) (w' : World) : Prop := ∃ v S, e = .returned v ∧ SetOk S ∧ Us.RowAt w' w.heap.size v S ∧ Only (fun _ => False) w w'

set_option maxRecDepth 100000 in
set_option maxHeartbeats 4000000 in
theorem sets_any (a : Option Addr) (len cap : Nat) (zs : List Int) (w : World) (h : IsRow .i64 w a len cap zs) :
    Calls Try.prog 29 #[.slice a len cap] w (SetAns w) := by
  obtain ⟨xs, hx, hN, hc1, hc2⟩ := nums_cut h 8
  obtain ⟨m, hm⟩ : ∃ m, xs.length = m := ⟨_, rfl⟩
  have HM := Lib.hid hm
  rw [hm] at hN
  have H := Lib.hid hN
  clear h hN
  have hm8 : m ≤ 8 := by omega
  have hmin : (min len 8 : Nat) = m := by omega
  clear hm
  go_enter Try.func29, Try.ntmps29
  go_upto_region 2 with fail
  go_cut [10, 11, 12, 13, 14, 15, 16] (fun _ _ _ _ s14 s15 s16 wx => s14 = .slice a m cap ∧ s15 = .int .i64 m ∧ s16 = .int .i64 0 ∧ wx = w)
  case first =>
    by_cases hl : (len : Int) ≤ 8
    · obtain rfl : len = m := by omega
      go_wp2_with fail
      go_meet
      exact ⟨rfl, rfl, rfl, rfl⟩
    · obtain rfl : m = 8 := by omega
      have hl2 : (8 : Int) < len := by omega
      go_wp2_with fail
      go_meet
      exact ⟨rfl, rfl, rfl, rfl⟩
  case rest =>
    obtain ⟨rfl, rfl, rfl, hw⟩ := hcut
    obtain rfl : w = wc := hw.symm
    go_wp2_with fail
    go_loopw [3, 16] (fun v i wr => ∃ (j : Nat) (S : List Use), j ≤ m ∧ i = .int .i64 j ∧ S.length ≤ j ∧ SetOk S ∧ Us.RowAt wr w.heap.size v S ∧ Only (fun _ => False) w wr) (fun _ i _ => m - (intOf i).toNat)
    case atStart => exact ⟨0, [], Nat.zero_le _, rfl, by simp, SetOk.nil, Us.row_nil _ _, Only.refl _ _⟩
    case round =>
      obtain ⟨j, S, hj, rfl, hSj, hSok, hrow, hO⟩ := hrel
      have HOK := Lib.hid hSok
      have HR := Lib.hid hrow
      have HO := Lib.hid hO
      clear hSok hrow hO
      by_cases hlt : j < m
      · obtain ⟨b, off, rfl, hb, hc⟩ := (H.out.later HO.out).at (show j < xs.length by rw [HM.out]; exact hlt)
        have g1 : (j : Int) < m := by omega
        generalize xs.getD j 0 = z at *
        go_upto_region 7 with (first
          | (go_at_call 27; (with_reducible refine (rest_8 _ _).mono ?_); rintro e w' ⟨r, hr, rfl, rfl⟩; have ht := tab_cell hr wr 3; have hr2 : (r : Int) < 8 := (by omega); obtain ⟨hp1, hp2, hp3⟩ := tab_in hr; generalize tab r = p at *)
          | (go_at_call 27; (with_reducible refine (rest_nat _ p (by omega) (by omega) _).mono ?_); rintro e w' ⟨x, hx, rfl, rfl⟩))
        have HX : Hid (okU (1 + (x : Int), (p : Int)) = true ∧ per (1 + (x : Int), (p : Int)) ∣ 120) := Lib.hid ⟨okU_of (by simp only; omega), by show ((p : Int)).toNat ∣ 120; rw [Int.toNat_natCast]; exact hp3⟩
        have HV := Lib.hid (HR.out.shape rfl)
        have HO1 := Lib.hid ((HO.out.alloc (.cells #[.int .i64 2, .int .i64 3, .int .i64 4, .int .i64 5, .int .i64 6, .int .i64 8, .int .i64 10, .int .i64 12] 3)).alloc (.cells #[.int .i64 (1 + (x : Int)), .int .i64 (p : Int)] 58))
        have HR1 := Lib.hid (HR.out.later (((Only.refl (fun _ => False) wr).alloc (.cells #[.int .i64 2, .int .i64 3, .int .i64 4, .int .i64 5, .int .i64 6, .int .i64 8, .int .i64 10, .int .i64 12] 3)).alloc (.cells #[.int .i64 (1 + (x : Int)), .int .i64 (p : Int)] 58)))
        have hbk : ((wr.alloc (.cells #[.int .i64 2, .int .i64 3, .int .i64 4, .int .i64 5, .int .i64 6, .int .i64 8, .int .i64 10, .int .i64 12] 3)).alloc (.cells #[.int .i64 (1 + (x : Int)), .int .i64 (p : Int)] 58)).heap[wr.heap.size + 1]? = some (.cells #[.int .i64 (1 + (x : Int)), .int .i64 (p : Int)] 58 (0, 0)) := by
          have h := heap_alloc_new (wr.alloc (.cells #[.int .i64 2, .int .i64 3, .int .i64 4, .int .i64 5, .int .i64 6, .int .i64 8, .int .i64 10, .int .i64 12] 3)) (.cells #[.int .i64 (1 + (x : Int)), .int .i64 (p : Int)] 58)
          simpa using h
        have HBK := Lib.hid hbk
        clear hbk hb hc ht
        generalize (wr.alloc (.cells #[.int .i64 2, .int .i64 3, .int .i64 4, .int .i64 5, .int .i64 6, .int .i64 8, .int .i64 10, .int .i64 12] 3)).alloc (.cells #[.int .i64 (1 + (x : Int)), .int .i64 (p : Int)] 58) = W1 at *
        generalize wr.heap.size + 1 = B1 at *
        have d1 : W1.cell? ⟨B1, 0, none⟩ = some (.int .i64 (1 + (x : Int))) := by rw [cell_at HBK.out]; rfl
        have d2 : W1.cell? ⟨B1, 1, none⟩ = some (.int .i64 (p : Int)) := by rw [cell_at HBK.out]; rfl
        have HCK : Hid (chk (S ++ [(1 + (x : Int), (p : Int))]) = 0) := Lib.hid (chk_of (by have := HOK.out.len; simp; omega) (fun y hy => by
          rcases List.mem_append.1 hy with hy | hy
          · exact (HOK.out.each y hy).1
          · simp at hy; subst hy; exact HX.out.1))
        have HSL : Hid (S.length ≤ 1000000) := Lib.hid (by omega)
        have HBL : Hid (B1 < W1.heap.size) := Lib.hid (block_there HBK.out)
        have KC := Lib.hid (fun (wx : World) (hO : Only (fun _ => False) W1 wx) => Us.clone_row w.heap.size u3 S wx (HR1.out.later hO) (by omega))
        have KF := Lib.hid (fun (wx : World) (v : Value) (hv : UV wx v (S ++ [(1 + (x : Int), (p : Int))])) => fits_one v _ wx hv HCK.out)
        go_cut [8, 9] (fun s8 s9 wx => s8 = .bool (decide (shareN (S ++ [(1 + (x : Int), (p : Int))]) ≤ 1 * shareD (S ++ [(1 + (x : Int), (p : Int))]))) ∧ s9 = .int .i64 0 ∧ Only (fun _ => False) W1 wx)
        case first =>
          go_region_held3 (fun w' => w'.cell? ⟨B1, 0, none⟩ = some (.int .i64 (1 + (x : Int))) ∧ w'.cell? ⟨B1, 1, none⟩ = some (.int .i64 (p : Int))) (first | exact ⟨d3, d4⟩ | go_keep)
            (first
              | (go_at_call 41; (with_reducible refine (KC.out _ ((Only.refl _ W1).drew)).mono ?_); rintro e w4 ⟨v4, rfl, hr4, hO4⟩; have HR4 := Lib.hid hr4; have HZ4 := Lib.hid hO4.size; have HO4 := Lib.hid hO4; have d3 := only_cell0 hO4 d1; have d4 := only_cell0 hO4 d2; clear hr4 hO4)
              | (go_at_call 41; (with_reducible refine (KC.out _ (((Only.refl _ W1).alloc _).drew)).mono ?_); rintro e w4 ⟨v4, rfl, hr4, hO4⟩; have HR4 := Lib.hid hr4; have HZ4 := Lib.hid hO4.size; have HO4 := Lib.hid ((((Only.refl (fun _ => False) W1).alloc _).drew).trans hO4 (fun _ _ e => e)); have HB4 := Lib.hid ((hO4.block W1.heap.size (by simp [World.drew]) id).trans (heap_alloc_new W1 _)); have d3 := only_cell0 HO4.out d1; have d4 := only_cell0 HO4.out d2; clear hr4 hO4)
              | (refine step_use rfl (.tmp 34) (.tmp 36) rfl w4 _ w4.heap.size 1 v4 S (1 + (x : Int), (p : Int)) HR4.out ((Only.refl _ w4).alloc _) (by rfl) (by rfl) (heap_alloc_new w4 _) HSL.out (Nat.le_trans HZ4.out (by simp)) ?_; intro g5 c5 w5 hr5 hO5; have HR5 := Lib.hid hr5; have HO5 := Lib.hid (only_row (HO4.out.alloc _) HR4.out hO5); have d3 := only_cell0 HO5.out d1; have d4 := only_cell0 HO5.out d2; clear hr5 hO5)
              | (refine step_use rfl (.tmp 34) (.tmp 36) rfl w4 _ W1.heap.size 1 v4 S (1 + (x : Int), (p : Int)) HR4.out (Only.refl _ w4) (by rfl) (by rfl) HB4.out HSL.out HZ4.out ?_; intro g5 c5 w5 hr5 hO5; have HR5 := Lib.hid hr5; have HO5 := Lib.hid (only_row HO4.out HR4.out hO5); have d3 := only_cell0 HO5.out d1; have d4 := only_cell0 HO5.out d2; clear hr5 hO5)
              | (go_at_call 40; (with_reducible refine (KF.out _ _ (row_view HR5.out)).mono ?_); rintro e w6 ⟨rfl, hO6⟩; have HO6 := Lib.hid (trans_quiet HO5.out hO6); have d3 := only_cell0 HO6.out d1; have d4 := only_cell0 HO6.out d2; clear hO6))
          all_goals (
            go_wp2_with fail
            go_meet
            first | exact ⟨by rw [Nat.one_mul], rfl, undrew HO6.out⟩ | exact ⟨by rw [Nat.one_mul], rfl, HO6.out⟩)
        case rest =>
          obtain ⟨rfl, rfl, hOc⟩ := hcut
          have HOC := Lib.hid hOc
          have HRC := Lib.hid (HR1.out.later hOc)
          have HNC := Lib.hid (trans_quiet HO1.out hOc)
          have d3 := only_cell0 hOc d1
          have d4 := only_cell0 hOc d2
          clear hOc d1 d2 KC KF
          obtain ⟨a3, c3, rfl, hc31, hc32, -⟩ := HV.out
          by_cases hf : shareN (S ++ [(1 + (x : Int), (p : Int))]) ≤ 1 * shareD (S ++ [(1 + (x : Int), (p : Int))])
          · have HS2 := Lib.hid (HOK.out.snoc (by omega) HX.out.1 HX.out.2 hf)
            have hf2 : decide (shareN (S ++ [(1 + (x : Int), (p : Int))]) ≤ 1 * shareD (S ++ [(1 + (x : Int), (p : Int))])) = true := decide_eq_true hf
            rw [hf2]
            clear hf hf2
            have HRD := Lib.hid (HRC.out.later ((Only.refl (fun _ => False) wc).alloc (.cells #[.int .i64 (1 + (x : Int)), .int .i64 (p : Int)] 58)))
            have HZC : Hid (w.heap.size ≤ (wc.alloc (.cells #[.int .i64 (1 + (x : Int)), .int .i64 (p : Int)] 58)).heap.size) := Lib.hid (Nat.le_trans HNC.out.size (by simp))
            go_wp2_with (at_builtin; go_must (refine Us.append_row rfl _ _ rfl w.heap.size wc.heap.size 1 (.slice a3 S.length c3) S (1 + (x : Int), (p : Int)) rfl rfl HRD.out (heap_alloc_new wc _) (by have := HSL.out; omega) HZC.out ?_); go_must (intro v7 w7 hr7 hO7 hb7); have HR7 := Lib.hid hr7; have HO7 := Lib.hid (only_row (HNC.out.alloc _) HRC.out hO7); clear hr7 hO7 hb7)
            go_roundw
            case rel => exact ⟨j + 1, _, by omega, by go_num, by simp; omega, HS2.out, HR7.out, HO7.out⟩
            case measure => simp [intOf]; omega
          · have hf2 : decide (shareN (S ++ [(1 + (x : Int), (p : Int))]) ≤ 1 * shareD (S ++ [(1 + (x : Int), (p : Int))])) = false := decide_eq_false hf
            rw [hf2]
            clear hf hf2
            go_wp2_with fail
            go_roundw
            case rel => exact ⟨j + 1, S, by omega, by go_num, by omega, HOK.out, HRC.out, HNC.out⟩
            case measure => simp [intOf]; omega
      · obtain rfl : j = m := by omega
        go_wp2_with fail
        go_ret
        exact ⟨_, S, rfl, HOK.out, HR.out, HO.out⟩
end Go.Proofs.Ytijpiloljgpnkaa.Ad
