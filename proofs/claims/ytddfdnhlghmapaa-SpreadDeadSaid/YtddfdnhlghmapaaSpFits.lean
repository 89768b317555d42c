/- Contracts of package spread's fits and AddDead, and of reserve.New. -/
import Derived.Test.YtddfdnhlghmapaaSpOwn
import Derived.Test.YtddfdnhlghmapaaAdOps
import Derived.Deep.RegionHeld3
namespace Go.Proofs.Ytddfdnhlghmapaa.Sp
open Go.ChangeShapes Go.WideShapes Go.ChangeAt Go.RowKit Go.Maps
open Go.Proofs.Ytddfdnhlghmapaa.Vt Go.Proofs.Ytddfdnhlghmapaa.Ad
set_option linter.unusedVariables false

theorem step_use {w : World} {ops : Array Oper} {o : Oper} {a : Act} {K : Act → World → Prop} {Q : Exit → Act → World → Prop} {E : Prop} (hgd : o.guard = none) (s y : Operand)
    (ho : o.op = .call { callee := .builtin .append, args := #[s, y], argTypes := #[67, 67] })
    (w1 : World) (base b c : Nat) (v : Value) (S : List Use) (u : Use) (hown : Us.RowAt w1 base v S) (hO : Only (fun _ => False) w1 w) (hs : a.eval s = v) (hy : a.eval y = .slice (some ⟨b, 0, none⟩) 1 c)
    (hb : w.heap[b]? = some (.cells #[.int .i64 u.1, .int .i64 u.2] 71 (0, 0))) (hl : S.length ≤ 1000000) (hbase : base ≤ w.heap.size)
    (h : ∀ g' c' w', Us.RowAt w' base (.slice (some ⟨g', 0, none⟩) (S.length + 1) c') (S ++ [u]) → Only (fun k => v.ownBlock = some k) w w' → K (a.put o.dst (.slice (some ⟨g', 0, none⟩) (S.length + 1) c')) w') :
    if Region.wanted o (yielded ops a.tmps) = true then Oper.wp Try.prog o a w K Q else E := by
  obtain ⟨i0, hi, hz0, hz1, hz2⟩ := info_parts Us.Try.infoElem
  refine step_append_lies w hgd s y 67 ho base 71 i0 (.agg #[.int .i64 0, .int .i64 0]) 2 16 Try.underlying67 hi hz0 hz1 hz2 rfl (by decide) v S.length (flat Us.enc S) hs (hown.later hO) ⟨b, 0, none⟩ 1 c (Us.enc u) hy rfl
    (World.news_of_block (cs := #[.int .i64 u.1, .int .i64 u.2]) hb) (Us.enc_one u) (by omega) (by unfold maxLen; omega) (by omega) hbase w.heap.size rfl ?_
  intro g cap w' hown' hg hat hlt
  refine h _ _ w' ?_ (Only.of_grown (S := fun k => v.ownBlock = some k) hg (fun k hk => hk))
  unfold Us.RowAt
  rw [List.length_append, flat_append, flat_one]
  exact hown'

/-- A row of one, in a block of the call's own. -/
theorem use_one {w : World} {B g : Nat} {u1 u2 : Int} (hg : w.heap[g]? = some (.cells #[.int .i64 u1, .int .i64 u2] 71 (0, 0))) (hB : B ≤ g) : Us.RowAt w B (.slice (some ⟨g, 0, none⟩) 1 1) [(u1, u2)] :=
  ⟨rfl, Or.inr ⟨g, 1, _, rfl, hB, hg, Nat.le_refl _, by unfold maxLen; omega, rfl, rfl⟩⟩

/-- What the tasks with deadlines have reserved. -/
def deadsTo (S : St) : Nat → List Use
  | 0 => []
  | t + 1 => if (S.T t).c = 3 then deadsTo S t ++ [((S.T t).rb, (S.T t).rp)] else deadsTo S t
theorem deadsTo_len (S : St) (k : Nat) : (deadsTo S k).length ≤ k := by
  induction k with
  | zero => exact Nat.le_refl _
  | succ k ih =>
    show (if (S.T k).c = 3 then _ else deadsTo S k : List Use).length ≤ _
    split
    · rw [List.length_append]; simp; omega
    · omega
def fitsL (S : St) (u : Use) : List Use := u :: deadsTo S 17
def fitsB (S : St) (u : Use) : Bool := decide (chk (fitsL S u) = 0) && decide (shareN (fitsL S u) ≤ S.n * shareD (fitsL S u))
theorem deads_no {S : St} {k : Nat} (h : (S.T k).c ≠ 3) : deadsTo S (k + 1) = deadsTo S k := by
  show (if (S.T k).c = 3 then _ else _) = _
  rw [if_neg h]
theorem deads_yes {S : St} {k : Nat} (h : (S.T k).c = 3) : deadsTo S (k + 1) = deadsTo S k ++ [((S.T k).rb, (S.T k).rp)] := by
  show (if (S.T k).c = 3 then _ else _) = _
  rw [if_pos h]

section
variable {w w' : World} {p : Nat} {S : St} {B : Int}
theorem fits_truth (v : Value) (u : Use) (h : UV w v (fitsL S u)) (n1 : 1 ≤ S.n) (n4 : S.n ≤ 4) : ∃ y, Calls Try.prog 104 #[v, .int .i64 (S.n : Nat)] w (Truth (fitsB S u) y w) := by
  unfold fitsB
  by_cases hc : chk (fitsL S u) = 0
  · rw [decide_eq_true hc, Bool.true_and]
    exact ⟨0, fits_good v _ S.n w h hc ⟨n1, n4⟩⟩
  · rw [decide_eq_false hc, Bool.false_and]
    exact ⟨_, fits_bad v _ _ w h hc⟩

set_option maxHeartbeats 1000000 in
theorem fits_any (h : RunAt w p S) (n1 : 1 ≤ S.n) (n4 : S.n ≤ 4) (u : Use) :
    Calls Try.prog 77 #[.pointer (some ⟨p, 0, none⟩), .agg #[.int .i64 u.1, .int .i64 u.2]] w fun e w' => e = .returned (.bool (fitsB S u)) ∧ Only (fun _ => False) w w' := by
  have H := Lib.hid h
  have HF := Lib.hid (fun (W : World) v (h : UV W v (fitsL S u)) => fits_truth v u h n1 n4)
  have hlt := h.lt
  clear h
  obtain ⟨u1, u2⟩ := u
  go_enter Try.func77, Try.ntmps77
  go_wp2_with fail
  have HV0 : Hid (Us.RowAt _ w.heap.size (.slice (some ⟨w.heap.size + 1, 0, none⟩) 1 1) [(u1, u2)]) := Lib.hid (use_one (heap_alloc2_new w (.cells #[.int .i64 u1, .int .i64 u2] 71) (.cells #[.int .i64 u1, .int .i64 u2] 71)) (by omega))
  have HO0 := Lib.hid ((((Only.refl (fun _ => False) w).alloc (.cells #[.int .i64 u1, .int .i64 u2] 71)).alloc (.cells #[.int .i64 u1, .int .i64 u2] 71)))
  generalize (w.alloc _).alloc _ = w1 at *
  go_loopw [5, 12] (fun v i wr => ∃ (k g c : Nat), k ≤ 17 ∧ i = .int .i64 k ∧ v = .slice (some ⟨g, 0, none⟩) (1 + (deadsTo S k).length) c ∧ Us.RowAt wr w.heap.size (.slice (some ⟨g, 0, none⟩) (1 + (deadsTo S k).length) c) ((u1, u2) :: deadsTo S k) ∧ Only (fun _ => False) w wr) (fun _ i _ => 17 - (intOf i).toNat)
  case atStart => exact ⟨0, _, _, by omega, rfl, rfl, HV0.out, HO0.out⟩
  case round =>
    clear HV0 HO0
    obtain ⟨k, g, c, hk, rfl, rfl, hV, hO⟩ := hrel
    have HV := Lib.hid hV
    have HO := Lib.hid hO
    have HR := Lib.hid (H.out.later hO)
    clear hV hO
    by_cases hlt17 : k < 17
    · have g1 : (k : Int) < 17 := by omega
      have g2 : (0 : Int) ≤ k := by omega
      have cc := HR.out.qc k hlt17
      have HN := Lib.hid (deads_no (S := S) (k := k))
      have HYs := Lib.hid (deads_yes (S := S) (k := k))
      have HL := Lib.hid (deadsTo_len S k)
      by_cases h3 : (S.T k).c = 3
      · rw [h3] at cc
        have EY := Lib.hid (HYs.out h3)
        have db := HR.out.qrb k hlt17
        have dp := HR.out.qrp k hlt17
        have HS : Hid (w.heap.size ≤ wr.heap.size) := Lib.hid HO.out.size
        clear HN HYs h3
        have HGP : Hid (g ≠ p) := Lib.hid (fun e => by
          subst e
          obtain ⟨cur, hc1⟩ := owns_type HV.out rfl
          obtain ⟨cs, hc2, -⟩ := HR.out
          rw [hc1] at hc2
          injection hc2 with e1; injection e1 with e2 e3
          exact absurd e3 (by decide))
        generalize deadsTo S k = L at *
        go_wp2_with fail
        have d3 := db
        have d4 := dp
        go_region_held3 (fun W => W.cell? ⟨p, 5 + k * 13 + 8, none⟩ = some (.int .i64 (S.T k).rb) ∧ W.cell? ⟨p, 5 + k * 13 + 9, none⟩ = some (.int .i64 (S.T k).rp)) (first | exact ⟨d3, d4⟩ | go_keep)
          (first
            | (refine step_use rfl (.tmp 26) (.tmp 38) rfl wr w.heap.size wr.heap.size 1 (.slice (some ⟨g, 0, none⟩) (1 + L.length) c) ((u1, u2) :: L) ((S.T k).rb, (S.T k).rp) HV.out (((Only.refl _ wr).drew).alloc _) rfl rfl (heap_alloc_new wr.drew _) (by have := HL.out; simp; omega) (by have := HS.out; show _ ≤ (wr.drew.alloc _).heap.size; simp; omega) ?_; intro g5 c5 w5 hr5 hO5; have HV5 := Lib.hid hr5; have HR5 := Lib.hid ((HR.out.later (((Only.refl (fun _ => False) wr).drew).alloc _)).keep hO5 (fun e => HGP.out (by injection e))); have HO5 := Lib.hid ((HO.out.trans (((Only.refl (fun _ => False) wr).drew).alloc _) (fun _ _ e => e)).trans hO5 (fun x hx e => by have hq : w.heap.size ≤ g := (HV.out.block rfl).1; have hx2 : g = x := (by injection e); omega)); have d3 := HR5.out.qrb k hlt17; have d4 := HR5.out.qrp k hlt17; clear hr5 hO5))
        all_goals (
          (try go_wp2_with fail)
          go_roundw
          case rel =>
            have el : 1 + (deadsTo S (k + 1)).length = ((u1, u2) :: L).length + 1 := by rw [EY.out, List.length_append]; simp; omega
            exact ⟨k + 1, g5, c5, by omega, by go_num, by rw [el]; rfl, by rw [el, EY.out]; exact HV5.out, HO5.out⟩
          case measure => simp [intOf]; omega)
      · have EN := Lib.hid (HN.out h3)
        have c3 : ((S.T k).c == 3) = false := by simp [h3]
        clear HN HYs h3
        go_wp2_with fail
        go_roundw
        case rel => exact ⟨k + 1, g, c, by omega, by go_num, by rw [EN.out], by rw [EN.out]; exact HV.out, HO.out⟩
        case measure => simp [intOf]; omega
    · obtain rfl : k = 17 := by omega
      obtain ⟨y, hy⟩ := HF.out wr _ (row_view HV.out)
      have HY := Lib.hid hy
      have cn := HR.out.hn
      clear hy
      generalize (deadsTo S 17).length = L at *
      go_wp2_with (go_at_call 104; (with_reducible refine HY.out.mono ?_); rintro e w2 ⟨rfl, hO2⟩; have HO2 := Lib.hid (quiet_trans HO.out hO2); clear hO2)
      go_ret
      exact ⟨rfl, HO2.out⟩
end
end Go.Proofs.Ytddfdnhlghmapaa.Sp
