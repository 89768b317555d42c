/- The contract of Step. -/
import Derived.Test.YtiodfpoaakcejaaWheel
import Derived.Test.YtiodfpoaakcejaaInts
import Derived.Deep.LoopGhost
namespace Go.Proofs.Ytiodfpoaakcejaa.Wh
open Go.ChangeShapes Go.WideShapes Go.ChangeAt Go.RowKit Go.Maps
open Go.Proofs.Ytiodfpoaakcejaa.Hp
set_option linter.unusedVariables false

/-- The ids of timers. -/
abbrev idsOf (D : Timers) : List Int := D.map (·.1)

section
variable {M : Nat → Prop} {w : World} {p : Nat} {now : Int} {S : Timers}

theorem wstep_past (a : Int) (h : WheelAt M w p now S) (hd : dist now a < 0) :
    Calls Try.prog 17 #[.pointer (some ⟨p, 0, none⟩), .int .u32 a] w fun e w' => e = .returned (.tuple #[.slice none 0 0, .int .i64 1]) ∧ w = w' := by
  have hu := Lib.hid (until_any a h)
  clear h
  generalize dist now a = d at *
  go_enter Try.func17, Try.ntmps17
  go_wp2_with (go_at_call 29; refine hu.out.mono ?_; rintro e w' ⟨rfl, rfl⟩)
  go_ret2
  exact ⟨rfl, rfl⟩

/-- What is known behind a Step. -/
def Stepped (M : Nat → Prop) (w : World) (p : Nat) (t : Int) (S : Timers) (e : Ending) (w' : World) : Prop :=
  ∃ v, e = .returned (.tuple #[v, .int .i64 0]) ∧ Ints w' w.heap.size v (idsOf (goers S t)) ∧ WheelAt M w' p t (stay S t) ∧ Only M w w'

/-- Where a Step stands: D have gone, R are left. -/
structure Going (M : Nat → Prop) (w : World) (p : Nat) (t : Int) (S D R : Timers) (v : Value) (wr : World) : Prop where
  perm : (D ++ R).Perm S
  sorted : Sorted D
  due : ∀ d ∈ D, d.2 ≤ t
  ahead : ∀ d ∈ D, ∀ r ∈ R, prec r d = false
  row : Ints wr w.heap.size v (idsOf D)
  wheel : WheelAt M wr p t R
  only : Only M w wr

theorem least_any {R : Timers} (h : R ≠ []) : ∃ m, Least R m := by
  induction R with
  | nil => exact absurd rfl h
  | cons x xs ih =>
    by_cases e : xs = []
    · subst e; exact ⟨x, by simp, by simp [prec_irrefl]⟩
    · obtain ⟨m, h1, h2⟩ := ih e
      rcases Bool.eq_false_or_eq_true (prec x m) with hv | hv
      · refine ⟨x, by simp, fun y hy => ?_⟩
        rcases List.mem_cons.1 hy with rfl | hy
        · exact prec_irrefl _
        · exact le_trans' (prec_asymm hv) (h2 y hy)
      · refine ⟨m, List.mem_cons_of_mem _ h1, fun y hy => ?_⟩
        rcases List.mem_cons.1 hy with rfl | hy
        · exact hv
        · exact h2 y hy

theorem going_zero {t : Int} {wr : World} (hW : WheelAt M wr p t S) (hO : Only M w wr) : Going M w p t S [] S (.slice none 0 0) wr :=
  ⟨List.Perm.refl S, List.Pairwise.nil, (fun _ h => absurd h (by simp)), (fun _ h => absurd h (by simp)), ints_nil _ _, hW, hO⟩

theorem going_done {t : Int} {D R : Timers} {v : Value} {wr : World} (h : Going M w p t S D R v wr) (hr : ∀ r ∈ R, t < r.2) : Stepped M w p t S (.returned (.tuple #[v, .int .i64 0])) wr := by
  obtain ⟨h1, h2⟩ := goers_done h.perm h.sorted h.due hr
  exact ⟨v, rfl, by rw [h1]; exact h.row, h.wheel.perm h2, h.only⟩

theorem without_least {R : Timers} {m : Int × Int} (hi : Ids R) (hm : m ∈ R) : (m :: without R m.1).Perm R := by
  have hp : (m :: R.erase m).Perm R := (List.perm_cons_erase hm).symm
  exact ((without_of hi hp).symm.cons m).trans hp

theorem going_later {t : Int} {D R : Timers} {v : Value} {wr w1 : World} (h : Going M w p t S D R v wr) (hO : Only (fun _ => False) wr w1) : Going M w p t S D R v w1 :=
  ⟨h.perm, h.sorted, h.due, h.ahead, h.row.later hO, h.wheel.later hO, h.only.trans hO (fun _ _ e => e.elim)⟩

theorem going_apart {t : Int} {D R : Timers} {v : Value} {wr : World} (h : Going M w p t S D R v wr) (hM : ∀ k, M k → k < w.heap.size) : ∀ k, v.ownBlock = some k → ¬ M k := fun k hk hMk => by
  have := (h.row.block hk).1; have := hM k hMk; omega

theorem going_next {t : Int} {D R : Timers} {m : Int × Int} {v v' : Value} {wr w2 w3 : World} (h : Going M w p t S D R v wr) (hM : ∀ k, M k → k < w.heap.size) (hm : Least R m) (ht : m.2 ≤ t)
    (hw : WheelAt M w2 p t (without R m.1)) (hO : Only M wr w2) (hrow : Ints w3 w.heap.size v' (idsOf (D ++ [m]))) (hO3 : Only (fun k => v.ownBlock = some k) w2 w3) : Going M w p t S (D ++ [m]) (without R m.1) v' w3 := by
  have hp := without_least h.wheel.ids hm.1
  have hv : ∀ k, v.ownBlock = some k → ¬ M k := fun k hk hMk => by
    have := (h.row.block hk).1; have := hM k hMk; omega
  refine ⟨?_, sorted_snoc h.sorted (fun d hd => h.ahead d hd m hm.1), fun d hd => ?_, fun d hd r hr => ?_, hrow, hw.keep hO3 (fun k _ hMk e => hv k e hMk), ?_⟩
  · rw [List.append_assoc]; exact (hp.append_left D).trans h.perm
  · rcases List.mem_append.1 hd with hd | hd
    · exact h.due d hd
    · simp at hd; subst hd; exact ht
  · have hrR : r ∈ R := hp.mem_iff.1 (List.mem_cons_of_mem _ hr)
    rcases List.mem_append.1 hd with hd | hd
    · exact h.ahead d hd r hrR
    · simp at hd; subst hd; exact hm.2 r hrR
  · exact (h.only.trans hO (fun _ _ e => e)).trans (T := fun k => v.ownBlock = some k ∧ w.heap.size ≤ k) ⟨hO3.os, hO3.tape, hO3.output, hO3.size, fun k hk hn => hO3.block k hk (fun e => hn ⟨e, (h.row.block e).1⟩)⟩ (fun k hk e => absurd hk (by omega))

theorem going_count {t : Int} {D R : Timers} {v : Value} {wr : World} {m : Int × Int} {k : Nat} (h : Going M w p t S D R v wr) (hm : m ∈ R) (hk : R.length = k) : (without R m.1).length = k - 1 := by
  have := (without_least h.wheel.ids hm).length_eq
  simp only [List.length_cons] at this; omega

theorem ints_snoc {base n : Nat} {v : Value} {D : Timers} {m : Int × Int} {w3 : World} (hn : (idsOf D).length = n) (h : w3.ownsRow base 3 1 v (n + 1) (numCells (idsOf D) ++ [.int .i64 m.1])) : Ints w3 base v (idsOf (D ++ [m])) := by
  unfold Ints idsOf
  rw [List.map_append, show List.map (fun x : Int × Int => x.1) [m] = [m.1] from rfl, numCells_snoc]
  subst hn
  simpa using h

theorem only_grown {w2 w3 : World} {o : Obj} {row : Option Nat} (h : (w2.alloc o).grownBy w3 row) : Only (fun k => row = some k) w2 w3 :=
  ((Only.refl (fun _ => False) w2).alloc o |>.mono (T := fun k => row = some k) (fun _ _ h => h.elim)).trans (Only.of_grown (S := fun k => row = some k) h (fun k hk => hk)) (fun _ _ h => h)

set_option maxRecDepth 100000 in
set_option maxHeartbeats 1000000 in
theorem wstep (a : Int) (h : WheelAt M w p now S) (hM : ∀ k, M k → k < w.heap.size) (hd : 0 ≤ dist now a) (hn : now ≤ 4611686018427387904) :
    Calls Try.prog 17 #[.pointer (some ⟨p, 0, none⟩), .int .u32 a] w (Stepped M w p (now + dist now a) S) := by
  have hu := Lib.hid (until_any a h)
  have h2 := dist_hi now a
  have h0 := h.past
  have hln := h.len
  obtain ⟨c0, f0⟩ := h.time
  generalize dist now a = d at *
  have hset := h.heap.set 0 (by omega) (by omega) rfl (.int .i64 (now + d))
  have hW : WheelAt M (w.setCell ⟨p, 0, none⟩ (.int .i64 (now + d))) p (now + d) S := ⟨hset.1.rest (fun i _ _ => by unfold clock; split <;> rfl), by omega⟩
  have G0 := Lib.hid (going_zero hW hset.2)
  have HM := Lib.hid hM
  clear h hset hW hM
  obtain ⟨i0, hi, hz0, hz1, hz2⟩ := info_parts Try.infoInt
  have ht : now + d ≤ 9223372036854775807 := by omega
  have ht0 : -9223372036854775808 ≤ now + d := by omega
  go_enter Try.func17, Try.ntmps17
  go_wp2_with (go_at_call 29; refine hu.out.mono ?_; rintro e w' ⟨rfl, rfl⟩)
  go_loopg [7] S.length (fun k due wr => ∃ D R, R.length = k ∧ Going M w p (now + d) S D R due wr)
  case atStart => exact ⟨[], S, rfl, G0.out⟩
  case round =>
    obtain ⟨D, R, hk, hG⟩ := hrel
    have HG := Lib.hid hG
    have HK := Lib.hid hk
    clear hG hk
    cases R with
    | nil =>
      go_wp2_with (go_at_call 32; refine (hpeek_nil HG.out.wheel.heap).mono ?_; rintro e w' ⟨rfl, rfl⟩)
      go_ret2
      exact going_done HG.out (fun r hr => absurd hr (by simp))
    | cons r R =>
      generalize hRe : r :: R = R1 at *
      have HNE := Lib.hid (show R1 ≠ [] by rw [← hRe]; simp)
      clear hRe
      obtain ⟨m, hm⟩ := least_any HNE.out
      have HM1 := Lib.hid hm
      clear hm
      have hl1 : D.length + R1.length ≤ 6000000000000 := by
        have := HG.out.perm.length_eq; rw [List.length_append] at this; omega
      by_cases hmt : now + d < m.2
      · go_wp2_with (go_at_call 32; refine (hpeek HG.out.wheel.heap HNE.out).mono ?_; rintro e w1 ⟨m', hm', rfl, hO⟩; obtain rfl := least_one hm' HM1.out; have HO := Lib.hid hO; have hc1 := (HG.out.wheel.later hO).time.1; clear hm' hO)
        go_ret2
        exact going_done (going_later HG.out HO.out) (fun r hr => by
          have := HM1.out.2 r hr
          simp only [prec, decide_eq_false_iff_not] at this
          omega)
      · have hmt2 : m.2 ≤ now + d := by omega
        have C2 := Lib.hid (one_num m.1)
        have C3 := Lib.hid (show D.length + 1 ≤ maxLen from (max_of (by omega)).1)
        have C4 := Lib.hid (show (D.length + 1) * 8 ≤ 140737488355328 from (max_of (by omega)).2)
        have HL := Lib.hid (show (idsOf D).length = D.length from by simp)
        go_wp2_with (first
          | (go_at_call 32; refine (hpeek HG.out.wheel.heap HNE.out).mono ?_; rintro e w1 ⟨m', hm', rfl, hO⟩; obtain rfl := least_one hm' HM1.out; have HO := Lib.hid hO; have hc1 := (HG.out.wheel.later hO).time.1; clear hm' hO)
          | (go_at_call 33; refine (hpop (HG.out.wheel.later HO.out).heap HM1.out).mono ?_; rintro e w2 ⟨rfl, hh, hO2⟩; have hrow := (going_later HG.out HO.out).row.keep hO2 (going_apart HG.out HM.out); have HROW := Lib.hid hrow; have HH := Lib.hid hh; have HO2 := Lib.hid hO2; clear hh hO2 hrow)
          | (at_builtin; go_must (refine wpList_append_own _ rfl _ _ 29 rfl w.heap.size 3 i0 (.int .i64 0) 1 8 Try.underlying29 hi hz0 hz1 hz2 rfl (by decide) _ D.length (numCells (idsOf D)) rfl (HL.out ▸ HROW.out.alloc _) ⟨w2.heap.size, 0, none⟩ 1 1 [.int .i64 m'.1] rfl rfl (World.news_of_block (cs := #[.int .i64 m'.1]) (t := 3) (fr := (0, 0)) (heap_alloc_new w2 _)) ?_ ?_ ?_ ?_ ?_); (go_must (exact C2.out)); (go_must (exact C3.out)); (go_must (exact C4.out)); (go_must (exact Nat.le_trans (Nat.le_trans HG.out.only.size HO.out.size) (Nat.le_trans HO2.out.size (by simp)))); go_must (intro v3 w3 hown3 hgrow _); have HOW := Lib.hid hown3; have HGR := Lib.hid hgrow; clear hown3 hgrow))
        go_roundg (gk - 1)
        case measure => have := HK.out; have := List.length_pos_of_mem HM1.out.1; omega
        case rel => exact ⟨_, _, going_count HG.out HM1.out.1 HK.out, going_next (going_later HG.out HO.out) HM.out HM1.out hmt2 ⟨HH.out, by omega⟩ HO2.out (ints_snoc HL.out HOW.out) (only_grown HGR.out)⟩
end
end Go.Proofs.Ytiodfpoaakcejaa.Wh
