/- slices.Concat of tasks. -/
import Derived.Test.YtlohjlhopbhnoaaAdSets
import Derived.Lib.AppendZeros
import Derived.Laws.AppendOwnNone
namespace Go.Proofs.Ytlohjlhopbhnoaa.Ad
open Go.ChangeShapes Go.WideShapes Go.ChangeAt Go.RowKit
set_option linter.unusedVariables false

theorem grow_zero (w : World) : Calls Try.prog 57 #[.slice none 0 0, .int .i64 0] w (fun e w' => ∃ v, e = .returned v ∧ Us.RowAt w' w.heap.size v [] ∧ Only (fun _ => False) w w') := by
  go_enter Try.func57, Try.ntmps57
  go_wp2
  go_ret
  exact ⟨_, rfl, Us.row_nil _ _, Only.refl _ _⟩

set_option maxRecDepth 100000 in
theorem grow_pos (n : Nat) (h0 : 0 < n) (h : n ≤ 1000000) (w : World) : Calls Try.prog 57 #[.slice none 0 0, .int .i64 n] w (fun e w' => ∃ v, e = .returned v ∧ Us.RowAt w' w.heap.size v [] ∧ Only (fun _ => False) w w') := by
  obtain ⟨i0, hi, hz0, hz1, hz2⟩ := info_parts Us.Try.infoElem
  have hrun := Lib.hid (Lib.run_append_nil_zeros (P := Try.prog) w 23 3 23 36 i0 (.agg #[.int .i64 0, .int .i64 0]) .i64 .i64 Try.underlying23 Try.underlying3 hi hz0 n h0 (by omega) (by omega) (by rw [hz2]; omega))
  have hge := grownCap_ge w n 0 36
  have hle := grownCap_le_maxLen w n 0 36 (by unfold maxLen; omega)
  clear hi hz0 hz1 hz2
  generalize grownCap w n 0 36 = c at *
  have hs : (Builtin.zeroCells (Value.cells (.agg #[.int .i64 0, .int .i64 0])) n ++ Builtin.zeroCells (Value.cells (.agg #[.int .i64 0, .int .i64 0])) (c - n)).size = c * 2 := by
    rw [Array.size_append, size_zeroCells, size_zeroCells]
    have : (Value.cells (.agg #[.int .i64 0, .int .i64 0])).size = 2 := by simp [Value.cells]
    rw [this, ← Nat.add_mul]; congr 1; omega
  have HO := Lib.hid (World.ownsRow_made (e := 36) w.drew (Builtin.zeroCells (Value.cells (.agg #[.int .i64 0, .int .i64 0])) n ++ Builtin.zeroCells (Value.cells (.agg #[.int .i64 0, .int .i64 0])) (c - n)) c (Nat.le_refl _) hle hs)
  have HB := Lib.hid (((Only.refl (fun _ => False) w).drew).alloc (.cells (Builtin.zeroCells (Value.cells (.agg #[.int .i64 0, .int .i64 0])) n ++ Builtin.zeroCells (Value.cells (.agg #[.int .i64 0, .int .i64 0])) (c - n)) 36))
  clear hs hle
  generalize Builtin.zeroCells (Value.cells (.agg #[.int .i64 0, .int .i64 0])) n ++ Builtin.zeroCells (Value.cells (.agg #[.int .i64 0, .int .i64 0])) (c - n) = cur at *
  go_enter Try.func57, Try.ntmps57
  go_wp2_with (at_builtin; refine Lib.wpList_append_run _ rfl _ _ _ _ rfl _ _ rfl rfl _ _ hrun.out ?_)
  go_ret
  exact ⟨_, rfl, HO.out, HB.out⟩

/-- append(a, b..): all tasks of a slice that lies anywhere. -/
theorem append_view {w : World} {ops : Array Oper} {rest : List Oper} {o : Oper} {a : Act} {Q : Exit → Act → World → Prop} (hgd : o.guard = none) (s x : Operand)
    (ho : o.op = .call { callee := .builtin .append, args := #[s, x], argTypes := #[23, 23] })
    (base : Nat) (v vx : Value) (S Z : List Use) (hs : a.eval s = v) (hx : a.eval x = vx) (hown : Us.RowAt w base v S) (hr : UV w vx Z) (hnil : ∀ l c, vx = .slice none l c → c = 0)
    (hn : S.length + Z.length ≤ 8796093022144) (hbase : base ≤ w.heap.size)
    (h : ∀ v' w', Us.RowAt w' base v' (S ++ Z) → Only (fun k => v.ownBlock = some k) w w' → wpList Try.prog ops Q rest (a.put o.dst v') w') : wpList Try.prog ops Q (o :: rest) a w := by
  obtain ⟨i0, hi, hz0, hz1, hz2⟩ := info_parts Us.Try.infoElem
  obtain ⟨ad, cap, rfl, hc1, hc2, h2⟩ := hr
  cases ad with
  | none =>
    have hz : Z = [] := by
      by_cases e : Z = []
      · exact e
      · obtain ⟨b, off, hh, _⟩ := h2 0 (List.length_pos_iff.2 e); cases hh
    subst hz
    have := hnil _ _ rfl; subst this
    refine wpList_append_own_none hgd s x 23 ho base 36 i0 2 Try.underlying23 hi v S.length (flat Us.enc S) hs hown hx ?_
    exact h v w (by rw [List.append_nil]; exact hown) (Only.refl _ w)
  | some ad =>
    refine wpList_append_own w hgd s x 23 ho base 36 i0 (.agg #[.int .i64 0, .int .i64 0]) 2 16 Try.underlying23 hi hz0 hz1 hz2 rfl (by decide) v S.length (flat Us.enc S) hs hown ad Z.length cap (flat Us.enc Z) hx (flat_len Us.enc_len Z) ?_ (flat_cells Us.enc_one Z) (Us.lim_of hn).1 (Us.lim_of hn).2 hbase ?_
    · intro j u hj
      have hlt := (List.getElem?_eq_some_iff.1 hj).1
      rw [flat_len Us.enc_len] at hlt
      have hq : j / 2 < Z.length := by omega
      obtain ⟨b, off, hh, -, q1, q2⟩ := h2 (j / 2) hq
      cases hh
      rw [add_plain]
      have hf := flat_at Us.enc_len Z (j / 2) (j % 2) hq (by omega)
      rw [show j / 2 * 2 + j % 2 = j by omega, hj] at hf
      have hnn : nthU Z (j / 2) = Z[j / 2] := by unfold nthU; simp [List.getD, hq]
      rw [hnn] at q1 q2
      rcases Nat.mod_two_eq_zero_or_one j with e | e
      · rw [e] at hf
        rw [show off + j = off + j / 2 * 2 by omega, q1]
        simp [Us.enc] at hf; rw [hf]
      · rw [e] at hf
        rw [show off + j = off + j / 2 * 2 + 1 by omega, q2]
        simp [Us.enc] at hf; rw [hf]
    · intro v' w' hown' hg _
      refine h v' w' ?_ (Only.of_grown hg (fun k hk => hk))
      unfold Us.RowAt
      rw [List.length_append, flat_append]
      exact hown'

theorem nil_cap {w : World} {v : Value} {B : Nat} {S : List Use} (h : Us.RowAt w B v S) : ∀ l c, v = .slice none l c → c = 0 := by
  intro l c e
  rcases h.2 with ⟨rfl, h0⟩ | ⟨g, cap, cur, rfl, _⟩
  · cases e; rfl
  · cases e

set_option maxRecDepth 100000 in
set_option maxHeartbeats 2000000 in
/-- Concat of two slices, that lie in cells of a block. -/
theorem concat_two (p cap : Nat) (v1 v2 : Value) (S Z : List Use) (w : World) (c1 : w.cell? ⟨p, 0, none⟩ = some v1) (c2 : w.cell? ⟨p, 1, none⟩ = some v2) (h1 : UV w v1 S) (h2 : UV w v2 Z) (n1 : ∀ l c, v1 = .slice none l c → c = 0) (n2 : ∀ l c, v2 = .slice none l c → c = 0) (hl : S.length + Z.length ≤ 1000000) :
    Calls Try.prog 32 #[.slice (some ⟨p, 0, none⟩) 2 cap] w (fun e w' => ∃ v, e = .returned v ∧ Us.RowAt w' w.heap.size v (S ++ Z) ∧ Only (fun _ => False) w w') := by
  have H1 := Lib.hid h1
  have H2 := Lib.hid h2
  have N1 := Lib.hid n1
  have N2 := Lib.hid n2
  have HL := Lib.hid hl
  obtain ⟨a1, p1, rfl, -⟩ := h1
  obtain ⟨a2, p2, rfl, -⟩ := h2
  have hg : Hid (Calls Try.prog 57 #[.slice none 0 0, .int .i64 ((S.length : Int) + Z.length)] w (fun e w' => ∃ v, e = .returned v ∧ Us.RowAt w' w.heap.size v [] ∧ Only (fun _ => False) w w')) := by
    rw [show (S.length : Int) + Z.length = ((S.length + Z.length : Nat) : Int) by omega]
    by_cases h0 : S.length + Z.length = 0
    · show Calls _ _ _ _ _
      rw [h0]; exact grow_zero w
    · exact Lib.hid (grow_pos _ (by omega) (by omega) w)
  clear n1 n2
  go_enter Try.func32, Try.ntmps32
  go_wp2_with fail
  refine wp_loop_rounds 3 ?_
  rw [rounds_succ]
  go_wp2_with fail
  rw [rounds_succ]
  go_wp2_with fail
  rw [rounds_succ]
  go_wp2_with (go_at_call 57; (with_reducible refine hg.out.mono ?_); rintro e w1 ⟨v, rfl, hown, hO⟩; have HW := Lib.hid hown; have HO := Lib.hid hO; have HZ := Lib.hid hO.size; have d1 := only_cell0 hO c1; have d2 := only_cell0 hO c2; clear hown hO)
  have V1 := Lib.hid (H1.out.later HO.out)
  have L1 : Hid (([] : List Use).length + S.length ≤ 8796093022144) := Lib.hid (by simp; omega)
  refine wp_loop_rounds 3 ?_
  rw [rounds_succ]
  go_wp2_with (at_builtin; go_must (refine append_view rfl _ _ rfl w.heap.size _ _ [] S rfl rfl HW.out V1.out N1.out L1.out HZ.out ?_); go_must (intro v2 w2 hr2 hO2); have HR2 := Lib.hid hr2; have HO2 := Lib.hid (only_row HO.out HW.out hO2); have hsz := HO2.out.size; have HZ2 := Lib.hid hsz; have d3 := only_cell0 HO2.out c1; have d4 := only_cell0 HO2.out c2; clear hr2 hO2 hsz)
  have V2 := Lib.hid (H2.out.later HO2.out)
  have L2 : Hid (([] ++ S : List Use).length + Z.length ≤ 8796093022144) := Lib.hid (by simp; omega)
  rw [rounds_succ]
  go_wp2_with (at_builtin; go_must (refine append_view rfl _ _ rfl w.heap.size _ _ ([] ++ S) Z rfl rfl HR2.out V2.out N2.out L2.out HZ2.out ?_); go_must (intro v3 w3 hr3 hO3); have HR3 := Lib.hid hr3; have HO3 := Lib.hid (only_row HO2.out HR2.out hO3); clear hr3 hO3)
  rw [rounds_succ]
  go_wp2_with fail
  go_ret
  exact ⟨_, rfl, HR3.out, HO3.out⟩
end Go.Proofs.Ytlohjlhopbhnoaa.Ad
