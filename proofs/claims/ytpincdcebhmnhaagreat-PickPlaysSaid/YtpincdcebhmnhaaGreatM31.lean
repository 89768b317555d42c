/- Texts of this claim, merged: RkAdd1, NumAs. -/
import Derived.Test.YtpincdcebhmnhaaGreatM28
import Derived.Test.YtpincdcebhmnhaaGreatM25
import Derived.Test.YtpincdcebhmnhaaGreatM23
/- The reference of one processor's scheduler: a task that may not come. -/
namespace Go.Proofs.YtpincdcebhmnhaaGreat.Rk
open Go.ChangeShapes Go.WideShapes Go.ChangeAt Go.RowKit Go.Maps
open Go.Proofs.YtpincdcebhmnhaaGreat.Of Go.Proofs.YtpincdcebhmnhaaGreat.Pk Go.Proofs.YtpincdcebhmnhaaGreat.Vt
set_option linter.unusedVariables false
set_option maxRecDepth 100000

section
variable {B : Nat} {w w' : World} {q : Nat} {M : RSt} {S : St} {b : Int}

theorem C_free (hL : Link S M) {t : Int} (hf : Free S t) : M.C t = 0 := by
  rw [hL.C]; unfold Free at hf
  by_cases e : 1 ≤ t ∧ t ≤ 16
  · rw [if_pos e]; omega
  · rw [if_neg e]

theorem radd_there (h : RefP B w q M) (hL : Link S M) (hI : Inv S b) {k : Nat} (h1 : 1 ≤ k) (h2 : k ≤ 16) (hc : S.C k ≠ 0) (cl x y : Int) :
    Calls Tryz.prog 10 #[.pointer (some ⟨q, 0, none⟩), .int .i64 cl, .int .i64 k, .int .i64 x, .int .i64 y] w (fun e w' => e = .returned (.int .i64 5) ∧ w = w') := by
  have wt : (Lit.int .i64 (k : Int)).wf = true := i64_wf (by omega)
  have pc := h.pc
  have lc := h.mc.look (k : Int) wt
  rw [C_at hL h2 hI] at lc
  have g0 : 0 < S.C k := by rcases hI.cls k (by omega) with c | c | c | c <;> omega
  generalize S.C k = c at lc g0
  clear h hL hI hc wt
  go_enter Tryz.func10, Tryz.ntmps10
  go_wp2_with fail
  go_ret
  exact ⟨rfl, rfl⟩

theorem radd_num (h : RefP B w q M) (t : Int) (wt0 : (Lit.int .i64 t).wf = true) (hc : M.C t = 0) (hn : isN t = false) (cl x y : Int) :
    Calls Tryz.prog 10 #[.pointer (some ⟨q, 0, none⟩), .int .i64 cl, .int .i64 t, .int .i64 x, .int .i64 y] w (fun e w' => e = .returned (.int .i64 1) ∧ w = w') := by
  have pc := h.pc
  have lc := h.mc.look t wt0
  rw [hc] at lc
  have kt := Lib.hid (ref_task t w)
  rw [hn] at kt
  clear h hc hn
  go_enter Tryz.func10, Tryz.ntmps10
  go_wp2_with (go_at_call 30; (with_reducible refine kt.out.mono ?_); rintro e w' ⟨rfl, rfl⟩)
  go_ret
  exact ⟨rfl, rfl⟩

theorem radd_bad1 (h : RefP B w q M) (t : Int) (wt0 : (Lit.int .i64 t).wf = true) (hc : M.C t = 0) (hn : isN t = true) (x y : Int) (hx : isW x = false) :
    Calls Tryz.prog 10 #[.pointer (some ⟨q, 0, none⟩), .int .i64 1, .int .i64 t, .int .i64 x, .int .i64 y] w (fun e w' => e = .returned (.int .i64 1) ∧ w = w') := by
  have pc := h.pc
  have lc := h.mc.look t wt0
  rw [hc] at lc
  have kt := Lib.hid (ref_task t w)
  rw [hn] at kt
  have kw := Lib.hid (ref_weight x w)
  rw [hx] at kw
  clear h hc hn hx
  go_enter Tryz.func10, Tryz.ntmps10
  go_wp2_with (first
    | (go_at_call 30; (with_reducible refine kt.out.mono ?_); rintro e w' ⟨rfl, rfl⟩)
    | (go_at_call 31; (with_reducible refine kw.out.mono ?_); rintro e w' ⟨rfl, rfl⟩))
  go_ret
  exact ⟨rfl, rfl⟩

theorem radd_bad2 (h : RefP B w q M) (t : Int) (wt0 : (Lit.int .i64 t).wf = true) (hc : M.C t = 0) (hn : isN t = true) (x y : Int) (hx : x < 0 ∨ 7 < x) :
    Calls Tryz.prog 10 #[.pointer (some ⟨q, 0, none⟩), .int .i64 2, .int .i64 t, .int .i64 x, .int .i64 y] w (fun e w' => e = .returned (.int .i64 1) ∧ w = w') := by
  have pc := h.pc
  have lc := h.mc.look t wt0
  rw [hc] at lc
  have kt := Lib.hid (ref_task t w)
  rw [hn] at kt
  clear h hc hn
  by_cases x1 : x < 0
  · clear hx
    go_enter Tryz.func10, Tryz.ntmps10
    go_wp2_with (go_at_call 30; (with_reducible refine kt.out.mono ?_); rintro e w' ⟨rfl, rfl⟩)
    go_ret
    exact ⟨rfl, rfl⟩
  · have x2 : 7 < x := by omega
    clear hx
    go_enter Tryz.func10, Tryz.ntmps10
    go_wp2_with (go_at_call 30; (with_reducible refine kt.out.mono ?_); rintro e w' ⟨rfl, rfl⟩)
    go_ret
    exact ⟨rfl, rfl⟩

theorem radd_bad3 (h : RefP B w q M) (t : Int) (wt0 : (Lit.int .i64 t).wf = true) (hc : M.C t = 0) (hn : isN t = true) (x y : Int) (hx : y < 1 ∨ 30 < y ∨ x < 1 ∨ y < x) :
    Calls Tryz.prog 10 #[.pointer (some ⟨q, 0, none⟩), .int .i64 3, .int .i64 t, .int .i64 x, .int .i64 y] w (fun e w' => e = .returned (.int .i64 1) ∧ w = w') := by
  have pc := h.pc
  have lc := h.mc.look t wt0
  rw [hc] at lc
  have kt := Lib.hid (ref_task t w)
  rw [hn] at kt
  clear h hc hn
  by_cases x1 : y < 1
  · clear hx
    go_enter Tryz.func10, Tryz.ntmps10
    go_wp2_with (go_at_call 30; (with_reducible refine kt.out.mono ?_); rintro e w' ⟨rfl, rfl⟩)
    go_ret
    exact ⟨rfl, rfl⟩
  · by_cases x2 : 30 < y
    · clear hx
      go_enter Tryz.func10, Tryz.ntmps10
      go_wp2_with (go_at_call 30; (with_reducible refine kt.out.mono ?_); rintro e w' ⟨rfl, rfl⟩)
      go_ret
      exact ⟨rfl, rfl⟩
    · by_cases x3 : x < 1
      · clear hx
        go_enter Tryz.func10, Tryz.ntmps10
        go_wp2_with (go_at_call 30; (with_reducible refine kt.out.mono ?_); rintro e w' ⟨rfl, rfl⟩)
        go_ret
        exact ⟨rfl, rfl⟩
      · have x4 : y < x := by omega
        clear hx
        go_enter Tryz.func10, Tryz.ntmps10
        go_wp2_with (go_at_call 30; (with_reducible refine kt.out.mono ?_); rintro e w' ⟨rfl, rfl⟩)
        go_ret
        exact ⟨rfl, rfl⟩
end
end Go.Proofs.YtpincdcebhmnhaaGreat.Rk
/- A map's entry asked for and stored, as two runs. -/
namespace Go.Proofs.YtpincdcebhmnhaaGreat.Of
open Go.ChangeShapes Go.WideShapes Go.ChangeAt Go.RowKit Go.Maps Go.WideElems Go.ChangeMaps Go.MapKept
set_option linter.unusedVariables false

theorem entry_runs {P : Program} {t k e : TypeId} {w : World} (K : Keyed P k) (ht : P.underlying t = some (.map k e)) {z : Value} (hz : ∀ u : World, (zeroValue e).run P u = .ok z u) (R : Value → Option (DataW Unit × List MemPlace)) (b n : Nat) (D : DataW Unit) (hown : w.ownsMap P k R b n D) (hn : n < maxLen) (key val : Value) (kl : Lit) (hkey : keyOf P k key = some kl)
    (d : DataW Unit) (ps : List MemPlace) (hval : R val = some (d, ps)) :
    ∃ (v0 s0 : Value) (w1 w2 : World), (Instr.mapEntry t (.map (some b)) key).run P w = .ok (.tuple #[v0, s0]) w1 ∧ (Instr.entryStore t (.map (some b)) s0 val).run P w1 = .ok () w2 ∧ w2.ownsMap P k R b (n + 1) (D.put kl d) ∧ Only (· = b) w w2 := by
  obtain ⟨es, clock, hb, F, hs, hD⟩ := id hown
  obtain ⟨v0, st, ob, r1, ⟨es1, c1, rfl⟩, r2⟩ := entry_store K ht hz hb F hkey
  obtain ⟨w', r3, r4, r5⟩ := hown.store K ht hn hkey hval
  have hb1 : (setBlock w b (.map es1 c1)).heap[b]? = some (.map es1 c1) := heap_setBlock_same hb _
  obtain ⟨o2', q1, q2⟩ := r2 (setBlock w b (.map es1 c1)) val hb1
  rw [r3] at q2
  have ew : w' = setBlock w b o2' := by injection q2
  rw [block_twice, ← ew] at q1
  exact ⟨v0, goInt st, _, w', r1, q1, r4, only_turned r5⟩

section
variable {w : World} {b n : Nat}
theorem NumsAt.assign {f : Int → Int} (h : NumsAt w b n f) (hn : n < 9000000000000000000) (t c : Int) (ht : (Lit.int .i64 t).wf = true) (hc : (Lit.int .i64 c).wf = true) :
    ∃ (v0 s0 : Value) (w1 w2 : World), (Instr.mapEntry 29 (.map (some b)) (.int .i64 t)).run Tryz.prog w = .ok (.tuple #[v0, s0]) w1 ∧ (Instr.entryStore 29 (.map (some b)) s0 (.int .i64 c)).run Tryz.prog w1 = .ok () w2 ∧ NumsAt w2 b (n + 1) (updN f t c) ∧ Only (· = b) w w2 := by
  obtain ⟨D, q1, q2, q3⟩ := h
  obtain ⟨v0, s0, w1, w2, r1, r2, r3, r4⟩ := entry_runs keyed_int Tryz.underlying29 zero_int _ b n D q1 (by unfold maxLen; omega) _ _ _ (keyOf_int_mk Tryz.underlying3 ht) _ [] (plainElem_int Tryz.underlying3 hc)
  exact ⟨v0, s0, w1, w2, r1, r2, NumsAt.put q2 q3 t c r3, r4⟩
theorem OffAt.assign {f : Int → Bool} (h : OffAt w b n f) (hn : n < 9000000000000000000) (t : Int) (c : Bool) (ht : (Lit.int .i64 t).wf = true) :
    ∃ (v0 s0 : Value) (w1 w2 : World), (Instr.mapEntry 30 (.map (some b)) (.int .i64 t)).run Tryz.prog w = .ok (.tuple #[v0, s0]) w1 ∧ (Instr.entryStore 30 (.map (some b)) s0 (.bool c)).run Tryz.prog w1 = .ok () w2 ∧ OffAt w2 b (n + 1) (updI f t c) ∧ Only (· = b) w w2 := by
  obtain ⟨D, q1, q2, q3⟩ := h
  obtain ⟨v0, s0, w1, w2, r1, r2, r3, r4⟩ := entry_runs keyed_int Tryz.underlying30 zero_bool _ b n D q1 (by unfold maxLen; omega) _ _ _ (keyOf_int_mk Tryz.underlying3 ht) _ [] (plainElem_bool Tryz.underlying4 c)
  exact ⟨v0, s0, w1, w2, r1, r2, OffAt.put q2 q3 t c r3, r4⟩
end
end Go.Proofs.YtpincdcebhmnhaaGreat.Of
