/- Contracts of package wait: spoil, Wake; waitBegun. -/
import Derived.Test.YtddfdnhlghmapaaWtOps2
import Derived.Test.YtddfdnhlghmapaaEq
namespace Go.Proofs.Ytddfdnhlghmapaa.Wt
open Go.ChangeShapes Go.WideShapes Go.ChangeAt Go.RowKit Go.Maps
set_option linter.unusedVariables false

section
variable {P : Program}
/-- A load whose run is known. -/
theorem wpList_load_known {ops : Array Oper} {rest : List Oper} {o : Oper} {a : Act} {w : World} {Q : Exit → Act → World → Prop} (hgd : o.guard = none) (ty : TypeId) (x : Operand) (ho : o.op = .load ty x)
    (ad : Addr) (hx : a.eval x = .pointer (some ad)) (v : Value) (hl : (loadVar ty ad).run P w = .ok v w)
    (h : wpList P ops Q rest (a.put o.dst v) w) : wpList P ops Q (o :: rest) a w := by
  refine wpList_plain hgd fun _ hK => ?_
  unfold Oper.wp execOp
  simp only [ho, hx, Instr.loadAt, Instr.sureAddr, Sem.run_bind, Sem.run_pure, Result.andThen_ok, hl]
  exact hK _ _ h
end

/-- The looks as one value. -/
def arrOf (G : Looks) : Array Value := ((List.range 17).map fun i => Value.int .i64 (G i)).toArray
theorem arrOf_get (G : Looks) (k : Nat) (h : k < 17) : (arrOf G)[k]? = some (.int .i64 (G k)) := by simp [arrOf, h]

section
variable {w : World} {p : Nat} {V : Value} {S : Line} {G : Looks}
theorem load_arr (h : QAt w p V S G) : (loadVar 76 ⟨p, 1, none⟩).run Try.prog w = .ok (.agg (arrOf G)) w := by
  have hl : (loadCells ⟨p, 1, none⟩ 17).run Try.prog w = .ok ((List.range 17).map fun i => Value.int .i64 (G i)).toArray w :=
    run_loadCells w ⟨p, 1, none⟩ 17 (fun i => Value.int .i64 (G i)) (fun j hj => by rw [add_plain]; exact h.look hj)
  have hagg : (isAgg 76).run Try.prog w = .ok true w := by kernel_rfl
  rw [show ((List.range 17).map fun i => Value.int .i64 (G i)).toArray = arrOf G from rfl] at hl
  simp [loadVar, Sem.run_bind, hagg, hl]

theorem index_arr (G : Looks) (k : Nat) (hk : k < 17) (w : World) :
    (Instr.index 76 (.agg (arrOf G)) (.int .i64 k)).run Try.prog w = .ok (.int .i64 (G k)) w := by
  have hsz : (sizeOf 75).run Try.prog w = .ok 1 w := by kernel_rfl
  have hg := arrOf_get G k hk
  have hs : (arrOf G).size = 17 := by simp [arrOf]
  unfold Instr.index
  rw [Sem.run_bind]
  simp only [asIntOf, Sem.run_pure, Result.andThen_ok, Sem.run_bind, run_underlying Try.underlying76]
  have h1 : (0 : Int) ≤ k ∧ (k : Int) < ((17 : Nat) : Int) := by omega
  rw [if_pos h1]
  have hg2 : (arrOf G)[k]'(by omega) = .int .i64 (G k) := by
    rw [Array.getElem?_eq_getElem (by omega)] at hg
    exact Option.some.inj hg
  simp [Sem.run_bind, hsz, part, hs, hk, hg2]

theorem spoiltTo_all (G : Looks) {i : Nat} (hi : i < 17) : spoiltTo G 17 i = spoilt G i := by unfold spoiltTo; rw [if_pos hi]
theorem QAt.looks_eq {G' : Looks} (h : QAt w p V S G) (he : ∀ i, i < 17 → G i = G' i) : QAt w p V S G' := by
  obtain ⟨cs, h1, h2, h3, h4⟩ := h.block
  exact ⟨⟨cs, h1, h2, h3, fun i hi => by rw [h4 i hi, he i hi]⟩, h.row⟩
theorem spoiltTo_next (G : Looks) (k : Nat) : ∀ i, spoiltTo G (k + 1) i = if i = k then spoilt G k else spoiltTo G k i := by
  intro i
  unfold spoiltTo
  by_cases e : i = k
  · subst e; rw [if_pos (by omega), if_pos rfl]
  · rw [if_neg e]
    by_cases e2 : i < k
    · rw [if_pos (by omega), if_pos e2]
    · rw [if_neg (by omega), if_neg e2]

set_option maxRecDepth 100000 in
set_option maxHeartbeats 1000000 in
theorem spoil_any (h : QAt w p V S G) : Calls Try.prog 64 #[.pointer (some ⟨p, 0, none⟩)] w fun e w' => e = .returned (.tuple #[]) ∧ QAt w' p V S (spoilt G) ∧ Only (· = p) w w' := by
  have H := Lib.hid h
  have HX := Lib.hid (index_arr G)
  have HA := Lib.hid (load_arr h)
  clear h
  generalize arrOf G = arr at *
  go_enter Try.func64, Try.ntmps64
  go_wp2_with (refine wpList_load_known rfl 76 _ rfl ⟨p, 1, none⟩ rfl (.agg arr) HA.out ?_)
  go_loopw [2, 3, 8] (fun _ _ i wr => ∃ k : Nat, k ≤ 17 ∧ i = .int .i64 k ∧ QAt wr p V S (spoiltTo G k) ∧ Only (· = p) w wr) (fun _ _ i _ => 17 - (intOf i).toNat)
  case atStart => exact ⟨0, Nat.zero_le _, rfl, H.out.looks_eq (fun i _ => by unfold spoiltTo; rw [if_neg (by omega)]), Only.refl _ w⟩
  case round =>
    obtain ⟨k, hk, rfl, hq, hO⟩ := hrel
    have HQ := Lib.hid hq
    have HO := Lib.hid hO
    clear hq hO
    by_cases hlt : k < 17
    · have ix := HX.out k hlt
      have g1 : (k : Int) < 17 := by omega
      have g2 : (0 : Int) ≤ k := by omega
      have c0 := HQ.out.look hlt
      have f0 := HQ.out.frozen (1 + k)
      by_cases h1 : G k = 1
      · have HE := Lib.hid h1
        rw [h1] at ix
        clear h1
        go_wp2_with fail
        go_roundw
        case rel => exact ⟨k + 1, by omega, by go_num, by
          obtain ⟨r1, -⟩ := HQ.out.look_set hlt 2
          refine r1.looks_eq (fun i hi => ?_)
          rw [spoiltTo_next]
          unfold upd spoilt
          by_cases e : i = k
          · rw [if_pos e, if_pos e, if_pos HE.out]
          · rw [if_neg e, if_neg e], HO.out.setCell (p := ⟨p, 1 + k, none⟩) rfl _⟩
        case measure => simp [intOf]; omega
      · have HE := Lib.hid h1
        have h2 : (G k == 1) = false := by simpa using h1
        clear h1
        generalize hz : G k = z at *
        have HZ := Lib.hid hz
        clear hz
        go_wp2_with fail
        go_roundw
        case rel => exact ⟨k + 1, by omega, by go_num, by
          refine HQ.out.looks_eq (fun i hi => ?_)
          rw [spoiltTo_next]
          by_cases e : i = k
          · subst e; rw [if_pos rfl]; unfold spoiltTo spoilt; rw [if_neg (by omega), if_neg (by rw [HZ.out]; exact HE.out)]
          · rw [if_neg e], HO.out⟩
        case measure => simp [intOf]; omega
    · obtain rfl : k = 17 := by omega
      go_wp2_with fail
      go_end0
      exact ⟨rfl, HQ.out.looks_eq (fun i hi => spoiltTo_all G hi), HO.out⟩
end

section
variable {w : World} {p : Nat} {V : Value} {S : Line} {G : Looks}
theorem wk_open {S : Line} {n m : Int} {k : Nat} {W : List Int} {R : Line} (h : wk S n k = (W, R, m)) {x : Int × Bool} (hx : S.getD k (0, false) = x) (ho : x.2 = false) : wk S n (k + 1) = (W ++ [x.1], R, m) := by
  show (let r := wk S n k; let x := S.getD k (0, false); if x.2 = false then _ else _) = _
  simp only [h, hx, ho, if_true]
theorem wk_goes {S : Line} {n m : Int} {k : Nat} {W : List Int} {R : Line} (h : wk S n k = (W, R, m)) {x : Int × Bool} (hx : S.getD k (0, false) = x) (ho : x.2 = true) (hm : 0 < m) : wk S n (k + 1) = (W ++ [x.1], R, m - 1) := by
  show (let r := wk S n k; let x := S.getD k (0, false); if x.2 = false then _ else _) = _
  simp only [h, hx, ho]
  rw [if_neg (by decide), if_pos hm]
theorem wk_stays {S : Line} {n m : Int} {k : Nat} {W : List Int} {R : Line} (h : wk S n k = (W, R, m)) {x : Int × Bool} (hx : S.getD k (0, false) = x) (ho : x.2 = true) (hm : ¬ 0 < m) : wk S n (k + 1) = (W, R ++ [x], m) := by
  show (let r := wk S n k; let x := S.getD k (0, false); if x.2 = false then _ else _) = _
  simp only [h, hx, ho]
  rw [if_neg (by decide), if_neg hm]
theorem wk_is (S : Line) (n : Int) (hn : 0 ≤ n) (k : Nat) (hk : k ≤ S.length) : ∃ W R m, wk S n k = (W, R, m) ∧ 0 ≤ m ∧ m ≤ n ∧ W.length ≤ k ∧ R.length ≤ k := by
  induction k with
  | zero => exact ⟨[], [], n, rfl, hn, Int.le_refl _, Nat.le_refl _, Nat.le_refl _⟩
  | succ k ih =>
    obtain ⟨W, R, m, h, m0, m1, h1, h2⟩ := ih (by omega)
    obtain ⟨x, hx⟩ : ∃ x, S.getD k (0, false) = x := ⟨_, rfl⟩
    cases ho : x.2 with
    | false => exact ⟨_, _, _, wk_open h hx ho, m0, m1, by simp; omega, by omega⟩
    | true =>
      by_cases hm : 0 < m
      · exact ⟨_, _, _, wk_goes h hx ho hm, by omega, by omega, by simp; omega, by omega⟩
      · exact ⟨_, _, _, wk_stays h hx ho hm, m0, m1, by omega, by simp; omega⟩

theorem QAt.row_new (h : QAt w p V S G) {V' : Value} {S' : Line} (hr : RowAt w 0 V' S') : QAt (w.setCell ⟨p, 0, none⟩ V') p V' S' G := by
  obtain ⟨cs, h1, h2, h3, h4⟩ := h.block
  have hne : V'.ownBlock ≠ some p := by
    intro e
    obtain ⟨cur, q⟩ := hr.type e
    rw [h1] at q
    cases q
  refine ⟨⟨_, heap_setCell_same w p 0 cs _ _ h1, by simpa using h2, by simp [h2], fun i hi => ?_⟩, ?_⟩
  · rw [Array.getElem?_setIfInBounds, if_neg (by omega)]; exact h4 i hi
  · refine hr.keep (N := (· = p)) ?_ (fun g hg e => hne (by rw [← e]; exact hg))
    exact Only.setCell (S := fun x => x = p) (Only.refl _ w) (p := ⟨p, 0, none⟩) rfl _

/-- What is known in Wake's loop. -/
structure Waking (w : World) (p : Nat) (V : Value) (S : Line) (G : Looks) (W : List Int) (R : Line) (vw vr : Value) (wr : World) : Prop where
  at_ : QAt wr p V S G
  only : Only (· = p) w wr
  woken : Ints wr w.heap.size vw W
  rest : RowAt wr w.heap.size vr R

section
variable {wr w2 : World} {W : List Int} {R : Line} {vw vr : Value} (h : Waking w p V S G W R vw vr wr)
include h
theorem Waking.later (hO : Only (fun _ => False) wr w2) : Waking w p V S G W R vw vr w2 :=
  ⟨h.at_.later hO, h.only.trans hO (fun _ _ e => e.elim), h.woken.later hO, h.rest.later hO⟩
theorem Waking.not_w {k : Nat} (hk : vw.ownBlock = some k) : k ≠ p ∧ V.ownBlock ≠ some k ∧ vr.ownBlock ≠ some k := by
  obtain ⟨cur, q⟩ := owns_type h.woken hk
  refine ⟨fun e => ?_, fun e => ?_, fun e => ?_⟩
  · obtain ⟨cs, h1, -⟩ := h.at_.block
    rw [e, h1] at q; cases q
  · obtain ⟨cur2, q2⟩ := h.at_.row.type e
    rw [q2] at q; cases q
  · obtain ⟨cur2, q2⟩ := h.rest.type e
    rw [q2] at q; cases q
theorem Waking.not_r (hw : p < w.heap.size) (hV : ∀ k, V.ownBlock = some k → k < w.heap.size) {k : Nat} (hk : vr.ownBlock = some k) : k ≠ p ∧ V.ownBlock ≠ some k ∧ vw.ownBlock ≠ some k := by
  have hb := (h.rest.block hk).1
  refine ⟨by omega, fun e => ?_, fun e => (h.not_w e).2.2 hk⟩
  have := hV k e
  omega
theorem Waking.more_w {x : Int} {v' : Value} (hr : Ints w2 w.heap.size v' (W ++ [x])) (hO : Only (fun k => vw.ownBlock = some k) wr w2) : Waking w p V S G (W ++ [x]) R v' vr w2 := by
  refine ⟨h.at_.keep hO (fun k hk e => ?_), h.only.trans hO (fun k hk e => ?_), hr, h.rest.keep hO (fun k hk e => (h.not_w e).2.2 hk)⟩
  · rcases hk with rfl | hk
    · exact (h.not_w e).1 rfl
    · exact (h.not_w e).2.1 hk
  · have := (h.woken.block e).1
    omega
theorem Waking.more_r (hw : p < w.heap.size) (hV : ∀ k, V.ownBlock = some k → k < w.heap.size) {x : Int × Bool} {v' : Value} (hr : RowAt w2 w.heap.size v' (R ++ [x])) (hO : Only (fun k => vr.ownBlock = some k) wr w2) : Waking w p V S G W (R ++ [x]) vw v' w2 := by
  refine ⟨h.at_.keep hO (fun k hk e => ?_), h.only.trans hO (fun k hk e => ?_), h.woken.keep hO (fun k hk e => (h.not_w hk).2.2 e), hr⟩
  · have := h.not_r hw hV e
    rcases hk with rfl | hk
    · exact this.1 rfl
    · exact this.2.1 hk
  · have := (h.rest.block e).1
    omega
end

/-- What is known behind Wake. -/
def Woke (p : Nat) (V : Value) (S : Line) (G : Looks) (n : Int) (w : World) (e : Ending) (w' : World) : Prop :=
  ∃ v V', e = .returned (.tuple #[v, .int .i64 0]) ∧ Ints w' w.heap.size v (woken S n) ∧ QAt w' p V' (stay S n) (spoilt G) ∧ Step p V V' w w' ∧ (∀ k, v.ownBlock = some k → k ≠ p ∧ V'.ownBlock ≠ some k)

theorem wake_bad (h : QAt w p V S G) (n : Int) (hn : n < 0) :
    Calls Try.prog 20 #[.pointer (some ⟨p, 0, none⟩), .int .i64 n] w (Moved p V S G (.tuple #[.slice none 0 0, .int .i64 1]) w) := by
  have H := Lib.hid h
  clear h
  go_enter Try.func20, Try.ntmps20
  go_wp2_with fail
  go_ret2
  exact Moved.same H.out (Only.refl _ _)

set_option maxRecDepth 100000 in
set_option maxHeartbeats 2000000 in
theorem wake_any (h : QAt w p V S G) (hl : S.length ≤ 16) (n : Int) (hn : 0 ≤ n) (hn2 : n ≤ 9223372036854775807) :
    Calls Try.prog 20 #[.pointer (some ⟨p, 0, none⟩), .int .i64 n] w (Woke p V S G n w) := by
  have H := Lib.hid h
  have HS := Lib.hid (spoil_any h)
  have hp := h.lt
  have HP := Lib.hid hp
  have HVB := Lib.hid (fun k hk => (h.row.block (g := k) hk).2)
  have g0 : ¬ n < 0 := by omega
  clear h
  go_enter Try.func20, Try.ntmps20
  go_upto_region 6 with (go_at_call 64; (with_reducible refine HS.out.mono ?_); rintro e w1 ⟨rfl, hq, hO⟩; have HQ : Hid (Waking w p V S (spoilt G) [] [] (.slice none 0 0) (.slice none 0 0) w1) := Lib.hid ⟨hq, hO, ints_nil _ _, row_nil _ _⟩; clear hq hO)
  have c0 := HQ.out.at_.cell0
  have hp1 := HQ.out.at_.lt
  obtain ⟨a, c, hV, -⟩ := HQ.out.at_.row.shape rfl
  have HV := Lib.hid hV
  rw [hV] at c0
  clear hV HS
  go_wp2_with fail
  go_loopw [1, 6, 7, 9, 19] (fun t1 vw vr _ i wr => ∃ (k : Nat) (W : List Int) (R : Line) (m : Int), k ≤ S.length ∧ i = .int .i64 k ∧ wk S n k = (W, R, m) ∧ t1 = .int .i64 m ∧ Waking w p V S (spoilt G) W R vw vr wr) (fun _ _ _ _ i _ => S.length - (intOf i).toNat)
  case atStart => exact ⟨0, [], [], n, by omega, rfl, rfl, rfl, HQ.out⟩
  case round =>
    clear HQ
    obtain ⟨k, W, R, m, hk, rfl, hwk, rfl, hq⟩ := hrel
    have HQ := Lib.hid hq
    have HW := Lib.hid hwk
    have hbd : 0 ≤ m ∧ m ≤ n ∧ W.length ≤ 16 ∧ R.length ≤ 16 := by
      obtain ⟨W', R', m', q1, q2, q3, q4, q5⟩ := wk_is S n hn k hk
      rw [hwk] at q1
      cases q1
      exact ⟨q2, q3, by omega, by omega⟩
    obtain ⟨m0, m1, lw, lr⟩ := hbd
    clear hq hwk
    by_cases hlt : k < S.length
    · have g1 : (k : Int) < S.length := by omega
      have g2 : (0 : Int) ≤ k := by omega
      have hrow := HQ.out.at_.row
      rw [HV.out] at hrow
      obtain ⟨g, c', e, -, -, -, -, hrow⟩ := hrow.at_block rfl (by omega)
      rw [Value.slice.injEq] at e
      obtain ⟨rfl, -, rfl⟩ := e
      obtain ⟨x0, x1⟩ := hrow.cell hlt
      obtain ⟨y, hy⟩ : ∃ y, S.getD k (0, false) = y := ⟨_, rfl⟩
      rw [hy] at x0 x1
      have HY := Lib.hid hy
      obtain ⟨t, al⟩ := y
      have HA := Lib.hid (((Only.refl (fun _ => False) wr).alloc (.cells #[.int .i64 t, .bool al] 81)).alloc (.cells #[.int .i64 t] 3))
      have HQ2 := Lib.hid (HQ.out.later HA.out)
      have HB := Lib.hid (two_new wr (.cells #[.int .i64 t, .bool al] 81) (.cells #[.int .i64 t] 3))
      have HZ := Lib.hid (Nat.le_trans HQ.out.only.size HA.out.size)
      have HL := Lib.hid (show W.length + 1 ≤ 17000000000000 by omega)
      clear hy hrow
      cases al with
      | false =>
        have HN := Lib.hid (wk_open HW.out HY.out rfl)
        go_wp2_with (at_builtin; go_must (refine append_one rfl _ _ rfl w.heap.size (wr.heap.size + 1) 1 _ W t rfl rfl HQ2.out.woken HB.out HL.out HZ.out ?_); go_must (intro v7 w7 hr7 hO7 hb7); clear hb7; have HQ7 := Lib.hid (HQ2.out.more_w hr7 hO7); clear hr7 hO7)
        go_roundw
        case rel => exact ⟨k + 1, _, _, _, by omega, by go_num, HN.out, rfl, HQ7.out⟩
        case measure => simp [intOf]; omega
      | true =>
        by_cases hm : 0 < m
        · have HN := Lib.hid (wk_goes HW.out HY.out rfl hm)
          go_wp2_with (at_builtin; go_must (refine append_one rfl _ _ rfl w.heap.size (wr.heap.size + 1) 1 _ W t rfl rfl HQ2.out.woken HB.out HL.out HZ.out ?_); go_must (intro v7 w7 hr7 hO7 hb7); clear hb7; have HQ7 := Lib.hid (HQ2.out.more_w hr7 hO7); clear hr7 hO7)
          go_roundw
          case rel => exact ⟨k + 1, _, _, _, by omega, by go_num, HN.out, by go_num, HQ7.out⟩
          case measure => simp [intOf]; omega
        · have HN := Lib.hid (wk_stays HW.out HY.out rfl hm)
          have HA := Lib.hid (((Only.refl (fun _ => False) wr).alloc (.cells #[.int .i64 t, .bool true] 81)).alloc (.cells #[.int .i64 t, .bool true] 81))
          have HQ2 := Lib.hid (HQ.out.later HA.out)
          have HB := Lib.hid (two_new wr (.cells #[.int .i64 t, .bool true] 81) (.cells #[.int .i64 t, .bool true] 81))
          have HZ := Lib.hid (Nat.le_trans HQ.out.only.size HA.out.size)
          have HL := Lib.hid (show R.length + 1 ≤ 8796093022144 by omega)
          go_wp2_with (at_builtin; go_must (refine append_row rfl _ _ rfl w.heap.size (wr.heap.size + 1) 1 _ R (t, true) rfl rfl HQ2.out.rest HB.out HL.out HZ.out ?_); go_must (intro v7 w7 hr7 hO7 hb7); clear hb7; have HQ7 := Lib.hid (HQ2.out.more_r HP.out HVB.out hr7 hO7); clear hr7 hO7)
          go_roundw
          case rel => exact ⟨k + 1, _, _, _, by omega, by go_num, HN.out, rfl, HQ7.out⟩
          case measure => simp [intOf]; omega
    · obtain rfl : k = S.length := by omega
      have hp2 := HQ.out.at_.lt
      have f0 := HQ.out.at_.frozen 0
      have c1 := HQ.out.at_.cell0
      obtain ⟨ra, rc, hvr, -⟩ := HQ.out.rest.shape rfl
      subst hvr
      go_wp2_with fail
      go_ret2
      have e1 : woken S n = W := by unfold woken; rw [HW.out]
      have e2 : stay S n = R := by unfold stay; rw [HW.out]
      have hO2 : Only (· = p) wr (wr.setCell ⟨p, 0, none⟩ (.slice ra R.length rc)) := Only.setCell (S := fun x => x = p) (Only.refl _ wr) (p := ⟨p, 0, none⟩) rfl _
      refine ⟨_, .slice ra R.length rc, rfl, ?_, ?_, ⟨?_, fun k hk => ?_⟩, fun k hk => ?_⟩
      · rw [e1]; exact HQ.out.woken.keep hO2 (fun k hk e => (HQ.out.not_w hk).1 e)
      · rw [e2]; exact HQ.out.at_.row_new (HQ.out.rest.base (Nat.zero_le _))
      · exact (HQ.out.only.trans hO2 (fun _ _ e => e)).mono (fun _ _ e => Or.inl e)
      · rcases hk with rfl | hk
        · exact Or.inl (Or.inl rfl)
        · exact Or.inr (HQ.out.rest.block hk).1
      · exact ⟨(HQ.out.not_w hk).1, (HQ.out.not_w hk).2.2⟩
end
end Go.Proofs.Ytddfdnhlghmapaa.Wt
