/- The contracts of Next, Ahead and At. -/
import Derived.Test.YtbfnaejfmpnkbaaPure
import Derived.Test.YtbfnaejfmpnkbaaLook
namespace Go.Proofs.Ytbfnaejfmpnkbaa
open Go.ChangeShapes Go.WideShapes Go.ChangeAt Go.RowKit
set_option linter.unusedVariables false

theorem below_drewN {B : Nat} {a w : World} (h : Below B a w) (n : Nat) : Below B a (w.drewN n) := h.trans ⟨rfl, rfl, rfl, Nat.le_refl _, fun _ _ => rfl⟩

/-- What is told of an element, or of none. -/
def told : Option El → Value
  | none => .tuple #[.int .i64 0, .int .i64 0, .int .i64 0, .int .i64 4]
  | some x => .tuple #[.int .i64 x.k, .int .i64 x.i, .int .i64 x.w, .int .i64 0]

/-- A pointer to a node with an element, or to none. -/
def Points (w : World) (s : Value) (o : Option El) : Prop := (s = .pointer none ∧ o = none) ∨ ∃ b x l r lv m, s = .pointer (some ⟨b, 0, none⟩) ∧ o = some x ∧ NodeIs w b x l r lv m

theorem Points.below {w w' : World} {s : Value} {o : Option El} (h : Points w s o) (hb : Below w.heap.size w w') : Points w' s o := by
  rcases h with h | ⟨b, x, l, r, lv, m, h1, h2, h3⟩
  · exact Or.inl h
  · exact Or.inr ⟨b, x, l, r, lv, m, h1, h2, h3.below hb⟩

theorem Points.shape {w : World} {s : Value} {o : Option El} (h : Points w s o) : ∃ u, s = .pointer u := by
  rcases h with ⟨h, -⟩ | ⟨b, x, l, r, lv, m, h, -⟩ <;> exact ⟨_, h⟩

theorem tell_points {w : World} {u : Option Addr} {o : Option El} (h : Points w (.pointer u) o) : Calls Try.prog 35 #[.pointer u] w fun e w' => e = .returned (told o) ∧ Only (fun _ => False) w w' := by
  rcases h with ⟨h, rfl⟩ | ⟨b, x, l, r, lv, m, h, rfl, h3⟩
  · cases h
    refine (tell_nil w).mono ?_
    rintro e w' ⟨rfl, rfl⟩
    exact ⟨rfl, Only.refl _ _⟩
  · cases h
    exact tell_any b x l r lv m w h3

theorem told_parts (o : Option El) : ∃ a b c e, told o = .tuple #[.int .i64 a, .int .i64 b, .int .i64 c, .int .i64 e] := by
  cases o <;> exact ⟨_, _, _, _, rfl⟩

/-- What Next's loop has come to. -/
def Nexts (L : List El) (k i : Int) (g : Nat) (s10 s11 : Value) (w : World) : Prop :=
  ∃ (u : Tr) (o : Option El) (a : Option Addr), s10 = .pointer a ∧ s11 = u.ptr ∧ g = u.ht ∧ In w u ∧ Sorted u.els ∧ Points w (.pointer a) o ∧ (nextL u.els k i).or o = nextL L k i

set_option maxRecDepth 100000 in
set_option maxHeartbeats 1000000 in
theorem next_any (p : Nat) (t : Tr) (k i : Int) (w : World) (h : In w t) (hs : Sorted t.els) (c0 : w.cell? ⟨p, 0, none⟩ = some t.ptr) :
    Calls Try.prog 23 #[.pointer (some ⟨p, 0, none⟩), .int .i64 k, .int .i64 i] w fun e w' => e = .returned (told (nextL t.els k i)) ∧ Only (fun _ => False) w w' := by
  have H := Lib.hid h
  have HS := Lib.hid hs
  obtain ⟨L, hL⟩ : ∃ L, L = t.els := ⟨_, rfl⟩
  have HL := Lib.hid hL
  rw [← hL]
  clear h hs hL
  go_enter Try.func23, Try.ntmps23
  go_wp2_with fail
  go_loopg [10, 11] t.ht (fun g s10 s11 wr => Nexts L k i g s10 s11 wr ∧ Below w.heap.size w wr)
  case atStart => exact ⟨⟨t, none, none, rfl, rfl, rfl, H.out, HS.out, Or.inl ⟨rfl, rfl⟩, by rw [HL.out]; simp⟩, Below.refl _ _⟩
  case round =>
    obtain ⟨⟨u, o, a, rfl, rfl, hg, hi, hso, hp, hn⟩, hb⟩ := hrel
    have HI := Lib.hid hi
    have HG := Lib.hid hg
    have HSO := Lib.hid hso
    have HP := Lib.hid hp
    have HN := Lib.hid hn
    have HB := Lib.hid hb
    clear hi hg hso hp hn hb
    cases u with
    | nil =>
      rw [ptr_nil]
      obtain ⟨t1, t2, t3, t4, ht⟩ := told_parts o
      have HT := Lib.hid ht
      clear ht
      go_wp2_with (go_at_call 35; go_must (refine (tell_points HP.out).mono ?_); rintro e w1 ⟨rfl, ho⟩; rw [HT.out]; have HO := Lib.hid ho; clear ho)
      refine bodyPost_ret (v := .tuple #[.int .i64 t1, .int .i64 t2, .int .i64 t3, .int .i64 t4]) (by simp [results, Try.results23, go_sem]) rfl ⟨?_, (Only.of_below HB.out).trans HO.out (fun _ _ e => e)⟩
      rw [← HT.out, ← HN.out]; simp [nextL, Tr.els]
    | node c y m n =>
      rw [ptr_node]
      by_cases o1 : 0 < ordv y k i
      · obtain ⟨v, hv⟩ : ∃ v, ordv y k i = v := ⟨_, rfl⟩
        have ov : 0 < v := by omega
        have HV := Lib.hid hv
        have O := Lib.hid o1
        clear hv o1
        go_wp2_with (go_at_call 36; go_must (refine (order_is c y _ _ _ _ k i v _ HI.out.1 HV.out).mono ?_); rintro e w1 ⟨rfl, hb1⟩; have hi1 := HI.out.below hb1; obtain ⟨c3, c4⟩ := hi1.cells; have HI1 := Lib.hid hi1; have HP1 := Lib.hid (HP.out.below hb1); have HB1 := Lib.hid (HB.out.trans (hb1.mono HB.out.size)); clear hi1 hb1)
        go_quiet (fail)
        go_wp2
        go_roundg m.ht
        case measure => rw [HG.out]; simp only [Tr.ht]; omega
        case rel =>
          refine ⟨⟨m, some y, some ⟨c, 0, none⟩, rfl, rfl, rfl, HI1.out.2.1.later (only_drewN (Only.refl _ _) _), (sorted_app HSO.out).1, Or.inr ⟨c, y, _, _, _, _, rfl, rfl, HI1.out.1⟩, ?_⟩, below_drewN HB1.out _⟩
          rw [← HN.out]; simp only [Tr.els]
          rw [nextL_left ((ordv_pos _ _ _).1 O.out)]
          cases nextL m.els k i <;> simp
      · obtain ⟨v, hv⟩ : ∃ v, ordv y k i = v := ⟨_, rfl⟩
        have ov : v ≤ 0 := by omega
        have HV := Lib.hid hv
        have O : Hid (¬ aft y k i) := Lib.hid (fun h => o1 ((ordv_pos _ _ _).2 h))
        clear hv o1
        go_wp2_with (go_at_call 36; go_must (refine (order_is c y _ _ _ _ k i v _ HI.out.1 HV.out).mono ?_); rintro e w1 ⟨rfl, hb1⟩; have hi1 := HI.out.below hb1; obtain ⟨c3, c4⟩ := hi1.cells; have HI1 := Lib.hid hi1; have HP1 := Lib.hid (HP.out.below hb1); have HB1 := Lib.hid (HB.out.trans (hb1.mono HB.out.size)); clear hi1 hb1)
        go_roundg n.ht
        case measure => rw [HG.out]; simp only [Tr.ht]; omega
        case rel =>
          refine ⟨⟨n, o, a, rfl, rfl, rfl, HI1.out.2.2, (sorted_app HSO.out).2.1, HP1.out, ?_⟩, HB1.out⟩
          rw [← HN.out]; simp only [Tr.els]
          rw [nextL_right HSO.out O.out]

/-- What Ahead's loop has come to. -/
def Aheads (T k i : Int) (g : Nat) (s7 s8 : Value) (w : World) : Prop :=
  ∃ (u : Tr) (a : Int), s7 = .int .i64 a ∧ s8 = u.ptr ∧ g = u.ht ∧ In w u ∧ Sorted u.els ∧ Fits u ∧ 0 ≤ a ∧ a + u.sm ≤ 6000000000000000000 ∧ a + aheadL u.els k i = T

set_option maxRecDepth 100000 in
set_option maxHeartbeats 1000000 in
theorem ahead_any (p : Nat) (t : Tr) (k i : Int) (w : World) (h : In w t) (hs : Sorted t.els) (hF : Fits t) (c0 : w.cell? ⟨p, 0, none⟩ = some t.ptr) :
    Calls Try.prog 22 #[.pointer (some ⟨p, 0, none⟩), .int .i64 k, .int .i64 i] w fun e w' => e = .returned (.int .i64 (aheadL t.els k i)) ∧ Only (fun _ => False) w w' := by
  have H := Lib.hid h
  have HS := Lib.hid hs
  have HF := Lib.hid hF
  obtain ⟨T, hT⟩ : ∃ T, T = aheadL t.els k i := ⟨_, rfl⟩
  have HT := Lib.hid hT
  rw [← hT]
  clear h hs hF hT
  go_enter Try.func22, Try.ntmps22
  go_wp2_with fail
  go_loopg [7, 8] t.ht (fun g s7 s8 wr => Aheads T k i g s7 s8 wr ∧ Below w.heap.size w wr)
  case atStart => exact ⟨⟨t, 0, rfl, rfl, rfl, H.out, HS.out, HF.out, by omega, by have := fits_bd HF.out; omega, by rw [HT.out]; omega⟩, Below.refl _ _⟩
  case round =>
    obtain ⟨⟨u, a, rfl, rfl, hg, hi, hso, hf, a0, a1, ha⟩, hb⟩ := hrel
    have HI := Lib.hid hi
    have HG := Lib.hid hg
    have HSO := Lib.hid hso
    have HFI := Lib.hid hf
    have HA := Lib.hid ha
    have HB := Lib.hid hb
    clear hi hg hso hf ha hb
    cases u with
    | nil =>
      rw [ptr_nil]
      clear a1
      go_wp2
      go_ret
      refine ⟨?_, Only.of_below HB.out⟩
      rw [← HA.out]; exact ret_int (by simp [aheadL, Tr.els])
    | node c y m n =>
      rw [ptr_node]
      obtain ⟨fm, fn, y0, y1⟩ := fits_node HFI.out
      obtain ⟨m0, m1, -⟩ := fits_bd fm
      obtain ⟨n0, n1, -⟩ := fits_bd fn
      have FM := Lib.hid fm
      have FN := Lib.hid fn
      simp only [Tr.sm] at a1
      clear fm fn
      by_cases o1 : ordv y k i < 0
      · obtain ⟨v, hv⟩ : ∃ v, ordv y k i = v := ⟨_, rfl⟩
        have ov : v < 0 := by omega
        have HV := Lib.hid hv
        have O := Lib.hid ((ordv_neg _ _ _).1 o1)
        clear hv o1
        go_wp2_with (go_at_call 36; go_must (refine (order_is c y _ _ _ _ k i v _ HI.out.1 HV.out).mono ?_); rintro e w1 ⟨rfl, hb1⟩; have hi1 := HI.out.below hb1; obtain ⟨c3, c4⟩ := hi1.cells; obtain ⟨-, -, c2, -⟩ := hi1.1.cells; have HI1 := Lib.hid hi1; have HB1 := Lib.hid (HB.out.trans (hb1.mono HB.out.size)); clear hi1 hb1)
        have e1 : IntKind.i64.wrap (m.sm + y.w) = m.sm + y.w := IntWalk.i64_in _ (by omega)
        have e2 : IntKind.i64.wrap (a + (m.sm + y.w)) = a + (m.sm + y.w) := IntWalk.i64_in _ (by omega)
        go_quiet ((go_at_call 28; exact Calls.quiet_of_same (total_here m _ (HI1.out.2.1.drewN _))))
        clear e1 e2
        go_wp2
        go_roundg n.ht
        case measure => rw [HG.out]; simp only [Tr.ht]; omega
        case rel =>
          refine ⟨⟨n, a + (m.sm + y.w), rfl, rfl, rfl, HI1.out.2.2.later (only_drewN (Only.refl _ _) _), (sorted_app HSO.out).2.1, FN.out, by omega, by omega, ?_⟩, below_drewN HB1.out _⟩
          rw [← HA.out]; simp only [Tr.els]
          rw [aheadL_right HSO.out O.out, sm_els m]; omega
      · obtain ⟨v, hv⟩ : ∃ v, ordv y k i = v := ⟨_, rfl⟩
        have ov : 0 ≤ v := by omega
        have HV := Lib.hid hv
        have O : Hid (¬ bef y k i) := Lib.hid (fun h => o1 ((ordv_neg _ _ _).2 h))
        clear hv o1
        go_wp2_with (go_at_call 36; go_must (refine (order_is c y _ _ _ _ k i v _ HI.out.1 HV.out).mono ?_); rintro e w1 ⟨rfl, hb1⟩; have hi1 := HI.out.below hb1; obtain ⟨c3, c4⟩ := hi1.cells; have HI1 := Lib.hid hi1; have HB1 := Lib.hid (HB.out.trans (hb1.mono HB.out.size)); clear hi1 hb1)
        go_roundg m.ht
        case measure => rw [HG.out]; simp only [Tr.ht]; omega
        case rel =>
          refine ⟨⟨m, a, rfl, rfl, rfl, HI1.out.2.1, (sorted_app HSO.out).1, FM.out, a0, by omega, ?_⟩, HB1.out⟩
          rw [← HA.out]; simp only [Tr.els]
          rw [aheadL_left HSO.out O.out]

/-- What At's loop has come to. -/
def Lying (T : Option El) (g : Nat) (s1 s8 : Value) (w : World) : Prop :=
  ∃ (u : Tr) (n : Int), s1 = .int .i64 n ∧ s8 = u.ptr ∧ g = u.ht ∧ In w u ∧ Fits u ∧ -9223372036854775808 ≤ n ∧ n ≤ 9223372036854775807 ∧ atL u.els n = T

set_option maxRecDepth 100000 in
set_option maxHeartbeats 1000000 in
theorem at_any (p : Nat) (t : Tr) (n : Int) (w : World) (h : In w t) (hF : Fits t) (hn : (Lit.int .i64 n).wf = true) (c0 : w.cell? ⟨p, 0, none⟩ = some t.ptr) :
    Calls Try.prog 24 #[.pointer (some ⟨p, 0, none⟩), .int .i64 n] w fun e w' => e = .returned (told (atL t.els n)) ∧ Only (fun _ => False) w w' := by
  have H := Lib.hid h
  have HF := Lib.hid hF
  have HN := Lib.hid (i64_bd hn)
  obtain ⟨T, hT⟩ : ∃ T, T = atL t.els n := ⟨_, rfl⟩
  have HT := Lib.hid hT
  rw [← hT]
  clear h hF hn hT
  go_enter Try.func24, Try.ntmps24
  go_wp2_with fail
  go_loopg [1, 8] t.ht (fun g s1 s8 wr => Lying T g s1 s8 wr ∧ wr = w)
  case atStart => exact ⟨⟨t, n, rfl, rfl, rfl, H.out, HF.out, HN.out.1, HN.out.2, HT.out.symm⟩, rfl⟩
  case round =>
    obtain ⟨⟨u, n, rfl, rfl, hg, hi, hf, n0, n1, ha⟩, rfl⟩ := hrel
    have HI := Lib.hid hi
    have HG := Lib.hid hg
    have HFI := Lib.hid hf
    have HA := Lib.hid ha
    clear hi hg hf ha
    obtain ⟨t1, t2, t3, t4, ht⟩ := told_parts T
    have HTP := Lib.hid ht
    clear ht
    cases u with
    | nil =>
      rw [ptr_nil]
      have HP : Hid (Points wr (.pointer none) T) := Lib.hid (Or.inl ⟨rfl, by rw [← HA.out]; exact atL_nil n⟩)
      go_wp2_with (go_at_call 35; go_must (refine (tell_points HP.out).mono ?_); rintro e w1 ⟨rfl, ho⟩; rw [HTP.out]; have HO := Lib.hid ho; clear ho)
      refine bodyPost_ret (v := .tuple #[.int .i64 t1, .int .i64 t2, .int .i64 t3, .int .i64 t4]) (by simp [results, Try.results24, go_sem]) rfl ⟨?_, HO.out⟩
      rw [← HTP.out]
    | node c y l r =>
      rw [ptr_node]
      obtain ⟨fl, fr, y0, y1⟩ := fits_node HFI.out
      obtain ⟨l0, l1, -⟩ := fits_bd fl
      have FL := Lib.hid fl
      have FR := Lib.hid fr
      have HA2 : Hid (atL (l.els ++ y :: r.els) n = T) := Lib.hid HA.out
      obtain ⟨c3, c4⟩ := HI.out.cells
      obtain ⟨-, -, c2, -⟩ := HI.out.1.cells
      have HL : Hid (wts l.els = l.sm) := Lib.hid (sm_els l).symm
      clear fl fr
      by_cases o1 : n < l.sm
      · have o2 : ¬ l.sm ≤ n := by omega
        go_wp2_with (go_at_call 28; go_must (refine (total_any l _ HI.out.2.1).mono ?_); rintro e w1 ⟨rfl, rfl⟩)
        go_roundg l.ht
        case measure => rw [HG.out]; simp only [Tr.ht]; omega
        case rel => exact ⟨⟨l, n, rfl, rfl, rfl, HI.out.2.1, FL.out, n0, n1, by rw [← HA2.out, atL_left FL.out.1 (by rw [HL.out]; exact o1)]⟩, rfl⟩
      · have o2 : l.sm ≤ n := by omega
        by_cases o3 : n < l.sm + y.w
        · have HP : Hid (Points wr (.pointer (some ⟨c, 0, none⟩)) T) := Lib.hid (Or.inr ⟨c, y, _, _, _, _, rfl, by rw [← HA2.out]; exact atL_here FL.out.1 (by rw [HL.out]; exact o2) (by rw [HL.out]; exact o3), HI.out.1⟩)
          go_wp2_with (first
            | (go_at_call 28; go_must (refine (total_any l _ HI.out.2.1).mono ?_); rintro e w1 ⟨rfl, rfl⟩)
            | (go_at_call 35; go_must (refine (tell_points HP.out).mono ?_); rintro e w1 ⟨rfl, ho⟩; rw [HTP.out]; have HO := Lib.hid ho; clear ho))
          refine bodyPost_ret (v := .tuple #[.int .i64 t1, .int .i64 t2, .int .i64 t3, .int .i64 t4]) (by simp [results, Try.results24, go_sem]) rfl ⟨?_, HO.out⟩
          rw [← HTP.out]
        · have o4 : l.sm + y.w ≤ n := by omega
          go_wp2_with (go_at_call 28; go_must (refine (total_any l _ HI.out.2.1).mono ?_); rintro e w1 ⟨rfl, rfl⟩)
          go_roundg r.ht
          case measure => rw [HG.out]; simp only [Tr.ht]; omega
          case rel => exact ⟨⟨r, n - (l.sm + y.w), rfl, rfl, rfl, HI.out.2.2, FR.out, by omega, by omega, by rw [← HA2.out, atL_right FL.out.1 y0 (by rw [HL.out]; exact o4), HL.out]⟩, rfl⟩
end Go.Proofs.Ytbfnaejfmpnkbaa
