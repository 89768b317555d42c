/- Contracts of package wait: Sleep, List, spoil, Wake; waitBegun. -/
import Derived.Test.YtddfdnhlghmapaaWtOps
import Derived.Test.YtddfdnhlghmapaaOne
namespace Go.Proofs.Ytddfdnhlghmapaa.Wt
open Go.ChangeShapes Go.WideShapes Go.ChangeAt Go.RowKit Go.Maps
set_option linter.unusedVariables false

section
variable {w : World} {p : Nat} {V : Value} {S : Line} {G : Looks}

theorem sleep_bad (h : QAt w p V S G) (t : Int) (a : Bool) (ht : isT t = false) :
    Calls Try.prog 22 #[.pointer (some ⟨p, 0, none⟩), .int .i64 t, .bool a] w (Moved p V S G (.tuple #[.bool false, .int .i64 8]) w) := by
  have H := Lib.hid h
  have C := Lib.hid (fun w => isTask_any t w)
  rw [ht] at C
  clear h ht
  go_enter Try.func22, Try.ntmps22
  go_wp2_with (go_at_call 56; (with_reducible refine (C.out _).mono ?_); rintro e w1 ⟨rfl, rfl⟩)
  go_ret2
  exact Moved.same H.out (Only.refl _ _)

theorem sleep_over (h : QAt w p V S G) (k : Nat) (hk : 1 ≤ k ∧ k ≤ 16) (a : Bool) (hg : G k = 0) :
    Calls Try.prog 22 #[.pointer (some ⟨p, 0, none⟩), .int .i64 k, .bool a] w (Moved p V S G (.tuple #[.bool false, .int .i64 8]) w) := by
  have H := Lib.hid h
  have C := Lib.hid (fun w => isTask_any k w)
  rw [show isT (k : Int) = true from decide_eq_true (by omega)] at C
  obtain ⟨k1, k2⟩ := hk
  have k3 : (k : Int) < 17 := by omega
  have k4 : (0 : Int) ≤ k := by omega
  have c0 := h.look (i := k) (by omega)
  rw [hg] at c0
  clear h hg
  go_enter Try.func22, Try.ntmps22
  go_wp2_with (go_at_call 56; (with_reducible refine (C.out _).mono ?_); rintro e w1 ⟨rfl, rfl⟩)
  go_ret2
  exact Moved.same H.out (Only.refl _ _)

theorem sleep_there (h : QAt w p V S G) (k : Nat) (hk : 1 ≤ k ∧ k ≤ 16) (a : Bool) (hg : G k ≠ 0) (hm : (k : Int) ∈ ids S) :
    Calls Try.prog 22 #[.pointer (some ⟨p, 0, none⟩), .int .i64 k, .bool a] w (Moved p V S G (.tuple #[.bool false, .int .i64 5]) w) := by
  have H := Lib.hid h
  have C := Lib.hid (fun w => isTask_any k w)
  rw [show isT (k : Int) = true from decide_eq_true (by omega)] at C
  have F := Lib.hid (place_yes h k hm)
  obtain ⟨k1, k2⟩ := hk
  have k3 : (k : Int) < 17 := by omega
  have k4 : (0 : Int) ≤ k := by omega
  have c0 := h.look (i := k) (by omega)
  have hg2 : (G k == 0) = false := by simpa using hg
  clear h hg hm
  generalize G k = z at *
  go_enter Try.func22, Try.ntmps22
  go_wp2_with (first
    | (go_at_call 56; (with_reducible refine (C.out _).mono ?_); rintro e w1 ⟨rfl, rfl⟩)
    | (go_at_call 57; (with_reducible refine F.out.mono ?_); rintro e w1 ⟨i, rfl, -, -, hO⟩; have HO := Lib.hid hO; clear hO; have hi0 : (0 : Int) ≤ (i : Nat) := by omega))
  go_ret2
  exact Moved.same H.out HO.out

set_option maxHeartbeats 1000000 in
theorem sleep_stale (h : QAt w p V S G) (k : Nat) (hk : 1 ≤ k ∧ k ≤ 16) (a : Bool) (hg : G k = 2) (hm : (k : Int) ∉ ids S) :
    Calls Try.prog 22 #[.pointer (some ⟨p, 0, none⟩), .int .i64 k, .bool a] w (Moved p V S (upd G k 0) (.tuple #[.bool false, .int .i64 0]) w) := by
  have H := Lib.hid h
  have C := Lib.hid (fun w => isTask_any k w)
  rw [show isT (k : Int) = true from decide_eq_true (by omega)] at C
  have F := Lib.hid (place_no h k hm)
  obtain ⟨k1, k2⟩ := hk
  have k3 : (k : Int) < 17 := by omega
  have k4 : (0 : Int) ≤ k := by omega
  have c0 := h.look (i := k) (by omega)
  rw [hg] at c0
  have HG := Lib.hid hg
  clear h hg hm
  go_enter Try.func22, Try.ntmps22
  go_upto_region 5 with (first
    | (go_at_call 56; (with_reducible refine (C.out _).mono ?_); rintro e w1 ⟨rfl, rfl⟩)
    | (go_at_call 57; (with_reducible refine F.out.mono ?_); rintro e w1 ⟨rfl, hO⟩; have HO := Lib.hid hO; have H1 := Lib.hid (H.out.later hO); clear hO))
  have c1 := H1.out.look (i := k) (by omega)
  have f1 := H1.out.frozen (1 + k)
  rw [HG.out] at c1
  go_wp2_with fail
  go_ret2
  obtain ⟨r1, r2⟩ := H1.out.look_set (i := k) (by omega) 0
  exact ⟨rfl, _, r1, (Step.later HO.out).trans r2⟩

set_option maxHeartbeats 1000000 in
theorem sleep_new (h : QAt w p V S G) (hl : S.length ≤ 16) (k : Nat) (hk : 1 ≤ k ∧ k ≤ 16) (a : Bool) (hg : G k = 1) (hm : (k : Int) ∉ ids S) :
    Calls Try.prog 22 #[.pointer (some ⟨p, 0, none⟩), .int .i64 k, .bool a] w (Moved p V (S ++ [((k : Int), a)]) (upd G k 0) (.tuple #[.bool true, .int .i64 0]) w) := by
  have H := Lib.hid h
  have C := Lib.hid (fun w => isTask_any k w)
  rw [show isT (k : Int) = true from decide_eq_true (by omega)] at C
  have F := Lib.hid (place_no h k hm)
  have HL := Lib.hid (show S.length + 1 ≤ 8796093022144 by omega)
  obtain ⟨k1, k2⟩ := hk
  have k3 : (k : Int) < 17 := by omega
  have k4 : (0 : Int) ≤ k := by omega
  have c0 := h.look (i := k) (by omega)
  rw [hg] at c0
  have HG := Lib.hid hg
  clear h hg hm hl
  go_enter Try.func22, Try.ntmps22
  go_upto_region 5 with (first
    | (go_at_call 56; (with_reducible refine (C.out _).mono ?_); rintro e w1 ⟨rfl, rfl⟩)
    | (go_at_call 57; (with_reducible refine F.out.mono ?_); rintro e w1 ⟨rfl, hO⟩; have HO := Lib.hid hO; have H1 := Lib.hid (H.out.later hO); clear hO))
  have c1 := H1.out.look (i := k) (by omega)
  have f1 := H1.out.frozen (1 + k)
  rw [HG.out] at c1
  go_upto_region 8 with fail
  obtain ⟨r1, r2⟩ := H1.out.look_set (i := k) (by omega) 0
  have H2 := Lib.hid r1
  have HS := Lib.hid ((Step.later HO.out).trans r2)
  clear r1 r2 c1 f1
  generalize w1.setCell _ _ = w2 at *
  have c0 := H2.out.cell0
  have hp := H2.out.lt
  obtain ⟨sa, sc, hsv, -, -⟩ := H2.out.row.shape rfl
  have HSV := Lib.hid hsv
  rw [hsv] at c0
  clear hsv
  go_wp2_with (at_builtin; go_must (refine append_add rfl (.tmp 42) (.tmp 46) rfl w2 p w2.heap.size V S (upd G k 0) ((k : Int), a) H2.out ((Only.refl _ w2).alloc _) (by rw [HSV.out]; rfl) (by rfl) (heap_alloc_new w2 _) HL.out ?_); go_must (intro g c w3 q1 q2 HA); rw [HSV.out] at q1)
  go_ret2
  exact ⟨rfl, _, HA.out.at_, HS.out.trans HA.out.step⟩

theorem take_ids (S : Line) {k : Nat} (hk : k < S.length) : ids (S.take (k + 1)) = ids (S.take k) ++ [(S.getD k (0, false)).1] := by
  rw [List.take_succ_eq_append_getElem hk, ids_snoc]
  simp [List.getD, hk]

theorem two_new (w : World) (o1 o2 : Obj) : ((w.alloc o1).alloc o2).heap[w.heap.size + 1]? = some o2 := by
  have := heap_alloc_new (w.alloc o1) o2
  rwa [show (w.alloc o1).heap.size = w.heap.size + 1 by simp] at this
/-- A row of the call's own has changed. -/
theorem own_change {a b c : World} {v : Value} {xs : List Int} (h : Only (fun _ => False) a b) (hr : Ints b a.heap.size v xs) (k : Only (fun k => v.ownBlock = some k) b c) : Only (fun _ => False) a c :=
  h.trans k (fun x hx e => by have := (hr.block e).1; omega)

set_option maxRecDepth 100000 in
set_option maxHeartbeats 1000000 in
theorem list_any (h : QAt w p V S G) (hl : S.length ≤ 16) :
    Calls Try.prog 14 #[.pointer (some ⟨p, 0, none⟩)] w fun e w' => ∃ v, e = .returned v ∧ Ints w' w.heap.size v (ids S) ∧ Only (fun _ => False) w w' := by
  have H := Lib.hid h
  have c0 := h.cell0
  have hp := h.lt
  obtain ⟨a, c, hV, -⟩ := h.row.shape rfl
  have HV := Lib.hid hV
  rw [hV] at c0
  clear h hV
  go_enter Try.func14, Try.ntmps14
  go_wp2_with fail
  go_loopw [3, 5, 11] (fun v _ i wr => ∃ k : Nat, k ≤ S.length ∧ i = .int .i64 k ∧ Ints wr w.heap.size v (ids (S.take k)) ∧ Only (fun _ => False) w wr) (fun _ _ i _ => S.length - (intOf i).toNat)
  case atStart => exact ⟨0, by omega, rfl, ints_nil _ _, Only.refl _ w⟩
  case round =>
    obtain ⟨k, hk, rfl, hr, hO⟩ := hrel
    have HR := Lib.hid hr
    have HO := Lib.hid hO
    clear hr hO
    by_cases hlt : k < S.length
    · have g1 : (k : Int) < S.length := by omega
      have g2 : (0 : Int) ≤ k := by omega
      have hrow := (H.out.later HO.out).row
      rw [HV.out] at hrow
      obtain ⟨g, c', e, -, -, -, -, hrow⟩ := hrow.at_block rfl (by omega)
      rw [Value.slice.injEq] at e
      obtain ⟨rfl, -, rfl⟩ := e
      obtain ⟨x0, x1⟩ := hrow.cell hlt
      have ES := Lib.hid (take_ids S hlt)
      obtain ⟨y, hy⟩ : ∃ y, S.getD k (0, false) = y := ⟨_, rfl⟩
      rw [hy] at x0 x1 ES
      have hb := HO.out.size
      have hln : (ids (S.take k)).length = k := by rw [ids_len, List.length_take]; omega
      have HLN := Lib.hid hln
      have HA := Lib.hid (((Only.refl (fun _ => False) wr).alloc (.cells #[.int .i64 y.1, .bool y.2] 81)).alloc (.cells #[.int .i64 y.1] 3))
      have HI := Lib.hid (HR.out.later HA.out)
      have HB := Lib.hid (two_new wr (.cells #[.int .i64 y.1, .bool y.2] 81) (.cells #[.int .i64 y.1] 3))
      have HZ := Lib.hid (Nat.le_trans HO.out.size HA.out.size)
      have HL := Lib.hid (show (ids (S.take k)).length + 1 ≤ 17000000000000 by omega)
      clear hy hln hb hrow
      go_wp2_with (at_builtin; go_must (refine append_one rfl _ _ rfl w.heap.size (wr.heap.size + 1) 1 _ (ids (S.take k)) y.1 rfl rfl HI.out HB.out HL.out HZ.out ?_); go_must (intro v7 w7 hr7 hO7 hb7); clear hb7; have HR7 := Lib.hid hr7; have HO7 := Lib.hid (own_change (only_trans HO.out HA.out) HI.out hO7); clear hr7 hO7)
      go_roundw
      case rel => exact ⟨k + 1, by omega, by go_num, by rw [ES.out]; exact HR7.out, HO7.out⟩
      case measure => simp [intOf]; omega
    · obtain rfl : k = S.length := by omega
      go_wp2_with fail
      go_ret
      exact ⟨_, rfl, by have := HR.out; rwa [List.take_length] at this, HO.out⟩
end
end Go.Proofs.Ytddfdnhlghmapaa.Wt
