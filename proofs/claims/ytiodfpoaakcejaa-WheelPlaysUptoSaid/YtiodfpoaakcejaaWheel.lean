/- A wheel as its callers see it: its time, and a list of timers, in blocks of M. The contracts of New, Add, Out and Next. -/
import Derived.Test.YtiodfpoaakcejaaWPure
import Derived.Test.YtiodfpoaakcejaaFar
namespace Go.Proofs.Ytiodfpoaakcejaa.Wh
open Go.ChangeShapes Go.WideShapes Go.ChangeAt Go.RowKit Go.Maps
open Go.Proofs.Ytiodfpoaakcejaa.Hp
set_option linter.unusedVariables false

/-- The cell ahead of the heap: the time. -/
def clock (now : Int) : Nat → Option Value := fun i => if i = 0 then some (.int .i64 now) else none

/-- A wheel: its time is now, its timers are S (ids with times that do not go round). -/
structure WheelAt (M : Nat → Prop) (w : World) (p : Nat) (now : Int) (S : Timers) : Prop where
  heap : HeapAt M w p 1 63 (clock now) S
  past : 0 ≤ now

section
variable {M : Nat → Prop} {w w' : World} {p : Nat} {now : Int} {S : Timers}
theorem WheelAt.keep {N : Nat → Prop} (h : WheelAt M w p now S) (hO : Only N w w') (hN : ∀ k, k < w.heap.size → M k → ¬ N k) : WheelAt M w' p now S := ⟨h.heap.keep hO hN, h.past⟩
theorem WheelAt.later (h : WheelAt M w p now S) (hO : Only (fun _ => False) w w') : WheelAt M w' p now S := ⟨h.heap.later hO, h.past⟩
theorem WheelAt.mono {N : Nat → Prop} (h : WheelAt M w p now S) (hN : ∀ k, M k → N k) : WheelAt N w p now S := ⟨h.heap.mono hN, h.past⟩
theorem WheelAt.there (h : WheelAt M w p now S) : WheelAt (fun k => M k ∧ k < w.heap.size) w p now S := ⟨h.heap.there, h.past⟩
theorem WheelAt.perm {U : Timers} (h : WheelAt M w p now S) (hU : S.Perm U) : WheelAt M w p now U := ⟨h.heap.perm hU, h.past⟩
theorem WheelAt.ids (h : WheelAt M w p now S) : Ids S := h.heap.ids
theorem WheelAt.len (h : WheelAt M w p now S) : S.length ≤ 6000000000000 := h.heap.len

theorem WheelAt.time (h : WheelAt M w p now S) : w.cell? ⟨p, 0, none⟩ = some (.int .i64 now) ∧ w.frozen? ⟨p, 0, none⟩ = false := by
  obtain ⟨-, v, m, hh⟩ := h.heap.self
  exact ⟨hh.cell 0 (by omega) (by omega), hh.frozen 0⟩
end

/-- What is known behind a call that changes a wheel. -/
def WKeep (M : Nat → Prop) (w : World) (p : Nat) (now : Int) (v : Value) (S : Timers) (e : Ending) (w' : World) : Prop :=
  e = .returned v ∧ WheelAt M w' p now S ∧ Only M w w'

theorem dist_mod (n a : Int) : dist (n % 4294967296) a = dist n a := by unfold dist; omega

theorem wnew (a : Int) (w : World) (h0 : 0 ≤ a) (h1 : a < 4294967296) : Calls Try.prog 9 #[.int .u32 a] w fun e w' => ∃ q, e = .returned (.pointer (some ⟨q, 0, none⟩)) ∧ WheelAt (fun k => w.heap.size ≤ k) w' q a [] ∧ Only (fun _ => False) w w' := by
  have hF : WheelAt (fun k => w.heap.size ≤ k) (w.alloc (.cells #[.int .i64 a, .slice none 0 0, .map none] 63)) w.heap.size a [] := by
    refine ⟨⟨[], List.Perm.refl _, fun j _ hj => absurd hj (Nat.not_lt_zero _), Nat.le_refl _, Or.inl ⟨rfl, by decide, _, heap_alloc_new w _, rfl, rfl, fun i h1 h2 => ?_⟩⟩, h0⟩
    unfold clock
    by_cases h : i = 0
    · subst h; rfl
    · rw [if_neg h]; exact Array.getElem?_eq_none (by simp; omega)
  have HF := Lib.hid hF
  clear hF
  go_enter Try.func9, Try.ntmps9
  go_wp2
  go_ret
  exact ⟨_, rfl, HF.out, (Only.refl _ w).alloc _⟩

section
variable {M : Nat → Prop} {w : World} {p : Nat} {now : Int} {S : Timers}

theorem until_any (a : Int) (h : WheelAt M w p now S) : Calls Try.prog 29 #[.pointer (some ⟨p, 0, none⟩), .int .u32 a] w fun e w' => e = .returned (.int .i64 (dist now a)) ∧ w = w' := by
  have c0 := h.time.1
  clear h
  go_enter Try.func29, Try.ntmps29
  go_wp2_with (go_at_call 39; refine (far_any _ _ _).mono ?_; rintro e w' ⟨rfl, rfl⟩)
  go_ret
  exact ⟨ret_int (dist_mod now a), rfl⟩

theorem until_is (a d : Int) (h : WheelAt M w p now S) (hd : dist now a = d) : Calls Try.prog 29 #[.pointer (some ⟨p, 0, none⟩), .int .u32 a] w fun e w' => e = .returned (.int .i64 d) ∧ w = w' := by
  subst hd; exact until_any a h

set_option maxRecDepth 100000 in
theorem wnext_none (h : WheelAt M w p now []) : Calls Try.prog 20 #[.pointer (some ⟨p, 0, none⟩)] w fun e w' => e = .returned (.tuple #[.int .u32 0, .int .i64 4]) ∧ w = w' := by
  have H := Lib.hid h
  clear h
  go_enter Try.func20, Try.ntmps20
  go_wp2_with (go_at_call 32; refine (hpeek_nil H.out.heap).mono ?_; rintro e w' ⟨rfl, rfl⟩)
  go_ret2
  exact ⟨rfl, rfl⟩

set_option maxRecDepth 100000 in
theorem wnext {m : Int × Int} (h : WheelAt M w p now S) (hm : Least S m) :
    Calls Try.prog 20 #[.pointer (some ⟨p, 0, none⟩)] w fun e w' => e = .returned (.tuple #[.int .u32 (m.2 % 4294967296), .int .i64 0]) ∧ Only (fun _ => False) w w' := by
  have H := Lib.hid h
  have HM := Lib.hid hm
  have HN := Lib.hid (List.ne_nil_of_mem hm.1)
  clear h hm
  go_enter Try.func20, Try.ntmps20
  go_wp2_with (go_at_call 32; refine (hpeek H.out.heap HN.out).mono ?_; rintro e w' ⟨m', hm', rfl, hO⟩; obtain rfl := least_one hm' HM.out; have HO := Lib.hid hO; clear hm' hO)
  go_ret2
  exact ⟨rfl, HO.out⟩

theorem wout_none {id : Int} (h : WheelAt M w p now S) (hw : (Lit.int .i64 id).wf = true) (hno : ∀ x ∈ S, x.1 ≠ id) :
    Calls Try.prog 15 #[.pointer (some ⟨p, 0, none⟩), .int .i64 id] w fun e w' => e = .returned (.int .i64 4) ∧ w = w' := by
  have H := Lib.hid h
  have HN := Lib.hid hno
  clear h hno
  go_enter Try.func15, Try.ntmps15
  go_wp2_with (go_at_call 31; refine (hout_none H.out.heap hw HN.out).mono ?_; rintro e w' ⟨rfl, rfl⟩)
  go_ret
  exact ⟨rfl, rfl⟩

theorem wout {x : Int × Int} (h : WheelAt M w p now S) (hx : x ∈ S) :
    Calls Try.prog 15 #[.pointer (some ⟨p, 0, none⟩), .int .i64 x.1] w (WKeep M w p now (.int .i64 0) (without S x.1)) := by
  have H := Lib.hid h
  have HX := Lib.hid hx
  clear h hx
  go_enter Try.func15, Try.ntmps15
  go_wp2_with (go_at_call 31; refine (hout H.out.heap HX.out).mono ?_; rintro e w' ⟨rfl, hh, hO⟩; have HH := Lib.hid hh; have HO := Lib.hid hO; clear hh hO)
  go_ret
  exact ⟨rfl, ⟨HH.out, H.out.past⟩, HO.out⟩

theorem wadd_there {x : Int × Int} (a : Int) (h : WheelAt M w p now S) (hx : x ∈ S) :
    Calls Try.prog 10 #[.pointer (some ⟨p, 0, none⟩), .int .u32 a, .int .i64 x.1] w fun e w' => e = .returned (.int .i64 5) ∧ Only (fun _ => False) w w' := by
  have H := Lib.hid h
  have HX := Lib.hid hx
  clear h hx
  go_enter Try.func10, Try.ntmps10
  go_wp2_with (go_at_call 28; refine (hkey H.out.heap HX.out).mono ?_; rintro e w' ⟨rfl, hO⟩; have HO := Lib.hid hO; clear hO)
  go_ret
  exact ⟨rfl, HO.out⟩

theorem wadd_past {id : Int} (a : Int) (h : WheelAt M w p now S) (hw : (Lit.int .i64 id).wf = true) (hno : ∀ x ∈ S, x.1 ≠ id) (hd : dist now a < 0) :
    Calls Try.prog 10 #[.pointer (some ⟨p, 0, none⟩), .int .u32 a, .int .i64 id] w fun e w' => e = .returned (.int .i64 1) ∧ w = w' := by
  have H := Lib.hid h
  have HN := Lib.hid hno
  have hu := Lib.hid (until_any a h)
  clear h hno
  generalize dist now a = d at *
  go_enter Try.func10, Try.ntmps10
  go_wp2_with (first
    | (go_at_call 28; refine (hkey_none H.out.heap hw HN.out).mono ?_; rintro e w' ⟨rfl, rfl⟩)
    | (go_at_call 29; refine hu.out.mono ?_; rintro e w' ⟨rfl, rfl⟩))
  go_ret
  exact ⟨rfl, rfl⟩

/-- What is known behind an Add that adds. -/
def Added (M : Nat → Prop) (w : World) (p : Nat) (now : Int) (S : Timers) (e : Ending) (w' : World) : Prop :=
  e = .returned (.int .i64 0) ∧ WheelAt (fun k => M k ∨ w.heap.size ≤ k) w' p now S ∧ Only M w w'

set_option maxRecDepth 100000 in
set_option maxHeartbeats 400000 in
theorem wadd {id : Int} (a : Int) (h : WheelAt M w p now S) (hw : (Lit.int .i64 id).wf = true) (hno : ∀ x ∈ S, x.1 ≠ id) (hd : 0 ≤ dist now a) (hn : now ≤ 4611686018427387904) (hl : S.length + 1 ≤ 6000000000000) :
    Calls Try.prog 10 #[.pointer (some ⟨p, 0, none⟩), .int .u32 a, .int .i64 id] w (Added M w p now (S ++ [(id, now + dist now a)])) := by
  have H := Lib.hid h
  have HN := Lib.hid hno
  have hu := Lib.hid (until_any a h)
  have h2 := dist_hi now a
  have h0 := h.past
  clear h hno
  generalize dist now a = d at *
  go_enter Try.func10, Try.ntmps10
  go_upto_region 7 with (first
    | (go_at_call 28; refine (hkey_none H.out.heap hw HN.out).mono ?_; rintro e w' ⟨rfl, rfl⟩)
    | (go_at_call 29; refine hu.out.mono ?_; rintro e w' ⟨rfl, rfl⟩))
  have hO0 : Only M w w.drew := (Only.refl _ w).drew
  have H2 := Lib.hid (H.out.later ((Only.refl (fun _ => False) w).drew))
  have c0 := H2.out.time.1
  have HS := Lib.hid hO0
  have hz : w.heap.size = w.drew.heap.size := rfl
  have HZ := Lib.hid hz
  clear hO0 hz hu
  refine wp_region_still_tail 10 (by kernel_rfl) (by kernel_rfl) ?_
  show wpStill _ _ w.drew (fun a' => wpList _ _ _ _ a' w.drew) _ _
  generalize w.drew = w2 at *
  simp only [List.take_succ_cons, List.take_zero, List.drop_succ_cons, List.drop_zero]
  repeat still_step
  refine wpStill_nil ?_
  go_wp2_with (go_at_call 30; refine (hpush H2.out.heap (now + d) hw HN.out hl).mono ?_; rintro e w' ⟨rfl, hh, hO⟩; have HH := Lib.hid hh; have HO := Lib.hid hO; clear hh hO)
  go_ret
  exact ⟨rfl, ⟨HH.out.mono (fun k hk => by rw [HZ.out]; exact hk), h0⟩, HS.out.trans HO.out (fun _ _ e => e)⟩
end
end Go.Proofs.Ytiodfpoaakcejaa.Wh
