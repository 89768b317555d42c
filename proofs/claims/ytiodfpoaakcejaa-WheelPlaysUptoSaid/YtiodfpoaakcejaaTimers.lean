/- The contract of the statements' timers, and of wheelBegun. -/
import Derived.Test.YtiodfpoaakcejaaWStep
import Derived.Test.YtiodfpoaakcejaaRest
import Derived.Test.YtiodfpoaakcejaaEq
namespace Go.Proofs.Ytiodfpoaakcejaa.Wh
open Go.ChangeShapes Go.WideShapes Go.ChangeAt Go.RowKit Go.Maps
open Go.Proofs.Ytiodfpoaakcejaa.Hp
set_option linter.unusedVariables false

/-- The first k timers of a list, from a time on. -/
def timersOf (a : Int) (xs : List Int) (k : Nat) : Timers := (List.range k).map fun (i : Nat) => ((i : Int), a + restOf (xs.getD i 0) 5000)

theorem timersOf_succ (a : Int) (xs : List Int) (k : Nat) : timersOf a xs (k + 1) = timersOf a xs k ++ [((k : Int), a + restOf (xs.getD k 0) 5000)] := by
  simp [timersOf, List.range_succ]

theorem timersOf_new {a : Int} {xs : List Int} {k : Nat} : ∀ x ∈ timersOf a xs k, x.1 ≠ k := by
  intro x hx
  obtain ⟨i, hi, rfl⟩ := List.mem_map.1 hx
  simp only [List.mem_range] at hi
  simp only; omega

theorem timersOf_len (a : Int) (xs : List Int) (k : Nat) : (timersOf a xs k).length = k := by simp [timersOf]

theorem timersOf_shift (a b : Int) (xs : List Int) (k : Nat) : timersOf b xs k = shift (b - a) (timersOf a xs k) := by
  unfold timersOf shift
  rw [List.map_map]
  apply List.map_congr_left
  intro i _
  simp only [Function.comp]
  congr 1; omega

theorem dist_rest {a r : Int} (h0 : 0 ≤ r) (h1 : r < 2147483648) : dist a ((a + r) % 4294967296) = r := by unfold dist; omega

theorem dist_self (a : Int) : dist a (a % 4294967296) = 0 := by unfold dist; omega

/-- A step to a time that does not go round. -/
theorem wstep_to {M : Nat → Prop} {w : World} {p : Nat} {now : Int} {S : Timers} (t a : Int) (h : WheelAt M w p now S) (hM : ∀ k, M k → k < w.heap.size) (ha : a = t % 4294967296) (ht : now ≤ t) (hd : t ≤ now + 2147483647) (hn : now ≤ 4611686018427387904) :
    Calls Try.prog 17 #[.pointer (some ⟨p, 0, none⟩), .int .u32 a] w (Stepped M w p t S) := by
  have e : dist now a = t - now := by subst ha; unfold dist; omega
  have := wstep a h hM (by omega) hn
  rwa [e, show now + (t - now) = t by omega] at this

/-- A timer at a time that does not go round. -/
theorem wadd_to {M : Nat → Prop} {w : World} {p : Nat} {now : Int} {S : Timers} {id : Int} (t a : Int) (h : WheelAt M w p now S) (hw : (Lit.int .i64 id).wf = true) (hno : ∀ x ∈ S, x.1 ≠ id) (ha : a = t % 4294967296) (ht : now ≤ t) (hd : t ≤ now + 2147483647) (hn : now ≤ 4611686018427387904) (hl : S.length + 1 ≤ 6000000000000) :
    Calls Try.prog 10 #[.pointer (some ⟨p, 0, none⟩), .int .u32 a, .int .i64 id] w (Added M w p now (S ++ [(id, t)])) := by
  have e : dist now a = t - now := by subst ha; unfold dist; omega
  have := wadd a h hw hno (by omega) hn hl
  rwa [e, show now + (t - now) = t by omega] at this

theorem Stepped.open {M : Nat → Prop} {w w' : World} {p : Nat} {t : Int} {S : Timers} {e : Ending} (h : Stepped M w p t S e w') {n : Nat} (hn : (goers S t).length = n) :
    ∃ a c, e = .returned (.tuple #[.slice a n c, .int .i64 0]) ∧ Ints w' w.heap.size (.slice a n c) (idsOf (goers S t)) ∧ WheelAt M w' p t (stay S t) ∧ Only M w w' := by
  obtain ⟨v, rfl, hr, hw, hO⟩ := h
  obtain ⟨a, c, rfl, -⟩ := hr.shape
  have e : (idsOf (goers S t)).length = n := by rw [← hn]; simp
  rw [e] at hr
  exact ⟨a, c, by rw [e], hr, hw, hO⟩

/-- What is known behind timers. -/
def Timed (a : Int) (xs : List Int) (w : World) (e : Ending) (w' : World) : Prop :=
  ∃ q, e = .returned (.tuple #[.pointer (some ⟨q, 0, none⟩), .bool true]) ∧ WheelAt (fun k => w.heap.size ≤ k) w' q a (timersOf a xs xs.length) ∧ Only (fun _ => False) w w'

theorem only_above {S : Nat → Prop} {w w1 w2 : World} (h1 : Only (fun _ => False) w w1) (h2 : Only S w1 w2) (hS : ∀ k, S k → w.heap.size ≤ k) : Only (fun _ => False) w w2 := h1.trans h2 (fun k hk e => absurd (hS k e) (by omega))

theorem only_fresh {w w1 w2 : World} (h1 : Only (fun _ => False) w w1) (h2 : Only (fun k => w.heap.size ≤ k) w1 w2) : Only (fun _ => False) w w2 := h1.trans h2 (fun k hk e => absurd hk (by omega))

set_option maxRecDepth 100000 in
set_option maxHeartbeats 1000000 in
theorem timers_any (v : Value) (xs : List Int) (a : Int) (w : World) (h0 : 0 ≤ a) (h1 : a < 4294967296) (hv : Nums w v xs) (hl : xs.length ≤ 5000000000000) :
    Calls Try.prog 22 #[.int .u32 a, v] w (Timed a xs w) := by
  obtain ⟨ad, c, rfl, hr⟩ := hv
  have HR := Lib.hid hr
  clear hr
  go_enter Try.func22, Try.ntmps22
  go_wp2_with (go_at_call 9; refine (wnew a _ h0 h1).mono ?_; rintro e w1 ⟨q, rfl, hw, hO⟩; have HW := Lib.hid hw; have HO := Lib.hid hO; clear hw hO)
  go_loopw [7, 8, 15, 16, 17, 18, 19, 20, 21, 22, 23, 24, 25, 26, 27, 28, 30] (fun _ _ i _ _ _ _ _ _ _ _ _ _ _ _ _ _ wr => ∃ k : Nat, k ≤ xs.length ∧ i = .int .i64 k ∧ WheelAt (fun k => w.heap.size ≤ k) wr q a (timersOf a xs k) ∧ Only (fun _ => False) w wr) (fun _ _ i _ _ _ _ _ _ _ _ _ _ _ _ _ _ _ => xs.length - (intOf i).toNat)
  case atStart => exact ⟨0, Nat.zero_le _, rfl, HW.out, HO.out⟩
  case round =>
    obtain ⟨k, hk, rfl, hw, hO⟩ := hrel
    have HW2 := Lib.hid hw
    have HO2 := Lib.hid hO
    clear hw hO
    by_cases hlt : k < xs.length
    · obtain ⟨b, off, rfl, hc⟩ := HR.out k hlt
      have d0 : wr.cell? ⟨b, off + k, none⟩ = some (.int .i64 (xs.getD k 0)) := by
        rw [← hc]; unfold World.cell?; rw [HO2.out.block b (block_lt hc) (fun e => e)]
      clear hc
      have g1 : (k : Int) < xs.length := by omega
      have g2 : (0 : Int) ≤ k := by omega
      have HNEW := Lib.hid (timersOf_new (a := a) (xs := xs) (k := k))
      have HTL := Lib.hid (timersOf_len a xs k)
      have r0 := restOf_lo (xs.getD k 0) 5000 (by omega)
      have r1 := restOf_hi (xs.getD k 0) 5000 (by omega)
      have HSU := Lib.hid (timersOf_succ a xs k)
      generalize hx : xs.getD k 0 = x at *
      have HX := Lib.hid hx
      clear hx
      have HD := Lib.hid (dist_rest (a := a) r0 (by omega))
      have hwf : (Lit.int .i64 (k : Int)).wf = true := i64_wf (by omega)
      have HWF := Lib.hid hwf
      clear hwf
      go_wp2_with (first
        | (go_at_call 23; refine (rest_any _ _ (by omega) (by omega) _).mono ?_; rintro e w2 ⟨rfl, rfl⟩)
        | (go_at_call 10; refine (wadd _ HW2.out HWF.out HNEW.out (by have := HD.out; omega) (by omega) (by have := HTL.out; omega)).mono ?_; rintro e w3 ⟨rfl, hw3, hO3⟩; have HW3 := Lib.hid hw3; have HO3 := Lib.hid hO3; clear hw3 hO3))
      go_roundw
      case rel =>
        refine ⟨k + 1, by omega, by go_num, ?_, only_fresh HO2.out HO3.out⟩
        have := HW3.out
        rw [HD.out] at this
        rw [HSU.out]
        exact this.mono (fun j hj => by rcases hj with hj | hj; · exact hj
                                        · exact Nat.le_trans HO2.out.size hj)
      case measure => simp [intOf]; omega
    · have he : k = xs.length := by omega
      subst he
      go_wp2_with fail
      go_ret2
      exact ⟨q, rfl, HW2.out, HO2.out⟩

theorem goers_begun : goers (timersOf 4294967280 [40, 20] 2) (4294967280 + 36) = [(1, 4294967300)] :=
  goers_of (List.pairwise_singleton _ _) (by decide)

theorem begun_row {w2 : World} {b : Nat} {v : Value} {o : Obj} (h : Ints w2 b v (idsOf (goers (timersOf 4294967280 [40, 20] [40, 20].length) (4294967280 + dist 4294967280 20)))) : Nums (w2.alloc o) v [1] := by
  have e : idsOf (goers (timersOf 4294967280 [40, 20] [40, 20].length) (4294967280 + dist 4294967280 20)) = [1] := by
    have := goers_begun
    show idsOf (goers (timersOf 4294967280 [40, 20] 2) (4294967280 + 36)) = [1]
    rw [this]; rfl
  rw [e] at h
  exact h.nums.later ((Only.refl _ w2).alloc o)

set_option maxRecDepth 100000 in
set_option maxHeartbeats 1000000 in
theorem begun_any (w : World) : Calls Try.prog 21 #[] w (BoolOnly true w) := by
  go_enter Try.func21, Try.ntmps21
  go_wp2_with (first
    | (go_at_call 22; refine (timers_any _ [40, 20] 4294967280 _ (by omega) (by omega) (nums_block (heap_alloc_new w _) rfl) (by simp)).mono ?_; rintro e w1 ⟨q, rfl, hw, hO⟩; have HW := Lib.hid hw; have HO := Lib.hid hO; clear hw hO)
    | (go_at_call 17; refine (wstep 20 HW.out.there (fun k h => h.2) (by decide) (by omega)).mono ?_; rintro e w2 ⟨v, rfl, hr, hw2, hO2⟩; have HR := Lib.hid hr; have HO2 := Lib.hid hO2; clear hr hw2 hO2)
    | (go_at_call 19; refine (eq_same _ _ [1] _ (begun_row HR.out) (nums_block (heap_alloc_new w2 _) rfl) (by simp)).mono ?_; rintro e w3 ⟨rfl, hO3⟩; have HO3 := Lib.hid hO3; clear hO3))
  go_ret
  refine bool_is (b := true) rfl ?_
  have h1 : Only (fun _ => False) w w1 := ((Only.refl _ w).alloc _).trans HO.out (fun _ _ e => e)
  have h2 : Only (fun _ => False) w w2 := only_above h1 HO2.out (fun k hk => by have := hk.1; simp at this; omega)
  exact (h2.alloc _).trans HO3.out (fun _ _ e => e)
end Go.Proofs.Ytiodfpoaakcejaa.Wh
