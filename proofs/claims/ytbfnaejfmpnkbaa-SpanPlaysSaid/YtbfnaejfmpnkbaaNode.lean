/- A tree in memory, and the functions that only look at one node. -/
import Derived.Test.YtbfnaejfmpnkbaaTree
import Derived.BigRegion
import Derived.IntWalk
namespace Go.Proofs.Ytbfnaejfmpnkbaa
open Go.ChangeShapes Go.WideShapes Go.ChangeAt Go.RowKit
set_option linter.unusedVariables false

/-- The pointer to a tree's top. -/
def Tr.ptr : Tr → Value
  | .nil => .pointer none
  | .node b _ _ _ => .pointer (some ⟨b, 0, none⟩)

/-- What the block of a node holds. -/
def NodeIs (w : World) (b : Nat) (x : El) (l r : Value) (lv s : Int) : Prop :=
  w.heap[b]? = some (.cells #[.int .i64 x.k, .int .i64 x.i, .int .i64 x.w, l, r, .int .i64 lv, .int .i64 s] 57 (0, 0))

/-- The tree lies in memory, each node measured. -/
def In (w : World) : Tr → Prop
  | .nil => True
  | .node b x l r => NodeIs w b x l.ptr r.ptr (Tr.node b x l r).ht (Tr.node b x l r).sm ∧ In w l ∧ In w r

section
variable {w w' : World} {b : Nat} {x : El} {l r : Value} {lv s : Int}
theorem NodeIs.cells (h : NodeIs w b x l r lv s) :
    w.cell? ⟨b, 0, none⟩ = some (.int .i64 x.k) ∧ w.cell? ⟨b, 1, none⟩ = some (.int .i64 x.i) ∧ w.cell? ⟨b, 2, none⟩ = some (.int .i64 x.w) ∧ w.cell? ⟨b, 3, none⟩ = some l ∧
    w.cell? ⟨b, 4, none⟩ = some r ∧ w.cell? ⟨b, 5, none⟩ = some (.int .i64 lv) ∧ w.cell? ⟨b, 6, none⟩ = some (.int .i64 s) := by
  refine ⟨?_, ?_, ?_, ?_, ?_, ?_, ?_⟩ <;> (rw [cell_at h]; rfl)
theorem NodeIs.lt (h : NodeIs w b x l r lv s) : b < w.heap.size := block_there h
theorem NodeIs.frozen (h : NodeIs w b x l r lv s) (j : Nat) : w.frozen? ⟨b, j, none⟩ = false := frozen_at h j
theorem NodeIs.keep {S : Nat → Prop} (h : NodeIs w b x l r lv s) (hO : Only S w w') (hb : ¬ S b) : NodeIs w' b x l r lv s := (hO.block b h.lt hb).trans h
end

theorem In.lt {w : World} {t : Tr} (h : In w t) : ∀ b ∈ t.blocks, b < w.heap.size := by
  induction t with
  | nil => intro b hb; cases hb
  | node c x l r ihl ihr =>
    intro b hb
    rcases List.mem_cons.1 hb with rfl | hb
    · exact h.1.lt
    · rcases List.mem_append.1 hb with hb | hb
      · exact ihl h.2.1 b hb
      · exact ihr h.2.2 b hb

theorem In.keep {S : Nat → Prop} {w w' : World} {t : Tr} (h : In w t) (hO : Only S w w') (hS : ∀ b ∈ t.blocks, ¬ S b) : In w' t := by
  induction t with
  | nil => trivial
  | node c x l r ihl ihr =>
    exact ⟨h.1.keep hO (hS c (by simp [Tr.blocks])), ihl h.2.1 (fun b hb => hS b (by simp [Tr.blocks, hb])), ihr h.2.2 (fun b hb => hS b (by simp [Tr.blocks, hb]))⟩

theorem In.later {w w' : World} {t : Tr} (h : In w t) (hO : Only (fun _ => False) w w') : In w' t := h.keep hO (fun _ _ e => e)
theorem In.below {w w' : World} {t : Tr} (h : In w t) (hb : Below w.heap.size w w') : In w' t := h.later (Only.of_below hb)
theorem NodeIs.below {w w' : World} {b : Nat} {x : El} {l r : Value} {lv s : Int} (h : NodeIs w b x l r lv s) (hb : Below w.heap.size w w') : NodeIs w' b x l r lv s :=
  h.keep (S := fun _ => False) (Only.of_below hb) (fun e => e)

theorem height_any (t : Tr) (w : World) (h : In w t) : Calls Try.prog 37 #[t.ptr] w fun e w' => e = .returned (.int .i64 t.ht) ∧ w = w' := by
  cases t with
  | nil =>
    show Calls Try.prog 37 #[.pointer none] w _
    go_enter Try.func37, Try.ntmps37
    go_wp2
    go_ret
    exact ⟨rfl, rfl⟩
  | node b x l r =>
    obtain ⟨-, -, -, -, -, c5, -⟩ := h.1.cells
    clear h
    generalize (Tr.node b x l r).ht = n at *
    show Calls Try.prog 37 #[.pointer (some ⟨b, 0, none⟩)] w _
    go_enter Try.func37, Try.ntmps37
    go_wp2
    go_ret
    exact ⟨rfl, rfl⟩

theorem total_any (t : Tr) (w : World) (h : In w t) : Calls Try.prog 28 #[t.ptr] w fun e w' => e = .returned (.int .i64 t.sm) ∧ w = w' := by
  cases t with
  | nil =>
    show Calls Try.prog 28 #[.pointer none] w _
    go_enter Try.func28, Try.ntmps28
    go_wp2
    go_ret
    exact ⟨rfl, rfl⟩
  | node b x l r =>
    obtain ⟨-, -, -, -, -, -, c6⟩ := h.1.cells
    clear h
    generalize (Tr.node b x l r).sm = n at *
    show Calls Try.prog 28 #[.pointer (some ⟨b, 0, none⟩)] w _
    go_enter Try.func28, Try.ntmps28
    go_wp2
    go_ret
    exact ⟨rfl, rfl⟩

theorem height_here (t : Tr) (w : World) (h : In w t) : Calls Try.prog 37 #[t.ptr] w fun e w' => e = .returned (.int .i64 t.ht) ∧ w' = w :=
  (height_any t w h).mono fun _ _ ⟨a, b⟩ => ⟨a, b.symm⟩
theorem total_here (t : Tr) (w : World) (h : In w t) : Calls Try.prog 28 #[t.ptr] w fun e w' => e = .returned (.int .i64 t.sm) ∧ w' = w :=
  (total_any t w h).mono fun _ _ ⟨a, b⟩ => ⟨a, b.symm⟩

theorem In.drewN {w : World} {t : Tr} (h : In w t) (n : Nat) : In (w.drewN n) t := h.later (only_drewN (Only.refl _ w) n)

theorem below_box (w : World) (a : Obj) : Below w.heap.size w (w.alloc a).drew := ((Below.refl _ w).alloc (Nat.le_refl _) _).drew

set_option maxRecDepth 100000 in
theorem order_any (b : Nat) (x : El) (l r : Value) (lv s k i : Int) (w : World) (h : NodeIs w b x l r lv s) :
    Calls Try.prog 36 #[.pointer (some ⟨b, 0, none⟩), .int .i64 k, .int .i64 i] w fun e w' => e = .returned (.int .i64 (ordv x k i)) ∧ Below w.heap.size w w' := by
  obtain ⟨c0, c1, -⟩ := h.cells
  have hlt := h.lt
  clear h
  go_enter Try.func36, Try.ntmps36
  go_wp2_with fail
  go_region_held3 (fun w' => w'.cell? ⟨b, 0, none⟩ = some (.int .i64 x.k) ∧ w'.cell? ⟨b, 1, none⟩ = some (.int .i64 x.i)) (go_keep)
   (first
    | (go_at_call 41; refine (compare_any _ _ _).mono ?_; rintro e w' ⟨rfl, rfl⟩)
    | (go_at_call 40; refine (or_made _ _ _ _ (by simp)).mono ?_; rintro e w' ⟨rfl, rfl⟩))
  all_goals (go_wp2; go_ret; exact ⟨rfl, below_box _ _⟩)

theorem tell_nil (w : World) : Calls Try.prog 35 #[.pointer none] w fun e w' => e = .returned (.tuple #[.int .i64 0, .int .i64 0, .int .i64 0, .int .i64 4]) ∧ w = w' := by
  go_enter Try.func35, Try.ntmps35
  go_wp2
  refine bodyPost_ret (v := .tuple #[.int .i64 0, .int .i64 0, .int .i64 0, .int .i64 4]) (by simp [results, Try.results35, go_sem]) rfl ⟨rfl, rfl⟩

theorem tell_any (b : Nat) (x : El) (l r : Value) (lv s : Int) (w : World) (h : NodeIs w b x l r lv s) :
    Calls Try.prog 35 #[.pointer (some ⟨b, 0, none⟩)] w fun e w' => e = .returned (.tuple #[.int .i64 x.k, .int .i64 x.i, .int .i64 x.w, .int .i64 0]) ∧ Only (fun _ => False) w w' := by
  obtain ⟨c0, c1, c2, -⟩ := h.cells
  clear h
  go_enter Try.func35, Try.ntmps35
  go_wp2_with fail
  go_quiet (fail)
  go_wp2
  refine bodyPost_ret (v := .tuple #[.int .i64 x.k, .int .i64 x.i, .int .i64 x.w, .int .i64 0]) (by simp [results, Try.results35, go_sem]) rfl ⟨rfl, only_drewN (Only.refl _ w) _⟩

theorem tilt_any (b : Nat) (x : El) (l r : Tr) (lv s : Int) (w : World) (h : NodeIs w b x l.ptr r.ptr lv s) (hl : In w l) (hr : In w r) (bl : l.ht ≤ 6000000000000) (br : r.ht ≤ 6000000000000) :
    Calls Try.prog 42 #[.pointer (some ⟨b, 0, none⟩)] w fun e w' => e = .returned (.int .i64 ((r.ht : Int) - l.ht)) ∧ Only (fun _ => False) w w' := by
  obtain ⟨-, -, -, c3, c4, -⟩ := h.cells
  have HL := Lib.hid hl
  have HR := Lib.hid hr
  clear h hl hr
  have e1 : IntKind.i64.wrap ((r.ht : Int) - l.ht) = (r.ht : Int) - l.ht := IntWalk.i64_in _ (by omega)
  go_enter Try.func42, Try.ntmps42
  go_wp2_with fail
  go_quiet (first
    | (go_at_call_of 37 (Tr.ptr r); exact Calls.quiet_of_same (height_here r _ (HR.out.drewN _)))
    | (go_at_call_of 37 (Tr.ptr l); exact Calls.quiet_of_same (height_here l _ (HL.out.drewN _))))
  go_wp2
  go_ret
  exact ⟨rfl, only_drewN (Only.refl _ w) _⟩
end Go.Proofs.Ytbfnaejfmpnkbaa
