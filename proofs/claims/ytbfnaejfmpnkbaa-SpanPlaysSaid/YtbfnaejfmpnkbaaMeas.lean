/- The contracts of measure, turnLeft and turnRight. -/
import Derived.Test.YtbfnaejfmpnkbaaNode
namespace Go.Proofs.Ytbfnaejfmpnkbaa
open Go.ChangeShapes Go.WideShapes Go.ChangeAt Go.RowKit
set_option linter.unusedVariables false

theorem In.drew {w : World} {t : Tr} (h : In w t) : In w.drew t := h.later (Only.refl _ w).drew

section
variable {w w' : World} {b : Nat} {x : El} {l r : Value} {lv s : Int}
theorem NodeIs.drew (h : NodeIs w b x l r lv s) : NodeIs w.drew b x l r lv s := h
theorem NodeIs.set3 (h : NodeIs w b x l r lv s) (v : Value) : NodeIs (w.setCell ⟨b, 3, none⟩ v) b x v r lv s := heap_setCell_same _ b _ _ 57 _ h
theorem NodeIs.set4 (h : NodeIs w b x l r lv s) (v : Value) : NodeIs (w.setCell ⟨b, 4, none⟩ v) b x l v lv s := heap_setCell_same _ b _ _ 57 _ h
theorem NodeIs.set5 (h : NodeIs w b x l r lv s) (v : Int) : NodeIs (w.setCell ⟨b, 5, none⟩ (.int .i64 v)) b x l r v s := heap_setCell_same _ b _ _ 57 _ h
theorem NodeIs.set6 (h : NodeIs w b x l r lv s) (v : Int) : NodeIs (w.setCell ⟨b, 6, none⟩ (.int .i64 v)) b x l r lv v := heap_setCell_same _ b _ _ 57 _ h
end

theorem only_set (w : World) (b j : Nat) (v : Value) : Only (fun k => k = b) w (w.setCell ⟨b, j, none⟩ v) := (Only.refl (S := fun k => k = b) w).setCell (p := ⟨b, j, none⟩) rfl v

/-- What is known between the two halves of measure. -/
def Half (b : Nat) (x : El) (l r : Tr) (s : Int) (w wx : World) : Prop := NodeIs wx b x l.ptr r.ptr (Tr.node b x l r).ht s ∧ Only (fun k => k = b) w wx

theorem half_of {b : Nat} {x : El} {l r : Tr} {lv s m : Int} {w : World} (h : NodeIs w b x l.ptr r.ptr lv s) (hm : m = (Tr.node b x l r).ht) : Half b x l r s w (w.setCell ⟨b, 5, none⟩ (.int .i64 m)).drew := by
  subst hm
  exact ⟨(h.set5 _).drew, (only_set w b 5 _).drew⟩

/-- What measure leaves. -/
def Measured (b : Nat) (x : El) (l r : Tr) (w : World) (e : Ending) (w' : World) : Prop := e = .returned (.tuple #[]) ∧ In w' (.node b x l r) ∧ Only (fun k => k = b) w w'

theorem measured_of {b : Nat} {x : El} {l r : Tr} {s m : Int} {w wx : World} (h : Half b x l r s w wx) (hl : In w l) (hr : In w r) (nl : b ∉ l.blocks) (nr : b ∉ r.blocks) (hm : m = (Tr.node b x l r).sm) :
    In (wx.setCell ⟨b, 6, none⟩ (.int .i64 m)) (.node b x l r) ∧ Only (fun k => k = b) w (wx.setCell ⟨b, 6, none⟩ (.int .i64 m)) := by
  subst hm
  have hO := h.2.trans (only_set wx b 6 (.int .i64 (Tr.node b x l r).sm)) (fun _ _ e => e)
  exact ⟨⟨(h.1.set6 _), hl.keep hO (fun k hk e => nl (e ▸ hk)), hr.keep hO (fun k hk e => nr (e ▸ hk))⟩, hO⟩

set_option maxRecDepth 100000 in
set_option maxHeartbeats 1000000 in
theorem measure_any (b : Nat) (x : El) (l r : Tr) (lv s : Int) (w : World) (h : NodeIs w b x l.ptr r.ptr lv s) (hl : In w l) (hr : In w r) (hF : Fits (.node b x l r)) (nl : b ∉ l.blocks) (nr : b ∉ r.blocks) :
    Calls Try.prog 45 #[.pointer (some ⟨b, 0, none⟩)] w (Measured b x l r w) := by
  obtain ⟨-, -, c2, c3, c4, c5, c6⟩ := h.cells
  have H := Lib.hid h
  have HL := Lib.hid hl
  have HR := Lib.hid hr
  have hf := h.frozen 5
  obtain ⟨fl, fr, x0, x1⟩ := fits_node hF
  obtain ⟨l0, l1, l2⟩ := fits_bd fl
  obtain ⟨r0, r1, r2⟩ := fits_bd fr
  have t1 : x.w + l.sm + r.sm ≤ 6000000000000000000 := (fits_bd hF).2.1
  have NL := Lib.hid nl
  have NR := Lib.hid nr
  clear h hl hr hF fl fr nl nr
  go_enter Try.func45, Try.ntmps45
  go_wp2_with fail
  go_cut [0] from 2 to 17 (fun s0 wx => s0 = .pointer (some ⟨b, 0, none⟩) ∧ Half b x l r s w wx)
  case first =>
    go_region_with (first
      | (go_at_call_of 37 (Tr.ptr r); refine (height_any r _ HR.out.drew).mono ?_; rintro e w' ⟨rfl, rfl⟩)
      | (go_at_call_of 37 (Tr.ptr l); refine (height_any l _ HL.out.drew).mono ?_; rintro e w' ⟨rfl, rfl⟩))
    all_goals go_wp2
    all_goals go_meet
    all_goals exact ⟨rfl, half_of H.out (by rw [IntWalk.i64_in _ (by omega)]; simp only [Tr.ht]; omega)⟩
  case rest =>
    clear c2 c3 c4 c5 c6 hf
    obtain ⟨rfl, hh⟩ := hcut
    have HL2 := Lib.hid (HL.out.keep hh.2 (fun k hk e => NL.out (e ▸ hk))).drew
    have HR2 := Lib.hid (HR.out.keep hh.2 (fun k hk e => NR.out (e ▸ hk))).drew
    have hh2 : Half b x l r s w wc.drew := ⟨hh.1, hh.2.drew⟩
    obtain ⟨-, -, c2, c3, c4, c5, c6⟩ := hh2.1.cells
    have hf := hh2.1.frozen 6
    have HH2 := Lib.hid hh2
    clear hh hh2
    go_wp2_with fail
    refine wp_region_still_tail 19 (by kernel_rfl) (by kernel_rfl) ?_
    show wpStill _ _ wc.drew (fun a' => wpList _ _ _ _ a' wc.drew) _ _
    generalize wc.drew = w2 at *
    simp only [List.take_succ_cons, List.take_zero, List.drop_succ_cons, List.drop_zero]
    repeat still_step
    refine wpStill_step (fun K hK => ?_)
    go_simp
    (with_reducible refine ⟨_, total_here l _ HL2.out, hK _ ?_⟩)
    clear hK K
    repeat still_step
    refine wpStill_step (fun K hK => ?_)
    go_simp
    (with_reducible refine ⟨_, total_here r _ HR2.out, hK _ ?_⟩)
    clear hK K
    repeat still_step
    refine wpStill_nil ?_
    go_wp2
    go_end0
    exact ⟨rfl, measured_of HH2.out HL.out HR.out NL.out NR.out rfl⟩
end Go.Proofs.Ytbfnaejfmpnkbaa
