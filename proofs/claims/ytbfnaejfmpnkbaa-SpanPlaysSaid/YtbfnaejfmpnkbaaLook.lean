/- The contracts of least and find. -/
import Derived.Test.YtbfnaejfmpnkbaaNode
import Derived.Deep.LoopGhost
namespace Go.Proofs.Ytbfnaejfmpnkbaa
open Go.ChangeShapes Go.WideShapes Go.ChangeAt Go.RowKit
set_option linter.unusedVariables false

theorem least_nil (w : World) : Calls Try.prog 34 #[.pointer none] w fun e w' => e = .returned (.pointer none) ∧ w = w' := by
  go_enter Try.func34, Try.ntmps34
  go_wp2_with fail
  go_loopg [0] 1 (fun k s wr => s = .pointer none ∧ wr = w)
  case atStart => exact ⟨rfl, rfl⟩
  case round =>
    obtain ⟨rfl, rfl⟩ := hrel
    go_wp2
    go_ret
    exact ⟨rfl, rfl⟩

theorem In.cells {w : World} {b : Nat} {x : El} {l r : Tr} (h : In w (.node b x l r)) : w.cell? ⟨b, 3, none⟩ = some l.ptr ∧ w.cell? ⟨b, 4, none⟩ = some r.ptr := by
  obtain ⟨-, -, -, c3, c4, -⟩ := h.1.cells
  exact ⟨c3, c4⟩

theorem ptr_nil : Tr.nil.ptr = .pointer none := rfl
theorem ptr_node {b : Nat} {x : El} {l r : Tr} : (Tr.node b x l r).ptr = .pointer (some ⟨b, 0, none⟩) := rfl

/-- What least's loop has come to. -/
def Down (w : World) (t : Tr) (k : Nat) (s : Value) : Prop := ∃ c y m n, s = .pointer (some ⟨c, 0, none⟩) ∧ k = (Tr.node c y m n).ht ∧ In w (.node c y m n) ∧ lst (.node c y m n) = lst t

theorem least_any (b : Nat) (x : El) (l r : Tr) (w : World) (h : In w (.node b x l r)) :
    Calls Try.prog 34 #[.pointer (some ⟨b, 0, none⟩)] w fun e w' => e = .returned (.pointer (some ⟨(lst (.node b x l r)).1, 0, none⟩)) ∧ w = w' := by
  have H := Lib.hid h
  clear h
  go_enter Try.func34, Try.ntmps34
  go_wp2_with fail
  go_loopg [0] (Tr.node b x l r).ht (fun k s wr => Down w (.node b x l r) k s ∧ wr = w)
  case atStart => exact ⟨⟨b, x, l, r, rfl, rfl, H.out, rfl⟩, rfl⟩
  case round =>
    obtain ⟨⟨c, y, m, n, rfl, hk, hi, hl⟩, rfl⟩ := hrel
    obtain ⟨c3, c4⟩ := hi.cells
    have HI := Lib.hid hi
    have HL := Lib.hid hl
    have HK := Lib.hid hk
    clear hi hl hk
    cases m with
    | nil =>
      change wr.cell? ⟨c, 3, none⟩ = some (.pointer none) at c3
      go_wp2
      go_ret
      refine ⟨?_, rfl⟩
      rw [← HL.out]; rfl
    | node d z p q =>
      change wr.cell? ⟨c, 3, none⟩ = some (.pointer (some ⟨d, 0, none⟩)) at c3
      go_wp2
      go_roundg (Tr.node d z p q).ht
      case measure => rw [HK.out]; simp only [Tr.ht]; omega
      case rel => exact ⟨⟨d, z, p, q, rfl, rfl, HI.out.2.1, HL.out⟩, rfl⟩

/-- The tree below the place at which the search for an element ends. -/
def seek : Tr → Int → Int → Tr
  | .nil, _, _ => .nil
  | .node b x l r, k, i => if 0 < ordv x k i then seek l k i else if ordv x k i < 0 then seek r k i else .node b x l r

theorem seek_gt {b : Nat} {x : El} {l r : Tr} {k i : Int} (h : ordv x k i = 1) : seek (.node b x l r) k i = seek l k i := by simp only [seek]; rw [if_pos (by omega)]
theorem seek_lt {b : Nat} {x : El} {l r : Tr} {k i : Int} (h : ordv x k i = -1) : seek (.node b x l r) k i = seek r k i := by simp only [seek]; rw [if_neg (by omega), if_pos (by omega)]
theorem seek_eq {b : Nat} {x : El} {l r : Tr} {k i : Int} (h : ordv x k i = 0) : seek (.node b x l r) k i = .node b x l r := by simp only [seek]; rw [if_neg (by omega), if_neg (by omega)]

theorem order_is (b : Nat) (x : El) (l r : Value) (lv s k i v : Int) (w : World) (h : NodeIs w b x l r lv s) (hv : ordv x k i = v) :
    Calls Try.prog 36 #[.pointer (some ⟨b, 0, none⟩), .int .i64 k, .int .i64 i] w fun e w' => e = .returned (.int .i64 v) ∧ Below w.heap.size w w' := by
  subst hv; exact order_any b x l r lv s k i w h

set_option maxRecDepth 100000 in
set_option maxHeartbeats 1000000 in
theorem find_any (p : Nat) (t : Tr) (n k i : Int) (w : World) (h : In w t) (c0 : w.cell? ⟨p, 0, none⟩ = some t.ptr) (hp : p < w.heap.size) :
    Calls Try.prog 26 #[.pointer (some ⟨p, 0, none⟩), .int .i64 k, .int .i64 i] w fun e w' => e = .returned (seek t k i).ptr ∧ Below w.heap.size w w' := by
  have H := Lib.hid h
  clear h
  go_enter Try.func26, Try.ntmps26
  go_wp2_with fail
  go_loopg [7] t.ht (fun g s wr => ∃ u : Tr, s = u.ptr ∧ g = u.ht ∧ seek u k i = seek t k i ∧ In wr u ∧ Below w.heap.size w wr)
  case atStart => exact ⟨t, rfl, rfl, rfl, H.out, Below.refl _ _⟩
  case round =>
    obtain ⟨u, rfl, hk, hs, hi, hb⟩ := hrel
    have HI := Lib.hid hi
    have HS := Lib.hid hs
    have HK := Lib.hid hk
    have HB := Lib.hid hb
    clear hi hs hk hb
    cases u with
    | nil =>
      rw [ptr_nil]
      go_wp2
      go_ret
      refine ⟨?_, HB.out⟩
      rw [← HS.out]; rfl
    | node c y m n =>
      rw [ptr_node]
      rcases ordv_three y k i with o | o | o
      all_goals
        go_wp2_with (go_at_call 36; go_must (refine (order_is c y _ _ _ _ k i _ _ HI.out.1 o).mono ?_); rintro e w1 ⟨rfl, hb1⟩; have hi1 := HI.out.below hb1; obtain ⟨c3, c4⟩ := hi1.cells; have HI1 := Lib.hid hi1; have HB1 := Lib.hid (HB.out.trans (hb1.mono HB.out.size)); clear hi1 hb1)
      · go_roundg n.ht
        case measure => rw [HK.out]; simp only [Tr.ht]; omega
        case rel => exact ⟨n, rfl, rfl, (seek_lt o).symm.trans HS.out, HI1.out.2.2, HB1.out⟩
      · go_ret
        refine ⟨?_, HB1.out⟩
        rw [← HS.out, seek_eq o]; rfl
      · go_roundg m.ht
        case measure => rw [HK.out]; simp only [Tr.ht]; omega
        case rel => exact ⟨m, rfl, rfl, (seek_gt o).symm.trans HS.out, HI1.out.2.1, HB1.out⟩
end Go.Proofs.Ytbfnaejfmpnkbaa
