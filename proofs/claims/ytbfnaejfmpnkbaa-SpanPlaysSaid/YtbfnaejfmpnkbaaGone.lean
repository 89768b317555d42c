/- The contract of without. -/
import Derived.Test.YtbfnaejfmpnkbaaWith
namespace Go.Proofs.Ytbfnaejfmpnkbaa
open Go.ChangeShapes Go.WideShapes Go.ChangeAt Go.RowKit
set_option linter.unusedVariables false

/-- The block of a tree's top. -/
def topb : Tr → Nat
  | .nil => 0
  | .node b _ _ _ => b

theorem cut_sub (k i : Int) (l : List El) : (cut k i l).Sublist l := by
  induction l with
  | nil => exact List.Sublist.refl _
  | cons x l ih =>
    simp only [cut]
    split
    · exact List.sublist_cons_self x l
    · exact ih.cons_cons x

theorem fits_sub {t u : Tr} (h : Fits t) (s : u.els.Sublist t.els) : Fits u := ⟨fun x hx => h.1 x (s.subset hx), Nat.le_trans s.length_le h.2⟩

theorem del_fits {t : Tr} {k i : Int} (h : Fits t) (hs : Sorted t.els) : Fits (del t k i) := fits_sub h (by rw [del_els hs]; exact cut_sub k i _)

theorem seek_lst {b : Nat} {x : El} {l r : Tr} (h : Sorted (Tr.node b x l r).els) :
    ∃ q, seek (.node b x l r) (lst (.node b x l r)).2.k (lst (.node b x l r)).2.i = .node (lst (.node b x l r)).1 (lst (.node b x l r)).2 .nil q := by
  induction l generalizing b x r with
  | nil => exact ⟨r, by simp only [lst]; rw [seek_eq ((ordv_zero x x.k x.i).2 ⟨rfl, rfl⟩)]⟩
  | node c y l' r' ih _ =>
    obtain ⟨h1, h2, h3, h4⟩ := sorted_app h
    obtain ⟨q, hq⟩ := ih (b := c) (x := y) (r := r') h1
    obtain ⟨m, hm⟩ := lst_els (b := c) (x := y) (l := l') (r := r')
    refine ⟨q, ?_⟩
    have e : lst (.node b x (.node c y l' r') r) = lst (.node c y l' r') := rfl
    rw [e]
    have hlt := h3 (lst (.node c y l' r')).2 (by rw [hm]; simp)
    have ho : 0 < ordv x (lst (.node c y l' r')).2.k (lst (.node c y l' r')).2.i := by rw [ordv_pos]; exact lt_aft.1 hlt
    rcases ordv_three x (lst (.node c y l' r')).2.k (lst (.node c y l' r')).2.i with o | o | o
    · omega
    · omega
    · rw [seek_gt o]; exact hq

theorem In.seek {w : World} {t : Tr} (h : In w t) (k i : Int) : In w (seek t k i) := by
  induction t with
  | nil => exact h
  | node b x l r ihl ihr =>
    rcases ordv_three x k i with o | o | o
    · rw [seek_lt o]; exact ihr h.2.2
    · rw [seek_eq o]; exact h
    · rw [seek_gt o]; exact ihl h.2.1

theorem del_gt {b : Nat} {x : El} {l r : Tr} {k i : Int} (h : ordv x k i = 1) : del (.node b x l r) k i = bal (.node b x (del l k i) r) := by simp only [del]; rw [if_pos (by omega)]
theorem del_lt {b : Nat} {x : El} {l r : Tr} {k i : Int} (h : ordv x k i = -1) : del (.node b x l r) k i = bal (.node b x l (del r k i)) := by simp only [del]; rw [if_neg (by omega), if_pos (by omega)]
theorem del_eq {b : Nat} {x : El} {l r : Tr} {k i : Int} (h : ordv x k i = 0) : del (.node b x l r) k i = joined l r (del r (lst r).2.k (lst r).2.i) := by simp only [del]; rw [if_neg (by omega), if_neg (by omega)]

theorem joined_left {r T : Tr} : joined .nil r T = r := rfl
theorem joined_right {l T : Tr} : joined l .nil T = l := by cases l <;> rfl

/-- A block goes, no other. -/
theorem del_blocks {t : Tr} : ∀ {k i : Int}, Sorted t.els → seek t k i ≠ .nil → (topb (seek t k i) :: (del t k i).blocks).Perm t.blocks := by
  induction t with
  | nil => intro k i _ h; exact absurd rfl h
  | node b x l r ihl ihr =>
    intro k i hs h
    obtain ⟨h1, h2, h3, h4⟩ := sorted_app hs
    rcases ordv_three x k i with o | o | o
    · rw [seek_lt o] at h ⊢
      rw [del_lt o]
      refine ((bal_blocks _).cons _).trans ?_
      simp only [Tr.blocks]
      refine (List.Perm.swap b _ _).trans (List.Perm.cons b ?_)
      refine List.perm_middle.symm.trans ((ihr h2 h).append_left _)
    · rw [seek_eq o, del_eq o]
      cases l with
      | nil => rw [joined_left]; exact List.Perm.refl _
      | node b1 x1 l1 r1 =>
        cases r with
        | nil => rw [joined_right]; simp [Tr.blocks, topb]
        | node b2 x2 l2 r2 =>
          obtain ⟨q, hq⟩ := seek_lst h2
          have hi := ihr (k := (lst (.node b2 x2 l2 r2)).2.k) (i := (lst (.node b2 x2 l2 r2)).2.i) h2 (by rw [hq]; exact fun e => by cases e)
          rw [hq] at hi
          generalize hL : Tr.node b1 x1 l1 r1 = L at *
          have ej : joined L (.node b2 x2 l2 r2) (del (.node b2 x2 l2 r2) (lst (.node b2 x2 l2 r2)).2.k (lst (.node b2 x2 l2 r2)).2.i) = bal (.node (lst (.node b2 x2 l2 r2)).1 (lst (.node b2 x2 l2 r2)).2 L (del (.node b2 x2 l2 r2) (lst (.node b2 x2 l2 r2)).2.k (lst (.node b2 x2 l2 r2)).2.i)) := by
            subst hL; rfl
          rw [ej]
          generalize hR : Tr.node b2 x2 l2 r2 = R at *
          refine ((bal_blocks _).cons _).trans ?_
          simp only [Tr.blocks, topb] at hi ⊢
          refine List.Perm.cons b ?_
          exact List.perm_middle.symm.trans (hi.append_left _)
    · rw [seek_gt o] at h ⊢
      rw [del_gt o]
      refine ((bal_blocks _).cons _).trans ?_
      simp only [Tr.blocks]
      refine (List.Perm.swap b _ _).trans (List.Perm.cons b ?_)
      exact (ihl h1 h).append_right _

theorem seek_mem {t : Tr} {k i : Int} (h : seek t k i ≠ .nil) : topb (seek t k i) ∈ t.blocks := by
  induction t with
  | nil => exact absurd rfl h
  | node b x l r ihl ihr =>
    rcases ordv_three x k i with o | o | o
    · rw [seek_lt o] at h ⊢; rw [mem_blocks]; exact Or.inr (Or.inr (ihr h))
    · rw [seek_eq o, mem_blocks]; exact Or.inl rfl
    · rw [seek_gt o] at h ⊢; rw [mem_blocks]; exact Or.inr (Or.inl (ihl h))

theorem mem_bal {t : Tr} {k : Nat} : k ∈ (bal t).blocks ↔ k ∈ t.blocks := (bal_blocks t).mem_iff

/-- The blocks when an element goes out of the tree D. -/
structure Leaves (b : Nat) (l r : Tr) : Prop where
  left : l.blocks.Nodup
  right : r.blocks.Nodup
  bl : b ∉ l.blocks
  br : b ∉ r.blocks
  lr : ∀ k ∈ l.blocks, k ∉ r.blocks

theorem leaves_of {b : Nat} {x : El} {l r : Tr} (h : (Tr.node b x l r).blocks.Nodup) : Leaves b l r := by
  obtain ⟨g1, g2, g3, g4, g5⟩ := nodup_node.1 h
  exact ⟨g3, g4, g1, g2, g5⟩

theorem del_in {t : Tr} {k i : Int} (hs : Sorted t.els) (h : seek t k i ≠ .nil) {q : Nat} (hq : q ∈ (del t k i).blocks) : q ∈ t.blocks := (del_blocks hs h).mem_iff.1 (List.mem_cons_of_mem _ hq)
theorem del_nodup {t : Tr} {k i : Int} (hs : Sorted t.els) (h : seek t k i ≠ .nil) (hn : t.blocks.Nodup) : topb (seek t k i) ∉ (del t k i).blocks ∧ (del t k i).blocks.Nodup := List.nodup_cons.1 ((del_blocks hs h).nodup_iff.2 hn)

/-- What is known when a tree's element goes. -/
structure Goes (w : World) (t : Tr) (k i : Int) : Prop where
  lies : In w t
  nodup : t.blocks.Nodup
  fits : Fits t
  sorted : Sorted t.els
  has : seek t k i ≠ .nil

/-- What without leaves. -/
def Went (t : Tr) (k i : Int) (w : World) (e : Ending) (w' : World) : Prop := Topped (fun q => q ∈ (del t k i).blocks) (del t k i) w e w'

theorem went_of {t u : Tr} {k i : Int} {w w' : World} (e : del t k i = u) (hi : In w' u) (ho : Only (fun q => q ∈ u.blocks) w w') : Went t k i w (.returned u.ptr) w' := by
  subst e; exact ⟨rfl, hi, ho⟩

section
variable {w w' : World} {b : Nat} {x : El} {l r : Tr} {k i : Int}
theorem Goes.later {t : Tr} (h : Goes w t k i) (hO : Only (fun _ => False) w w') : Goes w' t k i := ⟨h.lies.later hO, h.nodup, h.fits, h.sorted, h.has⟩
theorem Goes.goLeft (h : Goes w (.node b x l r) k i) (o : ordv x k i = 1) : Goes w l k i :=
  ⟨h.lies.2.1, (leaves_of h.nodup).left, (fits_node h.fits).1, (sorted_app h.sorted).1, by have := h.has; rwa [seek_gt o] at this⟩
theorem Goes.goRight (h : Goes w (.node b x l r) k i) (o : ordv x k i = -1) : Goes w r k i :=
  ⟨h.lies.2.2, (leaves_of h.nodup).right, (fits_node h.fits).2.1, (sorted_app h.sorted).2.1, by have := h.has; rwa [seek_lt o] at this⟩
theorem Goes.b_left (h : Goes w (.node b x l r) k i) (o : ordv x k i = 1) : b ∉ (del l k i).blocks := fun e => (leaves_of h.nodup).bl (del_in (h.goLeft o).sorted (h.goLeft o).has e)
theorem Goes.b_right (h : Goes w (.node b x l r) k i) (o : ordv x k i = -1) : b ∉ (del r k i).blocks := fun e => (leaves_of h.nodup).br (del_in (h.goRight o).sorted (h.goRight o).has e)
theorem Goes.fits_left (h : Goes w (.node b x l r) k i) (o : ordv x k i = 1) : Fits (.node b x (del l k i) r) :=
  fits_sub h.fits (by simp only [Tr.els]; rw [del_els (h.goLeft o).sorted]; exact (cut_sub k i _).append_right _)
theorem Goes.fits_right (h : Goes w (.node b x l r) k i) (o : ordv x k i = -1) : Fits (.node b x l (del r k i)) :=
  fits_sub h.fits (by simp only [Tr.els]; rw [del_els (h.goRight o).sorted]; exact ((cut_sub k i _).cons_cons x).append_left _)
theorem Goes.nodup_left (h : Goes w (.node b x l r) k i) (o : ordv x k i = 1) : (Tr.node b x (del l k i) r).blocks.Nodup := by
  have hl := leaves_of h.nodup
  exact nodup_node.2 ⟨h.b_left o, hl.br, (del_nodup (h.goLeft o).sorted (h.goLeft o).has hl.left).2, hl.right, fun q hq => hl.lr q (del_in (h.goLeft o).sorted (h.goLeft o).has hq)⟩
theorem Goes.nodup_right (h : Goes w (.node b x l r) k i) (o : ordv x k i = -1) : (Tr.node b x l (del r k i)).blocks.Nodup := by
  have hl := leaves_of h.nodup
  exact nodup_node.2 ⟨hl.bl, h.b_right o, hl.left, (del_nodup (h.goRight o).sorted (h.goRight o).has hl.right).2, fun q hq e => hl.lr q hq (del_in (h.goRight o).sorted (h.goRight o).has e)⟩
end

set_option maxRecDepth 100000 in
set_option maxHeartbeats 1000000 in
theorem gone_left (b : Nat) (x : El) (l r : Tr) (k i : Int) (w : World) (h : Goes w (.node b x l r) k i) (o : ordv x k i = 1)
    (ih : ∀ (w : World) (k i : Int), Goes w l k i → Calls Try.prog 31 #[l.ptr, .int .i64 k, .int .i64 i] w (Went l k i w)) :
    Calls Try.prog 31 #[.pointer (some ⟨b, 0, none⟩), .int .i64 k, .int .i64 i] w (Went (.node b x l r) k i w) := by
  obtain ⟨u, hu⟩ := (del l k i).ptr_is
  have HU := Lib.hid hu
  have HG := Lib.hid h
  have O := Lib.hid o
  have IH := Lib.hid ih
  clear hu h o ih
  go_enter Try.func31, Try.ntmps31
  go_wp2_with (first
    | (go_at_call 36; go_must (refine (order_is b x _ _ _ _ k i 1 _ HG.out.lies.1 O.out).mono ?_); rintro e w3 ⟨rfl, hb⟩; have hg := HG.out.later (Only.of_below (S := fun _ => False) hb); obtain ⟨c3, -⟩ := hg.lies.cells; have HG3 := Lib.hid hg; have HO3 := Lib.hid (Only.of_below (S := fun _ => False) hb); clear hg hb)
    | (go_at_call 31; go_must (refine (IH.out _ k i (HG3.out.goLeft O.out)).mono ?_); rintro e w4 ⟨rfl, hi, ho⟩; rw [HU.out]; have hk := HG3.out.lies.1.keep ho (HG3.out.b_left O.out); obtain ⟨-, -, -, d3, -⟩ := hk.cells; have df := hk.frozen 3; have HI4 := Lib.hid hi; have HO4 := Lib.hid ho; clear hk hi ho)
    | (go_at_call 38; go_must (have hh := held_left (u := .pointer u) (Held.of_in HG3.out.lies) HI4.out HO4.out (HG3.out.b_left O.out) (fun q hq e => (leaves_of HG3.out.nodup).lr q (del_in (HG3.out.goLeft O.out).sorted (HG3.out.goLeft O.out).has e) hq) (HG3.out.b_left O.out) (leaves_of HG3.out.nodup).br HU.out); go_must (refine (balanced_any b x (del l k i) r _ _ _ hh (HG3.out.fits_left O.out) (HG3.out.nodup_left O.out)).mono ?_); rintro e w5 ⟨rfl, hi, ho⟩; have HI5 := Lib.hid hi; have HO5 := Lib.hid ho; clear hh hi ho))
  go_ret
  refine went_of (del_gt O.out) HI5.out ?_
  have h1 : Only (fun q => q ∈ (Tr.node b x (del l k i) r).blocks) w (w4.setCell ⟨b, 3, none⟩ (.pointer u)) := ((HO3.out.mono (fun _ _ e => e.elim)).trans HO4.out (fun q _ e => by rw [mem_blocks]; exact Or.inr (Or.inl e))).setCell (p := ⟨b, 3, none⟩) (by rw [mem_blocks]; exact Or.inl rfl) _
  exact (h1.trans HO5.out (fun _ _ e => e)).mono (fun q _ e => mem_bal.2 e)

set_option maxRecDepth 100000 in
set_option maxHeartbeats 1000000 in
theorem gone_right (b : Nat) (x : El) (l r : Tr) (k i : Int) (w : World) (h : Goes w (.node b x l r) k i) (o : ordv x k i = -1)
    (ih : ∀ (w : World) (k i : Int), Goes w r k i → Calls Try.prog 31 #[r.ptr, .int .i64 k, .int .i64 i] w (Went r k i w)) :
    Calls Try.prog 31 #[.pointer (some ⟨b, 0, none⟩), .int .i64 k, .int .i64 i] w (Went (.node b x l r) k i w) := by
  obtain ⟨u, hu⟩ := (del r k i).ptr_is
  have HU := Lib.hid hu
  have HG := Lib.hid h
  have O := Lib.hid o
  have IH := Lib.hid ih
  clear hu h o ih
  go_enter Try.func31, Try.ntmps31
  go_wp2_with (first
    | (go_at_call 36; go_must (refine (order_is b x _ _ _ _ k i (-1) _ HG.out.lies.1 O.out).mono ?_); rintro e w3 ⟨rfl, hb⟩; have hg := HG.out.later (Only.of_below (S := fun _ => False) hb); obtain ⟨-, c4⟩ := hg.lies.cells; have HG3 := Lib.hid hg; have HO3 := Lib.hid (Only.of_below (S := fun _ => False) hb); clear hg hb)
    | (go_at_call 31; go_must (refine (IH.out _ k i (HG3.out.goRight O.out)).mono ?_); rintro e w4 ⟨rfl, hi, ho⟩; rw [HU.out]; have hk := HG3.out.lies.1.keep ho (HG3.out.b_right O.out); obtain ⟨-, -, -, -, d4, -⟩ := hk.cells; have df := hk.frozen 4; have HI4 := Lib.hid hi; have HO4 := Lib.hid ho; clear hk hi ho)
    | (go_at_call 38; go_must (have hh := held_right (u := .pointer u) (Held.of_in HG3.out.lies) HI4.out HO4.out (HG3.out.b_right O.out) (fun q hq e => (leaves_of HG3.out.nodup).lr q hq (del_in (HG3.out.goRight O.out).sorted (HG3.out.goRight O.out).has e)) (HG3.out.b_right O.out) (leaves_of HG3.out.nodup).bl HU.out); go_must (refine (balanced_any b x l (del r k i) _ _ _ hh (HG3.out.fits_right O.out) (HG3.out.nodup_right O.out)).mono ?_); rintro e w5 ⟨rfl, hi, ho⟩; have HI5 := Lib.hid hi; have HO5 := Lib.hid ho; clear hh hi ho))
  go_ret
  refine went_of (del_lt O.out) HI5.out ?_
  have h1 : Only (fun q => q ∈ (Tr.node b x l (del r k i)).blocks) w (w4.setCell ⟨b, 4, none⟩ (.pointer u)) := ((HO3.out.mono (fun _ _ e => e.elim)).trans HO4.out (fun q _ e => by rw [mem_blocks]; exact Or.inr (Or.inr e))).setCell (p := ⟨b, 4, none⟩) (by rw [mem_blocks]; exact Or.inl rfl) _
  exact (h1.trans HO5.out (fun _ _ e => e)).mono (fun q _ e => mem_bal.2 e)
end Go.Proofs.Ytbfnaejfmpnkbaa
