/- Ordered balanced trees alone: elements, heights, sums, turning, inserting, taking out. No world here. -/
import Derived.Test.YtbfnaejfmpnkbaaBase
namespace Go.Proofs.Ytbfnaejfmpnkbaa
set_option linter.unusedVariables false

/-- An element: a key, an id, a weight. -/
structure El where
  k : Int
  i : Int
  w : Int
deriving DecidableEq

/-- How an element stands to a place: below 0: ahead of it; above 0: behind it. -/
def ordv (x : El) (k i : Int) : Int := orv (cmpi x.k k) (cmpi x.i i)

/-- The element stands ahead of the place. -/
def bef (x : El) (k i : Int) : Prop := x.k < k ∨ x.k = k ∧ x.i < i
/-- The element stands behind the place. -/
def aft (x : El) (k i : Int) : Prop := k < x.k ∨ x.k = k ∧ i < x.i

instance (x : El) (k i : Int) : Decidable (bef x k i) := by unfold bef; infer_instance
instance (x : El) (k i : Int) : Decidable (aft x k i) := by unfold aft; infer_instance

theorem ordv_neg (x : El) (k i : Int) : ordv x k i < 0 ↔ bef x k i := by
  unfold ordv orv cmpi bef; repeat (split <;> try omega)
theorem ordv_pos (x : El) (k i : Int) : 0 < ordv x k i ↔ aft x k i := by
  unfold ordv orv cmpi aft; repeat (split <;> try omega)
theorem ordv_zero (x : El) (k i : Int) : ordv x k i = 0 ↔ x.k = k ∧ x.i = i := by
  unfold ordv orv cmpi; repeat (split <;> try omega)
theorem ordv_bd (x : El) (k i : Int) : -1 ≤ ordv x k i ∧ ordv x k i ≤ 1 := by
  unfold ordv orv cmpi; repeat (split <;> try omega)
theorem ordv_three (x : El) (k i : Int) : ordv x k i = -1 ∨ ordv x k i = 0 ∨ ordv x k i = 1 := by have := ordv_bd x k i; omega

/-- A tree, with the block of each node. -/
inductive Tr where
  | nil
  | node (b : Nat) (x : El) (l r : Tr)

namespace Tr
def ht : Tr → Nat
  | nil => 0
  | node _ _ l r => 1 + max l.ht r.ht
def sm : Tr → Int
  | nil => 0
  | node _ x l r => x.w + l.sm + r.sm
def els : Tr → List El
  | nil => []
  | node _ x l r => l.els ++ x :: r.els
def blocks : Tr → List Nat
  | nil => []
  | node b _ l r => b :: (l.blocks ++ r.blocks)
end Tr

/-- The sum of the weights of elements. -/
def wts : List El → Int
  | [] => 0
  | x :: l => x.w + wts l

theorem wts_append (l m : List El) : wts (l ++ m) = wts l + wts m := by
  induction l with
  | nil => simp [wts]
  | cons x l ih => simp only [List.cons_append, wts, ih]; omega

theorem sm_els (t : Tr) : t.sm = wts t.els := by
  induction t with
  | nil => rfl
  | node b x l r ihl ihr => simp only [Tr.sm, Tr.els, wts_append, wts, ihl, ihr]; omega

/-- The weights are within their bounds. -/
def Light (l : List El) : Prop := ∀ x ∈ l, 0 ≤ x.w ∧ x.w ≤ 1000000

theorem light_app {l m : List El} : Light (l ++ m) ↔ Light l ∧ Light m :=
  ⟨fun h => ⟨fun x hx => h x (List.mem_append_left _ hx), fun x hx => h x (List.mem_append_right _ hx)⟩,
   fun h x hx => by rcases List.mem_append.1 hx with h1 | h1; exact h.1 x h1; exact h.2 x h1⟩
theorem light_cons {x : El} {m : List El} : Light (x :: m) ↔ (0 ≤ x.w ∧ x.w ≤ 1000000) ∧ Light m :=
  ⟨fun h => ⟨h x (by simp), fun y hy => h y (by simp [hy])⟩, fun h y hy => by rcases List.mem_cons.1 hy with rfl | h1; exact h.1; exact h.2 y h1⟩

theorem wts_bd {l : List El} (h : Light l) : 0 ≤ wts l ∧ wts l ≤ 1000000 * (l.length : Int) := by
  induction l with
  | nil => simp [wts]
  | cons x l ih =>
    have h1 := ih (light_cons.1 h).2
    have h2 := (light_cons.1 h).1
    simp only [wts, List.length_cons]; push_cast; omega

theorem ht_le (t : Tr) : t.ht ≤ t.els.length := by
  induction t with
  | nil => simp [Tr.ht]
  | node b x l r ihl ihr => simp only [Tr.ht, Tr.els, List.length_append, List.length_cons]; omega

/-- A tree whose numbers fit. -/
def Fits (t : Tr) : Prop := Light t.els ∧ t.els.length ≤ 6000000000000

theorem fits_node {b : Nat} {x : El} {l r : Tr} (h : Fits (.node b x l r)) : Fits l ∧ Fits r ∧ 0 ≤ x.w ∧ x.w ≤ 1000000 := by
  obtain ⟨h1, h2⟩ := h
  simp only [Tr.els, List.length_append, List.length_cons] at h2
  simp only [Tr.els, light_app, light_cons] at h1
  exact ⟨⟨h1.1, by omega⟩, ⟨h1.2.2, by omega⟩, h1.2.1.1, h1.2.1.2⟩

theorem fits_bd {t : Tr} (h : Fits t) : 0 ≤ t.sm ∧ t.sm ≤ 6000000000000000000 ∧ t.ht ≤ 6000000000000 := by
  have h1 := wts_bd h.1
  have h2 := ht_le t
  have h3 := h.2
  rw [sm_els]; omega

theorem fits_same {t u : Tr} (h : Fits t) (e : u.els = t.els) : Fits u := by unfold Fits at *; rw [e]; exact h

/-- Balanced everywhere. -/
def Bal : Tr → Prop
  | .nil => True
  | .node _ _ l r => Bal l ∧ Bal r ∧ l.ht ≤ r.ht + 1 ∧ r.ht ≤ l.ht + 1

def rotL : Tr → Tr
  | .node b x l (.node c y m r) => .node c y (.node b x l m) r
  | t => t
def rotR : Tr → Tr
  | .node b x (.node c y l m) r => .node c y l (.node b x m r)
  | t => t

def tilt : Tr → Int
  | .nil => 0
  | .node _ _ l r => (r.ht : Int) - l.ht

def bal : Tr → Tr
  | .nil => .nil
  | .node b x l r =>
    if r.ht + 1 < l.ht then rotR (.node b x (if 0 < tilt l then rotL l else l) r)
    else if l.ht + 1 < r.ht then rotL (.node b x l (if tilt r < 0 then rotR r else r))
    else .node b x l r

theorem rotL_els (t : Tr) : (rotL t).els = t.els := by
  unfold rotL; split <;> simp [Tr.els]
theorem rotR_els (t : Tr) : (rotR t).els = t.els := by
  unfold rotR; split <;> simp [Tr.els]
theorem bal_els (t : Tr) : (bal t).els = t.els := by
  cases t with
  | nil => rfl
  | node b x l r =>
    simp only [bal]
    split
    · rw [rotR_els]; split <;> simp [Tr.els, rotL_els]
    · split
      · rw [rotL_els]; split <;> simp [Tr.els, rotR_els]
      · rfl

theorem rotL_blocks (t : Tr) : (rotL t).blocks.Perm t.blocks := by
  unfold rotL; split
  · rename_i b x l c y m r
    simp only [Tr.blocks, List.cons_append]
    refine List.Perm.trans ?_ (List.Perm.cons b (List.perm_middle.symm))
    refine (List.Perm.swap b c _).trans ?_
    simp [List.append_assoc]
  · exact List.Perm.refl _
theorem rotR_blocks (t : Tr) : (rotR t).blocks.Perm t.blocks := by
  unfold rotR; split
  · rename_i b x c y l m r
    simp only [Tr.blocks, List.cons_append]
    refine List.Perm.trans ?_ (List.Perm.swap b c _)
    refine List.Perm.cons c ?_
    refine List.perm_middle.trans ?_
    simp [List.append_assoc]
  · exact List.Perm.refl _

theorem bal_blocks (t : Tr) : (bal t).blocks.Perm t.blocks := by
  cases t with
  | nil => exact List.Perm.refl _
  | node b x l r =>
    simp only [bal]
    split
    · refine (rotR_blocks _).trans ?_
      split
      · exact List.Perm.cons b ((rotL_blocks l).append_right _)
      · exact List.Perm.refl _
    · split
      · refine (rotL_blocks _).trans ?_
        split
        · exact List.Perm.cons b ((rotR_blocks r).append_left _)
        · exact List.Perm.refl _
      · exact List.Perm.refl _

/-- What balancing does: balanced sides that differ by at most two give a balanced tree, as high as the higher side, or one higher. -/
theorem bal_ok {b : Nat} {x : El} {l r : Tr} (hl : Bal l) (hr : Bal r) (h1 : l.ht ≤ r.ht + 2) (h2 : r.ht ≤ l.ht + 2) :
    Bal (bal (.node b x l r)) ∧ (bal (.node b x l r)).ht ≤ 1 + max l.ht r.ht ∧ max l.ht r.ht ≤ (bal (.node b x l r)).ht ∧
      (l.ht ≤ r.ht + 1 → r.ht ≤ l.ht + 1 → (bal (.node b x l r)).ht = 1 + max l.ht r.ht) := by
  simp only [bal]
  split
  · rename_i h
    cases l with
    | nil => simp [Tr.ht] at h
    | node c y ll lr =>
      simp only [Bal, Tr.ht] at hl h h1 h2 ⊢
      by_cases ht : 0 < tilt (.node c y ll lr)
      · rw [if_pos ht]
        simp only [tilt] at ht
        cases lr with
        | nil => simp [Tr.ht] at ht; omega
        | node d z m n =>
          simp only [Bal, Tr.ht] at hl h h1 h2 ht
          simp only [rotL, rotR, Bal, Tr.ht]
          obtain ⟨q1, ⟨q2, q3, q4, q5⟩, q6, q7⟩ := hl
          and_intros <;> first | assumption | trivial | (intros; omega)
      · rw [if_neg ht]
        simp only [tilt] at ht
        simp only [rotR, Bal, Tr.ht]
        obtain ⟨q1, q2, q6, q7⟩ := hl
        and_intros <;> first | assumption | trivial | (intros; omega)
  · split
    · rename_i h' h
      cases r with
      | nil => simp [Tr.ht] at h
      | node c y rl rr =>
        simp only [Bal, Tr.ht] at hr h h1 h2 ⊢
        by_cases ht : tilt (.node c y rl rr) < 0
        · rw [if_pos ht]
          simp only [tilt] at ht
          cases rl with
          | nil => simp [Tr.ht] at ht; omega
          | node d z m n =>
            simp only [Bal, Tr.ht] at hr h h1 h2 ht
            simp only [rotL, rotR, Bal, Tr.ht]
            obtain ⟨⟨q2, q3, q4, q5⟩, q1, q6, q7⟩ := hr
            and_intros <;> first | assumption | trivial | (intros; omega)
        · rw [if_neg ht]
          simp only [tilt] at ht
          simp only [rotL, Bal, Tr.ht]
          obtain ⟨q1, q2, q6, q7⟩ := hr
          and_intros <;> first | assumption | trivial | (intros; omega)
    · rename_i g1 g2
      have e1 : l.ht ≤ r.ht + 1 := by omega
      have e2 : r.ht ≤ l.ht + 1 := by omega
      exact ⟨⟨hl, hr, e1, e2⟩, Nat.le_refl _, by simp only [Tr.ht]; omega, fun _ _ => rfl⟩

/-- An element put in, in a node at block c. -/
def ins (z : El) (c : Nat) : Tr → Tr
  | .nil => .node c z .nil .nil
  | .node b x l r => if 0 < ordv x z.k z.i then bal (.node b x (ins z c l) r) else bal (.node b x l (ins z c r))

/-- The least node's block and element. -/
def lst : Tr → Nat × El
  | .nil => (0, ⟨0, 0, 0⟩)
  | .node b x .nil _ => (b, x)
  | .node _ _ (.node b x l r) _ => lst (.node b x l r)

/-- What comes where a node was taken out: T is the right side without its least element. -/
def joined : Tr → Tr → Tr → Tr
  | .nil, r, _ => r
  | .node b x l r, .nil, _ => .node b x l r
  | .node b1 x1 l1 r1, .node b2 x2 l2 r2, T => bal (.node (lst (.node b2 x2 l2 r2)).1 (lst (.node b2 x2 l2 r2)).2 (.node b1 x1 l1 r1) T)

/-- The element at a place taken out. -/
def del : Tr → Int → Int → Tr
  | .nil, _, _ => .nil
  | .node b x l r, k, i =>
    if 0 < ordv x k i then bal (.node b x (del l k i) r)
    else if ordv x k i < 0 then bal (.node b x l (del r k i))
    else joined l r (del r (lst r).2.k (lst r).2.i)

/-- In order. -/
def lt (x y : El) : Prop := bef x y.k y.i
def Sorted (l : List El) : Prop := l.Pairwise lt

theorem lt_trans {x y z : El} (h : lt x y) (g : lt y z) : lt x z := by unfold lt bef at *; omega
theorem lt_irrefl (x : El) : ¬ lt x x := by unfold lt bef; omega
theorem lt_aft {x y : El} : lt x y ↔ aft y x.k x.i := by unfold lt bef aft; omega

/-- An element put into a list in order. -/
def put (z : El) : List El → List El
  | [] => [z]
  | x :: l => if 0 < ordv x z.k z.i then z :: x :: l else x :: put z l

/-- The element at a place taken out of a list. -/
def cut (k i : Int) : List El → List El
  | [] => []
  | x :: l => if x.k = k ∧ x.i = i then l else x :: cut k i l

theorem put_behind {z x : El} {l m : List El} (h : 0 < ordv x z.k z.i) : put z (l ++ x :: m) = put z l ++ x :: m := by
  induction l with
  | nil => simp [put, h]
  | cons y l ih =>
    simp only [List.cons_append, put]
    split
    · simp
    · simp [ih]
theorem put_ahead {z x : El} {l m : List El} (hs : Sorted (l ++ x :: m)) (h : ¬ 0 < ordv x z.k z.i) : put z (l ++ x :: m) = l ++ x :: put z m := by
  induction l with
  | nil => simp [put, h]
  | cons y l ih =>
    have hy : lt y x := by
      have := List.rel_of_pairwise_cons hs (a' := x) (by simp)
      exact this
    have : ¬ 0 < ordv y z.k z.i := by
      rw [ordv_pos] at h ⊢; unfold lt bef aft at *; omega
    simp only [List.cons_append, put, if_neg this]
    rw [ih (List.Pairwise.of_cons hs)]

theorem sorted_app {l m : List El} {x : El} (h : Sorted (l ++ x :: m)) : Sorted l ∧ Sorted m ∧ (∀ y ∈ l, lt y x) ∧ (∀ y ∈ m, lt x y) := by
  unfold Sorted at *
  rw [List.pairwise_append] at h
  obtain ⟨h1, h2, h3⟩ := h
  rw [List.pairwise_cons] at h2
  exact ⟨h1, h2.2, fun y hy => h3 y hy x (by simp), h2.1⟩

theorem ins_els {z : El} {c : Nat} {t : Tr} (h : Sorted t.els) : (ins z c t).els = put z t.els := by
  induction t with
  | nil => rfl
  | node b x l r ihl ihr =>
    obtain ⟨h1, h2, -, -⟩ := sorted_app h
    simp only [ins]
    split
    · rename_i hp
      rw [bal_els]
      simp only [Tr.els]
      rw [ihl h1, put_behind hp]
    · rename_i hp
      rw [bal_els]
      simp only [Tr.els]
      rw [ihr h2, put_ahead h hp]

theorem ins_blocks (z : El) (c : Nat) (t : Tr) : (ins z c t).blocks.Perm (c :: t.blocks) := by
  induction t with
  | nil => exact List.Perm.refl _
  | node b x l r ihl ihr =>
    simp only [ins]
    split
    · refine (bal_blocks _).trans ?_
      simp only [Tr.blocks]
      refine (List.Perm.cons b (ihl.append_right _)).trans ?_
      exact List.Perm.swap c b _
    · refine (bal_blocks _).trans ?_
      simp only [Tr.blocks]
      refine (List.Perm.cons b ((ihr.append_left _).trans List.perm_middle)).trans ?_
      exact List.Perm.swap c b _

theorem ins_ok {z : El} {c : Nat} {t : Tr} (h : Bal t) : Bal (ins z c t) ∧ t.ht ≤ (ins z c t).ht ∧ (ins z c t).ht ≤ t.ht + 1 := by
  induction t with
  | nil => simp [ins, Bal, Tr.ht]
  | node b x l r ihl ihr =>
    obtain ⟨hl, hr, h1, h2⟩ := h
    simp only [ins]
    split
    · obtain ⟨i1, i2, i3⟩ := ihl hl
      obtain ⟨j1, j2, j3, j4⟩ := bal_ok (b := b) (x := x) i1 hr (by omega) (by omega)
      refine ⟨j1, ?_, ?_⟩
      · simp only [Tr.ht]
        by_cases q : (ins z c l).ht ≤ r.ht + 1
        · rw [j4 q (by omega)]; omega
        · omega
      · simp only [Tr.ht]; omega
    · obtain ⟨i1, i2, i3⟩ := ihr hr
      obtain ⟨j1, j2, j3, j4⟩ := bal_ok (b := b) (x := x) hl i1 (by omega) (by omega)
      refine ⟨j1, ?_, ?_⟩
      · simp only [Tr.ht]
        by_cases q : (ins z c r).ht ≤ l.ht + 1
        · rw [j4 (by omega) q]; omega
        · omega
      · simp only [Tr.ht]; omega

theorem lst_els {b : Nat} {x : El} {l r : Tr} : ∃ m, (Tr.node b x l r).els = (lst (.node b x l r)).2 :: m := by
  induction l generalizing b x r with
  | nil => exact ⟨r.els, by simp [lst, Tr.els]⟩
  | node c y l' r' ih _ =>
    obtain ⟨m, hm⟩ := ih (b := c) (x := y) (r := r')
    refine ⟨m ++ x :: r.els, ?_⟩
    have : (Tr.node b x (.node c y l' r') r).els = (Tr.node c y l' r').els ++ x :: r.els := rfl
    rw [this, hm]; simp [lst]

theorem cut_none {k i : Int} {l : List El} (h : ∀ y ∈ l, ¬ (y.k = k ∧ y.i = i)) : cut k i l = l := by
  induction l with
  | nil => rfl
  | cons y l ih =>
    simp only [cut]
    rw [if_neg (h y (by simp)), ih (fun z hz => h z (by simp [hz]))]

theorem cut_app {k i : Int} {l m : List El} {x : El} (h : ∀ y ∈ l, ¬ (y.k = k ∧ y.i = i)) : cut k i (l ++ m) = l ++ cut k i m := by
  induction l with
  | nil => rfl
  | cons y l ih =>
    simp only [List.cons_append, cut]
    rw [if_neg (h y (by simp)), ih (fun z hz => h z (by simp [hz]))]

theorem cut_left {k i : Int} {l m : List El} {x : El} (hs : Sorted (l ++ x :: m)) (h : 0 < ordv x k i) : cut k i (l ++ x :: m) = cut k i l ++ x :: m := by
  rw [ordv_pos] at h
  obtain ⟨-, -, h3, h4⟩ := sorted_app hs
  have hm : ∀ y ∈ x :: m, ¬ (y.k = k ∧ y.i = i) := by
    intro y hy
    rcases List.mem_cons.1 hy with rfl | hy
    · unfold aft at h; omega
    · have := h4 y hy; unfold lt bef aft at *; omega
  clear hs h3
  induction l with
  | nil => simp only [List.nil_append, cut]; exact cut_none hm
  | cons y l ih =>
    simp only [List.cons_append, cut]
    split
    · rfl
    · rw [ih]; rfl

theorem cut_right {k i : Int} {l m : List El} {x : El} (hs : Sorted (l ++ x :: m)) (h : ordv x k i < 0) : cut k i (l ++ x :: m) = l ++ x :: cut k i m := by
  rw [ordv_neg] at h
  obtain ⟨-, -, h3, h4⟩ := sorted_app hs
  rw [cut_app (x := x)]
  · simp only [cut]; rw [if_neg (by unfold bef at h; omega)]
  · intro y hy; have := h3 y hy; unfold lt bef at *; omega

theorem cut_here {k i : Int} {l m : List El} {x : El} (hs : Sorted (l ++ x :: m)) (h : x.k = k ∧ x.i = i) : cut k i (l ++ x :: m) = l ++ m := by
  obtain ⟨-, -, h3, h4⟩ := sorted_app hs
  rw [cut_app (x := x)]
  · simp only [cut]; rw [if_pos h]
  · intro y hy; have := h3 y hy; unfold lt bef at *; omega

theorem del_els {t : Tr} : ∀ {k i : Int}, Sorted t.els → (del t k i).els = cut k i t.els := by
  induction t with
  | nil => intro k i _; rfl
  | node b x l r ihl ihr =>
    intro k i h
    obtain ⟨h1, h2, h3, h4⟩ := sorted_app h
    rcases ordv_three x k i with o | o | o
    · have hn : ¬ 0 < ordv x k i := by omega
      have hp : ordv x k i < 0 := by omega
      simp only [del, if_neg hn, if_pos hp]
      rw [bal_els]; simp only [Tr.els]; rw [ihr h2, cut_right h hp]
    · have hn : ¬ 0 < ordv x k i := by omega
      have hp : ¬ ordv x k i < 0 := by omega
      simp only [Tr.els]
      rw [cut_here h ((ordv_zero x k i).1 o)]
      cases l with
      | nil => simp only [del, if_neg hn, if_neg hp, joined]; rfl
      | node b1 x1 l1 r1 =>
        cases r with
        | nil => simp only [del, if_neg hn, if_neg hp, joined]; simp [Tr.els]
        | node b2 x2 l2 r2 =>
          have e : del (.node b x (.node b1 x1 l1 r1) (.node b2 x2 l2 r2)) k i = bal (.node (lst (.node b2 x2 l2 r2)).1 (lst (.node b2 x2 l2 r2)).2 (.node b1 x1 l1 r1) (del (.node b2 x2 l2 r2) (lst (.node b2 x2 l2 r2)).2.k (lst (.node b2 x2 l2 r2)).2.i)) := by
            simp only [del, if_neg hn, if_neg hp, joined]
          rw [e, bal_els]
          obtain ⟨m, hm⟩ := lst_els (b := b2) (x := x2) (l := l2) (r := r2)
          have := ihr (k := (lst (.node b2 x2 l2 r2)).2.k) (i := (lst (.node b2 x2 l2 r2)).2.i) h2
          generalize hg : lst (.node b2 x2 l2 r2) = g at *
          generalize hT : del (.node b2 x2 l2 r2) g.2.k g.2.i = T at *
          show (Tr.node b1 x1 l1 r1).els ++ g.2 :: T.els = _
          rw [this, hm]
          simp [cut]
    · have hp : 0 < ordv x k i := by omega
      simp only [del, if_pos hp]
      rw [bal_els]; simp only [Tr.els]; rw [ihl h1, cut_left h hp]

theorem del_ok {t : Tr} : ∀ {k i : Int}, Bal t → Bal (del t k i) ∧ t.ht ≤ (del t k i).ht + 1 ∧ (del t k i).ht ≤ t.ht := by
  induction t with
  | nil => intro k i _; simp [del, Bal, Tr.ht]
  | node b x l r ihl ihr =>
    intro k i h
    obtain ⟨hl, hr, h1, h2⟩ := h
    rcases ordv_three x k i with o | o | o
    · have hn : ¬ 0 < ordv x k i := by omega
      have hp : ordv x k i < 0 := by omega
      simp only [del, if_neg hn, if_pos hp]
      obtain ⟨i1, i2, i3⟩ := ihr (k := k) (i := i) hr
      obtain ⟨j1, j2, j3, j4⟩ := bal_ok (b := b) (x := x) hl i1 (by omega) (by omega)
      refine ⟨j1, ?_, ?_⟩
      · simp only [Tr.ht]; omega
      · simp only [Tr.ht]
        by_cases q : l.ht ≤ (del r k i).ht + 1
        · rw [j4 q (by omega)]; omega
        · omega
    · have hn : ¬ 0 < ordv x k i := by omega
      have hp : ¬ ordv x k i < 0 := by omega
      cases l with
      | nil => simp only [del, if_neg hn, if_neg hp, joined]; refine ⟨hr, ?_, ?_⟩ <;> simp only [Tr.ht] at * <;> omega
      | node b1 x1 l1 r1 =>
        cases r with
        | nil => simp only [del, if_neg hn, if_neg hp, joined]; refine ⟨hl, ?_, ?_⟩ <;> simp only [Tr.ht] at * <;> omega
        | node b2 x2 l2 r2 =>
          have e : del (.node b x (.node b1 x1 l1 r1) (.node b2 x2 l2 r2)) k i = bal (.node (lst (.node b2 x2 l2 r2)).1 (lst (.node b2 x2 l2 r2)).2 (.node b1 x1 l1 r1) (del (.node b2 x2 l2 r2) (lst (.node b2 x2 l2 r2)).2.k (lst (.node b2 x2 l2 r2)).2.i)) := by
            simp only [del, if_neg hn, if_neg hp, joined]
          rw [e]
          have := ihr (k := (lst (.node b2 x2 l2 r2)).2.k) (i := (lst (.node b2 x2 l2 r2)).2.i) hr
          generalize hg : lst (.node b2 x2 l2 r2) = g at *
          generalize hT : del (.node b2 x2 l2 r2) g.2.k g.2.i = T at *
          generalize hL : Tr.node b1 x1 l1 r1 = L at *
          generalize hR : Tr.node b2 x2 l2 r2 = R at *
          obtain ⟨i1, i2, i3⟩ := this
          obtain ⟨j1, j2, j3, j4⟩ := bal_ok (b := g.1) (x := g.2) hl i1 (by omega) (by omega)
          refine ⟨j1, ?_, ?_⟩
          · simp only [Tr.ht]; omega
          · simp only [Tr.ht]
            by_cases q : L.ht ≤ T.ht + 1
            · rw [j4 q (by omega)]; omega
            · omega
    · have hp : 0 < ordv x k i := by omega
      simp only [del, if_pos hp]
      obtain ⟨i1, i2, i3⟩ := ihl (k := k) (i := i) hl
      obtain ⟨j1, j2, j3, j4⟩ := bal_ok (b := b) (x := x) i1 hr (by omega) (by omega)
      refine ⟨j1, ?_, ?_⟩
      · simp only [Tr.ht]; omega
      · simp only [Tr.ht]
        by_cases q : r.ht ≤ (del l k i).ht + 1
        · rw [j4 (by omega) q]; omega
        · omega
end Go.Proofs.Ytbfnaejfmpnkbaa
