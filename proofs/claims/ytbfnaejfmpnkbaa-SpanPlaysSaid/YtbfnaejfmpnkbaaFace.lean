/- A tree as its callers see it: its elements in order, in blocks of M. -/
import Derived.Test.YtbfnaejfmpnkbaaRead
import Derived.Test.YtbfnaejfmpnkbaaOut
namespace Go.Proofs.Ytbfnaejfmpnkbaa
open Go.ChangeShapes Go.WideShapes Go.ChangeAt Go.RowKit
set_option linter.unusedVariables false

/-- What the block of a Tree holds. -/
def RootIs (w : World) (p : Nat) (v : Value) (n : Int) : Prop := w.heap[p]? = some (.cells #[v, .int .i64 n] 53 (0, 0))

structure TreeIs (M : Nat → Prop) (w : World) (p : Nat) (L : List El) (t : Tr) : Prop where
  els : t.els = L
  sorted : Sorted t.els
  fits : Fits t
  bal : Bal t
  nodup : t.blocks.Nodup
  lies : In w t
  root : RootIs w p t.ptr t.els.length
  blocks : ∀ k ∈ t.blocks, M k
  self : M p
  apart : p ∉ t.blocks

def TreeAt (M : Nat → Prop) (w : World) (p : Nat) (L : List El) : Prop := ∃ t, TreeIs M w p L t

section
variable {M : Nat → Prop} {w w' : World} {p : Nat} {L : List El}

theorem RootIs.cells {v : Value} {n : Int} (h : RootIs w p v n) : w.cell? ⟨p, 0, none⟩ = some v ∧ w.cell? ⟨p, 1, none⟩ = some (.int .i64 n) ∧ ∀ j, w.frozen? ⟨p, j, none⟩ = false := by
  rw [cell_at h, cell_at h]; exact ⟨rfl, rfl, fun j => frozen_at h j⟩
theorem RootIs.keep {S : Nat → Prop} {v : Value} {n : Int} (h : RootIs w p v n) (hO : Only S w w') (hp : ¬ S p) : RootIs w' p v n := (hO.block p (block_there h) hp).trans h
theorem RootIs.set0 {v : Value} {n : Int} (h : RootIs w p v n) (u : Value) : RootIs (w.setCell ⟨p, 0, none⟩ u) p u n := heap_setCell_same _ p _ _ 53 _ h
theorem RootIs.set1 {v : Value} {n : Int} (h : RootIs w p v n) (u : Int) : RootIs (w.setCell ⟨p, 1, none⟩ (.int .i64 u)) p v u := heap_setCell_same _ p _ _ 53 _ h

theorem TreeAt.keep {N : Nat → Prop} (h : TreeAt M w p L) (hO : Only N w w') (hN : ∀ k, k < w.heap.size → M k → ¬ N k) : TreeAt M w' p L := by
  obtain ⟨t, h1, h2, h3, h4, h5, h6, h7, h8, h9, h10⟩ := h
  exact ⟨t, h1, h2, h3, h4, h5, h6.keep hO (fun k hk => hN k (h6.lt k hk) (h8 k hk)), h7.keep hO (hN p (block_there h7) h9), h8, h9, h10⟩
theorem TreeAt.later (h : TreeAt M w p L) (hO : Only (fun _ => False) w w') : TreeAt M w' p L := h.keep hO (fun _ _ _ e => e)
theorem TreeAt.mono {N : Nat → Prop} (h : TreeAt M w p L) (hN : ∀ k, M k → N k) : TreeAt N w p L := by
  obtain ⟨t, h1, h2, h3, h4, h5, h6, h7, h8, h9, h10⟩ := h
  exact ⟨t, h1, h2, h3, h4, h5, h6, h7, fun k hk => hN k (h8 k hk), hN p h9, h10⟩
theorem TreeAt.there (h : TreeAt M w p L) : TreeAt (fun k => M k ∧ k < w.heap.size) w p L := by
  obtain ⟨t, h1, h2, h3, h4, h5, h6, h7, h8, h9, h10⟩ := h
  exact ⟨t, h1, h2, h3, h4, h5, h6, h7, fun k hk => ⟨h8 k hk, h6.lt k hk⟩, ⟨h9, block_there h7⟩, h10⟩
theorem TreeAt.sorted (h : TreeAt M w p L) : Sorted L := by obtain ⟨t, h⟩ := h; rw [← h.els]; exact h.sorted
theorem TreeAt.light (h : TreeAt M w p L) : Light L := by obtain ⟨t, h⟩ := h; rw [← h.els]; exact h.fits.1
theorem TreeAt.few (h : TreeAt M w p L) : L.length ≤ 6000000000000 := by obtain ⟨t, h⟩ := h; rw [← h.els]; exact h.fits.2
end

theorem tnew (w : World) : Calls Try.prog 9 #[] w fun e w' => ∃ q, e = .returned (.pointer (some ⟨q, 0, none⟩)) ∧ TreeAt (fun k => w.heap.size ≤ k) w' q [] ∧ Only (fun _ => False) w w' := by
  go_enter Try.func9, Try.ntmps9
  go_wp2
  go_ret
  refine ⟨w.heap.size, rfl, ⟨.nil, ⟨rfl, List.Pairwise.nil, ⟨?_, ?_⟩, trivial, List.Pairwise.nil, trivial, heap_alloc_new w _, ?_, Nat.le_refl _, ?_⟩⟩, (Only.refl _ w).alloc _⟩
  · intro x hx; cases hx
  · simp [Tr.els]
  · intro k hk; cases hk
  · intro e; cases e

section
variable {M : Nat → Prop} {w : World} {p : Nat} {L : List El}

theorem tlen (h : TreeAt M w p L) : Calls Try.prog 19 #[.pointer (some ⟨p, 0, none⟩)] w fun e w' => e = .returned (.int .i64 L.length) ∧ w = w' := by
  obtain ⟨t, h⟩ := h
  obtain ⟨-, c1, -⟩ := h.root.cells
  rw [h.els] at c1
  clear h
  go_enter Try.func19, Try.ntmps19
  go_wp2
  go_ret
  exact ⟨rfl, rfl⟩

theorem tsum (h : TreeAt M w p L) : Calls Try.prog 11 #[.pointer (some ⟨p, 0, none⟩)] w fun e w' => e = .returned (.int .i64 (wts L)) ∧ w = w' := by
  obtain ⟨t, h⟩ := h
  obtain ⟨c0, -⟩ := h.root.cells
  have HS : Hid (t.sm = wts L) := Lib.hid (by rw [sm_els, h.els])
  have HI := Lib.hid h.lies
  clear h
  go_enter Try.func11, Try.ntmps11
  go_wp2_with (go_at_call 28; go_must (refine (total_any t _ HI.out).mono ?_); rintro e w1 ⟨rfl, rfl⟩)
  go_ret
  exact ⟨ret_int HS.out, rfl⟩

/-- How high a tree of n elements may be. -/
def Low (n : Nat) (d : Nat) : Prop := d ≤ n ∧ n < 2 ^ d ∧ ∀ K, n < 2 ^ K → 2 * d ≤ 3 * K + 2

theorem tdeep (h : TreeAt M w p L) : Calls Try.prog 25 #[.pointer (some ⟨p, 0, none⟩)] w fun e w' => ∃ d : Nat, Low L.length d ∧ e = .returned (.int .i64 d) ∧ w = w' := by
  obtain ⟨t, h⟩ := h
  obtain ⟨c0, -⟩ := h.root.cells
  have HI := Lib.hid h.lies
  have HW : Hid (Low L.length t.ht) := Lib.hid (by
    rw [← h.els]
    exact ⟨ht_le t, deep_lo t, fun K hK => deep_hi h.bal hK⟩)
  clear h
  go_enter Try.func25, Try.ntmps25
  go_wp2_with (go_at_call 37; go_must (refine (height_any t _ HI.out).mono ?_); rintro e w1 ⟨rfl, rfl⟩)
  go_ret
  exact ⟨t.ht, HW.out, rfl, rfl⟩

theorem tnext (h : TreeAt M w p L) (k i : Int) : Calls Try.prog 23 #[.pointer (some ⟨p, 0, none⟩), .int .i64 k, .int .i64 i] w fun e w' => e = .returned (told (nextL L k i)) ∧ Only (fun _ => False) w w' := by
  obtain ⟨t, h⟩ := h
  rw [← h.els]
  exact next_any p t k i w h.lies h.sorted h.root.cells.1
theorem tahead (h : TreeAt M w p L) (k i : Int) : Calls Try.prog 22 #[.pointer (some ⟨p, 0, none⟩), .int .i64 k, .int .i64 i] w fun e w' => e = .returned (.int .i64 (aheadL L k i)) ∧ Only (fun _ => False) w w' := by
  obtain ⟨t, h⟩ := h
  rw [← h.els]
  exact ahead_any p t k i w h.lies h.sorted h.fits h.root.cells.1
theorem tat (h : TreeAt M w p L) {n : Int} (hn : (Lit.int .i64 n).wf = true) : Calls Try.prog 24 #[.pointer (some ⟨p, 0, none⟩), .int .i64 n] w fun e w' => e = .returned (told (atL L n)) ∧ Only (fun _ => False) w w' := by
  obtain ⟨t, h⟩ := h
  rw [← h.els]
  exact at_any p t n w h.lies h.fits hn h.root.cells.1

theorem least_points {w : World} {t : Tr} (h : In w t) : ∃ u : Option Addr, Points w (.pointer u) t.els.head? ∧ Calls Try.prog 34 #[t.ptr] w fun e w' => e = .returned (.pointer u) ∧ w = w' := by
  cases t with
  | nil => exact ⟨none, Or.inl ⟨rfl, rfl⟩, least_nil w⟩
  | node b x l r =>
    refine ⟨some ⟨(lst (.node b x l r)).1, 0, none⟩, ?_, least_any b x l r w h⟩
    obtain ⟨m, hm⟩ := lst_els (b := b) (x := x) (l := l) (r := r)
    rw [hm]
    have : ∀ (l : Tr) (b : Nat) (x : El) (r : Tr), In w (.node b x l r) → ∃ lp rp lv s, NodeIs w (lst (.node b x l r)).1 (lst (.node b x l r)).2 lp rp lv s := by
      intro l
      induction l with
      | nil => intro b x r h; exact ⟨_, _, _, _, h.1⟩
      | node c y l' r' ih _ => intro b x r h; exact ih c y r' h.2.1
    obtain ⟨lp, rp, lv, s, hh⟩ := this l b x r h
    exact Or.inr ⟨_, _, _, _, _, _, rfl, rfl, hh⟩

theorem tleast (h : TreeAt M w p L) : Calls Try.prog 20 #[.pointer (some ⟨p, 0, none⟩)] w fun e w' => e = .returned (told L.head?) ∧ Only (fun _ => False) w w' := by
  obtain ⟨t, h⟩ := h
  obtain ⟨c0, -⟩ := h.root.cells
  obtain ⟨u, hp, hc⟩ := least_points h.lies
  rw [h.els] at hp
  have HP := Lib.hid hp
  have HC := Lib.hid hc
  generalize L.head? = o at *
  obtain ⟨t1, t2, t3, t4, ht⟩ := told_parts o
  have HT := Lib.hid ht
  clear h hp hc ht
  go_enter Try.func20, Try.ntmps20
  go_wp2_with (first
    | (go_at_call 34; go_must (refine HC.out.mono ?_); rintro e w1 ⟨rfl, rfl⟩)
    | (go_at_call 35; go_must (refine (tell_points HP.out).mono ?_); rintro e w1 ⟨rfl, ho⟩; rw [HT.out]; have HO := Lib.hid ho; clear ho))
  refine bodyPost_ret (v := .tuple #[.int .i64 t1, .int .i64 t2, .int .i64 t3, .int .i64 t4]) (by simp [results, Try.results20, go_sem]) rfl ⟨?_, HO.out⟩
  rw [← HT.out]

theorem seek_is {t : Tr} {k i : Int} {b : Nat} {x : El} {l r : Tr} (h : seek t k i = .node b x l r) : x.k = k ∧ x.i = i ∧ x ∈ t.els := by
  induction t with
  | nil => cases h
  | node c y m n ihm ihn =>
    rcases ordv_three y k i with o | o | o
    · rw [seek_lt o] at h; have := ihn h; exact ⟨this.1, this.2.1, by simp [Tr.els, this.2.2]⟩
    · rw [seek_eq o] at h; have g := (ordv_zero y k i).1 o; cases h; exact ⟨g.1, g.2, by simp [Tr.els]⟩
    · rw [seek_gt o] at h; have := ihm h; exact ⟨this.1, this.2.1, by simp [Tr.els, this.2.2]⟩

theorem seek_has {t : Tr} {k i : Int} (hs : Sorted t.els) (h : Is t.els k i) : seek t k i ≠ .nil := by
  induction t with
  | nil => obtain ⟨x, hx, -⟩ := h; cases hx
  | node c y m n ihm ihn =>
    obtain ⟨h1, h2, h3, h4⟩ := sorted_app hs
    obtain ⟨x, hx, hk, hi⟩ := h
    rcases ordv_three y k i with o | o | o
    · rw [seek_lt o]
      refine ihn h2 ⟨x, ?_, hk, hi⟩
      have ob := (ordv_neg y k i).1 (by omega)
      rcases List.mem_append.1 hx with hx | hx
      · have := h3 x hx; unfold lt bef at *; omega
      · rcases List.mem_cons.1 hx with e | hx
        · subst e; unfold bef at ob; omega
        · exact hx
    · rw [seek_eq o]; intro e; cases e
    · rw [seek_gt o]
      refine ihm h1 ⟨x, ?_, hk, hi⟩
      have ob := (ordv_pos y k i).1 (by omega)
      rcases List.mem_append.1 hx with hx | hx
      · exact hx
      · rcases List.mem_cons.1 hx with e | hx
        · subst e; unfold aft at ob; omega
        · have := h4 x hx; unfold lt bef aft at *; omega

theorem seek_nil {t : Tr} {k i : Int} (h : ¬ Is t.els k i) : seek t k i = .nil := by
  cases hs : seek t k i with
  | nil => rfl
  | node b x l r => have := seek_is hs; exact absurd ⟨x, this.2.2, this.1, this.2.1⟩ h

theorem put_mem {z y : El} {l : List El} : y ∈ put z l ↔ y = z ∨ y ∈ l := by
  induction l with
  | nil => simp [put]
  | cons x l ih =>
    simp only [put]
    split
    · simp
    · rw [List.mem_cons, ih, List.mem_cons]
      constructor
      · rintro (h | h | h) <;> simp [h]
      · rintro (h | h | h) <;> simp [h]

theorem put_sorted {z : El} {l : List El} (h : Sorted l) (hno : ¬ Is l z.k z.i) : Sorted (put z l) := by
  induction l with
  | nil => exact List.pairwise_singleton _ _
  | cons x l ih =>
    have h1 := List.pairwise_cons.1 h
    have hnl : ¬ Is l z.k z.i := fun ⟨y, hy, g⟩ => hno ⟨y, by simp [hy], g⟩
    have hx : ¬ (x.k = z.k ∧ x.i = z.i) := fun g => hno ⟨x, by simp, g⟩
    simp only [put]
    split
    · rename_i o
      have hz : lt z x := lt_aft.2 ((ordv_pos _ _ _).1 o)
      refine List.pairwise_cons.2 ⟨fun y hy => ?_, h⟩
      rcases List.mem_cons.1 hy with rfl | hy
      · exact hz
      · exact lt_trans hz (h1.1 y hy)
    · rename_i o
      have hz : lt x z := by
        rw [ordv_pos] at o
        unfold lt bef aft at *; omega
      refine List.pairwise_cons.2 ⟨fun y hy => ?_, ih h1.2 hnl⟩
      rcases put_mem.1 hy with rfl | hy
      · exact hz
      · exact h1.1 y hy

/-- What is known behind a call that changes a tree. -/
def TAns (M : Nat → Prop) (w : World) (p : Nat) (v : Value) (L : List El) (e : Ending) (w' : World) : Prop :=
  e = .returned v ∧ TreeAt (fun k => M k ∨ w.heap.size ≤ k) w' p L ∧ Only M w w'

theorem tput_arg (k i v : Int) (hv : v < 0 ∨ 1000000 < v) (w : World) : Calls Try.prog 10 #[.pointer (some ⟨p, 0, none⟩), .int .i64 k, .int .i64 i, .int .i64 v] w fun e w' => e = .returned (.int .i64 1) ∧ w = w' := by
  rcases hv with hv | hv
  · go_enter Try.func10, Try.ntmps10
    go_wp2
    go_ret
    exact ⟨rfl, rfl⟩
  · have h2 : ¬ v < 0 := by omega
    go_enter Try.func10, Try.ntmps10
    go_wp2
    go_ret
    exact ⟨rfl, rfl⟩

theorem tput_there (h : TreeAt M w p L) {k i : Int} (hk : Is L k i) (v : Int) (v0 : 0 ≤ v) (v1 : v ≤ 1000000) :
    Calls Try.prog 10 #[.pointer (some ⟨p, 0, none⟩), .int .i64 k, .int .i64 i, .int .i64 v] w fun e w' => e = .returned (.int .i64 5) ∧ Only (fun _ => False) w w' := by
  obtain ⟨t, h⟩ := h
  rw [← h.els] at hk
  obtain ⟨c0, -⟩ := h.root.cells
  have hlt := block_there h.root
  have hc := find_any p t 0 k i w h.lies c0 hlt
  have hne := seek_has h.sorted hk
  generalize seek t k i = u at *
  cases u with
  | nil => exact absurd rfl hne
  | node b x l r =>
    have HC := Lib.hid hc
    rw [ptr_node] at HC
    clear h hk hc hne c0
    go_enter Try.func10, Try.ntmps10
    go_wp2_with (go_at_call 26; go_must (refine HC.out.mono ?_); rintro e w1 ⟨rfl, hb⟩; have HB := Lib.hid hb; clear hb)
    go_ret
    exact ⟨rfl, Only.of_below HB.out⟩

/-- A tree behind Put. -/
theorem put_is {w w1 w3 w4 : World} {t : Tr} {z : El} {c : Nat} {u : Value} (h : TreeIs M w p L t) (hR : Room z t) (hno : ¬ Is L z.k z.i) (hb : Below w.heap.size w w1) (hc : c = w1.heap.size)
    (hi : In w3 (ins z c t)) (ho : Only (fun k => k = c ∨ k ∈ t.blocks) (w1.alloc (.cells #[.int .i64 z.k, .int .i64 z.i, .int .i64 z.w, .pointer none, .pointer none, .int .i64 0, .int .i64 0] 57)) w3) (hu : (ins z c t).ptr = u)
    (h4 : w4 = (w3.setCell ⟨p, 0, none⟩ u).setCell ⟨p, 1, none⟩ (.int .i64 ((t.els.length : Int) + 1))) :
    TreeAt (fun k => M k ∨ w.heap.size ≤ k) w4 p (put z L) ∧ Only M w w4 := by
  subst hu h4 hc
  have hpl := block_there h.root
  have hO1 : Only (fun k => k ∈ t.blocks) w w3 := ((Only.of_below (S := fun k => k ∈ t.blocks) hb).alloc _).trans ho (fun k hk e => by
    rcases e with rfl | e
    · have := hb.size; omega
    · exact e)
  have hr3 := h.root.keep hO1 h.apart
  have s1 := only_set w3 p 0 (ins z w1.heap.size t).ptr
  have s2 := only_set (w3.setCell ⟨p, 0, none⟩ (ins z w1.heap.size t).ptr) p 1 (.int .i64 ((t.els.length : Int) + 1))
  have s3 := s1.trans s2 (fun _ _ e => e)
  have hnew : p ∉ (ins z w1.heap.size t).blocks := by
    rw [mem_ins]; rintro (e | e)
    · have := hb.size; omega
    · exact h.apart e
  have hels := ins_els (z := z) (c := w1.heap.size) h.sorted
  have hlen : (put z L).length = t.els.length + 1 := by
    have := (ins_perm z w1.heap.size t).length_eq
    rw [hels, h.els] at this
    rw [this, ← h.els]; rfl
  refine ⟨⟨ins z w1.heap.size t, by rw [hels, h.els], ?_, room_ins hR, (ins_ok h.bal).1, ?_, hi.keep s3 (fun k hk e => hnew (e ▸ hk)), ?_, ?_, Or.inl h.self, hnew⟩, ?_⟩
  · rw [hels, h.els]
    have hs : Sorted L := by rw [← h.els]; exact h.sorted
    exact put_sorted hs hno
  · refine (ins_blocks z w1.heap.size t).nodup_iff.2 (List.nodup_cons.2 ⟨fun e => ?_, h.nodup⟩)
    have := h.lies.lt _ e
    have := hb.size
    omega
  · have := (hr3.set0 (ins z w1.heap.size t).ptr).set1 ((t.els.length : Int) + 1)
    have e : ((ins z w1.heap.size t).els.length : Int) = (t.els.length : Int) + 1 := by
      have : (ins z w1.heap.size t).els.length = t.els.length + 1 := by rw [hels, ← hlen, h.els]
      rw [this]; rfl
    rw [e]; exact this
  · intro k hk
    rcases mem_ins.1 hk with rfl | hk
    · exact Or.inr hb.size
    · exact Or.inl (h.blocks k hk)
  · refine (hO1.mono (T := M) (fun k _ e => h.blocks k e)).trans s3 (fun k _ e => ?_)
    subst e; exact h.self

set_option maxRecDepth 100000 in
set_option maxHeartbeats 1000000 in
theorem tput (h : TreeAt M w p L) {k i v : Int} (hno : ¬ Is L k i) (v0 : 0 ≤ v) (v1 : v ≤ 1000000) (hn : L.length + 1 ≤ 6000000000000) :
    Calls Try.prog 10 #[.pointer (some ⟨p, 0, none⟩), .int .i64 k, .int .i64 i, .int .i64 v] w (TAns M w p (.int .i64 0) (put ⟨k, i, v⟩ L)) := by
  obtain ⟨t, h⟩ := h
  obtain ⟨c0, c1, hf⟩ := h.root.cells
  have hlt := block_there h.root
  have hc := find_any p t 0 k i w h.lies c0 hlt
  rw [seek_nil (by rw [h.els]; exact hno), ptr_nil] at hc
  have hR : Room ⟨k, i, v⟩ t := ⟨light_cons.2 ⟨⟨v0, v1⟩, h.fits.1⟩, by rw [h.els]; exact hn⟩
  have nb : t.els.length + 1 ≤ 6000000000000 := hR.2
  have HR := Lib.hid hR
  have HNO := Lib.hid hno
  have HT := Lib.hid h
  have HC := Lib.hid hc
  clear h hc hno hn hR
  go_enter Try.func10, Try.ntmps10
  go_wp2_with (first
    | (go_at_call 26; go_must (refine HC.out.mono ?_); rintro e w1 ⟨rfl, hb⟩; have d0 := (hb.cell (p := ⟨p, 0, none⟩) hlt).trans c0; have HB := Lib.hid hb; clear hb)
    | (go_at_call 27; go_must (refine (with_any ⟨k, i, v⟩ w1.heap.size t _ ((HT.out.lies.below HB.out).later ((Only.refl _ w1).alloc _)) (heap_alloc_new w1 _) (List.nodup_cons.2 ⟨fun e => Nat.lt_irrefl _ (Nat.lt_of_lt_of_le (HT.out.lies.lt _ e) HB.out.size), HT.out.nodup⟩) HR.out).mono ?_); rintro e w3 ⟨rfl, hi, ho⟩; obtain ⟨u, hu⟩ := (ins ⟨k, i, v⟩ w1.heap.size t).ptr_is; rw [hu]; have hr3 := ((HT.out.root.keep (Only.of_below (S := fun _ => False) HB.out) (fun e => e)).keep ((Only.refl (S := fun _ => False) w1).alloc (.cells #[.int .i64 k, .int .i64 i, .int .i64 v, .pointer none, .pointer none, .int .i64 0, .int .i64 0] 57)) (fun e => e)).keep ho (by rintro (e | e); exact Nat.lt_irrefl p (Nat.lt_of_lt_of_le hlt (e ▸ HB.out.size)); exact HT.out.apart e); obtain ⟨f0, f1, ff⟩ := hr3.cells; have g0 := ff 0; have g1 := ff 1; have HU := Lib.hid hu; have HI := Lib.hid hi; have HO := Lib.hid ho; clear hr3 ff hi ho hu))
  go_ret
  have hp := put_is HT.out HR.out HNO.out HB.out rfl HI.out HO.out HU.out rfl
  exact ⟨rfl, hp⟩
end
end Go.Proofs.Ytbfnaejfmpnkbaa
