/- The contract of with. -/
import Derived.Test.YtbfnaejfmpnkbaaBala
import Derived.Test.YtbfnaejfmpnkbaaLook
namespace Go.Proofs.Ytbfnaejfmpnkbaa
open Go.ChangeShapes Go.WideShapes Go.ChangeAt Go.RowKit
set_option linter.unusedVariables false

theorem ins_perm (z : El) (c : Nat) (t : Tr) : (ins z c t).els.Perm (z :: t.els) := by
  induction t with
  | nil => exact List.Perm.refl _
  | node b x l r ihl ihr =>
    simp only [ins]
    split
    · rw [bal_els]; simp only [Tr.els]
      exact ihl.append_right _
    · rw [bal_els]; simp only [Tr.els]
      refine ((List.Perm.cons x ihr).append_left _).trans ?_
      refine ((List.Perm.swap z x _).append_left _).trans ?_
      exact List.perm_middle

theorem light_perm {l m : List El} (h : Light l) (p : m.Perm l) : Light m := fun x hx => h x (p.mem_iff.1 hx)

theorem fits_perm {t : Tr} {l : List El} (h : Light l) (hl : l.length ≤ 6000000000000) (p : t.els.Perm l) : Fits t := ⟨light_perm h p, by rw [p.length_eq]; exact hl⟩

/-- An element more fits. -/
def Room (z : El) (t : Tr) : Prop := Light (z :: t.els) ∧ t.els.length + 1 ≤ 6000000000000

theorem room_ins {z : El} {c : Nat} {t : Tr} (h : Room z t) : Fits (ins z c t) := fits_perm h.1 (by simpa using h.2) (ins_perm z c t)

theorem room_left {z : El} {b : Nat} {x : El} {l r : Tr} (h : Room z (.node b x l r)) : Room z l := by
  obtain ⟨h1, h2⟩ := h
  simp only [Tr.els, List.length_append, List.length_cons] at h2
  simp only [Tr.els, light_app, light_cons] at h1
  exact ⟨light_cons.2 ⟨h1.1, h1.2.1⟩, by omega⟩
theorem room_right {z : El} {b : Nat} {x : El} {l r : Tr} (h : Room z (.node b x l r)) : Room z r := by
  obtain ⟨h1, h2⟩ := h
  simp only [Tr.els, List.length_append, List.length_cons] at h2
  simp only [Tr.els, light_app, light_cons] at h1
  exact ⟨light_cons.2 ⟨h1.1, h1.2.2.2⟩, by omega⟩
theorem room_mid_left {z : El} {b c : Nat} {x : El} {l r : Tr} (h : Room z (.node b x l r)) : Fits (.node b x (ins z c l) r) :=
  fits_perm h.1 (by simpa using h.2) (by simp only [Tr.els]; exact (ins_perm z c l).append_right _)
theorem room_mid_right {z : El} {b c : Nat} {x : El} {l r : Tr} (h : Room z (.node b x l r)) : Fits (.node b x l (ins z c r)) :=
  fits_perm h.1 (by simpa using h.2) (by
    simp only [Tr.els]
    refine ((List.Perm.cons x (ins_perm z c r)).append_left _).trans ?_
    refine ((List.Perm.swap z x _).append_left _).trans ?_
    exact List.perm_middle)

theorem mem_ins {z : El} {c : Nat} {t : Tr} {k : Nat} : k ∈ (ins z c t).blocks ↔ k = c ∨ k ∈ t.blocks := by
  rw [(ins_blocks z c t).mem_iff]; simp

/-- The blocks when an element is put in. -/
structure Joins (c b : Nat) (l r : Tr) : Prop where
  left : (c :: l.blocks).Nodup
  right : (c :: r.blocks).Nodup
  bc : b ≠ c
  bl : b ∉ l.blocks
  br : b ∉ r.blocks
  cl : c ∉ l.blocks
  cr : c ∉ r.blocks
  lr : ∀ k ∈ l.blocks, k ∉ r.blocks

theorem joins_of {c b : Nat} {x : El} {l r : Tr} (h : (c :: (Tr.node b x l r).blocks).Nodup) : Joins c b l r := by
  obtain ⟨h1, h2⟩ := List.nodup_cons.1 h
  obtain ⟨g1, g2, g3, g4, g5⟩ := nodup_node.1 h2
  simp only [mem_blocks, not_or] at h1
  exact ⟨List.nodup_cons.2 ⟨h1.2.1, g3⟩, List.nodup_cons.2 ⟨h1.2.2, g4⟩, fun e => h1.1 e.symm, g1, g2, h1.2.1, h1.2.2, g5⟩

theorem joins_left {c b : Nat} {x z : El} {l r : Tr} (h : Joins c b l r) : (Tr.node b x (ins z c l) r).blocks.Nodup := by
  refine nodup_node.2 ⟨?_, h.br, (ins_blocks z c l).nodup_iff.2 h.left, (List.nodup_cons.1 h.right).2, fun k hk => ?_⟩
  · rw [mem_ins]; rintro (e | e); exact h.bc e; exact h.bl e
  · rcases mem_ins.1 hk with rfl | hk
    · exact h.cr
    · exact h.lr k hk
theorem joins_right {c b : Nat} {x z : El} {l r : Tr} (h : Joins c b l r) : (Tr.node b x l (ins z c r)).blocks.Nodup := by
  refine nodup_node.2 ⟨h.bl, ?_, (List.nodup_cons.1 h.left).2, (ins_blocks z c r).nodup_iff.2 h.right, fun k hk e => ?_⟩
  · rw [mem_ins]; rintro (e | e); exact h.bc e; exact h.br e
  · rcases mem_ins.1 e with rfl | e
    · exact h.cl hk
    · exact h.lr k hk e

/-- The new node. -/
def NewNode (w : World) (c : Nat) (z : El) : Prop := NodeIs w c z (.pointer none) (.pointer none) 0 0

def Grown (z : El) (c : Nat) (t : Tr) (w : World) (e : Ending) (w' : World) : Prop := Topped (fun k => k = c ∨ k ∈ t.blocks) (ins z c t) w e w'

theorem grown_left {z x : El} {c b : Nat} {l r : Tr} {w w' : World} (h : 0 < ordv x z.k z.i) (hi : In w' (bal (.node b x (ins z c l) r))) (ho : Only (fun k => k = c ∨ k ∈ (Tr.node b x l r).blocks) w w') :
    Grown z c (.node b x l r) w (.returned (bal (.node b x (ins z c l) r)).ptr) w' := by
  have e : ins z c (.node b x l r) = bal (.node b x (ins z c l) r) := by simp only [ins]; rw [if_pos h]
  exact ⟨by rw [e], by rw [e]; exact hi, ho⟩
theorem grown_right {z x : El} {c b : Nat} {l r : Tr} {w w' : World} (h : ordv x z.k z.i ≤ 0) (hi : In w' (bal (.node b x l (ins z c r)))) (ho : Only (fun k => k = c ∨ k ∈ (Tr.node b x l r).blocks) w w') :
    Grown z c (.node b x l r) w (.returned (bal (.node b x l (ins z c r))).ptr) w' := by
  have e : ins z c (.node b x l r) = bal (.node b x l (ins z c r)) := by simp only [ins]; rw [if_neg (by omega)]
  exact ⟨by rw [e], by rw [e]; exact hi, ho⟩

theorem bal_leaf (c : Nat) (z : El) : bal (.node c z .nil .nil) = .node c z .nil .nil := by simp [bal, Tr.ht]

theorem mem_more {c b : Nat} {x z : El} {l r : Tr} {k : Nat} (h : k ∈ (Tr.node b x (ins z c l) r).blocks) : k = c ∨ k ∈ (Tr.node b x l r).blocks := by
  simp only [mem_blocks, mem_ins] at *
  rcases h with h | (h | h) | h <;> simp [h]
theorem mem_more2 {c b : Nat} {x z : El} {l r : Tr} {k : Nat} (h : k ∈ (Tr.node b x l (ins z c r)).blocks) : k = c ∨ k ∈ (Tr.node b x l r).blocks := by
  simp only [mem_blocks, mem_ins] at *
  rcases h with h | h | (h | h) <;> simp [h]

set_option maxRecDepth 100000 in
set_option maxHeartbeats 1000000 in
theorem with_any (z : El) (c : Nat) (t : Tr) : ∀ (w : World), In w t → NewNode w c z → (c :: t.blocks).Nodup → Room z t →
    Calls Try.prog 27 #[t.ptr, .pointer (some ⟨c, 0, none⟩)] w (Grown z c t w) := by
  induction t with
  | nil =>
    intro w hi hc hN hR
    have HC := Lib.hid hc
    have HF := Lib.hid (room_ins (c := c) hR)
    clear hi hc hN hR
    rw [ptr_nil]
    go_enter Try.func27, Try.ntmps27
    go_wp2_with (go_at_call 38; go_must (refine (balanced_any c z .nil .nil 0 0 _ ⟨HC.out, trivial, trivial⟩ HF.out (by simp [Tr.blocks])).mono ?_); rintro e w1 ⟨rfl, hi, ho⟩; have HI := Lib.hid hi; have HO := Lib.hid ho; clear hi ho)
    go_ret
    exact ⟨by rw [bal_leaf]; rfl, by have := HI.out; rwa [bal_leaf] at this, HO.out.mono (fun k _ e => by rw [mem_blocks] at e; rcases e with e | e | e; exact Or.inl e; cases e; cases e)⟩
  | node b x l r ihl ihr =>
    intro w hi hc hN hR
    have HIL := Lib.hid ihl
    have HIR := Lib.hid ihr
    have HI := Lib.hid hi
    have HC := Lib.hid hc
    have HJ := Lib.hid (joins_of hN)
    have HR := Lib.hid hR
    obtain ⟨c0, c1, -⟩ := hc.drew.cells
    have hlt : b < w.heap.size := hi.1.lt
    clear ihl ihr hi hc hN hR
    rw [ptr_node]
    go_enter Try.func27, Try.ntmps27
    go_wp2_with fail
    refine wp_region_still_tail 9 (by kernel_rfl) (by kernel_rfl) ?_
    show wpStill _ _ w.drew (fun a' => wpList _ _ _ _ a' w.drew) _ _
    have HI2 := Lib.hid HI.out.drew
    have HC2 : Hid (NewNode w.drew c z) := Lib.hid HC.out.drew
    have HO := Lib.hid ((Only.refl (S := fun k => k = c ∨ k ∈ (Tr.node b x l r).blocks) w).drew)
    generalize w.drew = w2 at *
    simp only [List.take_succ_cons, List.take_zero, List.drop_succ_cons, List.drop_zero]
    repeat still_step
    refine wpStill_nil ?_
    by_cases o : 0 < ordv x z.k z.i
    · obtain ⟨v, hv⟩ : ∃ v, ordv x z.k z.i = v := ⟨_, rfl⟩
      have ov : 0 < v := by omega
      obtain ⟨u, hu⟩ := (ins z c l).ptr_is
      have HU := Lib.hid hu
      have HV := Lib.hid hv
      have O := Lib.hid o
      clear hu hv o
      go_wp2_with (first
        | (go_at_call 36; go_must (refine (order_is b x _ _ _ _ z.k z.i v _ HI2.out.1 HV.out).mono ?_); rintro e w3 ⟨rfl, hb⟩; have hi3 := HI2.out.below hb; obtain ⟨c3, -⟩ := hi3.cells; have HI3 := Lib.hid hi3; have HC3 : Hid (NewNode w3 c z) := Lib.hid (NodeIs.below HC2.out hb); have HO3 := Lib.hid (HO.out.trans (Only.of_below (S := fun _ => False) hb) (fun _ _ e => e.elim)); clear hi3 hb)
        | (go_at_call 27; go_must (refine (HIL.out _ HI3.out.2.1 HC3.out HJ.out.left (room_left HR.out)).mono ?_); rintro e w4 ⟨rfl, hi, ho⟩; rw [HU.out]; have hk := HI3.out.1.keep ho (fun e => by rcases e with e | e; exact HJ.out.bc e; exact HJ.out.bl e); obtain ⟨-, -, -, d3, -⟩ := hk.cells; have df := hk.frozen 3; have HI4 := Lib.hid hi; have HO4 := Lib.hid ho; clear hk hi ho)
        | (go_at_call 38; go_must (have hh := held_left (u := .pointer u) (Held.of_in HI3.out) HI4.out HO4.out (fun e => by rcases e with e | e; exact HJ.out.bc e; exact HJ.out.bl e) (fun k hk e => by rcases e with rfl | e; exact HJ.out.cr hk; exact HJ.out.lr k e hk) (by rw [mem_ins]; rintro (e | e); exact HJ.out.bc e; exact HJ.out.bl e) HJ.out.br HU.out); go_must (refine (balanced_any b x (ins z c l) r _ _ _ hh (room_mid_left HR.out) (joins_left HJ.out)).mono ?_); rintro e w5 ⟨rfl, hi, ho⟩; have HI5 := Lib.hid hi; have HO5 := Lib.hid ho; clear hh hi ho))
      go_ret
      exact grown_left O.out HI5.out <| ((HO3.out.trans HO4.out (fun k _ e => by rw [mem_blocks]; rcases e with e | e <;> simp [e])).setCell (p := ⟨b, 3, none⟩) (Or.inr (by simp [mem_blocks])) _).trans HO5.out (fun k _ e => mem_more e)
    · obtain ⟨v, hv⟩ : ∃ v, ordv x z.k z.i = v := ⟨_, rfl⟩
      have ov : v ≤ 0 := by omega
      obtain ⟨u, hu⟩ := (ins z c r).ptr_is
      have HU := Lib.hid hu
      have HV := Lib.hid hv
      have O := Lib.hid o
      clear hu hv o
      go_wp2_with (first
        | (go_at_call 36; go_must (refine (order_is b x _ _ _ _ z.k z.i v _ HI2.out.1 HV.out).mono ?_); rintro e w3 ⟨rfl, hb⟩; have hi3 := HI2.out.below hb; obtain ⟨-, c4⟩ := hi3.cells; have HI3 := Lib.hid hi3; have HC3 : Hid (NewNode w3 c z) := Lib.hid (NodeIs.below HC2.out hb); have HO3 := Lib.hid (HO.out.trans (Only.of_below (S := fun _ => False) hb) (fun _ _ e => e.elim)); clear hi3 hb)
        | (go_at_call 27; go_must (refine (HIR.out _ HI3.out.2.2 HC3.out HJ.out.right (room_right HR.out)).mono ?_); rintro e w4 ⟨rfl, hi, ho⟩; rw [HU.out]; have hk := HI3.out.1.keep ho (fun e => by rcases e with e | e; exact HJ.out.bc e; exact HJ.out.br e); obtain ⟨-, -, -, -, d4, -⟩ := hk.cells; have df := hk.frozen 4; have HI4 := Lib.hid hi; have HO4 := Lib.hid ho; clear hk hi ho)
        | (go_at_call 38; go_must (have hh := held_right (u := .pointer u) (Held.of_in HI3.out) HI4.out HO4.out (fun e => by rcases e with e | e; exact HJ.out.bc e; exact HJ.out.br e) (fun k hk e => by rcases e with rfl | e; exact HJ.out.cl hk; exact HJ.out.lr k hk e) (by rw [mem_ins]; rintro (e | e); exact HJ.out.bc e; exact HJ.out.br e) HJ.out.bl HU.out); go_must (refine (balanced_any b x l (ins z c r) _ _ _ hh (room_mid_right HR.out) (joins_right HJ.out)).mono ?_); rintro e w5 ⟨rfl, hi, ho⟩; have HI5 := Lib.hid hi; have HO5 := Lib.hid ho; clear hh hi ho))
      go_ret
      exact grown_right O.out HI5.out <| ((HO3.out.trans HO4.out (fun k _ e => by rw [mem_blocks]; rcases e with e | e <;> simp [e])).setCell (p := ⟨b, 4, none⟩) (Or.inr (by simp [mem_blocks])) _).trans HO5.out (fun k _ e => mem_more2 e)
end Go.Proofs.Ytbfnaejfmpnkbaa
