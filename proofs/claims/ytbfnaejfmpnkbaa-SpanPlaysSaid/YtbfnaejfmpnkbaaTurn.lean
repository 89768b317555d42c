/- The contracts of turnLeft and turnRight. -/
import Derived.Test.YtbfnaejfmpnkbaaMeas
namespace Go.Proofs.Ytbfnaejfmpnkbaa
open Go.ChangeShapes Go.WideShapes Go.ChangeAt Go.RowKit
set_option linter.unusedVariables false

theorem nodup_node {b : Nat} {x : El} {l r : Tr} : (Tr.node b x l r).blocks.Nodup ↔ b ∉ l.blocks ∧ b ∉ r.blocks ∧ l.blocks.Nodup ∧ r.blocks.Nodup ∧ ∀ k ∈ l.blocks, k ∉ r.blocks := by
  simp only [Tr.blocks, List.nodup_cons, List.nodup_append, List.mem_append, not_or]
  constructor
  · rintro ⟨⟨h1, h2⟩, h3, h4, h5⟩
    exact ⟨h1, h2, h3, h4, fun k hk hr => h5 k hk k hr rfl⟩
  · rintro ⟨h1, h2, h3, h4, h5⟩
    exact ⟨⟨h1, h2⟩, h3, h4, fun a ha b hb e => h5 a ha (e ▸ hb)⟩

theorem mem_blocks {b k : Nat} {x : El} {l r : Tr} : k ∈ (Tr.node b x l r).blocks ↔ k = b ∨ k ∈ l.blocks ∨ k ∈ r.blocks := by simp [Tr.blocks]

theorem Tr.ptr_is (t : Tr) : ∃ u, t.ptr = .pointer u := by cases t <;> exact ⟨_, rfl⟩

/-- The blocks of two nodes, one on the other, and of what hangs on them. -/
structure Three (b c : Nat) (l m r : Tr) : Prop where
  bc : b ≠ c
  bl : b ∉ l.blocks
  bm : b ∉ m.blocks
  br : b ∉ r.blocks
  cl : c ∉ l.blocks
  cm : c ∉ m.blocks
  cr : c ∉ r.blocks

theorem three_left {b c : Nat} {x y : El} {l m r : Tr} (h : (Tr.node b x l (.node c y m r)).blocks.Nodup) : Three b c l m r := by
  obtain ⟨h1, h2, h3, h4, h5⟩ := nodup_node.1 h
  obtain ⟨g1, g2, g3, g4, g5⟩ := nodup_node.1 h4
  simp only [mem_blocks, not_or] at h2
  exact ⟨h2.1, h1, h2.2.1, h2.2.2, fun e => h5 c e (mem_blocks.2 (Or.inl rfl)), g1, g2⟩

theorem three_right {b c : Nat} {x y : El} {l m r : Tr} (h : (Tr.node b x (.node c y l m) r).blocks.Nodup) : Three b c l m r := by
  obtain ⟨h1, h2, h3, h4, h5⟩ := nodup_node.1 h
  obtain ⟨g1, g2, g3, g4, g5⟩ := nodup_node.1 h3
  simp only [mem_blocks, not_or] at h1
  exact ⟨h1.1, h1.2.1, h1.2.2, h2, g1, g2, fun e => h5 c (mem_blocks.2 (Or.inl rfl)) e⟩

/-- What is known of memory when the pointers are turned, and nothing is measured. -/
structure Mid (b c : Nat) (x y : El) (bl br cl cr : Value) (lv s lv2 s2 : Int) (w w1 : World) : Prop where
  low : NodeIs w1 b x bl br lv s
  top : NodeIs w1 c y cl cr lv2 s2
  only : Only (fun k => k = b ∨ k = c) w w1

theorem mid_left {b c : Nat} {x y : El} {l p r q u u' v : Value} {lv s lv2 s2 : Int} {w : World} (hb : NodeIs w b x l p lv s) (hc : NodeIs w c y q r lv2 s2) (hbc : b ≠ c) (hu : u' = u) :
    Mid b c x y l u' v r lv s lv2 s2 w ((w.setCell ⟨b, 4, none⟩ u).setCell ⟨c, 3, none⟩ v) := by
  subst hu
  have h1 := only_set w b 4 u'
  have h2 := only_set (w.setCell ⟨b, 4, none⟩ u') c 3 v
  exact ⟨(hb.set4 u').keep h2 hbc, (hc.keep h1 (fun e => hbc e.symm)).set3 v, (h1.mono (T := fun k => k = b ∨ k = c) (fun _ _ e => Or.inl e)).trans h2 (fun _ _ e => Or.inr e)⟩

theorem mid_right {b c : Nat} {x y : El} {l p r q u u' v : Value} {lv s lv2 s2 : Int} {w : World} (hb : NodeIs w b x p r lv s) (hc : NodeIs w c y l q lv2 s2) (hbc : b ≠ c) (hu : u' = u) :
    Mid b c x y u' r l v lv s lv2 s2 w ((w.setCell ⟨b, 3, none⟩ u).setCell ⟨c, 4, none⟩ v) := by
  subst hu
  have h1 := only_set w b 3 u'
  have h2 := only_set (w.setCell ⟨b, 3, none⟩ u') c 4 v
  exact ⟨(hb.set3 u').keep h2 hbc, (hc.keep h1 (fun e => hbc e.symm)).set4 v, (h1.mono (T := fun k => k = b ∨ k = c) (fun _ _ e => Or.inl e)).trans h2 (fun _ _ e => Or.inr e)⟩

theorem top_out {b c : Nat} {x : El} {l m r : Tr} (h : Three b c l m r) : c ∉ (Tr.node b x l m).blocks := by
  rw [mem_blocks]; rintro (e | e | e); exact h.bc e.symm; exact h.cl e; exact h.cm e
theorem top_out2 {b c : Nat} {x : El} {l m r : Tr} (h : Three b c l m r) : c ∉ (Tr.node b x m r).blocks := by
  rw [mem_blocks]; rintro (e | e | e); exact h.bc e.symm; exact h.cm e; exact h.cr e

/-- What a turn leaves: a tree at these blocks. -/
def Topped (S : Nat → Prop) (t : Tr) (w : World) (e : Ending) (w' : World) : Prop := e = .returned t.ptr ∧ In w' t ∧ Only S w w'

set_option maxRecDepth 100000 in
set_option maxHeartbeats 1000000 in
theorem turnLeft_any (b c : Nat) (x y : El) (l m r : Tr) (lv s lv2 s2 : Int) (w : World) (hb : NodeIs w b x l.ptr (.pointer (some ⟨c, 0, none⟩)) lv s) (hc : NodeIs w c y m.ptr r.ptr lv2 s2) (hl : In w l) (hm : In w m) (hr : In w r)
    (hF : Fits (.node c y (.node b x l m) r)) (hN : Three b c l m r) :
    Calls Try.prog 43 #[.pointer (some ⟨b, 0, none⟩)] w (Topped (fun k => k = b ∨ k = c) (.node c y (.node b x l m) r) w) := by
  obtain ⟨u, hu⟩ := m.ptr_is
  obtain ⟨-, -, -, b3, b4, -, -⟩ := hb.cells
  obtain ⟨-, -, -, c3, c4, -, -⟩ := hc.cells
  rw [hu] at c3
  have hM := mid_left (u := .pointer u) (v := .pointer (some ⟨b, 0, none⟩)) hb hc hN.bc hu
  have HF := Lib.hid hF
  have HN := Lib.hid hN
  have HL := Lib.hid (hl.keep hM.only (fun k hk e => by rcases e with rfl | rfl; exact hN.bl hk; exact hN.cl hk))
  have HMm := Lib.hid (hm.keep hM.only (fun k hk e => by rcases e with rfl | rfl; exact hN.bm hk; exact hN.cm hk))
  have HR := Lib.hid (hr.keep hM.only (fun k hk e => by rcases e with rfl | rfl; exact hN.br hk; exact hN.cr hk))
  have HM := Lib.hid hM
  have HU := Lib.hid hu
  have hfb := hb.frozen 4
  have hfc := hc.frozen 3
  clear hM hb hc hl hm hr hF hN hu
  go_enter Try.func43, Try.ntmps43
  go_wp2_with fail
  go_wp2_with (first
    | (go_at_call_of 45 b; go_must (refine (measure_any b x l m lv s _ HM.out.low HL.out HMm.out (fits_node HF.out).1 HN.out.bl HN.out.bm).mono ?_); rintro e w3 ⟨rfl, hi, ho⟩; have HI := Lib.hid hi; have HO := Lib.hid ho; clear hi ho)
    | (go_at_call_of 45 c; go_must (refine (measure_any c y (.node b x l m) r lv2 s2 _ (HM.out.top.keep HO.out (fun e => HN.out.bc e.symm)) HI.out (HR.out.keep HO.out (fun k hk e => HN.out.br (e ▸ hk))) HF.out (top_out HN.out) HN.out.cr).mono ?_); rintro e w4 ⟨rfl, hi, ho⟩; have HI2 := Lib.hid hi; have HO2 := Lib.hid ho; clear hi ho))
  go_ret
  exact ⟨rfl, HI2.out, (HM.out.only.trans HO.out (fun _ _ e => Or.inl e)).trans HO2.out (fun _ _ e => Or.inr e)⟩

set_option maxRecDepth 100000 in
set_option maxHeartbeats 1000000 in
theorem turnRight_any (b c : Nat) (x y : El) (l m r : Tr) (lv s lv2 s2 : Int) (w : World) (hb : NodeIs w b x (.pointer (some ⟨c, 0, none⟩)) r.ptr lv s) (hc : NodeIs w c y l.ptr m.ptr lv2 s2) (hl : In w l) (hm : In w m) (hr : In w r)
    (hF : Fits (.node c y l (.node b x m r))) (hN : Three b c l m r) :
    Calls Try.prog 44 #[.pointer (some ⟨b, 0, none⟩)] w (Topped (fun k => k = b ∨ k = c) (.node c y l (.node b x m r)) w) := by
  obtain ⟨u, hu⟩ := m.ptr_is
  obtain ⟨-, -, -, b3, b4, -, -⟩ := hb.cells
  obtain ⟨-, -, -, c3, c4, -, -⟩ := hc.cells
  rw [hu] at c4
  have hM := mid_right (u := .pointer u) (v := .pointer (some ⟨b, 0, none⟩)) hb hc hN.bc hu
  have HF := Lib.hid hF
  have HN := Lib.hid hN
  have HL := Lib.hid (hl.keep hM.only (fun k hk e => by rcases e with rfl | rfl; exact hN.bl hk; exact hN.cl hk))
  have HMm := Lib.hid (hm.keep hM.only (fun k hk e => by rcases e with rfl | rfl; exact hN.bm hk; exact hN.cm hk))
  have HR := Lib.hid (hr.keep hM.only (fun k hk e => by rcases e with rfl | rfl; exact hN.br hk; exact hN.cr hk))
  have HM := Lib.hid hM
  have HU := Lib.hid hu
  have hfb := hb.frozen 3
  have hfc := hc.frozen 4
  clear hM hb hc hl hm hr hF hN hu
  go_enter Try.func44, Try.ntmps44
  go_wp2_with fail
  go_wp2_with (first
    | (go_at_call_of 45 b; go_must (refine (measure_any b x m r lv s _ HM.out.low HMm.out HR.out (fits_node HF.out).2.1 HN.out.bm HN.out.br).mono ?_); rintro e w3 ⟨rfl, hi, ho⟩; have HI := Lib.hid hi; have HO := Lib.hid ho; clear hi ho)
    | (go_at_call_of 45 c; go_must (refine (measure_any c y l (.node b x m r) lv2 s2 _ (HM.out.top.keep HO.out (fun e => HN.out.bc e.symm)) (HL.out.keep HO.out (fun k hk e => HN.out.bl (e ▸ hk))) HI.out HF.out HN.out.cl (top_out2 HN.out)).mono ?_); rintro e w4 ⟨rfl, hi, ho⟩; have HI2 := Lib.hid hi; have HO2 := Lib.hid ho; clear hi ho))
  go_ret
  exact ⟨rfl, HI2.out, (HM.out.only.trans HO.out (fun _ _ e => Or.inl e)).trans HO2.out (fun _ _ e => Or.inr e)⟩
end Go.Proofs.Ytbfnaejfmpnkbaa
