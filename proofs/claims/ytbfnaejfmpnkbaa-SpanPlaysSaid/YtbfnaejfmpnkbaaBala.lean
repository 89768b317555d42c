/- The contract of balanced. -/
import Derived.Test.YtbfnaejfmpnkbaaTurn
namespace Go.Proofs.Ytbfnaejfmpnkbaa
open Go.ChangeShapes Go.WideShapes Go.ChangeAt Go.RowKit
set_option linter.unusedVariables false

/-- A node that may not be measured, and its two sides. -/
structure Held (w : World) (b : Nat) (x : El) (l r : Tr) (lv s : Int) : Prop where
  self : NodeIs w b x l.ptr r.ptr lv s
  left : In w l
  right : In w r

theorem Held.later {w w' : World} {b : Nat} {x : El} {l r : Tr} {lv s : Int} (h : Held w b x l r lv s) (hO : Only (fun _ => False) w w') : Held w' b x l r lv s :=
  ⟨h.self.keep hO (fun e => e), h.left.later hO, h.right.later hO⟩

theorem Held.of_in {w : World} {b : Nat} {x : El} {l r : Tr} (h : In w (.node b x l r)) : Held w b x l r (Tr.node b x l r).ht (Tr.node b x l r).sm := ⟨h.1, h.2.1, h.2.2⟩

theorem Held.cells {w : World} {b : Nat} {x : El} {l r : Tr} {lv s : Int} (h : Held w b x l r lv s) :
    w.cell? ⟨b, 3, none⟩ = some l.ptr ∧ w.cell? ⟨b, 4, none⟩ = some r.ptr ∧ w.frozen? ⟨b, 3, none⟩ = false ∧ w.frozen? ⟨b, 4, none⟩ = false := by
  obtain ⟨-, -, -, c3, c4, -, -⟩ := h.self.cells
  exact ⟨c3, c4, h.self.frozen 3, h.self.frozen 4⟩

/-- Numbers that fit, of two sides. -/
theorem tilt_is (b : Nat) (x : El) (l r : Tr) (lv s v : Int) (w : World) (h : Held w b x l r lv s) (hF : Fits (.node b x l r)) (hv : (r.ht : Int) - l.ht = v) :
    Calls Try.prog 42 #[.pointer (some ⟨b, 0, none⟩)] w fun e w' => e = .returned (.int .i64 v) ∧ Only (fun _ => False) w w' := by
  subst hv
  exact tilt_any b x l r lv s w h.self h.left h.right (fits_bd (fits_node hF).1).2.2 (fits_bd (fits_node hF).2.1).2.2

theorem topped_mono {S T : Nat → Prop} {t u : Tr} {w : World} (hT : ∀ k, S k → T k) (e : t = u) : ∀ en w', Topped S t w en w' → Topped T u w en w' := by
  subst e
  rintro en w' ⟨h1, h2, h3⟩
  exact ⟨h1, h2, h3.mono (fun x _ h => hT x h)⟩

set_option maxRecDepth 100000 in
set_option maxHeartbeats 1000000 in
theorem bal_even (b : Nat) (x : El) (l r : Tr) (lv s : Int) (w : World) (h : Held w b x l r lv s) (hF : Fits (.node b x l r)) (hN : (Tr.node b x l r).blocks.Nodup) (h1 : l.ht ≤ r.ht + 1) (h2 : r.ht ≤ l.ht + 1) :
    Calls Try.prog 38 #[.pointer (some ⟨b, 0, none⟩)] w (Topped (fun k => k = b) (.node b x l r) w) := by
  obtain ⟨v, hv⟩ : ∃ v : Int, (r.ht : Int) - l.ht = v := ⟨_, rfl⟩
  have e1 : -1 ≤ v := by omega
  have e2 : v ≤ 1 := by omega
  obtain ⟨n1, n2, -⟩ := nodup_node.1 hN
  have HV := Lib.hid hv
  have HH := Lib.hid h
  have HF := Lib.hid hF
  have N1 := Lib.hid n1
  have N2 := Lib.hid n2
  clear hv h hF hN n1 n2 h1 h2
  go_enter Try.func38, Try.ntmps38
  go_wp2_with (first
    | (go_at_call 42; go_must (refine (tilt_is b x l r lv s v _ HH.out HF.out HV.out).mono ?_); rintro e w1 ⟨rfl, ho⟩; have HO := Lib.hid ho; have HH1 := Lib.hid (HH.out.later ho); clear ho)
    | (go_at_call 45; go_must (refine (measure_any b x l r lv s _ HH1.out.self HH1.out.left HH1.out.right HF.out N1.out N2.out).mono ?_); rintro e w2 ⟨rfl, hi, ho⟩; have HI := Lib.hid hi; have HO2 := Lib.hid ho; clear hi ho))
  go_ret
  exact ⟨rfl, HI.out, (HO.out.mono (fun _ _ e => e.elim)).trans HO2.out (fun _ _ e => e)⟩

/-- A node with its left side changed. -/
theorem held_left {w w1 : World} {b : Nat} {x : El} {l r t : Tr} {lv s : Int} {u : Value} {S : Nat → Prop} (h : Held w b x l r lv s) (ht : In w1 t) (hO : Only S w w1) (hb : ¬ S b) (hr : ∀ k ∈ r.blocks, ¬ S k) (bt : b ∉ t.blocks) (br : b ∉ r.blocks) (hu : t.ptr = u) :
    Held (w1.setCell ⟨b, 3, none⟩ u) b x t r lv s := by
  subst hu
  have h2 := only_set w1 b 3 t.ptr
  exact ⟨(h.self.keep hO hb).set3 _, ht.keep h2 (fun k hk e => bt (e ▸ hk)), (h.right.keep hO hr).keep h2 (fun k hk e => br (e ▸ hk))⟩

/-- A node with its right side changed. -/
theorem held_right {w w1 : World} {b : Nat} {x : El} {l r t : Tr} {lv s : Int} {u : Value} {S : Nat → Prop} (h : Held w b x l r lv s) (ht : In w1 t) (hO : Only S w w1) (hb : ¬ S b) (hl : ∀ k ∈ l.blocks, ¬ S k) (bt : b ∉ t.blocks) (bl : b ∉ l.blocks) (hu : t.ptr = u) :
    Held (w1.setCell ⟨b, 4, none⟩ u) b x l t lv s := by
  subst hu
  have h2 := only_set w1 b 4 t.ptr
  exact ⟨(h.self.keep hO hb).set4 _, (h.left.keep hO hl).keep h2 (fun k hk e => bl (e ▸ hk)), ht.keep h2 (fun k hk e => bt (e ▸ hk))⟩

set_option maxRecDepth 100000 in
set_option maxHeartbeats 1000000 in
theorem bal_left (b c : Nat) (x y : El) (l m r : Tr) (lv s : Int) (w : World) (h : Held w b x (.node c y l m) r lv s) (hF : Fits (.node b x (.node c y l m) r)) (hN : (Tr.node b x (.node c y l m) r).blocks.Nodup)
    (h1 : r.ht + 1 < (Tr.node c y l m).ht) (h2 : ¬ 0 < tilt (.node c y l m)) :
    Calls Try.prog 38 #[.pointer (some ⟨b, 0, none⟩)] w (Topped (fun k => k ∈ (Tr.node b x (.node c y l m) r).blocks) (.node c y l (.node b x m r)) w) := by
  obtain ⟨v, hv⟩ : ∃ v : Int, (r.ht : Int) - (Tr.node c y l m).ht = v := ⟨_, rfl⟩
  obtain ⟨v2, hv2⟩ : ∃ v : Int, (m.ht : Int) - l.ht = v := ⟨_, rfl⟩
  have e1 : v < -1 := by omega
  have e2 : v2 ≤ 0 := by simp only [tilt] at h2; omega
  have HV := Lib.hid hv
  have HV2 := Lib.hid hv2
  have HH := Lib.hid h
  have HF := Lib.hid hF
  have HT := Lib.hid (three_right hN)
  clear hv hv2 h hF hN h1 h2
  go_enter Try.func38, Try.ntmps38
  go_wp2_with (first
    | (go_at_call_of 42 b; go_must (refine (tilt_is b x _ r lv s v _ HH.out HF.out HV.out).mono ?_); rintro e w1 ⟨rfl, ho⟩; have HO := Lib.hid ho; have HH1 := Lib.hid (HH.out.later ho); obtain ⟨c3, -⟩ := HH1.out.cells; clear ho)
    | (go_at_call_of 42 c; go_must (refine (tilt_is c y l m _ _ v2 _ (Held.of_in HH1.out.left) (fits_node HF.out).1 HV2.out).mono ?_); rintro e w2 ⟨rfl, ho⟩; have HO2 := Lib.hid ho; have HH2 := Lib.hid (HH1.out.later ho); clear ho)
    | (go_at_call 44; go_must (refine (turnRight_any b c x y l m r lv s _ _ _ HH2.out.self HH2.out.left.1 HH2.out.left.2.1 HH2.out.left.2.2 HH2.out.right (fits_same HF.out (by simp [Tr.els])) HT.out).mono ?_); rintro e w3 ⟨rfl, hi, ho⟩; have HI := Lib.hid hi; have HO3 := Lib.hid ho; clear hi ho))
  go_ret
  exact ⟨rfl, HI.out, ((HO.out.trans HO2.out (fun _ _ e => e)).mono (fun _ _ e => e.elim)).trans HO3.out (fun k _ e => by rw [mem_blocks, mem_blocks]; rcases e with rfl | rfl; exact Or.inl rfl; exact Or.inr (Or.inl (Or.inl rfl)))⟩

set_option maxRecDepth 100000 in
set_option maxHeartbeats 1000000 in
theorem bal_right (b c : Nat) (x y : El) (l m r : Tr) (lv s : Int) (w : World) (h : Held w b x l (.node c y m r) lv s) (hF : Fits (.node b x l (.node c y m r))) (hN : (Tr.node b x l (.node c y m r)).blocks.Nodup)
    (h1 : l.ht + 1 < (Tr.node c y m r).ht) (h2 : ¬ tilt (.node c y m r) < 0) :
    Calls Try.prog 38 #[.pointer (some ⟨b, 0, none⟩)] w (Topped (fun k => k ∈ (Tr.node b x l (.node c y m r)).blocks) (.node c y (.node b x l m) r) w) := by
  obtain ⟨v, hv⟩ : ∃ v : Int, ((Tr.node c y m r).ht : Int) - l.ht = v := ⟨_, rfl⟩
  obtain ⟨v2, hv2⟩ : ∃ v : Int, (r.ht : Int) - m.ht = v := ⟨_, rfl⟩
  have e1 : 1 < v := by omega
  have e2 : 0 ≤ v2 := by simp only [tilt] at h2; omega
  have HV := Lib.hid hv
  have HV2 := Lib.hid hv2
  have HH := Lib.hid h
  have HF := Lib.hid hF
  have HT := Lib.hid (three_left hN)
  clear hv hv2 h hF hN h1 h2
  go_enter Try.func38, Try.ntmps38
  go_wp2_with (first
    | (go_at_call_of 42 b; go_must (refine (tilt_is b x l _ lv s v _ HH.out HF.out HV.out).mono ?_); rintro e w1 ⟨rfl, ho⟩; have HO := Lib.hid ho; have HH1 := Lib.hid (HH.out.later ho); obtain ⟨-, c4, -⟩ := HH1.out.cells; clear ho)
    | (go_at_call_of 42 c; go_must (refine (tilt_is c y m r _ _ v2 _ (Held.of_in HH1.out.right) (fits_node HF.out).2.1 HV2.out).mono ?_); rintro e w2 ⟨rfl, ho⟩; have HO2 := Lib.hid ho; have HH2 := Lib.hid (HH1.out.later ho); clear ho)
    | (go_at_call 43; go_must (refine (turnLeft_any b c x y l m r lv s _ _ _ HH2.out.self HH2.out.right.1 HH2.out.left HH2.out.right.2.1 HH2.out.right.2.2 (fits_same HF.out (by simp [Tr.els])) HT.out).mono ?_); rintro e w3 ⟨rfl, hi, ho⟩; have HI := Lib.hid hi; have HO3 := Lib.hid ho; clear hi ho))
  go_ret
  exact ⟨rfl, HI.out, ((HO.out.trans HO2.out (fun _ _ e => e)).mono (fun _ _ e => e.elim)).trans HO3.out (fun k _ e => by rw [mem_blocks, mem_blocks]; rcases e with rfl | rfl; exact Or.inl rfl; exact Or.inr (Or.inr (Or.inl rfl)))⟩

theorem four_left {b c d : Nat} {x y z : El} {k m n r : Tr} (h : (Tr.node b x (.node c y k (.node d z m n)) r).blocks.Nodup) :
    Three c d k m n ∧ b ≠ c ∧ b ≠ d ∧ c ∉ r.blocks ∧ d ∉ r.blocks ∧ b ∉ (Tr.node d z (.node c y k m) n).blocks ∧ b ∉ r.blocks ∧ Three b d (.node c y k m) n r := by
  obtain ⟨h1, h2, h3, h4, h5⟩ := nodup_node.1 h
  have t1 := three_left h3
  have q1 : c ∉ r.blocks := h5 c (mem_blocks.2 (Or.inl rfl))
  have q2 : d ∉ r.blocks := h5 d (by simp [mem_blocks])
  simp only [mem_blocks, not_or] at h1
  obtain ⟨a1, a2, a3, a4, a5⟩ := h1
  refine ⟨t1, a1, a3, q1, q2, ?_, h2, ⟨a3, ?_, a5, h2, ?_, t1.cr, q2⟩⟩
  · simp only [mem_blocks, not_or]; exact ⟨a3, ⟨a1, a2, a4⟩, a5⟩
  · simp only [mem_blocks, not_or]; exact ⟨a1, a2, a4⟩
  · simp only [mem_blocks, not_or]; exact ⟨fun e => t1.bc e.symm, t1.cl, t1.cm⟩

theorem four_right {b c d : Nat} {x y z : El} {k m n l : Tr} (h : (Tr.node b x l (.node c y (.node d z m n) k)).blocks.Nodup) :
    Three c d m n k ∧ b ≠ c ∧ b ≠ d ∧ c ∉ l.blocks ∧ d ∉ l.blocks ∧ b ∉ (Tr.node d z m (.node c y n k)).blocks ∧ b ∉ l.blocks ∧ Three b d l m (.node c y n k) := by
  obtain ⟨h1, h2, h3, h4, h5⟩ := nodup_node.1 h
  have t1 := three_right h4
  have q1 : c ∉ l.blocks := fun e => h5 c e (mem_blocks.2 (Or.inl rfl))
  have q2 : d ∉ l.blocks := fun e => h5 d e (by simp [mem_blocks])
  simp only [mem_blocks, not_or] at h2
  obtain ⟨a1, ⟨a3, a4, a5⟩, a2⟩ := h2
  refine ⟨t1, a1, a3, q1, q2, ?_, h1, ⟨a3, h1, a4, ?_, q2, t1.cl, ?_⟩⟩
  · simp only [mem_blocks, not_or]; exact ⟨a3, a4, a1, a5, a2⟩
  · simp only [mem_blocks, not_or]; exact ⟨a1, a5, a2⟩
  · simp only [mem_blocks, not_or]; exact ⟨fun e => t1.bc e.symm, t1.cm, t1.cr⟩

set_option maxRecDepth 100000 in
set_option maxHeartbeats 1000000 in
theorem bal_left2 (b c d : Nat) (x y z : El) (k m n r : Tr) (lv s : Int) (w : World) (h : Held w b x (.node c y k (.node d z m n)) r lv s) (hF : Fits (.node b x (.node c y k (.node d z m n)) r)) (hN : (Tr.node b x (.node c y k (.node d z m n)) r).blocks.Nodup)
    (h1 : r.ht + 1 < (Tr.node c y k (.node d z m n)).ht) (h2 : 0 < tilt (.node c y k (.node d z m n))) :
    Calls Try.prog 38 #[.pointer (some ⟨b, 0, none⟩)] w (Topped (fun q => q ∈ (Tr.node b x (.node c y k (.node d z m n)) r).blocks) (.node d z (.node c y k m) (.node b x n r)) w) := by
  obtain ⟨v, hv⟩ : ∃ v : Int, (r.ht : Int) - (Tr.node c y k (.node d z m n)).ht = v := ⟨_, rfl⟩
  obtain ⟨v2, hv2⟩ : ∃ v : Int, ((Tr.node d z m n).ht : Int) - k.ht = v := ⟨_, rfl⟩
  have e1 : v < -1 := by omega
  have e2 : 0 < v2 := by simp only [tilt] at h2; omega
  have HV := Lib.hid hv
  have HV2 := Lib.hid hv2
  have HH := Lib.hid h
  have HF := Lib.hid hF
  have HN := Lib.hid (four_left hN)
  clear hv hv2 h hF hN h1 h2
  go_enter Try.func38, Try.ntmps38
  go_wp2_with (first
    | (go_at_call_of 42 b; go_must (refine (tilt_is b x _ r lv s v _ HH.out HF.out HV.out).mono ?_); rintro e w1 ⟨rfl, ho⟩; have HO := Lib.hid ho; have HH1 := Lib.hid (HH.out.later ho); obtain ⟨c3, -⟩ := HH1.out.cells; clear ho)
    | (go_at_call_of 42 c; go_must (refine (tilt_is c y k _ _ _ v2 _ (Held.of_in HH1.out.left) (fits_node HF.out).1 HV2.out).mono ?_); rintro e w2 ⟨rfl, ho⟩; have HO2 := Lib.hid ho; have HH2 := Lib.hid (HH1.out.later ho); clear c3; obtain ⟨c3, -⟩ := HH2.out.cells; clear ho)
    | (go_at_call 43; go_must (refine (turnLeft_any c d y z k m n _ _ _ _ _ HH2.out.left.1 HH2.out.left.2.2.1 HH2.out.left.2.1 HH2.out.left.2.2.2.1 HH2.out.left.2.2.2.2 (fits_same (fits_node HF.out).1 (by simp [Tr.els])) HN.out.1).mono ?_); rintro e w3 ⟨rfl, hi, ho⟩; simp only [Tr.ptr]; have hk := HH2.out.self.keep ho (fun e => by rcases e with e | e; exact HN.out.2.1 e; exact HN.out.2.2.1 e); obtain ⟨-, -, -, d3, -⟩ := hk.cells; have df := hk.frozen 3; have HI := Lib.hid hi; have HO3 := Lib.hid ho; clear hk hi ho)
    | (go_at_call 44; go_must (have hh := held_left (u := .pointer (some ⟨d, 0, none⟩)) HH2.out HI.out HO3.out (fun e => by rcases e with e | e; exact HN.out.2.1 e; exact HN.out.2.2.1 e) (fun q hq e => by rcases e with rfl | rfl; exact HN.out.2.2.2.1 hq; exact HN.out.2.2.2.2.1 hq) HN.out.2.2.2.2.2.1 HN.out.2.2.2.2.2.2.1 rfl); go_must (refine (turnRight_any b d x z (.node c y k m) n r lv s _ _ _ hh.self hh.left.1 hh.left.2.1 hh.left.2.2 hh.right (fits_same HF.out (by simp [Tr.els])) HN.out.2.2.2.2.2.2.2).mono ?_); rintro e w4 ⟨rfl, hi, ho⟩; have HI2 := Lib.hid hi; have HO4 := Lib.hid ho; clear hh hi ho))
  go_ret
  exact ⟨rfl, HI2.out, ((((HO.out.trans HO2.out (fun _ _ e => e)).mono (fun _ _ e => e.elim)).trans HO3.out (fun k _ e => by simp only [mem_blocks]; rcases e with rfl | rfl <;> simp)).setCell (p := ⟨b, 3, none⟩) (by simp [mem_blocks]) _).trans HO4.out (fun k _ e => by simp only [mem_blocks]; rcases e with rfl | rfl <;> simp)⟩

set_option maxRecDepth 100000 in
set_option maxHeartbeats 1000000 in
theorem bal_right2 (b c d : Nat) (x y z : El) (k m n l : Tr) (lv s : Int) (w : World) (h : Held w b x l (.node c y (.node d z m n) k) lv s) (hF : Fits (.node b x l (.node c y (.node d z m n) k))) (hN : (Tr.node b x l (.node c y (.node d z m n) k)).blocks.Nodup)
    (h1 : l.ht + 1 < (Tr.node c y (.node d z m n) k).ht) (h2 : tilt (.node c y (.node d z m n) k) < 0) :
    Calls Try.prog 38 #[.pointer (some ⟨b, 0, none⟩)] w (Topped (fun q => q ∈ (Tr.node b x l (.node c y (.node d z m n) k)).blocks) (.node d z (.node b x l m) (.node c y n k)) w) := by
  obtain ⟨v, hv⟩ : ∃ v : Int, ((Tr.node c y (.node d z m n) k).ht : Int) - l.ht = v := ⟨_, rfl⟩
  obtain ⟨v2, hv2⟩ : ∃ v : Int, (k.ht : Int) - (Tr.node d z m n).ht = v := ⟨_, rfl⟩
  have e1 : 1 < v := by omega
  have e2 : v2 < 0 := by simp only [tilt] at h2; omega
  have HV := Lib.hid hv
  have HV2 := Lib.hid hv2
  have HH := Lib.hid h
  have HF := Lib.hid hF
  have HN := Lib.hid (four_right hN)
  clear hv hv2 h hF hN h1 h2
  go_enter Try.func38, Try.ntmps38
  go_wp2_with (first
    | (go_at_call_of 42 b; go_must (refine (tilt_is b x l _ lv s v _ HH.out HF.out HV.out).mono ?_); rintro e w1 ⟨rfl, ho⟩; have HO := Lib.hid ho; have HH1 := Lib.hid (HH.out.later ho); obtain ⟨-, c4, -⟩ := HH1.out.cells; clear ho)
    | (go_at_call_of 42 c; go_must (refine (tilt_is c y _ k _ _ v2 _ (Held.of_in HH1.out.right) (fits_node HF.out).2.1 HV2.out).mono ?_); rintro e w2 ⟨rfl, ho⟩; have HO2 := Lib.hid ho; have HH2 := Lib.hid (HH1.out.later ho); clear c4; obtain ⟨-, c4, -⟩ := HH2.out.cells; clear ho)
    | (go_at_call_of 44 c; go_must (refine (turnRight_any c d y z m n k _ _ _ _ _ HH2.out.right.1 HH2.out.right.2.1.1 HH2.out.right.2.1.2.1 HH2.out.right.2.1.2.2 HH2.out.right.2.2 (fits_same (fits_node HF.out).2.1 (by simp [Tr.els])) HN.out.1).mono ?_); rintro e w3 ⟨rfl, hi, ho⟩; simp only [Tr.ptr]; have hk := HH2.out.self.keep ho (fun e => by rcases e with e | e; exact HN.out.2.1 e; exact HN.out.2.2.1 e); obtain ⟨-, -, -, -, d4, -⟩ := hk.cells; have df := hk.frozen 4; have HI := Lib.hid hi; have HO3 := Lib.hid ho; clear hk hi ho)
    | (go_at_call_of 43 b; go_must (have hh := held_right (u := .pointer (some ⟨d, 0, none⟩)) HH2.out HI.out HO3.out (fun e => by rcases e with e | e; exact HN.out.2.1 e; exact HN.out.2.2.1 e) (fun q hq e => by rcases e with rfl | rfl; exact HN.out.2.2.2.1 hq; exact HN.out.2.2.2.2.1 hq) HN.out.2.2.2.2.2.1 HN.out.2.2.2.2.2.2.1 rfl); go_must (refine (turnLeft_any b d x z l m (.node c y n k) lv s _ _ _ hh.self hh.right.1 hh.left hh.right.2.1 hh.right.2.2 (fits_same HF.out (by simp [Tr.els])) HN.out.2.2.2.2.2.2.2).mono ?_); rintro e w4 ⟨rfl, hi, ho⟩; have HI2 := Lib.hid hi; have HO4 := Lib.hid ho; clear hh hi ho))
  go_ret
  exact ⟨rfl, HI2.out, ((((HO.out.trans HO2.out (fun _ _ e => e)).mono (fun _ _ e => e.elim)).trans HO3.out (fun k _ e => by simp only [mem_blocks]; rcases e with rfl | rfl <;> simp)).setCell (p := ⟨b, 4, none⟩) (by simp [mem_blocks]) _).trans HO4.out (fun k _ e => by simp only [mem_blocks]; rcases e with rfl | rfl <;> simp)⟩

theorem balanced_any (b : Nat) (x : El) (l r : Tr) (lv s : Int) (w : World) (h : Held w b x l r lv s) (hF : Fits (.node b x l r)) (hN : (Tr.node b x l r).blocks.Nodup) :
    Calls Try.prog 38 #[.pointer (some ⟨b, 0, none⟩)] w (Topped (fun k => k ∈ (Tr.node b x l r).blocks) (bal (.node b x l r)) w) := by
  simp only [bal]
  split
  · rename_i h1
    cases l with
    | nil => simp [Tr.ht] at h1
    | node c y ll lr =>
      split
      · rename_i h2
        cases lr with
        | nil => simp [tilt, Tr.ht] at h2; omega
        | node d z m n => exact bal_left2 b c d x y z ll m n r lv s w h hF hN h1 h2
      · rename_i h2
        exact bal_left b c x y ll lr r lv s w h hF hN h1 h2
  · split
    · rename_i h1
      cases r with
      | nil => simp [Tr.ht] at h1
      | node c y rl rr =>
        split
        · rename_i h2
          cases rl with
          | nil => simp [tilt, Tr.ht] at h2; omega
          | node d z m n => exact bal_right2 b c d x y z rr m n l lv s w h hF hN h1 h2
        · rename_i h2
          exact bal_right b c x y l rl rr lv s w h hF hN h1 h2
    · refine (bal_even b x l r lv s w h hF hN (by omega) (by omega)).mono fun e w' hw => ?_
      exact topped_mono (fun k hk => by rw [mem_blocks]; exact Or.inl hk) rfl e w' hw
end Go.Proofs.Ytbfnaejfmpnkbaa
