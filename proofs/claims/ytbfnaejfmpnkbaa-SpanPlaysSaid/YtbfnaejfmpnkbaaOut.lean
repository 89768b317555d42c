/- The contract of without, whole. -/
import Derived.Test.YtbfnaejfmpnkbaaGone
namespace Go.Proofs.Ytbfnaejfmpnkbaa
open Go.ChangeShapes Go.WideShapes Go.ChangeAt Go.RowKit
set_option linter.unusedVariables false

set_option maxRecDepth 100000 in
theorem gone_nil (b : Nat) (x : El) (r : Tr) (k i : Int) (w : World) (h : Goes w (.node b x .nil r) k i) (o : ordv x k i = 0) :
    Calls Try.prog 31 #[.pointer (some ⟨b, 0, none⟩), .int .i64 k, .int .i64 i] w (Went (.node b x .nil r) k i w) := by
  have HG := Lib.hid h
  have O := Lib.hid o
  clear h o
  go_enter Try.func31, Try.ntmps31
  go_wp2_with (go_at_call 36; go_must (refine (order_is b x _ _ _ _ k i 0 _ HG.out.lies.1 O.out).mono ?_); rintro e w3 ⟨rfl, hb⟩; have hg := HG.out.later (Only.of_below (S := fun _ => False) hb); obtain ⟨c3, c4⟩ := hg.lies.cells; change w3.cell? ⟨b, 3, none⟩ = some (.pointer none) at c3; have HG3 := Lib.hid hg; have HO3 := Lib.hid (Only.of_below (S := fun _ => False) hb); clear hg hb)
  go_ret
  exact went_of (del_eq O.out) HG3.out.lies.2.2 (HO3.out.mono (fun _ _ e => e.elim))

set_option maxRecDepth 100000 in
theorem gone_one (b : Nat) (x : El) (b1 : Nat) (x1 : El) (l1 r1 : Tr) (k i : Int) (w : World) (h : Goes w (.node b x (.node b1 x1 l1 r1) .nil) k i) (o : ordv x k i = 0) :
    Calls Try.prog 31 #[.pointer (some ⟨b, 0, none⟩), .int .i64 k, .int .i64 i] w (Went (.node b x (.node b1 x1 l1 r1) .nil) k i w) := by
  have HG := Lib.hid h
  have O := Lib.hid o
  clear h o
  go_enter Try.func31, Try.ntmps31
  go_wp2_with (go_at_call 36; go_must (refine (order_is b x _ _ _ _ k i 0 _ HG.out.lies.1 O.out).mono ?_); rintro e w3 ⟨rfl, hb⟩; have hg := HG.out.later (Only.of_below (S := fun _ => False) hb); obtain ⟨c3, c4⟩ := hg.lies.cells; change w3.cell? ⟨b, 3, none⟩ = some (.pointer (some ⟨b1, 0, none⟩)) at c3; change w3.cell? ⟨b, 4, none⟩ = some (.pointer none) at c4; have HG3 := Lib.hid hg; have HO3 := Lib.hid (Only.of_below (S := fun _ => False) hb); clear hg hb)
  go_ret
  exact went_of (del_eq O.out) HG3.out.lies.2.1 (HO3.out.mono (fun _ _ e => e.elim))

/-- All that is known where both sides hang on the node that goes: c, y: the next greater element; q: what hangs behind it; T: the right side without it. -/
structure Both (w : World) (b : Nat) (x : El) (l r : Tr) (c : Nat) (y : El) (q T : Tr) : Prop where
  lies : In w (.node b x l r)
  next : NodeIs w c y (.pointer none) q.ptr (Tr.node c y .nil q).ht (Tr.node c y .nil q).sm
  goes : Goes w r y.k y.i
  cT : c ∉ T.blocks
  bT : b ∉ T.blocks
  bc : b ≠ c
  lT : ∀ k ∈ l.blocks, k ∉ T.blocks
  cl : c ∉ l.blocks
  fits : Fits (.node c y l T)
  nodup : (Tr.node c y l T).blocks.Nodup

theorem both_of {w : World} {b : Nat} {x : El} {l : Tr} {b2 : Nat} {x2 : El} {l2 r2 : Tr} {k i : Int} (h : Goes w (.node b x l (.node b2 x2 l2 r2)) k i) (o : ordv x k i = 0) :
    ∃ q, Both w b x l (.node b2 x2 l2 r2) (lst (.node b2 x2 l2 r2)).1 (lst (.node b2 x2 l2 r2)).2 q (del (.node b2 x2 l2 r2) (lst (.node b2 x2 l2 r2)).2.k (lst (.node b2 x2 l2 r2)).2.i) := by
  have hl := leaves_of h.nodup
  obtain ⟨h1, h2, h3, h4⟩ := sorted_app h.sorted
  obtain ⟨q, hq⟩ := seek_lst h2
  obtain ⟨m, hm⟩ := lst_els (b := b2) (x := x2) (l := l2) (r := r2)
  have hne : seek (.node b2 x2 l2 r2) (lst (.node b2 x2 l2 r2)).2.k (lst (.node b2 x2 l2 r2)).2.i ≠ .nil := by rw [hq]; intro e; cases e
  have hb := del_blocks h2 hne
  have hn := del_nodup h2 hne hl.right
  have hi := h.lies.2.2.seek (lst (.node b2 x2 l2 r2)).2.k (lst (.node b2 x2 l2 r2)).2.i
  have hme := seek_mem hne
  have he := del_els (k := (lst (.node b2 x2 l2 r2)).2.k) (i := (lst (.node b2 x2 l2 r2)).2.i) h2
  have hin := fun q hq => del_in h2 hne (q := q) hq
  rw [hq] at hi hb hn hme
  simp only [topb] at hb hn hme
  generalize hc : (lst (.node b2 x2 l2 r2)).1 = c at *
  generalize hy : (lst (.node b2 x2 l2 r2)).2 = y at *
  generalize hT : del (.node b2 x2 l2 r2) y.k y.i = T at *
  have hT2 : T.els = m := by rw [he, hm]; simp [cut]
  have hbc : b ≠ c := fun e => hl.br (e ▸ hme)
  have hlT : ∀ k ∈ l.blocks, k ∉ T.blocks := fun k hk e => hl.lr k hk (hin k e)
  have hcl : c ∉ l.blocks := fun e => hl.lr c e hme
  refine ⟨q, h.lies, hi.1, ⟨h.lies.2.2, hl.right, (fits_node h.fits).2.1, h2, hne⟩, hn.1, fun e => hl.br (hin b e), hbc, hlT, hcl, ?_, ?_⟩
  · refine fits_sub h.fits ?_
    simp only [Tr.els] at hm ⊢
    rw [hm, hT2]
    exact (List.sublist_cons_self x _).append_left _
  · exact nodup_node.2 ⟨hcl, hn.1, hl.left, hn.2, hlT⟩

theorem Both.later {w w' : World} {b : Nat} {x : El} {l r : Tr} {c : Nat} {y : El} {q T : Tr} (h : Both w b x l r c y q T) (hO : Only (fun _ => False) w w') : Both w' b x l r c y q T :=
  ⟨h.lies.later hO, h.next.keep hO (fun e => e), h.goes.later hO, h.cT, h.bT, h.bc, h.lT, h.cl, h.fits, h.nodup⟩

/-- The next greater element in the place of the one that goes: its two pointers are set. -/
theorem both_held {w w1 : World} {b : Nat} {x : El} {l r : Tr} {c : Nat} {y : El} {q T : Tr} {u v : Value} (h : Both w b x l r c y q T) (hi : In w1 T) (hO : Only (fun k => k ∈ T.blocks) w w1) (hu : T.ptr = u) (hv : l.ptr = v) :
    Held ((w1.setCell ⟨c, 4, none⟩ u).setCell ⟨c, 3, none⟩ v) c y l T (Tr.node c y .nil q).ht (Tr.node c y .nil q).sm ∧
      Only (fun k => k ∈ (Tr.node c y l T).blocks) w ((w1.setCell ⟨c, 4, none⟩ u).setCell ⟨c, 3, none⟩ v) := by
  subst hu hv
  have h1 := only_set w1 c 4 T.ptr
  have h2 := only_set (w1.setCell ⟨c, 4, none⟩ T.ptr) c 3 l.ptr
  have h3 := h1.trans h2 (fun _ _ e => e)
  have h4 := h.next.keep hO h.cT
  refine ⟨⟨(h4.set4 _).set3 _, (h.lies.2.1.keep hO h.lT).keep h3 (fun k hk e => h.cl (e ▸ hk)), hi.keep h3 (fun k hk e => h.cT (e ▸ hk))⟩, ?_⟩
  exact (hO.mono (T := fun k => k ∈ (Tr.node c y l T).blocks) (fun k _ e => by rw [mem_blocks]; exact Or.inr (Or.inr e))).trans h3 (fun k _ e => by rw [mem_blocks]; exact Or.inl e)

set_option maxRecDepth 100000 in
set_option maxHeartbeats 1000000 in
theorem gone_two (b : Nat) (x : El) (b1 : Nat) (x1 : El) (l1 r1 : Tr) (b2 : Nat) (x2 : El) (l2 r2 : Tr) (k i : Int) (w : World) (h : Goes w (.node b x (.node b1 x1 l1 r1) (.node b2 x2 l2 r2)) k i) (o : ordv x k i = 0)
    (ih : ∀ (w : World) (k i : Int), Goes w (.node b2 x2 l2 r2) k i → Calls Try.prog 31 #[(Tr.node b2 x2 l2 r2).ptr, .int .i64 k, .int .i64 i] w (Went (.node b2 x2 l2 r2) k i w)) :
    Calls Try.prog 31 #[.pointer (some ⟨b, 0, none⟩), .int .i64 k, .int .i64 i] w (Went (.node b x (.node b1 x1 l1 r1) (.node b2 x2 l2 r2)) k i w) := by
  obtain ⟨q, hB⟩ := both_of h o
  have hE : del (.node b x (.node b1 x1 l1 r1) (.node b2 x2 l2 r2)) k i = bal (.node (lst (.node b2 x2 l2 r2)).1 (lst (.node b2 x2 l2 r2)).2 (.node b1 x1 l1 r1) (del (.node b2 x2 l2 r2) (lst (.node b2 x2 l2 r2)).2.k (lst (.node b2 x2 l2 r2)).2.i)) := del_eq o
  have hL : ∀ w, In w (.node b2 x2 l2 r2) → Calls Try.prog 34 #[.pointer (some ⟨b2, 0, none⟩)] w fun e w' => e = .returned (.pointer (some ⟨(lst (.node b2 x2 l2 r2)).1, 0, none⟩)) ∧ w = w' := fun w hi => least_any b2 x2 l2 r2 w hi
  have HG := Lib.hid h.lies.1
  generalize hc : (lst (.node b2 x2 l2 r2)).1 = c at *
  generalize hy : (lst (.node b2 x2 l2 r2)).2 = y at *
  have IH : Hid (∀ (w : World), Goes w (.node b2 x2 l2 r2) y.k y.i → Calls Try.prog 31 #[.pointer (some ⟨b2, 0, none⟩), .int .i64 y.k, .int .i64 y.i] w (Topped (fun q => q ∈ (del (.node b2 x2 l2 r2) y.k y.i).blocks) (del (.node b2 x2 l2 r2) y.k y.i) w)) := Lib.hid (fun w hg => ih w y.k y.i hg)
  generalize hT : del (.node b2 x2 l2 r2) y.k y.i = T at *
  obtain ⟨u, hu⟩ := T.ptr_is
  have HU := Lib.hid hu
  have HB := Lib.hid hB
  have HE := Lib.hid hE
  have HL := Lib.hid hL
  have O := Lib.hid o
  clear hu hB hE hL o h ih hc hy hT
  go_enter Try.func31, Try.ntmps31
  go_upto_region 3 with (first
    | (go_at_call 36; go_must (refine (order_is b x _ _ _ _ k i 0 _ HG.out O.out).mono ?_); rintro e w3 ⟨rfl, hb⟩; have hg := HB.out.later (Only.of_below (S := fun _ => False) hb); obtain ⟨c3, c4⟩ := hg.lies.cells; rw [ptr_node] at c3 c4; have HB3 := Lib.hid hg; have HO3 := Lib.hid (Only.of_below (S := fun _ => False) hb); clear hg hb)
    | (go_at_call 34; go_must (refine (HL.out _ HB3.out.lies.2.2).mono ?_); rintro e w4 ⟨rfl, rfl⟩))
  have hd := HB3.out.later ((Only.refl (S := fun _ => False) w3).drew)
  have HB4 := Lib.hid hd
  have HO4 := Lib.hid HO3.out.drew
  clear c3 c4
  obtain ⟨c3, c4⟩ := hd.lies.cells
  rw [ptr_node] at c3 c4
  obtain ⟨d0, d1, -⟩ := hd.next.cells
  clear hd
  go_cut [0, 8] from 18 to 33 (fun s0 s8 wx => s0 = .pointer (some ⟨b, 0, none⟩) ∧ s8 = .pointer (some ⟨c, 0, none⟩) ∧ ∃ w6, In w6 T ∧ Only (fun k => k ∈ T.blocks) w3.drew w6 ∧ wx = w6.setCell ⟨c, 4, none⟩ (.pointer u))
  case first =>
    go_region_with (go_at_call 31; go_must (refine (IH.out _ HB4.out.goes).mono ?_); rintro e w6 ⟨rfl, hi, ho⟩; rw [HU.out]; have hk := HB4.out.next.keep ho HB4.out.cT; have hf := hk.frozen 4; obtain ⟨-, -, -, -, e4, -⟩ := hk.cells; have HI := Lib.hid hi; have HO6 := Lib.hid ho; clear hk hi ho)
    all_goals go_wp2
    all_goals go_meet
    all_goals exact ⟨rfl, rfl, _, HI.out, HO6.out, rfl⟩
  case rest =>
    obtain ⟨rfl, rfl, w6, hi, ho, rfl⟩ := hcut
    have hh := both_held (u := .pointer u) (v := .pointer (some ⟨b1, 0, none⟩)) HB4.out hi ho HU.out rfl
    have hk := (HB4.out.next.keep ho HB4.out.cT).set4 (.pointer u)
    have hf := hk.frozen 3
    obtain ⟨-, -, -, e3, -⟩ := hk.cells
    have hk2 := (HB4.out.lies.1.keep ho HB4.out.bT).keep (only_set w6 c 4 (.pointer u)) HB4.out.bc
    obtain ⟨-, -, -, f3, -⟩ := hk2.cells
    rw [ptr_node] at f3
    have HH := Lib.hid hh
    clear hi ho hh hk hk2 c3 c4 d0 d1
    generalize w6.setCell ⟨c, 4, none⟩ (.pointer u) = w8 at *
    go_wp2_with (go_at_call 38; go_must (refine (balanced_any c y _ T _ _ _ HH.out.1 HB4.out.fits HB4.out.nodup).mono ?_); rintro e w7 ⟨rfl, hi, ho⟩; have HI7 := Lib.hid hi; have HO7 := Lib.hid (((HO4.out.mono (fun _ _ e => e.elim)).trans HH.out.2 (fun _ _ e => e)).trans ho (fun _ _ e => e)); clear hi ho)
    go_ret
    exact went_of HE.out HI7.out (HO7.out.mono (fun q _ e => mem_bal.2 e))

theorem without_any (t : Tr) : ∀ (w : World) (k i : Int), Goes w t k i → Calls Try.prog 31 #[t.ptr, .int .i64 k, .int .i64 i] w (Went t k i w) := by
  induction t with
  | nil => intro w k i h; exact absurd rfl h.has
  | node b x l r ihl ihr =>
    intro w k i h
    rcases ordv_three x k i with o | o | o
    · exact gone_right b x l r k i w h o ihr
    · cases l with
      | nil => exact gone_nil b x r k i w h o
      | node b1 x1 l1 r1 =>
        cases r with
        | nil => exact gone_one b x b1 x1 l1 r1 k i w h o
        | node b2 x2 l2 r2 => exact gone_two b x b1 x1 l1 r1 b2 x2 l2 r2 k i w h o ihr
    · exact gone_left b x l r k i w h o ihl
end Go.Proofs.Ytbfnaejfmpnkbaa
