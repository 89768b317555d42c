/- The contract of Out. -/
import Derived.Test.YtbfnaejfmpnkbaaFace
namespace Go.Proofs.Ytbfnaejfmpnkbaa
open Go.ChangeShapes Go.WideShapes Go.ChangeAt Go.RowKit
set_option linter.unusedVariables false

section
variable {M : Nat → Prop} {w : World} {p : Nat} {L : List El}

theorem tout_none (h : TreeAt M w p L) {k i : Int} (hno : ¬ Is L k i) :
    Calls Try.prog 15 #[.pointer (some ⟨p, 0, none⟩), .int .i64 k, .int .i64 i] w fun e w' => e = .returned (.tuple #[.int .i64 0, .int .i64 4]) ∧ Only (fun _ => False) w w' := by
  obtain ⟨t, h⟩ := h
  obtain ⟨c0, -⟩ := h.root.cells
  have hc := find_any p t 0 k i w h.lies c0 (block_there h.root)
  rw [seek_nil (by rw [h.els]; exact hno), ptr_nil] at hc
  have HC := Lib.hid hc
  clear h hc hno c0
  go_enter Try.func15, Try.ntmps15
  go_wp2_with (go_at_call 26; go_must (refine HC.out.mono ?_); rintro e w1 ⟨rfl, hb⟩; have HB := Lib.hid hb; clear hb)
  go_ret2
  exact ⟨rfl, Only.of_below HB.out⟩

theorem one_of {L : List El} {x y : El} (hs : Sorted L) (hx : x ∈ L) (hy : y ∈ L) (h1 : x.k = y.k) (h2 : x.i = y.i) : x = y := by
  induction L with
  | nil => cases hx
  | cons z L ih =>
    obtain ⟨g1, g2⟩ := List.pairwise_cons.1 hs
    rcases List.mem_cons.1 hx with e | hx2
    · rcases List.mem_cons.1 hy with f | hy2
      · rw [e, f]
      · subst e; have := g1 y hy2; unfold lt bef at this; omega
    · rcases List.mem_cons.1 hy with f | hy2
      · subst f; have := g1 x hx2; unfold lt bef at this; omega
      · exact ih g2 hx2 hy2

theorem cut_mem {k i : Int} {y : El} {l : List El} (h : y ∈ cut k i l) : y ∈ l := (cut_sub k i l).subset h

theorem cut_len {k i : Int} {l : List El} (h : Is l k i) : (cut k i l).length + 1 = l.length := by
  induction l with
  | nil => obtain ⟨x, hx, -⟩ := h; cases hx
  | cons x l ih =>
    simp only [cut]
    split
    · rfl
    · rename_i g
      obtain ⟨y, hy, q⟩ := h
      rcases List.mem_cons.1 hy with e | hy
      · subst e; exact absurd q g
      · have := ih ⟨y, hy, q⟩
        simp only [List.length_cons]; omega

/-- A tree behind Out. -/
theorem cut_is {w w1 w3 w4 : World} {t : Tr} {k i : Int} {u : Value} (h : TreeIs M w p L t) (hI : Is L k i) (hb : Below w.heap.size w w1)
    (hi : In w3 (del t k i)) (ho : Only (fun q => q ∈ (del t k i).blocks) w1 w3) (hu : (del t k i).ptr = u)
    (h4 : w4 = (w3.setCell ⟨p, 0, none⟩ u).setCell ⟨p, 1, none⟩ (.int .i64 ((t.els.length : Int) - 1))) :
    TreeAt (fun k => M k ∨ w.heap.size ≤ k) w4 p (cut k i L) ∧ Only M w w4 := by
  subst hu h4
  have hne := seek_has h.sorted (by rw [h.els]; exact hI)
  have hsub := fun q hq => del_in h.sorted hne (q := q) hq
  have hnd := del_nodup h.sorted hne h.nodup
  have hO1 : Only (fun q => q ∈ t.blocks) w w3 := (Only.of_below (S := fun k => k ∈ t.blocks) hb).trans ho (fun q _ e => hsub q e)
  have hr3 := h.root.keep hO1 h.apart
  have s1 := only_set w3 p 0 (del t k i).ptr
  have s2 := only_set (w3.setCell ⟨p, 0, none⟩ (del t k i).ptr) p 1 (.int .i64 ((t.els.length : Int) - 1))
  have s3 := s1.trans s2 (fun _ _ e => e)
  have hnew : p ∉ (del t k i).blocks := fun e => h.apart (hsub p e)
  have hels := del_els (k := k) (i := i) h.sorted
  have hlen := cut_len hI
  have hs : Sorted L := by rw [← h.els]; exact h.sorted
  refine ⟨⟨del t k i, by rw [hels, h.els], ?_, del_fits h.fits h.sorted, (del_ok h.bal).1, hnd.2, hi.keep s3 (fun q hq e => hnew (e ▸ hq)), ?_, fun q hq => Or.inl (h.blocks q (hsub q hq)), Or.inl h.self, hnew⟩, ?_⟩
  · rw [hels, h.els]; exact List.Pairwise.sublist (cut_sub k i L) hs
  · have := (hr3.set0 (del t k i).ptr).set1 ((t.els.length : Int) - 1)
    have e : ((del t k i).els.length : Int) = (t.els.length : Int) - 1 := by rw [hels, h.els]; omega
    rw [e]; exact this
  · refine (hO1.mono (T := M) (fun k _ e => h.blocks k e)).trans s3 (fun k _ e => ?_)
    subst e; exact h.self

set_option maxRecDepth 100000 in
set_option maxHeartbeats 1000000 in
theorem tout (h : TreeAt M w p L) {x : El} (hx : x ∈ L) :
    Calls Try.prog 15 #[.pointer (some ⟨p, 0, none⟩), .int .i64 x.k, .int .i64 x.i] w (TAns M w p (.tuple #[.int .i64 x.w, .int .i64 0]) (cut x.k x.i L)) := by
  obtain ⟨t, h⟩ := h
  obtain ⟨c0, c1, hf⟩ := h.root.cells
  have hlt := block_there h.root
  have hI : Is L x.k x.i := ⟨x, hx, rfl, rfl⟩
  have hI2 : Is t.els x.k x.i := by rw [h.els]; exact hI
  have hc := find_any p t 0 x.k x.i w h.lies c0 hlt
  have hne := seek_has h.sorted hI2
  have hin := h.lies.seek x.k x.i
  have hnd := (del_nodup h.sorted hne h.nodup).1
  have hmem := seek_mem hne
  obtain ⟨b, y, l, r, hs⟩ : ∃ b y l r, seek t x.k x.i = .node b y l r := by
    cases hs : seek t x.k x.i with
    | nil => exact absurd hs hne
    | node b y l r => exact ⟨b, y, l, r, rfl⟩
  obtain ⟨y1, y2, y3⟩ := seek_is hs
  have hyx : y = x := by
    have hso : Sorted L := by rw [← h.els]; exact h.sorted
    rw [h.els] at y3
    exact one_of hso y3 hx y1 y2
  subst hyx
  rw [hs] at hin hnd hmem
  simp only [topb] at hnd hmem
  rw [hs, ptr_node] at hc
  have hbp : b ≠ p := fun e => h.apart (e ▸ hmem)
  have nb := h.fits.2
  obtain ⟨-, -, b2, -⟩ := hin.1.cells
  have HB0 := Lib.hid hin.1
  have HG : Hid (Goes w t y.k y.i) := Lib.hid ⟨h.lies, h.nodup, h.fits, h.sorted, hne⟩
  have HND := Lib.hid hnd
  have HT := Lib.hid h
  have HC := Lib.hid hc
  have HII := Lib.hid hI
  have l1 : 1 ≤ t.els.length := by
    have := cut_len hI; rw [← h.els] at this; omega
  clear h hc hI hI2 hne hin hnd hmem y1 y2 y3 hs hx b2
  go_enter Try.func15, Try.ntmps15
  go_wp2_with (first
    | (go_at_call 26; go_must (refine HC.out.mono ?_); rintro e w1 ⟨rfl, hb⟩; have d0 := (hb.cell (p := ⟨p, 0, none⟩) hlt).trans c0; have HB := Lib.hid hb; clear hb)
    | (go_at_call 31; go_must (refine (without_any t _ y.k y.i (HG.out.later (Only.of_below (S := fun _ => False) HB.out))).mono ?_); rintro e w3 ⟨rfl, hi, ho⟩; obtain ⟨u, hu⟩ := (del t y.k y.i).ptr_is; rw [hu]; have hr3 := (HT.out.root.keep (Only.of_below (S := fun _ => False) HB.out) (fun e => e)).keep ho (fun e => HT.out.apart (del_in HT.out.sorted HG.out.has e)); obtain ⟨f0, f1, ff⟩ := hr3.cells; have g0 := ff 0; have g1 := ff 1; have hk := (HB0.out.keep (Only.of_below (S := fun _ => False) HB.out) (fun e => e)).keep ho HND.out; obtain ⟨-, -, b2, -⟩ := hk.cells; have HU := Lib.hid hu; have HI := Lib.hid hi; have HO := Lib.hid ho; clear hr3 ff hk hi ho hu))
  go_ret2
  have hp := cut_is HT.out HII.out HB.out HI.out HO.out HU.out rfl
  exact ⟨rfl, hp⟩
end
end Go.Proofs.Ytbfnaejfmpnkbaa
