/- The reference's class of fair shares in memory: a list of tasks, each in a block of its own, and groups. -/
import Derived.Test.YtkjcaainbomemaaFNextp
import Derived.Test.YtkjcaainbomemaaPtRow
import Derived.Test.YtkjcaainbomemaaInts
import Derived.Test.YtkjcaainbomemaaVtCost
namespace Go.Proofs.Ytkjcaainbomemaa.Fr
open Go.ChangeShapes Go.WideShapes Go.ChangeAt Go.RowKit Go.Maps
open Go.Proofs.Ytkjcaainbomemaa.Vt Go.Proofs.Ytkjcaainbomemaa.Pt
set_option linter.unusedVariables false

/-- The cells of a task of the reference. -/
def taskCells (t wt g v : Int) (r : Bool) : Obj := .cells #[.int .i64 t, .int .i64 wt, .int .i64 g, .int .i64 v, .bool r] 41 (0, 0)

/-- What the cells of a class hold: the tasks' slice, and the groups. -/
structure RCells (cs : Array Value) (V : Value) (G : Grs) (GW : Nat → Int) : Prop where
  size : cs.size = 28
  v : cs[0]? = some V
  is : ∀ g, g < 9 → cs[1 + g * 3]? = some (.bool (decide ((G g).c ≠ 0)))
  gw : ∀ g, g < 9 → cs[1 + g * 3 + 1]? = some (.int .i64 (GW g))
  gv : ∀ g, g < 9 → cs[1 + g * 3 + 2]? = some (.int .i64 (G g).v)

/-- A class of the reference in block q: its tasks are those of L (blocks and numbers). -/
structure RefAt (B : Nat) (w : World) (q : Nat) (L : List (Nat × Nat)) (T : Tks) (G : Grs) (W GW : Nat → Int) : Prop where
  self : ∃ cs V, w.heap[q]? = some (.cells cs 33 (0, 0)) ∧ RCells cs V G GW ∧ RowAt w B V (L.map (·.1)) ∧ (∀ g, V.ownBlock = some g → g ≠ q ∧ ∀ x ∈ L, g ≠ x.1)
  task : ∀ x ∈ L, w.heap[x.1]? = some (taskCells x.2 (W x.2) (T x.2).g (T x.2).v (T x.2).r)
  from' : B ≤ q ∧ ∀ x ∈ L, B ≤ x.1
  apart : ∀ x ∈ L, x.1 ≠ q
  blocks : (L.map (·.1)).Nodup
  nums : (L.map (·.2)).Nodup

/-- The list has the tasks that are there. -/
structure Same (L : List (Nat × Nat)) (T : Tks) (G : Grs) (W GW : Nat → Int) : Prop where
  num : ∀ x ∈ L, 1 ≤ x.2 ∧ x.2 ≤ 16
  all : ∀ t, t < 17 → (T t).c ≠ 0 → ∃ b, (b, t) ∈ L
  wt : ∀ x ∈ L, isW (W x.2) = true ∧ (T x.2).c = costOf (W x.2)
  gw : ∀ g, g < 9 → (G g).c ≠ 0 → isW (GW g) = true ∧ (G g).c = costOf (GW g)
  g0 : (G 0).c = 0
  tg : ∀ x ∈ L, (T x.2).g = 0 ∨ (G (T x.2).g.toNat).c ≠ 0

section
variable {B : Nat} {w w' : World} {q : Nat} {L : List (Nat × Nat)} {T : Tks} {G : Grs} {W GW : Nat → Int}
theorem RefAt.keep {S : Nat → Prop} (h : RefAt B w q L T G W GW) (hO : Only S w w') (hS : ∀ k, B ≤ k → k < w.heap.size → ¬ S k) : RefAt B w' q L T G W GW := by
  obtain ⟨⟨cs, V, h1, h2, h3, h4⟩, h5, h6, h7, h8, h9⟩ := h
  refine ⟨⟨cs, V, (hO.block q (block_there h1) (hS q h6.1 (block_there h1))).trans h1, h2, h3.keep hO (fun g hg => hS g (h3.block hg).1 (h3.block hg).2), h4⟩, fun x hx => ?_, h6, h7, h8, h9⟩
  have := h5 x hx
  exact (hO.block x.1 (block_there this) (hS x.1 (h6.2 x hx) (block_there this))).trans this
theorem RefAt.later (h : RefAt B w q L T G W GW) (hO : Only (fun _ => False) w w') : RefAt B w' q L T G W GW := h.keep hO (fun _ _ _ e => e)
theorem RefAt.lt (h : RefAt B w q L T G W GW) : q < w.heap.size := by obtain ⟨⟨cs, V, h1, -⟩, -⟩ := h; exact block_there h1
theorem RefAt.frozen (h : RefAt B w q L T G W GW) (j : Nat) : w.frozen? ⟨q, j, none⟩ = false := by obtain ⟨⟨cs, V, h1, -⟩, -⟩ := h; exact frozen_at h1 j
theorem RefAt.slice (h : RefAt B w q L T G W GW) : ∃ V, w.cell? ⟨q, 0, none⟩ = some V ∧ RowAt w B V (L.map (·.1)) ∧ (∀ g, V.ownBlock = some g → g ≠ q ∧ ∀ x ∈ L, g ≠ x.1) := by
  obtain ⟨⟨cs, V, h1, h2, h3, h4⟩, -⟩ := h
  exact ⟨V, by rw [cell_at h1]; exact h2.v, h3, h4⟩
theorem RefAt.is (h : RefAt B w q L T G W GW) (g : Nat) (hg : g < 9) : w.cell? ⟨q, 1 + g * 3, none⟩ = some (.bool (decide ((G g).c ≠ 0))) := by obtain ⟨⟨cs, V, h1, h2, -⟩, -⟩ := h; rw [cell_at h1]; exact h2.is g hg
theorem RefAt.gw (h : RefAt B w q L T G W GW) (g : Nat) (hg : g < 9) : w.cell? ⟨q, 1 + g * 3 + 1, none⟩ = some (.int .i64 (GW g)) := by obtain ⟨⟨cs, V, h1, h2, -⟩, -⟩ := h; rw [cell_at h1]; exact h2.gw g hg
theorem RefAt.gv (h : RefAt B w q L T G W GW) (g : Nat) (hg : g < 9) : w.cell? ⟨q, 1 + g * 3 + 2, none⟩ = some (.int .i64 (G g).v) := by obtain ⟨⟨cs, V, h1, h2, -⟩, -⟩ := h; rw [cell_at h1]; exact h2.gv g hg
section
variable {b t : Nat}
theorem RefAt.tn (h : RefAt B w q L T G W GW) (hx : (b, t) ∈ L) : w.cell? ⟨b, 0, none⟩ = some (.int .i64 t) := by rw [cell_at (h.task _ hx)]; rfl
theorem RefAt.tw (h : RefAt B w q L T G W GW) (hx : (b, t) ∈ L) : w.cell? ⟨b, 1, none⟩ = some (.int .i64 (W t)) := by rw [cell_at (h.task _ hx)]; rfl
theorem RefAt.tg (h : RefAt B w q L T G W GW) (hx : (b, t) ∈ L) : w.cell? ⟨b, 2, none⟩ = some (.int .i64 (T t).g) := by rw [cell_at (h.task _ hx)]; rfl
theorem RefAt.tv (h : RefAt B w q L T G W GW) (hx : (b, t) ∈ L) : w.cell? ⟨b, 3, none⟩ = some (.int .i64 (T t).v) := by rw [cell_at (h.task _ hx)]; rfl
theorem RefAt.tr (h : RefAt B w q L T G W GW) (hx : (b, t) ∈ L) : w.cell? ⟨b, 4, none⟩ = some (.bool (T t).r) := by rw [cell_at (h.task _ hx)]; rfl
theorem RefAt.tfrozen (h : RefAt B w q L T G W GW) (hx : (b, t) ∈ L) (j : Nat) : w.frozen? ⟨b, j, none⟩ = false := frozen_at (h.task _ hx) j
theorem RefAt.tlt (h : RefAt B w q L T G W GW) (hx : (b, t) ∈ L) : b < w.heap.size := block_there (h.task _ hx)
end
theorem RefAt.same_num (h : RefAt B w q L T G W GW) {b b' t : Nat} (h1 : (b, t) ∈ L) (h2 : (b', t) ∈ L) : b = b' := by
  have hn := h.nums
  clear h
  induction L with
  | nil => cases h1
  | cons x xs ih =>
    rw [List.map_cons, List.nodup_cons] at hn
    rcases List.mem_cons.1 h1 with e1 | e1
    · rcases List.mem_cons.1 h2 with e2 | e2
      · rw [← e1] at e2; exact (Prod.mk.inj e2).1.symm
      · exact absurd (List.mem_map.2 ⟨_, e2, by rw [← e1]⟩) hn.1
    · rcases List.mem_cons.1 h2 with e2 | e2
      · exact absurd (List.mem_map.2 ⟨_, e1, by rw [← e2]⟩) hn.1
      · exact ih e1 e2 hn.2
/-- The number of a block's task. -/
theorem RefAt.numbers (h : RefAt B w q L T G W GW) : ∃ f : Nat → Nat, ∀ x ∈ L, f x.1 = x.2 := by
  have hn := h.blocks
  clear h
  induction L with
  | nil => exact ⟨fun _ => 0, fun x hx => by cases hx⟩
  | cons x xs ih =>
    rw [List.map_cons, List.nodup_cons] at hn
    obtain ⟨f, hf⟩ := ih hn.2
    refine ⟨fun b => if b = x.1 then x.2 else f b, fun y hy => ?_⟩
    rcases List.mem_cons.1 hy with e | e
    · subst e; exact if_pos rfl
    · have : y.1 ≠ x.1 := fun e' => hn.1 (List.mem_map.2 ⟨y, e, e'⟩)
      show (if y.1 = x.1 then x.2 else f y.1) = y.2
      rw [if_neg this]; exact hf y e

theorem RefAt.len16 (h : RefAt B w q L T G W GW) (hs : Same L T G W GW) : L.length ≤ 16 := by
  have h1 := h.nums
  have h2 : (L.map (·.2)).length ≤ (List.range' 1 16).length := by
    apply List.Nodup.length_le_of_subset h1
    intro x hx
    obtain ⟨y, hy, rfl⟩ := List.mem_map.1 hx
    have := hs.num y hy
    rw [List.mem_range'_1]; omega
  simpa using h2
end

section
variable {B : Nat} {w : World} {q : Nat} {L : List (Nat × Nat)} {T : Tks} {G : Grs} {W GW : Nat → Int}

theorem mem_getD {L : List (Nat × Nat)} {j : Nat} (h : j < L.length) : ∃ t, ((L.map (·.1)).getD j 0, t) ∈ L ∧ L[j]? = some ((L.map (·.1)).getD j 0, t) := by
  refine ⟨(L[j]).2, ?_, ?_⟩
  · have : (L.map (·.1)).getD j 0 = (L[j]).1 := by simp [List.getD, h]
    rw [this]; exact List.getElem_mem h
  · simp [List.getD, h]

theorem row_at {w : World} {B n c : Nat} {a : Option Addr} {S : List Nat} (h : RowAt w B (.slice a n c) S) {j : Nat} (hj : j < S.length) : ∃ g, a = some ⟨g, 0, none⟩ ∧ B ≤ g ∧ g < w.heap.size ∧ w.cell? ⟨g, j, none⟩ = some (pt (S.getD j 0)) := by
  rcases h.cases with ⟨h1, h2⟩ | ⟨g, cap, h1, hb, -, -, ⟨cur, h3⟩, h2⟩
  · subst h2; cases hj
  · cases h1; exact ⟨g, rfl, hb, block_there h3, h2 j hj⟩

/-- Find: the pointer to a task, or nil. -/
theorem findr_any (h : RefAt B w q L T G W GW) (hl : L.length ≤ 16) (t : Int) :
    Calls Try.prog 13 #[.pointer (some ⟨q, 0, none⟩), .int .i64 t] w fun e w' => ((∃ b n : Nat, e = .returned (pt b) ∧ (b, n) ∈ L ∧ (n : Int) = t) ∨ (e = .returned (.pointer none) ∧ ∀ x ∈ L, (x.2 : Int) ≠ t)) ∧ w = w' := by
  obtain ⟨V, c0, hr, -⟩ := h.slice
  obtain ⟨n, hn⟩ : ∃ n, (L.map (·.1)).length = n := ⟨_, rfl⟩
  obtain ⟨a, c, rfl, hc1, hc2, hc3⟩ := hr.shape hn
  have hln : L.length = n := by rw [← hn]; simp
  have H := Lib.hid h
  have HR := Lib.hid hr
  have HLN := Lib.hid hln
  have hn16 : n ≤ 16 := by omega
  clear h hr hn hln hl
  go_enter Try.func13, Try.ntmps13
  go_wp2_with fail
  go_loopw [12] (fun i wr => ∃ j : Nat, j ≤ n ∧ i = .int .i64 j ∧ (∀ k, k < j → ∀ x, L[k]? = some x → (x.2 : Int) ≠ t) ∧ wr = w) (fun i _ => n - (intOf i).toNat)
  case atStart => exact ⟨0, by omega, rfl, fun k hk => absurd hk (Nat.not_lt_zero _), rfl⟩
  case round =>
    obtain ⟨j, hj, rfl, hno, rfl⟩ := hrel
    have HN := Lib.hid hno
    clear hno
    by_cases hlt : j < n
    · obtain ⟨m, hm, hm2⟩ := mem_getD (L := L) (j := j) (by rw [HLN.out]; exact hlt)
      obtain ⟨g, rfl, -, -, d0⟩ := row_at HR.out (j := j) (by rw [List.length_map, HLN.out]; exact hlt)
      have d1 := H.out.tn hm
      generalize (L.map (·.1)).getD j 0 = b at *
      have HM := Lib.hid hm
      have HM2 := Lib.hid hm2
      unfold pt at *
      have g1 : (j : Int) < n := by omega
      have g2 : (0 : Int) ≤ j := by omega
      clear hm hm2
      by_cases e : (m : Int) = t
      · have e1 : ((m : Int) == t) = true := by simp [e]
        have HE := Lib.hid e
        clear e
        go_wp2_with fail
        go_ret
        exact ⟨Or.inl ⟨b, m, rfl, HM.out, HE.out⟩, rfl⟩
      · have e1 : ((m : Int) == t) = false := by simp [e]
        have HE := Lib.hid e
        clear e
        go_wp2_with fail
        go_roundw
        case rel =>
          refine ⟨j + 1, by omega, by go_num, fun k hk x hx => ?_, trivial⟩
          by_cases ek : k = j
          · subst ek
            rw [HM2.out] at hx
            cases hx
            exact HE.out
          · exact HN.out k (by omega) x hx
        case measure => simp [intOf]; omega
    · obtain rfl : j = n := by omega
      go_wp2_with fail
      go_ret
      exact ⟨Or.inr ⟨rfl, fun x hx => by
        obtain ⟨k, hk, hk2⟩ := List.getElem_of_mem hx
        exact HN.out k (by rw [← HLN.out]; exact hk) x (by rw [List.getElem?_eq_getElem hk, hk2])⟩, rfl⟩
end
end Go.Proofs.Ytkjcaainbomemaa.Fr
