/- The reference's class of deadlines in memory: the time, and a list of tasks, each in a block of its own. -/
import Derived.Test.YtijpiloljgpnkaaDPure
import Derived.Test.YtijpiloljgpnkaaDPtRow
namespace Go.Proofs.Ytijpiloljgpnkaa.De
open Go.ChangeShapes Go.WideShapes Go.ChangeAt Go.RowKit Go.Maps
open Go.Proofs.Ytijpiloljgpnkaa.Pt
set_option linter.unusedVariables false

/-- The cells of a task of the reference. -/
def taskCells (t : Int) (x : Tk) : Obj := .cells #[.int .i64 t, .int .i64 x.b, .int .i64 x.p, .int .i64 x.l, .int .i64 x.d, .bool x.r, .bool x.o] 38 (0, 0)

/-- A class of the reference in block q: its tasks are those of L (blocks and numbers). -/
structure RefAt (B : Nat) (w : World) (q : Nat) (L : List (Nat × Nat)) (T : Tks) (n : Int) : Prop where
  self : ∃ V, w.heap[q]? = some (.cells #[.int .i64 n, V] 31 (0, 0)) ∧ RowAt w B V (L.map (·.1)) ∧ (∀ g, V.ownBlock = some g → g ≠ q ∧ ∀ x ∈ L, g ≠ x.1)
  task : ∀ x ∈ L, w.heap[x.1]? = some (taskCells x.2 (T x.2))
  from' : B ≤ q ∧ ∀ x ∈ L, B ≤ x.1
  apart : ∀ x ∈ L, x.1 ≠ q
  blocks : (L.map (·.1)).Nodup
  nums : (L.map (·.2)).Nodup

/-- The list has the tasks that are there. -/
structure Same (L : List (Nat × Nat)) (T : Tks) : Prop where
  num : ∀ x ∈ L, 1 ≤ x.2 ∧ x.2 ≤ 16
  all : ∀ t, t < 17 → (T t).p ≠ 0 → ∃ b, (b, t) ∈ L
  there : ∀ x ∈ L, (T x.2).p ≠ 0

section
variable {B : Nat} {w w' : World} {q : Nat} {L : List (Nat × Nat)} {T : Tks} {n : Int}
theorem RefAt.keep {S : Nat → Prop} (h : RefAt B w q L T n) (hO : Only S w w') (hS : ∀ k, B ≤ k → k < w.heap.size → ¬ S k) : RefAt B w' q L T n := by
  obtain ⟨⟨V, h1, h3, h4⟩, h5, h6, h7, h8, h9⟩ := h
  refine ⟨⟨V, (hO.block q (block_there h1) (hS q h6.1 (block_there h1))).trans h1, h3.keep hO (fun g hg => hS g (h3.block hg).1 (h3.block hg).2), h4⟩, fun x hx => ?_, h6, h7, h8, h9⟩
  have := h5 x hx
  exact (hO.block x.1 (block_there this) (hS x.1 (h6.2 x hx) (block_there this))).trans this
theorem RefAt.later (h : RefAt B w q L T n) (hO : Only (fun _ => False) w w') : RefAt B w' q L T n := h.keep hO (fun _ _ _ e => e)
theorem RefAt.lt (h : RefAt B w q L T n) : q < w.heap.size := by obtain ⟨⟨V, h1, -⟩, -⟩ := h; exact block_there h1
theorem RefAt.frozen (h : RefAt B w q L T n) (j : Nat) : w.frozen? ⟨q, j, none⟩ = false := by obtain ⟨⟨V, h1, -⟩, -⟩ := h; exact frozen_at h1 j
theorem RefAt.slice (h : RefAt B w q L T n) : ∃ V, w.cell? ⟨q, 1, none⟩ = some V ∧ RowAt w B V (L.map (·.1)) ∧ (∀ g, V.ownBlock = some g → g ≠ q ∧ ∀ x ∈ L, g ≠ x.1) := by
  obtain ⟨⟨V, h1, h3, h4⟩, -⟩ := h
  exact ⟨V, by rw [cell_at h1]; rfl, h3, h4⟩
theorem RefAt.now (h : RefAt B w q L T n) : w.cell? ⟨q, 0, none⟩ = some (.int .i64 n) := by obtain ⟨⟨V, h1, -⟩, -⟩ := h; rw [cell_at h1]; rfl
theorem RefAt.low (h : RefAt B w q L T n) : B ≤ w.heap.size := by have := h.lt; have := h.from'.1; omega
theorem RefAt.congr {T' : Tks} (h : RefAt B w q L T n) (hT : ∀ x ∈ L, T' x.2 = T x.2) : RefAt B w q L T' n := ⟨h.self, fun x hx => by rw [hT x hx]; exact h.task x hx, h.from', h.apart, h.blocks, h.nums⟩
section
variable {b t : Nat}
theorem RefAt.tn (h : RefAt B w q L T n) (hx : (b, t) ∈ L) : w.cell? ⟨b, 0, none⟩ = some (.int .i64 t) := by rw [cell_at (h.task _ hx)]; rfl
theorem RefAt.tl (h : RefAt B w q L T n) (hx : (b, t) ∈ L) : w.cell? ⟨b, 3, none⟩ = some (.int .i64 (T t).l) := by rw [cell_at (h.task _ hx)]; rfl
theorem RefAt.td (h : RefAt B w q L T n) (hx : (b, t) ∈ L) : w.cell? ⟨b, 4, none⟩ = some (.int .i64 (T t).d) := by rw [cell_at (h.task _ hx)]; rfl
theorem RefAt.tr (h : RefAt B w q L T n) (hx : (b, t) ∈ L) : w.cell? ⟨b, 5, none⟩ = some (.bool (T t).r) := by rw [cell_at (h.task _ hx)]; rfl
theorem RefAt.to (h : RefAt B w q L T n) (hx : (b, t) ∈ L) : w.cell? ⟨b, 6, none⟩ = some (.bool (T t).o) := by rw [cell_at (h.task _ hx)]; rfl
theorem RefAt.tfrozen (h : RefAt B w q L T n) (hx : (b, t) ∈ L) (j : Nat) : w.frozen? ⟨b, j, none⟩ = false := frozen_at (h.task _ hx) j
theorem RefAt.tlt (h : RefAt B w q L T n) (hx : (b, t) ∈ L) : b < w.heap.size := block_there (h.task _ hx)
end
theorem RefAt.same_num (h : RefAt B w q L T n) {b b' t : Nat} (h1 : (b, t) ∈ L) (h2 : (b', t) ∈ L) : b = b' := by
  have hn := h.nums
  clear h
  induction L with
  | nil => cases h1
  | cons x xs ih =>
    rw [List.map_cons, List.nodup_cons] at hn
    rcases List.mem_cons.1 h1 with e1 | e1
    · rcases List.mem_cons.1 h2 with e2 | e2
      · rw [← e1] at e2; exact (Prod.mk.inj e2).1.symm
      · exact absurd (List.mem_map.2 ⟨_, e2, by rw [← e1]⟩) hn.1
    · rcases List.mem_cons.1 h2 with e2 | e2
      · exact absurd (List.mem_map.2 ⟨_, e1, by rw [← e2]⟩) hn.1
      · exact ih e1 e2 hn.2
/-- The number of a block's task. -/
theorem RefAt.numbers (h : RefAt B w q L T n) : ∃ f : Nat → Nat, ∀ x ∈ L, f x.1 = x.2 := by
  have hn := h.blocks
  clear h
  induction L with
  | nil => exact ⟨fun _ => 0, fun x hx => by cases hx⟩
  | cons x xs ih =>
    rw [List.map_cons, List.nodup_cons] at hn
    obtain ⟨f, hf⟩ := ih hn.2
    refine ⟨fun b => if b = x.1 then x.2 else f b, fun y hy => ?_⟩
    rcases List.mem_cons.1 hy with e | e
    · subst e; exact if_pos rfl
    · have : y.1 ≠ x.1 := fun e' => hn.1 (List.mem_map.2 ⟨y, e, e'⟩)
      show (if y.1 = x.1 then x.2 else f y.1) = y.2
      rw [if_neg this]; exact hf y e

theorem RefAt.len16 (h : RefAt B w q L T n) (hs : Same L T) : L.length ≤ 16 := by
  have h1 := h.nums
  have h2 : (L.map (·.2)).length ≤ (List.range' 1 16).length := by
    apply List.Nodup.length_le_of_subset h1
    intro x hx
    obtain ⟨y, hy, rfl⟩ := List.mem_map.1 hx
    have := hs.num y hy
    rw [List.mem_range'_1]; omega
  simpa using h2
end

section
variable {B : Nat} {w : World} {q : Nat} {L : List (Nat × Nat)} {T : Tks} {m0 : Int}

theorem mem_getD {L : List (Nat × Nat)} {j : Nat} (h : j < L.length) : ∃ t, ((L.map (·.1)).getD j 0, t) ∈ L ∧ L[j]? = some ((L.map (·.1)).getD j 0, t) := by
  refine ⟨(L[j]).2, ?_, ?_⟩
  · have : (L.map (·.1)).getD j 0 = (L[j]).1 := by simp [List.getD, h]
    rw [this]; exact List.getElem_mem h
  · simp [List.getD, h]

theorem row_at {w : World} {B n c : Nat} {a : Option Addr} {S : List Nat} (h : RowAt w B (.slice a n c) S) {j : Nat} (hj : j < S.length) : ∃ g, a = some ⟨g, 0, none⟩ ∧ B ≤ g ∧ g < w.heap.size ∧ w.cell? ⟨g, j, none⟩ = some (pt (S.getD j 0)) := by
  rcases h.cases with ⟨h1, h2⟩ | ⟨g, cap, h1, hb, -, -, ⟨cur, h3⟩, h2⟩
  · subst h2; cases hj
  · cases h1; exact ⟨g, rfl, hb, block_there h3, h2 j hj⟩

/-- Find: the pointer to a task, or nil. -/
theorem findr_any (h : RefAt B w q L T m0) (hl : L.length ≤ 16) (t : Int) :
    Calls Try.prog 12 #[.pointer (some ⟨q, 0, none⟩), .int .i64 t] w fun e w' => ((∃ b n : Nat, e = .returned (pt b) ∧ (b, n) ∈ L ∧ (n : Int) = t) ∨ (e = .returned (.pointer none) ∧ ∀ x ∈ L, (x.2 : Int) ≠ t)) ∧ w = w' := by
  obtain ⟨V, c0, hr, -⟩ := h.slice
  obtain ⟨n, hn⟩ : ∃ n, (L.map (·.1)).length = n := ⟨_, rfl⟩
  obtain ⟨a, c, rfl, hc1, hc2, hc3⟩ := hr.shape hn
  have hln : L.length = n := by rw [← hn]; simp
  have H := Lib.hid h
  have HR := Lib.hid hr
  have HLN := Lib.hid hln
  have hn16 : n ≤ 16 := by omega
  clear h hr hn hln hl
  go_enter Try.func12, Try.ntmps12
  go_wp2_with fail
  go_loopw [12] (fun i wr => ∃ j : Nat, j ≤ n ∧ i = .int .i64 j ∧ (∀ k, k < j → ∀ x, L[k]? = some x → (x.2 : Int) ≠ t) ∧ wr = w) (fun i _ => n - (intOf i).toNat)
  case atStart => exact ⟨0, by omega, rfl, fun k hk => absurd hk (Nat.not_lt_zero _), rfl⟩
  case round =>
    obtain ⟨j, hj, rfl, hno, rfl⟩ := hrel
    have HN := Lib.hid hno
    clear hno
    by_cases hlt : j < n
    · obtain ⟨m, hm, hm2⟩ := mem_getD (L := L) (j := j) (by rw [HLN.out]; exact hlt)
      obtain ⟨g, rfl, -, -, d0⟩ := row_at HR.out (j := j) (by rw [List.length_map, HLN.out]; exact hlt)
      have d1 := H.out.tn hm
      generalize (L.map (·.1)).getD j 0 = b at *
      have HM := Lib.hid hm
      have HM2 := Lib.hid hm2
      unfold pt at *
      have g1 : (j : Int) < n := by omega
      have g2 : (0 : Int) ≤ j := by omega
      clear hm hm2
      by_cases e : (m : Int) = t
      · have e1 : ((m : Int) == t) = true := by simp [e]
        have HE := Lib.hid e
        clear e
        go_wp2_with fail
        go_ret
        exact ⟨Or.inl ⟨b, m, rfl, HM.out, HE.out⟩, rfl⟩
      · have e1 : ((m : Int) == t) = false := by simp [e]
        have HE := Lib.hid e
        clear e
        go_wp2_with fail
        go_roundw
        case rel =>
          refine ⟨j + 1, by omega, by go_num, fun k hk x hx => ?_, trivial⟩
          by_cases ek : k = j
          · subst ek
            rw [HM2.out] at hx
            cases hx
            exact HE.out
          · exact HN.out k (by omega) x hx
        case measure => simp [intOf]; omega
    · obtain rfl : j = n := by omega
      go_wp2_with fail
      go_ret
      exact ⟨Or.inr ⟨rfl, fun x hx => by
        obtain ⟨k, hk, hk2⟩ := List.getElem_of_mem hx
        exact HN.out k (by rw [← HLN.out]; exact hk) x (by rw [List.getElem?_eq_getElem hk, hk2])⟩, rfl⟩
end


section
variable {B : Nat} {w w' : World} {q : Nat} {L : List (Nat × Nat)} {T : Tks} {n : Int} {b t : Nat}
theorem RefAt.block_of (h : RefAt B w q L T n) (hx : (b, t) ∈ L) {y : Nat × Nat} (hy : y ∈ L) (e : y.1 = b) : y.2 = t := by
  obtain ⟨f, hf⟩ := h.numbers
  have h1 := hf _ hx
  have h2 := hf _ hy
  simp only at h1
  rw [e, h1] at h2; exact h2.symm
theorem RefAt.num_other (h : RefAt B w q L T n) (hx : (b, t) ∈ L) {y : Nat × Nat} (hy : y ∈ L) (e : y.1 ≠ b) : y.2 ≠ t := fun e2 => e (h.same_num (t := t) (by rw [← e2]; exact hy) hx)
/-- One task has turned. -/
theorem RefAt.turn (h : RefAt B w q L T n) (hx : (b, t) ∈ L) {x : Tk} (hO : Only (fun k => k = b) w w') (hb : w'.heap[b]? = some (taskCells t x)) : RefAt B w' q L (upd T t x) n := by
  have h' := h
  obtain ⟨⟨V, h1, h3, h4⟩, h5, h6, h7, h8, h9⟩ := h
  refine ⟨⟨V, (hO.block q (block_there h1) (fun e => h7 _ hx e.symm)).trans h1, h3.keep hO (fun g hg e => (h4 g hg).2 _ hx e), h4⟩, fun y hy => ?_, h6, h7, h8, h9⟩
  by_cases e : y.1 = b
  · have e2 := h'.block_of hx hy e
    rw [e, e2, upd_same]; exact hb
  · rw [upd_other _ _ (h'.num_other hx hy e)]
    exact (hO.block y.1 (block_there (h5 y hy)) e).trans (h5 y hy)
/-- The time is set. -/
theorem RefAt.set_now (h : RefAt B w q L T n) (m : Int) : RefAt B (w.setCell ⟨q, 0, none⟩ (.int .i64 m)) q L T m := by
  have hO : Only (fun k => k = q) w (w.setCell ⟨q, 0, none⟩ (.int .i64 m)) := (Only.refl (fun k => k = q) w).setCell (p := ⟨q, 0, none⟩) rfl _
  obtain ⟨⟨V, h1, h3, h4⟩, h5, h6, h7, h8, h9⟩ := h
  exact ⟨⟨V, heap_setCell_same w q 0 _ _ (.int .i64 m) h1, h3.keep hO (fun g hg e => (h4 g hg).1 e), h4⟩, fun y hy => (hO.block y.1 (block_there (h5 y hy)) (h7 y hy)).trans (h5 y hy), h6, h7, h8, h9⟩
end
end Go.Proofs.Ytijpiloljgpnkaa.De
