/- Package spread's Run in memory: processors, tasks by their numbers, ticks and waits. (Written by tools/mksp.py.) -/
import Derived.Test.YtddfdnhlghmapaaMem
import Derived.Test.YtddfdnhlghmapaaArgs
import Derived.IntWalk
import Derived.Laws.Rows
namespace Go.Proofs.Ytddfdnhlghmapaa.Sp
open Go.ChangeShapes Go.WideShapes Go.ChangeAt Go.RowKit Go.Maps
set_option linter.unusedVariables false

/-- A task: c: its own class (0: there is none), v: the value in it, bc: the class of its boost (0: none), bv: the value in it, r: is it ready?, m: where it may run, s: since when it waits, t: its virtual time, rb: budget, rp: period, rl: what is left, rd: when it is due, ro: is it out?. -/
structure Tk where
  c : Int
  v : Int
  bc : Int
  bv : Int
  r : Bool
  m : Nat
  s : Int
  t : Int
  rb : Int
  rp : Int
  rl : Int
  rd : Int
  ro : Bool

abbrev Tks := Nat → Tk

/-- A run: processors, who runs where, tasks, ticks, waits. -/
structure St where
  n : Nat
  on : Nat → Nat
  T : Tks
  k : Int
  g : Int

/-- The cells of a run. -/
structure Cells (cs : Array Value) (S : St) : Prop where
  size : 228 ≤ cs.size
  hn : cs[0]? = some (.int .i64 (S.n : Nat))
  on : ∀ i, i < 4 → cs[1 + i]? = some (.int .i64 (S.on i : Nat))
  qc : ∀ t, t < 17 → cs[5 + t * 13]? = some (.int .i64 (S.T t).c)
  qv : ∀ t, t < 17 → cs[5 + t * 13 + 1]? = some (.int .i64 (S.T t).v)
  qbc : ∀ t, t < 17 → cs[5 + t * 13 + 2]? = some (.int .i64 (S.T t).bc)
  qbv : ∀ t, t < 17 → cs[5 + t * 13 + 3]? = some (.int .i64 (S.T t).bv)
  qr : ∀ t, t < 17 → cs[5 + t * 13 + 4]? = some (.bool (S.T t).r)
  qm : ∀ t, t < 17 → cs[5 + t * 13 + 5]? = some (.int .i64 ((S.T t).m : Nat))
  qs : ∀ t, t < 17 → cs[5 + t * 13 + 6]? = some (.int .i64 (S.T t).s)
  qt : ∀ t, t < 17 → cs[5 + t * 13 + 7]? = some (.int .i64 (S.T t).t)
  qrb : ∀ t, t < 17 → cs[5 + t * 13 + 8]? = some (.int .i64 (S.T t).rb)
  qrp : ∀ t, t < 17 → cs[5 + t * 13 + 9]? = some (.int .i64 (S.T t).rp)
  qrl : ∀ t, t < 17 → cs[5 + t * 13 + 10]? = some (.int .i64 (S.T t).rl)
  qrd : ∀ t, t < 17 → cs[5 + t * 13 + 11]? = some (.int .i64 (S.T t).rd)
  qro : ∀ t, t < 17 → cs[5 + t * 13 + 12]? = some (.bool (S.T t).ro)
  hk : cs[226]? = some (.int .i64 S.k)
  hg : cs[227]? = some (.int .i64 S.g)

/-- A run in block p. -/
def RunAt (w : World) (p : Nat) (S : St) : Prop := ∃ cs, w.heap[p]? = some (.cells cs 99 (0, 0)) ∧ Cells cs S

section
variable {w w' : World} {p : Nat} {S : St}
theorem RunAt.keep {R : Nat → Prop} (h : RunAt w p S) (hO : Only R w w') (hS : ¬ R p) : RunAt w' p S := by
  obtain ⟨cs, h1, h2⟩ := h
  exact ⟨cs, by rw [hO.block p (block_there h1) hS]; exact h1, h2⟩
theorem RunAt.later (h : RunAt w p S) (hO : Only (fun _ => False) w w') : RunAt w' p S := h.keep hO id
theorem RunAt.lt (h : RunAt w p S) : p < w.heap.size := by obtain ⟨cs, h1, -⟩ := h; exact block_there h1
theorem RunAt.frozen (h : RunAt w p S) (j : Nat) : w.frozen? ⟨p, j, none⟩ = false := by obtain ⟨cs, h1, -⟩ := h; exact frozen_at h1 j
theorem RunAt.hn (h : RunAt w p S) : w.cell? ⟨p, 0, none⟩ = some (.int .i64 (S.n : Nat)) := by obtain ⟨cs, h1, h2⟩ := h; rw [cell_at h1]; exact h2.hn
theorem RunAt.on (h : RunAt w p S) (i : Nat) (hi : i < 4) : w.cell? ⟨p, 1 + i, none⟩ = some (.int .i64 (S.on i : Nat)) := by obtain ⟨cs, h1, h2⟩ := h; rw [cell_at h1]; exact h2.on i hi
theorem RunAt.hk (h : RunAt w p S) : w.cell? ⟨p, 226, none⟩ = some (.int .i64 S.k) := by obtain ⟨cs, h1, h2⟩ := h; rw [cell_at h1]; exact h2.hk
theorem RunAt.hg (h : RunAt w p S) : w.cell? ⟨p, 227, none⟩ = some (.int .i64 S.g) := by obtain ⟨cs, h1, h2⟩ := h; rw [cell_at h1]; exact h2.hg
theorem RunAt.qc (h : RunAt w p S) (t : Nat) (ht : t < 17) : w.cell? ⟨p, 5 + t * 13, none⟩ = some (.int .i64 (S.T t).c) := by obtain ⟨cs, h1, h2⟩ := h; rw [cell_at h1]; exact h2.qc t ht
theorem RunAt.qv (h : RunAt w p S) (t : Nat) (ht : t < 17) : w.cell? ⟨p, 5 + t * 13 + 1, none⟩ = some (.int .i64 (S.T t).v) := by obtain ⟨cs, h1, h2⟩ := h; rw [cell_at h1]; exact h2.qv t ht
theorem RunAt.qbc (h : RunAt w p S) (t : Nat) (ht : t < 17) : w.cell? ⟨p, 5 + t * 13 + 2, none⟩ = some (.int .i64 (S.T t).bc) := by obtain ⟨cs, h1, h2⟩ := h; rw [cell_at h1]; exact h2.qbc t ht
theorem RunAt.qbv (h : RunAt w p S) (t : Nat) (ht : t < 17) : w.cell? ⟨p, 5 + t * 13 + 3, none⟩ = some (.int .i64 (S.T t).bv) := by obtain ⟨cs, h1, h2⟩ := h; rw [cell_at h1]; exact h2.qbv t ht
theorem RunAt.qr (h : RunAt w p S) (t : Nat) (ht : t < 17) : w.cell? ⟨p, 5 + t * 13 + 4, none⟩ = some (.bool (S.T t).r) := by obtain ⟨cs, h1, h2⟩ := h; rw [cell_at h1]; exact h2.qr t ht
theorem RunAt.qm (h : RunAt w p S) (t : Nat) (ht : t < 17) : w.cell? ⟨p, 5 + t * 13 + 5, none⟩ = some (.int .i64 ((S.T t).m : Nat)) := by obtain ⟨cs, h1, h2⟩ := h; rw [cell_at h1]; exact h2.qm t ht
theorem RunAt.qs (h : RunAt w p S) (t : Nat) (ht : t < 17) : w.cell? ⟨p, 5 + t * 13 + 6, none⟩ = some (.int .i64 (S.T t).s) := by obtain ⟨cs, h1, h2⟩ := h; rw [cell_at h1]; exact h2.qs t ht
theorem RunAt.qt (h : RunAt w p S) (t : Nat) (ht : t < 17) : w.cell? ⟨p, 5 + t * 13 + 7, none⟩ = some (.int .i64 (S.T t).t) := by obtain ⟨cs, h1, h2⟩ := h; rw [cell_at h1]; exact h2.qt t ht
theorem RunAt.qrb (h : RunAt w p S) (t : Nat) (ht : t < 17) : w.cell? ⟨p, 5 + t * 13 + 8, none⟩ = some (.int .i64 (S.T t).rb) := by obtain ⟨cs, h1, h2⟩ := h; rw [cell_at h1]; exact h2.qrb t ht
theorem RunAt.qrp (h : RunAt w p S) (t : Nat) (ht : t < 17) : w.cell? ⟨p, 5 + t * 13 + 9, none⟩ = some (.int .i64 (S.T t).rp) := by obtain ⟨cs, h1, h2⟩ := h; rw [cell_at h1]; exact h2.qrp t ht
theorem RunAt.qrl (h : RunAt w p S) (t : Nat) (ht : t < 17) : w.cell? ⟨p, 5 + t * 13 + 10, none⟩ = some (.int .i64 (S.T t).rl) := by obtain ⟨cs, h1, h2⟩ := h; rw [cell_at h1]; exact h2.qrl t ht
theorem RunAt.qrd (h : RunAt w p S) (t : Nat) (ht : t < 17) : w.cell? ⟨p, 5 + t * 13 + 11, none⟩ = some (.int .i64 (S.T t).rd) := by obtain ⟨cs, h1, h2⟩ := h; rw [cell_at h1]; exact h2.qrd t ht
theorem RunAt.qro (h : RunAt w p S) (t : Nat) (ht : t < 17) : w.cell? ⟨p, 5 + t * 13 + 12, none⟩ = some (.bool (S.T t).ro) := by obtain ⟨cs, h1, h2⟩ := h; rw [cell_at h1]; exact h2.qro t ht
end

/-- A function with another value at one place. -/
def upd {α : Type} (f : Nat → α) (k : Nat) (x : α) : Nat → α := fun j => if j = k then x else f j
theorem upd_same {α : Type} (f : Nat → α) (k : Nat) (x : α) : upd f k x k = x := by simp [upd]
theorem upd_other {α : Type} (f : Nat → α) {k j : Nat} (x : α) (h : j ≠ k) : upd f k x j = f j := by simp [upd, h]
theorem upd_upd {α : Type} (f : Nat → α) (k : Nat) (x y : α) : upd (upd f k x) k y = upd f k y := by
  funext j; unfold upd; split <;> simp_all
theorem upd_self {α : Type} (f : Nat → α) (k : Nat) : upd f k (f k) = f := by
  funext j; unfold upd; split <;> simp_all

section
variable {w : World} {p : Nat} {S : St}
theorem RunAt.set_on (h : RunAt w p S) (i : Nat) (hi : i < 4) (x : Nat) : RunAt (w.setCell ⟨p, 1 + i, none⟩ (.int .i64 (x : Nat))) p { S with on := upd S.on i x } := by
  obtain ⟨cs, h1, h2⟩ := h
  have hs := h2.size
  refine ⟨_, heap_setCell_same w p _ cs _ _ h1, by simpa using h2.size, ?_, ?_, ?_, ?_, ?_, ?_, ?_, ?_, ?_, ?_, ?_, ?_, ?_, ?_, ?_, ?_, ?_⟩ <;> (try intro j hj) <;> rw [Array.getElem?_setIfInBounds]
  · rw [if_neg (by omega)]; exact h2.hn
  · by_cases e : j = i
    · subst e; rw [if_pos rfl, if_pos (by omega)]; simp [upd_same]
    · rw [if_neg (by omega)]; simp only [upd_other _ _ e]; exact h2.on j hj
  · rw [if_neg (by omega)]; exact h2.qc j hj
  · rw [if_neg (by omega)]; exact h2.qv j hj
  · rw [if_neg (by omega)]; exact h2.qbc j hj
  · rw [if_neg (by omega)]; exact h2.qbv j hj
  · rw [if_neg (by omega)]; exact h2.qr j hj
  · rw [if_neg (by omega)]; exact h2.qm j hj
  · rw [if_neg (by omega)]; exact h2.qs j hj
  · rw [if_neg (by omega)]; exact h2.qt j hj
  · rw [if_neg (by omega)]; exact h2.qrb j hj
  · rw [if_neg (by omega)]; exact h2.qrp j hj
  · rw [if_neg (by omega)]; exact h2.qrl j hj
  · rw [if_neg (by omega)]; exact h2.qrd j hj
  · rw [if_neg (by omega)]; exact h2.qro j hj
  · rw [if_neg (by omega)]; exact h2.hk
  · rw [if_neg (by omega)]; exact h2.hg
theorem RunAt.set_c (h : RunAt w p S) (t : Nat) (ht : t < 17) (x : Int) : RunAt (w.setCell ⟨p, 5 + t * 13, none⟩ (.int .i64 x)) p { S with T := upd S.T t { S.T t with c := x } } := by
  obtain ⟨cs, h1, h2⟩ := h
  have hs := h2.size
  refine ⟨_, heap_setCell_same w p _ cs _ _ h1, by simpa using h2.size, ?_, ?_, ?_, ?_, ?_, ?_, ?_, ?_, ?_, ?_, ?_, ?_, ?_, ?_, ?_, ?_, ?_⟩ <;> (try intro j hj) <;> rw [Array.getElem?_setIfInBounds]
  · rw [if_neg (by omega)]; exact h2.hn
  · rw [if_neg (by omega)]; exact h2.on j hj
  · by_cases e : j = t
    · subst e; rw [if_pos rfl, if_pos (by omega)]; simp [upd_same]
    · rw [if_neg (by omega)]; simp only [upd_other _ _ e]; exact h2.qc j hj
  · rw [if_neg (by omega), h2.qv j hj]; simp only [upd]; split <;> simp_all
  · rw [if_neg (by omega), h2.qbc j hj]; simp only [upd]; split <;> simp_all
  · rw [if_neg (by omega), h2.qbv j hj]; simp only [upd]; split <;> simp_all
  · rw [if_neg (by omega), h2.qr j hj]; simp only [upd]; split <;> simp_all
  · rw [if_neg (by omega), h2.qm j hj]; simp only [upd]; split <;> simp_all
  · rw [if_neg (by omega), h2.qs j hj]; simp only [upd]; split <;> simp_all
  · rw [if_neg (by omega), h2.qt j hj]; simp only [upd]; split <;> simp_all
  · rw [if_neg (by omega), h2.qrb j hj]; simp only [upd]; split <;> simp_all
  · rw [if_neg (by omega), h2.qrp j hj]; simp only [upd]; split <;> simp_all
  · rw [if_neg (by omega), h2.qrl j hj]; simp only [upd]; split <;> simp_all
  · rw [if_neg (by omega), h2.qrd j hj]; simp only [upd]; split <;> simp_all
  · rw [if_neg (by omega), h2.qro j hj]; simp only [upd]; split <;> simp_all
  · rw [if_neg (by omega)]; exact h2.hk
  · rw [if_neg (by omega)]; exact h2.hg
theorem RunAt.set_v (h : RunAt w p S) (t : Nat) (ht : t < 17) (x : Int) : RunAt (w.setCell ⟨p, 5 + t * 13 + 1, none⟩ (.int .i64 x)) p { S with T := upd S.T t { S.T t with v := x } } := by
  obtain ⟨cs, h1, h2⟩ := h
  have hs := h2.size
  refine ⟨_, heap_setCell_same w p _ cs _ _ h1, by simpa using h2.size, ?_, ?_, ?_, ?_, ?_, ?_, ?_, ?_, ?_, ?_, ?_, ?_, ?_, ?_, ?_, ?_, ?_⟩ <;> (try intro j hj) <;> rw [Array.getElem?_setIfInBounds]
  · rw [if_neg (by omega)]; exact h2.hn
  · rw [if_neg (by omega)]; exact h2.on j hj
  · rw [if_neg (by omega), h2.qc j hj]; simp only [upd]; split <;> simp_all
  · by_cases e : j = t
    · subst e; rw [if_pos rfl, if_pos (by omega)]; simp [upd_same]
    · rw [if_neg (by omega)]; simp only [upd_other _ _ e]; exact h2.qv j hj
  · rw [if_neg (by omega), h2.qbc j hj]; simp only [upd]; split <;> simp_all
  · rw [if_neg (by omega), h2.qbv j hj]; simp only [upd]; split <;> simp_all
  · rw [if_neg (by omega), h2.qr j hj]; simp only [upd]; split <;> simp_all
  · rw [if_neg (by omega), h2.qm j hj]; simp only [upd]; split <;> simp_all
  · rw [if_neg (by omega), h2.qs j hj]; simp only [upd]; split <;> simp_all
  · rw [if_neg (by omega), h2.qt j hj]; simp only [upd]; split <;> simp_all
  · rw [if_neg (by omega), h2.qrb j hj]; simp only [upd]; split <;> simp_all
  · rw [if_neg (by omega), h2.qrp j hj]; simp only [upd]; split <;> simp_all
  · rw [if_neg (by omega), h2.qrl j hj]; simp only [upd]; split <;> simp_all
  · rw [if_neg (by omega), h2.qrd j hj]; simp only [upd]; split <;> simp_all
  · rw [if_neg (by omega), h2.qro j hj]; simp only [upd]; split <;> simp_all
  · rw [if_neg (by omega)]; exact h2.hk
  · rw [if_neg (by omega)]; exact h2.hg
theorem RunAt.set_bc (h : RunAt w p S) (t : Nat) (ht : t < 17) (x : Int) : RunAt (w.setCell ⟨p, 5 + t * 13 + 2, none⟩ (.int .i64 x)) p { S with T := upd S.T t { S.T t with bc := x } } := by
  obtain ⟨cs, h1, h2⟩ := h
  have hs := h2.size
  refine ⟨_, heap_setCell_same w p _ cs _ _ h1, by simpa using h2.size, ?_, ?_, ?_, ?_, ?_, ?_, ?_, ?_, ?_, ?_, ?_, ?_, ?_, ?_, ?_, ?_, ?_⟩ <;> (try intro j hj) <;> rw [Array.getElem?_setIfInBounds]
  · rw [if_neg (by omega)]; exact h2.hn
  · rw [if_neg (by omega)]; exact h2.on j hj
  · rw [if_neg (by omega), h2.qc j hj]; simp only [upd]; split <;> simp_all
  · rw [if_neg (by omega), h2.qv j hj]; simp only [upd]; split <;> simp_all
  · by_cases e : j = t
    · subst e; rw [if_pos rfl, if_pos (by omega)]; simp [upd_same]
    · rw [if_neg (by omega)]; simp only [upd_other _ _ e]; exact h2.qbc j hj
  · rw [if_neg (by omega), h2.qbv j hj]; simp only [upd]; split <;> simp_all
  · rw [if_neg (by omega), h2.qr j hj]; simp only [upd]; split <;> simp_all
  · rw [if_neg (by omega), h2.qm j hj]; simp only [upd]; split <;> simp_all
  · rw [if_neg (by omega), h2.qs j hj]; simp only [upd]; split <;> simp_all
  · rw [if_neg (by omega), h2.qt j hj]; simp only [upd]; split <;> simp_all
  · rw [if_neg (by omega), h2.qrb j hj]; simp only [upd]; split <;> simp_all
  · rw [if_neg (by omega), h2.qrp j hj]; simp only [upd]; split <;> simp_all
  · rw [if_neg (by omega), h2.qrl j hj]; simp only [upd]; split <;> simp_all
  · rw [if_neg (by omega), h2.qrd j hj]; simp only [upd]; split <;> simp_all
  · rw [if_neg (by omega), h2.qro j hj]; simp only [upd]; split <;> simp_all
  · rw [if_neg (by omega)]; exact h2.hk
  · rw [if_neg (by omega)]; exact h2.hg
theorem RunAt.set_bv (h : RunAt w p S) (t : Nat) (ht : t < 17) (x : Int) : RunAt (w.setCell ⟨p, 5 + t * 13 + 3, none⟩ (.int .i64 x)) p { S with T := upd S.T t { S.T t with bv := x } } := by
  obtain ⟨cs, h1, h2⟩ := h
  have hs := h2.size
  refine ⟨_, heap_setCell_same w p _ cs _ _ h1, by simpa using h2.size, ?_, ?_, ?_, ?_, ?_, ?_, ?_, ?_, ?_, ?_, ?_, ?_, ?_, ?_, ?_, ?_, ?_⟩ <;> (try intro j hj) <;> rw [Array.getElem?_setIfInBounds]
  · rw [if_neg (by omega)]; exact h2.hn
  · rw [if_neg (by omega)]; exact h2.on j hj
  · rw [if_neg (by omega), h2.qc j hj]; simp only [upd]; split <;> simp_all
  · rw [if_neg (by omega), h2.qv j hj]; simp only [upd]; split <;> simp_all
  · rw [if_neg (by omega), h2.qbc j hj]; simp only [upd]; split <;> simp_all
  · by_cases e : j = t
    · subst e; rw [if_pos rfl, if_pos (by omega)]; simp [upd_same]
    · rw [if_neg (by omega)]; simp only [upd_other _ _ e]; exact h2.qbv j hj
  · rw [if_neg (by omega), h2.qr j hj]; simp only [upd]; split <;> simp_all
  · rw [if_neg (by omega), h2.qm j hj]; simp only [upd]; split <;> simp_all
  · rw [if_neg (by omega), h2.qs j hj]; simp only [upd]; split <;> simp_all
  · rw [if_neg (by omega), h2.qt j hj]; simp only [upd]; split <;> simp_all
  · rw [if_neg (by omega), h2.qrb j hj]; simp only [upd]; split <;> simp_all
  · rw [if_neg (by omega), h2.qrp j hj]; simp only [upd]; split <;> simp_all
  · rw [if_neg (by omega), h2.qrl j hj]; simp only [upd]; split <;> simp_all
  · rw [if_neg (by omega), h2.qrd j hj]; simp only [upd]; split <;> simp_all
  · rw [if_neg (by omega), h2.qro j hj]; simp only [upd]; split <;> simp_all
  · rw [if_neg (by omega)]; exact h2.hk
  · rw [if_neg (by omega)]; exact h2.hg
theorem RunAt.set_r (h : RunAt w p S) (t : Nat) (ht : t < 17) (x : Bool) : RunAt (w.setCell ⟨p, 5 + t * 13 + 4, none⟩ (.bool x)) p { S with T := upd S.T t { S.T t with r := x } } := by
  obtain ⟨cs, h1, h2⟩ := h
  have hs := h2.size
  refine ⟨_, heap_setCell_same w p _ cs _ _ h1, by simpa using h2.size, ?_, ?_, ?_, ?_, ?_, ?_, ?_, ?_, ?_, ?_, ?_, ?_, ?_, ?_, ?_, ?_, ?_⟩ <;> (try intro j hj) <;> rw [Array.getElem?_setIfInBounds]
  · rw [if_neg (by omega)]; exact h2.hn
  · rw [if_neg (by omega)]; exact h2.on j hj
  · rw [if_neg (by omega), h2.qc j hj]; simp only [upd]; split <;> simp_all
  · rw [if_neg (by omega), h2.qv j hj]; simp only [upd]; split <;> simp_all
  · rw [if_neg (by omega), h2.qbc j hj]; simp only [upd]; split <;> simp_all
  · rw [if_neg (by omega), h2.qbv j hj]; simp only [upd]; split <;> simp_all
  · by_cases e : j = t
    · subst e; rw [if_pos rfl, if_pos (by omega)]; simp [upd_same]
    · rw [if_neg (by omega)]; simp only [upd_other _ _ e]; exact h2.qr j hj
  · rw [if_neg (by omega), h2.qm j hj]; simp only [upd]; split <;> simp_all
  · rw [if_neg (by omega), h2.qs j hj]; simp only [upd]; split <;> simp_all
  · rw [if_neg (by omega), h2.qt j hj]; simp only [upd]; split <;> simp_all
  · rw [if_neg (by omega), h2.qrb j hj]; simp only [upd]; split <;> simp_all
  · rw [if_neg (by omega), h2.qrp j hj]; simp only [upd]; split <;> simp_all
  · rw [if_neg (by omega), h2.qrl j hj]; simp only [upd]; split <;> simp_all
  · rw [if_neg (by omega), h2.qrd j hj]; simp only [upd]; split <;> simp_all
  · rw [if_neg (by omega), h2.qro j hj]; simp only [upd]; split <;> simp_all
  · rw [if_neg (by omega)]; exact h2.hk
  · rw [if_neg (by omega)]; exact h2.hg
theorem RunAt.set_m (h : RunAt w p S) (t : Nat) (ht : t < 17) (x : Nat) : RunAt (w.setCell ⟨p, 5 + t * 13 + 5, none⟩ (.int .i64 (x : Nat))) p { S with T := upd S.T t { S.T t with m := x } } := by
  obtain ⟨cs, h1, h2⟩ := h
  have hs := h2.size
  refine ⟨_, heap_setCell_same w p _ cs _ _ h1, by simpa using h2.size, ?_, ?_, ?_, ?_, ?_, ?_, ?_, ?_, ?_, ?_, ?_, ?_, ?_, ?_, ?_, ?_, ?_⟩ <;> (try intro j hj) <;> rw [Array.getElem?_setIfInBounds]
  · rw [if_neg (by omega)]; exact h2.hn
  · rw [if_neg (by omega)]; exact h2.on j hj
  · rw [if_neg (by omega), h2.qc j hj]; simp only [upd]; split <;> simp_all
  · rw [if_neg (by omega), h2.qv j hj]; simp only [upd]; split <;> simp_all
  · rw [if_neg (by omega), h2.qbc j hj]; simp only [upd]; split <;> simp_all
  · rw [if_neg (by omega), h2.qbv j hj]; simp only [upd]; split <;> simp_all
  · rw [if_neg (by omega), h2.qr j hj]; simp only [upd]; split <;> simp_all
  · by_cases e : j = t
    · subst e; rw [if_pos rfl, if_pos (by omega)]; simp [upd_same]
    · rw [if_neg (by omega)]; simp only [upd_other _ _ e]; exact h2.qm j hj
  · rw [if_neg (by omega), h2.qs j hj]; simp only [upd]; split <;> simp_all
  · rw [if_neg (by omega), h2.qt j hj]; simp only [upd]; split <;> simp_all
  · rw [if_neg (by omega), h2.qrb j hj]; simp only [upd]; split <;> simp_all
  · rw [if_neg (by omega), h2.qrp j hj]; simp only [upd]; split <;> simp_all
  · rw [if_neg (by omega), h2.qrl j hj]; simp only [upd]; split <;> simp_all
  · rw [if_neg (by omega), h2.qrd j hj]; simp only [upd]; split <;> simp_all
  · rw [if_neg (by omega), h2.qro j hj]; simp only [upd]; split <;> simp_all
  · rw [if_neg (by omega)]; exact h2.hk
  · rw [if_neg (by omega)]; exact h2.hg
theorem RunAt.set_s (h : RunAt w p S) (t : Nat) (ht : t < 17) (x : Int) : RunAt (w.setCell ⟨p, 5 + t * 13 + 6, none⟩ (.int .i64 x)) p { S with T := upd S.T t { S.T t with s := x } } := by
  obtain ⟨cs, h1, h2⟩ := h
  have hs := h2.size
  refine ⟨_, heap_setCell_same w p _ cs _ _ h1, by simpa using h2.size, ?_, ?_, ?_, ?_, ?_, ?_, ?_, ?_, ?_, ?_, ?_, ?_, ?_, ?_, ?_, ?_, ?_⟩ <;> (try intro j hj) <;> rw [Array.getElem?_setIfInBounds]
  · rw [if_neg (by omega)]; exact h2.hn
  · rw [if_neg (by omega)]; exact h2.on j hj
  · rw [if_neg (by omega), h2.qc j hj]; simp only [upd]; split <;> simp_all
  · rw [if_neg (by omega), h2.qv j hj]; simp only [upd]; split <;> simp_all
  · rw [if_neg (by omega), h2.qbc j hj]; simp only [upd]; split <;> simp_all
  · rw [if_neg (by omega), h2.qbv j hj]; simp only [upd]; split <;> simp_all
  · rw [if_neg (by omega), h2.qr j hj]; simp only [upd]; split <;> simp_all
  · rw [if_neg (by omega), h2.qm j hj]; simp only [upd]; split <;> simp_all
  · by_cases e : j = t
    · subst e; rw [if_pos rfl, if_pos (by omega)]; simp [upd_same]
    · rw [if_neg (by omega)]; simp only [upd_other _ _ e]; exact h2.qs j hj
  · rw [if_neg (by omega), h2.qt j hj]; simp only [upd]; split <;> simp_all
  · rw [if_neg (by omega), h2.qrb j hj]; simp only [upd]; split <;> simp_all
  · rw [if_neg (by omega), h2.qrp j hj]; simp only [upd]; split <;> simp_all
  · rw [if_neg (by omega), h2.qrl j hj]; simp only [upd]; split <;> simp_all
  · rw [if_neg (by omega), h2.qrd j hj]; simp only [upd]; split <;> simp_all
  · rw [if_neg (by omega), h2.qro j hj]; simp only [upd]; split <;> simp_all
  · rw [if_neg (by omega)]; exact h2.hk
  · rw [if_neg (by omega)]; exact h2.hg
theorem RunAt.set_t (h : RunAt w p S) (t : Nat) (ht : t < 17) (x : Int) : RunAt (w.setCell ⟨p, 5 + t * 13 + 7, none⟩ (.int .i64 x)) p { S with T := upd S.T t { S.T t with t := x } } := by
  obtain ⟨cs, h1, h2⟩ := h
  have hs := h2.size
  refine ⟨_, heap_setCell_same w p _ cs _ _ h1, by simpa using h2.size, ?_, ?_, ?_, ?_, ?_, ?_, ?_, ?_, ?_, ?_, ?_, ?_, ?_, ?_, ?_, ?_, ?_⟩ <;> (try intro j hj) <;> rw [Array.getElem?_setIfInBounds]
  · rw [if_neg (by omega)]; exact h2.hn
  · rw [if_neg (by omega)]; exact h2.on j hj
  · rw [if_neg (by omega), h2.qc j hj]; simp only [upd]; split <;> simp_all
  · rw [if_neg (by omega), h2.qv j hj]; simp only [upd]; split <;> simp_all
  · rw [if_neg (by omega), h2.qbc j hj]; simp only [upd]; split <;> simp_all
  · rw [if_neg (by omega), h2.qbv j hj]; simp only [upd]; split <;> simp_all
  · rw [if_neg (by omega), h2.qr j hj]; simp only [upd]; split <;> simp_all
  · rw [if_neg (by omega), h2.qm j hj]; simp only [upd]; split <;> simp_all
  · rw [if_neg (by omega), h2.qs j hj]; simp only [upd]; split <;> simp_all
  · by_cases e : j = t
    · subst e; rw [if_pos rfl, if_pos (by omega)]; simp [upd_same]
    · rw [if_neg (by omega)]; simp only [upd_other _ _ e]; exact h2.qt j hj
  · rw [if_neg (by omega), h2.qrb j hj]; simp only [upd]; split <;> simp_all
  · rw [if_neg (by omega), h2.qrp j hj]; simp only [upd]; split <;> simp_all
  · rw [if_neg (by omega), h2.qrl j hj]; simp only [upd]; split <;> simp_all
  · rw [if_neg (by omega), h2.qrd j hj]; simp only [upd]; split <;> simp_all
  · rw [if_neg (by omega), h2.qro j hj]; simp only [upd]; split <;> simp_all
  · rw [if_neg (by omega)]; exact h2.hk
  · rw [if_neg (by omega)]; exact h2.hg
theorem RunAt.set_rb (h : RunAt w p S) (t : Nat) (ht : t < 17) (x : Int) : RunAt (w.setCell ⟨p, 5 + t * 13 + 8, none⟩ (.int .i64 x)) p { S with T := upd S.T t { S.T t with rb := x } } := by
  obtain ⟨cs, h1, h2⟩ := h
  have hs := h2.size
  refine ⟨_, heap_setCell_same w p _ cs _ _ h1, by simpa using h2.size, ?_, ?_, ?_, ?_, ?_, ?_, ?_, ?_, ?_, ?_, ?_, ?_, ?_, ?_, ?_, ?_, ?_⟩ <;> (try intro j hj) <;> rw [Array.getElem?_setIfInBounds]
  · rw [if_neg (by omega)]; exact h2.hn
  · rw [if_neg (by omega)]; exact h2.on j hj
  · rw [if_neg (by omega), h2.qc j hj]; simp only [upd]; split <;> simp_all
  · rw [if_neg (by omega), h2.qv j hj]; simp only [upd]; split <;> simp_all
  · rw [if_neg (by omega), h2.qbc j hj]; simp only [upd]; split <;> simp_all
  · rw [if_neg (by omega), h2.qbv j hj]; simp only [upd]; split <;> simp_all
  · rw [if_neg (by omega), h2.qr j hj]; simp only [upd]; split <;> simp_all
  · rw [if_neg (by omega), h2.qm j hj]; simp only [upd]; split <;> simp_all
  · rw [if_neg (by omega), h2.qs j hj]; simp only [upd]; split <;> simp_all
  · rw [if_neg (by omega), h2.qt j hj]; simp only [upd]; split <;> simp_all
  · by_cases e : j = t
    · subst e; rw [if_pos rfl, if_pos (by omega)]; simp [upd_same]
    · rw [if_neg (by omega)]; simp only [upd_other _ _ e]; exact h2.qrb j hj
  · rw [if_neg (by omega), h2.qrp j hj]; simp only [upd]; split <;> simp_all
  · rw [if_neg (by omega), h2.qrl j hj]; simp only [upd]; split <;> simp_all
  · rw [if_neg (by omega), h2.qrd j hj]; simp only [upd]; split <;> simp_all
  · rw [if_neg (by omega), h2.qro j hj]; simp only [upd]; split <;> simp_all
  · rw [if_neg (by omega)]; exact h2.hk
  · rw [if_neg (by omega)]; exact h2.hg
theorem RunAt.set_rp (h : RunAt w p S) (t : Nat) (ht : t < 17) (x : Int) : RunAt (w.setCell ⟨p, 5 + t * 13 + 9, none⟩ (.int .i64 x)) p { S with T := upd S.T t { S.T t with rp := x } } := by
  obtain ⟨cs, h1, h2⟩ := h
  have hs := h2.size
  refine ⟨_, heap_setCell_same w p _ cs _ _ h1, by simpa using h2.size, ?_, ?_, ?_, ?_, ?_, ?_, ?_, ?_, ?_, ?_, ?_, ?_, ?_, ?_, ?_, ?_, ?_⟩ <;> (try intro j hj) <;> rw [Array.getElem?_setIfInBounds]
  · rw [if_neg (by omega)]; exact h2.hn
  · rw [if_neg (by omega)]; exact h2.on j hj
  · rw [if_neg (by omega), h2.qc j hj]; simp only [upd]; split <;> simp_all
  · rw [if_neg (by omega), h2.qv j hj]; simp only [upd]; split <;> simp_all
  · rw [if_neg (by omega), h2.qbc j hj]; simp only [upd]; split <;> simp_all
  · rw [if_neg (by omega), h2.qbv j hj]; simp only [upd]; split <;> simp_all
  · rw [if_neg (by omega), h2.qr j hj]; simp only [upd]; split <;> simp_all
  · rw [if_neg (by omega), h2.qm j hj]; simp only [upd]; split <;> simp_all
  · rw [if_neg (by omega), h2.qs j hj]; simp only [upd]; split <;> simp_all
  · rw [if_neg (by omega), h2.qt j hj]; simp only [upd]; split <;> simp_all
  · rw [if_neg (by omega), h2.qrb j hj]; simp only [upd]; split <;> simp_all
  · by_cases e : j = t
    · subst e; rw [if_pos rfl, if_pos (by omega)]; simp [upd_same]
    · rw [if_neg (by omega)]; simp only [upd_other _ _ e]; exact h2.qrp j hj
  · rw [if_neg (by omega), h2.qrl j hj]; simp only [upd]; split <;> simp_all
  · rw [if_neg (by omega), h2.qrd j hj]; simp only [upd]; split <;> simp_all
  · rw [if_neg (by omega), h2.qro j hj]; simp only [upd]; split <;> simp_all
  · rw [if_neg (by omega)]; exact h2.hk
  · rw [if_neg (by omega)]; exact h2.hg
theorem RunAt.set_rl (h : RunAt w p S) (t : Nat) (ht : t < 17) (x : Int) : RunAt (w.setCell ⟨p, 5 + t * 13 + 10, none⟩ (.int .i64 x)) p { S with T := upd S.T t { S.T t with rl := x } } := by
  obtain ⟨cs, h1, h2⟩ := h
  have hs := h2.size
  refine ⟨_, heap_setCell_same w p _ cs _ _ h1, by simpa using h2.size, ?_, ?_, ?_, ?_, ?_, ?_, ?_, ?_, ?_, ?_, ?_, ?_, ?_, ?_, ?_, ?_, ?_⟩ <;> (try intro j hj) <;> rw [Array.getElem?_setIfInBounds]
  · rw [if_neg (by omega)]; exact h2.hn
  · rw [if_neg (by omega)]; exact h2.on j hj
  · rw [if_neg (by omega), h2.qc j hj]; simp only [upd]; split <;> simp_all
  · rw [if_neg (by omega), h2.qv j hj]; simp only [upd]; split <;> simp_all
  · rw [if_neg (by omega), h2.qbc j hj]; simp only [upd]; split <;> simp_all
  · rw [if_neg (by omega), h2.qbv j hj]; simp only [upd]; split <;> simp_all
  · rw [if_neg (by omega), h2.qr j hj]; simp only [upd]; split <;> simp_all
  · rw [if_neg (by omega), h2.qm j hj]; simp only [upd]; split <;> simp_all
  · rw [if_neg (by omega), h2.qs j hj]; simp only [upd]; split <;> simp_all
  · rw [if_neg (by omega), h2.qt j hj]; simp only [upd]; split <;> simp_all
  · rw [if_neg (by omega), h2.qrb j hj]; simp only [upd]; split <;> simp_all
  · rw [if_neg (by omega), h2.qrp j hj]; simp only [upd]; split <;> simp_all
  · by_cases e : j = t
    · subst e; rw [if_pos rfl, if_pos (by omega)]; simp [upd_same]
    · rw [if_neg (by omega)]; simp only [upd_other _ _ e]; exact h2.qrl j hj
  · rw [if_neg (by omega), h2.qrd j hj]; simp only [upd]; split <;> simp_all
  · rw [if_neg (by omega), h2.qro j hj]; simp only [upd]; split <;> simp_all
  · rw [if_neg (by omega)]; exact h2.hk
  · rw [if_neg (by omega)]; exact h2.hg
theorem RunAt.set_rd (h : RunAt w p S) (t : Nat) (ht : t < 17) (x : Int) : RunAt (w.setCell ⟨p, 5 + t * 13 + 11, none⟩ (.int .i64 x)) p { S with T := upd S.T t { S.T t with rd := x } } := by
  obtain ⟨cs, h1, h2⟩ := h
  have hs := h2.size
  refine ⟨_, heap_setCell_same w p _ cs _ _ h1, by simpa using h2.size, ?_, ?_, ?_, ?_, ?_, ?_, ?_, ?_, ?_, ?_, ?_, ?_, ?_, ?_, ?_, ?_, ?_⟩ <;> (try intro j hj) <;> rw [Array.getElem?_setIfInBounds]
  · rw [if_neg (by omega)]; exact h2.hn
  · rw [if_neg (by omega)]; exact h2.on j hj
  · rw [if_neg (by omega), h2.qc j hj]; simp only [upd]; split <;> simp_all
  · rw [if_neg (by omega), h2.qv j hj]; simp only [upd]; split <;> simp_all
  · rw [if_neg (by omega), h2.qbc j hj]; simp only [upd]; split <;> simp_all
  · rw [if_neg (by omega), h2.qbv j hj]; simp only [upd]; split <;> simp_all
  · rw [if_neg (by omega), h2.qr j hj]; simp only [upd]; split <;> simp_all
  · rw [if_neg (by omega), h2.qm j hj]; simp only [upd]; split <;> simp_all
  · rw [if_neg (by omega), h2.qs j hj]; simp only [upd]; split <;> simp_all
  · rw [if_neg (by omega), h2.qt j hj]; simp only [upd]; split <;> simp_all
  · rw [if_neg (by omega), h2.qrb j hj]; simp only [upd]; split <;> simp_all
  · rw [if_neg (by omega), h2.qrp j hj]; simp only [upd]; split <;> simp_all
  · rw [if_neg (by omega), h2.qrl j hj]; simp only [upd]; split <;> simp_all
  · by_cases e : j = t
    · subst e; rw [if_pos rfl, if_pos (by omega)]; simp [upd_same]
    · rw [if_neg (by omega)]; simp only [upd_other _ _ e]; exact h2.qrd j hj
  · rw [if_neg (by omega), h2.qro j hj]; simp only [upd]; split <;> simp_all
  · rw [if_neg (by omega)]; exact h2.hk
  · rw [if_neg (by omega)]; exact h2.hg
theorem RunAt.set_ro (h : RunAt w p S) (t : Nat) (ht : t < 17) (x : Bool) : RunAt (w.setCell ⟨p, 5 + t * 13 + 12, none⟩ (.bool x)) p { S with T := upd S.T t { S.T t with ro := x } } := by
  obtain ⟨cs, h1, h2⟩ := h
  have hs := h2.size
  refine ⟨_, heap_setCell_same w p _ cs _ _ h1, by simpa using h2.size, ?_, ?_, ?_, ?_, ?_, ?_, ?_, ?_, ?_, ?_, ?_, ?_, ?_, ?_, ?_, ?_, ?_⟩ <;> (try intro j hj) <;> rw [Array.getElem?_setIfInBounds]
  · rw [if_neg (by omega)]; exact h2.hn
  · rw [if_neg (by omega)]; exact h2.on j hj
  · rw [if_neg (by omega), h2.qc j hj]; simp only [upd]; split <;> simp_all
  · rw [if_neg (by omega), h2.qv j hj]; simp only [upd]; split <;> simp_all
  · rw [if_neg (by omega), h2.qbc j hj]; simp only [upd]; split <;> simp_all
  · rw [if_neg (by omega), h2.qbv j hj]; simp only [upd]; split <;> simp_all
  · rw [if_neg (by omega), h2.qr j hj]; simp only [upd]; split <;> simp_all
  · rw [if_neg (by omega), h2.qm j hj]; simp only [upd]; split <;> simp_all
  · rw [if_neg (by omega), h2.qs j hj]; simp only [upd]; split <;> simp_all
  · rw [if_neg (by omega), h2.qt j hj]; simp only [upd]; split <;> simp_all
  · rw [if_neg (by omega), h2.qrb j hj]; simp only [upd]; split <;> simp_all
  · rw [if_neg (by omega), h2.qrp j hj]; simp only [upd]; split <;> simp_all
  · rw [if_neg (by omega), h2.qrl j hj]; simp only [upd]; split <;> simp_all
  · rw [if_neg (by omega), h2.qrd j hj]; simp only [upd]; split <;> simp_all
  · by_cases e : j = t
    · subst e; rw [if_pos rfl, if_pos (by omega)]; simp [upd_same]
    · rw [if_neg (by omega)]; simp only [upd_other _ _ e]; exact h2.qro j hj
  · rw [if_neg (by omega)]; exact h2.hk
  · rw [if_neg (by omega)]; exact h2.hg
theorem RunAt.set_k (h : RunAt w p S) (x : Int) : RunAt (w.setCell ⟨p, 226, none⟩ (.int .i64 x)) p { S with k := x } := by
  obtain ⟨cs, h1, h2⟩ := h
  have hs := h2.size
  refine ⟨_, heap_setCell_same w p _ cs _ _ h1, by simpa using h2.size, ?_, ?_, ?_, ?_, ?_, ?_, ?_, ?_, ?_, ?_, ?_, ?_, ?_, ?_, ?_, ?_, ?_⟩ <;> (try intro j hj) <;> rw [Array.getElem?_setIfInBounds]
  · rw [if_neg (by omega)]; exact h2.hn
  · rw [if_neg (by omega)]; exact h2.on j hj
  · rw [if_neg (by omega)]; exact h2.qc j hj
  · rw [if_neg (by omega)]; exact h2.qv j hj
  · rw [if_neg (by omega)]; exact h2.qbc j hj
  · rw [if_neg (by omega)]; exact h2.qbv j hj
  · rw [if_neg (by omega)]; exact h2.qr j hj
  · rw [if_neg (by omega)]; exact h2.qm j hj
  · rw [if_neg (by omega)]; exact h2.qs j hj
  · rw [if_neg (by omega)]; exact h2.qt j hj
  · rw [if_neg (by omega)]; exact h2.qrb j hj
  · rw [if_neg (by omega)]; exact h2.qrp j hj
  · rw [if_neg (by omega)]; exact h2.qrl j hj
  · rw [if_neg (by omega)]; exact h2.qrd j hj
  · rw [if_neg (by omega)]; exact h2.qro j hj
  · rw [if_pos rfl, if_pos (by omega)]
  · rw [if_neg (by omega)]; exact h2.hg
theorem RunAt.set_g (h : RunAt w p S) (x : Int) : RunAt (w.setCell ⟨p, 227, none⟩ (.int .i64 x)) p { S with g := x } := by
  obtain ⟨cs, h1, h2⟩ := h
  have hs := h2.size
  refine ⟨_, heap_setCell_same w p _ cs _ _ h1, by simpa using h2.size, ?_, ?_, ?_, ?_, ?_, ?_, ?_, ?_, ?_, ?_, ?_, ?_, ?_, ?_, ?_, ?_, ?_⟩ <;> (try intro j hj) <;> rw [Array.getElem?_setIfInBounds]
  · rw [if_neg (by omega)]; exact h2.hn
  · rw [if_neg (by omega)]; exact h2.on j hj
  · rw [if_neg (by omega)]; exact h2.qc j hj
  · rw [if_neg (by omega)]; exact h2.qv j hj
  · rw [if_neg (by omega)]; exact h2.qbc j hj
  · rw [if_neg (by omega)]; exact h2.qbv j hj
  · rw [if_neg (by omega)]; exact h2.qr j hj
  · rw [if_neg (by omega)]; exact h2.qm j hj
  · rw [if_neg (by omega)]; exact h2.qs j hj
  · rw [if_neg (by omega)]; exact h2.qt j hj
  · rw [if_neg (by omega)]; exact h2.qrb j hj
  · rw [if_neg (by omega)]; exact h2.qrp j hj
  · rw [if_neg (by omega)]; exact h2.qrl j hj
  · rw [if_neg (by omega)]; exact h2.qrd j hj
  · rw [if_neg (by omega)]; exact h2.qro j hj
  · rw [if_neg (by omega)]; exact h2.hk
  · rw [if_pos rfl, if_pos (by omega)]
end
end Go.Proofs.Ytddfdnhlghmapaa.Sp
