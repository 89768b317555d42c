/- Texts of this claim, merged: Mem, Row, Args, Within, OFr, OFFind, OFFirst, OFNext, OFWake. -/
import Derived.Test.YtpincdcebhmnhaaGreatRows
import Derived.WalkKit
import Derived.ProofKit
import Derived.OpenShut
import Derived.Outline
import Derived.Laws.AppendOwnNone
import Derived.Deep.AppendLies
import Derived.Deep.DeepMust
import Derived.Deep.DeepCutAuto
import Derived.Deep.RegionWith
import Derived.Deep.QuietTactic
import Derived.BigQuiet
import Derived.WalkSpells
import Derived.Lib.Hide
import Derived.StillTailTactics
import Derived.Deep.RegionHeld3
import Derived.Maps.OwnSet
import Derived.ShutString
import Derived.ChangeOld
import Derived.Below
import Derived.Deep.Matrix
import Derived.IntWalk
import Derived.Laws.Rows
/- What a piece of a walk leaves of memory (Only), rows that one owns kept through it, and cells of a block. It speaks of no program: every seat of mine takes it as it is. -/
namespace Go.Proofs.YtpincdcebhmnhaaGreat
open Go.ChangeShapes Go.WideShapes Go.ChangeAt Go.RowKit Go.Maps
set_option linter.unusedVariables false

theorem ret_int {k : IntKind} {a b : Int} (h : a = b) : Ending.returned (.int k a) = .returned (.int k b) := by rw [h]

theorem i64_bd {a : Int} (h : (Lit.int .i64 a).wf = true) : -9223372036854775808 ≤ a ∧ a ≤ 9223372036854775807 := by
  simp [Lit.wf, IntKind.min, IntKind.max, IntKind.signed, IntKind.bits] at h; omega

theorem i64_wf {a : Int} (h : -9223372036854775808 ≤ a ∧ a ≤ 9223372036854775807) : (Lit.int .i64 a).wf = true := by
  simp [Lit.wf, IntKind.min, IntKind.max, IntKind.signed, IntKind.bits]; omega

/-- From w to w' nothing changed but the blocks of S, and new blocks. -/
structure Only (S : Nat → Prop) (w w' : World) : Prop where
  os : w'.os = w.os
  tape : w'.tape = w.tape
  output : w'.output = w.output
  size : w.heap.size ≤ w'.heap.size
  block : ∀ k, k < w.heap.size → ¬ S k → w'.heap[k]? = w.heap[k]?

theorem Only.refl (S : Nat → Prop) (w : World) : Only S w w := ⟨rfl, rfl, rfl, Nat.le_refl _, fun _ _ _ => rfl⟩
theorem Only.trans {S T : Nat → Prop} {a b c : World} (h : Only S a b) (k : Only T b c) (hT : ∀ x, x < a.heap.size → T x → S x) : Only S a c :=
  ⟨k.os.trans h.os, k.tape.trans h.tape, k.output.trans h.output, Nat.le_trans h.size k.size, fun i hi hn => (k.block i (Nat.lt_of_lt_of_le hi h.size) (fun t => hn (hT i hi t))).trans (h.block i hi hn)⟩
theorem Only.mono {S T : Nat → Prop} {a b : World} (h : Only S a b) (hT : ∀ x, x < a.heap.size → S x → T x) : Only T a b :=
  ⟨h.os, h.tape, h.output, h.size, fun i hi hn => h.block i hi (fun t => hn (hT i hi t))⟩
theorem Only.drew {S : Nat → Prop} {a w : World} (h : Only S a w) : Only S a w.drew := ⟨h.os, h.tape, h.output, h.size, h.block⟩
theorem Only.below {S : Nat → Prop} {a b : World} {B : Nat} (h : Only S a b) (hB : B ≤ a.heap.size) (hS : ∀ x, S x → B ≤ x) : Below B a b :=
  ⟨h.os, h.tape, h.output, h.size, fun i hi => h.block i (by omega) (fun t => by have := hS i t; omega)⟩
theorem Only.of_below {S : Nat → Prop} {a b : World} (h : Below a.heap.size a b) : Only S a b := ⟨h.os, h.tape, h.output, h.size, fun i hi _ => h.block i hi⟩
theorem Only.of_grown {S : Nat → Prop} {a b : World} {row : Option Nat} (h : a.grownBy b row) (hr : ∀ k, row = some k → S k) : Only S a b :=
  ⟨h.os, h.tape, h.output, h.size, fun i hi hn => h.block i hi (fun e => hn (hr i e.symm))⟩
theorem Only.setCell {S : Nat → Prop} {a w : World} (h : Only S a w) {p : Addr} (hp : S p.block) (u : Value) : Only S a (w.setCell p u) :=
  h.trans (T := S) ⟨rfl, rfl, rfl, by simp [World.setCell], fun k hk hn => Below.heap_setCell _ _ _ _ (fun e => hn (by rw [e]; exact hp))⟩ (fun _ _ h => h)
theorem Only.alloc {S : Nat → Prop} {a w : World} (h : Only S a w) (o : Obj) : Only S a (w.alloc o) :=
  h.trans (T := S) ⟨rfl, rfl, rfl, by simp, fun k hk hn => Below.heap_alloc _ _ _ hk⟩ (fun _ _ h => h)

/-- An owned row stays while its block is untouched. -/
theorem owns_kept {S : Nat → Prop} {w w' : World} {base : Nat} {e : TypeId} {size : Nat} {v : Value} {n : Nat} {xs : List Value} (h : w.ownsRow base e size v n xs) (hO : Only S w w')
    (hS : ∀ g, v.ownBlock = some g → ¬ S g) : w'.ownsRow base e size v n xs := by
  obtain ⟨h1, h2⟩ := h
  refine ⟨h1, ?_⟩
  rcases h2 with h2 | ⟨g, cap, cur, rfl, hb, hg, r1, r2, r3, r4⟩
  · exact Or.inl h2
  · right
    have hlt : g < w.heap.size := by
      rcases Nat.lt_or_ge g w.heap.size with hlt | hge
      · exact hlt
      · rw [Array.getElem?_eq_none hge] at hg; cases hg
    exact ⟨g, cap, cur, rfl, hb, by rw [hO.block g hlt (hS g rfl)]; exact hg, r1, r2, r3, r4⟩

theorem owns_base {w : World} {base base' : Nat} {e : TypeId} {size : Nat} {v : Value} {n : Nat} {xs : List Value} (h : w.ownsRow base e size v n xs) (hb : base' ≤ base) : w.ownsRow base' e size v n xs := by
  obtain ⟨h1, h2⟩ := h
  refine ⟨h1, ?_⟩
  rcases h2 with h2 | ⟨g, cap, cur, rfl, hb', r⟩
  · exact Or.inl h2
  · exact Or.inr ⟨g, cap, cur, rfl, Nat.le_trans hb hb', r⟩

theorem block_there {w : World} {p : Nat} {o : Obj} (h : w.heap[p]? = some o) : p < w.heap.size := by
  rcases Nat.lt_or_ge p w.heap.size with hlt | hge
  · exact hlt
  · rw [Array.getElem?_eq_none hge] at h; cases h

theorem owns_type {w : World} {base : Nat} {e : TypeId} {size : Nat} {v : Value} {n : Nat} {xs : List Value} (h : w.ownsRow base e size v n xs) {k : Nat} (hk : v.ownBlock = some k) :
    ∃ cur, w.heap[k]? = some (.cells cur e (0, 0)) := by
  rcases h.2 with ⟨rfl, h0⟩ | ⟨g, cap, cur, rfl, _, hg, h1, h2, _⟩
  · cases hk
  · cases hk; exact ⟨cur, hg⟩

theorem cell_at {w : World} {p : Nat} {cs : Array Value} {t : TypeId} {fr : Nat × Nat} (h : w.heap[p]? = some (.cells cs t fr)) (j : Nat) : w.cell? ⟨p, j, none⟩ = cs[j]? := by
  simp [World.cell?, h]

theorem frozen_at {w : World} {p : Nat} {cs : Array Value} {t : TypeId} (h : w.heap[p]? = some (.cells cs t (0, 0))) (j : Nat) : w.frozen? ⟨p, j, none⟩ = false := by
  simp [World.frozen?, h]

theorem only_drewN {S : Nat → Prop} {a w : World} (h : Only S a w) (n : Nat) : Only S a (w.drewN n) := ⟨h.os, h.tape, h.output, h.size, h.block⟩
end Go.Proofs.YtpincdcebhmnhaaGreat
/- What a walk is told of a slice of numbers that came in: it is empty, or its numbers lie in cells of a block that is there. -/
namespace Go.Proofs.YtpincdcebhmnhaaGreat
open Go.ChangeShapes Go.WideShapes Go.ChangeAt Go.RowKit
set_option linter.unusedVariables false

theorem add_plain (b off j : Nat) : (⟨b, off, none⟩ : Addr).add j = ⟨b, off + j, none⟩ := by unfold Addr.add; split <;> simp_all

theorem block_lt {w : World} {a : Addr} {v : Value} (h : w.cell? a = some v) : a.block < w.heap.size := by
  by_cases hlt : a.block < w.heap.size
  · exact hlt
  · exfalso
    have : w.heap[a.block]? = none := by simp; omega
    simp [World.cell?, this] at h

/-- A slice of integers that came in: nil; or it leads to a row of 'cap' cells, the numbers 'zs', the first 'len' its elements. -/
def IsRow (k : IntKind) (w : World) (a : Option Addr) (len cap : Nat) (zs : List Int) : Prop :=
  (a = none ∧ len = 0 ∧ cap = 0 ∧ zs = []) ∨
  ∃ x, a = some x ∧ len ≤ cap ∧ cap ≤ maxLen ∧ zs.length = cap ∧ (∀ i, i < zs.length → w.cell? (x.add i) = some (.int k (zs.getD i 0))) ∧ ∀ n ∈ zs, (Lit.int k n).wf = true

/-- The cells of a row of numbers of a kind. -/
def CellsOf (k : IntKind) (w : World) (b off : Nat) (zs : List Int) : Prop := ∀ j, j < zs.length → w.cell? ⟨b, off + j, none⟩ = some (.int k (zs.getD j 0))

/-- An empty slice, or one whose numbers 'ys' lie in cells. -/
theorem row_cases {k : IntKind} {w : World} {a : Option Addr} {len cap : Nat} {zs : List Int} (h : IsRow k w a len cap zs) :
    len = 0 ∨ ∃ b off ys, a = some ⟨b, off, none⟩ ∧ len = ys.length ∧ ys ≠ [] ∧ ys.length ≤ cap ∧ b < w.heap.size ∧ ys.length ≤ 9223372036854775807 ∧ (∀ n ∈ ys, (Lit.int k n).wf = true) ∧ CellsOf k w b off ys := by
  rcases h with ⟨h1, h2, h3, h4⟩ | ⟨x, rfl, h1, h2, h3, h4, h5⟩
  · exact Or.inl h2
  · by_cases h0 : len = 0
    · exact Or.inl h0
    · right
      have hc0 := h4 0 (by omega)
      have hsp : x.spot = none := by
        have := World.cell?_spot hc0
        simpa [Addr.add] using this
      have hbl := block_lt hc0
      obtain ⟨b, off, sp⟩ := x
      have hbl2 : b < w.heap.size := hbl
      simp only at hsp
      subst hsp
      unfold maxLen at h2
      refine ⟨b, off, zs.take len, rfl, by simp; omega, ?_, by simp; omega, hbl2, by simp; omega, fun n hn => h5 n (List.mem_of_mem_take hn), ?_⟩
      · intro e
        have : (zs.take len).length = 0 := by rw [e]; rfl
        rw [List.length_take] at this; omega
      · intro j hj
        simp at hj
        have := h4 j (by omega)
        rw [add_plain] at this
        rw [this]
        congr 2
        simp [List.getD, show j < len by omega]

/-- The remainder that Rest answers: of k as a number of 64 bits without a sign. -/
def restOf (k n : Int) : Int := (k % 18446744073709551616) % n

theorem restOf_lo (k n : Int) (h : 0 < n) : 0 ≤ restOf k n := Int.emod_nonneg _ (by omega)
theorem restOf_hi (k n : Int) (h : 0 < n) : restOf k n < n := Int.emod_lt_of_pos _ h
end Go.Proofs.YtpincdcebhmnhaaGreat
/- What a walk is told of a slice of slices of numbers that came in. -/
namespace Go.Proofs.YtpincdcebhmnhaaGreat
open Go.ChangeShapes Go.WideShapes Go.ChangeAt Go.RowKit
set_option linter.unusedVariables false

/-- A slice of numbers that came in: its numbers are 'xs'. -/
def NumRow (w : World) (v : Value) (xs : List Int) : Prop :=
  ∃ a c, v = .slice a xs.length c ∧ xs.length ≤ c ∧ c ≤ maxLen ∧ (∀ j, j < xs.length → ∃ ad, a = some ad ∧ ad.block < w.heap.size ∧ w.cell? (ad.add j) = some (.int .i64 (xs.getD j 0))) ∧ ∀ x ∈ xs, (Lit.int .i64 x).wf = true

/-- A slice of such slices. -/
def ArgRows (w : World) (a : Option Addr) (len cap : Nat) (recs : List (List Int)) : Prop :=
  len = recs.length ∧ len ≤ cap ∧ cap ≤ maxLen ∧ (a = none → cap = 0) ∧ ∀ j, j < recs.length → ∃ b off v, a = some ⟨b, off, none⟩ ∧ b < w.heap.size ∧ w.cell? ⟨b, off + j, none⟩ = some v ∧ NumRow w v (recs.getD j [])

theorem add_block (a : Addr) (k : Nat) : (a.add k).block = a.block := by unfold Addr.add; split <;> rfl

theorem open_rows {H : Type} {enc : TypeId × Value → H} {w : World} {base fuel : Nat} {held : Bool} {a0 : Option Addr} {len cap : Nat} {x : DataW H × List MemPlace}
    (h : DataW.trod enc Tryz.prog w base (fun _ => true) held fuel 22 [.slice a0 len cap] = some x) : ∃ recs, ArgRows w a0 len cap recs := by
  rcases Deep.open_int_rows Tryz.underlying22 Tryz.underlying37 Tryz.underlying3 (by kernel_rfl) (by kernel_rfl) h with ⟨hcs, _⟩ | ⟨a, l, c, A, L, C, Z, hcs, _, hl, hm, _, hr⟩
  · cases hcs
    exact ⟨[], rfl, Nat.le_refl _, by unfold maxLen; omega, fun _ => rfl, fun j hj => by cases hj⟩
  · cases hcs
    refine ⟨(List.range len).map fun r => (Z r).take (L r), by simp, hl, hm, (fun e => by cases e), fun j hj => ?_⟩
    simp only [List.length_map, List.length_range] at hj
    obtain ⟨h1, h2, h3, h4, h5, h6, h7⟩ := hr j (by omega)
    have hsp : a.spot = none := by
      have := World.cell?_spot (hr 0 (by omega)).1
      simpa [Addr.add] using this
    have hbl := block_lt (hr 0 (by omega)).1
    obtain ⟨b, off, sp⟩ := a
    have hbl2 : b < w.heap.size := hbl
    simp only at hsp
    subst hsp
    have e : ((List.range len).map fun r => (Z r).take (L r)).getD j [] = (Z j).take (L j) := by simp [List.getD, hj]
    have el : ((Z j).take (L j)).length = L j := by rw [List.length_take]; omega
    rw [add_plain] at h1
    rw [e]
    refine ⟨b, off, _, rfl, hbl2, h1, A j, C j, by rw [el], by rw [el]; exact h2, h3, fun k hk => ?_, fun x hx => h5 x (List.mem_of_mem_take hx)⟩
    rw [el] at hk
    cases hA : A j with
    | none => have := h6 hA; omega
    | some a' =>
      have hc := (h7 a' hA).2 k (by omega)
      refine ⟨a', rfl, add_block a' k ▸ block_lt hc, ?_⟩
      rw [hc]
      congr 2
      simp [List.getD, hk]

theorem NumRow.later {w w' : World} {v : Value} {xs : List Int} (h : NumRow w v xs) (hb : Below w.heap.size w w') : NumRow w' v xs := by
  obtain ⟨a, c, rfl, h1, h2, h3, h4⟩ := h
  refine ⟨a, c, rfl, h1, h2, fun j hj => ?_, h4⟩
  obtain ⟨ad, rfl, hl, hc⟩ := h3 j hj
  have hsz := hb.size
  refine ⟨ad, rfl, by omega, ?_⟩
  have hlt := block_lt hc
  rw [hb.cell (p := ad.add j) hlt]
  exact hc

theorem NumRow.wf {w : World} {v : Value} {xs : List Int} (h : NumRow w v xs) (j : Nat) : (Lit.int .i64 (xs.getD j 0)).wf = true := by
  obtain ⟨a, c, rfl, h1, h2, h3, h4⟩ := h
  by_cases hj : j < xs.length
  · have : xs.getD j 0 = xs[j] := by simp [List.getD, hj]
    rw [this]; exact h4 _ (List.getElem_mem hj)
  · have : xs.getD j 0 = 0 := by simp [List.getD, List.getElem?_eq_none (show xs.length ≤ j by omega)]
    rw [this]; rfl
end Go.Proofs.YtpincdcebhmnhaaGreat
/- What changes only a stretch of cells of one block: of no type and no program. -/
namespace Go.Proofs.YtpincdcebhmnhaaGreat
open Go.ChangeShapes Go.WideShapes Go.ChangeAt Go.RowKit Go.Maps
set_option linter.unusedVariables false

/-- Nothing but the cells o .. o + n - 1 of block p changes, and new blocks. -/
structure Within (p o n : Nat) (w w' : World) : Prop where
  only : Only (fun k => k = p) w w'
  still : ∀ cs T, w.heap[p]? = some (.cells cs T (0, 0)) → ∃ cs', w'.heap[p]? = some (.cells cs' T (0, 0)) ∧ cs'.size = cs.size ∧ ∀ j, j < o ∨ o + n ≤ j → cs'[j]? = cs[j]?

section
variable {p o n : Nat} {a b c w w' : World}
theorem Within.refl (p o n : Nat) (w : World) : Within p o n w w := ⟨Only.refl _ w, fun cs T h => ⟨cs, h, rfl, fun _ _ => rfl⟩⟩
theorem Within.trans (h : Within p o n a b) (k : Within p o n b c) (d : ∀ (x y : Nat), True → True := fun _ _ h => h) : Within p o n a c :=
  ⟨h.only.trans k.only (fun _ _ e => e), fun cs T hc => by
    obtain ⟨cs1, h1, s1, e1⟩ := h.still cs T hc
    obtain ⟨cs2, h2, s2, e2⟩ := k.still cs1 T h1
    exact ⟨cs2, h2, s2.trans s1, fun j hj => (e2 j hj).trans (e1 j hj)⟩⟩
/-- A call that changes nothing that was there. -/
theorem Within.of (hp : p < w.heap.size) (h : Only (fun _ => False) w w') : Within p o n w w' := ⟨h.mono (fun _ _ e => e.elim), fun cs T hc => ⟨cs, (h.block p hp id).trans hc, rfl, fun _ _ => rfl⟩⟩
theorem Within.lt (hp : p < a.heap.size) (h : Within p o n a b) : p < b.heap.size := Nat.lt_of_lt_of_le hp h.only.size
theorem Within.then (hp : p < a.heap.size) (h : Within p o n a b) (k : Only (fun _ => False) b c) : Within p o n a c := h.trans (Within.of (h.lt hp) k)
theorem Within.drew (h : Within p o n a w) : Within p o n a w.drew := ⟨h.only.drew, h.still⟩
theorem Within.drewN (h : Within p o n a w) (m : Nat) : Within p o n a (w.drewN m) := ⟨only_drewN h.only m, h.still⟩
theorem Within.setCell (h : Within p o n a w) {i : Nat} (hi : o ≤ i ∧ i < o + n) (u : Value) : Within p o n a (w.setCell ⟨p, i, none⟩ u) :=
  ⟨h.only.setCell (p := ⟨p, i, none⟩) rfl u, fun cs T hc => by
    obtain ⟨cs1, h1, s1, e1⟩ := h.still cs T hc
    refine ⟨_, heap_setCell_same w p i cs1 T u h1, by simp [s1], fun j hj => ?_⟩
    rw [Array.getElem?_setIfInBounds, if_neg (by omega)]
    exact e1 j hj⟩
theorem Within.wide {o' n' : Nat} (h : Within p o n a b) (h1 : o' ≤ o) (h2 : o + n ≤ o' + n') : Within p o' n' a b :=
  ⟨h.only, fun cs T hc => by
    obtain ⟨cs1, q1, s1, e1⟩ := h.still cs T hc
    exact ⟨cs1, q1, s1, fun j hj => e1 j (by omega)⟩⟩
end
end Go.Proofs.YtpincdcebhmnhaaGreat
/- A class of fair shares in memory: tasks and groups by their numbers. -/
namespace Go.Proofs.YtpincdcebhmnhaaGreat.Fr
open Go.ChangeShapes Go.WideShapes Go.ChangeAt Go.RowKit Go.Maps
set_option linter.unusedVariables false

/-- A task: what a tick costs it (0: there is none), its time, its group, is it ready? -/
structure Tk where
  c : Int
  v : Int
  g : Int
  r : Bool

/-- A group: what a tick costs it (0: there is none), its time. -/
structure Gr where
  c : Int
  v : Int

abbrev Tks := Nat → Tk
abbrev Grs := Nat → Gr

/-- The cells of a class. -/
structure Cells (o : Nat) (cs : Array Value) (T : Tks) (G : Grs) : Prop where
  size : o + 86 ≤ cs.size
  tc : ∀ t, t < 17 → cs[o + t * 4]? = some (.int .i64 (T t).c)
  tv : ∀ t, t < 17 → cs[o + t * 4 + 1]? = some (.int .i64 (T t).v)
  tg : ∀ t, t < 17 → cs[o + t * 4 + 2]? = some (.int .i64 (T t).g)
  tr : ∀ t, t < 17 → cs[o + t * 4 + 3]? = some (.bool (T t).r)
  gc : ∀ g, g < 9 → cs[o + 68 + g * 2]? = some (.int .i64 (G g).c)
  gv : ∀ g, g < 9 → cs[o + 68 + g * 2 + 1]? = some (.int .i64 (G g).v)

/-- A class in block p. -/
def FairAt (w : World) (p o D : Nat) (T : Tks) (G : Grs) : Prop := ∃ cs, w.heap[p]? = some (.cells cs D (0, 0)) ∧ Cells o cs T G

section
variable {w w' : World} {p o D : Nat} {T : Tks} {G : Grs}
theorem FairAt.keep {S : Nat → Prop} (h : FairAt w p o D T G) (hO : Only S w w') (hS : ¬ S p) : FairAt w' p o D T G := by
  obtain ⟨cs, h1, h2⟩ := h
  exact ⟨cs, by rw [hO.block p (block_there h1) hS]; exact h1, h2⟩
theorem FairAt.later (h : FairAt w p o D T G) (hO : Only (fun _ => False) w w') : FairAt w' p o D T G := h.keep hO id
theorem FairAt.lt (h : FairAt w p o D T G) : p < w.heap.size := by obtain ⟨cs, h1, -⟩ := h; exact block_there h1
theorem FairAt.frozen (h : FairAt w p o D T G) (j : Nat) : w.frozen? ⟨p, j, none⟩ = false := by obtain ⟨cs, h1, -⟩ := h; exact frozen_at h1 j
theorem FairAt.tc (h : FairAt w p o D T G) (t : Nat) (ht : t < 17) : w.cell? ⟨p, o + t * 4, none⟩ = some (.int .i64 (T t).c) := by obtain ⟨cs, h1, h2⟩ := h; rw [cell_at h1]; exact h2.tc t ht
theorem FairAt.tv (h : FairAt w p o D T G) (t : Nat) (ht : t < 17) : w.cell? ⟨p, o + t * 4 + 1, none⟩ = some (.int .i64 (T t).v) := by obtain ⟨cs, h1, h2⟩ := h; rw [cell_at h1]; exact h2.tv t ht
theorem FairAt.tg (h : FairAt w p o D T G) (t : Nat) (ht : t < 17) : w.cell? ⟨p, o + t * 4 + 2, none⟩ = some (.int .i64 (T t).g) := by obtain ⟨cs, h1, h2⟩ := h; rw [cell_at h1]; exact h2.tg t ht
theorem FairAt.tr (h : FairAt w p o D T G) (t : Nat) (ht : t < 17) : w.cell? ⟨p, o + t * 4 + 3, none⟩ = some (.bool (T t).r) := by obtain ⟨cs, h1, h2⟩ := h; rw [cell_at h1]; exact h2.tr t ht
theorem FairAt.gc (h : FairAt w p o D T G) (g : Nat) (hg : g < 9) : w.cell? ⟨p, o + 68 + g * 2, none⟩ = some (.int .i64 (G g).c) := by obtain ⟨cs, h1, h2⟩ := h; rw [cell_at h1]; exact h2.gc g hg
theorem FairAt.gv (h : FairAt w p o D T G) (g : Nat) (hg : g < 9) : w.cell? ⟨p, o + 68 + g * 2 + 1, none⟩ = some (.int .i64 (G g).v) := by obtain ⟨cs, h1, h2⟩ := h; rw [cell_at h1]; exact h2.gv g hg
end

/-- A function with another value at one place. -/
def upd {α : Type} (f : Nat → α) (k : Nat) (x : α) : Nat → α := fun j => if j = k then x else f j
theorem upd_same {α : Type} (f : Nat → α) (k : Nat) (x : α) : upd f k x k = x := by simp [upd]
theorem upd_other {α : Type} (f : Nat → α) {k j : Nat} (x : α) (h : j ≠ k) : upd f k x j = f j := by simp [upd, h]

section
variable {w : World} {p o D : Nat} {T : Tks} {G : Grs}
theorem FairAt.set_tc (h : FairAt w p o D T G) (t : Nat) (ht : t < 17) (x : Int) : FairAt (w.setCell ⟨p, o + t * 4, none⟩ (.int .i64 x)) p o D (upd T t ⟨x, (T t).v, (T t).g, (T t).r⟩) G := by
  obtain ⟨cs, h1, h2⟩ := h
  refine ⟨_, heap_setCell_same w p _ cs _ _ h1, by simpa using h2.size, ?_, ?_, ?_, ?_, ?_, ?_⟩ <;> intro j hj <;> rw [Array.getElem?_setIfInBounds] <;> have hs := h2.size
  · by_cases e : j = t
    · subst e; rw [if_pos rfl, if_pos (by omega), upd_same]
    · rw [if_neg (by omega), upd_other _ _ e]; exact h2.tc j hj
  · rw [if_neg (by omega), h2.tv j hj]; unfold upd; split <;> simp_all
  · rw [if_neg (by omega), h2.tg j hj]; unfold upd; split <;> simp_all
  · rw [if_neg (by omega), h2.tr j hj]; unfold upd; split <;> simp_all
  · rw [if_neg (by omega)]; exact h2.gc j hj
  · rw [if_neg (by omega)]; exact h2.gv j hj
theorem FairAt.set_tv (h : FairAt w p o D T G) (t : Nat) (ht : t < 17) (x : Int) : FairAt (w.setCell ⟨p, o + t * 4 + 1, none⟩ (.int .i64 x)) p o D (upd T t ⟨(T t).c, x, (T t).g, (T t).r⟩) G := by
  obtain ⟨cs, h1, h2⟩ := h
  refine ⟨_, heap_setCell_same w p _ cs _ _ h1, by simpa using h2.size, ?_, ?_, ?_, ?_, ?_, ?_⟩ <;> intro j hj <;> rw [Array.getElem?_setIfInBounds] <;> have hs := h2.size
  · rw [if_neg (by omega), h2.tc j hj]; unfold upd; split <;> simp_all
  · by_cases e : j = t
    · subst e; rw [if_pos rfl, if_pos (by omega), upd_same]
    · rw [if_neg (by omega), upd_other _ _ e]; exact h2.tv j hj
  · rw [if_neg (by omega), h2.tg j hj]; unfold upd; split <;> simp_all
  · rw [if_neg (by omega), h2.tr j hj]; unfold upd; split <;> simp_all
  · rw [if_neg (by omega)]; exact h2.gc j hj
  · rw [if_neg (by omega)]; exact h2.gv j hj
theorem FairAt.set_tg (h : FairAt w p o D T G) (t : Nat) (ht : t < 17) (x : Int) : FairAt (w.setCell ⟨p, o + t * 4 + 2, none⟩ (.int .i64 x)) p o D (upd T t ⟨(T t).c, (T t).v, x, (T t).r⟩) G := by
  obtain ⟨cs, h1, h2⟩ := h
  refine ⟨_, heap_setCell_same w p _ cs _ _ h1, by simpa using h2.size, ?_, ?_, ?_, ?_, ?_, ?_⟩ <;> intro j hj <;> rw [Array.getElem?_setIfInBounds] <;> have hs := h2.size
  · rw [if_neg (by omega), h2.tc j hj]; unfold upd; split <;> simp_all
  · rw [if_neg (by omega), h2.tv j hj]; unfold upd; split <;> simp_all
  · by_cases e : j = t
    · subst e; rw [if_pos rfl, if_pos (by omega), upd_same]
    · rw [if_neg (by omega), upd_other _ _ e]; exact h2.tg j hj
  · rw [if_neg (by omega), h2.tr j hj]; unfold upd; split <;> simp_all
  · rw [if_neg (by omega)]; exact h2.gc j hj
  · rw [if_neg (by omega)]; exact h2.gv j hj
theorem FairAt.set_tr (h : FairAt w p o D T G) (t : Nat) (ht : t < 17) (x : Bool) : FairAt (w.setCell ⟨p, o + t * 4 + 3, none⟩ (.bool x)) p o D (upd T t ⟨(T t).c, (T t).v, (T t).g, x⟩) G := by
  obtain ⟨cs, h1, h2⟩ := h
  refine ⟨_, heap_setCell_same w p _ cs _ _ h1, by simpa using h2.size, ?_, ?_, ?_, ?_, ?_, ?_⟩ <;> intro j hj <;> rw [Array.getElem?_setIfInBounds] <;> have hs := h2.size
  · rw [if_neg (by omega), h2.tc j hj]; unfold upd; split <;> simp_all
  · rw [if_neg (by omega), h2.tv j hj]; unfold upd; split <;> simp_all
  · rw [if_neg (by omega), h2.tg j hj]; unfold upd; split <;> simp_all
  · by_cases e : j = t
    · subst e; rw [if_pos rfl, if_pos (by omega), upd_same]
    · rw [if_neg (by omega), upd_other _ _ e]; exact h2.tr j hj
  · rw [if_neg (by omega)]; exact h2.gc j hj
  · rw [if_neg (by omega)]; exact h2.gv j hj
theorem FairAt.set_gc (h : FairAt w p o D T G) (g : Nat) (hg : g < 9) (x : Int) : FairAt (w.setCell ⟨p, o + 68 + g * 2, none⟩ (.int .i64 x)) p o D T (upd G g ⟨x, (G g).v⟩) := by
  obtain ⟨cs, h1, h2⟩ := h
  refine ⟨_, heap_setCell_same w p _ cs _ _ h1, by simpa using h2.size, ?_, ?_, ?_, ?_, ?_, ?_⟩ <;> intro j hj <;> rw [Array.getElem?_setIfInBounds] <;> have hs := h2.size
  · rw [if_neg (by omega)]; exact h2.tc j hj
  · rw [if_neg (by omega)]; exact h2.tv j hj
  · rw [if_neg (by omega)]; exact h2.tg j hj
  · rw [if_neg (by omega)]; exact h2.tr j hj
  · by_cases e : j = g
    · subst e; rw [if_pos rfl, if_pos (by omega), upd_same]
    · rw [if_neg (by omega), upd_other _ _ e]; exact h2.gc j hj
  · rw [if_neg (by omega), h2.gv j hj]; unfold upd; split <;> simp_all
theorem FairAt.set_gv (h : FairAt w p o D T G) (g : Nat) (hg : g < 9) (x : Int) : FairAt (w.setCell ⟨p, o + 68 + g * 2 + 1, none⟩ (.int .i64 x)) p o D T (upd G g ⟨(G g).c, x⟩) := by
  obtain ⟨cs, h1, h2⟩ := h
  refine ⟨_, heap_setCell_same w p _ cs _ _ h1, by simpa using h2.size, ?_, ?_, ?_, ?_, ?_, ?_⟩ <;> intro j hj <;> rw [Array.getElem?_setIfInBounds] <;> have hs := h2.size
  · rw [if_neg (by omega)]; exact h2.tc j hj
  · rw [if_neg (by omega)]; exact h2.tv j hj
  · rw [if_neg (by omega)]; exact h2.tg j hj
  · rw [if_neg (by omega)]; exact h2.tr j hj
  · rw [if_neg (by omega), h2.gc j hj]; unfold upd; split <;> simp_all
  · by_cases e : j = g
    · subst e; rw [if_pos rfl, if_pos (by omega), upd_same]
    · rw [if_neg (by omega), upd_other _ _ e]; exact h2.gv j hj
end

/-- Who goes first among the ready tasks of a group, as far as k. -/
def firstTo (T : Tks) (g : Int) : Nat → Nat
  | 0 => 0
  | k + 1 => if (T k).r = true ∧ (T k).g = g ∧ (firstTo T g k = 0 ∨ (T k).v < (T (firstTo T g k)).v) then k else firstTo T g k
/-- Who goes first among the ready tasks of a group; 0: nobody. -/
def first (T : Tks) (g : Int) : Nat := firstTo T g 17

theorem firstTo_lt (T : Tks) (g : Int) (k : Nat) : firstTo T g k ≤ k - 1 := by
  induction k with
  | zero => simp [firstTo]
  | succ k ih => unfold firstTo; split <;> omega
theorem first_lt (T : Tks) (g : Int) : first T g < 17 := by have := firstTo_lt T g 17; unfold first; omega

/-- Who goes next, and by what time, groups asked as far as k. -/
def nextTo (T : Tks) (G : Grs) : Nat → Nat × Int
  | 0 => (0, 0)
  | k + 1 => if first T ((k : Int) + 1) ≠ 0 ∧ ((nextTo T G k).1 = 0 ∨ (G (k + 1)).v < (nextTo T G k).2) then (first T ((k : Int) + 1), (G (k + 1)).v) else nextTo T G k
/-- Who goes next, and by what time. -/
def next (T : Tks) (G : Grs) : Nat × Int :=
  if first T 0 ≠ 0 ∧ ((nextTo T G 8).1 = 0 ∨ (T (first T 0)).v < (nextTo T G 8).2) then (first T 0, (T (first T 0)).v) else nextTo T G 8

theorem nextTo_lt (T : Tks) (G : Grs) (k : Nat) : (nextTo T G k).1 < 17 := by
  induction k with
  | zero => simp [nextTo]
  | succ k ih => unfold nextTo; split; exact first_lt _ _; exact ih
theorem next_lt (T : Tks) (G : Grs) : (next T G).1 < 17 := by
  unfold next; split; exact first_lt _ _; exact nextTo_lt _ _ _

/-- All that is in bounds. -/
structure Fit (T : Tks) (G : Grs) (B : Int) : Prop where
  c : ∀ t, t < 17 → 0 ≤ (T t).c ∧ (T t).c ≤ 1048576
  v : ∀ t, t < 17 → 0 ≤ (T t).v ∧ (T t).v ≤ B
  g : ∀ t, t < 17 → 0 ≤ (T t).g ∧ (T t).g ≤ 8
  gc : ∀ g, g < 9 → 0 ≤ (G g).c ∧ (G g).c ≤ 1048576
  gv : ∀ g, g < 9 → 0 ≤ (G g).v ∧ (G g).v ≤ B
  no : (T 0).c = 0
  rc : ∀ t, t < 17 → (T t).r = true → (T t).c ≠ 0

theorem Fit.mono {T : Tks} {G : Grs} {B C : Int} (h : Fit T G B) (hB : B ≤ C) : Fit T G C :=
  ⟨h.c, fun t ht => ⟨(h.v t ht).1, by have := (h.v t ht).2; omega⟩, h.g, h.gc, fun t ht => ⟨(h.gv t ht).1, by have := (h.gv t ht).2; omega⟩, h.no, h.rc⟩
end Go.Proofs.YtpincdcebhmnhaaGreat.Fr
/- Contracts of package fair: find, findGroup. -/
namespace Go.Proofs.YtpincdcebhmnhaaGreat.Fr
open Go.ChangeShapes Go.WideShapes Go.ChangeAt Go.RowKit Go.Maps
set_option linter.unusedVariables false

section
variable {w : World} {p o D : Nat} {T : Tks} {G : Grs}

theorem find_yes (h : FairAt w p o D T G) (t : Nat) (h1 : 1 ≤ t) (h2 : t ≤ 16) (hc : (T t).c ≠ 0) :
    Calls Tryz.prog 51 #[.pointer (some ⟨p, o, none⟩), .int .i64 t] w fun e w' => e = .returned (.pointer (some ⟨p, o + t * 4, none⟩)) ∧ w = w' := by
  have c0 := h.tc t (by omega)
  have h3 : ¬ (t : Int) < 1 := by omega
  have h4 : ¬ 16 < (t : Int) := by omega
  have h5 : (t : Int) < 17 := by omega
  have hc' : ((T t).c == 0) = false := by simpa using hc
  clear h hc
  go_enter Tryz.func51, Tryz.ntmps51
  go_wp2
  go_ret
  exact ⟨rfl, rfl⟩

theorem find_out (h : FairAt w p o D T G) (t : Int) (h1 : t < 1 ∨ 16 < t) :
    Calls Tryz.prog 51 #[.pointer (some ⟨p, o, none⟩), .int .i64 t] w fun e w' => e = .returned (.pointer none) ∧ w = w' := by
  by_cases h2 : t < 1
  · clear h1
    go_enter Tryz.func51, Tryz.ntmps51
    go_wp2
    go_ret
    exact ⟨rfl, rfl⟩
  · have h3 : 16 < t := by omega
    clear h1
    go_enter Tryz.func51, Tryz.ntmps51
    go_wp2
    go_ret
    exact ⟨rfl, rfl⟩

theorem find_none (h : FairAt w p o D T G) (t : Nat) (h1 : 1 ≤ t) (h2 : t ≤ 16) (hc : (T t).c = 0) :
    Calls Tryz.prog 51 #[.pointer (some ⟨p, o, none⟩), .int .i64 t] w fun e w' => e = .returned (.pointer none) ∧ w = w' := by
  have c0 := h.tc t (by omega)
  rw [hc] at c0
  have h3 : ¬ (t : Int) < 1 := by omega
  have h4 : ¬ 16 < (t : Int) := by omega
  have h5 : (t : Int) < 17 := by omega
  clear h hc
  go_enter Tryz.func51, Tryz.ntmps51
  go_wp2
  go_ret
  exact ⟨rfl, rfl⟩

theorem group_yes (h : FairAt w p o D T G) (t : Nat) (h1 : 1 ≤ t) (h2 : t ≤ 8) (hc : (G t).c ≠ 0) :
    Calls Tryz.prog 52 #[.pointer (some ⟨p, o, none⟩), .int .i64 t] w fun e w' => e = .returned (.pointer (some ⟨p, o + 68 + t * 2, none⟩)) ∧ w = w' := by
  have c0 := h.gc t (by omega)
  have h3 : ¬ (t : Int) < 1 := by omega
  have h4 : ¬ 8 < (t : Int) := by omega
  have h5 : (t : Int) < 9 := by omega
  have hc' : ((G t).c == 0) = false := by simpa using hc
  clear h hc
  go_enter Tryz.func52, Tryz.ntmps52
  go_wp2
  go_ret
  exact ⟨rfl, rfl⟩

theorem group_out (h : FairAt w p o D T G) (t : Int) (h1 : t < 1 ∨ 8 < t) :
    Calls Tryz.prog 52 #[.pointer (some ⟨p, o, none⟩), .int .i64 t] w fun e w' => e = .returned (.pointer none) ∧ w = w' := by
  by_cases h2 : t < 1
  · clear h1
    go_enter Tryz.func52, Tryz.ntmps52
    go_wp2
    go_ret
    exact ⟨rfl, rfl⟩
  · have h3 : 8 < t := by omega
    clear h1
    go_enter Tryz.func52, Tryz.ntmps52
    go_wp2
    go_ret
    exact ⟨rfl, rfl⟩

theorem group_none (h : FairAt w p o D T G) (t : Nat) (h1 : 1 ≤ t) (h2 : t ≤ 8) (hc : (G t).c = 0) :
    Calls Tryz.prog 52 #[.pointer (some ⟨p, o, none⟩), .int .i64 t] w fun e w' => e = .returned (.pointer none) ∧ w = w' := by
  have c0 := h.gc t (by omega)
  rw [hc] at c0
  have h3 : ¬ (t : Int) < 1 := by omega
  have h4 : ¬ 8 < (t : Int) := by omega
  have h5 : (t : Int) < 9 := by omega
  clear h hc
  go_enter Tryz.func52, Tryz.ntmps52
  go_wp2
  go_ret
  exact ⟨rfl, rfl⟩
end
end Go.Proofs.YtpincdcebhmnhaaGreat.Fr
/- Contract of package fair's first: who goes first among the ready tasks of a group. -/
namespace Go.Proofs.YtpincdcebhmnhaaGreat.Fr
open Go.ChangeShapes Go.WideShapes Go.ChangeAt Go.RowKit Go.Maps
set_option linter.unusedVariables false

/-- The tasks' cells. -/
def arrOf (o : Nat) (cs : Array Value) : Array Value := ((List.range 68).map fun j => cs.getD (o + j) undef).toArray

theorem arrOf_get (o : Nat) (cs : Array Value) (j : Nat) (h : j < 68) : (arrOf o cs)[j]? = some (cs.getD (o + j) undef) := by
  simp [arrOf, h]

theorem arrOf_size (o : Nat) (cs : Array Value) : (arrOf o cs).size = 68 := by simp [arrOf]

theorem load_arr {w : World} {p o D : Nat} {cs : Array Value} (h : w.heap[p]? = some (.cells cs D (0, 0))) (hs : o + 86 ≤ cs.size) :
    (loadVar 57 ⟨p, o, none⟩).run Tryz.prog w = .ok (.agg (arrOf o cs)) w := by
  have hl : (loadCells ⟨p, o, none⟩ 68).run Tryz.prog w = .ok (arrOf o cs) w :=
    run_loadCells w ⟨p, o, none⟩ 68 (fun j => cs.getD (o + j) undef) (fun j hj => by
      have hadd : (⟨p, o, none⟩ : Addr).add j = ⟨p, o + j, none⟩ := by rw [add_plain]
      rw [hadd, cell_at h]
      simp [show o + j < cs.size by omega])
  have hagg : (isAgg 57).run Tryz.prog w = .ok true w := by kernel_rfl
  simp [loadVar, Sem.run_bind, hagg, hl]

theorem index_arr {o : Nat} {cs : Array Value} {T : Tks} {G : Grs} (h : Cells o cs T G) (k : Nat) (hk : k < 17) (w : World) :
    (Instr.index 57 (.agg (arrOf o cs)) (.int .i64 k)).run Tryz.prog w = .ok (.agg #[.int .i64 (T k).c, .int .i64 (T k).v, .int .i64 (T k).g, .bool (T k).r]) w := by
  have hsz : (sizeOf 56).run Tryz.prog w = .ok 4 w := by kernel_rfl
  have hx : (arrOf o cs).extract (k * 4) (k * 4 + 4) = #[.int .i64 (T k).c, .int .i64 (T k).v, .int .i64 (T k).g, .bool (T k).r] := by
    apply Array.ext
    · simp [arrOf_size]; omega
    · intro i h1 h2
      have hi : i < 4 := by simpa using h2
      have e : ∀ j, j < 68 → (arrOf o cs)[j]? = cs[o + j]? := fun j hj => by
        rw [arrOf_get o cs j hj]; have := h.size; simp [show o + j < cs.size by omega]
      have e1 := e (k * 4) (by omega)
      have e2 := e (k * 4 + 1) (by omega)
      rw [← Nat.add_assoc] at e2
      have e3 := e (k * 4 + 2) (by omega)
      rw [← Nat.add_assoc] at e3
      have e4 := e (k * 4 + 3) (by omega)
      rw [← Nat.add_assoc] at e4
      rw [h.tc k hk] at e1
      rw [h.tv k hk] at e2
      rw [h.tg k hk] at e3
      rw [h.tr k hk] at e4
      apply Option.some.inj
      rw [← Array.getElem?_eq_getElem h1, ← Array.getElem?_eq_getElem h2, Array.getElem?_extract]
      rw [arrOf_size, if_pos (by omega)]
      match i, hi with
      | 0, _ => simpa using e1
      | 1, _ => simpa using e2
      | 2, _ => simpa using e3
      | 3, _ => simpa using e4
  unfold Instr.index
  rw [Sem.run_bind]
  simp only [asIntOf, Sem.run_pure, Result.andThen_ok, Sem.run_bind, run_underlying Tryz.underlying57]
  have h1 : (0 : Int) ≤ k ∧ (k : Int) < ((17 : Nat) : Int) := by omega
  rw [if_pos h1]
  simp [Sem.run_bind, hsz, part, hx]

section
variable {P : Program}
/-- A load whose run is known. -/
theorem wpList_load_known {ops : Array Oper} {rest : List Oper} {o : Oper} {a : Act} {w : World} {Q : Exit → Act → World → Prop} (hgd : o.guard = none) (ty : TypeId) (x : Operand) (ho : o.op = .load ty x)
    (ad : Addr) (hx : a.eval x = .pointer (some ad)) (v : Value) (hl : (loadVar ty ad).run P w = .ok v w)
    (h : wpList P ops Q rest (a.put o.dst v) w) : wpList P ops Q (o :: rest) a w := by
  refine wpList_plain hgd fun _ hK => ?_
  unfold Oper.wp execOp
  simp only [ho, hx, Instr.loadAt, Instr.sureAddr, Sem.run_bind, Sem.run_pure, Result.andThen_ok, hl]
  exact hK _ _ h
end

theorem first_any {w : World} {p o D : Nat} {T : Tks} {G : Grs} (h : FairAt w p o D T G) (g : Int) :
    Calls Tryz.prog 72 #[.pointer (some ⟨p, o, none⟩), .int .i64 g] w fun e w' => e = .returned (.int .i64 (first T g : Nat)) ∧ Only (fun _ => False) w w' := by
  obtain ⟨cs, h1, h2⟩ := h
  have HF := Lib.hid (show FairAt w p o D T G from ⟨cs, h1, h2⟩)
  have HX := Lib.hid (index_arr h2)
  have HL := Lib.hid (load_arr h1 h2.size)
  clear h1 h2
  generalize arrOf o cs = arr at *
  go_enter Tryz.func72, Tryz.ntmps72
  go_wp2_with (refine wpList_load_known rfl 57 _ rfl ⟨p, o, none⟩ rfl (.agg arr) HL.out ?_)
  go_loopw [5, 12] (fun m i wr => ∃ k : Nat, k ≤ 17 ∧ i = .int .i64 k ∧ m = .int .i64 (firstTo T g k : Nat) ∧ Only (fun _ => False) w wr) (fun _ i _ => 17 - (intOf i).toNat)
  case atStart => exact ⟨0, by omega, rfl, rfl, Only.refl _ w⟩
  case round =>
    obtain ⟨k, hk, rfl, rfl, hO⟩ := hrel
    have HO := Lib.hid hO
    by_cases hlt : k < 17
    · have ix := HX.out k hlt
      have HS := Lib.hid (show firstTo T g (k + 1) = if (T k).r = true ∧ (T k).g = g ∧ (firstTo T g k = 0 ∨ (T k).v < (T (firstTo T g k)).v) then k else firstTo T g k from rfl)
      have hml := firstTo_lt T g k
      generalize firstTo T g k = m at *
      have cv := (HF.out.later hO).tv m (by omega)
      have hp := (HF.out.later hO).lt
      clear hO
      have g1 : (k : Int) < 17 := by omega
      have g2 : (m : Int) < 17 := by omega
      cases hr : (T k).r with
      | false =>
        rw [hr] at ix
        have HE : Hid (firstTo T g (k + 1) = m) := by have := HS.out; rw [hr] at this; simp at this; exact this
        clear hr HS
        go_wp2_with fail
        go_quiet (fail)
        go_wp2_with fail
        go_roundw
        case rel => exact ⟨k + 1, by omega, by go_num, by rw [HE.out], ((HO.out.alloc _).trans (only_drewN (Only.refl _ _) _) (fun _ _ h => h))⟩
        case measure => simp [intOf]; omega
      | true =>
        rw [hr] at ix
        by_cases hg : (T k).g = g
        · rw [hg] at ix
          by_cases hm : m = 0
          · subst hm
            have HE : Hid (firstTo T g (k + 1) = k) := by have := HS.out; rw [hr, if_pos ⟨rfl, hg, Or.inl rfl⟩] at this; exact this
            clear hr hg HS
            go_wp2_with fail
            go_quiet (fail)
            go_wp2_with fail
            go_roundw
            case rel => exact ⟨k + 1, by omega, by go_num, by rw [HE.out], ((HO.out.alloc _).trans (only_drewN (Only.refl _ _) _) (fun _ _ h => h))⟩
            case measure => simp [intOf]; omega
          · have hm0 : ((m : Int) == 0) = false := by simp; omega
            by_cases hv : (T k).v < (T m).v
            · have HE : Hid (firstTo T g (k + 1) = k) := by have := HS.out; rw [hr, if_pos ⟨rfl, hg, Or.inr hv⟩] at this; exact this
              have hd : decide ((T k).v < (T m).v) = true := decide_eq_true hv
              clear hr hg HS hm hv
              go_wp2_with fail
              go_quiet (fail)
              go_wp2_with fail
              go_roundw
              case rel => exact ⟨k + 1, by omega, by go_num, by rw [HE.out], ((HO.out.alloc _).trans (only_drewN (Only.refl _ _) _) (fun _ _ h => h))⟩
              case measure => simp [intOf]; omega
            · have HE : Hid (firstTo T g (k + 1) = m) := by have := HS.out; rw [if_neg (by rintro ⟨_, _, h | h⟩; exact hm h; exact hv h)] at this; exact this
              have hd : decide ((T k).v < (T m).v) = false := decide_eq_false hv
              clear hr hg HS hm hv
              go_wp2_with fail
              go_quiet (fail)
              go_wp2_with fail
              go_roundw
              case rel => exact ⟨k + 1, by omega, by go_num, by rw [HE.out], ((HO.out.alloc _).trans (only_drewN (Only.refl _ _) _) (fun _ _ h => h))⟩
              case measure => simp [intOf]; omega
        · have HE : Hid (firstTo T g (k + 1) = m) := by have := HS.out; rw [if_neg (by rintro ⟨_, h, _⟩; exact hg h)] at this; exact this
          have hg' : ((T k).g == g) = false := by simpa using hg
          clear hr HS hg
          go_wp2_with fail
          go_quiet (fail)
          go_wp2_with fail
          go_roundw
          case rel => exact ⟨k + 1, by omega, by go_num, by rw [HE.out], ((HO.out.alloc _).trans (only_drewN (Only.refl _ _) _) (fun _ _ h => h))⟩
          case measure => simp [intOf]; omega
    · obtain rfl : k = 17 := by omega
      go_wp2_with fail
      go_ret
      exact ⟨rfl, HO.out⟩
end Go.Proofs.YtpincdcebhmnhaaGreat.Fr
/- Contracts of package fair: next, Pick. -/
namespace Go.Proofs.YtpincdcebhmnhaaGreat.Fr
open Go.ChangeShapes Go.WideShapes Go.ChangeAt Go.RowKit Go.Maps
set_option linter.unusedVariables false

theorem only_trans {a b c : World} (h : Only (fun _ => False) a b) (k : Only (fun _ => False) b c) : Only (fun _ => False) a c := h.trans k (fun _ _ h => h)

set_option maxHeartbeats 400000 in
theorem next_any {w : World} {p o D : Nat} {T : Tks} {G : Grs} (h : FairAt w p o D T G) :
    Calls Tryz.prog 68 #[.pointer (some ⟨p, o, none⟩)] w fun e w' => e = .returned (.tuple #[.int .i64 ((next T G).1 : Nat), .int .i64 (next T G).2]) ∧ Only (fun _ => False) w w' := by
  have HF := Lib.hid h
  clear h
  go_enter Tryz.func68, Tryz.ntmps68
  go_wp2_with fail
  go_loopw [2, 3, 4] (fun n v i wr => ∃ k : Nat, k ≤ 8 ∧ i = .int .i64 ((k : Int) + 1) ∧ n = .int .i64 ((nextTo T G k).1 : Nat) ∧ v = .int .i64 (nextTo T G k).2 ∧ Only (fun _ => False) w wr) (fun _ _ i _ => 9 - (intOf i).toNat)
  case atStart => exact ⟨0, by omega, rfl, rfl, rfl, Only.refl _ w⟩
  case round =>
    obtain ⟨k, hk, rfl, rfl, rfl, hO⟩ := hrel
    have HO := Lib.hid hO
    have HS : Hid (nextTo T G (k + 1) = if first T ((k : Int) + 1) ≠ 0 ∧ ((nextTo T G k).1 = 0 ∨ (G (k + 1)).v < (nextTo T G k).2) then (first T ((k : Int) + 1), (G (k + 1)).v) else nextTo T G k) := Lib.hid rfl
    clear hO
    by_cases hlt : k < 8
    · generalize nextTo T G k = x at *
      obtain ⟨n, top⟩ := x
      simp only at *
      have c1 := Lib.hid (first_any (HF.out.later HO.out) ((k : Int) + 1))
      have hfl := first_lt T ((k : Int) + 1)
      generalize first T ((k : Int) + 1) = m at *
      have g1 : (k : Int) + 1 ≤ 8 := by omega
      by_cases hm : m = 0
      · have HE : Hid (nextTo T G (k + 1) = (n, top)) := by have := HS.out; rw [if_neg (fun q => q.1 hm)] at this; exact this
        have hm0 : ((m : Int) != 0) = false := by simp [hm]
        clear HS hm
        go_wp2_with (go_at_call 72; (with_reducible refine c1.out.mono ?_); rintro e w1 ⟨rfl, hO1⟩; have HO1 := Lib.hid (only_trans HO.out hO1); clear hO1; have cg := (HF.out.later HO1.out).gv (k + 1) (by omega))
        go_roundw
        case rel => exact ⟨k + 1, by omega, by go_num, by rw [HE.out], by rw [HE.out], HO1.out⟩
        case measure => simp [intOf]; omega
      · have hm0 : ((m : Int) != 0) = true := by simp [hm]
        by_cases hn : n = 0
        · have HE : Hid (nextTo T G (k + 1) = (m, (G (k + 1)).v)) := by have := HS.out; rw [if_pos ⟨hm, Or.inl hn⟩] at this; exact this
          have hn0 : ((n : Int) == 0) = true := by simp [hn]
          clear HS hm hn
          go_wp2_with (go_at_call 72; (with_reducible refine c1.out.mono ?_); rintro e w1 ⟨rfl, hO1⟩; have HO1 := Lib.hid (only_trans HO.out hO1); clear hO1; have cg := (HF.out.later HO1.out).gv (k + 1) (by omega))
          go_quiet (fail)
          go_wp2_with fail
          go_roundw
          case rel => exact ⟨k + 1, by omega, by go_num, by rw [HE.out], by rw [HE.out], only_drewN HO1.out _⟩
          case measure => simp [intOf]; omega
        · have hn0 : ((n : Int) == 0) = false := by simp [hn]
          by_cases hv : (G (k + 1)).v < top
          · have HE : Hid (nextTo T G (k + 1) = (m, (G (k + 1)).v)) := by have := HS.out; rw [if_pos ⟨hm, Or.inr hv⟩] at this; exact this
            have hd : decide ((G (k + 1)).v < top) = true := decide_eq_true hv
            clear HS hm hn hv
            go_wp2_with (go_at_call 72; (with_reducible refine c1.out.mono ?_); rintro e w1 ⟨rfl, hO1⟩; have HO1 := Lib.hid (only_trans HO.out hO1); clear hO1; have cg := (HF.out.later HO1.out).gv (k + 1) (by omega))
            go_quiet (fail)
            go_wp2_with fail
            go_roundw
            case rel => exact ⟨k + 1, by omega, by go_num, by rw [HE.out], by rw [HE.out], only_drewN HO1.out _⟩
            case measure => simp [intOf]; omega
          · have HE : Hid (nextTo T G (k + 1) = (n, top)) := by have := HS.out; rw [if_neg (fun q => q.2.elim hn hv)] at this; exact this
            have hd : decide ((G (k + 1)).v < top) = false := decide_eq_false hv
            clear HS hm hn hv
            go_wp2_with (go_at_call 72; (with_reducible refine c1.out.mono ?_); rintro e w1 ⟨rfl, hO1⟩; have HO1 := Lib.hid (only_trans HO.out hO1); clear hO1; have cg := (HF.out.later HO1.out).gv (k + 1) (by omega))
            go_roundw
            case rel => exact ⟨k + 1, by omega, by go_num, by rw [HE.out], by rw [HE.out], HO1.out⟩
            case measure => simp [intOf]; omega
    · obtain rfl : k = 8 := by omega
      have HN : Hid (next T G = if first T 0 ≠ 0 ∧ ((nextTo T G 8).1 = 0 ∨ (T (first T 0)).v < (nextTo T G 8).2) then (first T 0, (T (first T 0)).v) else nextTo T G 8) := Lib.hid rfl
      clear HS
      generalize nextTo T G 8 = x at *
      obtain ⟨n, top⟩ := x
      simp only at *
      have c1 := Lib.hid (first_any (HF.out.later HO.out) 0)
      have hfl := first_lt T 0
      generalize first T 0 = m at *
      have g2 : (m : Int) < 17 := by omega
      by_cases hm : m = 0
      · have HE : Hid (next T G = (n, top)) := by have := HN.out; rw [if_neg (fun q => q.1 hm)] at this; exact Lib.hid this
        have hm0 : ((m : Int) != 0) = false := by simp [hm]
        clear HN hm
        go_wp2_with (go_at_call 72; (with_reducible refine c1.out.mono ?_); rintro e w1 ⟨rfl, hO1⟩; have HO1 := Lib.hid (only_trans HO.out hO1); clear hO1; have cg := (HF.out.later HO1.out).tv m hfl)
        go_ret2
        exact ⟨by rw [HE.out]; rfl, HO1.out⟩
      · have hm0 : ((m : Int) != 0) = true := by simp [hm]
        by_cases hn : n = 0
        · have HE : Hid (next T G = (m, (T m).v)) := by have := HN.out; rw [if_pos ⟨hm, Or.inl hn⟩] at this; exact Lib.hid this
          have hn0 : ((n : Int) == 0) = true := by simp [hn]
          clear HN hm hn
          go_wp2_with (go_at_call 72; (with_reducible refine c1.out.mono ?_); rintro e w1 ⟨rfl, hO1⟩; have HO1 := Lib.hid (only_trans HO.out hO1); clear hO1; have cg := (HF.out.later HO1.out).tv m hfl)
          go_quiet (fail)
          go_wp2_with fail
          go_ret2
          exact ⟨by rw [HE.out]; rfl, only_drewN HO1.out _⟩
        · have hn0 : ((n : Int) == 0) = false := by simp [hn]
          by_cases hv : (T m).v < top
          · have HE : Hid (next T G = (m, (T m).v)) := by have := HN.out; rw [if_pos ⟨hm, Or.inr hv⟩] at this; exact Lib.hid this
            have hd : decide ((T m).v < top) = true := decide_eq_true hv
            clear HN hm hn hv
            go_wp2_with (go_at_call 72; (with_reducible refine c1.out.mono ?_); rintro e w1 ⟨rfl, hO1⟩; have HO1 := Lib.hid (only_trans HO.out hO1); clear hO1; have cg := (HF.out.later HO1.out).tv m hfl)
            go_quiet (fail)
            go_wp2_with fail
            go_ret2
            exact ⟨by rw [HE.out]; rfl, only_drewN HO1.out _⟩
          · have HE : Hid (next T G = (n, top)) := by have := HN.out; rw [if_neg (fun q => q.2.elim hn hv)] at this; exact Lib.hid this
            have hd : decide ((T m).v < top) = false := decide_eq_false hv
            clear HN hm hn hv
            go_wp2_with (go_at_call 72; (with_reducible refine c1.out.mono ?_); rintro e w1 ⟨rfl, hO1⟩; have HO1 := Lib.hid (only_trans HO.out hO1); clear hO1; have cg := (HF.out.later HO1.out).tv m hfl)
            go_ret2
            exact ⟨by rw [HE.out]; rfl, HO1.out⟩
end Go.Proofs.YtpincdcebhmnhaaGreat.Fr
/- Contracts of package fair: Pick, and wake, what a task and its group have behind it. -/
namespace Go.Proofs.YtpincdcebhmnhaaGreat.Fr
open Go.ChangeShapes Go.WideShapes Go.ChangeAt Go.RowKit Go.Maps
set_option linter.unusedVariables false

/-- What Pick answers. -/
def pickAns (T : Tks) (G : Grs) : Int × Int := if (next T G).1 = 0 then (0, 4) else (((next T G).1 : Int), 0)

theorem pick_any {w : World} {p o D : Nat} {T : Tks} {G : Grs} (h : FairAt w p o D T G) :
    Calls Tryz.prog 46 #[.pointer (some ⟨p, o, none⟩)] w fun e w' => e = .returned (.tuple #[.int .i64 (pickAns T G).1, .int .i64 (pickAns T G).2]) ∧ Only (fun _ => False) w w' := by
  have c1 := Lib.hid (next_any h)
  have HP : Hid (pickAns T G = if (next T G).1 = 0 then (0, 4) else (((next T G).1 : Int), 0)) := Lib.hid rfl
  clear h
  generalize next T G = x at *
  obtain ⟨n, v⟩ := x
  simp only at *
  by_cases hn : n = 0
  · have HE : Hid (pickAns T G = (0, 4)) := by have := HP.out; rw [if_pos hn] at this; exact Lib.hid this
    have hn0 : ((n : Int) == 0) = true := by simp [hn]
    clear HP hn
    go_enter Tryz.func46, Tryz.ntmps46
    go_wp2_with (go_at_call 68; (with_reducible refine c1.out.mono ?_); rintro e w1 ⟨rfl, hO1⟩; have HO1 := Lib.hid hO1; clear hO1)
    go_ret2
    exact ⟨by rw [HE.out]; rfl, HO1.out⟩
  · have HE : Hid (pickAns T G = ((n : Int), 0)) := by have := HP.out; rw [if_neg hn] at this; exact Lib.hid this
    have hn0 : ((n : Int) == 0) = false := by simp [hn]
    clear HP hn
    go_enter Tryz.func46, Tryz.ntmps46
    go_wp2_with (go_at_call 68; (with_reducible refine c1.out.mono ?_); rintro e w1 ⟨rfl, hO1⟩; have HO1 := Lib.hid hO1; clear hO1)
    go_ret2
    exact ⟨by rw [HE.out]; rfl, HO1.out⟩

/-- The tasks behind a task's waking up. -/
def wokeT (T : Tks) (G : Grs) (t : Nat) : Tks :=
  if (T t).g = 0 then upd T t ⟨(T t).c, max (T t).v (next T G).2, (T t).g, true⟩
  else if first T (T t).g = 0 then upd T t ⟨(T t).c, (T t).v, (T t).g, true⟩
  else upd T t ⟨(T t).c, max (T t).v (T (first T (T t).g)).v, (T t).g, true⟩
/-- The groups behind a task's waking up. -/
def wokeG (T : Tks) (G : Grs) (t : Nat) : Grs :=
  if (T t).g ≠ 0 ∧ first T (T t).g = 0 then upd G (T t).g.toNat ⟨(G (T t).g.toNat).c, max (G (T t).g.toNat).v (next T G).2⟩ else G

section
variable {T : Tks} {G : Grs} {t : Nat}
theorem wokeT_0 (hg : (T t).g = 0) : wokeT T G t = upd T t ⟨(T t).c, max (T t).v (next T G).2, (T t).g, true⟩ := by unfold wokeT; rw [if_pos hg]
theorem wokeT_1 (hg : (T t).g ≠ 0) (hf : first T (T t).g = 0) : wokeT T G t = upd T t ⟨(T t).c, (T t).v, (T t).g, true⟩ := by unfold wokeT; rw [if_neg hg, if_pos hf]
theorem wokeT_2 (hg : (T t).g ≠ 0) (hf : first T (T t).g ≠ 0) : wokeT T G t = upd T t ⟨(T t).c, max (T t).v (T (first T (T t).g)).v, (T t).g, true⟩ := by unfold wokeT; rw [if_neg hg, if_neg hf]
theorem wokeG_0 (hg : (T t).g = 0) : wokeG T G t = G := by unfold wokeG; rw [if_neg (fun q => q.1 hg)]
theorem wokeG_1 (hg : (T t).g ≠ 0) (hf : first T (T t).g = 0) : wokeG T G t = upd G (T t).g.toNat ⟨(G (T t).g.toNat).c, max (G (T t).g.toNat).v (next T G).2⟩ := by unfold wokeG; rw [if_pos ⟨hg, hf⟩]
theorem wokeG_2 (hf : first T (T t).g ≠ 0) : wokeG T G t = G := by unfold wokeG; rw [if_neg (fun q => hf q.2)]
end

theorem run_max2 (x y m : Int) (h : max x y = m) (w : World) (ts : Array TypeId) (t : TypeId) : (Builtin.max_ ts t #[.int .i64 x, .int .i64 y]).run Tryz.prog w = .ok (.int .i64 m) w := by
  subst h
  have e : (if y > x then y else x) = max x y := by rw [Int.max_def]; split <;> split <;> omega
  simp [Builtin.max_, Builtin.max2, e]

theorem upd_upd {α : Type} (f : Nat → α) (k : Nat) (x y : α) : upd (upd f k x) k y = upd f k y := by
  funext j; unfold upd; split <;> simp_all

section
variable {w : World} {p o D : Nat} {T : Tks} {G : Grs}
theorem FairAt.drew (h : FairAt w p o D T G) : FairAt w.drew p o D T G := h
theorem FairAt.set_tvr (h : FairAt w p o D T G) (t : Nat) (ht : t < 17) (x : Int) (b : Bool) : FairAt ((w.setCell ⟨p, o + t * 4 + 1, none⟩ (.int .i64 x)).setCell ⟨p, o + t * 4 + 3, none⟩ (.bool b)) p o D (upd T t ⟨(T t).c, x, (T t).g, b⟩) G := by
  have := (h.set_tv t ht x).set_tr t ht b
  rwa [upd_upd, upd_same] at this
end

theorem only_set1 {w w2 : World} {p o : Nat} (hp : p < w.heap.size) (h : Only (fun _ => False) w w2) (i : Nat) (u : Value) (hi : o ≤ i ∧ i < o + 86) : Within p o 86 w (w2.setCell ⟨p, i, none⟩ u) := (Within.of hp h).setCell hi u
theorem only_set2 {w w2 : World} {p o : Nat} (hp : p < w.heap.size) (h : Only (fun _ => False) w w2) (i j : Nat) (u v : Value) (hi : o ≤ i ∧ i < o + 86) (hj : o ≤ j ∧ j < o + 86) : Within p o 86 w ((w2.setCell ⟨p, i, none⟩ u).setCell ⟨p, j, none⟩ v) :=
  (only_set1 hp h i u hi).setCell hj v

set_option maxHeartbeats 400000 in
set_option maxRecDepth 100000 in
theorem wake_any {w : World} {p o D : Nat} {T : Tks} {G : Grs} (h : FairAt w p o D T G) (t : Nat) (ht : t < 17) (hg0 : 0 ≤ (T t).g) (hg8 : (T t).g ≤ 8) :
    Calls Tryz.prog 53 #[.pointer (some ⟨p, o, none⟩), .pointer (some ⟨p, o + t * 4, none⟩)] w fun e w' => e = .returned (.tuple #[]) ∧ FairAt w' p o D (wokeT T G t) (wokeG T G t) ∧ Within p o 86 w w' := by
  have H := Lib.hid h
  have c1 := Lib.hid (next_any h)
  clear h
  have c2 := fun (w2 : World) (hO : Only (fun _ => False) w w2) => first_any (H.out.later hO) (T t).g
  have C2 := Lib.hid c2
  clear c2
  have hz := Lib.hid (next_lt T G)
  by_cases hg : (T t).g = 0
  · have HG0 := Lib.hid hg
    rw [hg] at C2
    have HT2 := Lib.hid (wokeT_0 (G := G) hg)
    have HG2 := Lib.hid (wokeG_0 (G := G) hg)
    clear hg
    obtain ⟨mx, hmx⟩ : ∃ mx, max (T t).v (next T G).2 = mx := ⟨_, rfl⟩
    have q := run_max2 _ _ _ hmx
    rw [hmx] at HT2
    clear hmx
    generalize next T G = x at *
    generalize first T 0 = f at *
    obtain ⟨n, top⟩ := x
    simp only at *
    go_enter Tryz.func53, Tryz.ntmps53
    go_wp2_with (first
      | (go_at_call 68; (with_reducible refine c1.out.mono ?_); rintro e w1 ⟨rfl, hO1⟩; have HO1 := Lib.hid hO1; clear hO1; have cg := (H.out.later HO1.out).tg t ht; rw [HG0.out] at cg)
      | (go_at_call 72; (with_reducible refine (C2.out _ HO1.out).mono ?_); rintro e w2 ⟨rfl, hO2⟩; have HO2 := Lib.hid (only_trans HO1.out hO2); clear hO2; have cg2 := (H.out.later HO2.out).tg t ht; rw [HG0.out] at cg2; have cv2 := (H.out.later HO2.out).tv t ht; have cr2 := (H.out.later HO2.out).tr t ht; have fz := (H.out.later HO2.out).frozen))
    go_end0
    refine ⟨rfl, ?_, ?_⟩
    · rw [HT2.out, HG2.out]
      exact (H.out.later HO2.out).set_tvr t ht mx true
    · exact only_set2 H.out.lt HO2.out _ _ _ _ (by omega) (by omega)
  · by_cases hf : first T (T t).g = 0
    · have HT2 := Lib.hid (wokeT_1 (G := G) hg hf)
      have HG2 := Lib.hid (wokeG_1 (G := G) hg hf)
      rw [hf] at C2
      obtain ⟨g, hgg⟩ : ∃ g : Nat, (T t).g = g := ⟨(T t).g.toNat, by omega⟩
      have HG0 := Lib.hid hgg
      rw [hgg] at C2
      have hgt : (T t).g.toNat = g := by omega
      rw [hgt] at HG2
      have g1 : (g : Int) < 9 := by omega
      have g2 : g < 9 := by omega
      have g3 : ((g : Int) == 0) = false := by simp; omega
      clear hg hf hgg hgt hg0 hg8
      obtain ⟨mx, hmx⟩ : ∃ mx, max (G g).v (next T G).2 = mx := ⟨_, rfl⟩
      have q := run_max2 _ _ _ hmx
      rw [hmx] at HG2
      clear hmx
      generalize next T G = x at *
      obtain ⟨n, top⟩ := x
      simp only at *
      go_enter Tryz.func53, Tryz.ntmps53
      go_wp2_with (first
      | (go_at_call 68; (with_reducible refine c1.out.mono ?_); rintro e w1 ⟨rfl, hO1⟩; have HO1 := Lib.hid hO1; clear hO1; have cg := (H.out.later HO1.out).tg t ht; rw [HG0.out] at cg)
      | (go_at_call 72; (with_reducible refine (C2.out _ HO1.out).mono ?_); rintro e w2 ⟨rfl, hO2⟩; have HO2 := Lib.hid (only_trans HO1.out hO2); clear hO2; have cg2 := (H.out.later HO2.out).tg t ht; rw [HG0.out] at cg2; have cv2 := (H.out.later HO2.out).tv t ht; have cr2 := (H.out.later HO2.out).tr t ht; have fz := (H.out.later HO2.out).frozen; have cx2 := (H.out.later HO2.out).gv g g2))
      refine wp_region_still_tail 21 (by kernel_rfl) (by kernel_rfl) ?_
      have HD : Hid (Only (fun _ => False) w w2.drew) := Lib.hid HO2.out.drew
      have cg3 : w2.drew.cell? ⟨p, o + t * 4 + 2, none⟩ = some (.int .i64 g) := cg2
      have cx3 : w2.drew.cell? ⟨p, o + 68 + g * 2 + 1, none⟩ = some (.int .i64 (G g).v) := cx2
      have cr3 : w2.drew.cell? ⟨p, o + t * 4 + 3, none⟩ = some (.bool (T t).r) := cr2
      have fz3 : ∀ j, w2.drew.frozen? ⟨p, j, none⟩ = false := fz
      show wpStill _ _ w2.drew (fun a' => wpList _ _ _ _ a' w2.drew) _ _
      generalize w2.drew = w3 at *
      simp only [List.take_succ_cons, List.take_zero, List.drop_succ_cons, List.drop_zero]
      repeat still_step
      refine wpStill_nil ?_
      go_wp2
      go_end0
      refine ⟨rfl, ?_, ?_⟩
      · rw [HT2.out, HG2.out]
        exact ((H.out.later HD.out).set_gv g g2 mx).set_tr t ht true
      · exact only_set2 H.out.lt HD.out _ _ _ _ (by omega) (by omega)
    · have HT2 := Lib.hid (wokeT_2 (G := G) hg hf)
      have HG2 := Lib.hid (wokeG_2 (G := G) hf)
      have hfl := first_lt T (T t).g
      obtain ⟨g, hgg⟩ : ∃ g : Nat, (T t).g = g := ⟨(T t).g.toNat, by omega⟩
      have HG0 := Lib.hid hgg
      rw [hgg] at C2 hf HT2 hfl
      have g3 : ((g : Int) == 0) = false := by simp; omega
      obtain ⟨f, hff⟩ : ∃ f, first T g = f := ⟨_, rfl⟩
      rw [hff] at HT2
      rw [hff] at C2 hf hfl
      have f1 : ((f : Int) != 0) = true := by simp; omega
      have f2 : (f : Int) < 17 := by omega
      clear hg hf hgg hg0 hg8 hff
      obtain ⟨mx, hmx⟩ : ∃ mx, max (T t).v (T f).v = mx := ⟨_, rfl⟩
      have q := run_max2 _ _ _ hmx
      rw [hmx] at HT2
      clear hmx
      generalize next T G = x at *
      obtain ⟨n, top⟩ := x
      simp only at *
      go_enter Tryz.func53, Tryz.ntmps53
      go_wp2_with (first
      | (go_at_call 68; (with_reducible refine c1.out.mono ?_); rintro e w1 ⟨rfl, hO1⟩; have HO1 := Lib.hid hO1; clear hO1; have cg := (H.out.later HO1.out).tg t ht; rw [HG0.out] at cg)
      | (go_at_call 72; (with_reducible refine (C2.out _ HO1.out).mono ?_); rintro e w2 ⟨rfl, hO2⟩; have HO2 := Lib.hid (only_trans HO1.out hO2); clear hO2; have cg2 := (H.out.later HO2.out).tg t ht; rw [HG0.out] at cg2; have cv2 := (H.out.later HO2.out).tv t ht; have cr2 := (H.out.later HO2.out).tr t ht; have fz := (H.out.later HO2.out).frozen; have cx2 := (H.out.later HO2.out).tv f hfl))
      refine wp_region_still_tail 18 (by kernel_rfl) (by kernel_rfl) ?_
      have HD : Hid (Only (fun _ => False) w w2.drew) := Lib.hid HO2.out.drew
      have cg3 : w2.drew.cell? ⟨p, o + t * 4 + 2, none⟩ = some (.int .i64 g) := cg2
      have cx3 : w2.drew.cell? ⟨p, o + f * 4 + 1, none⟩ = some (.int .i64 (T f).v) := cx2
      have cv3 : w2.drew.cell? ⟨p, o + t * 4 + 1, none⟩ = some (.int .i64 (T t).v) := cv2
      have cr3 : w2.drew.cell? ⟨p, o + t * 4 + 3, none⟩ = some (.bool (T t).r) := cr2
      have fz3 : ∀ j, w2.drew.frozen? ⟨p, j, none⟩ = false := fz
      show wpStill _ _ w2.drew (fun a' => wpList _ _ _ _ a' w2.drew) _ _
      generalize w2.drew = w3 at *
      simp only [List.take_succ_cons, List.take_zero, List.drop_succ_cons, List.drop_zero]
      repeat still_step
      refine wpStill_nil ?_
      go_wp2
      go_end0
      refine ⟨rfl, ?_, ?_⟩
      · have := (H.out.later HD.out).set_tvr t ht mx true
        rw [HG0.out] at this
        rw [HT2.out, HG2.out]; exact this
      · exact only_set2 H.out.lt HD.out _ _ _ _ (by omega) (by omega)
end Go.Proofs.YtpincdcebhmnhaaGreat.Fr
