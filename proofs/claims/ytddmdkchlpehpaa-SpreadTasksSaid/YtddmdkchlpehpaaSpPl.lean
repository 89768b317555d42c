/- What the laws remember of each task (their type 'played'), in memory. -/
import Derived.Test.YtddmdkchlpehpaaSpEff
import Derived.Test.YtddmdkchlpehpaaRest
namespace Go.Proofs.Ytddmdkchlpehpaa.Sp
open Go.ChangeShapes Go.WideShapes Go.ChangeAt Go.RowKit Go.Maps
open Go.Proofs.Ytddmdkchlpehpaa.Vt Go.Proofs.Ytddmdkchlpehpaa.Ad
set_option linter.unusedVariables false

/-- Is it there, ready, of deadlines, boosted, and where may it run? -/
structure Pl where
  i : Bool
  r : Bool
  d : Bool
  m : Bool
  pin : Int
abbrev Pls := Nat → Pl
structure PCells (cs : Array Value) (P : Pls) : Prop where
  size : 85 ≤ cs.size
  qi : ∀ t, t < 17 → cs[t]? = some (.bool (P t).i)
  qr : ∀ t, t < 17 → cs[17 + t]? = some (.bool (P t).r)
  qd : ∀ t, t < 17 → cs[34 + t]? = some (.bool (P t).d)
  qm : ∀ t, t < 17 → cs[51 + t]? = some (.bool (P t).m)
  qpin : ∀ t, t < 17 → cs[68 + t]? = some (.int .i64 (P t).pin)
def PlAt (w : World) (q : Nat) (P : Pls) : Prop := ∃ cs, w.heap[q]? = some (.cells cs 49 (0, 0)) ∧ PCells cs P
section
variable {w w' : World} {q : Nat} {P : Pls}
theorem PlAt.keep {R : Nat → Prop} (h : PlAt w q P) (hO : Only R w w') (hS : ¬ R q) : PlAt w' q P := by
  obtain ⟨cs, h1, h2⟩ := h
  exact ⟨cs, by rw [hO.block q (block_there h1) hS]; exact h1, h2⟩
theorem PlAt.later (h : PlAt w q P) (hO : Only (fun _ => False) w w') : PlAt w' q P := h.keep hO id
theorem PlAt.lt (h : PlAt w q P) : q < w.heap.size := by obtain ⟨cs, h1, -⟩ := h; exact block_there h1
theorem PlAt.frozen (h : PlAt w q P) (j : Nat) : w.frozen? ⟨q, j, none⟩ = false := by obtain ⟨cs, h1, -⟩ := h; exact frozen_at h1 j
theorem PlAt.qi (h : PlAt w q P) (t : Nat) (ht : t < 17) : w.cell? ⟨q, t, none⟩ = some (.bool (P t).i) := by obtain ⟨cs, h1, h2⟩ := h; rw [cell_at h1]; exact h2.qi t ht
theorem PlAt.qr (h : PlAt w q P) (t : Nat) (ht : t < 17) : w.cell? ⟨q, 17 + t, none⟩ = some (.bool (P t).r) := by obtain ⟨cs, h1, h2⟩ := h; rw [cell_at h1]; exact h2.qr t ht
theorem PlAt.qd (h : PlAt w q P) (t : Nat) (ht : t < 17) : w.cell? ⟨q, 34 + t, none⟩ = some (.bool (P t).d) := by obtain ⟨cs, h1, h2⟩ := h; rw [cell_at h1]; exact h2.qd t ht
theorem PlAt.qm (h : PlAt w q P) (t : Nat) (ht : t < 17) : w.cell? ⟨q, 51 + t, none⟩ = some (.bool (P t).m) := by obtain ⟨cs, h1, h2⟩ := h; rw [cell_at h1]; exact h2.qm t ht
theorem PlAt.qpin (h : PlAt w q P) (t : Nat) (ht : t < 17) : w.cell? ⟨q, 68 + t, none⟩ = some (.int .i64 (P t).pin) := by obtain ⟨cs, h1, h2⟩ := h; rw [cell_at h1]; exact h2.qpin t ht
theorem PlAt.set_i (h : PlAt w q P) (t : Nat) (ht : t < 17) (x : Bool) : PlAt (w.setCell ⟨q, t, none⟩ (.bool x)) q (upd P t { P t with i := x }) := by
  obtain ⟨cs, h1, h2⟩ := h
  have hs := h2.size
  refine ⟨_, heap_setCell_same w q _ cs _ _ h1, by simpa using h2.size, ?_, ?_, ?_, ?_, ?_⟩ <;> intro j hj <;> rw [Array.getElem?_setIfInBounds]
  · by_cases e : j = t
    · subst e; rw [if_pos rfl, if_pos (by omega)]; simp [upd_same]
    · rw [if_neg (by omega)]; simp only [upd_other _ _ e]; exact h2.qi j hj
  · rw [if_neg (by omega), h2.qr j hj]; simp only [upd]; split <;> simp_all
  · rw [if_neg (by omega), h2.qd j hj]; simp only [upd]; split <;> simp_all
  · rw [if_neg (by omega), h2.qm j hj]; simp only [upd]; split <;> simp_all
  · rw [if_neg (by omega), h2.qpin j hj]; simp only [upd]; split <;> simp_all
theorem PlAt.set_r (h : PlAt w q P) (t : Nat) (ht : t < 17) (x : Bool) : PlAt (w.setCell ⟨q, 17 + t, none⟩ (.bool x)) q (upd P t { P t with r := x }) := by
  obtain ⟨cs, h1, h2⟩ := h
  have hs := h2.size
  refine ⟨_, heap_setCell_same w q _ cs _ _ h1, by simpa using h2.size, ?_, ?_, ?_, ?_, ?_⟩ <;> intro j hj <;> rw [Array.getElem?_setIfInBounds]
  · rw [if_neg (by omega), h2.qi j hj]; simp only [upd]; split <;> simp_all
  · by_cases e : j = t
    · subst e; rw [if_pos rfl, if_pos (by omega)]; simp [upd_same]
    · rw [if_neg (by omega)]; simp only [upd_other _ _ e]; exact h2.qr j hj
  · rw [if_neg (by omega), h2.qd j hj]; simp only [upd]; split <;> simp_all
  · rw [if_neg (by omega), h2.qm j hj]; simp only [upd]; split <;> simp_all
  · rw [if_neg (by omega), h2.qpin j hj]; simp only [upd]; split <;> simp_all
theorem PlAt.set_d (h : PlAt w q P) (t : Nat) (ht : t < 17) (x : Bool) : PlAt (w.setCell ⟨q, 34 + t, none⟩ (.bool x)) q (upd P t { P t with d := x }) := by
  obtain ⟨cs, h1, h2⟩ := h
  have hs := h2.size
  refine ⟨_, heap_setCell_same w q _ cs _ _ h1, by simpa using h2.size, ?_, ?_, ?_, ?_, ?_⟩ <;> intro j hj <;> rw [Array.getElem?_setIfInBounds]
  · rw [if_neg (by omega), h2.qi j hj]; simp only [upd]; split <;> simp_all
  · rw [if_neg (by omega), h2.qr j hj]; simp only [upd]; split <;> simp_all
  · by_cases e : j = t
    · subst e; rw [if_pos rfl, if_pos (by omega)]; simp [upd_same]
    · rw [if_neg (by omega)]; simp only [upd_other _ _ e]; exact h2.qd j hj
  · rw [if_neg (by omega), h2.qm j hj]; simp only [upd]; split <;> simp_all
  · rw [if_neg (by omega), h2.qpin j hj]; simp only [upd]; split <;> simp_all
theorem PlAt.set_m (h : PlAt w q P) (t : Nat) (ht : t < 17) (x : Bool) : PlAt (w.setCell ⟨q, 51 + t, none⟩ (.bool x)) q (upd P t { P t with m := x }) := by
  obtain ⟨cs, h1, h2⟩ := h
  have hs := h2.size
  refine ⟨_, heap_setCell_same w q _ cs _ _ h1, by simpa using h2.size, ?_, ?_, ?_, ?_, ?_⟩ <;> intro j hj <;> rw [Array.getElem?_setIfInBounds]
  · rw [if_neg (by omega), h2.qi j hj]; simp only [upd]; split <;> simp_all
  · rw [if_neg (by omega), h2.qr j hj]; simp only [upd]; split <;> simp_all
  · rw [if_neg (by omega), h2.qd j hj]; simp only [upd]; split <;> simp_all
  · by_cases e : j = t
    · subst e; rw [if_pos rfl, if_pos (by omega)]; simp [upd_same]
    · rw [if_neg (by omega)]; simp only [upd_other _ _ e]; exact h2.qm j hj
  · rw [if_neg (by omega), h2.qpin j hj]; simp only [upd]; split <;> simp_all
theorem PlAt.set_pin (h : PlAt w q P) (t : Nat) (ht : t < 17) (x : Int) : PlAt (w.setCell ⟨q, 68 + t, none⟩ (.int .i64 x)) q (upd P t { P t with pin := x }) := by
  obtain ⟨cs, h1, h2⟩ := h
  have hs := h2.size
  refine ⟨_, heap_setCell_same w q _ cs _ _ h1, by simpa using h2.size, ?_, ?_, ?_, ?_, ?_⟩ <;> intro j hj <;> rw [Array.getElem?_setIfInBounds]
  · rw [if_neg (by omega), h2.qi j hj]; simp only [upd]; split <;> simp_all
  · rw [if_neg (by omega), h2.qr j hj]; simp only [upd]; split <;> simp_all
  · rw [if_neg (by omega), h2.qd j hj]; simp only [upd]; split <;> simp_all
  · rw [if_neg (by omega), h2.qm j hj]; simp only [upd]; split <;> simp_all
  · by_cases e : j = t
    · subst e; rw [if_pos rfl, if_pos (by omega)]; simp [upd_same]
    · rw [if_neg (by omega)]; simp only [upd_other _ _ e]; exact h2.qpin j hj
end

/-- What is remembered of a task is so. -/
def PlOk (x : Pl) (y : Int × Bool × Nat × Int) : Prop := x.i = decide (y.1 ≠ 0) ∧ x.r = y.2.1 ∧ (y.1 ≠ 0 → x.d = decide (y.1 = 3) ∧ x.m = decide (y.2.2.2 ≠ 0) ∧ x.pin = (y.2.2.1 : Nat))
def Told (S : St) (P : Pls) : Prop := ∀ t, 0 ≤ t → t ≤ 16 → PlOk (P t) (core (S.T t))
section
variable {S S' : St} {P : Pls} {k : Nat}
theorem Told.eff {y : Int × Bool × Nat × Int} (h : Told S P) (e : Eff S S' k y) {x : Pl} (hx : PlOk x y) : Told S' (upd P k x) := by
  intro t h1 h2
  by_cases e2 : t = k
  · subst e2; rw [upd_same, e.at_]; exact hx
  · rw [upd_other _ _ e2, e.oth t e2]; exact h t h1 h2
theorem add_fail {t c v : Int} (h : addE S t c v ≠ 0) : addS S t c v = S := by
  unfold addS; unfold addE at h
  by_cases hk : isNo t = true ∧ kindOk c v = true
  · rw [if_pos hk] at h
    by_cases he : There S t
    · rw [if_neg (fun q => q.2.2 he)]
    · rw [if_neg he] at h; exact absurd rfl h
  · rw [if_neg (fun q => hk ⟨q.1, q.2.1⟩)]
theorem addDead_fail {t b q : Int} (h : addDeadE S t b q ≠ 0) : addDeadS S t b q = S := by
  unfold addDeadS; unfold addDeadE at h
  by_cases hk : isNo t = true ∧ okU (b, q) = true
  · rw [if_pos hk] at h
    by_cases he : There S t
    · rw [if_neg (fun q => q.2.2.1 he)]
    · rw [if_neg he] at h
      by_cases hf : fitsB S (b, q) = true
      · rw [if_pos hf] at h; exact absurd rfl h
      · rw [if_neg (fun q => hf q.2.2.2)]
  · rw [if_neg (fun q => hk ⟨q.1, q.2.1⟩)]
theorem leave_fail {t : Int} (h : leaveE S t ≠ 0) : leaveS S t = S := by
  unfold leaveS; unfold leaveE at h
  by_cases he : There S t
  · rw [if_pos he] at h; exact absurd rfl h
  · rw [if_neg he]
theorem block_fail {t : Int} (h : blockE S t ≠ 0) : blockS S t = S := by
  unfold blockS; unfold blockE at h
  by_cases he : There S t
  · rw [if_pos he] at h
    by_cases hr : (S.T t.toNat).r = true
    · rw [if_pos hr] at h; exact absurd rfl h
    · rw [if_neg (fun q => hr q.2)]
  · rw [if_neg (fun q => he q.1)]
theorem wake_fail {t : Int} (h : wakeE S t ≠ 0) : wakeS S t = S := by
  unfold wakeS; unfold wakeE at h
  by_cases he : There S t
  · rw [if_pos he] at h
    by_cases hr : (S.T t.toNat).r = true
    · rw [if_neg (fun q => by rw [hr] at q; exact absurd q.2 (by decide))]
    · rw [if_neg hr] at h; exact absurd rfl h
  · rw [if_neg (fun q => he q.1)]
theorem boost_fail {t c v : Int} (h : boostE S t c v ≠ 0) : boostS S t c v = S := by
  unfold boostS; unfold boostE at h
  by_cases hv : kindOk c v = true
  · rw [if_pos hv] at h
    by_cases he : There S t
    · rw [if_pos he] at h; exact absurd rfl h
    · rw [if_neg (fun q => he q.2)]
  · rw [if_neg (fun q => hv q.1)]
theorem calm_fail {t : Int} (h : calmE S t ≠ 0) : calmS S t = S := by
  unfold calmS; unfold calmE at h
  by_cases he : There S t
  · rw [if_pos he] at h
    by_cases hb : (S.T t.toNat).bc = 0
    · rw [if_neg (fun q => q.2 hb)]
    · rw [if_neg hb] at h; exact absurd rfl h
  · rw [if_neg (fun q => he q.1)]
theorem pin_fail {t m : Int} (h : pinE S t m ≠ 0) : pinS S t m = S := by
  unfold pinS; unfold pinE at h
  by_cases hm : maskOk S m = true
  · rw [if_pos hm] at h
    by_cases he : There S t
    · rw [if_pos he] at h; exact absurd rfl h
    · rw [if_neg (fun q => he q.2)]
  · rw [if_neg (fun q => hm q.1)]
end

/-- A run, and what is remembered of it, both of the call's own. -/
structure Duo (w0 w : World) (p q : Nat) (S : St) (P : Pls) (B : Int) : Prop where
  own : Own w0 w p S B
  pl : PlAt w q P
  ne : q ≠ p
  qown : w0.heap.size ≤ q
  told : Told S P
  runs : Runs S
  full : Full S
/-- The same, while what is remembered is not what is so yet. -/
structure Mid (w0 w : World) (p q : Nat) (S : St) (P : Pls) (B : Int) : Prop where
  own : Own w0 w p S B
  pl : PlAt w q P
  ne : q ≠ p
  qown : w0.heap.size ≤ q
def Went (w0 : World) (p q : Nat) (S : St) (P : Pls) (B : Int) (v : Value) (e : Ending) (w' : World) : Prop := e = .returned v ∧ Mid w0 w' p q S P B
section
variable {w0 w w' : World} {p q : Nat} {S S' : St} {P P' : Pls} {B B' : Int}
theorem Duo.mid (h : Duo w0 w p q S P B) : Mid w0 w p q S P B := ⟨h.own, h.pl, h.ne, h.qown⟩
theorem Duo.go {f : Nat} {args : Array Value} {v : Value} (h : Duo w0 w p q S P B) (ok : Ok S' B') (k : Calls Try.prog f args w (Keep p S' v w)) : Calls Try.prog f args w (Went w0 p q S' P B' v) :=
  k.mono fun e w' ⟨h1, h2, h3⟩ => ⟨h1, ⟨h2, ok, h.own.own, h.own.only.trans h3 (fun x hx e => by have := h.own.own; omega)⟩, h.pl.keep h3 h.ne, h.ne, h.qown⟩
theorem Mid.quiet (h : Mid w0 w p q S P B) (hO : Only (fun _ => False) w w') : Mid w0 w' p q S P B := ⟨h.own.quiet hO, h.pl.later hO, h.ne, h.qown⟩
theorem Mid.set (h : Mid w0 w p q S P B) (i : Nat) (u : Value) (hp : PlAt (w.setCell ⟨q, i, none⟩ u) q P') : Mid w0 (w.setCell ⟨q, i, none⟩ u) p q S P' B :=
  ⟨h.own.beside ((Only.refl (fun k => k = q) w).setCell (p := ⟨q, i, none⟩) rfl u) (fun e => h.ne e.symm) (fun k e => by rw [e]; exact h.qown), hp, h.ne, h.qown⟩
theorem Mid.set_i (h : Mid w0 w p q S P B) (t : Nat) (ht : t < 17) (x : Bool) : Mid w0 (w.setCell ⟨q, t, none⟩ (.bool x)) p q S (upd P t { P t with i := x }) B := h.set _ _ (h.pl.set_i t ht x)
theorem Mid.set_r (h : Mid w0 w p q S P B) (t : Nat) (ht : t < 17) (x : Bool) : Mid w0 (w.setCell ⟨q, 17 + t, none⟩ (.bool x)) p q S (upd P t { P t with r := x }) B := h.set _ _ (h.pl.set_r t ht x)
theorem Mid.set_d (h : Mid w0 w p q S P B) (t : Nat) (ht : t < 17) (x : Bool) : Mid w0 (w.setCell ⟨q, 34 + t, none⟩ (.bool x)) p q S (upd P t { P t with d := x }) B := h.set _ _ (h.pl.set_d t ht x)
theorem Mid.set_m (h : Mid w0 w p q S P B) (t : Nat) (ht : t < 17) (x : Bool) : Mid w0 (w.setCell ⟨q, 51 + t, none⟩ (.bool x)) p q S (upd P t { P t with m := x }) B := h.set _ _ (h.pl.set_m t ht x)
theorem Mid.set_pin (h : Mid w0 w p q S P B) (t : Nat) (ht : t < 17) (x : Int) : Mid w0 (w.setCell ⟨q, 68 + t, none⟩ (.int .i64 x)) p q S (upd P t { P t with pin := x }) B := h.set _ _ (h.pl.set_pin t ht x)
/-- What was remembered last makes it so again. -/
theorem Mid.duo {k : Nat} {y : Int × Bool × Nat × Int} {x : Pl} (h : Mid w0 w p q S' (upd P k x) B) (d : Told S P) (e : Eff S S' k y) (hx : PlOk x y) : Duo w0 w p q S' (upd P k x) B := ⟨h.own, h.pl, h.ne, h.qown, d.eff e hx, e.runs, e.full⟩
theorem Mid.back (h : Mid w0 w p q S P B) (d : Duo w0 w' p q S P B') : Duo w0 w p q S P B := ⟨h.own, h.pl, h.ne, h.qown, d.told, d.runs, d.full⟩
theorem Duo.mono (h : Duo w0 w p q S P B) (hB : B ≤ B') : Duo w0 w p q S P B' := ⟨h.own.mono hB, h.pl, h.ne, h.qown, h.told, h.runs, h.full⟩
theorem Duo.quiet (h : Duo w0 w p q S P B) (hO : Only (fun _ => False) w w') : Duo w0 w' p q S P B := ⟨h.own.quiet hO, h.pl.later hO, h.ne, h.qown, h.told, h.runs, h.full⟩
end
theorem rest_some (k n : Int) (h : 0 < n) (h2 : n ≤ 9223372036854775807) (w : World) :
    Calls Try.prog 35 #[.int .i64 k, .int .i64 n] w fun e w' => ∃ r : Nat, e = .returned (.int .i64 r) ∧ (r : Int) < n ∧ w = w' :=
  (rest_any k n h h2 w).mono fun e w' ⟨h1, h2'⟩ => by
    have l := restOf_lo k n h
    have m := restOf_hi k n h
    exact ⟨(restOf k n).toNat, by rw [h1]; congr 2; omega, by omega, h2'⟩
end Go.Proofs.Ytddmdkchlpehpaa.Sp
