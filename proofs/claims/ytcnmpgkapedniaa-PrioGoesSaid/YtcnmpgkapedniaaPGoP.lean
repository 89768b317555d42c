/- PrioGoes: the queues of places, and what is known of memory. -/
import Derived.Test.YtcnmpgkapedniaaPIns
namespace Go.Proofs.Ytcnmpgkapedniaa.Pr
open Go.ChangeShapes Go.WideShapes Go.ChangeAt Go.RowKit Go.Maps
set_option linter.unusedVariables false

/-- The queues of the places R. -/
def qsOf (xs : List Int) (R : List Int) : Qs := fun q => (R.filter (fun x => decide (keyOf xs x = q))).map (· + 1)

theorem qsOf_len (xs R : List Int) (q : Nat) : (qsOf xs R q).length ≤ R.length := by
  unfold qsOf
  rw [List.length_map]
  exact List.length_filter_le _ _
theorem qsOf_nil (xs : List Int) : qsOf xs [] = noQ := by funext q; rfl
theorem qsOf_mem {xs R : List Int} {q : Nat} {t : Int} : t ∈ qsOf xs R q ↔ ∃ x ∈ R, keyOf xs x = q ∧ x + 1 = t := by
  unfold qsOf
  simp only [List.mem_map, List.mem_filter, decide_eq_true_eq]
  constructor
  · rintro ⟨x, ⟨h1, h2⟩, h3⟩; exact ⟨x, h1, h2, h3⟩
  · rintro ⟨x, h1, h2, h3⟩; exact ⟨x, ⟨h1, h2⟩, h3⟩
theorem qsOf_snoc (xs R : List Int) (x : Int) {k : Nat} (hk : keyOf xs x = k) : qsOf xs (R ++ [x]) = upd (qsOf xs R) k (qsOf xs R k ++ [x + 1]) := by
  funext q
  unfold qsOf upd
  rw [List.filter_append, List.map_append]
  by_cases e : q = k
  · subst e; simp [hk]
  · rw [if_neg e]
    have : ¬ keyOf xs x = q := by omega
    simp [this]
theorem qsOf_cons (xs R : List Int) (x : Int) {k : Nat} (hk : keyOf xs x = k) : upd (qsOf xs (x :: R)) k ((qsOf xs (x :: R) k).erase (x + 1)) = qsOf xs R := by
  funext q
  unfold upd
  by_cases e : q = k
  · subst e
    rw [if_pos rfl]
    unfold qsOf
    rw [List.filter_cons_of_pos (by simp [hk]), List.map_cons, List.erase_cons_head]
  · rw [if_neg e]
    unfold qsOf
    rw [List.filter_cons_of_neg (by simp; omega)]
theorem qsOf_head (xs R : List Int) (x : Int) {k : Nat} (hk : keyOf xs x = k) : (qsOf xs (x :: R) k).getD 0 0 = x + 1 := by
  unfold qsOf
  rw [List.filter_cons_of_pos (by simp [hk]), List.map_cons]
  rfl
theorem qsOf_top {xs R : List Int} {x : Int} {k : Nat} (hk : keyOf xs x = k) (h8 : k < 8) (hs : ∀ y ∈ R, keyOf xs y ≤ keyOf xs x) : top (qsOf xs (x :: R)) = some k := by
  refine top_some h8 ?_ (fun j hj hj8 => ?_)
  · intro e
    have : x + 1 ∈ qsOf xs (x :: R) k := qsOf_mem.2 ⟨x, by simp, hk, rfl⟩
    rw [e] at this; cases this
  · rw [List.eq_nil_iff_forall_not_mem]
    intro t ht
    obtain ⟨y, hy, h1, h2⟩ := qsOf_mem.1 ht
    rcases List.mem_cons.1 hy with rfl | hy
    · omega
    · have := hs y hy; omega
theorem qsOf_seek {xs R : List Int} {x : Int} {k : Nat} (hk : keyOf xs x = k) (h8 : k < 8) : seek (qsOf xs (x :: R)) (x + 1) = some k := by
  refine seekTo_some h8 (qsOf_mem.2 ⟨x, by simp, hk, rfl⟩) (fun j hj hm => ?_)
  obtain ⟨y, hy, h1, h2⟩ := qsOf_mem.1 hm
  obtain rfl : y = x := by omega
  omega

/-- The first k places. -/
def upto (k : Nat) : List Int := (List.range k).map Int.ofNat
theorem upto_succ (k : Nat) : upto (k + 1) = upto k ++ [(k : Int)] := by
  unfold upto; rw [List.range_succ, List.map_append]; rfl
theorem upto_len (k : Nat) : (upto k).length = k := by simp [upto]
theorem upto_mem {k : Nat} {x : Int} (h : x ∈ upto k) : ∃ m : Nat, x = m ∧ m < k := by
  unfold upto at h
  rw [List.mem_map] at h
  obtain ⟨m, hm, e⟩ := h
  exact ⟨m, e.symm, List.mem_range.1 hm⟩
theorem upto_seek (xs : List Int) (k : Nat) : seek (qsOf xs (upto k)) ((k : Int) + 1) = none := by
  refine seek_none (fun i hi hm => ?_)
  obtain ⟨y, hy, h1, h2⟩ := qsOf_mem.1 hm
  obtain ⟨m, rfl, hm⟩ := upto_mem hy
  omega

/-- The queues are the same, in whatever order the priorities come. -/
theorem same_qs {xs S0 S : List Int} (h : Same (keyOf xs) S0 S) : qsOf xs S = qsOf xs S0 := by
  funext q
  unfold qsOf
  rw [h.filt]

/-- One round of taking: the first place left. -/
theorem take_one {xs S : List Int} {n j : Nat} (hn : n = xs.length) (h : Same (keyOf xs) (upto n) S) (ho : SortedTo (keyOf xs) S n) (hj : j < n) :
    ∃ (x k : Nat), S.getD j 0 = x ∧ x < n ∧ keyOf xs x = k ∧ k < 8 ∧ top (qsOf xs (S.drop j)) = some k ∧ (qsOf xs (S.drop j) k).getD 0 0 = (x : Int) + 1 ∧ seek (qsOf xs (S.drop j)) ((x : Int) + 1) = some k ∧
      upd (qsOf xs (S.drop j)) k ((qsOf xs (S.drop j) k).erase ((x : Int) + 1)) = qsOf xs (S.drop (j + 1)) := by
  have hl : S.length = n := by rw [h.len, upto_len]
  have hd : S.drop j = S.getD j 0 :: S.drop (j + 1) := by
    rw [List.drop_eq_getElem_cons (by omega)]
    simp [List.getD, show j < S.length by omega]
  have hm : S.getD j 0 ∈ S := by simp [List.getD, show j < S.length by omega]
  obtain ⟨x, hx, hxn⟩ := upto_mem (h.mem hm)
  have k0 := keyOf_lo xs x
  have k8 := keyOf_hi xs x
  obtain ⟨k, hk⟩ : ∃ k : Nat, keyOf xs x = k := ⟨(keyOf xs x).toNat, by omega⟩
  rw [hd, hx]
  refine ⟨x, k, rfl, hxn, hk, by omega, qsOf_top hk (by omega) (fun y hy => ?_), qsOf_head xs _ _ hk, qsOf_seek hk (by omega), qsOf_cons xs _ _ hk⟩
  obtain ⟨i, hi, e⟩ := List.getElem_of_mem hy
  rw [List.getElem_drop] at e
  rw [List.length_drop] at hi
  have := ho j (j + 1 + i) (by omega) (by omega)
  rw [hx] at this
  rw [← e]
  simpa [List.getD, show j + 1 + i < S.length by omega] using this

/-- Class, captured slice and order beside each other. -/
structure Goes (w0 w : World) (p : Nat) (V : Nat → Value) (Q : Qs) (B : Nat) (a : Option Addr) (c : Nat) (xs : List Int) (v : Value) (S : List Int) : Prop where
  mine : Mine w0 w p 0 52 V Q
  box : w.heap[B]? = some (.cells #[.slice a xs.length c] 28 (0, 0))
  nums : Nums w0 (.slice a xs.length c) xs
  row : Ints w w0.heap.size v S
  offp : ∀ g, v.ownBlock = some g → ¬ Foot p V g ∧ g ≠ B
  offB : ¬ Foot p V B

section
variable {w0 w w' : World} {p : Nat} {V V' : Nat → Value} {Q Q' : Qs} {B : Nat} {a : Option Addr} {c : Nat} {xs : List Int} {v v' : Value} {S S' : List Int}
theorem Goes.quiet (h : Goes w0 w p V Q B a c xs v S) (hO : Only (fun _ => False) w w') : Goes w0 w' p V Q B a c xs v S :=
  ⟨h.mine.quiet hO, by rw [hO.block B (block_there h.box) id]; exact h.box, h.nums, h.row.later hO, h.offp, h.offB⟩
theorem Goes.step (h : Goes w0 w p V Q B a c xs v S) (hq : QAt w' p 0 52 V' Q') (hs : Step p 0 V V' w w') : Goes w0 w' p V' Q' B a c xs v S := by
  have hB := block_there h.box
  refine ⟨h.mine.step hq hs, by rw [hs.only.block B hB h.offB]; exact h.box, h.nums, h.row.keep hs.only (fun g hg => (h.offp g hg).1), fun g hg => ⟨fun e => ?_, (h.offp g hg).2⟩, fun e => ?_⟩
  · rcases hs.grow g e with e | e
    · exact (h.offp g hg).1 e
    · have := (h.row.block hg).2; omega
  · rcases hs.grow B e with e | e
    · exact h.offB e
    · omega
theorem Goes.more (h : Goes w0 w p V Q B a c xs v S) (hr : Ints w' w0.heap.size v' S') (hO : Only (fun k => v.ownBlock = some k) w w') (hb : ∀ k, v'.ownBlock = some k → v.ownBlock = some k ∨ w.heap.size ≤ k) : Goes w0 w' p V Q B a c xs v' S' := by
  have hB := block_there h.box
  refine ⟨⟨h.mine.at_.keep hO (fun k hk e => (h.offp k e).1 hk), h.mine.own, h.mine.only.trans hO (fun x hx e => by have := (h.row.block e).1; omega)⟩,
    by rw [hO.block B hB (fun e => (h.offp B e).2 rfl)]; exact h.box, h.nums, hr, fun g hg => ?_, h.offB⟩
  rcases hb g hg with e | e
  · exact h.offp g e
  · exact ⟨fun e2 => by have := h.mine.at_.foot_lt e2; omega, by omega⟩
theorem Goes.cau (h : Goes w0 w p V Q B a c xs v S) : Caught w B a c xs := ⟨h.box, h.nums.later h.mine.only⟩
/-- Behind the sorting. -/
theorem Goes.sorted {g n cap : Nat} {S0 : List Int} (h : Goes w0 w p V Q B a c xs (.slice (some ⟨g, 0, none⟩) n cap) S0) (hs : Srt w w' B a c xs g n cap S0 S) : Goes w0 w' p V Q B a c xs (.slice (some ⟨g, 0, none⟩) n cap) S := by
  have hgb := (h.row.block (g := g) rfl).1
  have hr : Ints w' w0.heap.size (.slice (some ⟨g, 0, none⟩) n cap) S := by
    obtain ⟨h1, h2⟩ := hs.row
    refine ⟨h1, ?_⟩
    rcases h2 with h2 | ⟨g', cap', cur, e, hb, r⟩
    · exact Or.inl h2
    · cases e
      exact Or.inr ⟨g, cap, cur, rfl, hgb, r⟩
  exact h.more hr (hs.only.mono (fun k _ e => by subst e; rfl)) (fun k hk => Or.inl hk)
/-- Ahead of it. -/
theorem Goes.ready {g n cap : Nat} (h : Goes w0 w p V Q B a c xs (.slice (some ⟨g, 0, none⟩) n cap) S) (hx : 0 < xs.length) : Srt w w B a c xs g n cap S S ∧ g ≠ B ∧ ∀ x, a = some x → x.block ≠ g := by
  refine ⟨⟨h.row.base (Nat.zero_le _), h.cau, Same.refl _ _, Only.refl _ _⟩, (h.offp g rfl).2, fun x hx' => ?_⟩
  obtain ⟨b, off, e, hb, -⟩ := h.nums.at (j := 0) hx
  rw [e] at hx'
  cases hx'
  have := (h.row.block (g := g) rfl).1
  show b ≠ g
  omega
end
end Go.Proofs.Ytcnmpgkapedniaa.Pr
