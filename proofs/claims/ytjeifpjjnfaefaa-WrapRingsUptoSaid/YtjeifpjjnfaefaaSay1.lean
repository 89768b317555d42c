/- Lemmas for the walk of ringlaw1.WrapRings: what holds of the ring and of the list of all records while records come. -/
import Derived.Test.YtjeifpjjnfaefaaTwo
namespace Go.Proofs.Ytjeifpjjnfaefaa
open Go.ChangeShapes Go.WideShapes Go.ChangeAt Go.RowKit
set_option linter.unusedVariables false

/-- The records among the first k that are not too long. -/
def good (recs : List (List Int)) (k : Nat) : List (List Int) := (recs.take k).filter fun xs => decide (xs.length ≤ 32)

theorem good_yes (recs : List (List Int)) (k : Nat) (hk : k < recs.length) (h : (recs.getD k []).length ≤ 32) : good recs (k + 1) = good recs k ++ [recs.getD k []] := by
  unfold good
  rw [List.take_add_one, List.filter_append]
  have e : recs[k]? = some (recs.getD k []) := by simp [List.getD, List.getElem?_eq_getElem hk]
  rw [e]
  simp only [Option.toList_some]
  rw [List.filter_cons_of_pos (by simpa using h)]
  rfl

theorem good_no (recs : List (List Int)) (k : Nat) (hk : k < recs.length) (h : 32 < (recs.getD k []).length) : good recs (k + 1) = good recs k := by
  unfold good
  rw [List.take_add_one, List.filter_append]
  have e : recs[k]? = some (recs.getD k []) := by simp [List.getD, List.getElem?_eq_getElem hk]
  rw [e]
  simp only [Option.toList_some]
  rw [List.filter_cons_of_neg (by simpa using h)]
  simp

theorem good_length (recs : List (List Int)) (k : Nat) : (good recs k).length ≤ k := by
  unfold good
  have := List.length_filter_le (fun xs : List Int => decide (xs.length ≤ 32)) (recs.take k)
  simp at this ⊢; omega

theorem good_short (recs : List (List Int)) (k : Nat) : ∀ xs ∈ good recs k, xs.length ≤ 32 := by
  intro xs h
  have := (List.mem_filter.1 h).2
  simpa using this

/-- The list of all records, in a row of the law's own: the slices that came in. -/
def AllAt (B : Nat) (w0 w : World) (v : Value) (gs : List (List Int)) : Prop :=
  ∃ vals : List Value, vals.length = gs.length ∧ w.ownsRow B 35 1 v gs.length vals ∧ ∀ j, j < gs.length → RecAt w0 (vals.getD j (.slice none 0 0)) (gs.getD j [])

/-- The ring and the list. -/
def Both (B : Nat) (w0 w : World) (p : Nat) (size : Nat) (next : Int) (v : Value) (gs : List (List Int)) : Prop :=
  (∃ V, RingAt (· < w.heap.size) B w p V size next (lastN size gs) ∧ ∀ g, v.ownBlock = some g → V.ownBlock ≠ some g) ∧ AllAt B w0 w v gs

/-- The same behind a Put, ahead of the list's append. -/
def Behind (B : Nat) (w0 w : World) (p : Nat) (size : Nat) (next : Int) (v : Value) (gs : List (List Int)) (rs : List (List Int)) : Prop :=
  (∃ V, RingAt (· < w.heap.size) B w p V size next rs ∧ ∀ g, v.ownBlock = some g → V.ownBlock ≠ some g) ∧ AllAt B w0 w v gs

section
variable {B p size : Nat} {next : Int} {v vb : Value} {gs : List (List Int)} {xs : List Int} {w0 w w1 w3 : World}

theorem both_put (h : Both B w0 w p size next v gs) (hby : Bytes w vb xs) (hxs : xs.length ≤ 32) (hs1 : 1 ≤ size) (hs2 : size ≤ 64) (hn : 0 ≤ next ∧ next < 4294967296) :
    Calls Try.prog 16 #[.pointer (some ⟨p, 0, none⟩), vb] w fun e w' => e = .returned (.tuple #[.int .u32 next, .int .i64 0]) ∧ Behind B w0 w' p size ((next + 1) % 4294967296) v gs (lastN size (gs ++ [xs])) ∧ Below B w w' := by
  obtain ⟨⟨V, hr, hd⟩, vals, hv, ho, hrec⟩ := h
  have hBw : B ≤ w.heap.size := Nat.le_trans hr.low (Nat.le_of_lt hr.lt)
  refine (put_any _ B p V vb size next _ xs w hr hby hxs hs1 hs2 (by rw [lastN_length]; omega) hn hBw).mono ?_
  rintro e w' ⟨rfl, V', hr', hO, hV⟩
  rw [pushed_lastN size hs1] at hr'
  refine ⟨rfl, ⟨⟨V', hr'.there, fun g hg e => ?_⟩, vals, hv, owns_kept ho hO (fun k hk e => ?_), hrec⟩, only_below hr hO⟩
  · rcases hV g e with h1 | h1
    · exact hd g hg h1
    · have := (ho.lt g hg).2; omega
  · rcases e with rfl | e
    · obtain ⟨cur, hc⟩ := owns_type ho hk
      rw [hr.self] at hc; cases hc
    · exact hd k hk e

/-- The list's append leaves the ring. -/
theorem behind_append {rs : List (List Int)} {g cap : Nat} {vals : List Value} (h : ∃ V, RingAt (· < w.heap.size) B w p V size next rs ∧ ∀ g, v.ownBlock = some g → V.ownBlock ≠ some g)
    (hv : vals.length = gs.length) (ho : w.ownsRow B 35 1 v gs.length vals) (hrec : ∀ j, j < gs.length → RecAt w0 (vals.getD j (.slice none 0 0)) (gs.getD j [])) (hx : RecAt w0 vb xs) (he : rs = lastN size (gs ++ [xs]))
    (ho3 : w3.ownsRow B 35 1 (.slice (some ⟨g, 0, none⟩) (gs.length + 1) cap) (gs.length + 1) (vals ++ [vb])) (hg : (w.alloc (.cells #[vb] 35)).grownBy w3 v.ownBlock) (hat : v.ownBlock = some g ∨ g = (w.alloc (.cells #[vb] 35)).heap.size) :
    Both B w0 w3 p size next (.slice (some ⟨g, 0, none⟩) (gs.length + 1) cap) (gs ++ [xs]) ∧ Below B w w3 := by
  obtain ⟨V, hr, hd⟩ := h
  subst he
  have hBw : B ≤ w.heap.size := Nat.le_trans hr.low (Nat.le_of_lt hr.lt)
  have hO : Only (fun k => v.ownBlock = some k) w w3 := ((Only.refl (fun k => v.ownBlock = some k) w).alloc _).trans (Only.of_grown (S := fun k => v.ownBlock = some k) hg (fun k hk => hk)) (fun _ _ h => h)
  have hr3 : RingAt (· < w.heap.size) B w3 p V size next (lastN size (gs ++ [xs])) := by
    obtain ⟨vs, hvs, hown, hrr⟩ := hr.rows
    refine ⟨hr.low, ?_, vs, hvs, owns_kept hown hO (fun k hk e => hd k e hk), fun j hj => ⟨owns_kept (hrr j hj).1 hO (fun k hk e => ?_), (hrr j hj).2⟩⟩
    · rw [hO.block p hr.lt (fun e => ?_)]
      · exact hr.self
      · obtain ⟨cur, hc⟩ := owns_type ho e
        rw [hr.self] at hc; cases hc
    · obtain ⟨cur, hc⟩ := owns_type (hrr j hj).1 hk
      obtain ⟨cur2, hc2⟩ := owns_type ho e
      rw [hc] at hc2; cases hc2
  refine ⟨⟨⟨V, hr3.there, fun g' hg' e => ?_⟩, vals ++ [vb], by simp [hv], by rw [List.length_append]; exact ho3, fun j hj => ?_⟩, hO.below hBw (fun k hk => (ho.lt k hk).1)⟩
  · cases hg'
    rcases hat with h1 | h1
    · exact hd g h1 e
    · have h2 := (own_lt hr g e).2
      have h3 : (w.alloc (.cells #[vb] 35)).heap.size = w.heap.size + 1 := by simp
      omega
  · simp only [List.length_append, List.length_singleton] at hj
    by_cases hj2 : j < gs.length
    · have e1 : (vals ++ [vb]).getD j (.slice none 0 0) = vals.getD j (.slice none 0 0) := by simp [List.getD, List.getElem?_append_left (show j < vals.length by omega)]
      have e2 : (gs ++ [xs]).getD j [] = gs.getD j [] := by simp [List.getD, List.getElem?_append_left hj2]
      rw [e1, e2]; exact hrec j hj2
    · have e0 : j = gs.length := by omega
      have e1 : (vals ++ [vb]).getD j (.slice none 0 0) = vb := by subst e0; simp [List.getD, ← hv]
      have e2 : (gs ++ [xs]).getD j [] = xs := by subst e0; simp [List.getD]
      rw [e1, e2]; exact hx

theorem Both.later (h : Both B w0 w p size next v gs) (hb : Below w.heap.size w w1) : Both B w0 w1 p size next v gs := by
  obtain ⟨⟨V, hr, hd⟩, vals, hv, ho, hrec⟩ := h
  exact ⟨⟨V, (hr.later hb).there, hd⟩, vals, hv, owns_kept ho (Only.of_below (S := fun _ => False) hb) (fun _ _ h => h), hrec⟩

theorem Both.shape (h : Both B w0 w p size next v gs) : ∃ a c, v = .slice a gs.length c ∧ gs.length ≤ c ∧ c ≤ maxLen ∧ (a = none ∧ c = 0 ∧ gs.length = 0 ∨ ∃ g, a = some ⟨g, 0, none⟩) := by
  obtain ⟨_, vals, hv, ho, hrec⟩ := h
  rcases ho.2 with ⟨rfl, h0⟩ | ⟨g, cap, cur, rfl, _, _, h1, h2, _⟩
  · exact ⟨none, 0, by rw [h0], by omega, by unfold maxLen; omega, Or.inl ⟨rfl, rfl, h0⟩⟩
  · exact ⟨some ⟨g, 0, none⟩, cap, rfl, h1, h2, Or.inr ⟨g, rfl⟩⟩

theorem Both.record {g c : Nat} (h : Both B w0 w p size next (.slice (some ⟨g, 0, none⟩) gs.length c) gs) (j : Nat) (hj : j < gs.length) : ∃ u, w.cell? ⟨g, j, none⟩ = some u ∧ RecAt w0 u (gs.getD j []) := by
  obtain ⟨_, vals, hv, ho, hrec⟩ := h
  refine ⟨vals.getD j (.slice none 0 0), ?_, hrec j hj⟩
  rw [ho.cellAt j (by omega)]
  simp [List.getD, List.getElem?_eq_getElem (show j < vals.length by omega)]

/-- What is left of the list from a place on, as it is read. -/
theorem Both.rest {g c : Nat} (h : Both B w0 w p size next (.slice (some ⟨g, 0, none⟩) gs.length c) gs) (hb : Below w0.heap.size w0 w) (j : Nat) (hj : j ≤ gs.length) (hc : gs.length ≤ c) (c' : Nat) :
    ReadRows w (.slice (if c = j then some ⟨g, 0, none⟩ else some ⟨g, j, none⟩) (gs.length - j) c') (gs.drop j) := by
  refine ⟨_, c', by rw [List.length_drop], fun i hi => ?_⟩
  rw [List.length_drop] at hi
  obtain ⟨u, hu, a, c2, rfl, _, _, hby, _⟩ := h.record (j + i) (by omega)
  have e : (gs.drop j).getD i [] = gs.getD (j + i) [] := by simp [List.getD]
  rw [e]
  exact ⟨g, j, _, if_neg (by omega), hu, hby.later hb⟩

theorem both_span (h : Both B w0 w p size next v gs) (hn : 0 ≤ next ∧ next < 4294967296) (hs : size ≤ 64) {lo : Int} (hlo : lo = oldest next (min gs.length size)) :
    Calls Try.prog 17 #[.pointer (some ⟨p, 0, none⟩)] w fun e w' => e = .returned (.tuple #[.int .u32 lo, .int .u32 next]) ∧ ∃ k, w' = w.drewN k := by
  obtain ⟨⟨V, hr, hd⟩, _⟩ := h
  obtain ⟨a, c, rfl, _⟩ := hr.shape
  have hs' := hr.self
  rw [lastN_length] at hs'
  subst hlo
  exact span_any p size next a _ c w (by omega) hn hs'

theorem both_get_none (h : Both B w0 w p size next v gs) (hn : 0 ≤ next ∧ next < 4294967296) (hs : size ≤ 64) (n : Int) (hp : ((min gs.length size : Nat) : Int) ≤ placeOf next (min gs.length size) n) :
    Calls Try.prog 18 #[.pointer (some ⟨p, 0, none⟩), .int .u32 n] w fun e w' => e = .returned (.tuple #[.slice none 0 0, .int .i64 4]) ∧ Below w.heap.size w w' := by
  obtain ⟨⟨V, hr, hd⟩, _⟩ := h
  refine (get_none _ B p V size next n _ w hr (by rw [lastN_length]; omega) hn (by rw [lastN_length]; exact hp)).mono ?_
  rintro e w' ⟨rfl, k, rfl⟩
  exact ⟨rfl, drewN_below (Below.refl _ _) _⟩

theorem both_get_some (h : Both B w0 w p size next v gs) (hn : 0 ≤ next ∧ next < 4294967296) (hs : size ≤ 64) (n : Int) (j : Nat) (hj : j < min gs.length size) (hp : placeOf next (min gs.length size) n = j) (hx : (lastN size gs).getD j [] = xs) (hxl : xs.length ≤ 32) :
    Calls Try.prog 18 #[.pointer (some ⟨p, 0, none⟩), .int .u32 n] w fun e w' => ∃ a c, e = .returned (.tuple #[.slice a xs.length c, .int .i64 0]) ∧ Bytes w' (.slice a xs.length c) xs ∧ Below w.heap.size w w' := by
  obtain ⟨⟨V, hr, hd⟩, _⟩ := h
  have hL := lastN_length size gs
  refine (get_some _ B p V size next n _ j w hr (by omega) hn (by omega) (by rw [hL]; exact hp) (by rw [hx]; omega)).mono ?_
  rintro e w' ⟨v, rfl, ho, hb⟩
  rw [hx] at ho
  obtain ⟨a, c, rfl⟩ := slice_of_bytes ho
  exact ⟨a, c, rfl, ho.bytes, hb⟩

theorem both_from_none (h : Both B w0 w p size next v gs) (hn : 0 ≤ next ∧ next < 4294967296) (hs : size ≤ 64) (n : Int) (hp : ((min gs.length size : Nat) : Int) < placeOf next (min gs.length size) n) :
    Calls Try.prog 20 #[.pointer (some ⟨p, 0, none⟩), .int .u32 n] w fun e w' => e = .returned (.tuple #[.slice none 0 0, .int .i64 4]) ∧ Below w.heap.size w w' := by
  obtain ⟨⟨V, hr, hd⟩, _⟩ := h
  refine (from_none _ B p V size next n _ w hr (by rw [lastN_length]; omega) hn (by rw [lastN_length]; exact hp)).mono ?_
  rintro e w' ⟨rfl, k, rfl⟩
  exact ⟨rfl, drewN_below (Below.refl _ _) _⟩

theorem both_from_some (h : Both B w0 w p size next v gs) (hn : 0 ≤ next ∧ next < 4294967296) (hs : size ≤ 64) (n : Int) (j : Nat) (hj : j ≤ min gs.length size) (hp : placeOf next (min gs.length size) n = j) (hsh : ∀ xs ∈ gs, xs.length ≤ 32) :
    Calls Try.prog 20 #[.pointer (some ⟨p, 0, none⟩), .int .u32 n] w fun e w' => ∃ u, e = .returned (.tuple #[u, .int .i64 0]) ∧ ReadRows w' u ((lastN size gs).drop j) ∧ Below w.heap.size w w' := by
  obtain ⟨⟨V, hr, hd⟩, _⟩ := h
  have hL := lastN_length size gs
  have fin : Calls Try.prog 20 #[.pointer (some ⟨p, 0, none⟩), .int .u32 n] w (FromAnswer ((lastN size gs).drop j) w) := by
    obtain ⟨vals, hv, hown, hrr⟩ := hr.rows
    rcases hown.2 with ⟨rfl, hz⟩ | ⟨g, c, cur, rfl, _⟩
    · have h0 : lastN size gs = [] := List.eq_nil_of_length_eq_zero hz
      have hr' := hr
      rw [h0] at hr' ⊢
      have hj0 : j = 0 := by omega
      have hm0 : min gs.length size = 0 := by omega
      rw [hm0, hj0] at hp
      rw [List.drop_nil]
      exact from_empty _ B p 0 size next n w hr' hn hp
    · exact from_some _ B p g c size next n _ j w hr (by omega) hn (by omega) (by rw [hL]; exact hp) (fun xs h => by have := hsh xs (lastN_mem h); omega)
  refine fin.mono ?_
  rintro e w' ⟨u, rfl, hrr, hb⟩
  exact ⟨u, rfl, hrr.read, hb⟩
end
end Go.Proofs.Ytjeifpjjnfaefaa
