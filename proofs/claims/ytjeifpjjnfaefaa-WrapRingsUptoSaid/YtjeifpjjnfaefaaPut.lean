/- The contract of Put: a record comes behind the others, and the first one goes where there is no room. -/
import Derived.Test.YtjeifpjjnfaefaaDel
import Derived.Deep.DeepCutAuto
namespace Go.Proofs.Ytjeifpjjnfaefaa
open Go.ChangeShapes Go.WideShapes Go.ChangeAt Go.RowKit
set_option linter.unusedVariables false

/-- The records behind a Put. -/
def pushed (size : Nat) (recs : List (List Int)) (xs : List Int) : List (List Int) := if size < recs.length + 1 then (recs ++ [xs]).drop 1 else recs ++ [xs]

/-- What is known of the first of two results, and of memory, behind a Put. -/
def PutAnswer (M : Nat → Prop) (B p : Nat) (V : Value) (size : Nat) (next : Int) (recs : List (List Int)) (w : World) (e : Ending) (w' : World) : Prop :=
  e = .returned (.tuple #[.int .u32 next, .int .i64 0]) ∧ ∃ V', RingAt (fun k => M k ∨ w.heap.size ≤ k) B w' p V' size ((next + 1) % 4294967296) recs ∧
    Only (fun k => k = p ∨ V.ownBlock = some k) w w' ∧ (∀ k, V'.ownBlock = some k → V.ownBlock = some k ∨ w.heap.size ≤ k)

theorem put_large (p : Addr) (vb : Value) (xs : List Int) (w : World) (h : Bytes w vb xs) (hn : 32 < xs.length) (hm : xs.length ≤ 9223372036854775807) :
    Calls Try.prog 16 #[.pointer (some p), vb] w fun e w' => e = .returned (.tuple #[.int .u32 0, .int .i64 2]) ∧ w = w' := by
  obtain ⟨a, cap, rfl, -, -⟩ := h
  go_enter Try.func16, Try.ntmps16
  go_wp2
  go_ret2
  exact ⟨rfl, rfl⟩

/-- What is known behind Clone, in Put. -/
def Cloned (H p : Nat) (V : Value) (xs : List Int) (w : World) (e : Ending) (w1 : World) : Prop :=
  ∃ a1 c1, e = .returned (.slice a1 xs.length c1) ∧ w1.cell? ⟨p, 2, none⟩ = some V ∧ w1.frozen? ⟨p, 2, none⟩ = false ∧ p < w1.heap.size ∧ H ≤ w1.heap.size ∧ OwnBytes w1 H (.slice a1 xs.length c1) xs ∧ Below H w w1

theorem frozen_at {w : World} {p : Nat} {cs : Array Value} {t : TypeId} (h : w.heap[p]? = some (.cells cs t (0, 0))) (j : Nat) : w.frozen? ⟨p, j, none⟩ = false := by
  simp [World.frozen?, h]

section
variable {M : Nat → Prop} {B : Nat} {w w' : World} {p : Nat} {V : Value} {size : Nat} {next : Int} {recs : List (List Int)}
theorem slice_of_bytes {w : World} {base : Nat} {v : Value} {xs : List Int} (h : OwnBytes w base v xs) : ∃ a c, v = .slice a xs.length c := by
  obtain ⟨a, c, rfl, _⟩ := h.bytes
  exact ⟨a, c, rfl⟩

theorem cloned {xs : List Int} {e : Ending} {w1 : World} (h : RingAt M B w p V size next recs) (hW : w'.heap = w.heap) (hB : Below w.heap.size w w') (hc : BytesAnswer xs w' e w1) : Cloned w.heap.size p V xs w e w1 := by
  obtain ⟨v1, rfl, ho, hb⟩ := hc
  have hs : w'.heap.size = w.heap.size := by rw [hW]
  rw [hs] at ho hb
  have hb' : Below w.heap.size w w1 := hB.trans hb
  have h1 := h.later hb'
  obtain ⟨a1, c1, rfl⟩ := slice_of_bytes ho
  exact ⟨a1, c1, rfl, by rw [cell_at h1.self]; rfl, frozen_at h1.self 2, h1.lt, hb'.size, ho, hb'⟩
end

/-- The ring behind the append and the store, in Put. -/
def Stored (M : Nat → Prop) (B p : Nat) (V : Value) (size : Nat) (next : Int) (recs : List (List Int)) (n g cap : Nat) (w w4 : World) : Prop :=
  RingAt (fun k => M k ∨ w.heap.size ≤ k) B w4 p (.slice (some ⟨g, 0, none⟩) n cap) size next recs ∧ Only (fun k => k = p ∨ V.ownBlock = some k) w w4 ∧ (V.ownBlock = some g ∨ w.heap.size ≤ g)

/-- What is known behind Delete at a ring's records. -/
def Shrunk (M : Nat → Prop) (B p g n cap : Nat) (size : Nat) (next : Int) (recs : List (List Int)) (w : World) (e : Ending) (w' : World) : Prop :=
  e = .returned (.slice (some ⟨g, 0, none⟩) n cap) ∧ w'.cell? ⟨p, 1, none⟩ = some (.int .u32 next) ∧ (∃ u, w'.cell? ⟨p, 2, none⟩ = some u) ∧ w'.frozen? ⟨p, 1, none⟩ = false ∧ w'.frozen? ⟨p, 2, none⟩ = false ∧
    RingAt M B (w'.setCell ⟨p, 2, none⟩ (.slice (some ⟨g, 0, none⟩) n cap)) p (.slice (some ⟨g, 0, none⟩) n cap) size next (recs.drop 1) ∧ Only (· = g) w w'

theorem one_of_bytes {w : World} {base : Nat} {v : Value} {xs : List Int} (h : OwnBytes w base v xs) : v.oneCell' = true := by
  rcases h.2 with ⟨rfl, _⟩ | ⟨g, c, cur, rfl, _⟩ <;> rfl

theorem ring_store {M : Nat → Prop} {B p : Nat} {V V' : Value} {size : Nat} {next : Int} {recs' : List (List Int)} {w : World} {vals : List Value} (hp : B ≤ p)
    (hs : w.heap[p]? = some (.cells #[.int .i64 size, .int .u32 next, V] 59 (0, 0))) (hv : vals.length = recs'.length) (ho : w.ownsRow B 35 1 V' recs'.length vals)
    (hr : ∀ j, j < recs'.length → OwnBytes w B (vals.getD j (.slice none 0 0)) (recs'.getD j []) ∧ ∀ k, (vals.getD j (.slice none 0 0)).ownBlock = some k → M k) :
    RingAt M B (w.setCell ⟨p, 2, none⟩ V') p V' size next recs' ∧ Only (· = p) w (w.setCell ⟨p, 2, none⟩ V') := by
  have hO : Only (· = p) w (w.setCell ⟨p, 2, none⟩ V') := Only.setCell (S := fun x => x = p) (Only.refl _ w) (p := ⟨p, 2, none⟩) rfl _
  refine ⟨⟨hp, ?_, vals, hv, owns_kept ho hO ?_, fun j hj => ⟨owns_kept (hr j hj).1 hO ?_, (hr j hj).2⟩⟩, hO⟩
  · rw [heap_setCell_same w p 2 _ 59 _ hs]; rfl
  · rintro k hk rfl
    obtain ⟨cur, hc⟩ := owns_type ho hk
    rw [hs] at hc; cases hc
  · rintro k hk rfl
    obtain ⟨cur, hc⟩ := owns_type (hr j hj).1 hk
    rw [hs] at hc; cases hc

theorem ring_next {M : Nat → Prop} {B p : Nat} {V : Value} {size : Nat} {next : Int} {recs : List (List Int)} {w : World} (n' : Int) (h : RingAt M B w p V size next recs) :
    RingAt M B (w.setCell ⟨p, 1, none⟩ (.int .u32 n')) p V size n' recs ∧ Only (· = p) w (w.setCell ⟨p, 1, none⟩ (.int .u32 n')) := by
  have hO : Only (· = p) w (w.setCell ⟨p, 1, none⟩ (.int .u32 n')) := Only.setCell (S := fun x => x = p) (Only.refl _ w) (p := ⟨p, 1, none⟩) rfl _
  obtain ⟨vals, hv, ho, hr⟩ := h.rows
  refine ⟨⟨h.low, ?_, vals, hv, owns_kept ho hO ?_, fun j hj => ⟨owns_kept (hr j hj).1 hO ?_, (hr j hj).2⟩⟩, hO⟩
  · rw [heap_setCell_same w p 1 _ 59 _ h.self]; rfl
  · rintro k hk rfl
    obtain ⟨cur, hc⟩ := owns_type ho hk
    rw [h.self] at hc; cases hc
  · rintro k hk rfl
    obtain ⟨cur, hc⟩ := owns_type (hr j hj).1 hk
    rw [h.self] at hc; cases hc

theorem del_in_ring {M : Nat → Prop} {B p g n cap : Nat} {size : Nat} {next : Int} {recs : List (List Int)} {w : World} (hR : RingAt M B w p (.slice (some ⟨g, 0, none⟩) (n + 1) cap) size next recs) (hn : recs.length = n + 1) (hb : n ≤ 1000)
    (k : Nat) : Calls Try.prog 30 #[.slice (some ⟨g, 0, none⟩) (n + 1) cap, .int .i64 0, .int .i64 1] (w.drewN k) (Shrunk M B p g n cap size next recs w) := by
  have hR' := hR.drewN k
  obtain ⟨vals, hv, ho, hr⟩ := hR'.rows
  rw [hn] at ho
  have hone : ∀ v ∈ vals, v.oneCell' = true := by
    intro v hv'
    obtain ⟨j, hj, rfl⟩ := List.getElem_of_mem hv'
    have := one_of_bytes (hr j (by omega)).1
    simpa [List.getD, List.getElem?_eq_getElem hj] using this
  refine (delete_first B g n cap vals (w.drewN k) ho hb hone).mono ?_
  rintro e w' ⟨rfl, ho', hO⟩
  have hgp : ¬ p = g := by
    rintro rfl
    obtain ⟨cur, hc⟩ := owns_type ho rfl
    rw [hR'.self] at hc; cases hc
  have hself : w'.heap[p]? = _ := (hO.block p hR'.lt hgp).trans hR'.self
  have hlen : (recs.drop 1).length = n := by simp; omega
  have hst := ring_store (M := M) (recs' := recs.drop 1) (vals := vals.drop 1) hR'.low hself (by simp; omega) (by rw [hlen]; exact ho') (fun j hj => by
    rw [hlen] at hj
    have := hr (j + 1) (by omega)
    have e1 : (vals.drop 1).getD j (.slice none 0 0) = vals.getD (j + 1) (.slice none 0 0) := by simp [List.getD]
    have e2 : (recs.drop 1).getD j [] = recs.getD (j + 1) [] := by simp [List.getD]
    rw [e1, e2]
    refine ⟨owns_kept this.1 hO ?_, this.2⟩
    rintro k hk rfl
    obtain ⟨cur, hc⟩ := owns_type this.1 hk
    obtain ⟨cur2, hc2⟩ := owns_type ho rfl
    rw [hc] at hc2; cases hc2)
  exact ⟨rfl, by rw [cell_at hself]; rfl, ⟨_, by rw [cell_at hself]; rfl⟩, frozen_at hself 1, frozen_at hself 2, hst.1, ⟨hO.os, hO.tape, hO.output, hO.size, hO.block⟩⟩

theorem put_world {M : Nat → Prop} {B p g cap : Nat} {V v1 : Value} {size : Nat} {next : Int} {recs : List (List Int)} {xs : List Int} {vals : List Value} {w w1 w3 : World} (hR : RingAt M B w p V size next recs)
    (hb1 : Below w.heap.size w w1) (hv1 : OwnBytes w1 w.heap.size v1 xs) (ho1 : w1.ownsRow B 35 1 V recs.length vals)
    (hx : ∀ j, j < recs.length → OwnBytes w B (vals.getD j (.slice none 0 0)) (recs.getD j []) ∧ ∀ k, (vals.getD j (.slice none 0 0)).ownBlock = some k → M k) (hvl : vals.length = recs.length)
    (ho3 : w3.ownsRow B 35 1 (.slice (some ⟨g, 0, none⟩) (recs.length + 1) cap) (recs.length + 1) (vals ++ [v1])) (hg : (w1.alloc (.cells #[v1] 35)).grownBy w3 V.ownBlock) (hat : V.ownBlock = some g ∨ g = (w1.alloc (.cells #[v1] 35)).heap.size) :
    w3.cell? ⟨p, 2, none⟩ = some V ∧ w3.frozen? ⟨p, 2, none⟩ = false ∧ Stored M B p V size next (recs ++ [xs]) (recs.length + 1) g cap w (w3.setCell ⟨p, 2, none⟩ (.slice (some ⟨g, 0, none⟩) (recs.length + 1) cap)) := by
  have hp1 := hR.later hb1
  have hV : ∀ k, V.ownBlock = some k → k < w.heap.size := fun k hk => by
    obtain ⟨vals0, _, ho0, _⟩ := hR.rows
    exact (ho0.lt k hk).2
  have hpV : ∀ k, V.ownBlock = some k → k ≠ p := by
    rintro k hk rfl
    obtain ⟨cur, hc⟩ := owns_type ho1 hk
    rw [hp1.self] at hc; cases hc
  have hO1 : Only (fun _ => False) w (w1.alloc (.cells #[v1] 35)) := (Only.of_below hb1).alloc _
  have hO3 : Only (fun k => V.ownBlock = some k) w w3 := (hO1.mono (T := fun k => V.ownBlock = some k) (fun _ _ h => h.elim)).trans (Only.of_grown (S := fun k => V.ownBlock = some k) hg (fun k hk => hk)) (fun _ _ h => h) 
  have hself : w3.heap[p]? = some (.cells #[.int .i64 size, .int .u32 next, V] 59 (0, 0)) := (hO3.block p hR.lt (fun e => hpV p e rfl)).trans hR.self
  have hrow : ∀ {u : Value} {ys : List Int}, OwnBytes w B u ys → OwnBytes w3 B u ys := fun {u ys} h => owns_kept h hO3 (fun k hk e => by
    obtain ⟨cur, hc⟩ := owns_type h hk
    obtain ⟨vals0, _, ho0, _⟩ := hR.rows
    obtain ⟨cur2, hc2⟩ := owns_type ho0 e
    rw [hc] at hc2; cases hc2)
  have hBw : B ≤ w.heap.size := Nat.le_trans hR.low (Nat.le_of_lt hR.lt)
  have hnew : OwnBytes w3 B v1 xs := by
    have h1 : OwnBytes (w1.alloc (.cells #[v1] 35)) w.heap.size v1 xs := owns_kept hv1 ((Only.refl (fun _ => False) w1).alloc _) (fun _ _ h => h)
    have h2 : OwnBytes w3 w.heap.size v1 xs := owns_kept h1 (Only.of_grown (S := fun k => V.ownBlock = some k) hg (fun k hk => hk)) (fun k hk e => by
      have := (hv1.lt k hk).1
      have := hV k e
      omega)
    exact owns_base h2 hBw
  obtain ⟨h1, h2⟩ := ring_store (M := fun k => M k ∨ w.heap.size ≤ k) (recs' := recs ++ [xs]) (vals := vals ++ [v1]) hR.low hself (by simp [hvl]) (by rw [List.length_append]; exact ho3) (fun j hj => by
    simp only [List.length_append, List.length_singleton] at hj
    by_cases hj2 : j < recs.length
    · have e1 : (vals ++ [v1]).getD j (.slice none 0 0) = vals.getD j (.slice none 0 0) := by simp [List.getD, List.getElem?_append_left (show j < vals.length by omega)]
      have e2 : (recs ++ [xs]).getD j [] = recs.getD j [] := by simp [List.getD, List.getElem?_append_left hj2]
      rw [e1, e2]
      exact ⟨hrow (hx j hj2).1, fun k hk => Or.inl ((hx j hj2).2 k hk)⟩
    · have e0 : j = recs.length := by omega
      have e1 : (vals ++ [v1]).getD j (.slice none 0 0) = v1 := by subst e0; simp [List.getD, ← hvl]
      have e2 : (recs ++ [xs]).getD j [] = xs := by subst e0; simp [List.getD]
      rw [e1, e2]
      exact ⟨hnew, fun k hk => Or.inr (hv1.lt k hk).1⟩)
  refine ⟨by rw [cell_at hself]; rfl, frozen_at hself 2, h1, ?_, ?_⟩
  · exact (hO3.mono (T := fun k => k = p ∨ V.ownBlock = some k) (fun _ _ h => Or.inr h)).trans h2 (fun _ _ h => Or.inl h)
  · rcases hat with h | h
    · exact Or.inl h
    · right
      have e : (w1.alloc (.cells #[v1] 35)).heap.size = w1.heap.size + 1 := by simp
      have := hb1.size
      omega

def StoredAt (M : Nat → Prop) (B p : Nat) (V : Value) (size : Nat) (next : Int) (recs : List (List Int)) (n : Nat) (w w4 : World) : Prop := ∃ g c, Stored M B p V size next recs n g c w w4

theorem only_drewN {S : Nat → Prop} {a w : World} (h : Only S a w) (n : Nat) : Only S a (w.drewN n) := ⟨h.os, h.tape, h.output, h.size, h.block⟩

theorem block_cases {w : World} {V : Value} {g n c : Nat} (h : V.ownBlock = some g ∨ w.heap.size ≤ g) : ∀ k, (Value.slice (some ⟨g, 0, none⟩) n c).ownBlock = some k → V.ownBlock = some k ∨ w.heap.size ≤ k := by
  rintro k hk
  cases hk
  exact h

theorem put_full {M : Nat → Prop} {B p g n c : Nat} {V : Value} {size : Nat} {next next' : Int} {recs recs' : List (List Int)} {w wc w5 : World} (hS : Stored M B p V size next recs (n + 1) g c w wc) (hO5 : Only (fun x => x = g) wc w5)
    (h5 : RingAt (fun k => M k ∨ w.heap.size ≤ k) B (w5.setCell ⟨p, 2, none⟩ (.slice (some ⟨g, 0, none⟩) n c)) p (.slice (some ⟨g, 0, none⟩) n c) size next recs') :
    ∃ V', RingAt (fun k => M k ∨ w.heap.size ≤ k) B ((w5.setCell ⟨p, 2, none⟩ (.slice (some ⟨g, 0, none⟩) n c)).setCell ⟨p, 1, none⟩ (.int .u32 next')) p V' size next' recs' ∧
      Only (fun k => k = p ∨ V.ownBlock = some k) w ((w5.setCell ⟨p, 2, none⟩ (.slice (some ⟨g, 0, none⟩) n c)).setCell ⟨p, 1, none⟩ (.int .u32 next')) ∧ ∀ k, V'.ownBlock = some k → V.ownBlock = some k ∨ w.heap.size ≤ k := by
  obtain ⟨hr, ho, hg⟩ := hS
  obtain ⟨h6, h7⟩ := ring_next next' h5
  refine ⟨_, h6, ?_, block_cases hg⟩
  have t1 : Only (fun k => k = p ∨ V.ownBlock = some k) w w5 := ho.trans hO5 (fun x hx e => by subst e; rcases hg with hg | hg; exact Or.inr hg; omega)
  exact (Only.setCell (S := fun k => k = p ∨ V.ownBlock = some k) (Only.setCell (S := fun k => k = p ∨ V.ownBlock = some k) t1 (p := ⟨p, 2, none⟩) (Or.inl rfl) _) (p := ⟨p, 1, none⟩) (Or.inl rfl) _)

theorem put_room {M : Nat → Prop} {B p g n c : Nat} {V : Value} {size : Nat} {next next' : Int} {recs : List (List Int)} {w wc : World} (k : Nat) (hS : Stored M B p V size next recs n g c w wc) :
    ∃ V', RingAt (fun k => M k ∨ w.heap.size ≤ k) B ((wc.drewN k).setCell ⟨p, 1, none⟩ (.int .u32 next')) p V' size next' recs ∧
      Only (fun k => k = p ∨ V.ownBlock = some k) w ((wc.drewN k).setCell ⟨p, 1, none⟩ (.int .u32 next')) ∧ ∀ k, V'.ownBlock = some k → V.ownBlock = some k ∨ w.heap.size ≤ k := by
  obtain ⟨hr, ho, hg⟩ := hS
  obtain ⟨h6, h7⟩ := ring_next next' (hr.drewN k)
  exact ⟨_, h6, Only.setCell (S := fun k => k = p ∨ V.ownBlock = some k) (only_drewN ho k) (p := ⟨p, 1, none⟩) (Or.inl rfl) _, block_cases hg⟩

theorem ret_next {next : Int} (h : 0 ≤ next ∧ next < 4294967296) : Ending.returned (.tuple #[.int .u32 (((next + 1) % 4294967296 - 1) % 4294967296), .int .i64 0]) = .returned (.tuple #[.int .u32 next, .int .i64 0]) := by
  rw [show ((next + 1) % 4294967296 - 1) % 4294967296 = next by omega]

set_option maxHeartbeats 2000000 in
theorem put_any (M : Nat → Prop) (B p : Nat) (V vb : Value) (size : Nat) (next : Int) (recs : List (List Int)) (xs : List Int) (w : World) (hR : RingAt M B w p V size next recs) (hby : Bytes w vb xs)
    (hxs : xs.length ≤ 32) (hs1 : 1 ≤ size) (hs2 : size ≤ 64) (hrl : recs.length ≤ size) (hnx : 0 ≤ next ∧ next < 4294967296) (hB : B ≤ w.heap.size) :
    Calls Try.prog 16 #[.pointer (some ⟨p, 0, none⟩), vb] w (PutAnswer M B p V size next (pushed size recs xs) w) := by
  obtain ⟨i0, hi, hz0, hz1, hz2⟩ := info_parts Try.info35
  have hbyd : Bytes w.drew vb xs := hby
  have CL := Lib.hid ((clone_any vb xs w.drew hbyd (by omega)).mono (fun e w1 h => cloned (w := w) (w' := w.drew) hR rfl (Below.refl _ _).drew h))
  obtain ⟨a, cap, rfl, -, -⟩ := hby
  obtain ⟨vals, hvl, hown, hrows⟩ := hR.rows
  have c2 : w.cell? ⟨p, 2, none⟩ = some V := by rw [cell_at hR.self]; rfl
  have HR := Lib.hid hR
  have HO := Lib.hid hown
  have HX := Lib.hid hrows
  clear hR hown hrows hbyd
  go_enter Try.func16, Try.ntmps16
  go_upto_region 3 with fail
  go_cut [0] (fun s0 wx => s0 = .pointer (some ⟨p, 0, none⟩) ∧ StoredAt M B p V size next (recs ++ [xs]) (recs.length + 1) w wx)
  case first =>
   go_region_law (first
    | (go_simp; go_at_call 29; refine CL.out.mono ?_; rintro e w1 ⟨a1, k1, rfl, d2, f2, hpl, hsz, ho1, hb1⟩; have HV1 := Lib.hid ho1; have HB1 := Lib.hid hb1; have HO1 := Lib.hid (owns_kept HO.out (Only.of_below (S := fun _ => False) hb1) (fun _ _ h => h)); clear ho1 hb1)
    | (go_must (refine step_append_lies _ (by rfl) _ _ 30 (by rfl) B 35 i0 _ 1 24 Try.underlying30 hi hz0 hz1 hz2 rfl (by omega) V recs.length vals (by rfl) (HO1.out.alloc _) ⟨w1.heap.size, 0, none⟩ 1 1 [.slice a1 xs.length k1] (by rfl) (by rfl) (World.news_of_block (cs := #[.slice a1 xs.length k1]) (t := 35) (fr := (0, 0)) (heap_alloc_new w1 _)) (by simp [Value.oneCell']) (by omega) (by unfold maxLen; omega) (by omega) (by simp; omega) _ rfl ?_); intro g cap3 w3 hown3 hgrow hat hlt; have hbox := Lib.hid (put_world HR.out HB1.out HV1.out HO1.out HX.out hvl hown3 hgrow hat); have d3 := hbox.out.1; have f3 := hbox.out.2.1; have HF := Lib.hid hbox.out.2.2; clear hbox hown3 hgrow hat d2 f2))
   all_goals
     go_wp2_with fail
     go_meet
     exact ⟨rfl, _, _, HF.out⟩
  case rest =>
    obtain ⟨rfl, g, c3, hst⟩ := hcut
    have HS := Lib.hid hst
    obtain ⟨hr4, ho4, hg4⟩ := hst
    have e0 : wc.cell? ⟨p, 0, none⟩ = some (.int .i64 size) := by rw [cell_at hr4.self]; rfl
    have e1 : wc.cell? ⟨p, 1, none⟩ = some (.int .u32 next) := by rw [cell_at hr4.self]; rfl
    have e2 : wc.cell? ⟨p, 2, none⟩ = some (.slice (some ⟨g, 0, none⟩) (recs.length + 1) c3) := by rw [cell_at hr4.self]; rfl
    have f1 := frozen_at hr4.self 1
    have f2 := frozen_at hr4.self 2
    by_cases hfull : (size : Int) < recs.length + 1
    · have HP := Lib.hid (show pushed size recs xs = (recs ++ [xs]).drop 1 from if_pos (by omega))
      have HD := Lib.hid (del_in_ring hr4 (by simp) (by omega))
      clear hr4 ho4 hg4 CL HR HO HX c2
      go_wp2_with fail
      go_quiet (fail)
      go_wp2_with (go_at_call 30; go_must (refine (HD.out _).mono ?_); rintro e w5 ⟨rfl, g1, ⟨u, g2⟩, g3, g4, g5, g6⟩; have HR5 := Lib.hid g5; have HO5 := Lib.hid g6; clear g5 g6)
      go_ret2
      refine ⟨ret_next hnx, ?_⟩
      rw [HP.out]
      exact put_full HS.out HO5.out HR5.out
    · have HP := Lib.hid (show pushed size recs xs = recs ++ [xs] from if_neg (by omega))
      clear hr4 ho4 hg4 CL HR HO HX c2
      go_wp2_with fail
      go_quiet (fail)
      go_wp2
      go_ret2
      refine ⟨ret_next hnx, ?_⟩
      rw [HP.out]
      exact put_room _ HS.out
end Go.Proofs.Ytjeifpjjnfaefaa
