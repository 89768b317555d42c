/- A heap as its callers see it: a list of items, in whatever order, in blocks of M. -/
import Derived.Test.YtiodfpoaakcejaaHPush
namespace Go.Proofs.Ytiodfpoaakcejaa.Hp
open Go.ChangeShapes Go.WideShapes Go.ChangeAt Go.RowKit Go.Maps
set_option linter.unusedVariables false

def HeapAt (M : Nat → Prop) (w : World) (p o T : Nat) (F : Nat → Option Value) (S : List (Int × Int)) : Prop :=
  ∃ L, L.Perm S ∧ Ordered L ∧ M p ∧ ((L = [] ∧ Fresh p o T F w) ∨ ∃ g b cap, M g ∧ M b ∧ Rep p o T F g b cap w L)

/-- The ids of a list of items are all different. -/
def Ids (S : List (Int × Int)) : Prop := (S.map (·.1)).Nodup

theorem ids_of_apart {L : List (Int × Int)} (h : Apart L) : Ids L := by
  unfold Ids
  rw [List.Nodup, List.pairwise_iff_getElem]
  intro i j hi hj hij he
  simp at hi hj
  have := h i j hi hj (by rw [it_eq hi, it_eq hj]; simpa using he)
  omega

theorem apart_of_ids {L : List (Int × Int)} (h : Ids L) : Apart L := by
  intro i j hi hj he
  unfold Ids at h
  rw [it_eq hi, it_eq hj] at he
  rw [List.Nodup, List.pairwise_iff_getElem] at h
  rcases Nat.lt_trichotomy i j with hlt | heq | hgt
  · exact absurd (by rw [List.getElem_map, List.getElem_map]; exact he) (h i j (by simpa using hi) (by simpa using hj) hlt)
  · exact heq
  · exact absurd (by rw [List.getElem_map, List.getElem_map]; exact he.symm) (h j i (by simpa using hj) (by simpa using hi) hgt)

theorem Ids.perm {S T : List (Int × Int)} (h : Ids S) (p : S.Perm T) : Ids T := (p.map _).nodup_iff.1 h

theorem apart_nil : Apart [] := fun i j hi => absurd hi (Nat.not_lt_zero _)

section
variable {M : Nat → Prop} {w w' : World} {p o T : Nat} {F : Nat → Option Value} {S : List (Int × Int)}

theorem HeapAt.ids (h : HeapAt M w p o T F S) : Ids S := by
  obtain ⟨L, hp, -, -, ⟨rfl, -⟩ | ⟨g, b, cap, -, -, hr⟩⟩ := h
  · exact (ids_of_apart apart_nil).perm hp
  · exact (ids_of_apart hr.apart).perm hp

theorem Rep.keep {p o T : Nat} {F : Nat → Option Value} {g b cap : Nat} {w w' : World} {L : List (Int × Int)} {N : Nat → Prop} (h : Rep p o T F g b cap w L) (hO : Only N w w') (hp : ¬ N p) (hg : ¬ N g) (hb : ¬ N b) : Rep p o T F g b cap w' L := by
  obtain ⟨D, hD, hP⟩ := h.map
  refine ⟨h.self.moved (hO.block p h.self.there hp), owns_kept h.items hO (fun k hk e => by cases hk; exact hg e), ⟨D, ?_, hP⟩, h.apart, h.wf, h.len⟩
  obtain ⟨es, clock, h2, h3⟩ := hD
  exact ⟨es, clock, (hO.block b (block_there h2) hb).trans h2, h3⟩

theorem HeapAt.keep {N : Nat → Prop} (h : HeapAt M w p o T F S) (hO : Only N w w') (hN : ∀ k, k < w.heap.size → M k → ¬ N k) : HeapAt M w' p o T F S := by
  obtain ⟨L, hp, ho, hm, ⟨rfl, hf⟩ | ⟨g, b, cap, hg, hb, hr⟩⟩ := h
  · exact ⟨[], hp, ho, hm, Or.inl ⟨rfl, Host.moved hf (hO.block p (Host.there hf) (hN p (Host.there hf) hm))⟩⟩
  · obtain ⟨cur, h1, -⟩ := hr.block
    obtain ⟨D, ⟨es, clock, h2, -⟩, -⟩ := hr.map
    exact ⟨L, hp, ho, hm, Or.inr ⟨g, b, cap, hg, hb, hr.keep hO (hN p hr.self.there hm) (hN g (block_there h1) hg) (hN b (block_there h2) hb)⟩⟩

theorem HeapAt.later (h : HeapAt M w p o T F S) (hO : Only (fun _ => False) w w') : HeapAt M w' p o T F S := h.keep hO (fun _ _ _ e => e)

theorem HeapAt.mono {N : Nat → Prop} (h : HeapAt M w p o T F S) (hN : ∀ k, M k → N k) : HeapAt N w p o T F S := by
  obtain ⟨L, hp, ho, hm, ⟨rfl, hf⟩ | ⟨g, b, cap, hg, hb, hr⟩⟩ := h
  · exact ⟨[], hp, ho, hN p hm, Or.inl ⟨rfl, hf⟩⟩
  · exact ⟨L, hp, ho, hN p hm, Or.inr ⟨g, b, cap, hN g hg, hN b hb, hr⟩⟩

theorem HeapAt.there (h : HeapAt M w p o T F S) : HeapAt (fun k => M k ∧ k < w.heap.size) w p o T F S := by
  obtain ⟨L, hp, ho, hm, ⟨rfl, hf⟩ | ⟨g, b, cap, hg, hb, hr⟩⟩ := h
  · exact ⟨[], hp, ho, ⟨hm, Host.there hf⟩, Or.inl ⟨rfl, hf⟩⟩
  · obtain ⟨cur, h1, -⟩ := hr.block
    obtain ⟨D, ⟨es, clock, h2, -⟩, -⟩ := hr.map
    exact ⟨L, hp, ho, ⟨hm, hr.self.there⟩, Or.inr ⟨g, b, cap, ⟨hg, block_there h1⟩, ⟨hb, block_there h2⟩, hr⟩⟩

theorem HeapAt.len (h : HeapAt M w p o T F S) : S.length ≤ 6000000000000 := by
  obtain ⟨L, hp, ho, hm, ⟨rfl, hf⟩ | ⟨g, b, cap, hg, hb, hr⟩⟩ := h
  · rw [← hp.length_eq]; simp
  · rw [← hp.length_eq]; exact hr.len

theorem HeapAt.self (h : HeapAt M w p o T F S) : M p ∧ ∃ v m, Host w p o T F v m := by
  obtain ⟨L, hp, ho, hm, ⟨rfl, hf⟩ | ⟨g, b, cap, hg, hb, hr⟩⟩ := h
  · exact ⟨hm, _, _, hf⟩
  · exact ⟨hm, _, _, hr.self⟩

/-- Another cell of the block that the heap lies in is written. -/
theorem HeapAt.set (h : HeapAt M w p o T F S) (j : Nat) (h0 : j ≠ o) (h1 : j ≠ o + 1) (hj : (F j).isSome = true) (u : Value) :
    HeapAt M (w.setCell ⟨p, j, none⟩ u) p o T (fun i => if i = j then some u else F i) S ∧ Only M w (w.setCell ⟨p, j, none⟩ u) := by
  have hO : Only (· = p) w (w.setCell ⟨p, j, none⟩ u) := Only.setCell (S := fun x => x = p) (Only.refl _ w) (p := ⟨p, j, none⟩) rfl _
  obtain ⟨L, hp, ho, hm, ⟨rfl, hf⟩ | ⟨g, b, cap, hg, hb, hr⟩⟩ := h
  · exact ⟨⟨[], hp, ho, hm, Or.inl ⟨rfl, Host.set hf j h0 h1 hj u⟩⟩, hO.mono (fun x _ e => by subst e; exact hm)⟩
  · obtain ⟨q1, q2, q3⟩ := hr.apart_blocks
    obtain ⟨D, hD, hP⟩ := hr.map
    exact ⟨⟨L, hp, ho, hm, Or.inr ⟨g, b, cap, hg, hb, hr.self.set j h0 h1 hj u, owns_kept hr.items hO (fun k hk e => by cases hk; exact q1 e.symm), ⟨D, hD.setCell (a := ⟨p, j, none⟩) q2.symm _, hP⟩, hr.apart, hr.wf, hr.len⟩⟩, hO.mono (fun x _ e => by subst e; exact hm)⟩

theorem HeapAt.rest {G : Nat → Option Value} (h : HeapAt M w p o T F S) (hG : ∀ i, i ≠ o → i ≠ o + 1 → F i = G i) : HeapAt M w p o T G S := by
  have hh : ∀ {v m : Value}, Host w p o T F v m → Host w p o T G v m := fun ⟨t, cs, a, b, c, d⟩ => ⟨t, cs, a, b, c, fun i x y => (d i x y).trans (hG i x y)⟩
  obtain ⟨L, hp, ho, hm, ⟨rfl, hf⟩ | ⟨g, b, cap, hg, hb, hr⟩⟩ := h
  · exact ⟨[], hp, ho, hm, Or.inl ⟨rfl, hh hf⟩⟩
  · exact ⟨L, hp, ho, hm, Or.inr ⟨g, b, cap, hg, hb, hh hr.self, hr.items, hr.map, hr.apart, hr.wf, hr.len⟩⟩

theorem HeapAt.perm {U : List (Int × Int)} (h : HeapAt M w p o T F S) (hT : S.Perm U) : HeapAt M w p o T F U := by
  obtain ⟨L, hp, h2⟩ := h
  exact ⟨L, hp.trans hT, h2⟩
end

/-- What is known behind a call that changes a heap, all in blocks that it has. -/
def HKeep (M : Nat → Prop) (w : World) (p o T : Nat) (F : Nat → Option Value) (v : Value) (S : List (Int × Int)) (e : Ending) (w' : World) : Prop :=
  e = .returned v ∧ HeapAt M w' p o T F S ∧ Only M w w'

/-- What is known behind a call that changes a heap. -/
def HAns (M : Nat → Prop) (w : World) (p o T : Nat) (F : Nat → Option Value) (v : Value) (S : List (Int × Int)) (e : Ending) (w' : World) : Prop :=
  e = .returned v ∧ HeapAt (fun k => M k ∨ w.heap.size ≤ k) w' p o T F S ∧ Only M w w'

section
variable {M : Nat → Prop} {w : World} {p o T : Nat} {F : Nat → Option Value} {S : List (Int × Int)}

theorem fresh_cell {p o T : Nat} {F : Nat → Option Value} {w : World} (h : Fresh p o T F w) : w.cell? ⟨p, o, none⟩ = some (.slice none 0 0) := Host.c0 h

theorem hpeek_nil (h : HeapAt M w p o T F []) : Calls Try.prog 32 #[.pointer (some ⟨p, o, none⟩)] w fun e w' => e = .returned (.tuple #[.int .i64 0, .int .i64 0, .int .i64 4]) ∧ w = w' := by
  obtain ⟨L, hp, ho, hm, ⟨rfl, hf⟩ | ⟨g, b, cap, hg, hb, hr⟩⟩ := h
  · exact peek_none p o 0 none w (fresh_cell hf)
  · have := hp.length_eq
    have hc := hr.cells.1
    rw [this] at hc
    exact peek_none p o cap _ w hc

/-- The item that precedes all others. -/
def Least (S : List (Int × Int)) (m : Int × Int) : Prop := m ∈ S ∧ ∀ x ∈ S, prec x m = false

theorem least_of {L S : List (Int × Int)} (hp : L.Perm S) (ho : Ordered L) (hl : 0 < L.length) : Least S (it L 0) := by
  refine ⟨hp.mem_iff.1 (it_mem hl), fun x hx => ?_⟩
  obtain ⟨j, hj, rfl⟩ := List.getElem_of_mem (hp.mem_iff.2 hx)
  rw [← it_eq hj]
  exact least_first ho j hj

theorem least_one {S : List (Int × Int)} {m n : Int × Int} (h1 : Least S m) (h2 : Least S n) : m = n := by
  have a := h1.2 n h2.1
  have b := h2.2 m h1.1
  simp only [prec, decide_eq_false_iff_not] at a b
  apply Prod.ext <;> omega

theorem hpeek (h : HeapAt M w p o T F S) (hne : S ≠ []) : Calls Try.prog 32 #[.pointer (some ⟨p, o, none⟩)] w fun e w' => ∃ m, Least S m ∧ e = .returned (.tuple #[.int .i64 m.1, .int .i64 m.2, .int .i64 0]) ∧ Only (fun _ => False) w w' := by
  have hpos : 0 < S.length := List.length_pos_iff.2 hne
  obtain ⟨L, hp, ho, hm, ⟨rfl, hf⟩ | ⟨g, b, cap, hg, hb, hr⟩⟩ := h
  · have := hp.length_eq; simp at this; omega
  · have hl := hp.length_eq
    refine (peek_some p o T F g b cap (L.length - 1) L w hr (by omega)).mono ?_
    rintro e w' ⟨rfl, hO⟩
    exact ⟨_, least_of hp ho (by omega), rfl, hO⟩

theorem no_id {L : List (Int × Int)} {id : Int} (hp : L.Perm S) (hno : ∀ x ∈ S, x.1 ≠ id) : ∀ i, i < L.length → (it L i).1 ≠ id := fun i hi => hno _ (hp.mem_iff.1 (it_mem hi))

theorem an_id {L : List (Int × Int)} {x : Int × Int} (hp : L.Perm S) (hx : x ∈ S) : ∃ i, i < L.length ∧ it L i = x := by
  obtain ⟨j, hj, rfl⟩ := List.getElem_of_mem (hp.mem_iff.2 hx)
  exact ⟨j, hj, it_eq hj⟩

theorem hkey_none (h : HeapAt M w p o T F S) {id : Int} (hw : (Lit.int .i64 id).wf = true) (hno : ∀ x ∈ S, x.1 ≠ id) :
    Calls Try.prog 28 #[.pointer (some ⟨p, o, none⟩), .int .i64 id] w fun e w' => e = .returned (.tuple #[.int .i64 0, .int .i64 4]) ∧ w = w' := by
  obtain ⟨L, hp, ho, hm, ⟨rfl, hf⟩ | ⟨g, b, cap, hg, hb, hr⟩⟩ := h
  · exact key_fresh p o T F id w hf hw
  · exact key_none p o T F g b cap id L w hr hw (no_id hp hno)

theorem hkey (h : HeapAt M w p o T F S) {x : Int × Int} (hx : x ∈ S) :
    Calls Try.prog 28 #[.pointer (some ⟨p, o, none⟩), .int .i64 x.1] w fun e w' => e = .returned (.tuple #[.int .i64 x.2, .int .i64 0]) ∧ Only (fun _ => False) w w' := by
  obtain ⟨L, hp, ho, hm, ⟨rfl, hf⟩ | ⟨g, b, cap, hg, hb, hr⟩⟩ := h
  · exact absurd (hp.mem_iff.2 hx) (by simp)
  · obtain ⟨i, hi, rfl⟩ := an_id hp hx
    exact key_some p o T F g b cap i L w hr hi

/-- The items without an id. -/
def without (S : List (Int × Int)) (id : Int) : List (Int × Int) := S.filter fun x => decide (x.1 ≠ id)

theorem without_of {S K : List (Int × Int)} {x : Int × Int} (hS : Ids S) (h : (x :: K).Perm S) : K.Perm (without S x.1) := by
  have h1 : Ids (x :: K) := hS.perm h.symm
  have h2 : without (x :: K) x.1 = K := by
    unfold without
    rw [List.filter_cons_of_neg (by simp), List.filter_eq_self]
    intro y hy
    simp only [Ids, List.map_cons, List.nodup_cons] at h1
    simp only [decide_eq_true_eq]
    intro e
    exact h1.1 (List.mem_map.2 ⟨y, hy, e⟩)
  have h3 := h.filter (fun y => decide (y.1 ≠ x.1))
  have h4 : (without (x :: K) x.1).Perm (without S x.1) := h3
  rwa [h2] at h4

theorem hout_none (h : HeapAt M w p o T F S) {id : Int} (hw : (Lit.int .i64 id).wf = true) (hno : ∀ x ∈ S, x.1 ≠ id) :
    Calls Try.prog 31 #[.pointer (some ⟨p, o, none⟩), .int .i64 id] w fun e w' => e = .returned (.tuple #[.int .i64 0, .int .i64 4]) ∧ w = w' := by
  obtain ⟨L, hp, ho, hm, ⟨rfl, hf⟩ | ⟨g, b, cap, hg, hb, hr⟩⟩ := h
  · exact out_fresh p o T F id w hf hw
  · exact out_none p o T F g b cap id L w hr hw (no_id hp hno)

theorem hout (h : HeapAt M w p o T F S) {x : Int × Int} (hx : x ∈ S) :
    Calls Try.prog 31 #[.pointer (some ⟨p, o, none⟩), .int .i64 x.1] w (HKeep M w p o T F (.tuple #[.int .i64 x.2, .int .i64 0]) (without S x.1)) := by
  have hS := h.ids
  obtain ⟨L, hp, ho, hm, ⟨rfl, hf⟩ | ⟨g, b, cap, hg, hb, hr⟩⟩ := h
  · exact absurd (hp.mem_iff.2 hx) (by simp)
  · obtain ⟨i, hi, rfl⟩ := an_id hp hx
    refine (out_some p o T F g b cap i L w hr hi ho).mono ?_
    rintro e w' ⟨rfl, K, ⟨hK, hoK⟩, hrK, hO⟩
    exact ⟨rfl, ⟨K, without_of hS (hK.trans hp), hoK, hm, Or.inr ⟨g, b, cap, hg, hb, hrK⟩⟩, hO.mono (fun x _ e => by rcases e with rfl | rfl | rfl <;> assumption)⟩

theorem hpop_nil (h : HeapAt M w p o T F []) : Calls Try.prog 33 #[.pointer (some ⟨p, o, none⟩)] w fun e w' => e = .returned (.tuple #[.int .i64 0, .int .i64 0, .int .i64 4]) ∧ w = w' := by
  obtain ⟨L, hp, ho, hm, ⟨rfl, hf⟩ | ⟨g, b, cap, hg, hb, hr⟩⟩ := h
  · exact pop_none p o 0 none w (fresh_cell hf)
  · have := hp.length_eq
    have hc := hr.cells.1
    rw [this] at hc
    exact pop_none p o cap _ w hc

theorem hpop (h : HeapAt M w p o T F S) {m : Int × Int} (hm : Least S m) :
    Calls Try.prog 33 #[.pointer (some ⟨p, o, none⟩)] w (HKeep M w p o T F (.tuple #[.int .i64 m.1, .int .i64 m.2, .int .i64 0]) (without S m.1)) := by
  have hS := h.ids
  obtain ⟨L, hp, ho, hM, ⟨rfl, hf⟩ | ⟨g, b, cap, hg, hb, hr⟩⟩ := h
  · exact absurd (hp.mem_iff.2 hm.1) (by simp)
  · have hl : 0 < L.length := List.length_pos_of_mem (hp.mem_iff.2 hm.1)
    obtain rfl := least_one hm (least_of hp ho hl)
    refine (pop_some p o T F g b cap (L.length - 1) L w hr (by omega) ho).mono ?_
    rintro e w' ⟨rfl, K, ⟨hK, hoK⟩, hrK, hO⟩
    exact ⟨rfl, ⟨K, without_of hS (hK.trans hp), hoK, hM, Or.inr ⟨g, b, cap, hg, hb, hrK⟩⟩, hO.mono (fun x _ e => by rcases e with rfl | rfl | rfl <;> assumption)⟩

theorem hpush_there (h : HeapAt M w p o T F S) {x : Int × Int} (k : Int) (hx : x ∈ S) :
    Calls Try.prog 30 #[.pointer (some ⟨p, o, none⟩), .int .i64 x.1, .int .i64 k] w fun e w' => e = .returned (.int .i64 5) ∧ w = w' := by
  obtain ⟨L, hp, ho, hm, ⟨rfl, hf⟩ | ⟨g, b, cap, hg, hb, hr⟩⟩ := h
  · exact absurd (hp.mem_iff.2 hx) (by simp)
  · obtain ⟨i, hi, rfl⟩ := an_id hp hx
    exact push_there p o T F g b cap i k L w hr hi

theorem hpush (h : HeapAt M w p o T F S) {id : Int} (k : Int) (hw : (Lit.int .i64 id).wf = true) (hno : ∀ x ∈ S, x.1 ≠ id) (hl : S.length + 1 ≤ 6000000000000) :
    Calls Try.prog 30 #[.pointer (some ⟨p, o, none⟩), .int .i64 id, .int .i64 k] w (HAns M w p o T F (.int .i64 0) (S ++ [(id, k)])) := by
  obtain ⟨L, hp, ho, hm, ⟨rfl, hf⟩ | ⟨g, b, cap, hg, hb, hr⟩⟩ := h
  · refine (push_fresh p o T F id k w hf hw).mono ?_
    rintro e w' ⟨rfl, g, cap, K, ⟨hK, hoK⟩, hrK, hO, hat⟩
    refine ⟨rfl, ⟨K, hK.trans (hp.append_right [(id, k)]), hoK, Or.inl hm, Or.inr ⟨g, w.heap.size, cap, ?_, Or.inr (Nat.le_refl _), hrK⟩⟩, hO.mono (fun x hx e => ?_)⟩
    · rcases hat with e | e
      · cases e
      · exact Or.inr e
    · rcases e with rfl | e | rfl
      · exact hm
      · cases e
      · omega
  · refine (push_rep p o T F g b cap id k L w hr hw (no_id hp hno) (by rw [hp.length_eq]; exact hl) ho).mono ?_
    rintro e w' ⟨rfl, g2, cap2, K, ⟨hK, hoK⟩, hrK, hO, hat⟩
    refine ⟨rfl, ⟨K, hK.trans (hp.append_right [(id, k)]), hoK, Or.inl hm, Or.inr ⟨g2, b, cap2, ?_, Or.inl hb, hrK⟩⟩, hO.mono (fun x hx e => ?_)⟩
    · rcases hat with e | e
      · cases e; exact Or.inl hg
      · exact Or.inr e
    · rcases e with rfl | e | rfl
      · exact hm
      · cases e; exact hg
      · exact hb
end
end Go.Proofs.Ytiodfpoaakcejaa.Hp
