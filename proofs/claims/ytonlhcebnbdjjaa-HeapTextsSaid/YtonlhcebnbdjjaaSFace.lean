/- A heap as its callers see it: a list of items, in whatever order, in blocks of M. -/
import Derived.Test.YtonlhcebnbdjjaaSPush
namespace Go.Proofs.Ytonlhcebnbdjjaa.S
open Go.ChangeShapes Go.WideShapes Go.ChangeAt Go.RowKit Go.Maps
set_option linter.unusedVariables false

def HeapAt (M : Nat → Prop) (w : World) (p : Nat) (S : List (Int × ByteArray)) : Prop :=
  ∃ L, L.Perm S ∧ Ordered L ∧ M p ∧ ((L = [] ∧ Fresh p w) ∨ ∃ g b cap, M g ∧ M b ∧ Rep p g b cap w L)

/-- The ids of a list of items are all different. -/
def Ids (S : List (Int × ByteArray)) : Prop := (S.map (·.1)).Nodup

theorem ids_of_apart {L : List (Int × ByteArray)} (h : Apart L) : Ids L := by
  unfold Ids
  rw [List.Nodup, List.pairwise_iff_getElem]
  intro i j hi hj hij he
  simp at hi hj
  have := h i j hi hj (by rw [it_eq hi, it_eq hj]; simpa using he)
  omega

theorem apart_of_ids {L : List (Int × ByteArray)} (h : Ids L) : Apart L := by
  intro i j hi hj he
  unfold Ids at h
  rw [it_eq hi, it_eq hj] at he
  rw [List.Nodup, List.pairwise_iff_getElem] at h
  rcases Nat.lt_trichotomy i j with hlt | heq | hgt
  · exact absurd (by rw [List.getElem_map, List.getElem_map]; exact he) (h i j (by simpa using hi) (by simpa using hj) hlt)
  · exact heq
  · exact absurd (by rw [List.getElem_map, List.getElem_map]; exact he.symm) (h j i (by simpa using hj) (by simpa using hi) hgt)

theorem Ids.perm {S T : List (Int × ByteArray)} (h : Ids S) (p : S.Perm T) : Ids T := (p.map _).nodup_iff.1 h

theorem apart_nil : Apart [] := fun i j hi => absurd hi (Nat.not_lt_zero _)

section
variable {M : Nat → Prop} {w w' : World} {p : Nat} {S : List (Int × ByteArray)}

theorem HeapAt.ids (h : HeapAt M w p S) : Ids S := by
  obtain ⟨L, hp, -, -, ⟨rfl, -⟩ | ⟨g, b, cap, -, -, hr⟩⟩ := h
  · exact (ids_of_apart apart_nil).perm hp
  · exact (ids_of_apart hr.apart).perm hp

theorem Rep.keep {p g b cap : Nat} {w w' : World} {L : List (Int × ByteArray)} {N : Nat → Prop} (h : Rep p g b cap w L) (hO : Only N w w') (hp : ¬ N p) (hg : ¬ N g) (hb : ¬ N b) : Rep p g b cap w' L := by
  obtain ⟨D, hD, hP⟩ := h.map
  refine ⟨(hO.block p (block_there h.self) hp).trans h.self, owns_kept h.items hO (fun k hk e => by cases hk; exact hg e), ⟨D, ?_, hP⟩, h.apart, h.wf, h.len⟩
  obtain ⟨es, clock, h2, h3⟩ := hD
  exact ⟨es, clock, (hO.block b (block_there h2) hb).trans h2, h3⟩

theorem HeapAt.keep {N : Nat → Prop} (h : HeapAt M w p S) (hO : Only N w w') (hN : ∀ k, k < w.heap.size → M k → ¬ N k) : HeapAt M w' p S := by
  obtain ⟨L, hp, ho, hm, ⟨rfl, hf⟩ | ⟨g, b, cap, hg, hb, hr⟩⟩ := h
  · exact ⟨[], hp, ho, hm, Or.inl ⟨rfl, (hO.block p (block_there hf) (hN p (block_there hf) hm)).trans hf⟩⟩
  · obtain ⟨cur, h1, -⟩ := hr.block
    obtain ⟨D, ⟨es, clock, h2, -⟩, -⟩ := hr.map
    exact ⟨L, hp, ho, hm, Or.inr ⟨g, b, cap, hg, hb, hr.keep hO (hN p (block_there hr.self) hm) (hN g (block_there h1) hg) (hN b (block_there h2) hb)⟩⟩

theorem HeapAt.later (h : HeapAt M w p S) (hO : Only (fun _ => False) w w') : HeapAt M w' p S := h.keep hO (fun _ _ _ e => e)

theorem HeapAt.mono {N : Nat → Prop} (h : HeapAt M w p S) (hN : ∀ k, M k → N k) : HeapAt N w p S := by
  obtain ⟨L, hp, ho, hm, ⟨rfl, hf⟩ | ⟨g, b, cap, hg, hb, hr⟩⟩ := h
  · exact ⟨[], hp, ho, hN p hm, Or.inl ⟨rfl, hf⟩⟩
  · exact ⟨L, hp, ho, hN p hm, Or.inr ⟨g, b, cap, hN g hg, hN b hb, hr⟩⟩

theorem HeapAt.there (h : HeapAt M w p S) : HeapAt (fun k => M k ∧ k < w.heap.size) w p S := by
  obtain ⟨L, hp, ho, hm, ⟨rfl, hf⟩ | ⟨g, b, cap, hg, hb, hr⟩⟩ := h
  · exact ⟨[], hp, ho, ⟨hm, block_there hf⟩, Or.inl ⟨rfl, hf⟩⟩
  · obtain ⟨cur, h1, -⟩ := hr.block
    obtain ⟨D, ⟨es, clock, h2, -⟩, -⟩ := hr.map
    exact ⟨L, hp, ho, ⟨hm, block_there hr.self⟩, Or.inr ⟨g, b, cap, ⟨hg, block_there h1⟩, ⟨hb, block_there h2⟩, hr⟩⟩

theorem HeapAt.perm {T : List (Int × ByteArray)} (h : HeapAt M w p S) (hT : S.Perm T) : HeapAt M w p T := by
  obtain ⟨L, hp, h2⟩ := h
  exact ⟨L, hp.trans hT, h2⟩
end

/-- What is known behind a call that changes a heap. -/
def HAns (M : Nat → Prop) (w : World) (p : Nat) (v : Value) (S : List (Int × ByteArray)) (e : Ending) (w' : World) : Prop :=
  e = .returned v ∧ HeapAt (fun k => M k ∨ w.heap.size ≤ k) w' p S ∧ Only M w w'

theorem hnew (w : World) : Calls Try.prog 13 #[] w fun e w' => ∃ q, e = .returned (.pointer (some ⟨q, 0, none⟩)) ∧ HeapAt (fun k => w.heap.size ≤ k) w' q [] ∧ Only (fun _ => False) w w' := by
  refine (new_any w).mono ?_
  rintro e w' ⟨rfl, rfl⟩
  exact ⟨_, rfl, ⟨[], List.Perm.refl _, fun j _ hj => absurd hj (Nat.not_lt_zero _), Nat.le_refl _, Or.inl ⟨rfl, heap_alloc_new w _⟩⟩, (Only.refl _ w).alloc _⟩

section
variable {M : Nat → Prop} {w : World} {p : Nat} {S : List (Int × ByteArray)}

theorem fresh_cell {p : Nat} {w : World} (h : Fresh p w) : w.cell? ⟨p, 0, none⟩ = some (.slice none 0 0) := by rw [cell_at h]; rfl

theorem hlen (h : HeapAt M w p S) : Calls Try.prog 15 #[.pointer (some ⟨p, 0, none⟩)] w fun e w' => e = .returned (.int .i64 S.length) ∧ w = w' := by
  obtain ⟨L, hp, ho, hm, ⟨rfl, hf⟩ | ⟨g, b, cap, hg, hb, hr⟩⟩ := h
  · rw [← hp.length_eq]; exact len_any p 0 0 none w (fresh_cell hf)
  · rw [← hp.length_eq]; exact len_any p _ cap _ w hr.cells.1

theorem hpeek_nil (h : HeapAt M w p []) : Calls Try.prog 43 #[.pointer (some ⟨p, 0, none⟩)] w fun e w' => e = .returned (.tuple #[.int .i64 0, .string ByteArray.empty, .int .i64 4]) ∧ w = w' := by
  obtain ⟨L, hp, ho, hm, ⟨rfl, hf⟩ | ⟨g, b, cap, hg, hb, hr⟩⟩ := h
  · exact peek_none p 0 none w (fresh_cell hf)
  · have := hp.length_eq
    have hc := hr.cells.1
    rw [this] at hc
    exact peek_none p cap _ w hc

/-- The item that precedes all others. -/
def Least (S : List (Int × ByteArray)) (m : Int × ByteArray) : Prop := m ∈ S ∧ ∀ x ∈ S, prec x m = false

theorem least_of {L S : List (Int × ByteArray)} (hp : L.Perm S) (ho : Ordered L) (hl : 0 < L.length) : Least S (it L 0) := by
  refine ⟨hp.mem_iff.1 (it_mem hl), fun x hx => ?_⟩
  obtain ⟨j, hj, rfl⟩ := List.getElem_of_mem (hp.mem_iff.2 hx)
  rw [← it_eq hj]
  exact least_first ho j hj

theorem least_one {S : List (Int × ByteArray)} {m n : Int × ByteArray} (h1 : Least S m) (h2 : Least S n) : m = n := by
  have a := h1.2 n h2.1
  have b := h2.2 m h1.1
  rcases prec_tri a with e | e
  · exact e.symm
  · rw [b] at e; cases e

theorem hpeek (h : HeapAt M w p S) (hne : S ≠ []) : Calls Try.prog 43 #[.pointer (some ⟨p, 0, none⟩)] w fun e w' => ∃ m, Least S m ∧ e = .returned (.tuple #[.int .i64 m.1, .string m.2, .int .i64 0]) ∧ Only (fun _ => False) w w' := by
  have hpos : 0 < S.length := List.length_pos_iff.2 hne
  obtain ⟨L, hp, ho, hm, ⟨rfl, hf⟩ | ⟨g, b, cap, hg, hb, hr⟩⟩ := h
  · have := hp.length_eq; simp at this; omega
  · have hl := hp.length_eq
    refine (peek_some p g b cap (L.length - 1) L w hr (by omega)).mono ?_
    rintro e w' ⟨rfl, hO⟩
    exact ⟨_, least_of hp ho (by omega), rfl, hO⟩

theorem no_id {L : List (Int × ByteArray)} {id : Int} (hp : L.Perm S) (hno : ∀ x ∈ S, x.1 ≠ id) : ∀ i, i < L.length → (it L i).1 ≠ id := fun i hi => hno _ (hp.mem_iff.1 (it_mem hi))

theorem an_id {L : List (Int × ByteArray)} {x : Int × ByteArray} (hp : L.Perm S) (hx : x ∈ S) : ∃ i, i < L.length ∧ it L i = x := by
  obtain ⟨j, hj, rfl⟩ := List.getElem_of_mem (hp.mem_iff.2 hx)
  exact ⟨j, hj, it_eq hj⟩

theorem hkey_none (h : HeapAt M w p S) {id : Int} (hw : (Lit.int .i64 id).wf = true) (hno : ∀ x ∈ S, x.1 ≠ id) :
    Calls Try.prog 44 #[.pointer (some ⟨p, 0, none⟩), .int .i64 id] w fun e w' => e = .returned (.tuple #[.string ByteArray.empty, .int .i64 4]) ∧ w = w' := by
  obtain ⟨L, hp, ho, hm, ⟨rfl, hf⟩ | ⟨g, b, cap, hg, hb, hr⟩⟩ := h
  · exact key_fresh p id w hf hw
  · exact key_none p g b cap id L w hr hw (no_id hp hno)

theorem hkey (h : HeapAt M w p S) {x : Int × ByteArray} (hx : x ∈ S) :
    Calls Try.prog 44 #[.pointer (some ⟨p, 0, none⟩), .int .i64 x.1] w fun e w' => e = .returned (.tuple #[.string x.2, .int .i64 0]) ∧ Only (fun _ => False) w w' := by
  obtain ⟨L, hp, ho, hm, ⟨rfl, hf⟩ | ⟨g, b, cap, hg, hb, hr⟩⟩ := h
  · exact absurd (hp.mem_iff.2 hx) (by simp)
  · obtain ⟨i, hi, rfl⟩ := an_id hp hx
    exact key_some p g b cap i L w hr hi

theorem hturn_none (h : HeapAt M w p S) {id : Int} (k : ByteArray) (hw : (Lit.int .i64 id).wf = true) (hno : ∀ x ∈ S, x.1 ≠ id) :
    Calls Try.prog 41 #[.pointer (some ⟨p, 0, none⟩), .int .i64 id, .string k] w fun e w' => e = .returned (.int .i64 4) ∧ w = w' := by
  obtain ⟨L, hp, ho, hm, ⟨rfl, hf⟩ | ⟨g, b, cap, hg, hb, hr⟩⟩ := h
  · exact turn_fresh p id k w hf hw
  · exact turn_none p g b cap id k L w hr hw (no_id hp hno)

/-- The items with another key for an id. -/
def rekey (S : List (Int × ByteArray)) (id : Int) (k : ByteArray) : List (Int × ByteArray) := S.map fun x => if x.1 = id then (id, k) else x

theorem setKey_rekey {L : List (Int × ByteArray)} (ha : Apart L) {i : Nat} (hi : i < L.length) (k : ByteArray) : setKey L i k = rekey L (it L i).1 k := by
  apply List.ext_getElem
  · simp [setKey, rekey]
  · intro j h1 h2
    have hj : j < L.length := by simpa [setKey] using h1
    rw [← it_eq h1, it_setKey hi]
    simp only [rekey, List.getElem_map]
    rw [← it_eq hj]
    by_cases e : j = i
    · subst e; rw [if_pos rfl, if_pos rfl]
    · rw [if_neg e, if_neg (fun q => e (ha j i hj hi q))]

theorem hturn (h : HeapAt M w p S) {x : Int × ByteArray} (k : ByteArray) (hx : x ∈ S) :
    Calls Try.prog 41 #[.pointer (some ⟨p, 0, none⟩), .int .i64 x.1, .string k] w (HAns M w p (.int .i64 0) (rekey S x.1 k)) := by
  obtain ⟨L, hp, ho, hm, ⟨rfl, hf⟩ | ⟨g, b, cap, hg, hb, hr⟩⟩ := h
  · exact absurd (hp.mem_iff.2 hx) (by simp)
  · obtain ⟨i, hi, rfl⟩ := an_id hp hx
    refine (turn_some p g b cap i k L w hr hi ho).mono ?_
    rintro e w' ⟨rfl, K, ⟨hK, hoK⟩, hrK, hO⟩
    refine ⟨rfl, ⟨K, hK.trans ?_, hoK, Or.inl hm, Or.inr ⟨g, b, cap, Or.inl hg, Or.inl hb, hrK⟩⟩, hO.mono (fun x _ e => by rcases e with rfl | rfl | rfl <;> assumption)⟩
    rw [setKey_rekey hr.apart hi]
    exact hp.map _

/-- The items without an id. -/
def without (S : List (Int × ByteArray)) (id : Int) : List (Int × ByteArray) := S.filter fun x => decide (x.1 ≠ id)

theorem without_of {S K : List (Int × ByteArray)} {x : Int × ByteArray} (hS : Ids S) (h : (x :: K).Perm S) : K.Perm (without S x.1) := by
  have h1 : Ids (x :: K) := hS.perm h.symm
  have h2 : without (x :: K) x.1 = K := by
    unfold without
    rw [List.filter_cons_of_neg (by simp), List.filter_eq_self]
    intro y hy
    simp only [Ids, List.map_cons, List.nodup_cons] at h1
    simp only [decide_eq_true_eq]
    intro e
    exact h1.1 (List.mem_map.2 ⟨y, hy, e⟩)
  have h3 := h.filter (fun y => decide (y.1 ≠ x.1))
  have h4 : (without (x :: K) x.1).Perm (without S x.1) := h3
  rwa [h2] at h4

theorem hout_none (h : HeapAt M w p S) {id : Int} (hw : (Lit.int .i64 id).wf = true) (hno : ∀ x ∈ S, x.1 ≠ id) :
    Calls Try.prog 42 #[.pointer (some ⟨p, 0, none⟩), .int .i64 id] w fun e w' => e = .returned (.tuple #[.string ByteArray.empty, .int .i64 4]) ∧ w = w' := by
  obtain ⟨L, hp, ho, hm, ⟨rfl, hf⟩ | ⟨g, b, cap, hg, hb, hr⟩⟩ := h
  · exact out_fresh p id w hf hw
  · exact out_none p g b cap id L w hr hw (no_id hp hno)

theorem hout (h : HeapAt M w p S) {x : Int × ByteArray} (hx : x ∈ S) :
    Calls Try.prog 42 #[.pointer (some ⟨p, 0, none⟩), .int .i64 x.1] w (HAns M w p (.tuple #[.string x.2, .int .i64 0]) (without S x.1)) := by
  have hS := h.ids
  obtain ⟨L, hp, ho, hm, ⟨rfl, hf⟩ | ⟨g, b, cap, hg, hb, hr⟩⟩ := h
  · exact absurd (hp.mem_iff.2 hx) (by simp)
  · obtain ⟨i, hi, rfl⟩ := an_id hp hx
    refine (out_some p g b cap i L w hr hi ho).mono ?_
    rintro e w' ⟨rfl, K, ⟨hK, hoK⟩, hrK, hO⟩
    exact ⟨rfl, ⟨K, without_of hS (hK.trans hp), hoK, Or.inl hm, Or.inr ⟨g, b, cap, Or.inl hg, Or.inl hb, hrK⟩⟩, hO.mono (fun x _ e => by rcases e with rfl | rfl | rfl <;> assumption)⟩

theorem hpop_nil (h : HeapAt M w p []) : Calls Try.prog 38 #[.pointer (some ⟨p, 0, none⟩)] w fun e w' => e = .returned (.tuple #[.int .i64 0, .string ByteArray.empty, .int .i64 4]) ∧ w = w' := by
  obtain ⟨L, hp, ho, hm, ⟨rfl, hf⟩ | ⟨g, b, cap, hg, hb, hr⟩⟩ := h
  · exact pop_none p 0 none w (fresh_cell hf)
  · have := hp.length_eq
    have hc := hr.cells.1
    rw [this] at hc
    exact pop_none p cap _ w hc

theorem hpop (h : HeapAt M w p S) {m : Int × ByteArray} (hm : Least S m) :
    Calls Try.prog 38 #[.pointer (some ⟨p, 0, none⟩)] w (HAns M w p (.tuple #[.int .i64 m.1, .string m.2, .int .i64 0]) (without S m.1)) := by
  have hS := h.ids
  obtain ⟨L, hp, ho, hM, ⟨rfl, hf⟩ | ⟨g, b, cap, hg, hb, hr⟩⟩ := h
  · exact absurd (hp.mem_iff.2 hm.1) (by simp)
  · have hl : 0 < L.length := List.length_pos_of_mem (hp.mem_iff.2 hm.1)
    obtain rfl := least_one hm (least_of hp ho hl)
    refine (pop_some p g b cap (L.length - 1) L w hr (by omega) ho).mono ?_
    rintro e w' ⟨rfl, K, ⟨hK, hoK⟩, hrK, hO⟩
    exact ⟨rfl, ⟨K, without_of hS (hK.trans hp), hoK, Or.inl hM, Or.inr ⟨g, b, cap, Or.inl hg, Or.inl hb, hrK⟩⟩, hO.mono (fun x _ e => by rcases e with rfl | rfl | rfl <;> assumption)⟩

theorem hpush_there (h : HeapAt M w p S) {x : Int × ByteArray} (k : ByteArray) (hx : x ∈ S) :
    Calls Try.prog 14 #[.pointer (some ⟨p, 0, none⟩), .int .i64 x.1, .string k] w fun e w' => e = .returned (.int .i64 5) ∧ w = w' := by
  obtain ⟨L, hp, ho, hm, ⟨rfl, hf⟩ | ⟨g, b, cap, hg, hb, hr⟩⟩ := h
  · exact absurd (hp.mem_iff.2 hx) (by simp)
  · obtain ⟨i, hi, rfl⟩ := an_id hp hx
    exact push_there p g b cap i k L w hr hi

theorem hpush (h : HeapAt M w p S) {id : Int} (k : ByteArray) (hw : (Lit.int .i64 id).wf = true) (hno : ∀ x ∈ S, x.1 ≠ id) (hl : S.length + 1 ≤ 5864062014700) :
    Calls Try.prog 14 #[.pointer (some ⟨p, 0, none⟩), .int .i64 id, .string k] w (HAns M w p (.int .i64 0) (S ++ [(id, k)])) := by
  obtain ⟨L, hp, ho, hm, ⟨rfl, hf⟩ | ⟨g, b, cap, hg, hb, hr⟩⟩ := h
  · refine (push_fresh p id k w hf hw).mono ?_
    rintro e w' ⟨rfl, g, cap, K, ⟨hK, hoK⟩, hrK, hO, hat⟩
    refine ⟨rfl, ⟨K, hK.trans (hp.append_right [(id, k)]), hoK, Or.inl hm, Or.inr ⟨g, w.heap.size, cap, ?_, Or.inr (Nat.le_refl _), hrK⟩⟩, hO.mono (fun x hx e => ?_)⟩
    · rcases hat with e | e
      · cases e
      · exact Or.inr e
    · rcases e with rfl | e | rfl
      · exact hm
      · cases e
      · omega
  · refine (push_rep p g b cap id k L w hr hw (no_id hp hno) (by rw [hp.length_eq]; exact hl) ho).mono ?_
    rintro e w' ⟨rfl, g2, cap2, K, ⟨hK, hoK⟩, hrK, hO, hat⟩
    refine ⟨rfl, ⟨K, hK.trans (hp.append_right [(id, k)]), hoK, Or.inl hm, Or.inr ⟨g2, b, cap2, ?_, Or.inl hb, hrK⟩⟩, hO.mono (fun x hx e => ?_)⟩
    · rcases hat with e | e
      · cases e; exact Or.inl hg
      · exact Or.inr e
    · rcases e with rfl | e | rfl
      · exact hm
      · cases e; exact hg
      · exact hb
end
end Go.Proofs.Ytonlhcebnbdjjaa.S
