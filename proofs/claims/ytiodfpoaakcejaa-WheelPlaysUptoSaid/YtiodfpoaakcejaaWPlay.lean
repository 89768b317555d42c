/- A wheel and the list of timers that a play keeps beside it. -/
import Derived.Test.YtiodfpoaakcejaaTimers
import Derived.Test.YtiodfpoaakcejaaDue
import Derived.Test.YtiodfpoaakcejaaAt
namespace Go.Proofs.Ytiodfpoaakcejaa.Wh
open Go.ChangeShapes Go.WideShapes Go.ChangeAt Go.RowKit Go.Maps
open Go.Proofs.Ytiodfpoaakcejaa.Hp
open Go.Proofs.Ytiodfpoaakcejaa.Tm (RowAt row_nil Ahead Found enc)
set_option linter.unusedVariables false

/-- A wheel with the timers Sw, a row of the timers S, and boxes X of numbers, in blocks from B on that have nothing to do with each other. -/
def Play (B : Nat) (w : World) (p : Nat) (now : Int) (V : Value) (Sw S : Timers) (X : List (Nat × Int)) : Prop :=
  ∃ M : Nat → Prop, WheelAt M w p now Sw ∧ RowAt w B V S ∧ (∀ k, V.ownBlock = some k → ¬ M k) ∧ (∀ k, M k → B ≤ k) ∧ ∀ x ∈ X, B ≤ x.1 ∧ ¬ M x.1 ∧ w.heap[x.1]? = some (.cells #[.int .i64 x.2] 3 (0, 0))

def PAns (B : Nat) (w : World) (p : Nat) (now : Int) (V v : Value) (Sw S : Timers) (X : List (Nat × Int)) (e : Ending) (w' : World) : Prop :=
  e = .returned v ∧ Play B w' p now V Sw S X ∧ Below B w w'

section
variable {B : Nat} {w w' : World} {p : Nat} {now : Int} {V : Value} {Sw S : Timers} {X : List (Nat × Int)}

theorem Play.low (h : Play B w p now V Sw S X) : B ≤ w.heap.size := by
  obtain ⟨M, h1, -, -, h4, -⟩ := h
  obtain ⟨hm, v, m, hh⟩ := h1.heap.self
  have := h4 _ hm; have := hh.there; omega

theorem Play.later (h : Play B w p now V Sw S X) (hO : Only (fun _ => False) w w') : Play B w' p now V Sw S X := by
  obtain ⟨M, h1, h2, h3, h4, h5⟩ := h
  exact ⟨M, h1.later hO, h2.later hO, h3, h4, fun x hx => ⟨(h5 x hx).1, (h5 x hx).2.1, (hO.block _ (block_there (h5 x hx).2.2) (fun e => e)).trans (h5 x hx).2.2⟩⟩

theorem Play.below (h : Play B w p now V Sw S X) (hb : Below w.heap.size w w') : Play B w' p now V Sw S X := h.later (Only.of_below hb)

theorem Play.forget (h : Play B w p now V Sw S X) : Play B w p now V Sw S [] := by
  obtain ⟨M, h1, h2, h3, h4, h5⟩ := h
  exact ⟨M, h1, h2, h3, h4, fun x hx => absurd hx (by simp)⟩

theorem Play.perm {T : Timers} (h : Play B w p now V Sw S X) (hp : Sw.Perm T) : Play B w p now V T S X := by
  obtain ⟨M, h1, r⟩ := h
  exact ⟨M, h1.perm hp, r⟩

theorem Play.box (h : Play B w p now V Sw S []) (id : Int) : Play B (w.alloc (.cells #[.int .i64 id] 3)) p now V Sw S [(w.heap.size, id)] := by
  have hB := h.low
  obtain ⟨M, h1, h2, h3, h4, h5⟩ := h
  have hO : Only (fun _ => False) w (w.alloc (.cells #[.int .i64 id] 3)) := (Only.refl _ w).alloc _
  refine ⟨_, h1.there.later hO, h2.later hO, fun k hk e => h3 k hk e.1, fun k hk => h4 k hk.1, fun x hx => ?_⟩
  simp only [List.mem_singleton] at hx
  subst hx
  exact ⟨hB, fun e => absurd e.2 (Nat.lt_irrefl _), heap_alloc_new w _⟩

theorem play_adds {f : Nat} {args : Array Value} {v : Value} {Sw' : Timers} (h : Play B w p now V Sw S X)
    (hc : ∀ M, WheelAt M w p now Sw → Calls Try.prog f args w (fun e w' => e = .returned v ∧ WheelAt (fun k => M k ∨ w.heap.size ≤ k) w' p now Sw' ∧ Only M w w')) :
    Calls Try.prog f args w (PAns B w p now V v Sw' S X) := by
  have hB := h.low
  obtain ⟨M, h1, h2, h3, h4, h5⟩ := h
  refine (hc M h1).mono ?_
  rintro e w' ⟨rfl, ha, hO⟩
  refine ⟨rfl, ⟨_, ha, h2.keep hO h3, ?_, ?_, fun x hx => ?_⟩, hO.below hB h4⟩
  · rintro k hk (e | e)
    · exact h3 k hk e
    · have := (h2.block hk).2; omega
  · rintro k (e | e)
    · exact h4 k e
    · omega
  · obtain ⟨q1, q2, q3⟩ := h5 x hx
    refine ⟨q1, ?_, (hO.block _ (block_there q3) q2).trans q3⟩
    rintro (e | e)
    · exact q2 e
    · have := block_there q3; omega

theorem play_keeps {f : Nat} {args : Array Value} {v : Value} {Sw' : Timers} (h : Play B w p now V Sw S X) (hc : ∀ M, WheelAt M w p now Sw → Calls Try.prog f args w (WKeep M w p now v Sw')) :
    Calls Try.prog f args w (PAns B w p now V v Sw' S X) :=
  play_adds h fun M hM => (hc M hM).mono fun e w' ⟨h1, h2, h3⟩ => ⟨h1, h2.mono (fun k hk => Or.inl hk), h3⟩

theorem play_quiet {f : Nat} {args : Array Value} {v : Value} (h : Play B w p now V Sw S X) (hc : ∀ M, WheelAt M w p now Sw → Calls Try.prog f args w (fun e w' => e = .returned v ∧ w = w')) :
    Calls Try.prog f args w (PAns B w p now V v Sw S X) := by
  have h0 := h
  obtain ⟨M, h1, h2⟩ := h
  refine (hc M h1).mono ?_
  rintro e w' ⟨rfl, rfl⟩
  exact ⟨rfl, h0, Below.refl _ _⟩

theorem play_read {f : Nat} {args : Array Value} {v : Value} (h : Play B w p now V Sw S X) (hc : ∀ M, WheelAt M w p now Sw → Calls Try.prog f args w (fun e w' => e = .returned v ∧ Only (fun _ => False) w w')) :
    Calls Try.prog f args w (PAns B w p now V v Sw S X) := by
  have h0 := h
  have hB := h.low
  obtain ⟨M, h1, h2⟩ := h
  refine (hc M h1).mono ?_
  rintro e w' ⟨rfl, hO⟩
  exact ⟨rfl, h0.later hO, hO.below hB (fun _ e => e.elim)⟩

theorem Play.row (h : Play B w p now V Sw S X) : RowAt w B V S := by obtain ⟨M, h1, h2, h3⟩ := h; exact h2
theorem Play.ids (h : Play B w p now V Sw S X) : Ids Sw := by obtain ⟨M, h1, h2⟩ := h; exact h1.ids
theorem Play.past (h : Play B w p now V Sw S X) : 0 ≤ now := by obtain ⟨M, h1, h2⟩ := h; exact h1.past
theorem Play.boxed {Bx : Nat} {id : Int} (h : Play B w p now V Sw S [(Bx, id)]) : w.heap[Bx]? = some (.cells #[.int .i64 id] 3 (0, 0)) := by
  obtain ⟨M, h1, h2, h3, h4, h5⟩ := h
  exact (h5 (Bx, id) (by simp)).2.2

/-- The row turned, and nothing else but what is new. -/
theorem Play.turned {V' : Value} {S' : Timers} (h : Play B w p now V Sw S X) (hO : Only (fun k => V.ownBlock = some k) w w') (hP : RowAt w' B V' S') (hV' : ∀ k, V'.ownBlock = some k → V.ownBlock = some k ∨ w.heap.size ≤ k) : Play B w' p now V' Sw S' X ∧ Below B w w' := by
  have hB := h.low
  obtain ⟨M, h1, h2, h3, h4, h5⟩ := h
  refine ⟨⟨_, h1.there.keep hO (fun k _ hk e => h3 k e hk.1), hP, fun k hk e => ?_, fun k hk => h4 k hk.1, fun x hx => ?_⟩, hO.below hB (fun k e => (h2.block e).1)⟩
  · rcases hV' k hk with q | q
    · exact h3 k q e.1
    · have := e.2; omega
  · obtain ⟨q1, q2, q3⟩ := h5 x hx
    refine ⟨q1, fun e => q2 e.1, (hO.block _ (block_there q3) ?_).trans q3⟩
    rintro e
    obtain ⟨cur, hc⟩ := h2.type e
    rw [q3] at hc; cases hc

theorem play_del {g m cap i : Nat} (h : Play B w p now (.slice (some ⟨g, 0, none⟩) (m + 1) cap) Sw S X) (hS : S.length = m + 1) (hi : i < m + 1) (hb : m ≤ 6000000000000) :
    Calls Try.prog 16 #[.slice (some ⟨g, 0, none⟩) (m + 1) cap, .int .i64 i, .int .i64 ((i : Int) + 1)] w (PAns B w p now (.slice (some ⟨g, 0, none⟩) m cap) (.slice (some ⟨g, 0, none⟩) m cap) Sw (S.eraseIdx i) X) := by
  refine (Tm.delete_row B g m cap i S w h.row hS hi hb).mono ?_
  rintro e w' ⟨rfl, hP, hO⟩
  obtain ⟨h1, h2⟩ := h.turned (hO.mono (fun x _ e => by subst e; rfl)) hP (fun k hk => Or.inl (by cases hk; rfl))
  exact ⟨rfl, h1, h2⟩

/-- A row that has grown by append: it lies where it lay, or in a new block. -/
theorem grown_at {v v' : Value} {S' : Timers} (h : RowAt w B v S) (hr : RowAt w' B v' S') (hO : Only (fun k => v.ownBlock = some k) w w') (hg : ∀ k, v'.ownBlock = some k → k < w.heap.size → v.ownBlock = some k) : ∀ k, v'.ownBlock = some k → v.ownBlock = some k ∨ w.heap.size ≤ k := by
  intro k hk
  by_cases e : k < w.heap.size
  · exact Or.inl (hg k hk e)
  · exact Or.inr (by omega)
end

theorem erase_mid {l r : Timers} {x : Int × Int} (h : Ids (l ++ x :: r)) : l ++ r = without (l ++ x :: r) x.1 := by
  have hn : Ids (x :: (l ++ r)) := h.perm List.perm_middle
  simp only [Ids, List.map_cons, List.nodup_cons] at hn
  have hw : ∀ y ∈ l ++ r, y.1 ≠ x.1 := fun y hy e => hn.1 (List.mem_map.2 ⟨y, hy, e⟩)
  unfold without
  rw [List.filter_append, List.filter_cons_of_neg (by simp), List.filter_eq_self.2, List.filter_eq_self.2]
  · intro y hy; simpa using hw y (List.mem_append_right _ hy)
  · intro y hy; simpa using hw y (List.mem_append_left _ hy)

theorem erase_without {S : Timers} (h : Ids S) {i : Nat} (hi : i < S.length) : S.eraseIdx i = without S (S.getD i (0, 0)).1 := by
  have hg : S.getD i (0, 0) = S[i] := by simp [List.getD, hi]
  have hs : S = S.take i ++ S[i] :: S.drop (i + 1) := by
    rw [← List.drop_eq_getElem_cons hi, List.take_append_drop]
  rw [List.eraseIdx_eq_take_drop_succ, hg]
  generalize S[i] = x at hs ⊢
  have h2 := erase_mid (l := S.take i) (r := S.drop (i + 1)) (x := x) (hs ▸ h)
  rw [h2, ← hs]

/-- The first of a sorted list is the one that Next answers. -/
theorem sorted_head {S T : Timers} (hP : T.Perm S) (hs : Sorted T) (h0 : 0 < T.length) : Least S (T.getD 0 (0, 0)) := by
  cases T with
  | nil => simp at h0
  | cons x r =>
    refine ⟨hP.mem_iff.1 (by simp), fun y hy => ?_⟩
    have := hP.mem_iff.2 hy
    rcases List.mem_cons.1 this with rfl | hr
    · exact prec_irrefl _
    · exact (List.pairwise_cons.1 hs).1 y hr

/-- Those of a sorted list that are due. -/
theorem sorted_due {S T : Timers} (hP : T.Perm S) (hs : Sorted T) (t : Int) : T.filter (fun x => decide (x.2 ≤ t)) = goers S t ∧ (stay S t).Perm (T.filter fun x => decide (t < x.2)) :=
  ⟨(goers_of (hs.filter _) (hP.filter _)).symm, (hP.filter _).symm⟩

theorem ahead_stay {now t : Int} {S : Timers} (h : Ahead now S) (ht : now ≤ t) : Ahead t (stay S t) := fun x hx => by
  have h1 := mem_stay.1 hx
  have h2 := h x h1.1
  omega

theorem key_mod {now a : Int} (ha : 0 ≤ a ∧ a < 4294967296) : (now + dist now a) % 4294967296 = a := by unfold dist; omega
end Go.Proofs.Ytiodfpoaakcejaa.Wh
