/- A ring in memory, and the contracts of the functions of package wrap that read one: Span, place. -/
import Derived.Test.YtjeifpjjnfaefaaRow
import Derived.Laws.AppendOwnNone
import Derived.Deep.AppendLies
import Derived.Deep.DeepMust
import Derived.Deep.RegionWith
import Derived.Deep.QuietTactic
import Derived.BigQuiet
import Derived.WalkSpells
namespace Go.Proofs.Ytjeifpjjnfaefaa
open Go.ChangeShapes Go.WideShapes Go.ChangeAt Go.RowKit
set_option linter.unusedVariables false

/-- From w to w' nothing changed but the blocks of S, and new blocks. -/
structure Only (S : Nat → Prop) (w w' : World) : Prop where
  os : w'.os = w.os
  tape : w'.tape = w.tape
  output : w'.output = w.output
  size : w.heap.size ≤ w'.heap.size
  block : ∀ k, k < w.heap.size → ¬ S k → w'.heap[k]? = w.heap[k]?

theorem Only.refl (S : Nat → Prop) (w : World) : Only S w w := ⟨rfl, rfl, rfl, Nat.le_refl _, fun _ _ _ => rfl⟩
theorem Only.trans {S T : Nat → Prop} {a b c : World} (h : Only S a b) (k : Only T b c) (hT : ∀ x, x < a.heap.size → T x → S x) : Only S a c :=
  ⟨k.os.trans h.os, k.tape.trans h.tape, k.output.trans h.output, Nat.le_trans h.size k.size, fun i hi hn => (k.block i (Nat.lt_of_lt_of_le hi h.size) (fun t => hn (hT i hi t))).trans (h.block i hi hn)⟩
theorem Only.mono {S T : Nat → Prop} {a b : World} (h : Only S a b) (hT : ∀ x, x < a.heap.size → S x → T x) : Only T a b :=
  ⟨h.os, h.tape, h.output, h.size, fun i hi hn => h.block i hi (fun t => hn (hT i hi t))⟩
theorem Only.drew {S : Nat → Prop} {a w : World} (h : Only S a w) : Only S a w.drew := ⟨h.os, h.tape, h.output, h.size, h.block⟩
theorem Only.below {S : Nat → Prop} {a b : World} {B : Nat} (h : Only S a b) (hB : B ≤ a.heap.size) (hS : ∀ x, S x → B ≤ x) : Below B a b :=
  ⟨h.os, h.tape, h.output, h.size, fun i hi => h.block i (by omega) (fun t => by have := hS i t; omega)⟩
theorem Only.of_below {S : Nat → Prop} {a b : World} (h : Below a.heap.size a b) : Only S a b := ⟨h.os, h.tape, h.output, h.size, fun i hi _ => h.block i hi⟩
theorem Only.of_grown {S : Nat → Prop} {a b : World} {row : Option Nat} (h : a.grownBy b row) (hr : ∀ k, row = some k → S k) : Only S a b :=
  ⟨h.os, h.tape, h.output, h.size, fun i hi hn => h.block i hi (fun e => hn (hr i e.symm))⟩
theorem Only.setCell {S : Nat → Prop} {a w : World} (h : Only S a w) {p : Addr} (hp : S p.block) (u : Value) : Only S a (w.setCell p u) :=
  h.trans (T := S) ⟨rfl, rfl, rfl, by simp [World.setCell], fun k hk hn => Below.heap_setCell _ _ _ _ (fun e => hn (by rw [e]; exact hp))⟩ (fun _ _ h => h)
theorem Only.alloc {S : Nat → Prop} {a w : World} (h : Only S a w) (o : Obj) : Only S a (w.alloc o) :=
  h.trans (T := S) ⟨rfl, rfl, rfl, by simp, fun k hk hn => Below.heap_alloc _ _ _ hk⟩ (fun _ _ h => h)

/-- An owned row stays while its block is untouched. -/
theorem owns_kept {S : Nat → Prop} {w w' : World} {base : Nat} {e : TypeId} {size : Nat} {v : Value} {n : Nat} {xs : List Value} (h : w.ownsRow base e size v n xs) (hO : Only S w w')
    (hS : ∀ g, v.ownBlock = some g → ¬ S g) : w'.ownsRow base e size v n xs := by
  obtain ⟨h1, h2⟩ := h
  refine ⟨h1, ?_⟩
  rcases h2 with h2 | ⟨g, cap, cur, rfl, hb, hg, r1, r2, r3, r4⟩
  · exact Or.inl h2
  · right
    have hlt : g < w.heap.size := by
      rcases Nat.lt_or_ge g w.heap.size with hlt | hge
      · exact hlt
      · rw [Array.getElem?_eq_none hge] at hg; cases hg
    exact ⟨g, cap, cur, rfl, hb, by rw [hO.block g hlt (hS g rfl)]; exact hg, r1, r2, r3, r4⟩

theorem owns_base {w : World} {base base' : Nat} {e : TypeId} {size : Nat} {v : Value} {n : Nat} {xs : List Value} (h : w.ownsRow base e size v n xs) (hb : base' ≤ base) : w.ownsRow base' e size v n xs := by
  obtain ⟨h1, h2⟩ := h
  refine ⟨h1, ?_⟩
  rcases h2 with h2 | ⟨g, cap, cur, rfl, hb', r⟩
  · exact Or.inl h2
  · exact Or.inr ⟨g, cap, cur, rfl, Nat.le_trans hb hb', r⟩

/-- A value owns a row of bytes. -/
def OwnBytes (w : World) (base : Nat) (v : Value) (xs : List Int) : Prop := w.ownsRow base 5 1 v xs.length (xs.map (Value.int .u8))

/-- A ring in block p, its records' array the value V: the bytes of each record in a row of the ring's own, in a block of M. -/
structure RingAt (M : Nat → Prop) (B : Nat) (w : World) (p : Nat) (V : Value) (size : Nat) (next : Int) (recs : List (List Int)) : Prop where
  low : B ≤ p
  self : w.heap[p]? = some (.cells #[.int .i64 size, .int .u32 next, V] 59 (0, 0))
  rows : ∃ vals : List Value, vals.length = recs.length ∧ w.ownsRow B 35 1 V recs.length vals ∧ ∀ j, j < recs.length → OwnBytes w B (vals.getD j (.slice none 0 0)) (recs.getD j []) ∧ ∀ k, (vals.getD j (.slice none 0 0)).ownBlock = some k → M k

theorem block_there {w : World} {p : Nat} {o : Obj} (h : w.heap[p]? = some o) : p < w.heap.size := by
  rcases Nat.lt_or_ge p w.heap.size with hlt | hge
  · exact hlt
  · rw [Array.getElem?_eq_none hge] at h; cases h

section
variable {M : Nat → Prop} {B : Nat} {w w' : World} {p : Nat} {V : Value} {size : Nat} {next : Int} {recs : List (List Int)}

theorem RingAt.lt (h : RingAt M B w p V size next recs) : p < w.heap.size := block_there h.self

theorem RingAt.shape (h : RingAt M B w p V size next recs) :
    ∃ a c, V = .slice a recs.length c ∧ (a = none → c = 0 ∧ recs.length = 0) ∧ recs.length ≤ c ∧ c ≤ maxLen := by
  obtain ⟨vals, hv, hown, _⟩ := h.rows
  rcases hown.2 with ⟨rfl, h0⟩ | ⟨g, cap, cur, rfl, _, _, h1, h2, _⟩
  · exact ⟨none, 0, by rw [h0], fun _ => ⟨rfl, h0⟩, by omega, by unfold maxLen; omega⟩
  · exact ⟨some ⟨g, 0, none⟩, cap, rfl, (fun e => by cases e), h1, h2⟩

/-- What owns a row lies in a block of the row's own type. -/
theorem owns_type {w : World} {base : Nat} {e : TypeId} {size : Nat} {v : Value} {n : Nat} {xs : List Value} (h : w.ownsRow base e size v n xs) {k : Nat} (hk : v.ownBlock = some k) :
    ∃ cur, w.heap[k]? = some (.cells cur e (0, 0)) := by
  rcases h.2 with ⟨rfl, h0⟩ | ⟨g, cap, cur, rfl, _, hg, h1, h2, _⟩
  · cases hk
  · cases hk; exact ⟨cur, hg⟩

theorem RingAt.kept {S : Nat → Prop} (h : RingAt M B w p V size next recs) (hO : Only S w w') (hp : ¬ S p) (hV : ∀ k, V.ownBlock = some k → ¬ S k) (hM : ∀ k, M k → ¬ S k) : RingAt M B w' p V size next recs := by
  obtain ⟨vals, hv, hown, hr⟩ := h.rows
  exact ⟨h.low, by rw [hO.block p h.lt hp]; exact h.self, vals, hv, owns_kept hown hO hV, fun j hj => ⟨owns_kept (hr j hj).1 hO (fun k hk => hM k ((hr j hj).2 k hk)), (hr j hj).2⟩⟩

theorem RingAt.later (h : RingAt M B w p V size next recs) (hb : Below w.heap.size w w') : RingAt M B w' p V size next recs :=
  h.kept (Only.of_below (S := fun _ => False) hb) (fun h => h) (fun _ _ h => h) (fun _ _ h => h)

theorem RingAt.drewN (h : RingAt M B w p V size next recs) (n : Nat) : RingAt M B (w.drewN n) p V size next recs := ⟨h.low, h.self, h.rows⟩

/-- The blocks of the records are there. -/
theorem RingAt.there (h : RingAt M B w p V size next recs) : RingAt (· < w.heap.size) B w p V size next recs := by
  obtain ⟨vals, hv, hown, hr⟩ := h.rows
  exact ⟨h.low, h.self, vals, hv, hown, fun j hj => ⟨(hr j hj).1, fun k hk => ((hr j hj).1.lt k hk).2⟩⟩

theorem RingAt.mono {M' : Nat → Prop} (h : RingAt M B w p V size next recs) (hM : ∀ k, M k → M' k) : RingAt M' B w p V size next recs := by
  obtain ⟨vals, hv, hown, hr⟩ := h.rows
  exact ⟨h.low, h.self, vals, hv, hown, fun j hj => ⟨(hr j hj).1, fun k hk => hM k ((hr j hj).2 k hk)⟩⟩

/-- Another ring's change leaves a ring as it is. -/
theorem RingAt.other {M2 : Nat → Prop} {B2 p2 : Nat} {V2 : Value} {size2 : Nat} {next2 : Int} {recs2 : List (List Int)} (h : RingAt M B w p V size next recs) (h2 : RingAt M2 B2 w p2 V2 size2 next2 recs2)
    (hp : p ≠ p2) (hV : ∀ k, V.ownBlock = some k → V2.ownBlock ≠ some k) (hO : Only (fun k => k = p2 ∨ V2.ownBlock = some k) w w') : RingAt M B w' p V size next recs := by
  obtain ⟨vals, hv, hown, hr⟩ := h.rows
  obtain ⟨vals2, hv2, hown2, _⟩ := h2.rows
  have h1 : ∀ k, V2.ownBlock = some k → k ≠ p := by
    rintro k hk rfl
    obtain ⟨cur, hc⟩ := owns_type hown2 hk
    rw [h.self] at hc; cases hc
  have h3 : ∀ k, V.ownBlock = some k → k ≠ p2 := by
    rintro k hk rfl
    obtain ⟨cur, hc⟩ := owns_type hown hk
    rw [h2.self] at hc; cases hc
  refine ⟨h.low, by rw [hO.block p h.lt (fun e => e.elim (fun e => hp e) (fun e => h1 p e rfl))]; exact h.self, vals, hv, owns_kept hown hO (fun k hk e => e.elim (fun e => h3 k hk e) (fun e => hV k hk e)), fun j hj => ⟨owns_kept (hr j hj).1 hO (fun k hk => ?_), (hr j hj).2⟩⟩
  obtain ⟨cur, hc⟩ := owns_type (hr j hj).1 hk
  rintro (rfl | e)
  · rw [h2.self] at hc; cases hc
  · obtain ⟨cur2, hc2⟩ := owns_type hown2 e
    rw [hc] at hc2; cases hc2
end

theorem cell_at {w : World} {p : Nat} {cs : Array Value} {t : TypeId} {fr : Nat × Nat} (h : w.heap[p]? = some (.cells cs t fr)) (j : Nat) : w.cell? ⟨p, j, none⟩ = cs[j]? := by
  simp [World.cell?, h]

/-- The number of the oldest record. -/
def oldest (next : Int) (n : Nat) : Int := (next - n) % 4294967296
/-- How many steps a number is ahead of the oldest record's. -/
def placeOf (next : Int) (n : Nat) (k : Int) : Int := (k - (next - n)) % 4294967296

set_option maxHeartbeats 400000 in
theorem span_any (p : Nat) (size : Int) (next : Int) (a : Option Addr) (n c : Nat) (w : World) (hn : n ≤ 1000) (h0 : 0 ≤ next ∧ next < 4294967296)
    (hs : w.heap[p]? = some (.cells #[.int .i64 size, .int .u32 next, .slice a n c] 59 (0, 0))) :
    Calls Try.prog 17 #[.pointer (some ⟨p, 0, none⟩)] w fun e w' => e = .returned (.tuple #[.int .u32 (oldest next n), .int .u32 next]) ∧ ∃ k, w' = w.drewN k := by
  have c1 : w.cell? ⟨p, 1, none⟩ = some (.int .u32 next) := by rw [cell_at hs]; rfl
  have c2 : w.cell? ⟨p, 2, none⟩ = some (.slice a n c) := by rw [cell_at hs]; rfl
  clear hs
  go_enter Try.func17, Try.ntmps17
  go_wp2
  go_quiet (fail)
  go_wp2
  go_ret2
  exact ⟨rfl, _, rfl⟩

set_option maxHeartbeats 400000 in
theorem place_any (p : Nat) (size : Int) (next k : Int) (a : Option Addr) (n c : Nat) (w : World) (hn : n ≤ 1000) (h0 : 0 ≤ next ∧ next < 4294967296)
    (hs : w.heap[p]? = some (.cells #[.int .i64 size, .int .u32 next, .slice a n c] 59 (0, 0))) :
    Calls Try.prog 31 #[.pointer (some ⟨p, 0, none⟩), .int .u32 k] w fun e w' => e = .returned (.int .i64 (placeOf next n k)) ∧ ∃ k, w' = w.drewN k := by
  have C := Lib.hid (span_any p size next a n c w hn h0 hs)
  clear hs
  go_enter Try.func31, Try.ntmps31
  go_wp2_with (go_at_call 17; refine C.out.mono ?_; rintro e w' ⟨rfl, j, rfl⟩)
  go_ret
  refine ⟨ret_int ?_, _, rfl⟩
  unfold oldest placeOf
  omega

/-- A slice whose bytes are 'xs': empty, at whatever address; or they lie in cells of a block that is there. -/
def Bytes (w : World) (v : Value) (xs : List Int) : Prop :=
  ∃ a cap, v = .slice a xs.length cap ∧ (a = none → cap = 0) ∧ (xs ≠ [] → ∃ b off, a = some ⟨b, off, none⟩ ∧ b < w.heap.size ∧ CellsOf .u8 w b off xs)

theorem Bytes.kept {w w' : World} {v : Value} {xs : List Int} (h : Bytes w v xs) (hs : w.heap.size ≤ w'.heap.size) (hb : ∀ b off cap, v = .slice (some ⟨b, off, none⟩) xs.length cap → b < w.heap.size → w'.heap[b]? = w.heap[b]?) : Bytes w' v xs := by
  obtain ⟨a, cap, rfl, h1, h2⟩ := h
  refine ⟨a, cap, rfl, h1, fun hne => ?_⟩
  obtain ⟨b, off, rfl, hbl, hc⟩ := h2 hne
  refine ⟨b, off, rfl, by omega, fun j hj => ?_⟩
  rw [World.cell?_of_block (w := w) (a := ⟨b, off + j, none⟩) (hb b off cap rfl hbl)]
  exact hc j hj

theorem Bytes.later {w w' : World} {v : Value} {xs : List Int} (h : Bytes w v xs) (hb : Below w.heap.size w w') : Bytes w' v xs :=
  h.kept hb.size (fun b _ _ _ hbl => hb.block b hbl)

theorem OwnBytes.bytes {w : World} {base : Nat} {v : Value} {xs : List Int} (h : OwnBytes w base v xs) : Bytes w v xs := by
  have h' := h
  rcases h.2 with ⟨rfl, h0⟩ | ⟨g, c, cur, rfl, hb, hg, hn, hm, _, _⟩
  · have : xs = [] := List.eq_nil_of_length_eq_zero h0
    subst this
    exact ⟨none, 0, rfl, fun _ => rfl, fun h => absurd rfl h⟩
  · have hlt := (h.lt g rfl).2
    refine ⟨_, c, rfl, (fun e => by cases e), fun _ => ⟨g, 0, rfl, hlt, fun j hj => ?_⟩⟩
    rw [Nat.zero_add, World.ownsRow.cellAt h' j (by omega)]
    simp [hj, List.getD]

theorem Try.info5 : (Try.prog.info? 5).map (fun i => (i.zero, i.size, i.bytes)) = some (some (.int .u8 0), 1, 1) := by kernel_rfl
theorem Try.info35 : (Try.prog.info? 35).map (fun i => (i.zero, i.size, i.bytes)) = some (some (.slice none 0 0), 1, 24) := by kernel_rfl

/-- A row of bytes of the call's own was answered, and nothing that was there changed. -/
def BytesAnswer (xs : List Int) (w : World) (e : Ending) (w' : World) : Prop :=
  ∃ v, e = .returned v ∧ OwnBytes w' w.heap.size v xs ∧ Below w.heap.size w w'

theorem bytes_append {w : World} {ops : Array Oper} {rest : List Oper} {o : Oper} {a : Act} {Q : Exit → Act → World → Prop} (hgd : o.guard = none) (s x : Operand)
    (ho : o.op = .call { callee := .builtin .append, args := #[s, x], argTypes := #[35, 35] })
    (base : Nat) (v vx : Value) (xs : List Int) (hs : a.eval s = v) (hx : a.eval x = vx) (hown : w.ownsRow base 5 1 v 0 []) (hr : Bytes w vx xs)
    (hn : xs.length ≤ 140737488355328) (hbase : base ≤ w.heap.size)
    (h : ∀ v' w', OwnBytes w' base v' xs → w.grownBy w' v.ownBlock → wpList Try.prog ops Q rest (a.put o.dst v') w') : wpList Try.prog ops Q (o :: rest) a w := by
  obtain ⟨i0, hi, hz0, hz1, hz2⟩ := info_parts Try.info5
  obtain ⟨ad, cap, rfl, h1, h2⟩ := hr
  cases ad with
  | none =>
    have hz : xs = [] := by
      by_cases e : xs = []
      · exact e
      · obtain ⟨b, off, hh, _⟩ := h2 e; cases hh
    subst hz
    have := h1 rfl; subst this
    refine wpList_append_own_none hgd s x 35 ho base 5 i0 1 Try.underlying35 hi v 0 [] hs hown hx ?_
    exact h v w (by simpa [OwnBytes] using hown) ⟨rfl, rfl, rfl, Nat.le_refl _, fun _ _ _ => rfl⟩
  | some ad =>
    refine wpList_append_own w hgd s x 35 ho base 5 i0 (.int .u8 0) 1 1 Try.underlying35 hi hz0 hz1 hz2 rfl (by decide) v 0 [] hs hown ad xs.length cap (xs.map (Value.int .u8)) hx (by simp) ?_ (by simp; intro z _; rfl) (by unfold maxLen; omega) (by omega) hbase ?_
    · intro j u hj
      by_cases e : xs = []
      · subst e; simp at hj
      · obtain ⟨b, off, hh, hbl, hc⟩ := h2 e
        obtain rfl := Option.some.inj hh
        rw [List.getElem?_map] at hj
        have hlt : j < xs.length := by
          by_cases hlt : j < xs.length
          · exact hlt
          · rw [List.getElem?_eq_none (by omega)] at hj; simp at hj
        have := hc j hlt
        rw [add_plain, this]
        rw [List.getElem?_eq_getElem hlt] at hj
        simp at hj
        subst hj
        simp [List.getD, List.getElem?_eq_getElem hlt]
    · intro v' w' hown' hg _
      refine h v' w' ?_ hg
      simpa [OwnBytes] using hown'

set_option maxHeartbeats 400000 in
theorem clone_any (v : Value) (xs : List Int) (w : World) (h : Bytes w v xs) (hn : xs.length ≤ 140737488355328) : Calls Try.prog 29 #[v] w (BytesAnswer xs w) := by
  have H := Lib.hid h
  obtain ⟨a, cap, rfl, h1, h2⟩ := h
  have q35 : ∀ (w : World) (a : Option Addr) (n c n' c' : Nat), (binOp .eql 35 (.slice a n c) (.slice none n' c')).run Try.prog w = .ok (.bool a.isNone) w := fun w a n c n' c' => Lib.run_eql_slice_nil w _ _ a n c n' c' Try.underlying35
  cases a with
  | none =>
    have hz : xs = [] := by
      by_cases e : xs = []
      · exact e
      · obtain ⟨b, off, hh, _⟩ := h2 e; cases hh
    subst hz
    clear h2
    go_enter Try.func29, Try.ntmps29
    go_wp2
    go_ret
    exact ⟨_, rfl, World.ownsRow_nil _ _ _ _, Below.refl _ _⟩
  | some ad =>
    clear h1 h2
    have HO := Lib.hid (World.ownsRow_made (base := w.heap.size) (e := 5) (size := 1) w #[] 0 (Nat.le_refl _) (Nat.zero_le _) rfl)
    have HB := Lib.hid ((Below.refl w.heap.size w).alloc (Nat.le_refl _) (.cells #[] 5))
    go_enter Try.func29, Try.ntmps29
    go_wp2_with (at_builtin; go_must (refine bytes_append rfl _ _ rfl w.heap.size _ _ xs rfl rfl HO.out (H.out.later HB.out) hn (by simp) ?_); intro v' w1 hown hg; have HO1 := Lib.hid hown; go_must (have HB1 := Lib.hid (HB.out.grown hg (by simp) (fun k hk => (HO.out.lt k hk).1))); clear hown hg)
    go_ret
    exact ⟨_, rfl, HO1.out, HB1.out⟩
end Go.Proofs.Ytjeifpjjnfaefaa
