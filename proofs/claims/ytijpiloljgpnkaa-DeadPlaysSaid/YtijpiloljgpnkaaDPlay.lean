/- A class of deadlines and its reference, step by step: what is known behind each call. -/
import Derived.Test.YtijpiloljgpnkaaDTickr
import Derived.Test.YtijpiloljgpnkaaDBegun
import Derived.Test.YtijpiloljgpnkaaDPtDel
import Derived.Test.YtijpiloljgpnkaaAt
namespace Go.Proofs.Ytijpiloljgpnkaa.De
open Go.ChangeShapes Go.WideShapes Go.ChangeAt Go.RowKit Go.Maps
open Go.Proofs.Ytijpiloljgpnkaa.Pt
set_option linter.unusedVariables false

/-- A class and its reference, that hold the same. -/
structure Both (B : Nat) (w : World) (p q : Nat) (L : List (Nat × Nat)) (T : Tks) (n M : Int) : Prop where
  dead : DeadAt w p T n
  ref : RefAt B w q L T n
  same : Same L T
  fit : Fit T n
  bare : Bare T
  new : B ≤ p
  time : 0 ≤ n ∧ n ≤ M

/-- A class that has gone ahead, and its reference that has not yet. -/
structure Duet (B : Nat) (w : World) (p q : Nat) (L : List (Nat × Nat)) (T : Tks) (n : Int) (T' : Tks) (n' : Int) : Prop where
  dead : DeadAt w p T' n'
  ref : RefAt B w q L T n
  new : B ≤ p

section
variable {L : List (Nat × Nat)} {T : Tks}
theorem Same.congr {T' : Tks} (h : Same L T) (hT : ∀ t, (T' t).p = (T t).p) : Same L T' := ⟨h.num, fun t ht hp => h.all t ht (by rw [← hT]; exact hp), fun x hx => by rw [hT]; exact h.there x hx⟩
theorem Same.turn (h : Same L T) {t : Nat} {x : Tk} (hp : x.p = (T t).p) : Same L (upd T t x) := by
  refine h.congr (fun k => ?_)
  unfold upd; split
  · rename_i e; subst e; exact hp
  · rfl
theorem past_p (T : Tks) (n : Int) (t : Nat) : (past T n t).p = (T t).p := by
  unfold past pastTo; split
  · rw [again_p]
  · rfl
theorem Same.past (h : Same L T) (n : Int) : Same L (past T n) := h.congr (past_p T n)
theorem Same.tick (h : Same L T) (n : Int) : Same L (tick T n) := by
  refine h.congr (fun t => ?_)
  unfold De.tick
  split
  · rw [past_p]
  · rw [past_p]; unfold upd; split
    · rename_i e; subst e; rfl
    · rfl
theorem Same.add (h : Same L T) {b t : Nat} (h1 : 1 ≤ t) (h2 : t ≤ 16) (hno : (T t).p = 0) {x : Tk} (hx : x.p ≠ 0) : Same (L ++ [(b, t)]) (upd T t x) := by
  have hne : ∀ y ∈ L, y.2 ≠ t := fun y hy e => h.there y hy (by rw [e]; exact hno)
  refine ⟨fun y hy => ?_, fun k hk hc => ?_, fun y hy => ?_⟩
  · rcases List.mem_append.1 hy with e | e
    · exact h.num y e
    · simp at e; subst e; exact ⟨h1, h2⟩
  · by_cases e : k = t
    · subst e; exact ⟨b, by simp⟩
    · rw [upd_other _ _ e] at hc
      obtain ⟨b', hb'⟩ := h.all k hk hc
      exact ⟨b', by simp [hb']⟩
  · rcases List.mem_append.1 hy with e | e
    · rw [upd_other _ _ (hne y e)]; exact h.there y e
    · simp at e; subst e; simp only; rw [upd_same]; exact hx
/-- The list without a block. -/
def without (L : List (Nat × Nat)) (b : Nat) : List (Nat × Nat) := L.filter fun x => !decide (x.1 = b)
theorem mem_without {b : Nat} {x : Nat × Nat} : x ∈ without L b ↔ x ∈ L ∧ x.1 ≠ b := by unfold without; simp
theorem Same.leave (h : Same L T) {b t : Nat} (hx : (b, t) ∈ L) (hb : ∀ y ∈ L, y.1 = b ↔ y.2 = t) : Same (without L b) (upd T t noTk) := by
  refine ⟨fun x hx => h.num x (mem_without.1 hx).1, fun k hk hc => ?_, fun x hx => ?_⟩
  · by_cases e : k = t
    · subst e; rw [upd_same] at hc; exact absurd rfl hc
    · rw [upd_other _ _ e] at hc
      obtain ⟨b', hb'⟩ := h.all k hk hc
      exact ⟨b', mem_without.2 ⟨hb', fun e' => e ((hb _ hb').1 e')⟩⟩
  · obtain ⟨h1, h2⟩ := mem_without.1 hx
    have : x.2 ≠ t := fun e => h2 ((hb x h1).2 e)
    rw [upd_other _ _ this]; exact h.there x h1
theorem Same.not_there (hs : Same L T) {t : Int} (ht : ¬ isTask T t) : ∀ x ∈ L, (x.2 : Int) ≠ t := by
  intro x hx e
  have h1 := hs.num x hx
  exact ht ⟨by omega, by omega, by rw [← e]; exact hs.there x hx⟩
end

section
variable {B : Nat} {w w' : World} {p q : Nat} {L : List (Nat × Nat)} {T T' : Tks} {n n' M : Int}
theorem Both.later (h : Both B w p q L T n M) (hO : Only (fun _ => False) w w') : Both B w' p q L T n M := ⟨h.dead.later hO, h.ref.later hO, h.same, h.fit, h.bare, h.new, h.time⟩
theorem Both.more (h : Both B w p q L T n M) {M' : Int} (hM : M ≤ M') : Both B w p q L T n M' := ⟨h.dead, h.ref, h.same, h.fit, h.bare, h.new, h.time.1, Int.le_trans h.time.2 hM⟩

theorem findr_yes (h : RefAt B w q L T n) (hs : Same L T) {b t : Nat} (hx : (b, t) ∈ L) :
    Calls Try.prog 12 #[.pointer (some ⟨q, 0, none⟩), .int .i64 t] w fun e w' => e = .returned (.pointer (some ⟨b, 0, none⟩)) ∧ w = w' := by
  refine (findr_any h (h.len16 hs) t).mono ?_
  rintro e w' ⟨⟨b', n, rfl, hm, hn⟩ | ⟨rfl, hno⟩, rfl⟩
  · have : n = t := by omega
    subst this
    rw [h.same_num hm hx]
    exact ⟨rfl, rfl⟩
  · exact absurd rfl (hno _ hx)
theorem findr_no (h : RefAt B w q L T n) (hs : Same L T) {t : Int} (hx : ∀ x ∈ L, (x.2 : Int) ≠ t) :
    Calls Try.prog 12 #[.pointer (some ⟨q, 0, none⟩), .int .i64 t] w fun e w' => e = .returned (.pointer none) ∧ w = w' := by
  refine (findr_any h (h.len16 hs) t).mono ?_
  rintro e w' ⟨⟨b', n, rfl, hm, hn⟩ | ⟨rfl, hno⟩, rfl⟩
  · exact absurd hn (hx _ hm)
  · exact ⟨rfl, rfl⟩

theorem Duet.apart (h : Duet B w p q L T n T' n') : p ≠ q ∧ (∀ x ∈ L, x.1 ≠ p) ∧ ∀ V, RowAt w B V (L.map (·.1)) → ∀ g, V.ownBlock = some g → g ≠ p := by
  obtain ⟨cs, hp, -⟩ := h.dead
  obtain ⟨⟨V, hq, hr, -⟩, ht, -⟩ := h.ref
  refine ⟨fun e => ?_, fun x hx e => ?_, fun V hV g hg e => ?_⟩
  · subst e; rw [hp] at hq; injection hq with h1; injection h1 with _ h2; exact absurd h2 (by decide)
  · have := ht x hx
    rw [e, hp] at this; unfold taskCells at this; injection this with h1; injection h1 with _ h2; exact absurd h2 (by decide)
  · subst e
    obtain ⟨cur, hc⟩ := owns_type hV hg
    rw [hp] at hc; injection hc with h1; injection h1 with _ h2; exact absurd h2 (by decide)
theorem Both.duet (h : Both B w p q L T n M) : Duet B w p q L T n T n := ⟨h.dead, h.ref, h.new⟩
theorem Duet.later (h : Duet B w p q L T n T' n') (hO : Only (fun _ => False) w w') : Duet B w' p q L T n T' n' := ⟨h.dead.later hO, h.ref.later hO, h.new⟩
/-- The class goes ahead. -/
theorem Duet.ahead (h : Duet B w p q L T n T' n') {T2 : Tks} {n2 : Int} (hF : DeadAt w' p T2 n2) (hO : Only (fun k => k = p) w w') : Duet B w' p q L T n T2 n2 := by
  obtain ⟨a1, a2, a3⟩ := h.apart
  obtain ⟨hf, ⟨⟨V, h1, h3, h4⟩, h5, h6, h7, h8, h9⟩, hn⟩ := h
  exact ⟨hF, ⟨⟨V, (hO.block q (block_there h1) (Ne.symm a1)).trans h1, h3.keep hO (fun g hg e => a3 V h3 g hg e), h4⟩, fun x hx => (hO.block x.1 (block_there (h5 x hx)) (a2 x hx)).trans (h5 x hx), h6, h7, h8, h9⟩, hn⟩
/-- The reference follows. -/
theorem Duet.follow (h : Duet B w p q L T n T' n') {S : Nat → Prop} {L2 : List (Nat × Nat)} {T2 : Tks} {n2 : Int} (hR : RefAt B w' q L2 T2 n2) (hO : Only S w w') (hS : ¬ S p) : Duet B w' p q L2 T2 n2 T' n' := ⟨h.dead.keep hO hS, hR, h.new⟩
theorem Duet.both (h : Duet B w p q L T n T n) (hs : Same L T) (hf : Fit T n) (hb : Bare T) (ht : 0 ≤ n ∧ n ≤ M) : Both B w p q L T n M := ⟨h.dead, h.ref, hs, hf, hb, h.new, ht⟩
theorem below_p (h : B ≤ p) (hO : Only (fun k => k = p) w w') (hB : B ≤ w.heap.size) : Below B w w' := hO.below hB (fun x e => by omega)

/-- What Find has found. -/
def Known (L : List (Nat × Nat)) (T : Tks) (t : Int) (ox : Option Addr) : Prop := (∃ b n : Nat, ox = some ⟨b, 0, none⟩ ∧ (b, n) ∈ L ∧ t = n) ∨ (ox = none ∧ ¬ isTask T t)

theorem find_known (h : Both B w p q L T n M) (t : Int) :
    Calls Try.prog 12 #[.pointer (some ⟨q, 0, none⟩), .int .i64 t] w fun e w' => ∃ ox, e = .returned (.pointer ox) ∧ Known L T t ox ∧ w = w' := by
  by_cases hT : isTask T t
  · obtain ⟨b, hb⟩ := h.same.all t.toNat (by have := hT.2.1; omega) hT.2.2
    have e : t = (t.toNat : Int) := by have := hT.1; omega
    have := findr_yes h.ref h.same hb
    rw [← e] at this
    exact this.mono fun _ _ hh => ⟨_, hh.1, Or.inl ⟨b, t.toNat, rfl, hb, e⟩, hh.2⟩
  · exact (findr_no h.ref h.same (h.same.not_there hT)).mono fun _ _ hh => ⟨none, hh.1, Or.inr ⟨rfl, hT⟩, hh.2⟩
end

/-- The box of the pointer that was found, younger than all else. -/
structure Boxed (B Bx p q : Nat) (w : World) (L : List (Nat × Nat)) (V : Value) (ox : Option Addr) : Prop where
  box : w.heap[Bx]? = some (.cells #[.pointer ox] 34 (0, 0))
  vq : w.cell? ⟨q, 1, none⟩ = some V
  row : RowAt w B V (L.map (·.1))
  vlt : ∀ g, V.ownBlock = some g → g < Bx
  plt : p < Bx
  qlt : q < Bx
  llt : ∀ x ∈ L, x.1 < Bx
  low : B ≤ Bx

section
variable {B Bx p q : Nat} {w w' : World} {L : List (Nat × Nat)} {T T' : Tks} {n n' : Int} {V : Value} {ox : Option Addr}
theorem Boxed.later (h : Boxed B Bx p q w L V ox) (hO : Only (fun _ => False) w w') : Boxed B Bx p q w' L V ox := by
  refine ⟨(hO.block Bx (block_there h.box) (fun e => e)).trans h.box, ?_, h.row.later hO, h.vlt, h.plt, h.qlt, h.llt, h.low⟩
  rw [← h.vq]; unfold World.cell?
  rw [hO.block q (by have := block_there h.box; have := h.qlt; omega) (fun e => e)]
theorem Boxed.ahead (h : Boxed B Bx p q w L V ox) (hD : Duet B w p q L T n T' n') (hO : Only (fun k => k = p) w w') : Boxed B Bx p q w' L V ox := by
  obtain ⟨a1, a2, a3⟩ := hD.apart
  have hb := block_there h.box
  refine ⟨(hO.block Bx hb (by have := h.plt; omega)).trans h.box, ?_, h.row.keep hO (fun g hg e => a3 V h.row g hg e), h.vlt, h.plt, h.qlt, h.llt, h.low⟩
  rw [← h.vq]; unfold World.cell?
  rw [hO.block q (by have := h.qlt; omega) (Ne.symm a1)]
theorem Boxed.cell (h : Boxed B Bx p q w L V ox) : w.cell? ⟨Bx, 0, none⟩ = some (.pointer ox) := by rw [cell_at h.box]; rfl
theorem Known.task {t : Nat} {b : Nat} (hs : Same L T) (h : Known L T t (some ⟨b, 0, none⟩)) : (b, t) ∈ L := by
  rcases h with ⟨b', n, e, hm, en⟩ | ⟨e, -⟩
  · cases e
    have : n = t := by omega
    subst this; exact hm
  · cases e
end

/-- One pointer more, at a step of a drawn region. -/
theorem step_ptr {w : World} {ops : Array Oper} {o : Oper} {a : Act} {K : Act → World → Prop} {Q : Exit → Act → World → Prop} {E : Prop} (hgd : o.guard = none) (s y : Operand)
    (ho : o.op = .call { callee := .builtin .append, args := #[s, y], argTypes := #[29, 29] })
    (base b : Nat) (v : Value) (S : List Nat) (x : Nat) (hown : RowAt w base v S) (hs : a.eval s = v) (hy : a.eval y = .slice (some ⟨b, 0, none⟩) 1 1)
    (hb : w.heap[b]? = some (.cells #[pt x] 34 (0, 0))) (hl : S.length ≤ 1000000) (hbase : base ≤ w.heap.size)
    (h : ∀ g' c' w', RowAt w' base (.slice (some ⟨g', 0, none⟩) (S.length + 1) c') (S ++ [x]) → Only (fun k => v.ownBlock = some k) w w' → (v.ownBlock = some g' ∨ g' = w.heap.size) → K (a.put o.dst (.slice (some ⟨g', 0, none⟩) (S.length + 1) c')) w') :
    if Region.wanted o (yielded ops a.tmps) = true then Oper.wp Try.prog o a w K Q else E := by
  obtain ⟨i0, hi, hz0, hz1, hz2⟩ := info_parts Pt.Try.infoElem
  refine step_append_lies w hgd s y 29 ho base 34 i0 (.pointer none) 1 8 Try.underlying29 hi hz0 hz1 hz2 rfl (by decide) v S.length (S.map pt) hs hown ⟨b, 0, none⟩ 1 1 [pt x] hy rfl
    (World.news_of_block (cs := #[pt x]) hb) (by intro u hu; simp at hu; subst hu; rfl) (by omega) (by unfold maxLen; omega) (by omega) hbase w.heap.size rfl ?_
  intro g cap w' hown' hg hat hlt
  refine h _ _ w' ?_ (Only.of_grown (S := fun k => v.ownBlock = some k) hg (fun k hk => hk)) hat
  unfold RowAt
  rw [List.length_append, List.map_append]
  exact hown'

section
variable {B : Nat} {w w4 w5 : World} {p q : Nat} {L : List (Nat × Nat)} {T : Tks} {n : Int}

theorem RefAt.apart_row (h : RefAt B w q L T n) {V : Value} (hV : w.cell? ⟨q, 1, none⟩ = some V) : ∀ g, V.ownBlock = some g → g ≠ q ∧ ∀ x ∈ L, g ≠ x.1 := by
  obtain ⟨V', h1, h2, h3⟩ := h.slice
  have : V' = V := by rw [hV] at h1; exact (Option.some.inj h1).symm
  subst this
  exact h3

/-- The class behind the append of a task in block b. -/
theorem RefAt.snoc (h : RefAt B w q L T n) (oa : Only (fun _ => False) w w4) {b t : Nat} {x : Tk} {V : Value} {g' c' n' : Nat} (hb : w4.heap[b]? = some (taskCells t x)) (hbw : w.heap.size ≤ b) (htL : ∀ x ∈ L, x.2 ≠ t)
    (hV : w.cell? ⟨q, 1, none⟩ = some V) (hr : RowAt w5 B (.slice (some ⟨g', 0, none⟩) n' c') (L.map (·.1) ++ [b])) (hO : Only (fun k => V.ownBlock = some k) w4 w5) (hat : V.ownBlock = some g' ∨ g' = w4.heap.size) :
    w5.cell? ⟨q, 1, none⟩ = some V ∧ w5.frozen? ⟨q, 1, none⟩ = false ∧ RefAt B (w5.setCell ⟨q, 1, none⟩ (.slice (some ⟨g', 0, none⟩) n' c')) q (L ++ [(b, t)]) (upd T t x) n ∧ Only (fun k => k = q ∨ V.ownBlock = some k) w (w5.setCell ⟨q, 1, none⟩ (.slice (some ⟨g', 0, none⟩) n' c')) := by
  have hlow := h.low
  obtain ⟨⟨V', h1, h3, h4⟩, h5, h6, h7, h8, h9⟩ := h
  have hVV : V' = V := by have := cell_at h1 1; rw [hV] at this; simp at this; exact this.symm
  subst hVV
  have hqlt := block_there h1
  have hllt : ∀ y ∈ L, y.1 < w.heap.size := fun y hy => block_there (h5 y hy)
  have hvlt : ∀ g, V'.ownBlock = some g → g < w.heap.size := fun g hg => (h3.block hg).2
  have hb4 := block_there hb
  have kept : ∀ k, k < w.heap.size → V'.ownBlock ≠ some k → w5.heap[k]? = w.heap[k]? := fun k hk hn => (hO.block k (Nat.lt_of_lt_of_le hk oa.size) hn).trans (oa.block k hk (fun e => e))
  have q1 : w5.heap[q]? = some (.cells #[.int .i64 n, V'] 31 (0, 0)) := (kept q hqlt (fun e => (h4 q e).1 rfl)).trans h1
  have hbV : V'.ownBlock ≠ some b := fun e => by have := hvlt b e; omega
  have hg' : g' ≠ q ∧ (∀ x ∈ L, g' ≠ x.1) ∧ g' ≠ b := by
    rcases hat with e | e
    · exact ⟨(h4 g' e).1, (h4 g' e).2, fun e2 => hbV (by rw [← e2]; exact e)⟩
    · have := oa.size
      exact ⟨by omega, fun x hx => by have := hllt x hx; omega, by omega⟩
  have oq : Only (fun k => k = q) w5 (w5.setCell ⟨q, 1, none⟩ (.slice (some ⟨g', 0, none⟩) n' c')) := (Only.refl (fun k => k = q) w5).setCell (p := ⟨q, 1, none⟩) rfl _
  refine ⟨by rw [cell_at q1]; rfl, frozen_at q1 1, ⟨⟨.slice (some ⟨g', 0, none⟩) n' c', heap_setCell_same w5 q 1 _ _ _ q1, ?_, ?_⟩, ?_, ?_, ?_, ?_, ?_⟩, ?_⟩
  · rw [List.map_append]
    exact hr.keep oq (fun k hk e => by cases hk; exact hg'.1 e)
  · intro k hk
    cases hk
    refine ⟨hg'.1, fun x hx => ?_⟩
    rcases List.mem_append.1 hx with e | e
    · exact hg'.2.1 x e
    · simp at e; subst e; exact hg'.2.2
  · intro y hy
    rcases List.mem_append.1 hy with e | e
    · rw [upd_other _ _ (htL y e), oq.block y.1 (block_there ((kept y.1 (hllt y e) (fun e2 => (h4 _ e2).2 y e rfl)).trans (h5 y e))) (h7 y e)]
      exact (kept y.1 (hllt y e) (fun e2 => (h4 _ e2).2 y e rfl)).trans (h5 y e)
    · simp at e; subst e
      simp only
      rw [upd_same]
      have hb5 := (hO.block b hb4 hbV).trans hb
      exact (oq.block b (block_there hb5) (by omega)).trans hb5
  · exact ⟨h6.1, fun x hx => by rcases List.mem_append.1 hx with e | e; exact h6.2 x e; simp at e; subst e; show B ≤ b; omega⟩
  · intro x hx
    rcases List.mem_append.1 hx with e | e
    · exact h7 x e
    · simp at e; subst e; show b ≠ q; omega
  · rw [List.map_append, List.map_cons, List.map_nil, List.nodup_append]
    refine ⟨h8, List.nodup_cons.2 ⟨by simp, List.nodup_nil⟩, fun y hy z hz => ?_⟩
    simp at hz; subst hz
    obtain ⟨x, hx, rfl⟩ := List.mem_map.1 hy
    have := hllt x hx; omega
  · rw [List.map_append, List.map_cons, List.map_nil, List.nodup_append]
    refine ⟨h9, List.nodup_cons.2 ⟨by simp, List.nodup_nil⟩, fun y hy z hz => ?_⟩
    simp at hz; subst hz
    obtain ⟨x, hx, rfl⟩ := List.mem_map.1 hy
    exact htL x hx
  · have o1 : Only (fun k => k = q ∨ V'.ownBlock = some k) w w5 := (oa.mono (T := fun k => k = q ∨ V'.ownBlock = some k) (fun _ _ e => e.elim)).trans hO (fun k hk e => Or.inr e)
    exact o1.trans oq (fun k hk e => Or.inl e)

/-- The class with its list cut, the row stored anew. -/
theorem RefAt.struck (h : RefAt B w q L T n) {L2 : List (Nat × Nat)} {T2 : Tks} {V : Value} {g n5 c : Nat} (hV : w.cell? ⟨q, 1, none⟩ = some V) (hg : V.ownBlock = some g) (hr : RowAt w5 B (.slice (some ⟨g, 0, none⟩) n5 c) (L2.map (·.1))) (hO : Only (fun k => k = g) w w5)
    (hL : L2.Sublist L) (hT : ∀ x ∈ L2, T2 x.2 = T x.2) :
    w5.cell? ⟨q, 1, none⟩ = some V ∧ w5.frozen? ⟨q, 1, none⟩ = false ∧ RefAt B (w5.setCell ⟨q, 1, none⟩ (.slice (some ⟨g, 0, none⟩) n5 c)) q L2 T2 n ∧ Only (fun k => k = q ∨ V.ownBlock = some k) w (w5.setCell ⟨q, 1, none⟩ (.slice (some ⟨g, 0, none⟩) n5 c)) := by
  obtain ⟨⟨V', h1, h3, h4⟩, h5, h6, h7, h8, h9⟩ := h
  have hVV : V' = V := by have := cell_at h1 1; rw [hV] at this; simp at this; exact this.symm
  subst hVV
  have hsub : ∀ x ∈ L2, x ∈ L := fun x hx => hL.subset hx
  have q1 : w5.heap[q]? = some (.cells #[.int .i64 n, V'] 31 (0, 0)) := (hO.block q (block_there h1) (fun e => (h4 g hg).1 e.symm)).trans h1
  have oq : Only (fun k => k = q) w5 (w5.setCell ⟨q, 1, none⟩ (.slice (some ⟨g, 0, none⟩) n5 c)) := (Only.refl (fun k => k = q) w5).setCell (p := ⟨q, 1, none⟩) rfl _
  refine ⟨by rw [cell_at q1]; rfl, frozen_at q1 1, ⟨⟨.slice (some ⟨g, 0, none⟩) n5 c, heap_setCell_same w5 q 1 _ _ _ q1, ?_, ?_⟩, ?_, ⟨h6.1, fun x hx => h6.2 x (hsub x hx)⟩, fun x hx => h7 x (hsub x hx), (hL.map _).nodup h8, (hL.map _).nodup h9⟩, ?_⟩
  · exact hr.keep oq (fun k hk e => by cases hk; exact (h4 g hg).1 e)
  · intro k hk
    cases hk
    exact ⟨(h4 g hg).1, fun x hx => (h4 g hg).2 x (hsub x hx)⟩
  · intro x hx
    rw [hT x hx]
    have hx5 := (hO.block x.1 (block_there (h5 x (hsub x hx))) (fun e => (h4 g hg).2 x (hsub x hx) e.symm)).trans (h5 x (hsub x hx))
    exact (oq.block x.1 (block_there hx5) (h7 x (hsub x hx))).trans hx5
  · have o1 : Only (fun k => k = q ∨ V'.ownBlock = some k) w w5 := hO.mono (fun k hk e => Or.inr (by rw [e]; exact hg))
    exact o1.trans oq (fun k hk e => Or.inl e)
end

theorem not_none (S : List Nat) : notOne S none = S := by unfold notOne; simp
theorem without_map (L : List (Nat × Nat)) (b : Nat) : notOne (L.map (·.1)) (some b) = (without L b).map (·.1) := by
  unfold notOne without
  rw [List.filter_map]
  congr 1
  apply List.filter_congr
  intro x hx
  simp

theorem delete_nil (lb : Array Value) (w : World) :
    Calls Try.prog 15 #[.slice none 0 0, .func (.func 16) #[] lb] w fun e w' => e = .returned (.slice none 0 0) ∧ Only (fun _ => False) w w' := by
  have hix : ∀ w, Calls Try.prog 34 #[.slice none 0 0, .func (.func 16) #[] lb] w fun e w' => e = .returned (.int .i64 (-1)) ∧ w = w' := by
    intro w
    go_enter Try.func34, Try.ntmps34
    go_wp2_with fail
    go_loopw [8] (fun i wr => i = .int .i64 0 ∧ wr = w) (fun _ _ => 0)
    case atStart => exact ⟨rfl, rfl⟩
    case round =>
      obtain ⟨rfl, rfl⟩ := hrel
      go_wp2_with fail
      go_ret
      exact ⟨rfl, rfl⟩
  have HI := Lib.hid hix
  clear hix
  go_enter Try.func15, Try.ntmps15
  go_wp2_with (go_at_call 34; (with_reducible refine (HI.out _).mono ?_); rintro e w' ⟨rfl, rfl⟩)
  go_ret
  exact ⟨rfl, Only.refl _ _⟩

section
variable {B Bx : Nat} {w w' w1 w0 w5 : World} {p q b t g c : Nat} {L : List (Nat × Nat)} {T T' : Tks} {n M M' : Int} {ox : Option Addr} {V : Value}

theorem leave_calls (hR : RefAt B w q L T n) (hX : Boxed B Bx p q w L (.slice (some ⟨g, 0, none⟩) L.length c) ox) (hl : L.length ≤ 16) (i : Option Nat) (ho : ox = match (generalizing := false) i with | none => none | some x => some ⟨x, 0, none⟩) (hi : ∀ x, i = some x → ∃ y ∈ L, y.1 = x) :
    Calls Try.prog 15 #[.slice (some ⟨g, 0, none⟩) L.length c, .func (.func 16) #[] #[.pointer (some ⟨Bx, 0, none⟩)]] w (Struck B (L.map (·.1)) i g w) := by
  have ha := hR.apart_row hX.vq g rfl
  have th : ∀ y ∈ L, There w g y.1 := fun y hy => ⟨fun e => ha.2 y hy e.symm, _, _, hR.task y hy⟩
  refine delete_one g L.length c i (.pointer ox) Bx B (L.map (·.1)) w hX.row (by simp) (block_there hX.box) (by have := hX.vlt g rfl; omega) (fun x hx => ?_) (fun x hx => ?_) ?_ hX.cell (by simp; omega)
  · obtain ⟨y, hy, rfl⟩ := List.mem_map.1 hx
    exact th y hy
  · obtain ⟨y, hy, rfl⟩ := hi x hx
    exact th y hy
  · cases i with
    | none => rw [ho]
    | some x => rw [ho]; rfl

/-- A row that is not nil. -/
theorem Boxed.full (hX : Boxed B Bx p q w L V ox) : (V = .slice none 0 0 ∧ L = []) ∨ ∃ g c, V = .slice (some ⟨g, 0, none⟩) L.length c := by
  rcases hX.row.cases with ⟨h1, h2⟩ | ⟨g, c, h1, -⟩
  · exact Or.inl ⟨h1, List.map_eq_nil_iff.1 h2⟩
  · exact Or.inr ⟨g, c, by rw [h1, List.length_map]⟩

/-- The nil row is stored again. -/
theorem nil_end (hb : Both B w p q L T n M) (hM : M ≤ M') (hL : L = []) (hbl : Below B w0 w) :
    Both B (w.setCell ⟨q, 1, none⟩ (.slice none 0 0)) p q L T n M' ∧ Below B w0 (w.setCell ⟨q, 1, none⟩ (.slice none 0 0)) := by
  subst hL
  have hD := hb.duet
  obtain ⟨⟨V, h1, h3, h4⟩, h5, h6, h7, h8, h9⟩ := hb.ref
  have oq : Only (fun k => k = q) w (w.setCell ⟨q, 1, none⟩ (.slice none 0 0)) := (Only.refl (fun k => k = q) w).setCell (p := ⟨q, 1, none⟩) rfl _
  have r : RefAt B (w.setCell ⟨q, 1, none⟩ (.slice none 0 0)) q [] T n :=
    ⟨⟨.slice none 0 0, heap_setCell_same w q 1 _ _ _ h1, row_nil _ _, fun g hg => by cases hg⟩, fun x hx => (List.not_mem_nil hx).elim, h6, fun x hx => (List.not_mem_nil hx).elim, h8, h9⟩
  exact ⟨(hD.follow r oq hD.apart.1).both hb.same hb.fit hb.bare ⟨hb.time.1, Int.le_trans hb.time.2 hM⟩, hbl.trans (oq.below hb.ref.low (fun x e => by rw [e]; exact hb.ref.from'.1))⟩

/-- Whoever was nobody's task leaves the list as it is. -/
theorem leave_end0 (hb : Both B w p q L T n M) (hM : M ≤ M') (hX : Boxed B Bx p q w L (.slice (some ⟨g, 0, none⟩) L.length c) ox) {e : Ending} (h : Struck B (L.map (·.1)) none g w e w5) (hbl : Below B w0 w) :
    ∃ n' c', e = .returned (.slice (some ⟨g, 0, none⟩) n' c') ∧ w5.cell? ⟨q, 1, none⟩ = some (.slice (some ⟨g, 0, none⟩) L.length c) ∧ w5.frozen? ⟨q, 1, none⟩ = false ∧ Both B (w5.setCell ⟨q, 1, none⟩ (.slice (some ⟨g, 0, none⟩) n' c')) p q L T n M' ∧ Below B w0 (w5.setCell ⟨q, 1, none⟩ (.slice (some ⟨g, 0, none⟩) n' c')) := by
  obtain ⟨n', c', rfl, hr, hO⟩ := h
  rw [not_none] at hr
  obtain ⟨k1, k2, r, o⟩ := hb.ref.struck hX.vq rfl hr hO (List.Sublist.refl L) (fun x _ => rfl)
  refine ⟨_, _, rfl, k1, k2, (hb.duet.follow r o (fun e => ?_)).both hb.same hb.fit hb.bare ⟨hb.time.1, Int.le_trans hb.time.2 hM⟩, hbl.trans (o.below hb.ref.low (fun x e => ?_))⟩
  · rcases e with e | e
    · exact hb.duet.apart.1 e
    · exact hb.duet.apart.2.2 _ hX.row _ e rfl
  · rcases e with e | e
    · rw [e]; exact hb.ref.from'.1
    · exact (hX.row.block e).1

theorem leave_end1 (hD : Duet B w p q L T n (upd T t noTk) n) (hb : Both B w1 p q L T n M) (hM : M ≤ M') (hm : (b, t) ∈ L) (hX : Boxed B Bx p q w L (.slice (some ⟨g, 0, none⟩) L.length c) ox) {e : Ending} (h : Struck B (L.map (·.1)) (some b) g w e w5) (hbl : Below B w0 w) :
    ∃ n' c', e = .returned (.slice (some ⟨g, 0, none⟩) n' c') ∧ w5.cell? ⟨q, 1, none⟩ = some (.slice (some ⟨g, 0, none⟩) L.length c) ∧ w5.frozen? ⟨q, 1, none⟩ = false ∧ Both B (w5.setCell ⟨q, 1, none⟩ (.slice (some ⟨g, 0, none⟩) n' c')) p q (without L b) (upd T t noTk) n M' ∧ Below B w0 (w5.setCell ⟨q, 1, none⟩ (.slice (some ⟨g, 0, none⟩) n' c')) := by
  obtain ⟨n', c', rfl, hr, hO⟩ := h
  rw [without_map] at hr
  have hbt : ∀ y ∈ L, y.1 = b ↔ y.2 = t := fun y hy => ⟨fun e => hD.ref.block_of hm hy e, fun e => hD.ref.same_num (t := t) (by rw [← e]; exact hy) hm⟩
  obtain ⟨k1, k2, r, o⟩ := hD.ref.struck (T2 := upd T t noTk) hX.vq rfl hr hO List.filter_sublist (fun x hx => by
    have := mem_without.1 hx
    rw [upd_other _ _ (fun e => this.2 ((hbt x this.1).2 e))])
  refine ⟨_, _, rfl, k1, k2, (hD.follow r o (fun e => ?_)).both (hb.same.leave hm hbt) (hb.fit.upd (ok_no hb.time.1) (fun _ => rfl)) (hb.bare.upd (fun _ => rfl)) ⟨hb.time.1, Int.le_trans hb.time.2 hM⟩, hbl.trans (o.below hD.ref.low (fun x e => ?_))⟩
  · rcases e with e | e
    · exact hD.apart.1 e
    · exact hD.apart.2.2 _ hX.row _ e rfl
  · rcases e with e | e
    · rw [e]; exact hD.ref.from'.1
    · exact (hX.row.block e).1

/-- The row with the new task is stored. -/
theorem add_row {w4 : World} {x : Tk} {g' n' c' : Nat} (hD : Duet B w p q L T n (upd T t x) n) (hb : Both B w1 p q L T n M) (hM : M ≤ M') (hX : Boxed B Bx p q w L V ox) (oa : Only (fun _ => False) w w4) (hb4 : w4.heap[b]? = some (taskCells t x)) (hbw : w.heap.size ≤ b) (h1 : 1 ≤ t) (h2 : t ≤ 16) (hno : (T t).p = 0) (hx : Ok x n) (hx0 : x.p ≠ 0)
    (hr : RowAt w5 B (.slice (some ⟨g', 0, none⟩) n' c') (L.map (·.1) ++ [b])) (hO : Only (fun k => V.ownBlock = some k) w4 w5) (hat : V.ownBlock = some g' ∨ g' = w4.heap.size) (hbl : Below B w0 w) :
    w5.cell? ⟨q, 1, none⟩ = some V ∧ w5.frozen? ⟨q, 1, none⟩ = false ∧ Both B (w5.setCell ⟨q, 1, none⟩ (.slice (some ⟨g', 0, none⟩) n' c')) p q (L ++ [(b, t)]) (upd T t x) n M' ∧ Below B w0 (w5.setCell ⟨q, 1, none⟩ (.slice (some ⟨g', 0, none⟩) n' c')) := by
  obtain ⟨k1, k2, r, o1⟩ := hD.ref.snoc oa hb4 hbw (fun y hy e => hb.same.there y hy (by rw [e]; exact hno)) hX.vq hr hO hat
  refine ⟨k1, k2, (hD.follow r o1 (fun e => ?_)).both (hb.same.add h1 h2 hno hx0) (hb.fit.upd hx (by omega)) (hb.bare.upd (fun e => absurd e hx0)) ⟨hb.time.1, Int.le_trans hb.time.2 hM⟩, hbl.trans (o1.below hD.ref.low (fun y e => ?_))⟩
  · rcases e with e | e
    · exact hD.apart.1 e
    · exact hD.apart.2.2 _ hX.row _ e rfl
  · rcases e with e | e
    · rw [e]; exact hD.ref.from'.1
    · exact (hX.row.block e).1

/-- A task has turned in both. -/
theorem turn_end {x : Tk} (hD : Duet B w p q L T n (upd T t x) n) (hb : Both B w1 p q L T n M) (hM : M ≤ M') (hm : (b, t) ∈ L) (hx : Ok x n) (hp : x.p = (T t).p) (hO : Only (fun k => k = b) w w') (hx' : w'.heap[b]? = some (taskCells t x)) (hbl : Below B w0 w) :
    Both B w' p q L (upd T t x) n M' ∧ Below B w0 w' := by
  have ht := hb.same.num _ hm
  simp only at ht
  have hp0 := hb.same.there _ hm
  simp only at hp0
  refine ⟨(hD.follow (hD.ref.turn hm hO hx') hO (fun e => hD.apart.2.1 _ hm e.symm)).both (hb.same.turn hp) (hb.fit.upd hx (by omega)) (hb.bare.upd (fun e => absurd (by rw [← hp]; exact e) hp0)) ⟨hb.time.1, Int.le_trans hb.time.2 hM⟩, hbl.trans (hO.below hD.ref.low (fun y e => by rw [e]; exact hD.ref.from'.2 _ hm))⟩

/-- Both have had a tick. -/
theorem tick_end {U : Tks} {k : Int} {e : Ending} (hD : Duet B w p q L T n U (n + 1)) (hb : Both B w1 p q L T n M) (hM : M + 1 ≤ M') (hs : Same L U) (hf : Fit U (n + 1)) (hB : Bare U) (h : TickOf q L B w U (n + 1) k e w') (hbl : Below B w0 w) :
    e = .returned (.int .i64 k) ∧ Both B w' p q L U (n + 1) M' ∧ Below B w0 w' := by
  obtain ⟨rfl, hR, hO⟩ := h
  have ht := hb.time
  refine ⟨rfl, (hD.follow hR hO (fun e => ?_)).both hs hf hB ⟨by omega, by omega⟩, hbl.trans (hO.below hD.ref.low (fun x e => ?_))⟩
  · rcases e with e | ⟨y, hy, e⟩
    · exact hD.apart.1 e
    · exact hD.apart.2.1 y hy e.symm
  · rcases e with e | ⟨y, hy, e⟩
    · rw [e]; exact hD.ref.from'.1
    · rw [e]; exact hD.ref.from'.2 y hy
end

/-- Two blocks laid one behind the other. -/
structure TwoNew (w : World) (o1 o2 : Obj) (W : World) : Prop where
  heap : W.heap = ((w.alloc o1).alloc o2).heap
  os : W.os = w.os
  tape : W.tape = w.tape
  output : W.output = w.output
theorem TwoNew.only {w W : World} {o1 o2 : Obj} (h : TwoNew w o1 o2 W) : Only (fun _ => False) w W := by
  have k : Only (fun _ => False) w ((w.alloc o1).alloc o2) := ((Only.refl _ w).alloc o1).alloc o2
  exact ⟨h.os, h.tape, h.output, by rw [h.heap]; exact k.size, fun i hi hn => by rw [h.heap]; exact k.block i hi hn⟩
theorem TwoNew.one {w W : World} {o1 o2 : Obj} (h : TwoNew w o1 o2 W) : W.heap[w.heap.size]? = some o1 := by
  rw [h.heap, ((Only.refl (fun _ => False) (w.alloc o1)).alloc o2).block w.heap.size (by simp) id]
  exact heap_alloc_new w o1
theorem TwoNew.two {w W : World} {o1 o2 : Obj} (h : TwoNew w o1 o2 W) : W.heap[w.heap.size + 1]? = some o2 := by
  rw [h.heap]
  have := heap_alloc_new (w.alloc o1) o2
  rwa [show (w.alloc o1).heap.size = w.heap.size + 1 by simp] at this
theorem TwoNew.row {w W : World} {o1 o2 : Obj} (h : TwoNew w o1 o2 W) {B : Nat} {V : Value} {S : List Nat} (hr : RowAt w B V S) : RowAt W B V S := hr.later h.only

theorem add_row2 {w w1 w0 w5 W : World} {B Bx p q t : Nat} {L : List (Nat × Nat)} {T : Tks} {n M M' : Int} {ox : Option Addr} {V : Value} {x : Tk} {g' n' c' : Nat} {o2 : Obj} (hD : Duet B w p q L T n (upd T t x) n) (hb : Both B w1 p q L T n M) (hM : M ≤ M') (hX : Boxed B Bx p q w L V ox) (h1 : 1 ≤ t) (h2 : t ≤ 16) (hno : (T t).p = 0) (hx : Ok x n) (hx0 : x.p ≠ 0) (hbl : Below B w0 w)
    (hr : RowAt w5 B (.slice (some ⟨g', 0, none⟩) n' c') (L.map (·.1) ++ [w.heap.size])) (hO : Only (fun k => V.ownBlock = some k) W w5) (hat : V.ownBlock = some g' ∨ g' = W.heap.size) (hW : TwoNew w (taskCells t x) o2 W) :
    w5.cell? ⟨q, 1, none⟩ = some V ∧ w5.frozen? ⟨q, 1, none⟩ = false ∧ Both B (w5.setCell ⟨q, 1, none⟩ (.slice (some ⟨g', 0, none⟩) n' c')) p q (L ++ [(w.heap.size, t)]) (upd T t x) n M' ∧ Below B w0 (w5.setCell ⟨q, 1, none⟩ (.slice (some ⟨g', 0, none⟩) n' c')) :=
  add_row hD hb hM hX hW.only hW.one (Nat.le_refl _) h1 h2 hno hx hx0 hr hO hat hbl

theorem woke_p (x : Tk) (n : Int) : (woke x n).p = x.p := by unfold woke fill; split <;> rfl
/-- One pointer more: how the append runs. -/
theorem append_ptr_run {w : World} {base : Nat} {v : Value} {S : List Nat} {x b : Nat} (hown : RowAt w base v S) (hb : w.heap[b]? = some (.cells #[pt x] 34 (0, 0))) (hl : S.length ≤ 1000000) (hbase : base ≤ w.heap.size) :
    ∃ g' c' w', (Builtin.append_ #[29, 29] 29 #[v, .slice (some ⟨b, 0, none⟩) 1 1]).run Try.prog w = .ok (.slice (some ⟨g', 0, none⟩) (S.length + 1) c') w' ∧
      RowAt w' base (.slice (some ⟨g', 0, none⟩) (S.length + 1) c') (S ++ [x]) ∧ Only (fun k => v.ownBlock = some k) w w' ∧ (v.ownBlock = some g' ∨ g' = w.heap.size) := by
  obtain ⟨i0, hi, hz0, hz1, hz2⟩ := info_parts Pt.Try.infoElem
  obtain ⟨g, cap, w', hr, h2, h3, h4, h5⟩ := run_append_lies w 29 29 base 34 i0 (.pointer none) 1 8 Try.underlying29 hi hz0 hz1 hz2 rfl (by decide) v S.length (S.map pt) hown ⟨b, 0, none⟩ 1 1 [pt x] rfl
    (World.news_of_block (cs := #[pt x]) hb) (by intro u hu; simp at hu; subst hu; rfl) (by omega) (by unfold maxLen; omega) (by omega) hbase w.heap.size rfl
  refine ⟨g, cap, w', hr, ?_, Only.of_grown (S := fun k => v.ownBlock = some k) h3 (fun k hk => hk), h4⟩
  unfold RowAt
  rw [List.length_append, List.map_append]
  exact h2

/-- Another cell of the class than the one that was set. -/
theorem now_back {w : World} {q : Nat} {u v : Value} (h : (w.setCell ⟨q, 1, none⟩ u).cell? ⟨q, 0, none⟩ = some v) : w.cell? ⟨q, 0, none⟩ = some v := by
  have e : (⟨q, 1, none⟩ : Addr) ≠ ⟨q, 0, none⟩ := by intro e; cases e
  exact (World.cell?_setCell_other _ _ _ _ e).symm.trans h

theorem isN_yes {t : Nat} (h1 : 1 ≤ t) (h2 : t ≤ 16) : isN t = true := by unfold isN; exact decide_eq_true (by omega)
theorem isN_no {t : Int} (h : t < 1 ∨ 16 < t) : isN t = false := by unfold isN; exact decide_eq_false (by omega)
end Go.Proofs.Ytijpiloljgpnkaa.De
