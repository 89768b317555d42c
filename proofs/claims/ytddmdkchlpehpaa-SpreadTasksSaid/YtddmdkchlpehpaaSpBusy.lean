/- The law SpreadBusy: who runs where, told twice. -/
import Derived.Test.YtddmdkchlpehpaaSpPl
namespace Go.Proofs.Ytddmdkchlpehpaa.Sp
open Go.Proofs.Ytddmdkchlpehpaa.Vt
set_option linter.unusedVariables false

/-- Where a task was found to run, among the first c processors. -/
def atTo (S : St) : Nat → Nat → Nat
  | 0, _ => 0
  | c + 1, t => if S.on c ≠ 0 ∧ S.on c = t then c + 1 else atTo S c t
/-- Who idles, as bits, among the first c. -/
def idleTo (S : St) : Nat → Nat
  | 0 => 0
  | c + 1 => if S.on c = 0 then idleTo S c + 2 ^ c else idleTo S c
theorem idleTo_lt (S : St) (c : Nat) : idleTo S c < 2 ^ c := by
  induction c with
  | zero => simp [idleTo]
  | succ c ih => unfold idleTo; rw [Nat.pow_succ]; split <;> omega
theorem idle_bit (S : St) {n c : Nat} (hn : n ≤ 4) (hc : c < 4) (h : idleTo S n / 2 ^ c % 2 = 1) : c < n ∧ S.on c = 0 := by
  have l := idleTo_lt S
  rcases (show n = 0 ∨ n = 1 ∨ n = 2 ∨ n = 3 ∨ n = 4 by omega) with rfl | rfl | rfl | rfl | rfl <;>
  rcases (show c = 0 ∨ c = 1 ∨ c = 2 ∨ c = 3 by omega) with rfl | rfl | rfl | rfl <;>
  clear l <;>
  simp only [idleTo] at h <;>
  by_cases e0 : S.on 0 = 0 <;> by_cases e1 : S.on 1 = 0 <;> by_cases e2 : S.on 2 = 0 <;> by_cases e3 : S.on 3 = 0 <;> simp_all
theorem atTo_zero {S : St} {n t : Nat} (h : atTo S n t = 0) : ∀ c, c < n → S.on c ≠ 0 → S.on c ≠ t := by
  induction n with
  | zero => intro c hc; omega
  | succ n ih =>
    intro c hc h0 he
    unfold atTo at h
    split at h
    · omega
    · next e =>
      by_cases e2 : c = n
      · subst e2; exact e ⟨h0, he⟩
      · exact ih h c (by omega) h0 he
theorem atTo_first {S : St} {n t : Nat} (h : ∀ c, c < n → S.on c ≠ 0 → S.on c ≠ t) : atTo S n t = 0 := by
  induction n with
  | zero => rfl
  | succ n ih =>
    unfold atTo
    rw [if_neg (fun e => h n (by omega) e.1 e.2)]
    exact ih (fun c hc => h c (by omega))
theorem may_not' : ∀ m : Fin 16, ∀ c : Fin 4, (m : Nat) / 2 ^ (c : Nat) % 2 = 1 → (bits BinOp.and .i64 (((m : Nat) : Int) / 2 ^ (c : Nat)) 1 == 0) = false := by decide +kernel
theorem may_not {m c : Nat} (hm : m < 16) (hc : c < 4) (h : m / 2 ^ c % 2 = 1) : (bits BinOp.and .i64 ((m : Int) / 2 ^ c) 1 == 0) = false := may_not' ⟨m, hm⟩ ⟨c, hc⟩ h
theorem and_none' : ∀ m : Fin 16, ∀ i : Fin 16, (∀ c : Fin 4, (i : Nat) / 2 ^ (c : Nat) % 2 = 1 → (m : Nat) / 2 ^ (c : Nat) % 2 ≠ 1) → bits BinOp.and .i64 ((m : Nat) : Int) ((i : Nat) : Int) = 0 := by decide +kernel
theorem and_none {m i : Nat} (hm : m < 16) (hi : i < 16) (h : ∀ c, c < 4 → i / 2 ^ c % 2 = 1 → m / 2 ^ c % 2 ≠ 1) : bits BinOp.and .i64 (m : Int) (i : Int) = 0 := and_none' ⟨m, hm⟩ ⟨i, hi⟩ (fun c => h c c.isLt)
theorem or_more' : ∀ c : Fin 4, ∀ b : Fin 16, (b : Nat) < 2 ^ (c : Nat) → bits BinOp.or .i64 ((b : Nat) : Int) ((2 ^ (c : Nat) : Nat) : Int) = (((b : Nat) + 2 ^ (c : Nat) : Nat) : Int) := by decide +kernel
theorem or_more {c b : Nat} (hc : c < 4) (hb : b < 2 ^ c) : bits BinOp.or .i64 (b : Int) ((2 ^ c : Nat) : Int) = ((b + 2 ^ c : Nat) : Int) :=
  or_more' ⟨c, hc⟩ ⟨b, Nat.lt_of_lt_of_le hb (by have := Nat.pow_le_pow_right (n := 2) (by omega) (show c ≤ 4 by omega); omega)⟩ hb

section
variable {S : St} {P : Pls} {B : Int}
/-- Who runs is there, is ready, may run there, and was not met yet. -/
theorem run_told (hT : Told S P) (hR : Runs S) (hO : Ok S B) {c : Nat} (hc : c < S.n) (h0 : S.on c ≠ 0) :
    1 ≤ S.on c ∧ S.on c ≤ 16 ∧ atTo S c (S.on c) = 0 ∧ (P (S.on c)).i = true ∧ (P (S.on c)).r = true ∧ ∃ m : Nat, m < 16 ∧ (P (S.on c)).pin = m ∧ m / 2 ^ c % 2 = 1 := by
  have h4 := hR.n4
  have ho := hR.on c (by omega)
  obtain ⟨l1, l2, l3, l4⟩ := hR.live c (by omega) h0
  obtain ⟨t1, t2, t3⟩ := hT (S.on c) (Nat.zero_le _) ho
  refine ⟨by omega, ho, atTo_first (fun d hd e1 e2 => ?_), ?_, ?_, (S.T (S.on c)).m, (hO.tk _ (by omega)).m, (t3 l2).2.2, of_decide_eq_true l4⟩
  · have := hR.uniq d c (by omega) (by omega) e1 e2
    omega
  · rw [t1]; exact decide_eq_true l2
  · rw [t2]; exact l3
/-- Who is ready, and is not of class 3, and runs nowhere, may run on none that idles. -/
theorem rest_told (hT : Told S P) (hR : Runs S) (hF : Full S) (hO : Ok S B) {t : Nat} (ht : t < 17) (hi : (P t).i = true) (hr : (P t).r = true) (ha : atTo S S.n t = 0) (hd : (P t).d = false ∨ (P t).m = true) :
    ∃ m : Nat, m < 16 ∧ (P t).pin = m ∧ bits BinOp.and .i64 (m : Int) (idleTo S S.n : Nat) = 0 := by
  have h4 := hR.n4
  obtain ⟨t1, t2, t3⟩ := hT t (Nat.zero_le _) (by omega)
  have hc : (S.T t).c ≠ 0 := by rw [hi] at t1; exact of_decide_eq_true t1.symm
  obtain ⟨d1, d2, d3⟩ := t3 hc
  have hrr : (S.T t).r = true := by rw [hr] at t2; exact t2.symm
  have h0 : t ≠ 0 := fun e => by subst e; rw [hR.z] at hc; exact hc rfl
  have hw : waits (S.T t) = true := by
    unfold waits
    rw [hrr, Bool.true_and, Bool.or_eq_true]
    by_cases hb : (S.T t).bc = 0
    · left
      have hm : (P t).m = false := by rw [d2]; exact decide_eq_false (fun e => e hb)
      have hdd : (P t).d = false := by
        rcases hd with e | e
        · exact e
        · rw [hm] at e; cases e
      rw [hdd] at d1
      have h3 : (S.T t).c ≠ 3 := of_decide_eq_false d1.symm
      cases ho : (S.T t).ro with
      | false => rfl
      | true => exact absurd ((hO.tk t ht).cls.2 ho) h3
    · right; simpa using hb
  have hz := atTo_zero ha
  have hon : ∀ c, c < 4 → S.on c ≠ t := fun c hc4 e => by
    have hne : S.on c ≠ 0 := by omega
    exact hz c (hR.live c hc4 hne).1 hne e
  have hp : place S t = none := by
    unfold place
    rw [if_neg (hon 0 (by omega)), if_neg (hon 1 (by omega)), if_neg (hon 2 (by omega)), if_neg (hon 3 (by omega))]
  have hm16 := (hO.tk t ht).m
  refine ⟨(S.T t).m, hm16, d3, and_none hm16 (Nat.lt_of_lt_of_le (idleTo_lt S S.n) (by have := Nat.pow_le_pow_right (n := 2) (by omega) h4; omega)) (fun c hc4 hb e => ?_)⟩
  obtain ⟨b1, b2⟩ := idle_bit S h4 hc4 hb
  have := hF c b1 b2 t ht
  rw [asks_iff.2 ⟨hw, decide_eq_true e, hp⟩] at this
  cases this
end

/-- An array of 17 numbers, in memory. -/
def ArrAt (w : World) (b : Nat) (f : Nat → Nat) : Prop := ∃ cs, w.heap[b]? = some (.cells cs 47 (0, 0)) ∧ cs.size = 17 ∧ ∀ t, t < 17 → cs[t]? = some (.int .i64 (f t : Nat))
section
variable {w w' : World} {b : Nat} {f : Nat → Nat}
theorem ArrAt.cell (h : ArrAt w b f) (t : Nat) (ht : t < 17) : w.cell? ⟨b, t, none⟩ = some (.int .i64 (f t : Nat)) := by obtain ⟨cs, h1, h2, h3⟩ := h; rw [cell_at h1]; exact h3 t ht
theorem ArrAt.frozen (h : ArrAt w b f) (j : Nat) : w.frozen? ⟨b, j, none⟩ = false := by obtain ⟨cs, h1, -⟩ := h; exact frozen_at h1 j
theorem ArrAt.keep {R : Nat → Prop} (h : ArrAt w b f) (hO : Only R w w') (hS : ¬ R b) : ArrAt w' b f := by
  obtain ⟨cs, h1, h2⟩ := h
  exact ⟨cs, by rw [hO.block b (block_there h1) hS]; exact h1, h2⟩
theorem ArrAt.set (h : ArrAt w b f) (t : Nat) (ht : t < 17) (x : Nat) : ArrAt (w.setCell ⟨b, t, none⟩ (.int .i64 (x : Nat))) b (fun j => if j = t then x else f j) := by
  obtain ⟨cs, h1, h2, h3⟩ := h
  refine ⟨_, heap_setCell_same w b _ cs _ _ h1, by simpa using h2, fun j hj => ?_⟩
  rw [Array.getElem?_setIfInBounds]
  show _ = some (Value.int .i64 ((if j = t then x else f j : Nat) : Int))
  by_cases e : t = j
  · subst e; rw [if_pos rfl, if_pos (by omega), if_pos rfl]
  · rw [if_neg e, if_neg (fun q => e q.symm)]; exact h3 j hj
end
theorem atTo_more {S : St} {c : Nat} (h : S.on c ≠ 0) : (fun j => if j = S.on c then c + 1 else atTo S c j) = atTo S (c + 1) := by
  funext j
  show _ = if S.on c ≠ 0 ∧ S.on c = j then c + 1 else atTo S c j
  by_cases e : j = S.on c
  · rw [if_pos e, if_pos ⟨h, e.symm⟩]
  · rw [if_neg e, if_neg (fun q => e q.2.symm)]
theorem atTo_same {S : St} {c : Nat} (h : S.on c = 0) : atTo S (c + 1) = atTo S c := by
  funext j
  show (if S.on c ≠ 0 ∧ S.on c = j then c + 1 else atTo S c j) = _
  rw [if_neg (fun q => q.1 h)]
theorem zero_pl : PCells Try.zeroCells49 (fun _ => ⟨false, false, false, false, 0⟩) :=
  ⟨Nat.le_of_ble_eq_true (by kernel_rfl), lt17 (by repeat' (first | apply And.intro | kernel_rfl)), lt17 (by repeat' (first | apply And.intro | kernel_rfl)), lt17 (by repeat' (first | apply And.intro | kernel_rfl)), lt17 (by repeat' (first | apply And.intro | kernel_rfl)), lt17 (by repeat' (first | apply And.intro | kernel_rfl))⟩
abbrev zero17 : Array Value := #[.int .i64 0, .int .i64 0, .int .i64 0, .int .i64 0, .int .i64 0, .int .i64 0, .int .i64 0, .int .i64 0, .int .i64 0, .int .i64 0, .int .i64 0, .int .i64 0, .int .i64 0, .int .i64 0, .int .i64 0, .int .i64 0, .int .i64 0]
theorem zero_arr (w : World) (S : St) : ArrAt (w.alloc (.cells zero17 47)) w.heap.size (atTo S 0) :=
  ⟨_, heap_alloc_new w _, rfl, lt17 (by repeat' (first | apply And.intro | kernel_rfl))⟩
end Go.Proofs.Ytddmdkchlpehpaa.Sp
