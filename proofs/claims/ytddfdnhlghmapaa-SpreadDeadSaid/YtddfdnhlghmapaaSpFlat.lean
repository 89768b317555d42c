/- Package spread's calls where there are no deadlines; who goes first of all who ask. -/
import Derived.Test.YtddfdnhlghmapaaSpRuns
namespace Go.Proofs.Ytddfdnhlghmapaa.Sp
open Go.Proofs.Ytddfdnhlghmapaa.Vt
set_option linter.unusedVariables false

theorem prec_iff {x y : Tk} : prec x y = true ↔ rk0 x < rk0 y ∨ (rk0 x = rk0 y ∧ (rk1 x < rk1 y ∨ (rk1 x = rk1 y ∧ rk2 x < rk2 y))) := ⟨of_decide_eq_true, decide_eq_true⟩
theorem prec_not {x y : Tk} : prec x y = false ↔ ¬ (rk0 x < rk0 y ∨ (rk0 x = rk0 y ∧ (rk1 x < rk1 y ∨ (rk1 x = rk1 y ∧ rk2 x < rk2 y)))) := ⟨of_decide_eq_false, decide_eq_false⟩
section
variable {S : St}
/-- Nobody who asks goes ahead of who goes first; and who goes first goes ahead of each of a smaller number. -/
theorem firstTo_best (S : St) (c k : Nat) (h : firstTo S c k ≠ 0) (t : Nat) (h1 : 1 ≤ t) (ht : t < k) (ha : asks S c t = true) : prec (S.T t) (S.T (firstTo S c k)) = false ∧ (t < firstTo S c k → prec (S.T (firstTo S c k)) (S.T t) = true) := by
  induction k with
  | zero => omega
  | succ k ih =>
    revert h
    show (if asks S c k ∧ _ then k else firstTo S c k) ≠ 0 → prec (S.T t) (S.T (if asks S c k ∧ _ then k else firstTo S c k)) = false ∧ (t < (if asks S c k ∧ _ then k else firstTo S c k) → prec (S.T (if asks S c k ∧ _ then k else firstTo S c k)) (S.T t) = true)
    split
    · next e =>
      intro _
      by_cases e2 : t = k
      · subst e2
        exact ⟨prec_not.2 (by omega), fun e3 => by omega⟩
      · by_cases hz : firstTo S c k = 0
        · have := firstTo_none S c k hz t h1 (by omega)
          rw [ha] at this; cases this
        · obtain ⟨i1, i2⟩ := ih hz (by omega)
          have e3 := prec_iff.1 (e.2.resolve_left hz)
          have i1' := prec_not.1 i1
          have : prec (S.T k) (S.T t) = true := prec_iff.2 (by omega)
          exact ⟨prec_not.2 (by have := prec_iff.1 this; omega), fun _ => this⟩
    · next e =>
      intro hz
      by_cases e2 : t = k
      · subst e2
        have hp : prec (S.T t) (S.T (firstTo S c t)) = false := by
          cases hq : prec (S.T t) (S.T (firstTo S c t)) with
          | false => rfl
          | true => exact absurd ⟨ha, Or.inr hq⟩ e
        have := firstTo_lt S c t hz
        exact ⟨hp, fun e3 => by omega⟩
      · exact ih hz (by omega)
/-- Who asks and goes ahead of all others who ask is the first. -/
theorem first_is {c u : Nat} (h1 : 1 ≤ u) (h2 : u < 17) (ha : asks S c u = true) (hp : ∀ t, 1 ≤ t → t < 17 → t ≠ u → asks S c t = true → prec (S.T u) (S.T t) = true) : first S c = u := by
  have hz : firstTo S c 17 ≠ 0 := fun e => by
    have := firstTo_none S c 17 e u h1 h2
    rw [ha] at this; cases this
  apply Decidable.byContradiction
  intro hne
  have hlt := firstTo_lt S c 17 hz
  have hb := (firstTo_best S c 17 hz u h1 h2 ha).1
  have := hp (firstTo S c 17) (by omega) hlt hne (firstTo_asks S c 17 hz)
  rw [hb] at this; cases this

theorem fillTo_stays {k : Nat} (h : ∀ d, d < k → S.on d ≠ 0) : fillTo S k = S := by
  induction k with
  | zero => rfl
  | succ k ih =>
    show put1 (fillTo S k) k = S
    rw [ih (fun d hd => h d (by omega))]
    unfold put1; rw [if_neg (h k (by omega))]
theorem fill_none (h : ∀ d, d < S.n → S.on d ≠ 0) : fill S = S := fillTo_stays h
theorem put1_busy {c : Nat} (h : S.on c ≠ 0) : put1 S c = S := by unfold put1; rw [if_neg h]
theorem fillTo_one {c k : Nat} (hc : c < k) (h : ∀ d, d < k → d ≠ c → S.on d ≠ 0) : fillTo S k = put1 S c := by
  induction k with
  | zero => omega
  | succ k ih =>
    show put1 (fillTo S k) k = put1 S c
    by_cases e : c = k
    · subst e; rw [fillTo_stays (fun d hd => h d (by omega) (by omega))]
    · rw [ih (by omega) (fun d hd => h d (by omega))]
      exact put1_busy (by rw [put1_other S (show k ≠ c by omega)]; exact h k (by omega) (by omega))
/-- One processor idles. -/
theorem fill_one {c : Nat} (hc : c < S.n) (h : ∀ d, d < S.n → d ≠ c → S.on d ≠ 0) : fill S = put1 S c := fillTo_one hc h
theorem put1_idle {c : Nat} (h : S.on c = 0) : put1 S c = { S with on := upd S.on c (first S c) } := by unfold put1; rw [if_pos h]

/-- Nobody has a deadline. -/
def Plain (S : St) : Prop := ∀ t, t < 17 → (S.T t).c ≠ 3 ∧ (S.T t).ro = false
theorem charged_plain {x : Tk} (h : x.c ≠ 3) : charged x = if x.c = 1 then { x with t := x.t + costOf x.v } else x := by
  unfold charged
  by_cases h1 : x.c = 1
  · rw [if_pos h1, if_pos h1]
  · rw [if_neg h1, if_neg h, if_neg h1]
theorem charged_ro {x : Tk} (h : x.c ≠ 3) : (charged x).ro = x.ro ∧ (charged x).c = x.c := by
  rw [charged_plain h]; split <;> exact ⟨rfl, rfl⟩
/-- A tick of a processor that is not idle, where nobody has a deadline. -/
def ticked (S : St) (c : Nat) : St := { S with T := upd S.T (S.on c) { charged (S.T (S.on c)) with s := S.g + 1 }, k := S.k + 1, g := S.g + 1, on := upd S.on c 0 }
theorem tick_plain (h : Plain S) {c : Nat} (ho : S.on c ≠ 0) (ho2 : S.on c < 17) : tick S c = fill (ticked S c) := by
  unfold tick
  show fill (clr (passTo { S with T := upd S.T (S.on c) (charged (S.T (S.on c))), k := S.k + 1 } _ 17) c) = _
  generalize now _ = n
  have e : passTo { S with T := upd S.T (S.on c) (charged (S.T (S.on c))), k := S.k + 1 } n 17 = { S with T := upd S.T (S.on c) (charged (S.T (S.on c))), k := S.k + 1 } := by
    unfold passTo
    have : (fun t => if t < 17 then again (upd S.T (S.on c) (charged (S.T (S.on c))) t) n else upd S.T (S.on c) (charged (S.T (S.on c))) t) = upd S.T (S.on c) (charged (S.T (S.on c))) := by
      funext t
      split
      · next ht =>
        have hro : (upd S.T (S.on c) (charged (S.T (S.on c))) t).ro = false := by
          unfold upd; split
          · rw [(charged_ro (h _ ho2).1).1]; exact (h _ ho2).2
          · exact (h t ht).2
        unfold again; rw [if_neg (by rw [hro]; simp)]
      · rfl
    show St.mk _ _ _ _ _ = _
    rw [this]
  rw [e]
  have e2 : clr { S with T := upd S.T (S.on c) (charged (S.T (S.on c))), k := S.k + 1 } c = ticked S c := by
    unfold clr
    rw [if_neg ho]
    show St.mk _ _ (upd (upd S.T (S.on c) _) (S.on c) _) _ _ = _
    rw [upd_upd]
    show St.mk S.n (upd S.on c 0) (upd S.T (S.on c) { upd S.T (S.on c) (charged (S.T (S.on c))) (S.on c) with s := S.g + 1 }) (S.k + 1) (S.g + 1) = _
    rw [upd_same]; rfl
  rw [e2]
theorem fill_T (S : St) : (fill S).T = S.T := fillTo_T S S.n
theorem fill_n (S : St) : (fill S).n = S.n := fillTo_n S S.n
theorem fillTo_k (S : St) (c : Nat) : (fillTo S c).k = S.k ∧ (fillTo S c).g = S.g := by
  induction c with
  | zero => exact ⟨rfl, rfl⟩
  | succ c ih => show (put1 (fillTo S c) c).k = _ ∧ (put1 (fillTo S c) c).g = _; rw [put1_k, put1_g]; exact ih
theorem fill_g (S : St) : (fill S).g = S.g := (fillTo_k S S.n).2

theorem queue_upd (S : St) (k : Nat) (x : Tk) : queue { S with T := upd S.T k x } k = { S with T := upd S.T k { x with s := S.g + 1 }, g := S.g + 1 } := by
  unfold queue
  show St.mk S.n S.on (upd (upd S.T k x) k { upd S.T k x k with s := S.g + 1 }) S.k (S.g + 1) = _
  rw [upd_upd, upd_same]
/-- A task that has come. -/
def cameTk (S : St) (c v tm : Int) : Tk := ⟨c, v, 0, 0, true, all S, S.g + 1, tm, 0, 0, 0, 0, false⟩
/-- A new task comes. -/
theorem add_is {k : Nat} (h1 : 1 ≤ k) (h2 : k ≤ 16) {c v : Int} (hk : kindOk c v = true) (hn : S.T k = noTk) :
    ∃ tm, (tm = 0 ∨ (c = 1 ∧ ∃ f, f < 17 ∧ tm = (S.T f).t)) ∧ addE S k c v = 0 ∧ addS S k c v = fill { S with T := upd S.T k (cameTk S c v tm), g := S.g + 1 } := by
  have hnt : ¬ There S (k : Int) := fun q => q.2.2 (by rw [Int.toNat_natCast, hn])
  have e1 : addE S k c v = 0 := by unfold addE; rw [if_pos ⟨isNo_nat h1 h2, hk⟩, if_neg hnt]
  have e2 : addS S k c v = enter S k (newTk c v) := by unfold addS; rw [if_pos ⟨isNo_nat h1 h2, hk, hnt⟩, Int.toNat_natCast]
  obtain ⟨S1, hS1⟩ : ∃ S1 : St, S1 = { S with T := upd S.T k { newTk c v with m := all S } } := ⟨_, rfl⟩
  have e3 : enter S k (newTk c v) = fill (queue { S1 with T := upd S1.T k (risen S1 k) } k) := by rw [hS1]; rfl
  have hk1 : S1.T k = { newTk c v with m := all S } := by rw [hS1]; exact upd_same _ _ _
  have hl := leastTo_le S1 17 (by omega)
  have hft : leastTo S1 17 ≠ k ∨ leastTo S1 17 = k := by omega
  have hlt : least S1 = 0 ∨ ∃ f, f < 17 ∧ least S1 = (S.T f).t := by
    rcases hft with e | e
    · refine Or.inr ⟨leastTo S1 17, hl, ?_⟩
      unfold least
      rw [hS1] at e ⊢
      show (upd S.T k _ _).t = _
      rw [upd_other _ _ e]
    · refine Or.inl ?_
      unfold least
      rw [e, hk1]; rfl
  have hr : risen S1 k = { newTk c v with m := all S, r := true, t := if c = 1 then max 0 (least S1) else 0 } := by
    unfold risen
    rw [hk1]
    by_cases hc : c = 1
    · rw [if_pos hc]; exact if_pos hc
    · rw [if_neg hc]; exact if_neg hc
  refine ⟨if c = 1 then max 0 (least S1) else 0, ?_, e1, ?_⟩
  · by_cases hc : c = 1
    · rw [if_pos hc]
      rcases Int.le_total 0 (least S1) with e | e
      · rw [Int.max_eq_right e]
        rcases hlt with e2 | ⟨f, hf, e2⟩
        · exact Or.inl e2
        · exact Or.inr ⟨hc, f, hf, e2⟩
      · rw [Int.max_eq_left e]; exact Or.inl rfl
    · rw [if_neg hc]; exact Or.inl rfl
  · rw [e2, e3, hr, queue_upd, hS1]
    show fill (St.mk S.n S.on (upd (upd S.T k _) k _) S.k (S.g + 1)) = _
    rw [upd_upd]
    rfl
end
end Go.Proofs.Ytddfdnhlghmapaa.Sp
