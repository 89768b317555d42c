/- Contracts of package reserve, for a task of package spread. -/
import Derived.Test.YtddfdnhlghmapaaSpPure
namespace Go.Proofs.Ytddfdnhlghmapaa.Sp
open Go.ChangeShapes Go.WideShapes Go.ChangeAt Go.RowKit Go.Maps
open Go.Proofs.Ytddfdnhlghmapaa.Vt
set_option linter.unusedVariables false

/-- What is known behind a call that changes a run. -/
def Keep (p : Nat) (S : St) (v : Value) (w : World) (e : Ending) (w' : World) : Prop := e = .returned v ∧ RunAt w' p S ∧ Only (fun k => k = p) w w'

section
variable {w w' : World} {p : Nat} {S : St}
theorem only1 (i : Nat) (u : Value) (h : Only (fun k => k = p) w w') : Only (fun k => k = p) w (w'.setCell ⟨p, i, none⟩ u) := h.setCell (p := ⟨p, i, none⟩) rfl u
theorem only_p (h : Only (fun _ => False) w w') : Only (fun k => k = p) w w' := h.mono (fun _ _ e => e.elim)
theorem only_pp {w'' : World} (h : Only (fun k => k = p) w w') (k : Only (fun k => k = p) w' w'') : Only (fun k => k = p) w w'' := h.trans k (fun _ _ e => e)
theorem Keep.is {S1 S2 : St} {v : Value} {e : Ending} (h : Keep p S1 v w e w') (hS : S1 = S2) : Keep p S2 v w e w' := hS ▸ h
theorem keep_is {S1 S2 : St} {v : Value} {f : Nat} {args : Array Value} (h : Calls Try.prog f args w (Keep p S1 v w)) (hS : S1 = S2) : Calls Try.prog f args w (Keep p S2 v w) := hS ▸ h
theorem set_self (S : St) (t : Nat) : { S with T := upd S.T t (S.T t) } = S := by rw [upd_self]

theorem fill_any (h : RunAt w p S) (t : Nat) (ht : t < 17) (s : Int) (h1 : 0 ≤ s) (h2 : s ≤ 9000000000000000000) (p1 : 0 ≤ (S.T t).rp) (p2 : (S.T t).rp ≤ 30) :
    Calls Try.prog 122 #[.pointer (some ⟨p, 5 + t * 13 + 8, none⟩), .int .i64 s] w (Keep p { S with T := upd S.T t (full (S.T t) s) } (.tuple #[]) w) := by
  have H := Lib.hid h
  have cb := h.qrb t ht
  have cp := h.qrp t ht
  have cl := h.qrl t ht
  have cd := h.qrd t ht
  have co := h.qro t ht
  have fz := h.frozen
  clear h
  go_enter Try.func122, Try.ntmps122
  go_wp2
  go_end0
  refine ⟨rfl, ?_, only1 _ _ (only1 _ _ (only1 _ _ (Only.refl _ _)))⟩
  have := ((H.out.set_rl t ht (S.T t).rb).set_rd t ht (s + (S.T t).rp)).set_ro t ht false
  simp only [upd_upd, upd_same] at this
  exact this

theorem use_any (h : RunAt w p S) (t : Nat) (ht : t < 17) (p1 : 0 ≤ (S.T t).rl) (p2 : (S.T t).rl ≤ 30) :
    Calls Try.prog 132 #[.pointer (some ⟨p, 5 + t * 13 + 8, none⟩)] w (Keep p { S with T := upd S.T t (used (S.T t)) } (.tuple #[]) w) := by
  have H := Lib.hid h
  have cl := h.qrl t ht
  have co := h.qro t ht
  have fz := h.frozen
  clear h
  cases ho : (S.T t).ro with
  | true =>
    rw [ho] at co
    have e : used (S.T t) = S.T t := by unfold used; rw [if_pos ho]
    rw [e, set_self]
    clear e ho
    go_enter Try.func132, Try.ntmps132
    go_wp2
    go_end0
    exact ⟨rfl, H.out, Only.refl _ _⟩
  | false =>
    rw [ho] at co
    have e : used (S.T t) = { S.T t with rl := (S.T t).rl - 1, ro := (S.T t).rl - 1 == 0 } := by unfold used; rw [if_neg (by rw [ho]; decide)]
    rw [e]
    clear e ho
    go_enter Try.func132, Try.ntmps132
    go_wp2
    go_end0
    refine ⟨rfl, ?_, only1 _ _ (only1 _ _ (Only.refl _ _))⟩
    have := (H.out.set_rl t ht ((S.T t).rl - 1)).set_ro t ht ((S.T t).rl - 1 == 0)
    simp only [upd_upd, upd_same] at this
    exact this

theorem mul_bd (a b : Int) (h1 : 0 ≤ a) (h2 : a ≤ 30) (h3 : 0 ≤ b) (h4 : b ≤ 9000000000000000) : 0 ≤ a * b ∧ a * b ≤ 300000000000000000 :=
  ⟨Int.mul_nonneg h1 h3, Int.le_trans (Int.mul_le_mul h2 h4 h3 (by omega)) (by omega)⟩

/-- What a reservation's numbers may be. -/
structure RsvOk (x : Tk) : Prop where
  b0 : 0 ≤ x.rb
  b1 : x.rb ≤ 30
  p0 : 0 ≤ x.rp
  p1 : x.rp ≤ 30
  l0 : 0 ≤ x.rl
  l1 : x.rl ≤ 30
  d0 : 0 ≤ x.rd
  d1 : x.rd ≤ 9000000000000000

theorem stale_any (h : RunAt w p S) (t : Nat) (ht : t < 17) (n : Int) (n0 : 0 ≤ n) (hr : RsvOk (S.T t)) :
    Calls Try.prog 130 #[.pointer (some ⟨p, 5 + t * 13 + 8, none⟩), .int .i64 n] w fun e w' => e = .returned (.bool (decide (Stale (S.T t) n))) ∧ Only (fun _ => False) w w' := by
  have cb := h.qrb t ht
  have cp := h.qrp t ht
  have cl := h.qrl t ht
  have cd := h.qrd t ht
  obtain ⟨b1, b2, p1, p2, l1, l2, d0, d1⟩ := hr
  have m1 := mul_bd (S.T t).rl (S.T t).rp l1 l2 p1 (by omega)
  have HS : Hid (Stale (S.T t) n ↔ ((S.T t).rd ≤ n ∨ (S.T t).rb * ((S.T t).rd - n) < (S.T t).rl * (S.T t).rp)) := Lib.hid Iff.rfl
  clear h
  by_cases h1 : (S.T t).rd ≤ n
  · have e : decide (Stale (S.T t) n) = true := decide_eq_true (HS.out.mpr (Or.inl h1))
    rw [e]
    have hd : decide ((S.T t).rd ≤ n) = true := decide_eq_true h1
    clear HS e
    go_enter Try.func130, Try.ntmps130
    go_wp2_with fail
    go_quiet (fail)
    go_wp2_with fail
    go_ret
    exact ⟨rfl, only_drewN (Only.refl _ _) _⟩
  · have hd : decide ((S.T t).rd ≤ n) = false := decide_eq_false h1
    have m2 := mul_bd (S.T t).rb ((S.T t).rd - n) b1 b2 (by omega) (by omega)
    have e : decide (Stale (S.T t) n) = decide ((S.T t).rb * ((S.T t).rd - n) < (S.T t).rl * (S.T t).rp) := decide_eq_decide.mpr ⟨fun q => (HS.out.mp q).resolve_left h1, fun q => HS.out.mpr (Or.inr q)⟩
    rw [e]
    clear HS e
    go_enter Try.func130, Try.ntmps130
    go_wp2_with fail
    go_quiet (fail)
    go_wp2_with fail
    go_ret
    exact ⟨rfl, only_drewN (Only.refl _ _) _⟩

theorem wakeR_any (h : RunAt w p S) (t : Nat) (ht : t < 17) (n : Int) (n0 : 0 ≤ n) (n1 : n ≤ 9000000000000000) (hr : RsvOk (S.T t)) :
    Calls Try.prog 88 #[.pointer (some ⟨p, 5 + t * 13 + 8, none⟩), .int .i64 n] w (Keep p { S with T := upd S.T t (wokeR (S.T t) n) } (.tuple #[]) w) := by
  have H := Lib.hid h
  have co := h.qro t ht
  have hst := Lib.hid (stale_any h t ht n n0 hr)
  have hf := Lib.hid (fun (W : World) (h : RunAt W p S) => fill_any h t ht n n0 (by omega) hr.p0 hr.p1)
  clear h
  cases ho : (S.T t).ro with
  | true =>
    rw [ho] at co
    have e : wokeR (S.T t) n = S.T t := by unfold wokeR; rw [if_neg (by rw [ho]; simp)]
    rw [e, set_self]
    clear e ho hst hf
    go_enter Try.func88, Try.ntmps88
    go_wp2
    go_end0
    exact ⟨rfl, H.out, Only.refl _ _⟩
  | false =>
    rw [ho] at co
    by_cases hs : Stale (S.T t) n
    · have e : wokeR (S.T t) n = full (S.T t) n := by unfold wokeR; rw [if_pos ⟨ho, hs⟩]
      rw [e]
      rw [decide_eq_true hs] at hst
      clear e ho hs
      go_enter Try.func88, Try.ntmps88
      go_wp2_with (first
        | (go_at_call 130; (with_reducible refine hst.out.mono ?_); rintro e w1 ⟨rfl, hO⟩; have H1 := Lib.hid (H.out.later hO); have O1 := Lib.hid hO; clear hO)
        | (go_at_call 122; (with_reducible refine (hf.out _ H1.out).mono ?_); rintro e w2 ⟨rfl, hF, hO⟩; have H2 := Lib.hid hF; have O2 := Lib.hid hO; clear hF hO))
      go_end0
      exact ⟨rfl, H2.out, only_pp (only_p O1.out) O2.out⟩
    · have e : wokeR (S.T t) n = S.T t := by unfold wokeR; rw [if_neg (fun q => hs q.2)]
      rw [e, set_self]
      rw [decide_eq_false hs] at hst
      clear e ho hs hf
      go_enter Try.func88, Try.ntmps88
      go_wp2_with (go_at_call 130; (with_reducible refine hst.out.mono ?_); rintro e w1 ⟨rfl, hO⟩; have H1 := Lib.hid (H.out.later hO); have O1 := Lib.hid hO; clear hO)
      go_end0
      exact ⟨rfl, H1.out, only_p O1.out⟩

theorem passR_any (h : RunAt w p S) (t : Nat) (ht : t < 17) (n : Int) (d0 : 0 ≤ (S.T t).rd) (d1 : (S.T t).rd ≤ 9000000000000000) (p0 : 0 ≤ (S.T t).rp) (p1 : (S.T t).rp ≤ 30) :
    Calls Try.prog 94 #[.pointer (some ⟨p, 5 + t * 13 + 8, none⟩), .int .i64 n] w (Keep p { S with T := upd S.T t (again (S.T t) n) } (.tuple #[]) w) := by
  have H := Lib.hid h
  have co := h.qro t ht
  have cd := h.qrd t ht
  have hf := Lib.hid (fun (W : World) (h : RunAt W p S) => fill_any h t ht (S.T t).rd d0 (by omega) p0 p1)
  clear h
  cases ho : (S.T t).ro with
  | false =>
    rw [ho] at co
    have e : again (S.T t) n = S.T t := by unfold again; rw [if_neg (by rw [ho]; simp)]
    rw [e, set_self]
    clear e ho hf
    go_enter Try.func94, Try.ntmps94
    go_wp2
    go_end0
    exact ⟨rfl, H.out, Only.refl _ _⟩
  | true =>
    rw [ho] at co
    by_cases hs : (S.T t).rd ≤ n
    · have e : again (S.T t) n = full (S.T t) (S.T t).rd := by unfold again; rw [if_pos ⟨ho, hs⟩]
      rw [e]
      have hd : decide ((S.T t).rd ≤ n) = true := decide_eq_true hs
      clear e ho hs
      go_enter Try.func94, Try.ntmps94
      go_wp2_with (go_at_call 122; (with_reducible refine (hf.out _ H.out).mono ?_); rintro e w2 ⟨rfl, hF, hO⟩; have H2 := Lib.hid hF; have O2 := Lib.hid hO; clear hF hO)
      go_end0
      exact ⟨rfl, H2.out, O2.out⟩
    · have e : again (S.T t) n = S.T t := by unfold again; rw [if_neg (fun q => hs q.2)]
      rw [e, set_self]
      have hd : decide ((S.T t).rd ≤ n) = false := decide_eq_false hs
      clear e ho hs hf
      go_enter Try.func94, Try.ntmps94
      go_wp2
      go_end0
      exact ⟨rfl, H.out, Only.refl _ _⟩
end
end Go.Proofs.Ytddfdnhlghmapaa.Sp
