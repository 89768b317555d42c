/- Contracts of package spread's Run: Calm, Pin, Tick, enter, Add, New. -/
import Derived.Test.YtddfdnhlghmapaaSpOps
namespace Go.Proofs.Ytddfdnhlghmapaa.Sp
open Go.ChangeShapes Go.WideShapes Go.ChangeAt Go.RowKit Go.Maps
open Go.Proofs.Ytddfdnhlghmapaa.Vt
set_option linter.unusedVariables false

section
variable {w w' : World} {p : Nat} {S : St} {B : Int}
theorem calm_any (h : RunAt w p S) (hok : Ok S B) (hB : B ≤ 8000000000000) (t : Int) :
    Calls Try.prog 45 #[.pointer (some ⟨p, 0, none⟩), .int .i64 t] w (Keep p (calmS S t) (.int .i64 (calmE S t)) w) := by
  have H := Lib.hid h
  unfold calmS calmE
  by_cases ht : There S t
  · obtain ⟨k, rfl, k1, k2, k3⟩ := there_nat ht
    rw [Int.toNat_natCast]
    have hi := Lib.hid (find_yes h k k1 k2 k3)
    have hb := Lib.hid (boosted_any h k (by omega))
    by_cases hbc : (S.T k).bc = 0
    · rw [if_neg (fun q => q.2 hbc), if_pos ht, if_pos hbc]
      have e0 : ((S.T k).bc != 0) = false := by simp [hbc]
      rw [e0] at hb
      clear h ht k3 hbc
      go_enter Try.func45, Try.ntmps45
      go_wp2_with (first
        | (go_at_call 70; (with_reducible refine hi.out.mono ?_); rintro e w' ⟨rfl, rfl⟩)
        | (go_at_call 100; (with_reducible refine hb.out.mono ?_); rintro e w' ⟨rfl, rfl⟩))
      go_ret
      exact ⟨rfl, H.out, Only.refl _ _⟩
    · rw [if_pos ⟨ht, hbc⟩, if_pos ht, if_neg hbc]
      have e0 : ((S.T k).bc != 0) = true := by simp [hbc]
      rw [e0] at hb
      unfold calmed
      have ok1 := hok.set k1 ((hok.tk k (by omega)).boost 0 0 (by omega))
      have hf := Lib.hid (fun W (h : RunAt W p { S with T := upd S.T k { S.T k with bc := 0, bv := 0 } }) => fills h ok1.fine)
      have hp := Lib.hid (fun W (h : RunAt W p { S with T := upd S.T k { S.T k with bc := 0, bv := 0 } }) => place_any h k)
      have hc := Lib.hid (fun W (h : RunAt W p { S with T := upd S.T k { S.T k with bc := 0, bv := 0 } }) => clear_place h ok1 hB k)
      have hg := Lib.hid (fun W (h : RunAt W p (off { S with T := upd S.T k { S.T k with bc := 0, bv := 0 } } k)) => fills h (ok1.off k).fine)
      have H1 : Hid (RunAt ((w.setCell ⟨p, 5 + k * 13 + 2, none⟩ (.int .i64 0)).setCell ⟨p, 5 + k * 13 + 3, none⟩ (.int .i64 0)) p { S with T := upd S.T k { S.T k with bc := 0, bv := 0 } }) := Lib.hid (by
        have := (h.set_bc k (by omega) 0).set_bv k (by omega) 0
        simp only [upd_upd, upd_same] at this
        exact this)
      have qbc := h.qbc k (by omega)
      have qbv := h.qbv k (by omega)
      have qro := h.qro k (by omega)
      have fz := h.frozen
      cases hr : (S.T k).ro with
      | true =>
        rw [hr] at qro
        rw [if_pos rfl]
        generalize St.mk S.n S.on (upd S.T k _) S.k S.g = S1 at *
        clear h ht k3 hbc hr hok ok1 hf
        go_enter Try.func45, Try.ntmps45
        go_wp2_with (first
          | (go_at_call 70; (with_reducible refine hi.out.mono ?_); rintro e w' ⟨rfl, rfl⟩)
          | (go_at_call 100; (with_reducible refine hb.out.mono ?_); rintro e w' ⟨rfl, rfl⟩)
          | (go_at_call 83; (with_reducible refine (hp.out _ ?_).mono ?_); exact H1.out; rintro e w' ⟨rfl, rfl⟩)
          | (go_at_call 82; (with_reducible refine (hc.out _ ?_).mono ?_); exact H1.out; rintro e w1 ⟨rfl, hR, hO⟩; have H2 := Lib.hid hR; have O2 := Lib.hid (only_pp (only1 (p := p) _ _ (only1 _ _ (Only.refl _ _))) hO); clear hR hO)
          | (go_at_call 84; (with_reducible refine (hg.out _ H2.out).mono ?_); rintro e w2 ⟨rfl, hR, hO⟩; have H3 := Lib.hid hR; have O3 := Lib.hid (only_pp O2.out hO); clear hR hO))
        go_ret
        exact ⟨rfl, H3.out, O3.out⟩
      | false =>
        rw [hr] at qro
        rw [if_neg (by simp)]
        generalize St.mk S.n S.on (upd S.T k _) S.k S.g = S1 at *
        clear h ht k3 hbc hr hok ok1 hg hc hp
        go_enter Try.func45, Try.ntmps45
        go_wp2_with (first
          | (go_at_call 70; (with_reducible refine hi.out.mono ?_); rintro e w' ⟨rfl, rfl⟩)
          | (go_at_call 100; (with_reducible refine hb.out.mono ?_); rintro e w' ⟨rfl, rfl⟩)
          | (go_at_call 84; (with_reducible refine (hf.out _ ?_).mono ?_); exact H1.out; rintro e w2 ⟨rfl, hR, hO⟩; have H3 := Lib.hid hR; have O3 := Lib.hid (only_pp (only1 (p := p) _ _ (only1 _ _ (Only.refl _ _))) hO); clear hR hO))
        go_ret
        exact ⟨rfl, H3.out, O3.out⟩
  · rw [if_neg (fun q => ht q.1), if_neg ht]
    have hi := Lib.hid (find_no h t ht)
    clear h ht
    go_enter Try.func45, Try.ntmps45
    go_wp2_with (go_at_call 70; (with_reducible refine hi.out.mono ?_); rintro e w' ⟨rfl, rfl⟩)
    go_ret
    exact ⟨rfl, H.out, Only.refl _ _⟩

theorem TkOk.pin {x : Tk} {k : Int} (h : TkOk x B k) (m : Nat) (hm : m < 16) : TkOk { x with m := m } B k := by
  obtain ⟨a1, a2, a3, a4, a5, a6, a7, a8, a9, a10, a11, a12, a13, a14, a15, a16, a17⟩ := h
  exact ⟨hm, a2, a3, a4, a5, a6, a7, a8, a9, a10, a11, a12, a13, a14, a15, a16, a17⟩
theorem pin_any (h : RunAt w p S) (hok : Ok S B) (hB : B ≤ 8000000000000) (t m : Int) :
    Calls Try.prog 41 #[.pointer (some ⟨p, 0, none⟩), .int .i64 t, .int .i64 m] w (Keep p (pinS S t m) (.int .i64 (pinE S t m)) w) := by
  have H := Lib.hid h
  have ha := Lib.hid (all_any h hok.fine)
  have hab := all_bd S hok.fine
  unfold pinS pinE
  by_cases hm : maskOk S m = true
  · have hmm := of_decide_eq_true hm
    by_cases ht : There S t
    · rw [if_pos ⟨hm, ht⟩, if_pos hm, if_pos ht]
      obtain ⟨k, rfl, k1, k2, k3⟩ := there_nat ht
      obtain ⟨m, rfl⟩ : ∃ q : Nat, m = q := ⟨m.toNat, by omega⟩
      rw [Int.toNat_natCast, Int.toNat_natCast]
      have m1 : ¬ (m : Int) < 1 := by omega
      have m2 : ¬ ((all S : Nat) : Int) < m := by omega
      have hi := Lib.hid (find_yes h k k1 k2 k3)
      have ok1 := hok.set k1 ((hok.tk k (by omega)).pin m (by omega))
      have hf := Lib.hid (fun W (h : RunAt W p { S with T := upd S.T k { S.T k with m := m } }) => fills h ok1.fine)
      have hp := Lib.hid (fun W (h : RunAt W p { S with T := upd S.T k { S.T k with m := m } }) => place_any h k)
      have H1 := Lib.hid (h.set_m k (by omega) m)
      have EP : Hid (placeI { S with T := upd S.T k { S.T k with m := m } } k = placeI S k) := Lib.hid rfl
      rw [EP.out] at hp
      unfold pinned
      have qm := h.qm k (by omega)
      have fz := h.frozen
      cases hpl : place S k with
      | none =>
        rw [placeI_none hpl] at hp
        show Calls _ _ _ _ (Keep p (fill { S with T := upd S.T k { S.T k with m := m } }) _ _)
        generalize St.mk S.n S.on (upd S.T k _) S.k S.g = S1 at *
        clear h ht k3 hm hmm hok ok1 EP hpl
        go_enter Try.func41, Try.ntmps41
        go_wp2_with (first
          | (go_at_call 98; (with_reducible refine ha.out.mono ?_); rintro e w' ⟨rfl, rfl⟩)
          | (go_at_call 70; (with_reducible refine hi.out.mono ?_); rintro e w' ⟨rfl, rfl⟩)
          | (go_at_call 83; (with_reducible refine (hp.out _ H1.out).mono ?_); rintro e w' ⟨rfl, rfl⟩)
          | (go_at_call 84; (with_reducible refine (hf.out _ H1.out).mono ?_); rintro e w2 ⟨rfl, hR, hO⟩; have H3 := Lib.hid hR; have O3 := Lib.hid (only_pp (only1 (p := p) _ _ (Only.refl _ _)) hO); clear hR hO))
        go_ret
        exact ⟨rfl, H3.out, O3.out⟩
      | some i =>
        rw [placeI_some hpl] at hp
        have hpi := place_is hpl
        have i1 : (0 : Int) ≤ i := by omega
        have EM : may (upd S.T k { S.T k with m := m } k) i = decide (m / 2 ^ i % 2 = 1) := by rw [upd_same]; rfl
        have hr : Hid (∀ W, RunAt W p { S with T := upd S.T k { S.T k with m := m } } → Calls Try.prog 99 #[.pointer (some ⟨p, 5 + k * 13, none⟩), .int .i64 i] W fun e w' => e = .returned (.bool (decide (m / 2 ^ i % 2 = 1))) ∧ W = w') :=
          Lib.hid (fun W h => by rw [← EM]; exact mayRun_any h k (by omega) i hpi.1 (ok1.tk k (by omega)).m)
        have hgB := hok.gB
        have hcl := Lib.hid (fun W (h : RunAt W p { S with T := upd S.T k { S.T k with m := m } }) => clear_any h i hpi.1 (hok.on i hpi.1) hok.g0 (show S.g ≤ _ by omega))
        have hg := Lib.hid (fun W (h : RunAt W p (clr { S with T := upd S.T k { S.T k with m := m } } i)) => fills h (ok1.fine.clr i))
        by_cases hb : m / 2 ^ i % 2 = 1
        · rw [decide_eq_true hb] at hr
          show Calls _ _ _ _ (Keep p (if m / 2 ^ i % 2 = 1 then fill { S with T := upd S.T k { S.T k with m := m } } else _) _ _)
          rw [if_pos hb]
          generalize St.mk S.n S.on (upd S.T k _) S.k S.g = S1 at *
          clear h ht k3 hm hmm hok ok1 EP hpl EM hpi hb hg hcl
          go_enter Try.func41, Try.ntmps41
          go_wp2_with (first
            | (go_at_call 98; (with_reducible refine ha.out.mono ?_); rintro e w' ⟨rfl, rfl⟩)
            | (go_at_call 70; (with_reducible refine hi.out.mono ?_); rintro e w' ⟨rfl, rfl⟩)
            | (go_at_call 83; (with_reducible refine (hp.out _ H1.out).mono ?_); rintro e w' ⟨rfl, rfl⟩)
            | (go_at_call 99; (with_reducible refine (hr.out _ H1.out).mono ?_); rintro e w' ⟨rfl, rfl⟩)
            | (go_at_call 84; (with_reducible refine (hf.out _ H1.out).mono ?_); rintro e w2 ⟨rfl, hR, hO⟩; have H3 := Lib.hid hR; have O3 := Lib.hid (only_pp (only1 (p := p) _ _ (Only.refl _ _)) hO); clear hR hO))
          go_ret
          exact ⟨rfl, H3.out, O3.out⟩
        · rw [decide_eq_false hb] at hr
          show Calls _ _ _ _ (Keep p (if m / 2 ^ i % 2 = 1 then fill { S with T := upd S.T k { S.T k with m := m } } else fill (clr { S with T := upd S.T k { S.T k with m := m } } i)) _ _)
          rw [if_neg hb]
          generalize St.mk S.n S.on (upd S.T k _) S.k S.g = S1 at *
          clear h ht k3 hm hmm hok ok1 EP hpl EM hpi hb hf
          go_enter Try.func41, Try.ntmps41
          go_wp2_with (first
            | (go_at_call 98; (with_reducible refine ha.out.mono ?_); rintro e w' ⟨rfl, rfl⟩)
            | (go_at_call 70; (with_reducible refine hi.out.mono ?_); rintro e w' ⟨rfl, rfl⟩)
            | (go_at_call 83; (with_reducible refine (hp.out _ H1.out).mono ?_); rintro e w' ⟨rfl, rfl⟩)
            | (go_at_call 99; (with_reducible refine (hr.out _ H1.out).mono ?_); rintro e w' ⟨rfl, rfl⟩)
            | (go_at_call 82; (with_reducible refine (hcl.out _ H1.out).mono ?_); rintro e w1 ⟨rfl, hR, hO⟩; have H2 := Lib.hid hR; have O2 := Lib.hid (only_pp (only1 (p := p) _ _ (Only.refl _ _)) hO); clear hR hO)
            | (go_at_call 84; (with_reducible refine (hg.out _ H2.out).mono ?_); rintro e w2 ⟨rfl, hR, hO⟩; have H3 := Lib.hid hR; have O3 := Lib.hid (only_pp O2.out hO); clear hR hO))
          go_ret
          exact ⟨rfl, H3.out, O3.out⟩
    · rw [if_neg (fun q => ht q.2), if_pos hm, if_neg ht]
      have hi := Lib.hid (find_no h t ht)
      have m1 : ¬ m < 1 := by omega
      have m2 : ¬ ((all S : Nat) : Int) < m := by omega
      clear h ht hm hok
      go_enter Try.func41, Try.ntmps41
      go_wp2_with (first
        | (go_at_call 98; (with_reducible refine ha.out.mono ?_); rintro e w' ⟨rfl, rfl⟩)
        | (go_at_call 70; (with_reducible refine hi.out.mono ?_); rintro e w' ⟨rfl, rfl⟩))
      go_ret
      exact ⟨rfl, H.out, Only.refl _ _⟩
  · rw [if_neg (fun q => hm q.1), if_neg hm]
    have hmm := of_decide_eq_false (Bool.eq_false_iff.2 hm)
    clear h hok hm
    by_cases m1 : m < 1
    · clear hmm
      go_enter Try.func41, Try.ntmps41
      go_wp2_with fail
      go_ret
      exact ⟨rfl, H.out, Only.refl _ _⟩
    · have m2 : ((all S : Nat) : Int) < m := by omega
      clear hmm
      go_enter Try.func41, Try.ntmps41
      go_wp2_with (go_at_call 98; (with_reducible refine ha.out.mono ?_); rintro e w' ⟨rfl, rfl⟩)
      go_ret
      exact ⟨rfl, H.out, Only.refl _ _⟩

theorem charge_any (h : RunAt w p S) (t : Nat) (ht : t < 17) {k : Int} (hx : TkOk (S.T t) B k) (hB : B ≤ 8000000000000) :
    Calls Try.prog 93 #[.pointer (some ⟨p, 5 + t * 13, none⟩)] w (Keep p { S with T := upd S.T t (charged (S.T t)) } (.tuple #[]) w) := by
  have H := Lib.hid h
  have cc := h.qc t ht
  have cv := h.qv t ht
  have ct := h.qt t ht
  have fz := h.frozen
  have t0 := hx.t0
  have tB := hx.tB
  by_cases h1 : (S.T t).c = 1
  · have e : charged (S.T t) = { S.T t with t := (S.T t).t + costOf (S.T t).v } := by unfold charged; rw [if_pos h1]
    have hw := hx.w h1
    have hc := Lib.hid (fun W => cost_yes (S.T t).v W hw)
    have hcb := costOf_bd hw
    rw [e]
    rw [h1] at cc
    generalize costOf (S.T t).v = cst at *
    clear h hx h1 e hw
    go_enter Try.func93, Try.ntmps93
    go_wp2_with (go_at_call 49; (with_reducible refine (hc.out _).mono ?_); rintro e w' ⟨rfl, rfl⟩)
    go_end0
    exact ⟨rfl, H.out.set_t t ht _, only1 _ _ (Only.refl _ _)⟩
  · by_cases h3 : (S.T t).c = 3
    · have e : charged (S.T t) = used (S.T t) := by unfold charged; rw [if_neg h1, if_pos h3]
      have hu := Lib.hid (use_any h t ht hx.l0 hx.l1)
      rw [e]
      rw [h3] at cc
      clear h hx h1 h3 e
      go_enter Try.func93, Try.ntmps93
      go_wp2_with (go_at_call 132; (with_reducible refine hu.out.mono ?_); rintro e w2 ⟨rfl, hR, hO⟩; have H2 := Lib.hid hR; have O2 := Lib.hid hO; clear hR hO)
      go_end0
      exact ⟨rfl, H2.out, O2.out⟩
    · have e : charged (S.T t) = S.T t := by unfold charged; rw [if_neg h1, if_neg h3]
      have e1 : ((S.T t).c == 1) = false := by simp [h1]
      have e3 : ((S.T t).c == 3) = false := by simp [h3]
      rw [e, set_self]
      clear h hx h1 h3 e
      go_enter Try.func93, Try.ntmps93
      go_wp2_with fail
      go_end0
      exact ⟨rfl, H.out, Only.refl _ _⟩

theorem passTo_zero (S : St) (n : Int) : passTo S n 0 = S := by
  unfold passTo
  have : (fun t => if t < 0 then again (S.T t) n else S.T t) = S.T := by funext j; rw [if_neg (by omega)]
  rw [this]
theorem passTo_at (S : St) (n : Int) (j : Nat) : (passTo S n j).T j = S.T j := by
  show (if j < j then _ else S.T j) = S.T j
  rw [if_neg (by omega)]
theorem passTo_succ (S : St) (n : Int) (j : Nat) : { passTo S n j with T := upd (passTo S n j).T j (again (S.T j) n) } = passTo S n (j + 1) := by
  unfold passTo
  have : upd (fun t => if t < j then again (S.T t) n else S.T t) j (again (S.T j) n) = fun t => if t < j + 1 then again (S.T t) n else S.T t := by
    funext i
    unfold upd
    by_cases e : i = j
    · subst e; rw [if_pos rfl, if_pos (by omega)]
    · rw [if_neg e]
      show (if i < j then again (S.T i) n else S.T i) = if i < j + 1 then again (S.T i) n else S.T i
      by_cases h : i < j
      · rw [if_pos h, if_pos (by omega)]
      · rw [if_neg h, if_neg (by omega)]
  show St.mk _ _ _ _ _ = _
  rw [this]

def tickE (S : St) (c : Int) : Int := if isCpu S c = true then 0 else 1
def tickS (S : St) (c : Int) : St := if isCpu S c = true then tick S c.toNat else S
theorem tick_any (h : RunAt w p S) (hok : Ok S B) (hB : B ≤ 7000000000000) (c : Int) :
    Calls Try.prog 39 #[.pointer (some ⟨p, 0, none⟩), .int .i64 c] w (Keep p (tickS S c) (.int .i64 (tickE S c)) w) := by
  have H := Lib.hid h
  have hi := Lib.hid (isCpu_any h c)
  unfold tickS tickE
  by_cases hc : isCpu S c = true
  · rw [if_pos hc, if_pos hc]
    rw [hc] at hi
    have hcc := of_decide_eq_true hc
    have n4 := hok.n4
    obtain ⟨k, rfl⟩ : ∃ k : Nat, c = k := ⟨c.toNat, by omega⟩
    rw [Int.toNat_natCast]
    have hk4 : k < 4 := by omega
    have k1 : (0 : Int) ≤ k := by omega
    have k2 : (k : Int) < 4 := by omega
    have co := h.on k hk4
    have ho := hok.on k hk4
    have okT := Lib.hid (hok.tick hk4)
    have hch := Lib.hid (fun W (h : RunAt W p S) => charge_any h (S.on k) (by omega) (hok.tk (S.on k) (by omega)) (by omega))
    have o1 : (0 : Int) ≤ ((S.on k : Nat) : Int) := by omega
    have o2 : ((S.on k : Nat) : Int) < 17 := by omega
    have hk0 := hok.k0
    have hkB := hok.kB
    have hgB := hok.gB
    have hg0 := hok.g0
    have hnn := hok.n1
    obtain ⟨S1, hS1⟩ : ∃ S1 : St, S1 = { S with T := upd S.T (S.on k) (charged (S.T (S.on k))), k := S.k + 1 } := ⟨_, rfl⟩
    have ok1 : Ok S1 (B + 1) := by
      subst hS1
      exact hok.charged_tick hk4
    have EK : Hid (∀ W, RunAt W p { S with T := upd S.T (S.on k) (charged (S.T (S.on k))) } → RunAt (W.setCell ⟨p, 226, none⟩ (.int .i64 (S.k + 1))) p S1) := Lib.hid (fun W hW => by rw [hS1]; exact hW.set_k (S.k + 1))
    have ET : Hid (tick S k = fill (clr (passTo S1 (now S1) 17) k)) := Lib.hid (by rw [hS1]; rfl)
    rw [ET.out]
    have hnow := Lib.hid (fun W (h : RunAt W p S1) => now_any h ok1.fine ok1.k0 (by have := ok1.kB; omega))
    have hnb := now_bd ok1
    have okP := Lib.hid (fun j => ok1.passTo hnb.2 j)
    have HP := Lib.hid (fun W j (hj : j < 17) (h : RunAt W p (passTo S1 (now S1) j)) => passR_any h j hj (now S1) (((okP.out j).tk j hj).d0) (by have := ((okP.out j).tk j hj).dB; have := (okP.out j).kB; omega) ((okP.out j).tk j hj).p0 ((okP.out j).tk j hj).p1)
    have EP := Lib.hid (fun j => passTo_succ S1 (now S1) j)
    have EA := Lib.hid (fun j => passTo_at S1 (now S1) j)
    have E0 := Lib.hid (passTo_zero S1 (now S1))
    have ok17 := okP.out 17
    have hcl := Lib.hid (fun W (h : RunAt W p (passTo S1 (now S1) 17)) => clear_any h k hk4 (ok17.on k hk4) ok17.g0 (by have := ok17.gB; omega))
    have hf := Lib.hid (fun W (h : RunAt W p (clr (passTo S1 (now S1) 17) k)) => fills h (ok17.fine.clr k))
    have hn0 : 0 ≤ now S1 ∧ now S1 ≤ S1.k := hnb
    have hfz := h.frozen
    generalize now S1 = n at *
    clear h hc hcc hok ET hS1 ok1 ok17 hnb okT okP ho
    go_enter Try.func39, Try.ntmps39
    go_upto_region 3 with (go_at_call 72; (with_reducible refine hi.out.mono ?_); rintro e w' ⟨rfl, rfl⟩)
    go_region_with (go_at_call 93; (with_reducible refine (hch.out _ (H.out.later (Only.refl _ _).drew)).mono ?_); rintro e w1 ⟨rfl, hR, hO⟩; have H1 := Lib.hid hR; have O1 := Lib.hid (only_pp (only_p (Only.refl _ w).drew) hO); clear hR hO)
    all_goals (
      have ck := H1.out.hk
      have fz1 := H1.out.frozen
      have H2 := Lib.hid (EK.out _ H1.out)
      have O2 := Lib.hid (only1 226 (.int .i64 (S.k + 1)) O1.out)
      go_wp2_with (go_at_call 79; (with_reducible refine (hnow.out _ H2.out).mono ?_); rintro e w2 ⟨rfl, hO⟩; have H3 := Lib.hid (H2.out.later hO); have O3 := Lib.hid (only_pp O2.out (only_p hO)); clear hO)
      clear H1 O1 H2 O2 ck fz1 co hfz
      go_loopw [31] (fun i wr => ∃ j : Nat, j ≤ 17 ∧ i = .int .i64 j ∧ RunAt wr p (passTo S1 n j) ∧ Only (fun k => k = p) w wr) (fun i _ => 17 - (intOf i).toNat)
      case atStart => exact ⟨0, by omega, rfl, by rw [E0.out]; exact H3.out, O3.out⟩
      case round =>
        clear H3 O3
        obtain ⟨j, hj, rfl, hR, hO⟩ := hrel
        have HR := Lib.hid hR
        have HO := Lib.hid hO
        clear hR hO
        by_cases hlt : j < 17
        · have g1 : (j : Int) < 17 := by omega
          have g2 : (0 : Int) ≤ j := by omega
          have hp := Lib.hid (HP.out _ j hlt HR.out)
          have EX := Lib.hid (EP.out j)
          rw [EA.out j] at hp
          generalize again (S1.T j) n = x at *
          go_wp2_with (go_at_call 94; (with_reducible refine hp.out.mono ?_); rintro e w3 ⟨rfl, hR, hO⟩; have HR2 := Lib.hid hR; have HO2 := Lib.hid (only_pp HO.out hO); clear hR hO)
          go_roundw
          case rel => exact ⟨j + 1, by omega, by go_num, by rw [← EX.out]; exact HR2.out, HO2.out⟩
          case measure => simp [intOf]; omega
        · obtain rfl : j = 17 := by omega
          go_wp2_with (first
            | (go_at_call 82; (with_reducible refine (hcl.out _ HR.out).mono ?_); rintro e w4 ⟨rfl, hR, hO⟩; have H4 := Lib.hid hR; have O4 := Lib.hid (only_pp HO.out hO); clear hR hO)
            | (go_at_call 84; (with_reducible refine (hf.out _ H4.out).mono ?_); rintro e w5 ⟨rfl, hR, hO⟩; have H5 := Lib.hid hR; have O5 := Lib.hid (only_pp O4.out hO); clear hR hO))
          go_ret
          exact ⟨rfl, H5.out, O5.out⟩)
  · rw [if_neg hc, if_neg hc]
    rw [Bool.eq_false_iff.2 hc] at hi
    clear h hc hok
    go_enter Try.func39, Try.ntmps39
    go_wp2_with (go_at_call 72; (with_reducible refine hi.out.mono ?_); rintro e w' ⟨rfl, rfl⟩)
    go_ret
    exact ⟨rfl, H.out, Only.refl _ _⟩
end
end Go.Proofs.Ytddfdnhlghmapaa.Sp
