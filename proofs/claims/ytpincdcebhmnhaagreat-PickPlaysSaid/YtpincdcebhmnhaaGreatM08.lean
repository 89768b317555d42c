/- Texts of this claim, merged: ODOps. -/
import Derived.Test.YtpincdcebhmnhaaGreatM05
import Derived.Test.YtpincdcebhmnhaaGreatM06
import Derived.Test.YtpincdcebhmnhaaGreatM07
import Derived.Deep.RegionWith
/- Contracts of package dead: New, At, Now, Block, Wake, Leave, Add, Tick. -/
namespace Go.Proofs.YtpincdcebhmnhaaGreat.De
open Go.ChangeShapes Go.WideShapes Go.ChangeAt Go.RowKit Go.Maps
set_option linter.unusedVariables false

def noTk : Tk := ⟨0, 0, 0, 0, false, false⟩
def noT : Tks := fun _ => noTk

theorem lt17 {P : Nat → Prop} (h : P 0 ∧ P 1 ∧ P 2 ∧ P 3 ∧ P 4 ∧ P 5 ∧ P 6 ∧ P 7 ∧ P 8 ∧ P 9 ∧ P 10 ∧ P 11 ∧ P 12 ∧ P 13 ∧ P 14 ∧ P 15 ∧ P 16) (t : Nat) (ht : t < 17) : P t := by
  obtain ⟨h0, h1, h2, h3, h4, h5, h6, h7, h8, h9, h10, h11, h12, h13, h14, h15, h16⟩ := h
  rcases (show t = 0 ∨ t = 1 ∨ t = 2 ∨ t = 3 ∨ t = 4 ∨ t = 5 ∨ t = 6 ∨ t = 7 ∨ t = 8 ∨ t = 9 ∨ t = 10 ∨ t = 11 ∨ t = 12 ∨ t = 13 ∨ t = 14 ∨ t = 15 ∨ t = 16 by omega) with rfl | rfl | rfl | rfl | rfl | rfl | rfl | rfl | rfl | rfl | rfl | rfl | rfl | rfl | rfl | rfl | rfl <;> assumption

theorem cells_zero : Cells 0 Tryz.zeroCells72 noT 0 :=
  ⟨by decide, lt17 (by repeat' constructor), lt17 (by repeat' constructor), lt17 (by repeat' constructor), lt17 (by repeat' constructor), lt17 (by repeat' constructor), lt17 (by repeat' constructor), rfl⟩


theorem results_tmp4 {fn : Func} {t u v x : Tmp} (h : fn.results = #[.tmp t, .tmp u, .tmp v, .tmp x]) (tmps : Array Value) (P : Program) (w : World) :
    (results fn tmps).run P w = .ok (.tuple #[tmps.getD t undef, tmps.getD u undef, tmps.getD v undef, tmps.getD x undef]) w := by
  simp [results, h]

section
variable {w : World} {p o D : Nat} {T : Tks} {n : Int}

theorem DeadAt.set_task (h : DeadAt w p o D T n) (t : Nat) (ht : t < 17) (b q l d : Int) (r x : Bool) :
    DeadAt ((((((w.setCell ⟨p, o + t * 6, none⟩ (.int .i64 b)).setCell ⟨p, o + t * 6 + 1, none⟩ (.int .i64 q)).setCell ⟨p, o + t * 6 + 2, none⟩ (.int .i64 l)).setCell ⟨p, o + t * 6 + 3, none⟩ (.int .i64 d)).setCell ⟨p, o + t * 6 + 4, none⟩ (.bool x)).setCell ⟨p, o + t * 6 + 5, none⟩ (.bool r)) p o D (upd T t ⟨b, q, l, d, r, x⟩) n := by
  have := (((((h.set_tb t ht b).set_tp t ht q).set_tl t ht l).set_td t ht d).set_to t ht x).set_tr t ht r
  simp only [upd_upd, upd_same] at this
  exact this
theorem only_set6 (w : World) (p o i j k l m q : Nat) (a b c d e f : Value) (h1 : i < 103) (h2 : j < 103) (h3 : k < 103) (h4 : l < 103) (h5 : m < 103) (h6 : q < 103) :
    Within p o 103 w ((((((w.setCell ⟨p, o + i, none⟩ a).setCell ⟨p, o + j, none⟩ b).setCell ⟨p, o + k, none⟩ c).setCell ⟨p, o + l, none⟩ d).setCell ⟨p, o + m, none⟩ e).setCell ⟨p, o + q, none⟩ f) :=
  only_set3 (only_set3 (Within.refl p o 103 w) i j k a b c h1 h2 h3) l m q d e f h4 h5 h6

theorem block_no (h : DeadAt w p o D T n) (t : Int) (ht : ¬ isTask T t) :
    Calls Tryz.prog 129 #[.pointer (some ⟨p, o, none⟩), .int .i64 t] w fun e w' => e = .returned (.int .i64 4) ∧ w = w' := by
  have c := Lib.hid (find_no h t ht)
  clear h ht
  go_enter Tryz.func129, Tryz.ntmps129
  go_wp2_with (go_at_call 59; (with_reducible refine c.out.mono ?_); rintro e w' ⟨rfl, rfl⟩)
  go_ret
  exact ⟨rfl, rfl⟩

theorem block_state (h : DeadAt w p o D T n) (t : Nat) (h1 : 1 ≤ t) (h2 : t ≤ 16) (hc : (T t).p ≠ 0) (hr : (T t).r = false) :
    Calls Tryz.prog 129 #[.pointer (some ⟨p, o, none⟩), .int .i64 t] w fun e w' => e = .returned (.int .i64 8) ∧ w = w' := by
  have c := Lib.hid (find_yes h t h1 h2 hc)
  have cr := h.cr t (by omega)
  rw [hr] at cr
  clear h hc hr
  go_enter Tryz.func129, Tryz.ntmps129
  go_wp2_with (go_at_call 59; (with_reducible refine c.out.mono ?_); rintro e w' ⟨rfl, rfl⟩)
  go_ret
  exact ⟨rfl, rfl⟩

/-- A task that waits. -/
def slept (x : Tk) : Tk := ⟨x.b, x.p, x.l, x.d, false, x.o⟩
theorem block_yes (h : DeadAt w p o D T n) (t : Nat) (h1 : 1 ≤ t) (h2 : t ≤ 16) (hc : (T t).p ≠ 0) (hr : (T t).r = true) :
    Calls Tryz.prog 129 #[.pointer (some ⟨p, o, none⟩), .int .i64 t] w (DKeep w p o D (.int .i64 0) (upd T t (slept (T t))) n) := by
  have c := Lib.hid (find_yes h t h1 h2 hc)
  have H := Lib.hid h
  have cr := h.cr t (by omega)
  have fz := h.frozen
  rw [hr] at cr
  clear h hc hr
  go_enter Tryz.func129, Tryz.ntmps129
  go_wp2_with (go_at_call 59; (with_reducible refine c.out.mono ?_); rintro e w' ⟨rfl, rfl⟩)
  go_ret
  exact ⟨rfl, H.out.set_tr t (by omega) false, only_set1 (Within.refl p o 103 w) (t * 6 + 5) _⟩

theorem wk_no (h : DeadAt w p o D T n) (t : Int) (ht : ¬ isTask T t) :
    Calls Tryz.prog 131 #[.pointer (some ⟨p, o, none⟩), .int .i64 t] w fun e w' => e = .returned (.int .i64 4) ∧ w = w' := by
  have c := Lib.hid (find_no h t ht)
  clear h ht
  go_enter Tryz.func131, Tryz.ntmps131
  go_wp2_with (go_at_call 59; (with_reducible refine c.out.mono ?_); rintro e w' ⟨rfl, rfl⟩)
  go_ret
  exact ⟨rfl, rfl⟩

theorem wk_state (h : DeadAt w p o D T n) (t : Nat) (h1 : 1 ≤ t) (h2 : t ≤ 16) (hc : (T t).p ≠ 0) (hr : (T t).r = true) :
    Calls Tryz.prog 131 #[.pointer (some ⟨p, o, none⟩), .int .i64 t] w fun e w' => e = .returned (.int .i64 8) ∧ w = w' := by
  have c := Lib.hid (find_yes h t h1 h2 hc)
  have cr := h.cr t (by omega)
  rw [hr] at cr
  clear h hc hr
  go_enter Tryz.func131, Tryz.ntmps131
  go_wp2_with (go_at_call 59; (with_reducible refine c.out.mono ?_); rintro e w' ⟨rfl, rfl⟩)
  go_ret
  exact ⟨rfl, rfl⟩

theorem woke_is (x : Tk) (n : Int) : wokeR ⟨x.b, x.p, x.l, x.d, true, x.o⟩ n = woke x n := by
  unfold wokeR woke
  by_cases h : x.o = false ∧ Stale x n
  · rw [if_pos (show (⟨x.b, x.p, x.l, x.d, true, x.o⟩ : Tk).o = false ∧ Stale ⟨x.b, x.p, x.l, x.d, true, x.o⟩ n from h), if_pos h]
  · rw [if_neg (show ¬ ((⟨x.b, x.p, x.l, x.d, true, x.o⟩ : Tk).o = false ∧ Stale ⟨x.b, x.p, x.l, x.d, true, x.o⟩ n) from h), if_neg h]
theorem wk_yes {B : Int} (h : DeadAt w p o D T n) (hb : Fit T B) (hB : B ≤ 8000000000000000) (n0 : 0 ≤ n) (nB : n ≤ 8000000000000000) (t : Nat) (h1 : 1 ≤ t) (h2 : t ≤ 16) (hc : (T t).p ≠ 0) (hr : (T t).r = false) :
    Calls Tryz.prog 131 #[.pointer (some ⟨p, o, none⟩), .int .i64 t] w (DKeep w p o D (.int .i64 0) (upd T t (woke (T t) n)) n) := by
  have c := Lib.hid (find_yes h t h1 h2 hc)
  have b0 := hb.b t (by omega)
  have p0 := hb.p t (by omega)
  have l0 := hb.l t (by omega)
  have d0 := hb.d t (by omega)
  have H := Lib.hid h
  have cr := h.cr t (by omega)
  have fz := h.frozen
  have cn := h.now
  have HO1 := Lib.hid (only_set1 (Within.refl p o 103 w) (t * 6 + 5) (.bool true))
  rw [hr] at cr
  have H2 := Lib.hid (h.set_tr t (by omega) true)
  have c2 := Lib.hid (fun (W : World) (hW : Only (fun _ => False) (w.setCell ⟨p, o + t * 6 + 5, none⟩ (.bool true)) W) => wakeR_any (H2.out.later hW) t (by omega) n0 (by omega) (by rw [upd_same]; show (T t).d ≤ _; omega) (by rw [upd_same]; exact b0.1) (by rw [upd_same]; show (T t).b ≤ 30; omega) (by rw [upd_same]; exact l0.1) (by rw [upd_same]; show (T t).l ≤ 30; omega) (by rw [upd_same]; show 0 ≤ (T t).p; omega) (by rw [upd_same]; exact p0))
  simp only [upd_same, upd_upd, woke_is] at c2
  clear h hc hr hb
  go_enter Tryz.func131, Tryz.ntmps131
  go_upto_region 7 with (go_at_call 59; (with_reducible refine c.out.mono ?_); rintro e w' ⟨rfl, rfl⟩)
  have cn2 := H2.out.now
  generalize w.setCell ⟨p, o + t * 6 + 5, none⟩ (.bool true) = w1 at *
  clear cn cr fz
  go_region_with (go_at_call 132; (with_reducible refine (c2.out _ (Only.refl _ _).drew).mono ?_); rintro e w2 ⟨rfl, hF, hO⟩; have HF := Lib.hid hF; have HO2 := Lib.hid hO; clear hF hO)
  all_goals (
    (try go_wp2_with fail)
    go_ret
    exact ⟨rfl, HF.out, HO1.out.drew.trans HO2.out (fun _ _ h => h)⟩)

theorem leave_no (h : DeadAt w p o D T n) (t : Int) (ht : ¬ isTask T t) :
    Calls Tryz.prog 130 #[.pointer (some ⟨p, o, none⟩), .int .i64 t] w fun e w' => e = .returned (.int .i64 4) ∧ w = w' := by
  have c := Lib.hid (find_no h t ht)
  clear h ht
  go_enter Tryz.func130, Tryz.ntmps130
  go_wp2_with (go_at_call 59; (with_reducible refine c.out.mono ?_); rintro e w' ⟨rfl, rfl⟩)
  go_ret
  exact ⟨rfl, rfl⟩

theorem leave_yes (h : DeadAt w p o D T n) (t : Nat) (h1 : 1 ≤ t) (h2 : t ≤ 16) (hc : (T t).p ≠ 0) :
    Calls Tryz.prog 130 #[.pointer (some ⟨p, o, none⟩), .int .i64 t] w (DKeep w p o D (.int .i64 0) (upd T t noTk) n) := by
  have c := Lib.hid (find_yes h t h1 h2 hc)
  have H := Lib.hid h
  have cb := h.cb t (by omega)
  have cp := h.cp t (by omega)
  have cl := h.cl t (by omega)
  have cd := h.cd t (by omega)
  have cr := h.cr t (by omega)
  have co := h.co t (by omega)
  have fz := h.frozen
  clear h hc
  go_enter Tryz.func130, Tryz.ntmps130
  go_wp2_with (go_at_call 59; (with_reducible refine c.out.mono ?_); rintro e w' ⟨rfl, rfl⟩)
  go_ret
  exact ⟨rfl, H.out.set_task t (by omega) 0 0 0 0 false false, only_set6 w p o (t * 6) (t * 6 + 1) (t * 6 + 2) (t * 6 + 3) (t * 6 + 4) (t * 6 + 5) _ _ _ _ _ _ (by omega) (by omega) (by omega) (by omega) (by omega) (by omega)⟩

/-- May a task reserve this? -/
def Good (t b q : Int) : Prop := 1 ≤ t ∧ t ≤ 16 ∧ 1 ≤ q ∧ q ≤ 30 ∧ 1 ≤ b ∧ b ≤ q
instance (t b q : Int) : Decidable (Good t b q) := by unfold Good; exact inferInstance

theorem add_bad (h : DeadAt w p o D T n) (t b q : Int) (hb : ¬ Good t b q) :
    Calls Tryz.prog 29 #[.pointer (some ⟨p, o, none⟩), .int .i64 t, .int .i64 b, .int .i64 q] w fun e w' => e = .returned (.int .i64 1) ∧ w = w' := by
  clear h
  have hb' : t < 1 ∨ 16 < t ∨ q < 1 ∨ 30 < q ∨ b < 1 ∨ q < b := by
    apply Decidable.byContradiction; intro hh; exact hb ⟨by omega, by omega, by omega, by omega, by omega, by omega⟩
  clear hb
  by_cases h1 : t < 1
  · clear hb'
    go_enter Tryz.func29, Tryz.ntmps29
    go_wp2
    go_ret
    exact ⟨rfl, rfl⟩
  by_cases h2 : 16 < t
  · clear hb'
    go_enter Tryz.func29, Tryz.ntmps29
    go_wp2
    go_ret
    exact ⟨rfl, rfl⟩
  by_cases h3 : q < 1
  · clear hb'
    go_enter Tryz.func29, Tryz.ntmps29
    go_wp2
    go_ret
    exact ⟨rfl, rfl⟩
  by_cases h4 : 30 < q
  · clear hb'
    go_enter Tryz.func29, Tryz.ntmps29
    go_wp2
    go_ret
    exact ⟨rfl, rfl⟩
  by_cases h5 : b < 1
  · clear hb'
    go_enter Tryz.func29, Tryz.ntmps29
    go_wp2
    go_ret
    exact ⟨rfl, rfl⟩
  have h6 : q < b := by omega
  clear hb'
  go_enter Tryz.func29, Tryz.ntmps29
  go_wp2
  go_ret
  exact ⟨rfl, rfl⟩

theorem add_there (h : DeadAt w p o D T n) (t : Nat) (b q : Int) (hb : Good t b q) (hc : (T t).p ≠ 0) :
    Calls Tryz.prog 29 #[.pointer (some ⟨p, o, none⟩), .int .i64 t, .int .i64 b, .int .i64 q] w fun e w' => e = .returned (.int .i64 5) ∧ w = w' := by
  obtain ⟨b1, b2, b3, b4, b5, b6⟩ := hb
  have c := Lib.hid (find_yes h t (by omega) (by omega) hc)
  have q1 : ¬ (t : Int) < 1 := by omega
  have q2 : ¬ 16 < (t : Int) := by omega
  have q3 : ¬ q < 1 := by omega
  have q4 : ¬ 30 < q := by omega
  have q5 : ¬ b < 1 := by omega
  have q6 : ¬ q < b := by omega
  clear h hc
  go_enter Tryz.func29, Tryz.ntmps29
  go_wp2_with (go_at_call 59; (with_reducible refine c.out.mono ?_); rintro e w' ⟨rfl, rfl⟩)
  go_ret
  exact ⟨rfl, rfl⟩

/-- A task that comes. -/
def came (b q n : Int) : Tk := ⟨b, q, b, n + q, true, false⟩
set_option maxRecDepth 100000 in
theorem add_yes (h : DeadAt w p o D T n) (t : Nat) (b q : Int) (hb : Good t b q) (hc : (T t).p = 0) (n0 : 0 ≤ n) (nB : n ≤ 8000000000000000000) :
    Calls Tryz.prog 29 #[.pointer (some ⟨p, o, none⟩), .int .i64 t, .int .i64 b, .int .i64 q] w (DKeep w p o D (.int .i64 0) (upd T t (came b q n)) n) := by
  obtain ⟨b1, b2, b3, b4, b5, b6⟩ := hb
  have H := Lib.hid h
  have c := Lib.hid (find_no h (t : Int) (fun hh => hh.2.2 (by simpa using hc)))
  have q1 : ¬ (t : Int) < 1 := by omega
  have q2 : ¬ 16 < (t : Int) := by omega
  have q3 : ¬ q < 1 := by omega
  have q4 : ¬ 30 < q := by omega
  have q5 : ¬ b < 1 := by omega
  have q6 : ¬ q < b := by omega
  have q7 : (t : Int) < 17 := by omega
  have fz := h.frozen
  have cb := h.cb t (by omega)
  have cp := h.cp t (by omega)
  have cl := h.cl t (by omega)
  have cd := h.cd t (by omega)
  have cr := h.cr t (by omega)
  have co := h.co t (by omega)
  have cn := h.now
  have hr := Lib.hid (fun (W : World) => resnew_any b q n n0 (by omega) (by omega) b4 W)
  clear h hc cb cp cl cd cr co fz
  go_enter Tryz.func29, Tryz.ntmps29
  go_upto_region 5 with (go_at_call 59; (with_reducible refine c.out.mono ?_); rintro e w' ⟨rfl, rfl⟩)
  go_region_with (go_at_call 60; (with_reducible refine (hr.out _).mono ?_); rintro e w2 ⟨rfl, hO⟩; have O2 := Lib.hid ((Only.refl (fun _ => False) w).drew.trans hO (fun _ _ h => h)); have H2 := Lib.hid (H.out.later O2.out); clear hO; have fz := H2.out.frozen; have cb := H2.out.cb t (by omega); have cp := H2.out.cp t (by omega); have cl := H2.out.cl t (by omega); have cd := H2.out.cd t (by omega); have cr := H2.out.cr t (by omega); have co := H2.out.co t (by omega))
  all_goals (
    (try go_wp2_with fail)
    go_ret
    exact ⟨rfl, H2.out.set_task t (by omega) b q b (n + q) true false, (Within.of H.out.lt O2.out).trans (only_set6 w2 p o (t * 6) (t * 6 + 1) (t * 6 + 2) (t * 6 + 3) (t * 6 + 4) (t * 6 + 5) _ _ _ _ _ _ (by omega) (by omega) (by omega) (by omega) (by omega) (by omega)) (fun _ _ h => h)⟩)

theorem tick_any {B : Int} (h : DeadAt w p o D T n) (hb : Fit T B) (hB : B ≤ 8000000000000000) (n0 : 0 ≤ n) (nB : n ≤ 8000000000000000) :
    Calls Tryz.prog 25 #[.pointer (some ⟨p, o, none⟩)] w (DKeep w p o D (.int .i64 (pick T : Nat)) (tick T n) (n + 1)) := by
  have H := Lib.hid h
  have k := Lib.hid (pick_any h)
  have hl := pick_lt T
  have HB := Lib.hid hb
  have e1 := pickErr_yes (T := T)
  have e2 := pickErr_no (T := T)
  have HT : Hid (tick T n = if pick T = 0 then past T n else past (upd T (pick T) (use (T (pick T)))) n) := Lib.hid rfl
  generalize pickErr T = er at *
  clear h hb
  by_cases hm : pick T = 0
  · have e := e2 hm
    subst e
    have HE := Lib.hid (HT.out.trans (if_pos hm))
    have HM := Lib.hid hm
    rw [hm] at k
    have c3 := Lib.hid (fun wx (hx : DeadAt wx p o D T n) => pass_any hx HB.out (by omega) n0 (by omega))
    clear e1 e2 HT
    go_enter Tryz.func25, Tryz.ntmps25
    go_wp2_with (first
      | (go_at_call 44; (with_reducible refine k.out.mono ?_); rintro e w1 ⟨rfl, hO⟩; have HO := Lib.hid hO; have H2 := Lib.hid (H.out.later hO); clear hO)
      | (go_at_call 28; (with_reducible refine (c3.out _ H2.out).mono ?_); rintro e w4 ⟨rfl, hF, hO⟩; have HO4 := Lib.hid hO; have HF := Lib.hid hF; clear hO hF))
    go_ret
    exact ⟨by rw [HM.out]; rfl, by rw [HE.out]; exact HF.out, (Within.of H.out.lt HO.out).trans HO4.out (fun _ _ h => h)⟩
  · have e := e1 hm
    subst e
    have HE := Lib.hid (HT.out.trans (if_neg hm))
    obtain ⟨m, hmm⟩ : ∃ m, pick T = m := ⟨_, rfl⟩
    have HM := Lib.hid hmm
    have HU := Lib.hid (HB.out.used hm)
    rw [hmm] at k HE hl hm HU
    have l0 := HB.out.l m hl
    have b0 := HB.out.b m hl
    have p0 := HB.out.p m hl
    have g1 : (m : Int) < 17 := by omega
    have hof := (pick_can (T := T) (by rw [hmm]; exact hm)).2
    rw [hmm] at hof
    have c2 := Lib.hid (fun wx (hx : DeadAt wx p o D T n) => use_any hx m hl hof l0.1 (by omega))
    have c3 := Lib.hid (fun wx (hx : DeadAt wx p o D (upd T m (use (T m))) n) => pass_any hx HU.out (by omega) n0 (by omega))
    clear e1 e2 HT hmm hof
    go_enter Tryz.func25, Tryz.ntmps25
    go_wp2_with (first
      | (go_at_call 44; (with_reducible refine k.out.mono ?_); rintro e w1 ⟨rfl, hO⟩; have HO := Lib.hid hO; have H2 := Lib.hid (H.out.later hO); clear hO)
      | (go_at_call 56; (with_reducible refine (c2.out _ H2.out).mono ?_); rintro e w3 ⟨rfl, hF, hO⟩; have HO3 := Lib.hid hO; have HF3 := Lib.hid hF; clear hO hF)
      | (go_at_call 28; (with_reducible refine (c3.out _ HF3.out).mono ?_); rintro e w4 ⟨rfl, hF, hO⟩; have HO4 := Lib.hid hO; have HF := Lib.hid hF; clear hO hF))
    go_ret
    exact ⟨by rw [HM.out]; rfl, by rw [HE.out]; exact HF.out, ((Within.of H.out.lt HO.out).trans HO3.out (fun _ _ h => h)).trans HO4.out (fun _ _ h => h)⟩
end
end Go.Proofs.YtpincdcebhmnhaaGreat.De
