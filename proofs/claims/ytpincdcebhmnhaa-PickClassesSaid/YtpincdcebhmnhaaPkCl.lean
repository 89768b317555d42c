/- Nobody of a lesser class goes while one of a greater is ready: the walk of PickClasses. -/
import Derived.Test.YtpincdcebhmnhaaPkSl
import Derived.Test.YtpincdcebhmnhaaOffAt
import Derived.Test.YtpincdcebhmnhaaMin2
namespace Go.Proofs.Ytpincdcebhmnhaa.Pk
open Go.ChangeShapes Go.WideShapes Go.ChangeAt Go.RowKit Go.Maps
open Go.Proofs.Ytpincdcebhmnhaa.Vt Go.Proofs.Ytpincdcebhmnhaa.Of
set_option linter.unusedVariables false

/-- The class of a task, by its number. -/
def cl (j : Nat) : Int := (((j - 1) / 3 + 1 : Nat) : Int)

/-- Tasks 1 to k have come. -/
structure Made (S : St) (k : Nat) : Prop where
  inv : Inv S 0
  C : ∀ j, j < 17 → S.C j = if 1 ≤ j ∧ j ≤ k then cl j else 0
  ready : ∀ j, j < 17 → ready S j = decide (1 ≤ j ∧ j ≤ k)
theorem made_none : Made noS 0 := ⟨inv_no, fun j _ => by rw [if_neg (by omega)]; rfl, fun j _ => by rw [ready_0 rfl]; simp; omega⟩

section
variable {S : St} {k : Nat}
theorem Made.free (h : Made S k) (hk : k + 1 < 17) : S.C (k + 1) = 0 := by rw [h.C _ hk, if_neg (by omega)]
theorem Made.next (h : Made S k) {R : St} (hI : Inv R 0) (hC : ∀ j, R.C j = if j = k + 1 then cl (k + 1) else S.C j) (hr : ∀ j, Pk.ready R j = if j = k + 1 then true else Pk.ready S j) : Made R (k + 1) := by
  refine ⟨hI, fun j hj => ?_, fun j hj => ?_⟩
  · rw [hC, h.C j hj]
    by_cases e : j = k + 1
    · subst e; rw [if_pos rfl, if_pos (by omega)]
    · rw [if_neg e]
      by_cases e2 : 1 ≤ j ∧ j ≤ k
      · rw [if_pos e2, if_pos (by omega)]
      · rw [if_neg e2, if_neg (by omega)]
  · rw [hr, h.ready j hj]
    by_cases e : j = k + 1
    · subst e; rw [if_pos rfl]; simp
    · rw [if_neg e]; congr 1; simp; omega
theorem Made.fair (h : Made S k) (hk : k < 3) : Made (newFair S (k + 1) ((k : Int) + 1)) (k + 1) := by
  have hc := h.free (by omega)
  have ha : isW ((k : Int) + 1) = true := by unfold isW; exact decide_eq_true (by omega)
  exact h.next (h.inv.new_fair (by omega) (by omega) hc ha) (fun j => by
    show Pr.upd S.C (k + 1) 1 j = _
    unfold Pr.upd; rw [show cl (k + 1) = 1 by unfold cl; omega]) (fun j => h.inv.ready_newFair (by omega) _ j)
theorem Made.prio (h : Made S k) (h3 : 3 ≤ k) (hk : k < 6) : Made (newPrio S (k + 1) (k - 3)) (k + 1) := by
  have hc := h.free (by omega)
  exact h.next (h.inv.new_prio (by omega) (by omega) hc (by omega)) (fun j => by
    show Pr.upd S.C (k + 1) 2 j = _
    unfold Pr.upd; rw [show cl (k + 1) = 2 by unfold cl; omega]) (fun j => ready_newPrio (by omega) j)
theorem Made.dead (h : Made S k) (h3 : 6 ≤ k) (hk : k < 9) : Made (newDead S (k + 1) 1 4) (k + 1) := by
  have hc := h.free (by omega)
  exact h.next (h.inv.new_dead (by omega) (by omega) hc ⟨by omega, by omega, by omega, by omega, by omega, by omega⟩) (fun j => by
    show Pr.upd S.C (k + 1) 3 j = _
    unfold Pr.upd; rw [show cl (k + 1) = 3 by unfold cl; omega]) (fun j => ready_newDead _ _ j)
end

/-- Nine tasks; f tells who is not ready. -/
structure Tells (S : St) (f : Int → Bool) (i : Nat) : Prop where
  inv : Inv S i
  C : ∀ j, j < 17 → S.C j = if 1 ≤ j ∧ j ≤ 9 then cl j else 0
  ready : ∀ j : Nat, 1 ≤ j → j ≤ 9 → Pk.ready S j = !f j
theorem Made.tells {S : St} (h : Made S 9) : Tells S (fun _ => false) 0 := ⟨h.inv, h.C, fun j h1 h2 => by rw [h.ready j (by omega)]; simp; omega⟩

section
variable {S : St} {f : Int → Bool} {i : Nat}
theorem Tells.there (h : Tells S f i) {k : Nat} (h1 : 1 ≤ k) (h2 : k ≤ 9) : ¬ Free S (k : Int) := free_not h1 (by omega) (by rw [h.C k (by omega), if_pos ⟨h1, h2⟩]; unfold cl; omega)
theorem Tells.same (h : Tells S f i) {k : Nat} {b : Bool} (hb : f k = b) : Tells S (updI f k b) (i + 1) := by
  have e : updI f k b = f := by funext x; unfold updI; split; rename_i e; rw [e, hb]; rfl
  rw [e]; exact ⟨h.inv.mono (by omega), h.C, h.ready⟩
theorem Tells.set (h : Tells S f i) {k : Nat} {b : Bool} {R : St} (hI : Inv R i) (hC : R.C = S.C) (hr : ∀ j, Pk.ready R j = if j = k then !b else Pk.ready S j) : Tells R (updI f k b) (i + 1) := by
  refine ⟨hI.mono (by omega), by rw [hC]; exact h.C, fun j h1 h2 => ?_⟩
  rw [hr]
  unfold updI
  by_cases e : j = k
  · subst e; rw [if_pos rfl, if_pos rfl]
  · rw [if_neg e, if_neg (by omega)]; exact h.ready j h1 h2
theorem Tells.block (h : Tells S f i) {k : Nat} (h1 : 1 ≤ k) (h2 : k ≤ 9) : Tells (blockS S k) (updI f k true) (i + 1) ∧ blockE S k = if f k then 8 else 0 := by
  have hf := h.there h1 h2
  have hr := h.ready k h1 h2
  have eS : blockS S (k : Int) = if Pk.ready S k then slept S k else S := by unfold blockS; rw [if_neg hf]; rfl
  have eE : blockE S (k : Int) = if Pk.ready S k then 0 else 8 := by unfold blockE; rw [if_neg hf]; rfl
  cases e : f k with
  | true =>
    rw [e] at hr
    rw [eS, eE, hr]
    exact ⟨by simpa using h.same e, rfl⟩
  | false =>
    rw [e] at hr
    have hI := h.inv.block (k : Int)
    have hr : Pk.ready S k = true := by simpa using hr
    rw [eS, if_pos hr] at hI
    rw [eS, eE, if_pos hr]
    exact ⟨h.set hI (slept_C S k) (fun j => by simpa using h.inv.ready_slept (by omega) hr j), by rw [if_pos hr]; rfl⟩
theorem Tells.wake (h : Tells S f i) {k : Nat} (h1 : 1 ≤ k) (h2 : k ≤ 9) : Tells (wakeS S k) (updI f k false) (i + 1) ∧ wakeE S k = if f k then 0 else 8 := by
  have hf := h.there h1 h2
  have hr := h.ready k h1 h2
  have eS : wakeS S (k : Int) = if Pk.ready S k then S else woken S k := by unfold wakeS; rw [if_neg hf]; rfl
  have eE : wakeE S (k : Int) = if Pk.ready S k then 8 else 0 := by unfold wakeE; rw [if_neg hf]; rfl
  cases e : f k with
  | false =>
    rw [e] at hr
    rw [eS, eE, hr]
    exact ⟨by simpa using h.same e, rfl⟩
  | true =>
    rw [e] at hr
    have hI := h.inv.wake (k : Int)
    have hr : Pk.ready S k = false := by simpa using hr
    have hc : S.C k ≠ 0 := by rw [h.C k (by omega), if_pos ⟨h1, h2⟩]; unfold cl; omega
    rw [eS, if_neg (by simp [hr])] at hI
    rw [eS, eE, if_neg (by simp [hr])]
    exact ⟨h.set hI (woken_C S k) (fun j => by simpa using h.inv.ready_woken (by omega) hc j), by rw [if_neg (by simp [hr])]; rfl⟩
theorem Tells.tick (h : Tells S f i) : Tells (tickS S) f (i + 1) := ⟨h.inv.tick, by rw [tickS_C]; exact h.C, fun j h1 h2 => by rw [ready_tick S (by omega)]; exact h.ready j h1 h2⟩
/-- Who goes, and that nobody who is ready and not of the class of deadlines is of a greater class. -/
theorem Tells.best (h : Tells S f i) : ∃ m : Nat, best S = m ∧ m ≤ 9 ∧ (m ≠ 0 → f m = false) ∧ ∀ z, z < 6 → f ((z + 1 : Nat) : Int) = false → m ≠ 0 ∧ z / 3 ≤ (m - 1) / 3 := by
  obtain ⟨m, hm, hm16, hg⟩ := h.inv.goes
  obtain ⟨g1, g2⟩ := hg.of h.inv
  have key : m ≠ 0 → 1 ≤ m ∧ m ≤ 9 := fun h0 => by
    have := ready_there (g1 h0)
    rw [h.C m (by omega)] at this
    by_cases e : 1 ≤ m ∧ m ≤ 9
    · exact e
    · rw [if_neg e] at this; exact absurd rfl this
  refine ⟨m, hm, ?_, fun h0 => ?_, fun z hz hf => ?_⟩
  · by_cases h0 : m = 0
    · omega
    · exact (key h0).2
  · have := h.ready m (key h0).1 (key h0).2
    rw [g1 h0] at this
    simpa using this
  · have hr := h.ready (z + 1) (by omega) (by omega)
    rw [hf] at hr
    have hc : S.C (z + 1) = cl (z + 1) := by rw [h.C _ (by omega), if_pos (by omega)]
    obtain ⟨q1, q2⟩ := g2 (z + 1) (by omega) (by simpa using hr) (by rw [hc]; unfold cl; omega)
    rw [hc, h.C m (by omega), if_pos (key q1)] at q2
    unfold cl at q2
    exact ⟨q1, by omega⟩
end

/-- A scheduler and a map beside each other. -/
structure Cl (w0 w : World) (p : Nat) (V : Nat → Value) (S : St) (b c : Nat) (f : Int → Bool) : Prop where
  mine : Mine w0 w p V S
  off : OffAt w b c f
  new : w0.heap.size ≤ b
  apart : ¬ Pr.Foot p V b
section
variable {w0 w w' : World} {p b c : Nat} {V V' : Nat → Value} {S S' : St} {f f' : Int → Bool}
theorem Cl.did {g : Nat} {args : Array Value} {x : Value} (h : Cl w0 w p V S b c f) (k : Calls Try.prog g args w (Did p 64 V S' x w)) :
    Calls Try.prog g args w (fun e w' => e = .returned x ∧ ∃ V', Cl w0 w' p V' S' b c f) :=
  k.mono fun e w' ⟨h1, V', h2, hs⟩ => ⟨h1, V', h.mine.step h2 hs, h.off.keep hs.only h.apart, h.new, fun e => by
    rcases hs.grow b e with e | e
    · exact h.apart e
    · have := h.off.lt; omega⟩
theorem Cl.quiet (h : Cl w0 w p V S b c f) (hO : Only (fun _ => False) w w') : Cl w0 w' p V S b c f := ⟨h.mine.quiet hO, h.off.later hO, h.new, h.apart⟩
theorem Cl.put {c' : Nat} (h : Cl w0 w p V S b c f) (hF : OffAt w' b c' f') (hO : Only (· = b) w w') : Cl w0 w' p V S b c' f' :=
  ⟨h.mine.beside hO (fun k hk e => h.apart (e ▸ hk)) (fun k e => e ▸ h.new), hF, h.new, h.apart⟩
end

section
variable {w0 w : World} {p b c : Nat} {V : Nat → Value} {S : St} {f : Int → Bool} {k : Nat}
theorem cl_fair (h : Cl w0 w p V S b c f) (hM : Made S k) (hk : k < 3) :
    Calls Try.prog 8 #[.pointer (some ⟨p, 0, none⟩), .int .i64 ((k : Int) + 1), .int .i64 ((k : Int) + 1)] w (fun e w' => e = .returned (.int .i64 0) ∧ ∃ V', Cl w0 w' p V' (newFair S (k + 1) ((k : Int) + 1)) b c f) := by
  have hc := hM.free (by omega)
  exact h.did (fair_new h.mine.at_ (k + 1) (by omega) (by omega) ((k : Int) + 1) hc (by unfold isW; exact decide_eq_true (by omega)) (hM.inv.free_none (by omega) hc).1)
theorem cl_prio (h : Cl w0 w p V S b c f) (hM : Made S k) (h3 : 3 ≤ k) (hk : k < 6) :
    Calls Try.prog 9 #[.pointer (some ⟨p, 0, none⟩), .int .i64 ((k : Int) + 1), .int .i64 ((k : Int) + 1 - 4)] w (fun e w' => e = .returned (.int .i64 0) ∧ ∃ V', Cl w0 w' p V' (newPrio S (k + 1) (k - 3)) b c f) := by
  have hc := hM.free (by omega)
  have := prio_new h.mine.at_ hM.inv.uniq (k + 1) (by omega) (by omega) (k - 3) (by omega) hc (hM.inv.free_none (by omega) hc).2.2
  rw [show (((k - 3 : Nat) : Int)) = (k : Int) + 1 - 4 by omega] at this
  exact h.did this
theorem cl_dead (h : Cl w0 w p V S b c f) (hM : Made S k) (h3 : 6 ≤ k) (hk : k < 9) :
    Calls Try.prog 10 #[.pointer (some ⟨p, 0, none⟩), .int .i64 ((k : Int) + 1), .int .i64 1, .int .i64 4] w (fun e w' => e = .returned (.int .i64 0) ∧ ∃ V', Cl w0 w' p V' (newDead S (k + 1) 1 4) b c f) := by
  have hc := hM.free (by omega)
  have := hM.inv.nB
  exact h.did (dead_new h.mine.at_ (k + 1) (by omega) (by omega) 1 4 hc ⟨by omega, by omega, by omega, by omega, by omega, by omega⟩ (hM.inv.free_none (by omega) hc).2.1 hM.inv.n0 (by omega))
theorem cl_block (h : Cl w0 w p V S b c f) {i : Nat} (hT : Tells S f i) {r : Nat} (h2 : r < 9) {x : Bool} (hf : f (1 + (r : Int)) = x) :
    Calls Try.prog 12 #[.pointer (some ⟨p, 0, none⟩), .int .i64 (1 + (r : Int))] w (fun e w' => e = .returned (.int .i64 (if x then 8 else 0)) ∧ ∃ V' S', Cl w0 w' p V' S' b c f ∧ Tells S' (updI f (1 + (r : Int)) true) (i + 1)) := by
  obtain ⟨q1, q2⟩ := hT.block (k := r + 1) (by omega) (by omega)
  have e : (((r + 1 : Nat) : Int)) = 1 + (r : Int) := by omega
  have := block_any h.mine.at_ hT.inv ((r + 1 : Nat) : Int)
  rw [q2, e, hf] at this
  rw [e] at q1
  exact (h.did this).mono fun e w' ⟨h1, V', h2⟩ => ⟨h1, V', _, h2, q1⟩
theorem cl_wake (h : Cl w0 w p V S b c f) {i : Nat} (hi : i ≤ 1000) (hT : Tells S f i) {r : Nat} (h2 : r < 9) {x : Bool} (hf : f (1 + (r : Int)) = x) :
    Calls Try.prog 13 #[.pointer (some ⟨p, 0, none⟩), .int .i64 (1 + (r : Int))] w (fun e w' => e = .returned (.int .i64 (if x then 0 else 8)) ∧ ∃ V' S', Cl w0 w' p V' S' b c f ∧ Tells S' (updI f (1 + (r : Int)) false) (i + 1)) := by
  obtain ⟨q1, q2⟩ := hT.wake (k := r + 1) (by omega) (by omega)
  have e : (((r + 1 : Nat) : Int)) = 1 + (r : Int) := by omega
  have := wake_any h.mine.at_ hT.inv (by omega) ((r + 1 : Nat) : Int)
  rw [q2, e, hf] at this
  rw [e] at q1
  exact (h.did this).mono fun e w' ⟨h1, V', h2⟩ => ⟨h1, V', _, h2, q1⟩
theorem cl_tick (h : Cl w0 w p V S b c f) {i : Nat} (hi : i ≤ 1000) (hT : Tells S f i) {m : Nat} (hm : best S = m) :
    Calls Try.prog 14 #[.pointer (some ⟨p, 0, none⟩)] w (fun e w' => e = .returned (.int .i64 m) ∧ ∃ V' S', Cl w0 w' p V' S' b c f ∧ Tells S' f (i + 1) ∧ S'.now = m) := by
  have := tick_any h.mine.at_ hT.inv (by omega)
  rw [hm] at this
  exact (h.did this).mono fun e w' ⟨h1, V', h2⟩ => ⟨h1, V', _, h2, hT.tick, by rw [tickS_now, hm]⟩
theorem cl_now (h : Cl w0 w p V S b c f) {m : Nat} (hm : S.now = m) :
    Calls Try.prog 15 #[.pointer (some ⟨p, 0, none⟩)] w (fun e w' => e = .returned (.int .i64 m) ∧ w = w') := by
  have := now_any h.mine.at_
  rw [hm] at this
  exact this
end

/-- The first two numbers of a row. -/
theorem row_two {w : World} {v : Value} {xs : List Int} (h : NumRow w v xs) : ∃ a c, v = .slice a xs.length c ∧ xs.length ≤ c ∧ c ≤ 9223372036854775807 ∧ ∀ j, j < xs.length → ∃ ad, a = some ad ∧ ad.block < w.heap.size ∧ w.cell? (ad.add j) = some (.int .i64 (xs.getD j 0)) := by
  obtain ⟨a, c, rfl, h1, h2, h3, h4⟩ := h
  exact ⟨a, c, rfl, h1, by unfold maxLen at h2; omega, h3⟩

set_option maxRecDepth 100000 in
set_option maxHeartbeats 4000000 in
theorem classes_any (a2 : Option Addr) (len2 cap2 : Nat) (recs : List (List Int)) (w : World) (h2 : ArgRows w a2 len2 cap2 recs) :
    Calls Try.prog 3 #[.slice a2 len2 cap2] w fun e w' => e = .returned (.bool true) ∧ Below w.heap.size w w' := by
  have HA := Lib.hid h2
  obtain ⟨rfl, hc2, hm2, -⟩ := h2
  have hcap2 : cap2 ≤ 9223372036854775807 := by unfold maxLen at hm2; omega
  clear hm2
  obtain ⟨q, hq⟩ : ∃ q : Nat, min recs.length 200 = q := ⟨_, rfl⟩
  have qmin := run_min2 (recs.length : Int) 200 q (by omega)
  have hq1 : q ≤ 200 := by omega
  have hq2 : q ≤ recs.length := by omega
  have hmm := @run_makeMap Try.prog
  clear hq
  go_enter Try.func3, Try.ntmps3
  go_wp2_with (first
    | (go_at_call 6; (with_reducible refine (begun_any _).mono ?_); rintro e w1 ⟨rfl, hO⟩; have HO := Lib.hid hO; clear hO)
    | (go_at_call 7; (with_reducible refine (new_mine HO.out).mono ?_); rintro e w4 ⟨p, rfl, -, hM⟩; have HM := Lib.hid hM; clear hM))
  have HC0 : Hid (Cl w (w4.alloc (.map #[] 0)) p Pr.noV noS w4.heap.size 0 (fun _ => false)) := Lib.hid ⟨HM.out.quiet ((Only.refl _ w4).alloc _), OffAt.made w4, HM.out.only.size, fun e => by have := HM.out.at_.foot_lt e; omega⟩
  generalize w4.alloc (.map #[] 0) = w5 at *
  generalize w4.heap.size = b at *
  clear hmm
  go_loopw [5] (fun t wr => ∃ (k : Nat) (S : St) (V : Nat → Value), k ≤ 9 ∧ t = .int .i64 ((k : Int) + 1) ∧ Cl w wr p V S b 0 (fun _ => false) ∧ Made S k) (fun t _ => 10 - (intOf t).toNat)
  case atStart => exact ⟨0, _, _, by omega, rfl, HC0.out, made_none⟩
  case round =>
    obtain ⟨k, S, V, hk, rfl, hC, hM⟩ := hrel
    have HC1 := Lib.hid hC
    have HM1 := Lib.hid hM
    clear hC hM HM HC0
    by_cases hlt : k < 9
    · by_cases k3 : k < 3
      · have KF := Lib.hid (cl_fair HC1.out HM1.out k3)
        have HB := Lib.hid (HM1.out.fair k3)
        go_wp2_with (go_at_call 8; (with_reducible refine KF.out.mono ?_); rintro e w6 ⟨rfl, V6, hq⟩; have H6 := Lib.hid hq; clear hq)
        go_roundw
        case rel => exact ⟨k + 1, _, _, by omega, by go_num, H6.out, HB.out⟩
        case measure => simp [intOf]; omega
      · by_cases k6 : k < 6
        · have KF := Lib.hid (cl_prio HC1.out HM1.out (by omega) k6)
          have HB := Lib.hid (HM1.out.prio (by omega) k6)
          go_wp2_with (go_at_call 9; (with_reducible refine KF.out.mono ?_); rintro e w6 ⟨rfl, V6, hq⟩; have H6 := Lib.hid hq; clear hq)
          go_roundw
          case rel => exact ⟨k + 1, _, _, by omega, by go_num, H6.out, HB.out⟩
          case measure => simp [intOf]; omega
        · have KF := Lib.hid (cl_dead HC1.out HM1.out (by omega) hlt)
          have HB := Lib.hid (HM1.out.dead (by omega) hlt)
          go_wp2_with (go_at_call 10; (with_reducible refine KF.out.mono ?_); rintro e w6 ⟨rfl, V6, hq⟩; have H6 := Lib.hid hq; clear hq)
          go_roundw
          case rel => exact ⟨k + 1, _, _, by omega, by go_num, H6.out, HB.out⟩
          case measure => simp [intOf]; omega
    · have hk9 : k = 9 := by omega
      have HT := Lib.hid (show Made S 9 from hk9 ▸ HM1.out).tells
      have hk10 : ¬ (k : Int) + 1 ≤ 9 := by omega
      go_wp2_with fail
      clear HM1
      go_loopw [46] (fun i wr => ∃ (j : Nat) (S : St) (f : Int → Bool) (V : Nat → Value), j ≤ q ∧ i = .int .i64 j ∧ (∃ c, c ≤ j ∧ Cl w wr p V S b c f) ∧ Tells S f j) (fun i _ => q - (intOf i).toNat)
      case atStart => exact ⟨0, _, _, _, by omega, rfl, ⟨0, Nat.le_refl _, HC1.out⟩, HT.out⟩
      case round =>
        clear HC1 HT
        obtain ⟨j, S2, f, V2, hj, rfl, ⟨c, hcj, hC⟩, hT⟩ := hrel
        have HC2 := Lib.hid hC
        have HT2 := Lib.hid hT
        clear hC hT
        by_cases hlt2 : j < q
        · have g1 : (j : Int) < q := by omega
          have hbJ : Below w.heap.size w wr := HC2.out.mine.only.below (Nat.le_refl _) (fun _ e => e.elim)
          obtain ⟨b2, off2, v2, rfl, hb2, hcv, hrow⟩ : ∃ b off v, a2 = some ⟨b, off, none⟩ ∧ b < w.heap.size ∧ w.cell? ⟨b, off + j, none⟩ = some v ∧ NumRow w v (recs.getD j []) := by
            obtain ⟨-, -, -, -, h5⟩ := HA.out
            exact h5 j (by omega)
          have hcv := (hbJ.cell (p := ⟨b2, off2 + j, none⟩) hb2).trans hcv
          have hb2 := Nat.lt_of_lt_of_le hb2 hbJ.size
          clear hbJ
          obtain ⟨a4, c4, rfl, hc41, hc42, hcell⟩ := row_two hrow
          clear hrow
          generalize recs.getD j [] = xs at *
          have HC := Lib.hid hcell
          clear hcell
          have g2 : (0 : Int) ≤ j := by omega
          have g3 : (j : Int) < recs.length := by omega
          by_cases hx2 : xs.length < 2
          · have g4 : (xs.length : Int) < 2 := by omega
            go_wp2_with fail
            go_roundw
            case rel => exact ⟨j + 1, _, _, _, by omega, by go_num, ⟨c, by omega, HC2.out⟩, ⟨HT2.out.inv.mono (by omega), HT2.out.C, HT2.out.ready⟩⟩
            case measure => simp [intOf]; omega
          · have g4 : ¬ (xs.length : Int) < 2 := by omega
            obtain ⟨ad, rfl, hal, hc0⟩ : ∃ ad, a4 = some ad ∧ ad.block < wr.heap.size ∧ wr.cell? (ad.add 0) = some (.int .i64 (xs.getD 0 0)) := by
              have hb := HC2.out.mine.only.below (Nat.le_refl _) (fun _ e => e.elim)
              obtain ⟨ad, e, hl, hc⟩ := HC.out 0 (by omega)
              refine ⟨ad, e, Nat.lt_of_lt_of_le hl hb.size, ?_⟩
              have hlt := block_lt hc
              rw [hb.cell (p := ad.add 0) hlt]
              exact hc
            have hc1 : wr.cell? (ad.add 1) = some (.int .i64 (xs.getD 1 0)) := by
              have hb := HC2.out.mine.only.below (Nat.le_refl _) (fun _ e => e.elim)
              obtain ⟨ad', e, hl, hc⟩ := HC.out 1 (by omega)
              cases e
              have hlt := block_lt hc
              rw [hb.cell (p := ad.add 1) hlt]
              exact hc
            have hsp : ad.spot = none := by
              have := World.cell?_spot hc0
              simpa [Addr.add] using this
            obtain ⟨bx, ox, sp⟩ := ad
            simp only at hsp hal
            subst hsp
            rw [add_plain] at hc0 hc1
            rw [Nat.add_zero] at hc0
            generalize xs.getD 0 0 = x0 at *
            generalize xs.getD 1 0 = x1 at *
            have l0 : (0 : Int) < xs.length := by omega
            have l1 : (1 : Int) < xs.length := by omega
            have C9 := Lib.hid (fun k w => rest_some k 9 (by omega) (by omega) w)
            have C4 := Lib.hid (fun k w => rest_some k 4 (by omega) (by omega) w)
            have HJ : Hid (c < 1000) := Lib.hid (by omega)
            go_wp2_with (first
              | (go_at_call 11; (with_reducible refine (C9.out _ _).mono ?_); rintro e w' ⟨r1, rfl, hr1, rfl⟩)
              | (go_at_call 11; (with_reducible refine (C4.out _ _).mono ?_); rintro e w' ⟨r2, rfl, hr2, rfl⟩))
            · obtain ⟨x, hx⟩ : ∃ x, f (1 + (r1 : Int)) = x := ⟨_, rfl⟩
              have WT : Hid ((Lit.int .i64 (1 + (r1 : Int))).wf = true) := Lib.hid (i64_wf (by omega))
              have lk0 := (HC2.out.quiet (Only.refl _ wr).drew).off.look (1 + (r1 : Int)) WT.out
              rw [hx] at lk0
              have KB := Lib.hid (fun W (hW : Only (fun _ => False) wr W) => cl_block (HC2.out.quiet hW) HT2.out (by omega) hx)
              have HX := Lib.hid hx
              clear hx hc0 hc1 hal hcv hb2 l0 l1 C9 C4
              cases x <;> (
                simp only [Bool.false_eq_true, if_false, if_true] at KB
                go_region_with (go_at_call 12; (with_reducible refine (KB.out _ (Only.refl _ _).drew).mono ?_); rintro e w6 ⟨rfl, V6, S6, hq, hT6⟩; have H6 := Lib.hid hq; have HT6 := Lib.hid hT6; have lk := hq.off.look (1 + (r1 : Int)) WT.out; rw [HX.out] at lk; clear hq hT6)
                all_goals (
                  go_wp2_with (at_mapUpdate; refine wpList_off rfl _ _ _ rfl b c f rfl H6.out.off HJ.out (1 + (r1 : Int)) true rfl rfl WT.out ?_; intro w9 hM9 hO9; have H9 := Lib.hid (H6.out.put hM9 hO9); clear hM9 hO9)
                  go_roundw
                  case rel => exact ⟨j + 1, _, _, _, by omega, by go_num, ⟨c + 1, by omega, H9.out⟩, HT6.out⟩
                  case measure => simp [intOf]; omega))
            · obtain ⟨x, hx⟩ : ∃ x, f (1 + (r1 : Int)) = x := ⟨_, rfl⟩
              have WT : Hid ((Lit.int .i64 (1 + (r1 : Int))).wf = true) := Lib.hid (i64_wf (by omega))
              have lk0 := (HC2.out.quiet (Only.refl _ wr).drew).off.look (1 + (r1 : Int)) WT.out
              rw [hx] at lk0
              have KB := Lib.hid (fun W (hW : Only (fun _ => False) wr W) => cl_wake (HC2.out.quiet hW) (by omega) HT2.out (by omega) hx)
              have HX := Lib.hid hx
              clear hx hc0 hc1 hal hcv hb2 l0 l1 C9 C4
              cases x <;> (
                simp only [Bool.false_eq_true, if_false, if_true] at KB
                go_region_with (go_at_call 13; (with_reducible refine (KB.out _ (Only.refl _ _).drew).mono ?_); rintro e w6 ⟨rfl, V6, S6, hq, hT6⟩; have H6 := Lib.hid hq; have HT6 := Lib.hid hT6; have lk := hq.off.look (1 + (r1 : Int)) WT.out; rw [HX.out] at lk; clear hq hT6)
                all_goals (
                  go_wp2_with (at_mapUpdate; refine wpList_off rfl _ _ _ rfl b c f rfl H6.out.off HJ.out (1 + (r1 : Int)) false rfl rfl WT.out ?_; intro w9 hM9 hO9; have H9 := Lib.hid (H6.out.put hM9 hO9); clear hM9 hO9)
                  go_roundw
                  case rel => exact ⟨j + 1, _, _, _, by omega, by go_num, ⟨c + 1, by omega, H9.out⟩, HT6.out⟩
                  case measure => simp [intOf]; omega))
            · obtain ⟨m, hm, hm9, hf, hz⟩ := HT2.out.best
              have KT := Lib.hid (cl_tick HC2.out (by omega) HT2.out hm)
              have HZ := Lib.hid hz
              have m0 : ¬ (m : Int) < 0 := by omega
              have m9 : ¬ 9 < (m : Int) := by omega
              clear hm hz hc0 hc1 hal hcv hb2 l0 l1 C9 C4
              by_cases h0 : m = 0
              · have e1 : ¬ 0 < (m : Int) := by omega
                have e2 : ((m : Int) == 0) = true := by simp [h0]
                have e3 : ¬ 0 < m := by omega
                have H0 := Lib.hid h0
                clear hf h0
                go_wp2_with (first
                  | (go_at_call 14; (with_reducible refine KT.out.mono ?_); rintro e w6 ⟨rfl, V6, S6, hq, hT6, hn⟩; have H6 := Lib.hid hq; have HT6 := Lib.hid hT6; have KN := Lib.hid (cl_now hq hn); clear hq hT6 hn)
                  | (go_at_call 15; (with_reducible refine KN.out.mono ?_); rintro e w7 ⟨rfl, rfl⟩))
                go_loopw [11] (fun x wx => ∃ z : Nat, z ≤ 6 ∧ x = .int .i64 ((z : Int) + 1) ∧ Only (fun _ => False) w6 wx) (fun x _ => 8 - (intOf x).toNat)
                case atStart => exact ⟨0, by omega, rfl, Only.refl _ _⟩
                case round =>
                  obtain ⟨z, hz, rfl, hO⟩ := hrel
                  have HOZ := Lib.hid hO
                  clear hO
                  by_cases hz6 : z < 6
                  · obtain ⟨y, hy⟩ : ∃ y, f ((z : Int) + 1) = y := ⟨_, rfl⟩
                    have lk := (H6.out.quiet HOZ.out).off.look ((z : Int) + 1) (i64_wf (by omega))
                    rw [hy] at lk
                    cases y with
                    | true =>
                      clear hy
                      go_wp2_with fail
                      go_roundw
                      case rel => exact ⟨z + 1, by omega, by go_num, HOZ.out⟩
                      case measure => simp [intOf]; omega
                    | false => exact absurd H0.out (HZ.out z hz6 hy).1
                  · have hz7 : ¬ (z : Int) + 1 ≤ 6 := by omega
                    go_wp2_with fail
                    go_roundw
                    case rel => exact ⟨j + 1, _, _, _, by omega, by go_num, ⟨c, by omega, H6.out.quiet HOZ.out⟩, HT6.out⟩
                    case measure => simp [intOf]; omega
              · have hfm := hf h0
                have e1 : 0 < (m : Int) := by omega
                have e2 : ((m : Int) == 0) = false := by simp [h0]
                have e3 : 0 < m := by omega
                have HFM := Lib.hid hfm
                have WM : Hid ((Lit.int .i64 (m : Int)).wf = true) := Lib.hid (i64_wf (by omega))
                clear hf h0 hfm
                go_wp2_with (first
                  | (go_at_call 14; (with_reducible refine KT.out.mono ?_); rintro e w6 ⟨rfl, V6, S6, hq, hT6, hn⟩; have H6 := Lib.hid hq; have HT6 := Lib.hid hT6; have KN := Lib.hid (cl_now hq hn); have lkm := hq.off.look (m : Int) WM.out; rw [HFM.out] at lkm; clear hq hT6 hn)
                  | (go_at_call 15; (with_reducible refine KN.out.mono ?_); rintro e w7 ⟨rfl, rfl⟩))
                clear lkm
                go_loopw [11] (fun x wx => ∃ z : Nat, z ≤ 6 ∧ x = .int .i64 ((z : Int) + 1) ∧ Only (fun _ => False) w6 wx) (fun x _ => 8 - (intOf x).toNat)
                case atStart => exact ⟨0, by omega, rfl, Only.refl _ _⟩
                case round =>
                  obtain ⟨z, hz, rfl, hO⟩ := hrel
                  have HOZ := Lib.hid hO
                  clear hO
                  by_cases hz6 : z < 6
                  · obtain ⟨y, hy⟩ : ∃ y, f ((z : Int) + 1) = y := ⟨_, rfl⟩
                    have lk := (H6.out.quiet HOZ.out).off.look ((z : Int) + 1) (i64_wf (by omega))
                    rw [hy] at lk
                    cases y with
                    | true =>
                      clear hy
                      go_wp2_with fail
                      go_roundw
                      case rel => exact ⟨z + 1, by omega, by go_num, HOZ.out⟩
                      case measure => simp [intOf]; omega
                    | false =>
                      have hq := (HZ.out z hz6 hy).2
                      have e4 : ¬ ((m : Int) - 1) / 3 < (z : Int) / 3 := by omega
                      have e5 : ¬ ((m : Int) - 1) / 3 < ((z : Int) + 1 - 1) / 3 := by omega
                      have e6 : 0 ≤ (m : Int) - 1 := by omega
                      clear hy hq
                      go_wp2_with fail
                      go_roundw
                      case rel => exact ⟨z + 1, by omega, by go_num, HOZ.out⟩
                      case measure => simp [intOf]; omega
                  · have hz7 : ¬ (z : Int) + 1 ≤ 6 := by omega
                    go_wp2_with fail
                    go_roundw
                    case rel => exact ⟨j + 1, _, _, _, by omega, by go_num, ⟨c, by omega, H6.out.quiet HOZ.out⟩, HT6.out⟩
                    case measure => simp [intOf]; omega
        · obtain rfl : j = q := by omega
          go_wp2_with fail
          go_ret
          exact ⟨rfl, Only.below HC2.out.mine.only (Nat.le_refl _) (fun _ e => e.elim)⟩
end Go.Proofs.Ytpincdcebhmnhaa.Pk
