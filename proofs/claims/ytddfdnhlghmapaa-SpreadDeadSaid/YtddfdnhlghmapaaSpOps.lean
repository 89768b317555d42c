/- Contracts of package spread's Run: New, Pick, Ready, Leave, Block, Wake, Boost, Calm, Pin. -/
import Derived.Test.YtddfdnhlghmapaaSpOk
namespace Go.Proofs.Ytddfdnhlghmapaa.Sp
open Go.ChangeShapes Go.WideShapes Go.ChangeAt Go.RowKit Go.Maps
open Go.Proofs.Ytddfdnhlghmapaa.Vt
set_option linter.unusedVariables false

theorem there_nat {S : St} {t : Int} (h : There S t) : ∃ k : Nat, t = k ∧ 1 ≤ k ∧ k ≤ 16 ∧ (S.T k).c ≠ 0 := by
  obtain ⟨h1, h2, h3⟩ := h
  refine ⟨t.toNat, by omega, by omega, by omega, h3⟩
theorem nat_there {S : St} {k : Nat} (h1 : 1 ≤ k) (h2 : k ≤ 16) (h3 : (S.T k).c ≠ 0) : There S (k : Int) := ⟨by omega, by omega, by simpa using h3⟩

/-- What Pick answers. -/
def pickN (S : St) (c : Int) : Nat := if isCpu S c = true then S.on c.toNat else 0
def pickE (S : St) (c : Int) : Int := if isCpu S c = true then (if S.on c.toNat = 0 then 4 else 0) else 1
def readyB (S : St) (t : Int) : Bool := decide (There S t) && (S.T t.toNat).r
def readyE (S : St) (t : Int) : Int := if There S t then 0 else 4
def leaveE (S : St) (t : Int) : Int := if There S t then 0 else 4
def left (S : St) (k : Nat) : St := fill { off S k with T := upd (off S k).T k noTk }
def leaveS (S : St) (t : Int) : St := if There S t then left S t.toNat else S
def blockE (S : St) (t : Int) : Int := if There S t then (if (S.T t.toNat).r = true then 0 else 8) else 4
def slept (S : St) (k : Nat) : St := fill (off { S with T := upd S.T k { S.T k with r := false } } k)
def blockS (S : St) (t : Int) : St := if There S t ∧ (S.T t.toNat).r = true then slept S t.toNat else S
def wakeE (S : St) (t : Int) : Int := if There S t then (if (S.T t.toNat).r = true then 8 else 0) else 4
def woken (S : St) (k : Nat) : St := if (S.T k).c = 3 then start { S with T := upd S.T k (wokeR (S.T k) (now S)) } k else start S k
def wakeS (S : St) (t : Int) : St := if There S t ∧ (S.T t.toNat).r = false then woken S t.toNat else S
def boostE (S : St) (t c v : Int) : Int := if kindOk c v = true then (if There S t then 0 else 4) else 1
def boostS (S : St) (t c v : Int) : St := if kindOk c v = true ∧ There S t then fill { S with T := upd S.T t.toNat { S.T t.toNat with bc := c, bv := v } } else S
def calmE (S : St) (t : Int) : Int := if There S t then (if (S.T t.toNat).bc = 0 then 8 else 0) else 4
def calmed (S : St) (k : Nat) : St :=
  let S1 : St := { S with T := upd S.T k { S.T k with bc := 0, bv := 0 } }
  if (S.T k).ro = true then fill (off S1 k) else fill S1
def calmS (S : St) (t : Int) : St := if There S t ∧ (S.T t.toNat).bc ≠ 0 then calmed S t.toNat else S
def maskOk (S : St) (m : Int) : Bool := decide (1 ≤ m ∧ m ≤ (all S : Nat))
def pinE (S : St) (t m : Int) : Int := if maskOk S m = true then (if There S t then 0 else 4) else 1
def pinned (S : St) (k m : Nat) : St :=
  let S1 : St := { S with T := upd S.T k { S.T k with m := m } }
  match place S k with
  | some i => if m / 2 ^ i % 2 = 1 then fill S1 else fill (clr S1 i)
  | none => fill S1
def pinS (S : St) (t m : Int) : St := if maskOk S m = true ∧ There S t then pinned S t.toNat m.toNat else S
def noS (n : Nat) : St := ⟨n, fun _ => 0, fun _ => noTk, 0, 0⟩

section
variable {w w' : World} {p : Nat} {S : St} {B : Int}
/-- A whole task stored. -/
theorem RunAt.set_all (h : RunAt w p S) (t : Nat) (ht : t < 17) (x : Tk) : RunAt (((((((((((((w.setCell ⟨p, 5 + t * 13, none⟩ (.int .i64 x.c)).setCell ⟨p, 5 + t * 13 + 1, none⟩ (.int .i64 x.v)).setCell ⟨p, 5 + t * 13 + 2, none⟩ (.int .i64 x.bc)).setCell ⟨p, 5 + t * 13 + 3, none⟩ (.int .i64 x.bv)).setCell ⟨p, 5 + t * 13 + 4, none⟩ (.bool x.r)).setCell ⟨p, 5 + t * 13 + 5, none⟩ (.int .i64 (x.m : Nat))).setCell ⟨p, 5 + t * 13 + 6, none⟩ (.int .i64 x.s)).setCell ⟨p, 5 + t * 13 + 7, none⟩ (.int .i64 x.t)).setCell ⟨p, 5 + t * 13 + 8, none⟩ (.int .i64 x.rb)).setCell ⟨p, 5 + t * 13 + 9, none⟩ (.int .i64 x.rp)).setCell ⟨p, 5 + t * 13 + 10, none⟩ (.int .i64 x.rl)).setCell ⟨p, 5 + t * 13 + 11, none⟩ (.int .i64 x.rd)).setCell ⟨p, 5 + t * 13 + 12, none⟩ (.bool x.ro)) p { S with T := upd S.T t x } := by
  have := (((((((((((((h.set_c t ht x.c).set_v t ht x.v).set_bc t ht x.bc).set_bv t ht x.bv).set_r t ht x.r).set_m t ht x.m).set_s t ht x.s).set_t t ht x.t).set_rb t ht x.rb).set_rp t ht x.rp).set_rl t ht x.rl).set_rd t ht x.rd).set_ro t ht x.ro)
  simp only [upd_upd, upd_same] at this
  exact this
theorem only_all {w0 : World} (h : Only (fun k => k = p) w0 w) (t : Nat) (x : Tk) : Only (fun k => k = p) w0 (((((((((((((w.setCell ⟨p, 5 + t * 13, none⟩ (.int .i64 x.c)).setCell ⟨p, 5 + t * 13 + 1, none⟩ (.int .i64 x.v)).setCell ⟨p, 5 + t * 13 + 2, none⟩ (.int .i64 x.bc)).setCell ⟨p, 5 + t * 13 + 3, none⟩ (.int .i64 x.bv)).setCell ⟨p, 5 + t * 13 + 4, none⟩ (.bool x.r)).setCell ⟨p, 5 + t * 13 + 5, none⟩ (.int .i64 (x.m : Nat))).setCell ⟨p, 5 + t * 13 + 6, none⟩ (.int .i64 x.s)).setCell ⟨p, 5 + t * 13 + 7, none⟩ (.int .i64 x.t)).setCell ⟨p, 5 + t * 13 + 8, none⟩ (.int .i64 x.rb)).setCell ⟨p, 5 + t * 13 + 9, none⟩ (.int .i64 x.rp)).setCell ⟨p, 5 + t * 13 + 10, none⟩ (.int .i64 x.rl)).setCell ⟨p, 5 + t * 13 + 11, none⟩ (.int .i64 x.rd)).setCell ⟨p, 5 + t * 13 + 12, none⟩ (.bool x.ro)) :=
  only1 _ _ (only1 _ _ (only1 _ _ (only1 _ _ (only1 _ _ (only1 _ _ (only1 _ _ (only1 _ _ (only1 _ _ (only1 _ _ (only1 _ _ (only1 _ _ (only1 _ _ (h)))))))))))))
theorem pick_any (h : RunAt w p S) (n4 : S.n ≤ 4) (c : Int) :
    Calls Try.prog 29 #[.pointer (some ⟨p, 0, none⟩), .int .i64 c] w fun e w' => e = .returned (.tuple #[.int .i64 (pickN S c : Nat), .int .i64 (pickE S c)]) ∧ w = w' := by
  have hi := Lib.hid (isCpu_any h c)
  unfold pickN pickE
  by_cases hc : isCpu S c = true
  · rw [if_pos hc, if_pos hc]
    rw [hc] at hi
    have hcc := of_decide_eq_true hc
    obtain ⟨k, rfl⟩ : ∃ k : Nat, c = k := ⟨c.toNat, by omega⟩
    rw [Int.toNat_natCast]
    have co := h.on k (by omega)
    have k1 : (0 : Int) ≤ k := by omega
    have k2 : (k : Int) < 4 := by omega
    clear h hc hcc
    by_cases e : S.on k = 0
    · rw [if_pos e, e]
      rw [e] at co
      clear e
      go_enter Try.func29, Try.ntmps29
      go_wp2_with (go_at_call 72; (with_reducible refine hi.out.mono ?_); rintro e w' ⟨rfl, rfl⟩)
      go_ret2
      exact ⟨rfl, rfl⟩
    · rw [if_neg e]
      have e0 : (((S.on k : Nat) : Int) == 0) = false := by simp [e]
      clear e
      go_enter Try.func29, Try.ntmps29
      go_wp2_with (go_at_call 72; (with_reducible refine hi.out.mono ?_); rintro e w' ⟨rfl, rfl⟩)
      go_ret2
      exact ⟨rfl, rfl⟩
  · rw [if_neg hc, if_neg hc]
    rw [Bool.eq_false_iff.2 hc] at hi
    clear h hc
    go_enter Try.func29, Try.ntmps29
    go_wp2_with (go_at_call 72; (with_reducible refine hi.out.mono ?_); rintro e w' ⟨rfl, rfl⟩)
    go_ret2
    exact ⟨rfl, rfl⟩

theorem ready_any (h : RunAt w p S) (t : Int) :
    Calls Try.prog 101 #[.pointer (some ⟨p, 0, none⟩), .int .i64 t] w fun e w' => e = .returned (.tuple #[.bool (readyB S t), .int .i64 (readyE S t)]) ∧ w = w' := by
  unfold readyB readyE
  by_cases ht : There S t
  · rw [if_pos ht, decide_eq_true ht]
    obtain ⟨k, rfl, k1, k2, k3⟩ := there_nat ht
    rw [Int.toNat_natCast]
    have hi := Lib.hid (find_yes h k k1 k2 k3)
    have cr := h.qr k (by omega)
    clear h ht k3
    go_enter Try.func101, Try.ntmps101
    go_wp2_with (go_at_call 70; (with_reducible refine hi.out.mono ?_); rintro e w' ⟨rfl, rfl⟩)
    go_ret2
    exact ⟨by simp, rfl⟩
  · rw [if_neg ht, decide_eq_false ht]
    have hi := Lib.hid (find_no h t ht)
    clear h ht
    go_enter Try.func101, Try.ntmps101
    go_wp2_with (go_at_call 70; (with_reducible refine hi.out.mono ?_); rintro e w' ⟨rfl, rfl⟩)
    go_ret2
    exact ⟨rfl, rfl⟩

/-- A task is taken from where it runs, if it runs. -/
theorem clear_place (h : RunAt w p S) (hok : Ok S B) (hB : B ≤ 8000000000000) (k : Nat) :
    Calls Try.prog 82 #[.pointer (some ⟨p, 0, none⟩), .int .i64 (placeI S k)] w (Keep p (off S k) (.tuple #[]) w) := by
  have hg := hok.gB
  have hg0 := hok.g0
  unfold off
  cases hp : place S k with
  | none =>
    rw [placeI_none hp]
    exact clear_no h (-1) (by omega)
  | some i =>
    rw [placeI_some hp]
    have hi := place_is hp
    exact clear_any h i hi.1 (hok.on i hi.1) hg0 (by omega)

theorem leave_any (h : RunAt w p S) (hok : Ok S B) (hB : B ≤ 8000000000000) (t : Int) :
    Calls Try.prog 33 #[.pointer (some ⟨p, 0, none⟩), .int .i64 t] w (Keep p (leaveS S t) (.int .i64 (leaveE S t)) w) := by
  have H := Lib.hid h
  unfold leaveS leaveE
  by_cases ht : There S t
  · rw [if_pos ht, if_pos ht]
    obtain ⟨k, rfl, k1, k2, k3⟩ := there_nat ht
    rw [Int.toNat_natCast]
    have hi := Lib.hid (find_yes h k k1 k2 k3)
    have hp := Lib.hid (place_any h k)
    have hc := Lib.hid (clear_place h hok hB k)
    have hf := Lib.hid (fun W (h : RunAt W p { off S k with T := upd (off S k).T k noTk }) => fills h ((hok.off k).set k1 (noTk_ok (by have := hok.B0; omega) (hok.off k).k0)).fine)
    unfold left
    generalize off S k = S1 at *
    clear h ht k3
    go_enter Try.func33, Try.ntmps33
    go_upto_region 5 with (first
      | (go_at_call 70; (with_reducible refine hi.out.mono ?_); rintro e w' ⟨rfl, rfl⟩)
      | (go_at_call 83; (with_reducible refine hp.out.mono ?_); rintro e w' ⟨rfl, rfl⟩)
      | (go_at_call 82; (with_reducible refine hc.out.mono ?_); rintro e w1 ⟨rfl, hR, hO⟩; have H1 := Lib.hid hR; have O1 := Lib.hid hO; clear hR hO))
    have fz := H1.out.frozen
    have qc := H1.out.qc k (by omega); have qv := H1.out.qv k (by omega); have qbc := H1.out.qbc k (by omega); have qbv := H1.out.qbv k (by omega); have qr := H1.out.qr k (by omega); have qm := H1.out.qm k (by omega); have qs := H1.out.qs k (by omega); have qt := H1.out.qt k (by omega); have qrb := H1.out.qrb k (by omega); have qrp := H1.out.qrp k (by omega); have qrl := H1.out.qrl k (by omega); have qrd := H1.out.qrd k (by omega); have qro := H1.out.qro k (by omega)
    go_upto_region 6 with fail
    clear qc qv qbc qbv qr qm qs qt qrb qrp qrl qrd qro
    go_wp2_with (go_at_call 84; (with_reducible refine (hf.out _ ?_).mono ?_); exact H1.out.set_all k (by omega) noTk; rintro e w2 ⟨rfl, hR, hO⟩; have H2 := Lib.hid hR; have O2 := Lib.hid (only_pp (only_all O1.out k noTk) hO); clear hR hO)
    go_ret
    exact ⟨rfl, H2.out, O2.out⟩
  · rw [if_neg ht, if_neg ht]
    have hi := Lib.hid (find_no h t ht)
    clear h ht
    go_enter Try.func33, Try.ntmps33
    go_wp2_with (go_at_call 70; (with_reducible refine hi.out.mono ?_); rintro e w' ⟨rfl, rfl⟩)
    go_ret
    exact ⟨rfl, H.out, Only.refl _ _⟩

theorem block_any (h : RunAt w p S) (hok : Ok S B) (hB : B ≤ 8000000000000) (t : Int) :
    Calls Try.prog 35 #[.pointer (some ⟨p, 0, none⟩), .int .i64 t] w (Keep p (blockS S t) (.int .i64 (blockE S t)) w) := by
  have H := Lib.hid h
  unfold blockS blockE
  by_cases ht : There S t
  · obtain ⟨k, rfl, k1, k2, k3⟩ := there_nat ht
    rw [Int.toNat_natCast]
    have hi := Lib.hid (find_yes h k k1 k2 k3)
    have cr := h.qr k (by omega)
    have fz := h.frozen
    cases hr : (S.T k).r with
    | false =>
      rw [if_neg (fun q => by simp at q), if_pos ht, if_neg (by simp)]
      rw [hr] at cr
      clear h ht k3 hr
      go_enter Try.func35, Try.ntmps35
      go_wp2_with (go_at_call 70; (with_reducible refine hi.out.mono ?_); rintro e w' ⟨rfl, rfl⟩)
      go_ret
      exact ⟨rfl, H.out, Only.refl _ _⟩
    | true =>
      rw [if_pos ⟨ht, rfl⟩, if_pos ht, if_pos rfl]
      rw [hr] at cr
      unfold slept
      have ok1 : Ok { S with T := upd S.T k { S.T k with r := false } } B := hok.set k1 (by
        obtain ⟨a1, a2, a3, a4, a5, a6, a7, a8, a9, a10, a11, a12, a13, a14, a15, a16, a17⟩ := hok.tk k (by omega)
        exact ⟨a1, a2, a3, a4, a5, a6, a7, a8, a9, a10, a11, a12, a13, a14, a15, a16, a17⟩)
      have H1 := Lib.hid (h.set_r k (by omega) false)
      have hp := Lib.hid (fun W (h : RunAt W p { S with T := upd S.T k { S.T k with r := false } }) => place_any h k)
      have hc := Lib.hid (fun W (h : RunAt W p { S with T := upd S.T k { S.T k with r := false } }) => clear_place h ok1 hB k)
      have hf := Lib.hid (fun W (h : RunAt W p (off { S with T := upd S.T k { S.T k with r := false } } k)) => fills h (ok1.off k).fine)
      generalize St.mk S.n S.on (upd S.T k _) S.k S.g = S1 at *
      clear h ht k3 hr hok ok1
      go_enter Try.func35, Try.ntmps35
      go_wp2_with (first
        | (go_at_call 70; (with_reducible refine hi.out.mono ?_); rintro e w' ⟨rfl, rfl⟩)
        | (go_at_call 83; (with_reducible refine (hp.out _ H1.out).mono ?_); rintro e w' ⟨rfl, rfl⟩)
        | (go_at_call 82; (with_reducible refine (hc.out _ H1.out).mono ?_); rintro e w1 ⟨rfl, hR, hO⟩; have H2 := Lib.hid hR; have O2 := Lib.hid (only_pp (only1 (p := p) _ _ (Only.refl _ _)) hO); clear hR hO)
        | (go_at_call 84; (with_reducible refine (hf.out _ H2.out).mono ?_); rintro e w2 ⟨rfl, hR, hO⟩; have H3 := Lib.hid hR; have O3 := Lib.hid (only_pp O2.out hO); clear hR hO))
      go_ret
      exact ⟨rfl, H3.out, O3.out⟩
  · rw [if_neg (fun q => ht q.1), if_neg ht]
    have hi := Lib.hid (find_no h t ht)
    clear h ht
    go_enter Try.func35, Try.ntmps35
    go_wp2_with (go_at_call 70; (with_reducible refine hi.out.mono ?_); rintro e w' ⟨rfl, rfl⟩)
    go_ret
    exact ⟨rfl, H.out, Only.refl _ _⟩

theorem wake_any (h : RunAt w p S) (hok : Ok S B) (hB : B ≤ 8000000000000) (t : Int) :
    Calls Try.prog 37 #[.pointer (some ⟨p, 0, none⟩), .int .i64 t] w (Keep p (wakeS S t) (.int .i64 (wakeE S t)) w) := by
  have H := Lib.hid h
  unfold wakeS wakeE
  by_cases ht : There S t
  · obtain ⟨k, rfl, k1, k2, k3⟩ := there_nat ht
    rw [Int.toNat_natCast]
    have hi := Lib.hid (find_yes h k k1 k2 k3)
    have cr := h.qr k (by omega)
    cases hr : (S.T k).r with
    | true =>
      rw [if_neg (fun q => by simp at q), if_pos ht, if_pos rfl]
      rw [hr] at cr
      clear h ht k3 hr
      go_enter Try.func37, Try.ntmps37
      go_wp2_with (go_at_call 70; (with_reducible refine hi.out.mono ?_); rintro e w' ⟨rfl, rfl⟩)
      go_ret
      exact ⟨rfl, H.out, Only.refl _ _⟩
    | false =>
      rw [if_pos ⟨ht, rfl⟩, if_pos ht, if_neg (by simp)]
      rw [hr] at cr
      have cc := h.qc k (by omega)
      have hk0 := hok.k0
      have hkB := hok.kB
      have hg0 := hok.g0
      have hgB := hok.gB
      have hn := now_bd hok
      unfold woken
      by_cases h3 : (S.T k).c = 3
      · rw [if_pos h3]
        rw [h3] at cc
        have hnow := Lib.hid (fun W (h : RunAt W p S) => now_any h hok.fine hk0 (by omega))
        have hw := Lib.hid (fun W (h : RunAt W p S) => Sp.wakeR_any h k (by omega) (now S) hn.1 (by omega) ((hok.tk k (by omega)).rsv (by omega)))
        have hs := Lib.hid (fun W (h : RunAt W p { S with T := upd S.T k (wokeR (S.T k) (now S)) }) => start_any h (hok.set k1 (wokeR_ok (hok.tk k (by omega)) hn.1 hn.2)).fine k (by omega) hg0 (show S.g ≤ _ by omega))
        generalize now S = n at *
        clear h ht k3 hr h3
        go_enter Try.func37, Try.ntmps37
        go_upto_region 7 with (go_at_call 70; (with_reducible refine hi.out.mono ?_); rintro e w' ⟨rfl, rfl⟩)
        go_region_with (first
          | (go_at_call 79; (with_reducible refine (hnow.out _ (H.out.later (Only.refl _ _).drew)).mono ?_); rintro e w1 ⟨rfl, hO⟩; have H1 := Lib.hid ((H.out.later (Only.refl (fun _ => False) _).drew).later hO); have O1 := Lib.hid (only_pp (p := p) (only_p (Only.refl _ w).drew) (only_p hO)); clear hO)
          | (go_at_call 88; (with_reducible refine (hw.out _ H1.out).mono ?_); rintro e w2 ⟨rfl, hR, hO⟩; have H2 := Lib.hid hR; have O2 := Lib.hid (only_pp O1.out hO); clear hR hO))
        all_goals (
          go_wp2_with (go_at_call 89; (with_reducible refine (hs.out _ H2.out).mono ?_); rintro e w3 ⟨rfl, hR, hO⟩; have H3 := Lib.hid hR; have O3 := Lib.hid (only_pp O2.out hO); clear hR hO)
          go_ret
          exact ⟨rfl, H3.out, O3.out⟩)
      · rw [if_neg h3]
        have c3 : ((S.T k).c == 3) = false := by simp [h3]
        have hs := Lib.hid (fun W (h : RunAt W p S) => start_any h hok.fine k (by omega) hg0 (show S.g ≤ _ by omega))
        clear h ht k3 hr h3
        go_enter Try.func37, Try.ntmps37
        go_wp2_with (first
          | (go_at_call 70; (with_reducible refine hi.out.mono ?_); rintro e w' ⟨rfl, rfl⟩)
          | (go_at_call 89; (with_reducible refine (hs.out _ H.out).mono ?_); rintro e w3 ⟨rfl, hR, hO⟩; have H3 := Lib.hid hR; have O3 := Lib.hid hO; clear hR hO))
        go_ret
        exact ⟨rfl, H3.out, O3.out⟩
  · rw [if_neg (fun q => ht q.1), if_neg ht]
    have hi := Lib.hid (find_no h t ht)
    clear h ht
    go_enter Try.func37, Try.ntmps37
    go_wp2_with (go_at_call 70; (with_reducible refine hi.out.mono ?_); rintro e w' ⟨rfl, rfl⟩)
    go_ret
    exact ⟨rfl, H.out, Only.refl _ _⟩

theorem TkOk.boost {x : Tk} {k : Int} (h : TkOk x B k) (c v : Int) (hv : -1000 ≤ v ∧ v ≤ 1000) : TkOk { x with bc := c, bv := v } B k := by
  obtain ⟨a1, a2, a3, a4, a5, a6, a7, a8, a9, a10, a11, a12, a13, a14, a15, a16, a17⟩ := h
  exact ⟨a1, a2, hv, a4, a5, a6, a7, a8, a9, a10, a11, a12, a13, a14, a15, a16, a17⟩
theorem kind_bd {c v : Int} (h : kindOk c v = true) : -1000 ≤ v ∧ v ≤ 1000 := by have := of_decide_eq_true h; omega

theorem boost_any (h : RunAt w p S) (hok : Ok S B) (t c v : Int) :
    Calls Try.prog 43 #[.pointer (some ⟨p, 0, none⟩), .int .i64 t, .int .i64 c, .int .i64 v] w (Keep p (boostS S t c v) (.int .i64 (boostE S t c v)) w) := by
  have H := Lib.hid h
  have hk := Lib.hid (isKind_any c v w)
  unfold boostS boostE
  by_cases hv : kindOk c v = true
  · rw [hv] at hk
    by_cases ht : There S t
    · rw [if_pos ⟨hv, ht⟩, if_pos hv, if_pos ht]
      obtain ⟨k, rfl, k1, k2, k3⟩ := there_nat ht
      rw [Int.toNat_natCast]
      have hi := Lib.hid (find_yes h k k1 k2 k3)
      have ok1 := hok.set k1 ((hok.tk k (by omega)).boost c v (kind_bd hv))
      have hf := Lib.hid (fun W (h : RunAt W p { S with T := upd S.T k { S.T k with bc := c, bv := v } }) => fills h ok1.fine)
      have H1 : Hid (RunAt ((w.setCell ⟨p, 5 + k * 13 + 2, none⟩ (.int .i64 c)).setCell ⟨p, 5 + k * 13 + 3, none⟩ (.int .i64 v)) p { S with T := upd S.T k { S.T k with bc := c, bv := v } }) := Lib.hid (by
        have := (h.set_bc k (by omega) c).set_bv k (by omega) v
        simp only [upd_upd, upd_same] at this
        exact this)
      have qbc := h.qbc k (by omega)
      have qbv := h.qbv k (by omega)
      have fz := h.frozen
      generalize St.mk S.n S.on (upd S.T k _) S.k S.g = S1 at *
      clear h ht k3 hv hok ok1
      go_enter Try.func43, Try.ntmps43
      go_wp2_with (first
        | (go_at_call 69; (with_reducible refine hk.out.mono ?_); rintro e w' ⟨rfl, rfl⟩)
        | (go_at_call 70; (with_reducible refine hi.out.mono ?_); rintro e w' ⟨rfl, rfl⟩)
        | (go_at_call 84; (with_reducible refine (hf.out _ ?_).mono ?_); exact H1.out; rintro e w2 ⟨rfl, hR, hO⟩; have H3 := Lib.hid hR; have O3 := Lib.hid (only_pp (only1 (p := p) _ _ (only1 _ _ (Only.refl _ _))) hO); clear hR hO))
      go_ret
      exact ⟨rfl, H3.out, O3.out⟩
    · rw [if_neg (fun q => ht q.2), if_pos hv, if_neg ht]
      have hi := Lib.hid (find_no h t ht)
      clear h ht hv hok
      go_enter Try.func43, Try.ntmps43
      go_wp2_with (first
        | (go_at_call 69; (with_reducible refine hk.out.mono ?_); rintro e w' ⟨rfl, rfl⟩)
        | (go_at_call 70; (with_reducible refine hi.out.mono ?_); rintro e w' ⟨rfl, rfl⟩))
      go_ret
      exact ⟨rfl, H.out, Only.refl _ _⟩
  · rw [if_neg (fun q => hv q.1), if_neg hv]
    rw [Bool.eq_false_iff.2 hv] at hk
    clear h hv hok
    go_enter Try.func43, Try.ntmps43
    go_wp2_with (go_at_call 69; (with_reducible refine hk.out.mono ?_); rintro e w' ⟨rfl, rfl⟩)
    go_ret
    exact ⟨rfl, H.out, Only.refl _ _⟩
end
end Go.Proofs.Ytddfdnhlghmapaa.Sp
