/- Contracts of package spread's Run: enter, Add, New. -/
import Derived.Test.YtddfdnhlghmapaaSpOps2
namespace Go.Proofs.Ytddfdnhlghmapaa.Sp
open Go.ChangeShapes Go.WideShapes Go.ChangeAt Go.RowKit Go.Maps
open Go.Proofs.Ytddfdnhlghmapaa.Vt
set_option linter.unusedVariables false

/-- A task as a value. -/
abbrev tkv (x : Tk) : Value := .agg #[.int .i64 x.c, .int .i64 x.v, .int .i64 x.bc, .int .i64 x.bv, .bool x.r, .int .i64 (x.m : Nat), .int .i64 x.s, .int .i64 x.t, .int .i64 x.rb, .int .i64 x.rp, .int .i64 x.rl, .int .i64 x.rd, .bool x.ro]

section
variable {w w' : World} {p : Nat} {S : St} {B : Int}
theorem Ok.entered (h : Ok S B) {k : Nat} (h1 : 1 ≤ k) {x : Tk} (hx : TkOk x B S.k) : Ok { S with T := upd S.T k { x with m := all S } } B :=
  h.set h1 (by
    obtain ⟨a1, a2, a3, a4, a5, a6, a7, a8, a9, a10, a11, a12, a13, a14, a15, a16, a17⟩ := hx
    exact ⟨all_bd S h.fine, a2, a3, a4, a5, a6, a7, a8, a9, a10, a11, a12, a13, a14, a15, a16, a17⟩)
theorem enter_any (h : RunAt w p S) (hok : Ok S B) (hB : B ≤ 8000000000000) (k : Nat) (k1 : 1 ≤ k) (k2 : k ≤ 16) (x : Tk) (hx : TkOk x B S.k) :
    Calls Try.prog 71 #[.pointer (some ⟨p, 0, none⟩), .int .i64 k, tkv x] w (Keep p (enter S k x) (.tuple #[]) w) := by
  have H := Lib.hid h
  have ha := Lib.hid (fun W (h : RunAt W p S) => all_any h hok.fine)
  have hgB := hok.gB
  have hs := Lib.hid (fun W (h : RunAt W p { S with T := upd S.T k { x with m := all S } }) => start_any h (hok.entered k1 hx).fine k (by omega) hok.g0 (show S.g ≤ _ by omega))
  have HS := Lib.hid (fun W (h : RunAt W p S) => h.set_all k (by omega) { x with m := all S })
  have qc := h.qc k (by omega); have qv := h.qv k (by omega); have qbc := h.qbc k (by omega); have qbv := h.qbv k (by omega); have qr := h.qr k (by omega); have qm := h.qm k (by omega); have qs := h.qs k (by omega); have qt := h.qt k (by omega); have qrb := h.qrb k (by omega); have qrp := h.qrp k (by omega); have qrl := h.qrl k (by omega); have qrd := h.qrd k (by omega); have qro := h.qro k (by omega)
  have fz := h.frozen
  have hlt := h.lt
  have g1 : (k : Int) < 17 := by omega
  have g2 : (0 : Int) ≤ k := by omega
  unfold enter
  generalize all S = a at *
  clear h hok hx
  go_enter Try.func71, Try.ntmps71
  go_wp2_with (go_at_call 98; (with_reducible refine (ha.out _ (H.out.later ((Only.refl (fun _ => False) w).alloc _))).mono ?_); rintro e w' ⟨rfl, rfl⟩)
  go_region
  go_wp2_with (go_at_call 89; (with_reducible refine (hs.out _ ?_).mono ?_); exact (HS.out _ H.out).later (((Only.refl (fun _ => False) _).alloc _).drew); rintro e w2 ⟨rfl, hR, hO⟩; have H3 := Lib.hid hR; have O3 := Lib.hid (only_pp (only_pp (only_all (Only.refl (fun k => k = p) w) k { x with m := a }) (only_p (((Only.refl (fun _ => False) _).alloc _).drew))) hO); clear hR hO)
  go_end0
  exact ⟨rfl, H3.out, O3.out⟩

def addE (S : St) (t c v : Int) : Int := if isNo t = true ∧ kindOk c v = true then (if There S t then 5 else 0) else 1
def newTk (c v : Int) : Tk := ⟨c, v, 0, 0, false, 0, 0, 0, 0, 0, 0, 0, false⟩
def addS (S : St) (t c v : Int) : St := if isNo t = true ∧ kindOk c v = true ∧ ¬ There S t then enter S t.toNat (newTk c v) else S
theorem newTk_ok (h : Ok S B) {c v : Int} (hk : kindOk c v = true) : TkOk (newTk c v) B S.k := by
  have hb := kind_bd hk
  have hB := h.B0
  have hk0 := h.k0
  have hd := of_decide_eq_true hk
  exact ⟨by show 0 < 16; omega, hb, by show -1000 ≤ (0 : Int) ∧ (0 : Int) ≤ 1000; omega, by show (0 : Int) ≤ 0; omega, by show (0 : Int) ≤ B * 1048576; omega, fun e => decide_eq_true (by have e2 : c = 1 := e; show 1 ≤ v ∧ v ≤ 100; omega), ⟨by show c = 0 ∨ c = 1 ∨ c = 2 ∨ c = 3; omega, fun e => absurd (show false = true from e) (by decide)⟩, by show (0 : Int) ≤ 0; omega, by show (0 : Int) ≤ 30; omega, by show (0 : Int) ≤ 0; omega, by show (0 : Int) ≤ 30; omega, by show (0 : Int) ≤ 0; omega, by show (0 : Int) ≤ 30; omega,
    fun _ e => by have e2 : c = 3 := e; omega, by show (0 : Int) ≤ 0; omega, by show (0 : Int) ≤ S.k + 30; omega, fun _ e => by have e2 : c = 3 := e; omega⟩
theorem Ok.add (h : Ok S B) (t c v : Int) : Ok (addS S t c v) (B + 1) := by
  unfold addS; split
  · next e =>
    have h12 := of_decide_eq_true e.1
    exact (h.entered (by omega) (newTk_ok h e.2.1)).start (by omega) (by omega)
  · exact h.mono (by omega)

theorem add_any (h : RunAt w p S) (hok : Ok S B) (hB : B ≤ 8000000000000) (t c v : Int) :
    Calls Try.prog 28 #[.pointer (some ⟨p, 0, none⟩), .int .i64 t, .int .i64 c, .int .i64 v] w (Keep p (addS S t c v) (.int .i64 (addE S t c v)) w) := by
  have H := Lib.hid h
  have hi := Lib.hid (isTask_any t w)
  have hk := Lib.hid (isKind_any c v w)
  unfold addS addE
  by_cases ht : isNo t = true
  · rw [ht] at hi
    by_cases hv : kindOk c v = true
    · rw [hv] at hk
      by_cases he : There S t
      · rw [if_neg (fun q => q.2.2 he), if_pos ⟨ht, hv⟩, if_pos he]
        obtain ⟨k, rfl, k1, k2, k3⟩ := there_nat he
        have hf := Lib.hid (find_yes h k k1 k2 k3)
        clear h hok ht hv he k3
        go_enter Try.func28, Try.ntmps28
        go_wp2_with (first
          | (go_at_call 68; (with_reducible refine hi.out.mono ?_); rintro e w' ⟨rfl, rfl⟩)
          | (go_at_call 69; (with_reducible refine hk.out.mono ?_); rintro e w' ⟨rfl, rfl⟩)
          | (go_at_call 70; (with_reducible refine hf.out.mono ?_); rintro e w' ⟨rfl, rfl⟩))
        go_ret
        exact ⟨rfl, H.out, Only.refl _ _⟩
      · rw [if_pos ⟨ht, hv, he⟩, if_pos ⟨ht, hv⟩, if_neg he]
        have hf := Lib.hid (find_no h t he)
        have h12 := of_decide_eq_true ht
        obtain ⟨k, rfl⟩ : ∃ k : Nat, t = k := ⟨t.toNat, by omega⟩
        rw [Int.toNat_natCast]
        have hn := Lib.hid (enter_any h hok hB k (by omega) (by omega) (newTk c v) (newTk_ok hok hv))
        clear h hok ht hv he h12
        go_enter Try.func28, Try.ntmps28
        go_wp2_with (first
          | (go_at_call 68; (with_reducible refine hi.out.mono ?_); rintro e w' ⟨rfl, rfl⟩)
          | (go_at_call 69; (with_reducible refine hk.out.mono ?_); rintro e w' ⟨rfl, rfl⟩)
          | (go_at_call 70; (with_reducible refine hf.out.mono ?_); rintro e w' ⟨rfl, rfl⟩)
          | (go_at_call 71; (refine Calls.mono hn.out ?_); rintro e w2 ⟨rfl, hR, hO⟩; have H2 := Lib.hid hR; have O2 := Lib.hid hO; clear hR hO))
        go_ret
        exact ⟨rfl, H2.out, O2.out⟩
    · rw [if_neg (fun q => hv q.2.1), if_neg (fun q => hv q.2)]
      rw [Bool.eq_false_iff.2 hv] at hk
      clear h hok ht hv
      go_enter Try.func28, Try.ntmps28
      go_wp2_with (first
        | (go_at_call 68; (with_reducible refine hi.out.mono ?_); rintro e w' ⟨rfl, rfl⟩)
        | (go_at_call 69; (with_reducible refine hk.out.mono ?_); rintro e w' ⟨rfl, rfl⟩))
      go_ret
      exact ⟨rfl, H.out, Only.refl _ _⟩
  · rw [if_neg (fun q => ht q.1), if_neg (fun q => ht q.1)]
    rw [Bool.eq_false_iff.2 ht] at hi
    clear h hok ht
    go_enter Try.func28, Try.ntmps28
    go_wp2_with (go_at_call 68; (with_reducible refine hi.out.mono ?_); rintro e w' ⟨rfl, rfl⟩)
    go_ret
    exact ⟨rfl, H.out, Only.refl _ _⟩

theorem new_bad (c : Int) (hc : c < 1 ∨ 4 < c) (w : World) : Calls Try.prog 27 #[.int .i64 c] w fun e w' => e = .returned (.tuple #[.pointer none, .int .i64 1]) ∧ w = w' := by
  by_cases h1 : c < 1
  · clear hc
    go_enter Try.func27, Try.ntmps27
    go_wp2
    go_ret2
    exact ⟨rfl, rfl⟩
  · have h4 : 4 < c := by omega
    clear hc
    go_enter Try.func27, Try.ntmps27
    go_wp2
    go_ret2
    exact ⟨rfl, rfl⟩
theorem ok_no {n : Nat} (h1 : 1 ≤ n) (h4 : n ≤ 4) : Ok (noS n) 0 :=
  ⟨h1, h4, fun _ _ => Nat.zero_le _, by show (0 : Int) ≤ 0; omega, by show (0 : Int) ≤ 0; omega, by show (0 : Int) ≤ 0; omega, by show (0 : Int) ≤ 0; omega, fun _ _ => noTk_ok (by omega) (by show (0 : Int) ≤ 0; omega), rfl⟩
theorem lt17 {P : Nat → Prop} (h : P 0 ∧ P 1 ∧ P 2 ∧ P 3 ∧ P 4 ∧ P 5 ∧ P 6 ∧ P 7 ∧ P 8 ∧ P 9 ∧ P 10 ∧ P 11 ∧ P 12 ∧ P 13 ∧ P 14 ∧ P 15 ∧ P 16) (t : Nat) (ht : t < 17) : P t := by
  obtain ⟨h0, h1, h2, h3, h4, h5, h6, h7, h8, h9, h10, h11, h12, h13, h14, h15, h16⟩ := h
  rcases (show t = 0 ∨ t = 1 ∨ t = 2 ∨ t = 3 ∨ t = 4 ∨ t = 5 ∨ t = 6 ∨ t = 7 ∨ t = 8 ∨ t = 9 ∨ t = 10 ∨ t = 11 ∨ t = 12 ∨ t = 13 ∨ t = 14 ∨ t = 15 ∨ t = 16 by omega) with rfl | rfl | rfl | rfl | rfl | rfl | rfl | rfl | rfl | rfl | rfl | rfl | rfl | rfl | rfl | rfl | rfl <;> assumption
theorem lt4 {P : Nat → Prop} (h : P 0 ∧ P 1 ∧ P 2 ∧ P 3) (t : Nat) (ht : t < 4) : P t := by
  obtain ⟨h0, h1, h2, h3⟩ := h
  rcases (show t = 0 ∨ t = 1 ∨ t = 2 ∨ t = 3 by omega) with rfl | rfl | rfl | rfl <;> assumption
theorem zero_cells : Cells Try.zeroCells99 (noS 0) :=
  ⟨Nat.le_of_ble_eq_true (by kernel_rfl), by kernel_rfl, lt4 (by repeat' (first | apply And.intro | kernel_rfl)), lt17 (by repeat' (first | apply And.intro | kernel_rfl)), lt17 (by repeat' (first | apply And.intro | kernel_rfl)), lt17 (by repeat' (first | apply And.intro | kernel_rfl)), lt17 (by repeat' (first | apply And.intro | kernel_rfl)), lt17 (by repeat' (first | apply And.intro | kernel_rfl)), lt17 (by repeat' (first | apply And.intro | kernel_rfl)), lt17 (by repeat' (first | apply And.intro | kernel_rfl)), lt17 (by repeat' (first | apply And.intro | kernel_rfl)), lt17 (by repeat' (first | apply And.intro | kernel_rfl)), lt17 (by repeat' (first | apply And.intro | kernel_rfl)), lt17 (by repeat' (first | apply And.intro | kernel_rfl)), lt17 (by repeat' (first | apply And.intro | kernel_rfl)), lt17 (by repeat' (first | apply And.intro | kernel_rfl)), by kernel_rfl, by kernel_rfl⟩
theorem new_cells (n : Nat) : Cells (Try.zeroCells99.setIfInBounds 0 (.int .i64 (n : Nat))) (noS n) := by
  have hz := zero_cells
  have hs := hz.size
  refine ⟨by rw [Array.size_setIfInBounds]; exact hz.size, ?_, ?_, ?_, ?_, ?_, ?_, ?_, ?_, ?_, ?_, ?_, ?_, ?_, ?_, ?_, ?_, ?_⟩ <;> (try intro j hj) <;> rw [Array.getElem?_setIfInBounds]
  · rw [if_pos rfl, if_pos (by omega)]; rfl
  · rw [if_neg (by omega)]; exact hz.on j hj
  · rw [if_neg (by omega)]; exact hz.qc j hj
  · rw [if_neg (by omega)]; exact hz.qv j hj
  · rw [if_neg (by omega)]; exact hz.qbc j hj
  · rw [if_neg (by omega)]; exact hz.qbv j hj
  · rw [if_neg (by omega)]; exact hz.qr j hj
  · rw [if_neg (by omega)]; exact hz.qm j hj
  · rw [if_neg (by omega)]; exact hz.qs j hj
  · rw [if_neg (by omega)]; exact hz.qt j hj
  · rw [if_neg (by omega)]; exact hz.qrb j hj
  · rw [if_neg (by omega)]; exact hz.qrp j hj
  · rw [if_neg (by omega)]; exact hz.qrl j hj
  · rw [if_neg (by omega)]; exact hz.qrd j hj
  · rw [if_neg (by omega)]; exact hz.qro j hj
  · rw [if_neg (by omega)]; exact hz.hk
  · rw [if_neg (by omega)]; exact hz.hg

theorem new_any (n : Nat) (h1 : 1 ≤ n) (h4 : n ≤ 4) (w : World) : Calls Try.prog 27 #[.int .i64 n] w fun e w' => ∃ p, e = .returned (.tuple #[.pointer (some ⟨p, 0, none⟩), .int .i64 0]) ∧ p = w.heap.size ∧ RunAt w' p (noS n) ∧ Only (fun _ => False) w w' := by
  have g1 : ¬ (n : Int) < 1 := by omega
  have g2 : ¬ 4 < (n : Int) := by omega
  go_enter Try.func27, Try.ntmps27
  go_wp2
  go_ret2
  refine ⟨_, rfl, rfl, ⟨_, heap_alloc_new w _, ?_⟩, (Only.refl _ w).alloc _⟩
  exact new_cells n
end
end Go.Proofs.Ytddfdnhlghmapaa.Sp
