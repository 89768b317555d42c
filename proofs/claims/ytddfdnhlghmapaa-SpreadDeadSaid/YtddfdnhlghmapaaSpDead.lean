/- Contracts of package spread's AddDead, and of reserve.New. -/
import Derived.Test.YtddfdnhlghmapaaSpFits
namespace Go.Proofs.Ytddfdnhlghmapaa.Sp
open Go.ChangeShapes Go.WideShapes Go.ChangeAt Go.RowKit Go.Maps
open Go.Proofs.Ytddfdnhlghmapaa.Vt Go.Proofs.Ytddfdnhlghmapaa.Ad
set_option linter.unusedVariables false

/-- A reservation in a block of its own. -/
theorem fill_blk {w : World} {g T : Nat} {b q l d : Int} {o : Bool} (hg : w.heap[g]? = some (.cells #[.int .i64 b, .int .i64 q, .int .i64 l, .int .i64 d, .bool o] T (0, 0))) (s : Int) (h1 : 0 ≤ s) (h2 : s ≤ 9000000000000000000) (p1 : 0 ≤ q) (p2 : q ≤ 30) :
    Calls Try.prog 122 #[.pointer (some ⟨g, 0, none⟩), .int .i64 s] w fun e w' => e = .returned (.tuple #[]) ∧ w'.heap[g]? = some (.cells #[.int .i64 b, .int .i64 q, .int .i64 b, .int .i64 (s + q), .bool false] T (0, 0)) ∧ Only (fun k => k = g) w w' := by
  have HG := Lib.hid hg
  have cb : w.cell? ⟨g, 0, none⟩ = some (.int .i64 b) := by rw [cell_at hg]; rfl
  have cp : w.cell? ⟨g, 1, none⟩ = some (.int .i64 q) := by rw [cell_at hg]; rfl
  have cl : w.cell? ⟨g, 2, none⟩ = some (.int .i64 l) := by rw [cell_at hg]; rfl
  have cd : w.cell? ⟨g, 3, none⟩ = some (.int .i64 d) := by rw [cell_at hg]; rfl
  have co : w.cell? ⟨g, 4, none⟩ = some (.bool o) := by rw [cell_at hg]; rfl
  have fz : ∀ j, w.frozen? ⟨g, j, none⟩ = false := frozen_at hg
  clear hg
  go_enter Try.func122, Try.ntmps122
  go_wp2
  go_end0
  refine ⟨rfl, ?_, only1 _ _ (only1 _ _ (only1 _ _ (Only.refl _ _)))⟩
  have h3 := heap_setCell_same _ g 2 _ _ (.int .i64 b) HG.out
  have h4 := heap_setCell_same _ g 3 _ _ (.int .i64 (s + q)) h3
  have h5 := heap_setCell_same _ g 4 _ _ (.bool false) h4
  exact h5

theorem resnew_any (b q s : Int) (h1 : 0 ≤ s) (h2 : s ≤ 9000000000000000000) (p1 : 0 ≤ q) (p2 : q ≤ 30) (w : World) :
    Calls Try.prog 78 #[.int .i64 b, .int .i64 q, .int .i64 s] w fun e w' => e = .returned (.agg #[.int .i64 b, .int .i64 q, .int .i64 b, .int .i64 (s + q), .bool false]) ∧ Only (fun _ => False) w w' := by
  go_enter Try.func78, Try.ntmps78
  go_upto_region 2 with fail
  obtain ⟨W, hW⟩ : ∃ W, (w.alloc (.cells #[.int .i64 0, .int .i64 0, .int .i64 0, .int .i64 0, .bool false] 94)).alloc (.cells #[.int .i64 b, .int .i64 q, .int .i64 0, .int .i64 0, .bool false] 94) = W := ⟨_, rfl⟩
  have ba : W.heap[w.heap.size]? = some (.cells #[.int .i64 0, .int .i64 0, .int .i64 0, .int .i64 0, .bool false] 94 (0, 0)) := by rw [← hW]; exact heap_alloc2_old w _ _
  have bb : W.heap[w.heap.size + 1]? = some (.cells #[.int .i64 b, .int .i64 q, .int .i64 0, .int .i64 0, .bool false] 94 (0, 0)) := by rw [← hW]; exact heap_alloc2_new w _ _
  have HO : Hid (Only (fun _ => False) w W) := Lib.hid (by rw [← hW]; exact ((Only.refl _ w).alloc _).alloc _)
  have hlt := block_there ba
  have HC := Lib.hid (fill_blk bb s h1 h2 p1 p2)
  rw [hW]
  have HBA := Lib.hid ba
  clear hW ba bb
  go_upto_region 3 with (go_at_call 122; (with_reducible refine HC.out.mono ?_); rintro e w2 ⟨rfl, hg, hO⟩; have HG := Lib.hid hg; have HO2 := Lib.hid hO; clear hg hO)
  have ba2 : w2.heap[w.heap.size]? = some (.cells #[.int .i64 0, .int .i64 0, .int .i64 0, .int .i64 0, .bool false] 94 (0, 0)) := (HO2.out.block _ hlt (by omega)).trans HBA.out
  have c0 : w2.cell? ⟨w.heap.size + 1, 0, none⟩ = some (.int .i64 b) := by rw [cell_at HG.out]; rfl
  have c1 : w2.cell? ⟨w.heap.size + 1, 1, none⟩ = some (.int .i64 q) := by rw [cell_at HG.out]; rfl
  have c2 : w2.cell? ⟨w.heap.size + 1, 2, none⟩ = some (.int .i64 b) := by rw [cell_at HG.out]; rfl
  have c3 : w2.cell? ⟨w.heap.size + 1, 3, none⟩ = some (.int .i64 (s + q)) := by rw [cell_at HG.out]; rfl
  have c4 : w2.cell? ⟨w.heap.size + 1, 4, none⟩ = some (.bool false) := by rw [cell_at HG.out]; rfl
  have d0 : w2.cell? ⟨w.heap.size, 0, none⟩ = some (.int .i64 0) := by rw [cell_at ba2]; rfl
  have d1 : w2.cell? ⟨w.heap.size, 1, none⟩ = some (.int .i64 0) := by rw [cell_at ba2]; rfl
  have d2 : w2.cell? ⟨w.heap.size, 2, none⟩ = some (.int .i64 0) := by rw [cell_at ba2]; rfl
  have d3 : w2.cell? ⟨w.heap.size, 3, none⟩ = some (.int .i64 0) := by rw [cell_at ba2]; rfl
  have d4 : w2.cell? ⟨w.heap.size, 4, none⟩ = some (.bool false) := by rw [cell_at ba2]; rfl
  have fz : ∀ j, w2.frozen? ⟨w.heap.size, j, none⟩ = false := frozen_at ba2
  have HB2 := Lib.hid ba2
  clear ba2
  go_wp2_with fail
  have e5 := heap_setCell_same _ w.heap.size 4 _ _ (.bool false) (heap_setCell_same _ w.heap.size 3 _ _ (.int .i64 (s + q)) (heap_setCell_same _ w.heap.size 2 _ _ (.int .i64 b) (heap_setCell_same _ w.heap.size 1 _ _ (.int .i64 q) (heap_setCell_same _ w.heap.size 0 _ _ (.int .i64 b) HB2.out))))
  refine bodyPost_ret (results_cell_row rfl _ _ w.heap.size _ #[.int .i64 b, .int .i64 q, .int .i64 b, .int .i64 (s + q), .bool false] _ _ (by rfl) (by simpa using e5) Try.underlying94 rfl (by kernel_rfl)) rfl ?_
  refine ⟨rfl, ?_⟩
  have hA := HO.out.trans HO2.out (T := fun k => k = w.heap.size + 1) (fun x hx e => by omega)
  exact (hA.mono (T := fun k => w.heap.size ≤ k) (fun _ _ e => e.elim)).setCell (p := ⟨w.heap.size, 0, none⟩) (Nat.le_refl _) _ |>.setCell (p := ⟨w.heap.size, 1, none⟩) (Nat.le_refl _) _ |>.setCell (p := ⟨w.heap.size, 2, none⟩) (Nat.le_refl _) _ |>.setCell (p := ⟨w.heap.size, 3, none⟩) (Nat.le_refl _) _ |>.setCell (p := ⟨w.heap.size, 4, none⟩) (Nat.le_refl _) _ |>.mono (fun x hx e => by omega)

def deadTk (b q n : Int) : Tk := ⟨3, 0, 0, 0, false, 0, 0, 0, b, q, b, n + q, false⟩
def addDeadE (S : St) (t b q : Int) : Int := if isNo t = true ∧ okU (b, q) = true then (if There S t then 5 else if fitsB S (b, q) = true then 0 else 6) else 1
def addDeadS (S : St) (t b q : Int) : St := if isNo t = true ∧ okU (b, q) = true ∧ ¬ There S t ∧ fitsB S (b, q) = true then enter S t.toNat (deadTk b q (now S)) else S
theorem chk_one (u : Use) : chk [u] = if okU u = true then 0 else 1 := by
  by_cases h : okU u = true
  · rw [if_pos h]
    exact chk_ok (by simp) (fun j hj => by
      have : j = 0 := by simp at hj; omega
      subst this; exact h)
  · rw [if_neg h]
    exact chk_bad (k := 0) (by simp) (by simp) (by simpa [nthU] using h)
section
variable {w w' : World} {p : Nat} {S : St} {B : Int}
theorem deadTk_ok (h : Ok S B) {b q : Int} (hu : okU (b, q) = true) : TkOk (deadTk b q (now S)) B S.k := by
  have hb := okU_bd hu
  have hB := h.B0
  have hk0 := h.k0
  have hn := now_bd h
  obtain ⟨b1, b2, b3, b4⟩ := hb
  have b1 : 1 ≤ q := b1
  have b2 : q ≤ 30 := b2
  have b3 : 1 ≤ b := b3
  have b4 : b ≤ q := b4
  exact ⟨by show 0 < 16; omega, by show -1000 ≤ (0 : Int) ∧ (0 : Int) ≤ 1000; omega, by show -1000 ≤ (0 : Int) ∧ (0 : Int) ≤ 1000; omega, by show (0 : Int) ≤ 0; omega, by show (0 : Int) ≤ B * 1048576; omega, fun e => by have e2 : (3 : Int) = 1 := e; omega, ⟨by show (3 : Int) = 0 ∨ (3 : Int) = 1 ∨ (3 : Int) = 2 ∨ (3 : Int) = 3; omega, fun _ => rfl⟩, by show 0 ≤ b; omega, by show b ≤ 30; omega, by show 0 ≤ q; omega, by show q ≤ 30; omega, by show 0 ≤ b; omega, by show b ≤ 30; omega,
    fun _ _ => b3, by show 0 ≤ now S + q; omega, by show now S + q ≤ S.k + 30; omega, fun e _ => by have e2 : b = 0 := e; omega⟩
theorem Ok.addDead (h : Ok S B) (t b q : Int) : Ok (addDeadS S t b q) (B + 1) := by
  unfold addDeadS; split
  · next e =>
    have h12 := of_decide_eq_true e.1
    exact (h.entered (by omega) (deadTk_ok h e.2.1)).start (by omega) (by omega)
  · exact h.mono (by omega)
theorem addDead_any (h : RunAt w p S) (hok : Ok S B) (hB : B ≤ 8000000000000) (t b q : Int) :
    Calls Try.prog 31 #[.pointer (some ⟨p, 0, none⟩), .int .i64 t, .int .i64 b, .int .i64 q] w (Keep p (addDeadS S t b q) (.int .i64 (addDeadE S t b q)) w) := by
  have H := Lib.hid h
  have hi := Lib.hid (fun w => isTask_any t w)
  have hlt := h.lt
  unfold addDeadS addDeadE
  by_cases ht : isNo t = true
  · rw [ht] at hi
    have w1b : Hid ((w.alloc (.cells #[.int .i64 b, .int .i64 q] 71)).heap.size = w.heap.size + 1) := Lib.hid (Array.size_push _)
    have HK : Hid (Calls Try.prog 76 #[.slice (some ⟨w.heap.size + 1, 0, none⟩) 1 1] ((w.alloc (.cells #[.int .i64 b, .int .i64 q] 71)).alloc (.cells #[.int .i64 b, .int .i64 q] 71)) (Num (chk [(b, q)]) ((w.alloc (.cells #[.int .i64 b, .int .i64 q] 71)).alloc (.cells #[.int .i64 b, .int .i64 q] 71)))) :=
      Lib.hid (check_any _ _ _ (row_view (use_one (B := 0) (heap_alloc2_new w _ _) (by omega))))
    have HO : Hid (Only (fun _ => False) w ((w.alloc (.cells #[.int .i64 b, .int .i64 q] 71)).alloc (.cells #[.int .i64 b, .int .i64 q] 71))) := Lib.hid (((Only.refl _ w).alloc _).alloc _)
    have BA : Hid (((w.alloc (.cells #[.int .i64 b, .int .i64 q] 71)).alloc (.cells #[.int .i64 b, .int .i64 q] 71)).heap[w.heap.size]? = some (.cells #[.int .i64 b, .int .i64 q] 71 (0, 0))) := Lib.hid (heap_alloc2_old w _ _)
    rw [chk_one] at HK
    by_cases hu : okU (b, q) = true
    · rw [if_pos hu] at HK
      by_cases he : There S t
      · rw [if_neg (fun q => q.2.2.1 he), if_pos ⟨ht, hu⟩, if_pos he]
        obtain ⟨k, rfl, k1, k2, k3⟩ := there_nat he
        have hf := Lib.hid (fun W (h : RunAt W p S) => find_yes h k k1 k2 k3)
        clear h hok ht hu he k3 BA
        go_enter Try.func31, Try.ntmps31
        go_wp2_with (first
          | (go_at_call 68; (with_reducible refine (hi.out _).mono ?_); rintro e w' ⟨rfl, rfl⟩)
          | (go_at_call 76; (with_reducible refine HK.out.mono ?_); rintro e w2 ⟨rfl, hO⟩; have O2 := Lib.hid (quiet_trans HO.out hO); have H2 := Lib.hid (H.out.later O2.out); clear hO)
          | (go_at_call 70; (with_reducible refine (hf.out _ H2.out).mono ?_); rintro e w' ⟨rfl, rfl⟩))
        go_ret
        exact ⟨rfl, H2.out, only_p O2.out⟩
      · have h12 := of_decide_eq_true ht
        have hf := Lib.hid (fun W (h : RunAt W p S) => find_no h t he)
        have hfit := Lib.hid (fun W (h : RunAt W p S) => fits_any h hok.n1 hok.n4 (b, q))
        by_cases hb : fitsB S (b, q) = true
        · rw [if_pos ⟨ht, hu, he, hb⟩, if_pos ⟨ht, hu⟩, if_neg he, if_pos hb]
          rw [hb] at hfit
          obtain ⟨k, rfl⟩ : ∃ k : Nat, t = k := ⟨t.toNat, by omega⟩
          rw [Int.toNat_natCast]
          have hkB := hok.kB
          have hnb := now_bd hok
          have hub := okU_bd hu
          have q0 : 0 ≤ q := by have : 1 ≤ q := hub.1; omega
          have q30 : q ≤ 30 := hub.2.1
          have hnow := Lib.hid (fun W (h : RunAt W p S) => now_any h hok.fine hok.k0 (by omega))
          have hres := Lib.hid (fun W => resnew_any b q (now S) hnb.1 (by omega) q0 q30 W)
          have hn := Lib.hid (fun W (h : RunAt W p S) => enter_any h hok hB k (by omega) (by omega) (deadTk b q (now S)) (deadTk_ok hok hu))
          generalize now S = n at *
          clear h hok ht hu he h12 hb hub hnb
          go_enter Try.func31, Try.ntmps31
          go_wp2_with (first
            | (go_at_call 68; (with_reducible refine (hi.out _).mono ?_); rintro e w' ⟨rfl, rfl⟩)
            | (go_at_call 76; (with_reducible refine HK.out.mono ?_); rintro e w2 ⟨rfl, hO⟩; have O2 := Lib.hid (quiet_trans HO.out hO); have H2 := Lib.hid (H.out.later O2.out); have b2 := (hO.block _ (block_there BA.out) id).trans BA.out; have c0 : w2.cell? ⟨w.heap.size, 0, none⟩ = some (.int .i64 b) := (by rw [cell_at b2]; rfl); have c1 : w2.cell? ⟨w.heap.size, 1, none⟩ = some (.int .i64 q) := (by rw [cell_at b2]; rfl); clear hO b2)
            | (go_at_call 70; (with_reducible refine (hf.out _ H2.out).mono ?_); rintro e w' ⟨rfl, rfl⟩)
            | (go_at_call 77; (with_reducible refine (hfit.out _ H2.out).mono ?_); rintro e w3 ⟨rfl, hO⟩; have O3 := Lib.hid (quiet_trans O2.out hO); have H3 := Lib.hid (H.out.later O3.out); clear hO)
            | (go_at_call 79; (with_reducible refine (hnow.out _ H3.out).mono ?_); rintro e w4 ⟨rfl, hO⟩; have O4 := Lib.hid (quiet_trans O3.out hO); clear hO)
            | (go_at_call 78; (with_reducible refine (hres.out _).mono ?_); rintro e w5 ⟨rfl, hO⟩; have O5 := Lib.hid (quiet_trans O4.out hO); have H5 := Lib.hid (H.out.later O5.out); clear hO)
            | (go_at_call 71; (refine Calls.mono (hn.out _ H5.out) ?_); rintro e w6 ⟨rfl, hR, hO⟩; have H6 := Lib.hid hR; have O6 := Lib.hid (only_pp (only_p O5.out) hO); clear hR hO))
          go_ret
          exact ⟨rfl, H6.out, O6.out⟩
        · rw [if_neg (fun q => hb q.2.2.2), if_pos ⟨ht, hu⟩, if_neg he, if_neg hb]
          rw [Bool.eq_false_iff.2 hb] at hfit
          clear h hok ht hu he h12 hb
          go_enter Try.func31, Try.ntmps31
          go_wp2_with (first
            | (go_at_call 68; (with_reducible refine (hi.out _).mono ?_); rintro e w' ⟨rfl, rfl⟩)
            | (go_at_call 76; (with_reducible refine HK.out.mono ?_); rintro e w2 ⟨rfl, hO⟩; have O2 := Lib.hid (quiet_trans HO.out hO); have H2 := Lib.hid (H.out.later O2.out); have b2 := (hO.block _ (block_there BA.out) id).trans BA.out; have c0 : w2.cell? ⟨w.heap.size, 0, none⟩ = some (.int .i64 b) := (by rw [cell_at b2]; rfl); have c1 : w2.cell? ⟨w.heap.size, 1, none⟩ = some (.int .i64 q) := (by rw [cell_at b2]; rfl); clear hO b2)
            | (go_at_call 70; (with_reducible refine (hf.out _ H2.out).mono ?_); rintro e w' ⟨rfl, rfl⟩)
            | (go_at_call 77; (with_reducible refine (hfit.out _ H2.out).mono ?_); rintro e w3 ⟨rfl, hO⟩; have O3 := Lib.hid (quiet_trans O2.out hO); have H3 := Lib.hid (H.out.later O3.out); clear hO))
          go_ret
          exact ⟨rfl, H3.out, only_p O3.out⟩
    · rw [if_neg (fun q => hu q.2.1), if_neg (fun q => hu q.2)]
      rw [if_neg hu] at HK
      clear h hok ht hu BA
      go_enter Try.func31, Try.ntmps31
      go_wp2_with (first
        | (go_at_call 68; (with_reducible refine (hi.out _).mono ?_); rintro e w' ⟨rfl, rfl⟩)
        | (go_at_call 76; (with_reducible refine HK.out.mono ?_); rintro e w2 ⟨rfl, hO⟩; have O2 := Lib.hid (quiet_trans HO.out hO); have H2 := Lib.hid (H.out.later O2.out); clear hO))
      go_ret
      exact ⟨rfl, H2.out, only_p O2.out⟩
  · rw [if_neg (fun q => ht q.1), if_neg (fun q => ht q.1)]
    rw [Bool.eq_false_iff.2 ht] at hi
    clear h hok ht
    go_enter Try.func31, Try.ntmps31
    go_wp2_with (go_at_call 68; (with_reducible refine (hi.out _).mono ?_); rintro e w' ⟨rfl, rfl⟩)
    go_ret
    exact ⟨rfl, H.out.later ((Only.refl _ w).alloc _), only_p ((Only.refl _ w).alloc _)⟩
end
theorem own_addDead {w0 w : World} {p : Nat} {S : St} {B : Int} (h : Own w0 w p S B) (hB : B ≤ 7000000000000) (t b q : Int) : Calls Try.prog 31 #[.pointer (some ⟨p, 0, none⟩), .int .i64 t, .int .i64 b, .int .i64 q] w (Did w0 p (addDeadS S t b q) (B + 1) (.int .i64 (addDeadE S t b q))) := h.did (h.ok.addDead t b q) (addDead_any h.at_ h.ok (by omega) t b q)
end Go.Proofs.Ytddfdnhlghmapaa.Sp
