/- The statements' fairs and fairBegun. -/
import Derived.Test.YtpincdcebhmnhaaOFPure
import Derived.Test.YtpincdcebhmnhaaInts
import Derived.Test.YtpincdcebhmnhaaRest
namespace Go.Proofs.Ytpincdcebhmnhaa.Fr
open Go.ChangeShapes Go.WideShapes Go.ChangeAt Go.RowKit Go.Maps
open Go.Proofs.Ytpincdcebhmnhaa.Vt
set_option linter.unusedVariables false

/-- The weight that a number stands for. -/
def wOf (x : Int) : Int := 1 + restOf x 100
theorem wOf_ok (x : Int) : isW (wOf x) = true := by
  have := restOf_lo x 100 (by omega); have := restOf_hi x 100 (by omega)
  unfold isW wOf; exact decide_eq_true (by omega)
theorem wOf_bd (x : Int) : 1 ≤ wOf x ∧ wOf x ≤ 100 := isW_yes (wOf_ok x)
theorem costOf_lo {x : Int} (h : isW x = true) : 10485 ≤ costOf x := by
  obtain ⟨h1, h2⟩ := isW_yes h
  unfold costOf
  rw [Int.le_ediv_iff_mul_le (by omega)]
  omega
theorem costOf_ok {x : Int} (h : isW x = true) : 10485 ≤ costOf x ∧ costOf x ≤ 1048576 := ⟨costOf_lo h, (costOf_bd h).2⟩

/-- What a tick costs task t, of the numbers xs. -/
def cw (xs : List Int) (t : Nat) : Int := costOf (wOf (xs.getD (t - 1) 0))
theorem cw_bd (xs : List Int) (t : Nat) : 10485 ≤ cw xs t ∧ cw xs t ≤ 1048576 := costOf_ok (wOf_ok _)

/-- The tasks of the numbers xs, as far as k, ere any tick. -/
def bareT (xs : List Int) (k : Nat) : Tks := mkT k (cw xs) (fun _ => 0)

theorem bare_add (xs : List Int) {k : Nat} (hk : k < 16) : addT (bareT xs k) noG (k + 1) (costOf (wOf (xs.getD k 0))) 0 = bareT xs (k + 1) ∧ addG (bareT xs k) noG (k + 1) (costOf (wOf (xs.getD k 0))) 0 = noG :=
  mkT_add hk (by simp [cw])

theorem only_new {a b c : World} {p : Nat} (h : Only (fun _ => False) a b) (k : Only (fun k => k = p) b c) (hp : a.heap.size ≤ p) : Only (fun _ => False) a c := h.trans k (fun x h1 h2 => by subst h2; omega)

theorem add_next {w : World} {p : Nat} {T : Tks} {G : Grs} (h : FairAt w p 0 49 T G) (k : Nat) (x : Int) (hx : isW x = true) (h2 : k + 1 ≤ 16) (hc : (T (k + 1)).c = 0) :
    Calls Try.prog 23 #[.pointer (some ⟨p, 0, none⟩), .int .i64 ((k : Int) + 1), .int .i64 x, .int .i64 0] w (FKeep w p 0 49 (.int .i64 0) (addT T G (k + 1) (costOf x) 0) (addG T G (k + 1) (costOf x) 0)) :=
  add_yes h (k + 1) x 0 hx (by omega) h2 (by omega) hc (Or.inl rfl)

set_option maxHeartbeats 400000 in
theorem fairs_any (a : Option Addr) (n c : Nat) (xs : List Int) (w : World) (h : Nums w (.slice a n c) xs) (hn : xs.length = n) (hm : n ≤ 16) :
    Calls Try.prog 17 #[.slice a n c] w fun e w' => ∃ p, e = .returned (.tuple #[.pointer (some ⟨p, 0, none⟩), .bool true]) ∧ w.heap.size ≤ p ∧ FairAt w' p 0 49 (bareT xs n) noG ∧ Only (fun _ => False) w w' := by
  have H := Lib.hid h
  have HN := Lib.hid hn
  clear h hn
  go_enter Try.func17, Try.ntmps17
  go_wp2_with (go_at_call 30; (with_reducible refine (new_any _).mono ?_); rintro e w0 ⟨p, rfl, hp, hF, hO⟩; have HF := Lib.hid hF; have HO := Lib.hid hO; clear hF hO)
  go_loopw [12] (fun i wr => ∃ k : Nat, k ≤ n ∧ i = .int .i64 k ∧ FairAt wr p 0 49 (bareT xs k) noG ∧ Only (fun _ => False) w wr) (fun i _ => n - (intOf i).toNat)
  case atStart => exact ⟨0, by omega, rfl, by rw [show bareT xs 0 = noT from mkT_none _ _]; exact HF.out, HO.out⟩
  case round =>
    obtain ⟨k, hk, rfl, hF, hO⟩ := hrel
    have HF := Lib.hid hF
    have HO := Lib.hid hO
    clear hF hO
    by_cases hlt : k < n
    · obtain ⟨b, off, rfl, hb, hc⟩ := (H.out.later HO.out).at (j := k) (by rw [HN.out]; exact hlt)
      obtain ⟨x, hx⟩ : ∃ x, xs.getD k 0 = x := ⟨_, rfl⟩
      rw [hx] at hc
      have HB := Lib.hid (bare_add xs (k := k) (by omega))
      rw [hx] at HB
      have g1 : (k : Int) < n := by omega
      have g2 : (0 : Int) ≤ k := by omega
      have r1 := restOf_lo x 100 (by omega)
      have r2 := restOf_hi x 100 (by omega)
      have ka := Lib.hid (add_next HF.out k (wOf x) (wOf_ok x) (by omega) (by unfold bareT; rw [mkT_out (by omega)]))
      rw [HB.out.1, HB.out.2] at ka
      unfold wOf at ka
      clear hx
      go_wp2_with (first
        | (go_at_call 11; (with_reducible refine (rest_any x 100 (by omega) (by omega) _).mono ?_); rintro e w' ⟨rfl, rfl⟩)
        | (go_at_call 23; (with_reducible refine ka.out.mono ?_); rintro e w1 ⟨rfl, hF1, hO1⟩; have HF1 := Lib.hid hF1; have HO1 := Lib.hid hO1; clear hF1 hO1))
      go_roundw
      case rel => exact ⟨k + 1, by omega, by go_num, HF1.out, only_new HO.out HO1.out.only hp⟩
      case measure => simp [intOf]; omega
    · obtain rfl : k = n := by omega
      go_wp2_with fail
      go_ret2
      exact ⟨p, rfl, hp, HF.out, HO.out⟩

/-- The first two ticks of two tasks that weigh the same. -/
theorem two_ticks : next (bareT [0, 0] 2) noG = (1, 0) ∧ next (tickT (bareT [0, 0] 2) 1) noG = (2, 0) ∧ tickG (bareT [0, 0] 2) noG 1 = noG := by
  unfold bareT
  refine ⟨?_, ?_, mkT_tickG (by omega) (by omega)⟩
  · rw [mkT_next (by omega) (by omega), mkT_first_is 1 (by omega) (by omega) (by omega) (fun t h1 h2 => Or.inr ⟨rfl, h1⟩)]
  · rw [mkT_tick (by omega) (by omega), mkT_next (by omega) (by omega), mkT_first_is 2 (by omega) (by omega) (by omega) ?_]
    · rfl
    · intro t h1 h2
      rcases (show t = 1 ∨ t = 2 by omega) with rfl | rfl
      · left; decide
      · right; exact ⟨rfl, by omega⟩

theorem bare_fit (xs : List Int) {m : Nat} (hm : m ≤ 16) : Fit (bareT xs m) noG 0 :=
  mkT_fit hm (fun t _ _ => by have := cw_bd xs t; omega) (fun t _ _ => by simp) (by omega)

theorem tick_is {w : World} {p : Nat} {T T' : Tks} {G G' : Grs} {B : Int} {n : Nat} {v k : Int} (h : FairAt w p 0 49 T G) (hb : Fit T G B) (hB : B ≤ 9000000000000000000) (hn : next T G = (n, v)) (h0 : n ≠ 0) (hk : (n : Int) = k) (eT : tickT T n = T') (eG : tickG T G n = G') :
    Calls Try.prog 20 #[.pointer (some ⟨p, 0, none⟩)] w (FKeep w p 0 49 (.tuple #[.int .i64 k, .int .i64 0]) T' G') := by
  subst hk eT eG
  have := tick_yes h hb hB (by rw [hn]; exact h0)
  rwa [hn] at this

set_option maxHeartbeats 400000 in
theorem begun_any (w : World) : Calls Try.prog 16 #[] w fun e w' => e = .returned (.bool true) ∧ Only (fun _ => False) w w' := by
  have h2 : Nums (w.alloc (.cells #[.int .i64 0, .int .i64 0] 3)) (.slice (some ⟨w.heap.size, 0, none⟩) 2 2) [0, 0] := nums_block (heap_alloc_new w _) rfl (c := 2) (xs := [0, 0])
  have c1 := Lib.hid (fairs_any _ 2 2 [0, 0] _ h2 rfl (by omega))
  obtain ⟨t1, t2, t3⟩ := two_ticks
  have T1 := Lib.hid t1
  have T2 := Lib.hid t2
  have T3 := Lib.hid t3
  have F0 := Lib.hid (bare_fit [0, 0] (m := 2) (by omega))
  have F1 : Hid (Fit (tickT (bareT [0, 0] 2) 1) noG 1048576) := by
    have e : tickT (bareT [0, 0] 2) 1 = mkT 2 (cw [0, 0]) (upd (fun _ => 0) 1 (0 + cw [0, 0] 1)) := by unfold bareT; exact mkT_tick (by omega) (by omega)
    rw [e]
    refine Lib.hid (mkT_fit (by omega) (fun t _ _ => by have := cw_bd [0, 0] t; omega) (fun t _ _ => ?_) (by omega))
    have := cw_bd [0, 0] 1
    unfold upd
    by_cases e : t = 1
    · rw [if_pos e]; omega
    · rw [if_neg e]; exact ⟨Int.le_refl _, show (0 : Int) ≤ 1048576 by omega⟩
  clear t1 t2 t3 h2
  go_enter Try.func16, Try.ntmps16
  go_wp2_with (first
    | (go_at_call 17; (with_reducible refine c1.out.mono ?_); rintro e w1 ⟨p, rfl, hp, hF, hO⟩; have HF := Lib.hid hF; have HO := Lib.hid (((Only.refl (fun _ => False) w).alloc _).trans hO (fun _ _ h => h)); clear hF hO)
    | (go_at_call 20; (with_reducible refine (tick_is HF1.out F1.out (by omega) T2.out (k := 2) (by omega) rfl rfl rfl).mono ?_); rintro e w3 ⟨rfl, hF2, hO2⟩; have HO2 := Lib.hid (only_new HO1.out hO2.only HP.out); clear hF2 hO2)
    | (go_at_call 20; (with_reducible refine (tick_is HF.out F0.out (by omega) T1.out (k := 1) (by omega) rfl rfl T3.out).mono ?_); rintro e w2 ⟨rfl, hF1, hO1⟩; have HF1 := Lib.hid hF1; have HP : Hid (w.heap.size ≤ p) := Lib.hid (by simp at hp; omega); have HO1 := Lib.hid (only_new HO.out hO1.only HP.out); clear hF1 hO1))
  go_ret
  exact ⟨rfl, HO2.out⟩
end Go.Proofs.Ytpincdcebhmnhaa.Fr
