/- Queues of a call's own; waitBegun. -/
import Derived.Test.YtddfdnhlghmapaaWtWake
import Derived.Test.YtddfdnhlghmapaaIdx
import Derived.Test.YtddfdnhlghmapaaRest
namespace Go.Proofs.Ytddfdnhlghmapaa.Wt
open Go.ChangeShapes Go.WideShapes Go.ChangeAt Go.RowKit Go.Maps
set_option linter.unusedVariables false

/-- A queue of the call's own. -/
structure Mine (w0 w : World) (p : Nat) (V : Value) (S : Line) (G : Looks) : Prop where
  at_ : QAt w p V S G
  own : ∀ k, Foot p V k → w0.heap.size ≤ k
  only : Only (fun _ => False) w0 w
  fine : Fine S

section
variable {w0 w w' : World} {p : Nat} {V V' : Value} {S S' : Line} {G G' : Looks}
theorem Mine.quiet (h : Mine w0 w p V S G) (hO : Only (fun _ => False) w w') : Mine w0 w' p V S G := ⟨h.at_.later hO, h.own, only_trans h.only hO, h.fine⟩
theorem Mine.step (h : Mine w0 w p V S G) (hq : QAt w' p V' S' G') (hs : Step p V V' w w') (hf : Fine S') : Mine w0 w' p V' S' G' :=
  ⟨hq, fun k hk => (hs.grow k hk).elim (h.own k) (fun e => Nat.le_trans h.only.size e), h.only.trans hs.only (fun x hx e => by have := h.own x e; omega), hf⟩
theorem Mine.below (h : Mine w0 w p V S G) : Below w0.heap.size w0 w := h.only.below (Nat.le_refl _) (fun _ e => e.elim)
/-- What changes other blocks of one's own. -/
theorem Mine.beside {R : Nat → Prop} (h : Mine w0 w p V S G) (hO : Only R w w') (hR : ∀ k, Foot p V k → ¬ R k) (hN : ∀ k, R k → w0.heap.size ≤ k) : Mine w0 w' p V S G :=
  ⟨h.at_.keep hO hR, h.own, h.only.trans hO (fun x hx e => by have := hN x e; omega), h.fine⟩
end

theorem new_mine {w0 w : World} (hO : Only (fun _ => False) w0 w) : Calls Try.prog 11 #[] w fun e w' => ∃ p, e = .returned (.pointer (some ⟨p, 0, none⟩)) ∧ p = w.heap.size ∧ Mine w0 w' p (.slice none 0 0) [] noG :=
  (new_any w).mono fun e w' ⟨p, h1, h2, h3, h4⟩ => ⟨p, h1, h2, ⟨h3, (fun k hk => by
    rcases hk with e | hk
    · rw [e, h2]; exact hO.size
    · cases hk), only_trans hO h4, fine_nil⟩⟩

theorem stay_sub (S : Line) (n : Int) (k : Nat) (hk : k ≤ S.length) : ((wk S n k).2.1).Sublist (S.take k) := by
  induction k with
  | zero => exact List.Sublist.refl _
  | succ k ih =>
    have ih := ih (by omega)
    rw [List.take_succ_eq_append_getElem (by omega)]
    show (let r := wk S n k; let x := S.getD k (0, false); if x.2 = false then _ else _ : List Int × Line × Int).2.1.Sublist _
    simp only
    split
    · exact ih.trans (List.sublist_append_left _ _)
    · split
      · exact ih.trans (List.sublist_append_left _ _)
      · have e : S.getD k (0, false) = S[k] := by simp [List.getD, show k < S.length by omega]
        rw [e]
        exact List.Sublist.append ih (List.Sublist.refl _)
theorem Fine.stay {S : Line} (h : Fine S) (n : Int) : Fine (stay S n) := h.sub (by
  have := stay_sub S n S.length (Nat.le_refl _)
  rwa [List.take_length] at this)
theorem Fine.gone {S : Line} (h : Fine S) (t : Int) : Fine (gone S t) := h.sub List.filter_sublist
theorem woken_len (S : Line) (n : Int) (k : Nat) : (wk S n k).1.length ≤ k := by
  induction k with
  | zero => exact Nat.le_refl _
  | succ k ih =>
    show (let r := wk S n k; let x := S.getD k (0, false); if x.2 = false then _ else _ : List Int × Line × Int).1.length ≤ _
    simp only
    split
    · simp; omega
    · split
      · simp; omega
      · simp only; omega

theorem b3 : isT 3 = true := by decide
theorem begun_any (w : World) : Calls Try.prog 23 #[] w fun e w' => e = .returned (.bool true) ∧ Only (fun _ => False) w w' := by
  have N0 := Lib.hid (new_mine (Only.refl (fun _ => False) w))
  have P1 : Hid (∀ (W : World) p V, QAt W p V [] noG → Calls Try.prog 12 #[.pointer (some ⟨p, 0, none⟩), .int .i64 3, .bool true] W (Moved p V [(3, true)] noG (.int .i64 0) W)) :=
    Lib.hid (fun W p V h => add_new h (Nat.zero_le _) 3 true b3 (by simp [ids]))
  have P2 : Hid (∀ (W : World) p V, QAt W p V [(3, true)] noG → Calls Try.prog 20 #[.pointer (some ⟨p, 0, none⟩), .int .i64 1] W (Woke p V [(3, true)] noG 1 W)) :=
    Lib.hid (fun W p V h => wake_any h (by decide) 1 (by omega) (by omega))
  have HF : Hid (Fine [(3, true)]) := Lib.hid ⟨by simp [ids], fun t ht => by simp [ids] at ht; omega⟩
  have HW : Hid (woken [(3, true)] 1 = [3]) := Lib.hid rfl
  have HQ := Lib.hid (fun (W W' : World) (v : Value) (hv : Ints W' W.heap.size v [3]) (w2 : World) (hO : Only (fun _ => False) W' w2) (v2 : Value) (h2 : Nums w2 v2 [3]) => eq_same v v2 [3] w2 (hv.later hO).nums h2 (by decide))
  go_enter Try.func23, Try.ntmps23
  go_wp2_with (first
    | (go_at_call 11; (with_reducible refine N0.out.mono ?_); rintro e w1 ⟨p, rfl, -, hM⟩; have H0 := Lib.hid hM; clear hM)
    | (go_at_call 12; (with_reducible refine (P1.out _ _ _ H0.out.at_).mono ?_); rintro e w2 ⟨rfl, V1, hq, hs⟩; have H1 := Lib.hid (H0.out.step hq hs HF.out); clear hq hs)
    | (go_at_call 20; (with_reducible refine (P2.out _ _ _ H1.out.at_).mono ?_); rintro e w3 ⟨v3, V3, rfl, hi, hq, hs, hne⟩; rw [HW.out] at hi; have HI := Lib.hid hi; have H2 := Lib.hid (H1.out.step hq hs (HF.out.stay 1)); clear hq hs hne hi)
    | (go_at_call 13; have hc := HQ.out _ _ _ HI.out (w3.alloc (.cells #[.int .i64 3] 3)) ((Only.refl _ _).alloc _) (.slice (some ⟨w3.heap.size, 0, none⟩) 1 1) (nums_block (xs := [3]) (heap_alloc_new _ _) rfl); (with_reducible refine hc.mono ?_); clear hc; rintro e w4 ⟨rfl, hO⟩; have HO := Lib.hid hO; clear hO))
  go_ret
  exact ⟨rfl, (H2.out.quiet ((Only.refl (fun _ => False) _).alloc _)).only.trans HO.out (fun _ _ e => e)⟩
theorem has_no (v : Value) (xs : List Int) (t : Int) (w : World) (h : Nums w v xs) (hl : xs.length ≤ 1000) (ht : t ∉ xs) : Calls Try.prog 16 #[v, .int .i64 t] w (BoolOnly false w) := by
  have := contains_any v xs t w h (by omega)
  rwa [decide_eq_false ht] at this
theorem has_yes (v : Value) (xs : List Int) (t : Int) (w : World) (h : Nums w v xs) (hl : xs.length ≤ 1000) (ht : t ∈ xs) : Calls Try.prog 16 #[v, .int .i64 t] w (BoolOnly true w) := by
  have := contains_any v xs t w h (by omega)
  rwa [decide_eq_true ht] at this
end Go.Proofs.Ytddfdnhlghmapaa.Wt
