/- What is in bounds stays in bounds: of tasks and groups with fair shares. -/
import Derived.Test.YtpincdcebhmnhaaOFOps
import Derived.Test.YtpincdcebhmnhaaOFPure
namespace Go.Proofs.Ytpincdcebhmnhaa.Fr
open Go.ChangeShapes Go.WideShapes Go.ChangeAt Go.RowKit Go.Maps
open Go.Proofs.Ytpincdcebhmnhaa.Vt
set_option linter.unusedVariables false

section
variable {T T' : Tks} {G G' : Grs} {M : Int}
theorem Fit.upd_t (h : Fit T G M) {t : Nat} (h1 : 1 ≤ t) (x : Tk) (hc : 0 ≤ x.c ∧ x.c ≤ 1048576) (hv : 0 ≤ x.v ∧ x.v ≤ M) (hg : 0 ≤ x.g ∧ x.g ≤ 8) (hr : x.r = true → x.c ≠ 0) : Fit (upd T t x) G M := by
  refine ⟨fun k hk => ?_, fun k hk => ?_, fun k hk => ?_, h.gc, h.gv, by rw [upd_other _ _ (by omega)]; exact h.no, fun k hk => ?_⟩
  all_goals unfold upd; split
  · exact hc
  · exact h.c k hk
  · exact hv
  · exact h.v k hk
  · exact hg
  · exact h.g k hk
  · exact hr
  · exact h.rc k hk
theorem Fit.upd_g (h : Fit T G M) {g : Nat} (x : Gr) (hc : 0 ≤ x.c ∧ x.c ≤ 1048576) (hv : 0 ≤ x.v ∧ x.v ≤ M) : Fit T (upd G g x) M := by
  refine ⟨h.c, h.v, h.g, fun k hk => ?_, fun k hk => ?_, h.no, h.rc⟩
  all_goals unfold upd; split
  · exact hc
  · exact h.gc k hk
  · exact hv
  · exact h.gv k hk
theorem Fit.pos (h : Fit T G M) : 0 ≤ M := by have := h.v 0 (by omega); omega
theorem Fit.nextTo (h : Fit T G M) (k : Nat) (hk : k ≤ 8) : 0 ≤ (nextTo T G k).2 ∧ (nextTo T G k).2 ≤ M := by
  induction k with
  | zero => exact ⟨Int.le_refl _, h.pos⟩
  | succ k ih =>
    unfold Fr.nextTo
    split
    · exact h.gv (k + 1) (by omega)
    · exact ih (by omega)
theorem Fit.next (h : Fit T G M) : 0 ≤ (next T G).2 ∧ (next T G).2 ≤ M := by
  unfold Fr.next
  split
  · exact h.v _ (first_lt T 0)
  · exact h.nextTo 8 (Nat.le_refl _)
theorem Fit.woke (h : Fit T G M) {t : Nat} (h1 : 1 ≤ t) (h2 : t ≤ 16) (hc : (T t).c ≠ 0) : Fit (wokeT T G t) (wokeG T G t) M := by
  have hn := h.next
  have a1 := h.c t (by omega)
  have a2 := h.v t (by omega)
  have a3 := h.g t (by omega)
  by_cases e : (T t).g = 0
  · rw [wokeT_0 e, wokeG_0 e]
    exact h.upd_t h1 ⟨(T t).c, max (T t).v (Fr.next T G).2, (T t).g, true⟩ a1 (by first | omega | (simp only; omega)) a3 (fun _ => hc)
  · by_cases f : first T (T t).g = 0
    · rw [wokeT_1 e f, wokeG_1 e f]
      have b1 := h.gc (T t).g.toNat (by omega)
      have b2 := h.gv (T t).g.toNat (by omega)
      exact (h.upd_t h1 ⟨(T t).c, (T t).v, (T t).g, true⟩ a1 a2 a3 (fun _ => hc)).upd_g ⟨(G (T t).g.toNat).c, max (G (T t).g.toNat).v (Fr.next T G).2⟩ b1 (by first | omega | (simp only; omega))
    · rw [wokeT_2 e f, wokeG_2 f]
      have b2 := h.v _ (first_lt T (T t).g)
      exact h.upd_t h1 ⟨(T t).c, max (T t).v (T (first T (T t).g)).v, (T t).g, true⟩ a1 (by first | omega | (simp only; omega)) a3 (fun _ => hc)
theorem Fit.tick (h : Fit T G M) {n : Nat} (h1 : 1 ≤ n) (h2 : n ≤ 16) : Fit (tickT T n) (tickG T G n) (M + 1048576) := by
  have a1 := h.c n (by omega)
  have a2 := h.v n (by omega)
  have a3 := h.g n (by omega)
  have hh := h.mono (show M ≤ M + 1048576 by omega)
  have ht := hh.upd_t h1 ⟨(T n).c, (T n).v + (T n).c, (T n).g, (T n).r⟩ a1 (by first | omega | (simp only; omega)) a3 (h.rc n (by omega))
  unfold tickG tickT
  split
  · exact ht
  · have b1 := h.gc (T n).g.toNat (by omega)
    have b2 := h.gv (T n).g.toNat (by omega)
    exact ht.upd_g ⟨(G (T n).g.toNat).c, (G (T n).g.toNat).v + (G (T n).g.toNat).c⟩ b1 (by first | omega | (simp only; omega))
end

section
variable {L : List (Nat × Nat)} {T T' : Tks} {G G' : Grs} {W GW : Nat → Int}
theorem woke_cg (T : Tks) (G : Grs) (t : Nat) : (∀ k, (wokeT T G t k).c = (T k).c ∧ (wokeT T G t k).g = (T k).g) ∧ ∀ g, (wokeG T G t g).c = (G g).c := by
  constructor
  · intro k
    unfold wokeT
    split
    · unfold upd; split
      · rename_i e; subst e; exact ⟨rfl, rfl⟩
      · exact ⟨rfl, rfl⟩
    · split
      · unfold upd; split
        · rename_i e; subst e; exact ⟨rfl, rfl⟩
        · exact ⟨rfl, rfl⟩
      · unfold upd; split
        · rename_i e; subst e; exact ⟨rfl, rfl⟩
        · exact ⟨rfl, rfl⟩
  · intro g
    unfold wokeG
    split
    · unfold upd; split
      · rename_i e; subst e; rfl
      · rfl
    · rfl
theorem Fit.add {T : Tks} {G : Grs} {M a : Int} (h : Fit T G M) {t : Nat} (h1 : 1 ≤ t) (ha : isW a = true) {m : Int} (h0 : 0 ≤ m) (h8 : m ≤ 8) : Fit (upd T t ⟨costOf a, 0, m, false⟩) G M :=
  h.upd_t h1 _ (costOf_bd ha) ⟨by simp, by have := h.pos; simp only; omega⟩ ⟨h0, h8⟩ (fun e => by cases e)
end
end Go.Proofs.Ytpincdcebhmnhaa.Fr
