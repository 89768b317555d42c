/- A class of fair shares and its reference, step by step: what is known behind each call. -/
import Derived.Test.YtkjcaainbomemaaFTells
import Derived.Test.YtkjcaainbomemaaFOps
import Derived.Test.YtkjcaainbomemaaPtDel
import Derived.Test.YtkjcaainbomemaaRefW
import Derived.Test.YtkjcaainbomemaaAt
namespace Go.Proofs.Ytkjcaainbomemaa.Fr
open Go.ChangeShapes Go.WideShapes Go.ChangeAt Go.RowKit Go.Maps
open Go.Proofs.Ytkjcaainbomemaa.Vt Go.Proofs.Ytkjcaainbomemaa.Pt
set_option linter.unusedVariables false

section
variable {T : Tks} {G : Grs} {M : Int}
theorem Fit.upd_t (h : Fit T G M) {t : Nat} (h1 : 1 ≤ t) (x : Tk) (hc : 0 ≤ x.c ∧ x.c ≤ 1048576) (hv : 0 ≤ x.v ∧ x.v ≤ M) (hg : 0 ≤ x.g ∧ x.g ≤ 8) (hr : x.r = true → x.c ≠ 0) : Fit (upd T t x) G M := by
  refine ⟨fun k hk => ?_, fun k hk => ?_, fun k hk => ?_, h.gc, h.gv, by rw [upd_other _ _ (by omega)]; exact h.no, fun k hk => ?_⟩
  all_goals unfold upd; split
  · exact hc
  · exact h.c k hk
  · exact hv
  · exact h.v k hk
  · exact hg
  · exact h.g k hk
  · exact hr
  · exact h.rc k hk
theorem Fit.upd_g (h : Fit T G M) {g : Nat} (x : Gr) (hc : 0 ≤ x.c ∧ x.c ≤ 1048576) (hv : 0 ≤ x.v ∧ x.v ≤ M) : Fit T (upd G g x) M := by
  refine ⟨h.c, h.v, h.g, fun k hk => ?_, fun k hk => ?_, h.no, h.rc⟩
  all_goals unfold upd; split
  · exact hc
  · exact h.gc k hk
  · exact hv
  · exact h.gv k hk
theorem Fit.pos (h : Fit T G M) : 0 ≤ M := by have := h.v 0 (by omega); omega
theorem Fit.nextTo (h : Fit T G M) (k : Nat) (hk : k ≤ 8) : 0 ≤ (nextTo T G k).2 ∧ (nextTo T G k).2 ≤ M := by
  induction k with
  | zero => exact ⟨Int.le_refl _, h.pos⟩
  | succ k ih =>
    unfold Fr.nextTo
    split
    · exact h.gv (k + 1) (by omega)
    · exact ih (by omega)
theorem Fit.next (h : Fit T G M) : 0 ≤ (next T G).2 ∧ (next T G).2 ≤ M := by
  unfold Fr.next
  split
  · exact h.v _ (first_lt T 0)
  · exact h.nextTo 8 (Nat.le_refl _)
theorem Fit.woke (h : Fit T G M) {t : Nat} (h1 : 1 ≤ t) (h2 : t ≤ 16) (hc : (T t).c ≠ 0) : Fit (wokeT T G t) (wokeG T G t) M := by
  have hn := h.next
  have a1 := h.c t (by omega)
  have a2 := h.v t (by omega)
  have a3 := h.g t (by omega)
  by_cases e : (T t).g = 0
  · rw [wokeT_0 e, wokeG_0 e]
    exact h.upd_t h1 ⟨(T t).c, max (T t).v (Fr.next T G).2, (T t).g, true⟩ a1 (by first | omega | (simp only; omega)) a3 (fun _ => hc)
  · by_cases f : first T (T t).g = 0
    · rw [wokeT_1 e f, wokeG_1 e f]
      have b1 := h.gc (T t).g.toNat (by omega)
      have b2 := h.gv (T t).g.toNat (by omega)
      exact (h.upd_t h1 ⟨(T t).c, (T t).v, (T t).g, true⟩ a1 a2 a3 (fun _ => hc)).upd_g ⟨(G (T t).g.toNat).c, max (G (T t).g.toNat).v (Fr.next T G).2⟩ b1 (by first | omega | (simp only; omega))
    · rw [wokeT_2 e f, wokeG_2 f]
      have b2 := h.v _ (first_lt T (T t).g)
      exact h.upd_t h1 ⟨(T t).c, max (T t).v (T (first T (T t).g)).v, (T t).g, true⟩ a1 (by first | omega | (simp only; omega)) a3 (fun _ => hc)
theorem Fit.tick (h : Fit T G M) {n : Nat} (h1 : 1 ≤ n) (h2 : n ≤ 16) : Fit (tickT T n) (tickG T G n) (M + 1048576) := by
  have a1 := h.c n (by omega)
  have a2 := h.v n (by omega)
  have a3 := h.g n (by omega)
  have hh := h.mono (show M ≤ M + 1048576 by omega)
  have ht := hh.upd_t h1 ⟨(T n).c, (T n).v + (T n).c, (T n).g, (T n).r⟩ a1 (by first | omega | (simp only; omega)) a3 (h.rc n (by omega))
  unfold tickG tickT
  split
  · exact ht
  · have b1 := h.gc (T n).g.toNat (by omega)
    have b2 := h.gv (T n).g.toNat (by omega)
    exact ht.upd_g ⟨(G (T n).g.toNat).c, (G (T n).g.toNat).v + (G (T n).g.toNat).c⟩ b1 (by first | omega | (simp only; omega))
end

section
variable {L : List (Nat × Nat)} {T T' : Tks} {G G' : Grs} {W GW : Nat → Int}
theorem Same.congr (h : Same L T G W GW) (hT : ∀ t, (T' t).c = (T t).c ∧ (T' t).g = (T t).g) (hG : ∀ g, (G' g).c = (G g).c) : Same L T' G' W GW :=
  ⟨h.num, fun t ht hc => h.all t ht (by rw [← (hT t).1]; exact hc), fun x hx => ⟨(h.wt x hx).1, by rw [(hT _).1]; exact (h.wt x hx).2⟩, fun g hg hc => by rw [hG] at hc ⊢; exact h.gw g hg hc, by rw [hG]; exact h.g0, fun x hx => by rw [(hT _).2, hG]; exact h.tg x hx⟩
theorem woke_cg (T : Tks) (G : Grs) (t : Nat) : (∀ k, (wokeT T G t k).c = (T k).c ∧ (wokeT T G t k).g = (T k).g) ∧ ∀ g, (wokeG T G t g).c = (G g).c := by
  constructor
  · intro k
    unfold wokeT
    split
    · unfold upd; split
      · rename_i e; subst e; exact ⟨rfl, rfl⟩
      · exact ⟨rfl, rfl⟩
    · split
      · unfold upd; split
        · rename_i e; subst e; exact ⟨rfl, rfl⟩
        · exact ⟨rfl, rfl⟩
      · unfold upd; split
        · rename_i e; subst e; exact ⟨rfl, rfl⟩
        · exact ⟨rfl, rfl⟩
  · intro g
    unfold wokeG
    split
    · unfold upd; split
      · rename_i e; subst e; rfl
      · rfl
    · rfl
theorem Same.woke (h : Same L T G W GW) (t : Nat) : Same L (wokeT T G t) (wokeG T G t) W GW := h.congr (woke_cg T G t).1 (woke_cg T G t).2
theorem Same.tick (h : Same L T G W GW) (n : Nat) : Same L (tickT T n) (tickG T G n) W GW := by
  refine h.congr (fun t => ?_) (fun g => ?_)
  · unfold tickT upd; split
    · rename_i e; subst e; exact ⟨rfl, rfl⟩
    · exact ⟨rfl, rfl⟩
  · unfold tickG; split
    · rfl
    · unfold upd; split
      · rename_i e; subst e; rfl
      · rfl
theorem Same.set_r (h : Same L T G W GW) (t : Nat) (r : Bool) : Same L (upd T t ⟨(T t).c, (T t).v, (T t).g, r⟩) G W GW := by
  refine h.congr (fun k => ?_) (fun g => rfl)
  unfold upd; split
  · rename_i e; subst e; exact ⟨rfl, rfl⟩
  · exact ⟨rfl, rfl⟩
theorem Same.group (h : Same L T G W GW) (g : Nat) (h1 : 1 ≤ g) (a : Int) (ha : isW a = true) : Same L T (upd G g ⟨costOf a, (G g).v⟩) W (upd GW g a) := by
  refine ⟨h.num, h.all, h.wt, fun k hk hc => ?_, by rw [upd_other _ _ (by omega)]; exact h.g0, fun x hx => ?_⟩
  · by_cases e : k = g
    · subst e; rw [upd_same, upd_same]; exact ⟨ha, rfl⟩
    · rw [upd_other _ _ e] at hc ⊢; rw [upd_other _ _ e]; exact h.gw k hk hc
  · rcases h.tg x hx with q | q
    · exact Or.inl q
    · right
      unfold upd; split
      · have := costOf_lo ha; simp only; omega
      · exact q
theorem Same.add (h : Same L T G W GW) {b t : Nat} (h1 : 1 ≤ t) (h2 : t ≤ 16) {a : Int} (ha : isW a = true) {g : Nat} (hg : g = 0 ∨ (G g).c ≠ 0) (hno : (T t).c = 0) : Same (L ++ [(b, t)]) (upd T t ⟨costOf a, 0, g, false⟩) G (upd W t a) GW := by
  have hne : ∀ x ∈ L, x.2 ≠ t := fun x hx e => h.there hx (by rw [e]; exact hno)
  refine ⟨fun x hx => ?_, fun k hk hc => ?_, fun x hx => ?_, h.gw, h.g0, fun x hx => ?_⟩
  · rcases List.mem_append.1 hx with e | e
    · exact h.num x e
    · simp at e; subst e; exact ⟨h1, h2⟩
  · by_cases e : k = t
    · subst e; exact ⟨b, by simp⟩
    · rw [upd_other _ _ e] at hc
      obtain ⟨b', hb'⟩ := h.all k hk hc
      exact ⟨b', by simp [hb']⟩
  · rcases List.mem_append.1 hx with e | e
    · rw [upd_other _ _ (hne x e), upd_other _ _ (hne x e)]; exact h.wt x e
    · simp at e; subst e; simp only; rw [upd_same, upd_same]; exact ⟨ha, rfl⟩
  · rcases List.mem_append.1 hx with e | e
    · rw [upd_other _ _ (hne x e)]; exact h.tg x e
    · simp at e; subst e; simp only; rw [upd_same]
      rcases hg with q | q
      · left; simp [q]
      · right; simpa using q
/-- The list without a block. -/
def without (L : List (Nat × Nat)) (b : Nat) : List (Nat × Nat) := L.filter fun x => !decide (x.1 = b)
theorem mem_without {b : Nat} {x : Nat × Nat} : x ∈ without L b ↔ x ∈ L ∧ x.1 ≠ b := by unfold without; simp
theorem Same.leave (h : Same L T G W GW) {b t : Nat} (hx : (b, t) ∈ L) (hb : ∀ y ∈ L, y.1 = b ↔ y.2 = t) : Same (without L b) (upd T t ⟨0, 0, 0, false⟩) G W GW := by
  refine ⟨fun x hx => h.num x (mem_without.1 hx).1, fun k hk hc => ?_, fun x hx => ?_, h.gw, h.g0, fun x hx => ?_⟩
  · by_cases e : k = t
    · subst e; rw [upd_same] at hc; exact absurd rfl hc
    · rw [upd_other _ _ e] at hc
      obtain ⟨b', hb'⟩ := h.all k hk hc
      exact ⟨b', mem_without.2 ⟨hb', fun e' => e ((hb _ hb').1 e')⟩⟩
  · obtain ⟨h1, h2⟩ := mem_without.1 hx
    have : x.2 ≠ t := fun e => h2 ((hb x h1).2 e)
    rw [upd_other _ _ this]; exact h.wt x h1
  · obtain ⟨h1, h2⟩ := mem_without.1 hx
    have : x.2 ≠ t := fun e => h2 ((hb x h1).2 e)
    rw [upd_other _ _ this]; exact h.tg x h1
end

/-- A class that has gone ahead, and its reference that has not yet. -/
structure Duet (B : Nat) (w : World) (p q : Nat) (L : List (Nat × Nat)) (T : Tks) (G : Grs) (W GW : Nat → Int) (T' : Tks) (G' : Grs) : Prop where
  fair : FairAt w p T' G'
  ref : RefAt B w q L T G W GW
  new : B ≤ p

section
variable {B : Nat} {w w' : World} {p q : Nat} {L : List (Nat × Nat)} {T T' : Tks} {G G' : Grs} {W GW : Nat → Int} {M : Int}
theorem Duet.apart (h : Duet B w p q L T G W GW T' G') : p ≠ q ∧ (∀ x ∈ L, x.1 ≠ p) ∧ ∀ V, RowAt w B V (L.map (·.1)) → ∀ g, V.ownBlock = some g → g ≠ p := by
  obtain ⟨cs, hp, -⟩ := h.fair
  obtain ⟨⟨cs', V, hq, -, hr, -⟩, ht, -⟩ := h.ref
  refine ⟨fun e => ?_, fun x hx e => ?_, fun V hV g hg e => ?_⟩
  · subst e; rw [hp] at hq; injection hq with h1; injection h1 with _ h2; exact absurd h2 (by decide)
  · have := ht x hx
    rw [e, hp] at this; unfold taskCells at this; injection this with h1; injection h1 with _ h2; exact absurd h2 (by decide)
  · subst e
    obtain ⟨cur, hc⟩ := owns_type hV hg
    rw [hp] at hc; injection hc with h1; injection h1 with _ h2; exact absurd h2 (by decide)
theorem Both.duet (h : Both B w p q L T G W GW M) : Duet B w p q L T G W GW T G := ⟨h.fair, h.ref, h.new⟩
theorem Duet.later (h : Duet B w p q L T G W GW T' G') (hO : Only (fun _ => False) w w') : Duet B w' p q L T G W GW T' G' := ⟨h.fair.later hO, h.ref.later hO, h.new⟩

/-- The class goes ahead. -/
theorem Duet.ahead (h : Duet B w p q L T G W GW T' G') {T2 : Tks} {G2 : Grs} (hF : FairAt w' p T2 G2) (hO : Only (fun k => k = p) w w') : Duet B w' p q L T G W GW T2 G2 := by
  obtain ⟨a1, a2, a3⟩ := h.apart
  obtain ⟨hf, ⟨⟨cs, V, h1, h2, h3, h4⟩, h5, h6, h7, h8, h9⟩, hn⟩ := h
  exact ⟨hF, ⟨⟨cs, V, (hO.block q (block_there h1) (Ne.symm a1)).trans h1, h2, h3.keep hO (fun g hg e => a3 V h3 g hg e), h4⟩, fun x hx => (hO.block x.1 (block_there (h5 x hx)) (a2 x hx)).trans (h5 x hx), h6, h7, h8, h9⟩, hn⟩
/-- The reference follows. -/
theorem Duet.follow (h : Duet B w p q L T G W GW T' G') {S : Nat → Prop} {L2 : List (Nat × Nat)} {T2 : Tks} {G2 : Grs} {W2 GW2 : Nat → Int} (hR : RefAt B w' q L2 T2 G2 W2 GW2) (hO : Only S w w') (hS : ¬ S p) : Duet B w' p q L2 T2 G2 W2 GW2 T' G' := ⟨h.fair.keep hO hS, hR, h.new⟩

theorem below_p (h : B ≤ p) (hO : Only (fun k => k = p) w w') (hB : B ≤ w.heap.size) : Below B w w' := hO.below hB (fun x e => by omega)
end
end Go.Proofs.Ytkjcaainbomemaa.Fr
