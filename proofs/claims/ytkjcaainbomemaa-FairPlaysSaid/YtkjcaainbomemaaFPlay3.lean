/- How each play of FairPlays ends. -/
import Derived.Test.YtkjcaainbomemaaFBox
namespace Go.Proofs.Ytkjcaainbomemaa.Fr
open Go.ChangeShapes Go.WideShapes Go.ChangeAt Go.RowKit Go.Maps
open Go.Proofs.Ytkjcaainbomemaa.Vt Go.Proofs.Ytkjcaainbomemaa.Pt
set_option linter.unusedVariables false

section
variable {B : Nat} {w w' w1 w0 : World} {p q b t k n : Nat} {L : List (Nat × Nat)} {T T' : Tks} {G G' : Grs} {W GW : Nat → Int} {M M' a : Int}

theorem RefAt.low (h : RefAt B w q L T G W GW) : B ≤ w.heap.size := by have := h.lt; have := h.from'.1; omega
theorem Duet.both (h : Duet B w p q L T G W GW T G) (hs : Same L T G W GW) (hf : Fit T G M) : Both B w p q L T G W GW M := ⟨h.fair, h.ref, hs, hf, h.new⟩

theorem group_end (hD : Duet B w p q L T G W GW T (upd G k ⟨costOf a, (G k).v⟩)) (hb : Both B w1 p q L T G W GW M) (hM : M ≤ M') (k1 : 1 ≤ k) (k8 : k ≤ 8) (ha : isW a = true) (hbl : Below B w0 w) :
    Both B (((w.setCell ⟨q, 1 + k * 3, none⟩ (.bool true)).setCell ⟨q, 1 + k * 3 + 1, none⟩ (.int .i64 a)).drew) p q L T (upd G k ⟨costOf a, (G k).v⟩) W (upd GW k a) M' ∧ Below B w0 (((w.setCell ⟨q, 1 + k * 3, none⟩ (.bool true)).setCell ⟨q, 1 + k * 3 + 1, none⟩ (.int .i64 a)).drew) := by
  have o1 : Only (fun x => x = q) w (w.setCell ⟨q, 1 + k * 3, none⟩ (.bool true)) := (Only.refl (fun x => x = q) w).setCell (p := ⟨q, 1 + k * 3, none⟩) rfl _
  have o2 : Only (fun x => x = q) w _ := o1.setCell (p := ⟨q, 1 + k * 3 + 1, none⟩) rfl (.int .i64 a)
  have o3 : Only (fun x => x = q) w _ := o2.drew
  have r1 := (hD.ref.set_is k (by omega) (costOf a) (by have := costOf_lo ha; omega)).set_gw k (by omega) a
  have r2 := r1.later (w' := (((w.setCell ⟨q, 1 + k * 3, none⟩ (.bool true)).setCell ⟨q, 1 + k * 3 + 1, none⟩ (.int .i64 a)).drew)) ((Only.refl (fun _ => False) _).drew)
  have c := costOf_bd ha
  have v := hb.fit.gv k (by omega)
  exact ⟨(hD.follow r2 o3 hD.apart.1).both (hb.same.group k k1 a ha) ((hb.fit.mono hM).upd_g _ c ⟨v.1, by have := v.2; simp only; omega⟩), hbl.trans (o3.below hD.ref.low (fun x e => by rw [e]; exact hD.ref.from'.1))⟩

/-- The task's count is stored. -/
theorem tick_mid (hD : Duet B w p q L T G W GW T' G') (hm : (b, n) ∈ L) (hbl : Below B w0 w) :
    Duet B (w.setCell ⟨b, 3, none⟩ (.int .i64 ((T n).v + (T n).c))) p q L (tickT T n) G W GW T' G' ∧ Below B w0 (w.setCell ⟨b, 3, none⟩ (.int .i64 ((T n).v + (T n).c))) := by
  have o1 : Only (fun x => x = b) w (w.setCell ⟨b, 3, none⟩ (.int .i64 ((T n).v + (T n).c))) := (Only.refl (fun x => x = b) w).setCell (p := ⟨b, 3, none⟩) rfl _
  exact ⟨hD.follow (hD.ref.set_v hm ((T n).v + (T n).c)) o1 (fun e => hD.apart.2.1 _ hm e.symm), hbl.trans (o1.below hD.ref.low (fun x e => by rw [e]; exact hD.ref.from'.2 _ hm))⟩

theorem tick_end0 (hD : Duet B w p q L (tickT T n) G W GW (tickT T n) (tickG T G n)) (hg : (T n).g = 0) (hs : Same L (tickT T n) (tickG T G n) W GW) (hf : Fit (tickT T n) (tickG T G n) M) :
    Both B w p q L (tickT T n) (tickG T G n) W GW M := by
  have e : tickG T G n = G := by unfold tickG; rw [if_pos hg]
  rw [e] at hD hs hf ⊢
  exact hD.both hs hf

/-- The group's count is stored. -/
theorem tick_end1 (hD : Duet B w p q L (tickT T n) G W GW (tickT T n) (tickG T G n)) (hg : (T n).g = k) (k1 : 1 ≤ k) (k8 : k ≤ 8) (hs : Same L (tickT T n) (tickG T G n) W GW) (hf : Fit (tickT T n) (tickG T G n) M) (hbl : Below B w0 w) :
    Both B (w.setCell ⟨q, 1 + k * 3 + 2, none⟩ (.int .i64 ((G k).v + (G k).c))) p q L (tickT T n) (tickG T G n) W GW M ∧ Below B w0 (w.setCell ⟨q, 1 + k * 3 + 2, none⟩ (.int .i64 ((G k).v + (G k).c))) := by
  have e : tickG T G n = upd G k ⟨(G k).c, (G k).v + (G k).c⟩ := by unfold tickG; rw [if_neg (by omega), hg]; rfl
  rw [e] at hD hs hf ⊢
  have o1 : Only (fun x => x = q) w (w.setCell ⟨q, 1 + k * 3 + 2, none⟩ (.int .i64 ((G k).v + (G k).c))) := (Only.refl (fun x => x = q) w).setCell (p := ⟨q, 1 + k * 3 + 2, none⟩) rfl _
  exact ⟨(hD.follow (hD.ref.set_gv k (by omega) ((G k).v + (G k).c)) o1 hD.apart.1).both hs hf, hbl.trans (o1.below hD.ref.low (fun x e => by rw [e]; exact hD.ref.from'.1))⟩

/-- What of the others' counts a task's count leaves. -/
theorem tickT_g (n : Nat) : (tickT T n n).g = (T n).g := by unfold tickT; rw [upd_same]

theorem block_end (hD : Duet B w p q L T G W GW (upd T t ⟨(T t).c, (T t).v, (T t).g, false⟩) G) (hb : Both B w1 p q L T G W GW M) (hM : M ≤ M') (hm : (b, t) ∈ L) (hbl : Below B w0 w) :
    Both B (w.setCell ⟨b, 4, none⟩ (.bool false)) p q L (upd T t ⟨(T t).c, (T t).v, (T t).g, false⟩) G W GW M' ∧ Below B w0 (w.setCell ⟨b, 4, none⟩ (.bool false)) := by
  have o1 : Only (fun x => x = b) w (w.setCell ⟨b, 4, none⟩ (.bool false)) := (Only.refl (fun x => x = b) w).setCell (p := ⟨b, 4, none⟩) rfl _
  have ht := hb.same.num _ hm
  simp only at ht
  have v := hb.fit.v t (by omega)
  exact ⟨(hD.follow (hD.ref.set_r hm false) o1 (fun e => hD.apart.2.1 _ hm e.symm)).both (hb.same.set_r t false) ((hb.fit.mono hM).upd_t ht.1 _ (hb.fit.c t (by omega)) ⟨v.1, by have := v.2; simp only; omega⟩ (hb.fit.g t (by omega)) (fun e => by cases e)), hbl.trans (o1.below hD.ref.low (fun x e => by rw [e]; exact hD.ref.from'.2 _ hm))⟩

theorem woke_end (hD : Duet B w p q L T G W GW (wokeT T G t) (wokeG T G t)) (hs : Same L T G W GW) (hf : Fit T G M) (hM : M ≤ M') (hm : (b, t) ∈ L) (hc : (T t).c ≠ 0) {e : Ending} (hw : WokeAns B w q b L (wokeT T G t) (wokeG T G t) W GW e w') (hbl : Below B w0 w) :
    e = .returned (.tuple #[]) ∧ Both B w' p q L (wokeT T G t) (wokeG T G t) W GW M' ∧ Below B w0 w' := by
  obtain ⟨rfl, hR, hO⟩ := hw
  have ht := hs.num _ hm
  simp only at ht
  refine ⟨rfl, (hD.follow hR hO (fun e => ?_)).both (hs.woke t) ((hf.mono hM).woke ht.1 ht.2 hc), hbl.trans (hO.below hD.ref.low (fun x e => ?_))⟩
  · rcases e with e | e
    · exact hD.apart.1 e
    · exact hD.apart.2.1 _ hm e.symm
  · rcases e with e | e
    · rw [e]; exact hD.ref.from'.1
    · rw [e]; exact hD.ref.from'.2 _ hm

/-- A task that is in the list is there. -/
theorem Same.cost (hs : Same L T G W GW) (hm : (b, t) ∈ L) : (T t).c ≠ 0 := by
  have := hs.wt _ hm
  have c := costOf_lo this.1
  have e := this.2
  simp only at c e
  omega
end
end Go.Proofs.Ytkjcaainbomemaa.Fr
