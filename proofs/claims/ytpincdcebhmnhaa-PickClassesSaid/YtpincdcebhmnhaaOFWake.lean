/- Contracts of package fair: Pick, and wake, what a task and its group have behind it. -/
import Derived.Test.YtpincdcebhmnhaaOFNext
namespace Go.Proofs.Ytpincdcebhmnhaa.Fr
open Go.ChangeShapes Go.WideShapes Go.ChangeAt Go.RowKit Go.Maps
set_option linter.unusedVariables false

/-- What Pick answers. -/
def pickAns (T : Tks) (G : Grs) : Int × Int := if (next T G).1 = 0 then (0, 4) else (((next T G).1 : Int), 0)

theorem pick_any {w : World} {p o D : Nat} {T : Tks} {G : Grs} (h : FairAt w p o D T G) :
    Calls Try.prog 33 #[.pointer (some ⟨p, o, none⟩)] w fun e w' => e = .returned (.tuple #[.int .i64 (pickAns T G).1, .int .i64 (pickAns T G).2]) ∧ Only (fun _ => False) w w' := by
  have c1 := Lib.hid (next_any h)
  have HP : Hid (pickAns T G = if (next T G).1 = 0 then (0, 4) else (((next T G).1 : Int), 0)) := Lib.hid rfl
  clear h
  generalize next T G = x at *
  obtain ⟨n, v⟩ := x
  simp only at *
  by_cases hn : n = 0
  · have HE : Hid (pickAns T G = (0, 4)) := by have := HP.out; rw [if_pos hn] at this; exact Lib.hid this
    have hn0 : ((n : Int) == 0) = true := by simp [hn]
    clear HP hn
    go_enter Try.func33, Try.ntmps33
    go_wp2_with (go_at_call 45; (with_reducible refine c1.out.mono ?_); rintro e w1 ⟨rfl, hO1⟩; have HO1 := Lib.hid hO1; clear hO1)
    go_ret2
    exact ⟨by rw [HE.out]; rfl, HO1.out⟩
  · have HE : Hid (pickAns T G = ((n : Int), 0)) := by have := HP.out; rw [if_neg hn] at this; exact Lib.hid this
    have hn0 : ((n : Int) == 0) = false := by simp [hn]
    clear HP hn
    go_enter Try.func33, Try.ntmps33
    go_wp2_with (go_at_call 45; (with_reducible refine c1.out.mono ?_); rintro e w1 ⟨rfl, hO1⟩; have HO1 := Lib.hid hO1; clear hO1)
    go_ret2
    exact ⟨by rw [HE.out]; rfl, HO1.out⟩

/-- The tasks behind a task's waking up. -/
def wokeT (T : Tks) (G : Grs) (t : Nat) : Tks :=
  if (T t).g = 0 then upd T t ⟨(T t).c, max (T t).v (next T G).2, (T t).g, true⟩
  else if first T (T t).g = 0 then upd T t ⟨(T t).c, (T t).v, (T t).g, true⟩
  else upd T t ⟨(T t).c, max (T t).v (T (first T (T t).g)).v, (T t).g, true⟩
/-- The groups behind a task's waking up. -/
def wokeG (T : Tks) (G : Grs) (t : Nat) : Grs :=
  if (T t).g ≠ 0 ∧ first T (T t).g = 0 then upd G (T t).g.toNat ⟨(G (T t).g.toNat).c, max (G (T t).g.toNat).v (next T G).2⟩ else G

section
variable {T : Tks} {G : Grs} {t : Nat}
theorem wokeT_0 (hg : (T t).g = 0) : wokeT T G t = upd T t ⟨(T t).c, max (T t).v (next T G).2, (T t).g, true⟩ := by unfold wokeT; rw [if_pos hg]
theorem wokeT_1 (hg : (T t).g ≠ 0) (hf : first T (T t).g = 0) : wokeT T G t = upd T t ⟨(T t).c, (T t).v, (T t).g, true⟩ := by unfold wokeT; rw [if_neg hg, if_pos hf]
theorem wokeT_2 (hg : (T t).g ≠ 0) (hf : first T (T t).g ≠ 0) : wokeT T G t = upd T t ⟨(T t).c, max (T t).v (T (first T (T t).g)).v, (T t).g, true⟩ := by unfold wokeT; rw [if_neg hg, if_neg hf]
theorem wokeG_0 (hg : (T t).g = 0) : wokeG T G t = G := by unfold wokeG; rw [if_neg (fun q => q.1 hg)]
theorem wokeG_1 (hg : (T t).g ≠ 0) (hf : first T (T t).g = 0) : wokeG T G t = upd G (T t).g.toNat ⟨(G (T t).g.toNat).c, max (G (T t).g.toNat).v (next T G).2⟩ := by unfold wokeG; rw [if_pos ⟨hg, hf⟩]
theorem wokeG_2 (hf : first T (T t).g ≠ 0) : wokeG T G t = G := by unfold wokeG; rw [if_neg (fun q => hf q.2)]
end

theorem run_max2 (x y m : Int) (h : max x y = m) (w : World) (ts : Array TypeId) (t : TypeId) : (Builtin.max_ ts t #[.int .i64 x, .int .i64 y]).run Try.prog w = .ok (.int .i64 m) w := by
  subst h
  have e : (if y > x then y else x) = max x y := by rw [Int.max_def]; split <;> split <;> omega
  simp [Builtin.max_, Builtin.max2, e]

theorem upd_upd {α : Type} (f : Nat → α) (k : Nat) (x y : α) : upd (upd f k x) k y = upd f k y := by
  funext j; unfold upd; split <;> simp_all

section
variable {w : World} {p o D : Nat} {T : Tks} {G : Grs}
theorem FairAt.drew (h : FairAt w p o D T G) : FairAt w.drew p o D T G := h
theorem FairAt.set_tvr (h : FairAt w p o D T G) (t : Nat) (ht : t < 17) (x : Int) (b : Bool) : FairAt ((w.setCell ⟨p, o + t * 4 + 1, none⟩ (.int .i64 x)).setCell ⟨p, o + t * 4 + 3, none⟩ (.bool b)) p o D (upd T t ⟨(T t).c, x, (T t).g, b⟩) G := by
  have := (h.set_tv t ht x).set_tr t ht b
  rwa [upd_upd, upd_same] at this
end

theorem only_set1 {w w2 : World} {p o : Nat} (hp : p < w.heap.size) (h : Only (fun _ => False) w w2) (i : Nat) (u : Value) (hi : o ≤ i ∧ i < o + 86) : Within p o 86 w (w2.setCell ⟨p, i, none⟩ u) := (Within.of hp h).setCell hi u
theorem only_set2 {w w2 : World} {p o : Nat} (hp : p < w.heap.size) (h : Only (fun _ => False) w w2) (i j : Nat) (u v : Value) (hi : o ≤ i ∧ i < o + 86) (hj : o ≤ j ∧ j < o + 86) : Within p o 86 w ((w2.setCell ⟨p, i, none⟩ u).setCell ⟨p, j, none⟩ v) :=
  (only_set1 hp h i u hi).setCell hj v

set_option maxHeartbeats 400000 in
set_option maxRecDepth 100000 in
theorem wake_any {w : World} {p o D : Nat} {T : Tks} {G : Grs} (h : FairAt w p o D T G) (t : Nat) (ht : t < 17) (hg0 : 0 ≤ (T t).g) (hg8 : (T t).g ≤ 8) :
    Calls Try.prog 32 #[.pointer (some ⟨p, o, none⟩), .pointer (some ⟨p, o + t * 4, none⟩)] w fun e w' => e = .returned (.tuple #[]) ∧ FairAt w' p o D (wokeT T G t) (wokeG T G t) ∧ Within p o 86 w w' := by
  have H := Lib.hid h
  have c1 := Lib.hid (next_any h)
  clear h
  have c2 := fun (w2 : World) (hO : Only (fun _ => False) w w2) => first_any (H.out.later hO) (T t).g
  have C2 := Lib.hid c2
  clear c2
  have hz := Lib.hid (next_lt T G)
  by_cases hg : (T t).g = 0
  · have HG0 := Lib.hid hg
    rw [hg] at C2
    have HT2 := Lib.hid (wokeT_0 (G := G) hg)
    have HG2 := Lib.hid (wokeG_0 (G := G) hg)
    clear hg
    obtain ⟨mx, hmx⟩ : ∃ mx, max (T t).v (next T G).2 = mx := ⟨_, rfl⟩
    have q := run_max2 _ _ _ hmx
    rw [hmx] at HT2
    clear hmx
    generalize next T G = x at *
    generalize first T 0 = f at *
    obtain ⟨n, top⟩ := x
    simp only at *
    go_enter Try.func32, Try.ntmps32
    go_wp2_with (first
      | (go_at_call 45; (with_reducible refine c1.out.mono ?_); rintro e w1 ⟨rfl, hO1⟩; have HO1 := Lib.hid hO1; clear hO1; have cg := (H.out.later HO1.out).tg t ht; rw [HG0.out] at cg)
      | (go_at_call 46; (with_reducible refine (C2.out _ HO1.out).mono ?_); rintro e w2 ⟨rfl, hO2⟩; have HO2 := Lib.hid (only_trans HO1.out hO2); clear hO2; have cg2 := (H.out.later HO2.out).tg t ht; rw [HG0.out] at cg2; have cv2 := (H.out.later HO2.out).tv t ht; have cr2 := (H.out.later HO2.out).tr t ht; have fz := (H.out.later HO2.out).frozen))
    go_end0
    refine ⟨rfl, ?_, ?_⟩
    · rw [HT2.out, HG2.out]
      exact (H.out.later HO2.out).set_tvr t ht mx true
    · exact only_set2 H.out.lt HO2.out _ _ _ _ (by omega) (by omega)
  · by_cases hf : first T (T t).g = 0
    · have HT2 := Lib.hid (wokeT_1 (G := G) hg hf)
      have HG2 := Lib.hid (wokeG_1 (G := G) hg hf)
      rw [hf] at C2
      obtain ⟨g, hgg⟩ : ∃ g : Nat, (T t).g = g := ⟨(T t).g.toNat, by omega⟩
      have HG0 := Lib.hid hgg
      rw [hgg] at C2
      have hgt : (T t).g.toNat = g := by omega
      rw [hgt] at HG2
      have g1 : (g : Int) < 9 := by omega
      have g2 : g < 9 := by omega
      have g3 : ((g : Int) == 0) = false := by simp; omega
      clear hg hf hgg hgt hg0 hg8
      obtain ⟨mx, hmx⟩ : ∃ mx, max (G g).v (next T G).2 = mx := ⟨_, rfl⟩
      have q := run_max2 _ _ _ hmx
      rw [hmx] at HG2
      clear hmx
      generalize next T G = x at *
      obtain ⟨n, top⟩ := x
      simp only at *
      go_enter Try.func32, Try.ntmps32
      go_wp2_with (first
      | (go_at_call 45; (with_reducible refine c1.out.mono ?_); rintro e w1 ⟨rfl, hO1⟩; have HO1 := Lib.hid hO1; clear hO1; have cg := (H.out.later HO1.out).tg t ht; rw [HG0.out] at cg)
      | (go_at_call 46; (with_reducible refine (C2.out _ HO1.out).mono ?_); rintro e w2 ⟨rfl, hO2⟩; have HO2 := Lib.hid (only_trans HO1.out hO2); clear hO2; have cg2 := (H.out.later HO2.out).tg t ht; rw [HG0.out] at cg2; have cv2 := (H.out.later HO2.out).tv t ht; have cr2 := (H.out.later HO2.out).tr t ht; have fz := (H.out.later HO2.out).frozen; have cx2 := (H.out.later HO2.out).gv g g2))
      refine wp_region_still_tail 21 (by kernel_rfl) (by kernel_rfl) ?_
      have HD : Hid (Only (fun _ => False) w w2.drew) := Lib.hid HO2.out.drew
      have cg3 : w2.drew.cell? ⟨p, o + t * 4 + 2, none⟩ = some (.int .i64 g) := cg2
      have cx3 : w2.drew.cell? ⟨p, o + 68 + g * 2 + 1, none⟩ = some (.int .i64 (G g).v) := cx2
      have cr3 : w2.drew.cell? ⟨p, o + t * 4 + 3, none⟩ = some (.bool (T t).r) := cr2
      have fz3 : ∀ j, w2.drew.frozen? ⟨p, j, none⟩ = false := fz
      show wpStill _ _ w2.drew (fun a' => wpList _ _ _ _ a' w2.drew) _ _
      generalize w2.drew = w3 at *
      simp only [List.take_succ_cons, List.take_zero, List.drop_succ_cons, List.drop_zero]
      repeat still_step
      refine wpStill_nil ?_
      go_wp2
      go_end0
      refine ⟨rfl, ?_, ?_⟩
      · rw [HT2.out, HG2.out]
        exact ((H.out.later HD.out).set_gv g g2 mx).set_tr t ht true
      · exact only_set2 H.out.lt HD.out _ _ _ _ (by omega) (by omega)
    · have HT2 := Lib.hid (wokeT_2 (G := G) hg hf)
      have HG2 := Lib.hid (wokeG_2 (G := G) hf)
      have hfl := first_lt T (T t).g
      obtain ⟨g, hgg⟩ : ∃ g : Nat, (T t).g = g := ⟨(T t).g.toNat, by omega⟩
      have HG0 := Lib.hid hgg
      rw [hgg] at C2 hf HT2 hfl
      have g3 : ((g : Int) == 0) = false := by simp; omega
      obtain ⟨f, hff⟩ : ∃ f, first T g = f := ⟨_, rfl⟩
      rw [hff] at HT2
      rw [hff] at C2 hf hfl
      have f1 : ((f : Int) != 0) = true := by simp; omega
      have f2 : (f : Int) < 17 := by omega
      clear hg hf hgg hg0 hg8 hff
      obtain ⟨mx, hmx⟩ : ∃ mx, max (T t).v (T f).v = mx := ⟨_, rfl⟩
      have q := run_max2 _ _ _ hmx
      rw [hmx] at HT2
      clear hmx
      generalize next T G = x at *
      obtain ⟨n, top⟩ := x
      simp only at *
      go_enter Try.func32, Try.ntmps32
      go_wp2_with (first
      | (go_at_call 45; (with_reducible refine c1.out.mono ?_); rintro e w1 ⟨rfl, hO1⟩; have HO1 := Lib.hid hO1; clear hO1; have cg := (H.out.later HO1.out).tg t ht; rw [HG0.out] at cg)
      | (go_at_call 46; (with_reducible refine (C2.out _ HO1.out).mono ?_); rintro e w2 ⟨rfl, hO2⟩; have HO2 := Lib.hid (only_trans HO1.out hO2); clear hO2; have cg2 := (H.out.later HO2.out).tg t ht; rw [HG0.out] at cg2; have cv2 := (H.out.later HO2.out).tv t ht; have cr2 := (H.out.later HO2.out).tr t ht; have fz := (H.out.later HO2.out).frozen; have cx2 := (H.out.later HO2.out).tv f hfl))
      refine wp_region_still_tail 18 (by kernel_rfl) (by kernel_rfl) ?_
      have HD : Hid (Only (fun _ => False) w w2.drew) := Lib.hid HO2.out.drew
      have cg3 : w2.drew.cell? ⟨p, o + t * 4 + 2, none⟩ = some (.int .i64 g) := cg2
      have cx3 : w2.drew.cell? ⟨p, o + f * 4 + 1, none⟩ = some (.int .i64 (T f).v) := cx2
      have cv3 : w2.drew.cell? ⟨p, o + t * 4 + 1, none⟩ = some (.int .i64 (T t).v) := cv2
      have cr3 : w2.drew.cell? ⟨p, o + t * 4 + 3, none⟩ = some (.bool (T t).r) := cr2
      have fz3 : ∀ j, w2.drew.frozen? ⟨p, j, none⟩ = false := fz
      show wpStill _ _ w2.drew (fun a' => wpList _ _ _ _ a' w2.drew) _ _
      generalize w2.drew = w3 at *
      simp only [List.take_succ_cons, List.take_zero, List.drop_succ_cons, List.drop_zero]
      repeat still_step
      refine wpStill_nil ?_
      go_wp2
      go_end0
      refine ⟨rfl, ?_, ?_⟩
      · have := (H.out.later HD.out).set_tvr t ht mx true
        rw [HG0.out] at this
        rw [HT2.out, HG2.out]; exact this
      · exact only_set2 H.out.lt HD.out _ _ _ _ (by omega) (by omega)
end Go.Proofs.Ytpincdcebhmnhaa.Fr
