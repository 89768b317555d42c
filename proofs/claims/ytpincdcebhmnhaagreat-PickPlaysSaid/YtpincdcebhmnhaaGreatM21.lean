/- Texts of this claim, merged: ODNextr, ODRefW, ODTickr, ODPtDelT, ODGone, PBits, PRef, PGo, PUnG. -/
import Derived.Test.YtpincdcebhmnhaaGreatM20
import Derived.Test.YtpincdcebhmnhaaGreatM19
import Derived.Test.YtpincdcebhmnhaaGreatM04
import Derived.BigRegion
import Derived.Test.YtpincdcebhmnhaaGreatM09
import Derived.Test.YtpincdcebhmnhaaGreatM08
import Derived.Test.YtpincdcebhmnhaaGreatM10
/- The reference's Next: whoever may go, and goes first. -/
namespace Go.Proofs.YtpincdcebhmnhaaGreat.De
open Go.ChangeShapes Go.WideShapes Go.ChangeAt Go.RowKit Go.Maps
open Go.Proofs.YtpincdcebhmnhaaGreat.Pd
set_option linter.unusedVariables false

/-- What Next answers. -/
def NextAns (w : World) (L : List (Nat × Nat)) (T : Tks) (e : Ending) (w' : World) : Prop :=
  ((e = .returned (.pointer none) ∧ pick T = 0) ∨ ∃ b, ((b, pick T) ∈ L ∧ pick T ≠ 0) ∧ e = .returned (pt b)) ∧ Only (fun _ => False) w w'

section
variable {L : List (Nat × Nat)} {T : Tks} {n : Int} {K : List Nat}
theorem next_empty (hs : Same L T) (hf : Fit T n) (hK : ∀ b : Nat, b ∈ ([] : List Nat) ↔ ∃ t, (b, t) ∈ L ∧ Can (T t)) : pick T = 0 := by
  apply Decidable.byContradiction
  intro h
  have hc := pick_can h
  obtain ⟨b, hb⟩ := hs.all _ (pick_lt T) (hf.rp _ (pick_lt T) hc.1)
  have := (hK b).2 ⟨_, hb, hc⟩
  cases this

theorem next_first (hs : Same L T) (hf : Fit T n) (hK : ∀ b : Nat, b ∈ K ↔ ∃ t, (b, t) ∈ L ∧ Can (T t)) {f : Nat → Nat} (hF : ∀ x ∈ L, f x.1 = x.2) {S : List Nat} (hP : S.Perm K) (hS : S.Pairwise fun x y => goesLt T f y x = false) (h0 : 0 < S.length) :
    (S.getD 0 0, pick T) ∈ L ∧ pick T ≠ 0 := by
  match S, h0 with
  | b :: r, _ =>
    show (b, pick T) ∈ L ∧ pick T ≠ 0
    obtain ⟨t, hb, hc⟩ := (hK b).1 (hP.mem_iff.1 (by simp))
    have ht := hs.num _ hb
    simp only at ht
    obtain ⟨h1, h2⟩ := pick_first hf.zero (show t < 17 by omega) hc
    refine ⟨?_, h1⟩
    have hc2 := pick_can h1
    obtain ⟨b2, hb2⟩ := hs.all _ (pick_lt T) (hf.rp _ (pick_lt T) hc2.1)
    have e1 := hF _ hb
    have e2 := hF _ hb2
    simp only at e1 e2
    have hm : b2 ∈ b :: r := hP.mem_iff.2 ((hK b2).2 ⟨_, hb2, hc2⟩)
    rcases List.mem_cons.1 hm with e | e
    · subst e
      exact hb2
    · have h3 := (List.pairwise_cons.1 hS).1 b2 e
      unfold goesLt at h3
      rw [e1, e2] at h3
      have h4 := of_decide_eq_false h3
      have : t = pick T := by omega
      rw [← this]; exact hb
end

set_option maxRecDepth 100000 in
set_option maxHeartbeats 1000000 in
theorem nextr_any {B : Nat} {w : World} {q o D : Nat} {L : List (Nat × Nat)} {T : Tks} {m0 : Int} (h : RefAt B w q o D L T m0) (hl : L.length ≤ 16) (hs : Same L T) (hf : Fit T m0) :
    Calls Tryz.prog 47 #[.pointer (some ⟨q, o, none⟩)] w (NextAns w L T) := by
  obtain ⟨V, c0, hr, -⟩ := h.slice
  obtain ⟨n, hn⟩ : ∃ n, (L.map (·.1)).length = n := ⟨_, rfl⟩
  obtain ⟨a, c, rfl, hc1, hc2, hc3⟩ := hr.shape hn
  have hln : L.length = n := by rw [← hn]; simp
  have HQ := Lib.hid h.lt
  have hq := h.lt
  have H := Lib.hid h
  have HR := Lib.hid hr
  have HLN := Lib.hid hln
  have hn16 : n ≤ 16 := by omega
  have HB0 : Hid (OfBox w.heap.size (w.alloc (.cells #[.slice none 0 0] 40)) (.slice none 0 0) (kept L T 0)) := Lib.hid ⟨heap_alloc_new w _, by unfold kept; simp only [List.take_zero, List.filter_nil, List.map_nil]; exact row_nil _ _⟩
  have HO0 := Lib.hid ((Only.refl (fun _ => False) w).alloc (.cells #[.slice none 0 0] 40))
  have HSM := Lib.hid hs
  have HFT := Lib.hid hf
  clear h hr hn hln hl hs hf
  go_enter Tryz.func47, Tryz.ntmps47
  go_wp2_with fail
  obtain ⟨Bo, hBo⟩ : ∃ Bo, w.heap.size = Bo := ⟨_, rfl⟩
  have HBo := Lib.hid hBo
  rw [hBo] at HB0
  rw [hBo]
  clear hBo
  go_loopw [11] (fun i wr => ∃ (j : Nat) (v : Value), j ≤ n ∧ i = .int .i64 j ∧ OfBox Bo wr v (kept L T j) ∧ Only (fun _ => False) w wr) (fun i _ => n - (intOf i).toNat)
  case atStart => exact ⟨0, _, by omega, rfl, HB0.out, HO0.out⟩
  case round =>
    obtain ⟨j, v, hj, rfl, hB, hO⟩ := hrel
    have HB := Lib.hid hB
    have HO := Lib.hid hO
    clear hB hO
    by_cases hlt : j < n
    · obtain ⟨m, hm, hm2⟩ := mem_getD (L := L) (j := j) (by rw [HLN.out]; exact hlt)
      obtain ⟨g, rfl, -, -, d0⟩ := row_at (HR.out.later HO.out) (j := j) (by rw [List.length_map, HLN.out]; exact hlt)
      have H2 := Lib.hid (H.out.later HO.out)
      have dr := H2.out.tr hm
      have dg := H2.out.to hm
      have HK := Lib.hid (kept_succ (T := T) hm2)
      have HKL := Lib.hid (kept_len L T j)
      generalize (L.map (·.1)).getD j 0 = b at *
      unfold pt at *
      have g1 : (j : Int) < n := by omega
      have g2 : (0 : Int) ≤ j := by omega
      clear hm hm2
      by_cases hc : Can (T m)
      · have HE : Hid (kept L T (j + 1) = kept L T j ++ [b]) := by have := HK.out; rw [if_pos hc] at this; exact Lib.hid this
        rw [hc.1] at dr
        rw [hc.2] at dg
        have db : wr.cell? ⟨Bo, 0, none⟩ = some v := by rw [cell_at HB.out.box]; rfl
        have hbw : Bo < wr.heap.size := block_there HB.out.box
        have hbz : Bo + 1 ≤ wr.heap.size := hbw
        clear hc HK
        generalize kept L T j = K at *
        have hk1 : K.length + 1 ≤ 17000000000000 := by have := HKL.out; have := HLN.out; omega
        have HK1 := Lib.hid hk1
        have HBZ := Lib.hid (show Bo + 1 ≤ (wr.alloc (.cells #[pt b] 86)).heap.size by simp; omega)
        clear hk1 hbz
        go_wp2_with (at_builtin; go_must (refine append_row rfl _ _ rfl (Bo + 1) wr.heap.size 1 v K b rfl rfl (HB.out.row.later ((Only.refl _ wr).alloc _)) ?_ HK1.out HBZ.out ?_); (go_must (exact heap_alloc_new wr _)); go_must (intro v5 w5 hr5 hO5 hV5 hsh); go_must (obtain ⟨g5, c5, rfl⟩ := hsh); go_must (have hst := HB.out.step HBo.out.symm HO.out hr5 hO5); go_must (obtain ⟨d1, d2, hB6, hO6⟩ := hst); have HB6 := Lib.hid hB6; have HO6 := Lib.hid hO6; clear hr5 hO5 hV5 hB6 hO6)
        go_roundw
        case rel => exact ⟨j + 1, _, by omega, by go_num, by rw [HE.out]; exact HB6.out, HO6.out⟩
        case measure => simp [intOf]; omega
      · have HE : Hid (kept L T (j + 1) = kept L T j) := by have := HK.out; rw [if_neg hc] at this; exact Lib.hid this
        clear HK
        cases hr2 : (T m).r with
        | false =>
          rw [hr2] at dr
          clear hc hr2
          go_wp2_with fail
          go_roundw
          case rel => exact ⟨j + 1, _, by omega, by go_num, by rw [HE.out]; exact HB.out, HO.out⟩
          case measure => simp [intOf]; omega
        | true =>
          rw [hr2] at dr
          have hg3 : (T m).o = true := by
            cases ho : (T m).o with
            | true => rfl
            | false => exact absurd ⟨hr2, ho⟩ hc
          rw [hg3] at dg
          clear hc hr2 hg3
          go_wp2_with fail
          go_roundw
          case rel => exact ⟨j + 1, _, by omega, by go_num, by rw [HE.out]; exact HB.out, HO.out⟩
          case measure => simp [intOf]; omega
    · obtain rfl : j = n := by omega
      have HK16 := Lib.hid (kept_len L T j)
      have HKM : Hid (∀ b, b ∈ kept L T j ↔ ∃ t, (b, t) ∈ L ∧ Can (T t)) := Lib.hid (fun b => ⟨fun hb => kept_mem hb, fun ⟨t, h1, h2⟩ => by have := mem_kept h1 h2; rwa [HLN.out] at this⟩)
      obtain ⟨f, hf⟩ := H.out.numbers
      have HFN := Lib.hid hf
      have db : wr.cell? ⟨Bo, 0, none⟩ = some v := by rw [cell_at HB.out.box]; rfl
      clear hf hlt
      generalize kept L T j = K at *
      rcases HB.out.row.cases with ⟨rfl, rfl⟩ | ⟨g, cap, hv, hg1, hg2, hg3, -, -⟩
      · go_wp2_with (go_at_call 69; (with_reducible refine (sort_nil _ _).mono ?_); rintro e w3 ⟨rfl, hO3⟩; have HB3 := Lib.hid (HB.out.later hO3); have HO3 := Lib.hid (HO.out.trans hO3 (fun _ _ h => h)); have db3 : w3.cell? ⟨Bo, 0, none⟩ = some (.slice none 0 0) := (by rw [cell_at HB3.out.box]; rfl); clear hO3)
        go_ret
        exact ⟨Or.inl ⟨rfl, next_empty HSM.out HFT.out HKM.out⟩, HO3.out⟩
      · by_cases hk0 : K = []
        · subst hk0
          obtain rfl : v = .slice (some ⟨g, 0, none⟩) 0 cap := hv
          have hsort := Lib.hid (sort_of (fun b => ∃ t, (b, t) ∈ L) (goesLt T f) (swo_goes T f) (Bo + 1) g 0 cap #[.pointer (some ⟨Bo, 0, none⟩)] [] wr HB.out.row (fun b hb => by cases hb) rfl (by omega) (fun W T' hT hP hrow hOW i j hi hj => by omega))
          have HGB := Lib.hid hg1
          clear hg1
          go_wp2_with (go_at_call 69; (with_reducible refine hsort.out.mono ?_); rintro e w3 ⟨rfl, T', hP, hS, hr3, hO3⟩; have HO3 := Lib.hid (HO.out.trans hO3 (fun x hx e => by have := HGB.out; have := HBo.out; omega)); have db3 : w3.cell? ⟨Bo, 0, none⟩ = some (.slice (some ⟨g, 0, none⟩) 0 cap) := (by rw [cell_at ((hO3.block Bo (block_there HB.out.box) (by have := HGB.out; omega)).trans HB.out.box)]; rfl); clear hO3 hP hS hr3)
          go_ret
          exact ⟨Or.inl ⟨rfl, next_empty HSM.out HFT.out HKM.out⟩, HO3.out⟩
        have hkpos := List.length_pos_iff.2 hk0
        obtain ⟨k, hk⟩ : ∃ k, K.length = k := ⟨_, rfl⟩
        rw [hk] at hkpos
        have HKP := Lib.hid hkpos
        have kp1 : ¬ (k : Int) = 0 := by omega
        have kp2 : ((k : Int) == 0) = false := by simp; omega
        have kp3 : (0 : Int) < k := by omega
        rw [hk] at hv hg2
        subst hv
        have HKL := Lib.hid hk
        have HGB := Lib.hid hg1
        have hk16 : k ≤ 16 := by have := HK16.out; have := HLN.out; omega
        have hsort := Lib.hid (sort_of (fun b => ∃ t, (b, t) ∈ L) (goesLt T f) (swo_goes T f) (Bo + 1) g k cap #[.pointer (some ⟨Bo, 0, none⟩)] K wr HB.out.row (fun b hb => by obtain ⟨t, h1, -⟩ := (HKM.out b).1 hb; exact ⟨t, h1⟩) HKL.out (by omega)
          (fun W T' hT hP hrow hOW i j hi hj => by
            have hOw : Only (fun _ => False) w W := HO.out.trans hOW (fun x hx e => by have := HGB.out; have := HBo.out; omega)
            have H3 := H.out.later hOw
            have hb3 := (hOW.block Bo (block_there HB.out.box) (by have := HGB.out; omega)).trans HB.out.box
            have ci := hrow.cell (i := i) (by omega)
            have cj := hrow.cell (i := j) (by omega)
            have mi : T'.getD i 0 ∈ T' := by simp [List.getD, show i < T'.length by omega]
            have mj : T'.getD j 0 ∈ T' := by simp [List.getD, show j < T'.length by omega]
            obtain ⟨ni, hni⟩ := hP _ mi
            obtain ⟨nj, hnj⟩ := hP _ mj
            have ei := HFN.out _ hni
            have ej := HFN.out _ hnj
            have := less_goes Bo g k cap i j _ _ (T ni).d (T nj).d ni nj W hi hj (by omega) (by rw [cell_at hb3]; rfl) ci cj (H3.tn hni) (H3.tn hnj) (H3.td hni) (H3.td hnj)
            have e2 : goesLt T f (T'.getD i 0) (T'.getD j 0) = decide ((T ni).d < (T nj).d ∨ (T ni).d = (T nj).d ∧ ni < nj) := by unfold goesLt; rw [ei, ej]
            rw [e2]
            exact this))
        clear hk hg1
        go_wp2_with (go_at_call 69; (with_reducible refine hsort.out.mono ?_); rintro e w3 ⟨rfl, T', hP, hS, hr3, hO3⟩; have HP := Lib.hid hP; have HS := Lib.hid hS; have HR3 := Lib.hid hr3; have HO3 := Lib.hid (HO.out.trans hO3 (fun x hx e => by have := HGB.out; have := HBo.out; omega)); have db3 : w3.cell? ⟨Bo, 0, none⟩ = some (.slice (some ⟨g, 0, none⟩) k cap) := (by rw [cell_at ((hO3.block Bo (block_there HB.out.box) (by have := HGB.out; omega)).trans HB.out.box)]; rfl); have hlx : 0 < T'.length := (by rw [hP.length_eq, HKL.out]; exact HKP.out); have dx := hr3.cell (i := 0) hlx; have HLX := Lib.hid hlx; unfold pt at dx; clear hO3 hP hS hr3 hlx)
        go_ret
        refine ⟨Or.inr ?_, HO3.out⟩
        have hm := next_first HSM.out HFT.out HKM.out HFN.out HP.out HS.out HLX.out
        exact ⟨_, hm, rfl⟩
end Go.Proofs.YtpincdcebhmnhaaGreat.De
/- The reference's within, Task, WakeUp, Again. -/
namespace Go.Proofs.YtpincdcebhmnhaaGreat.De
open Go.ChangeShapes Go.WideShapes Go.ChangeAt Go.RowKit Go.Maps
open Go.Proofs.YtpincdcebhmnhaaGreat.Pd
set_option linter.unusedVariables false

theorem within_any (x a b : Int) (w : World) :
    Calls Tryz.prog 61 #[.int .i64 x, .int .i64 a, .int .i64 b] w fun e w' => e = .returned (.bool (decide (a ≤ x ∧ x ≤ b))) ∧ w = w' := by
  by_cases h1 : a ≤ x
  · by_cases h2 : x ≤ b
    · rw [decide_eq_true (p := a ≤ x ∧ x ≤ b) ⟨h1, h2⟩]
      go_enter Tryz.func61, Tryz.ntmps61
      go_wp2
      go_ret
      exact ⟨rfl, rfl⟩
    · rw [decide_eq_false (p := a ≤ x ∧ x ≤ b) (by omega)]
      go_enter Tryz.func61, Tryz.ntmps61
      go_wp2
      go_ret
      exact ⟨rfl, rfl⟩
  · rw [decide_eq_false (p := a ≤ x ∧ x ≤ b) (by omega)]
    go_enter Tryz.func61, Tryz.ntmps61
    go_wp2
    go_ret
    exact ⟨rfl, rfl⟩

/-- May this be the number of a task? -/
def isN (x : Int) : Bool := decide (1 ≤ x ∧ x ≤ 16)
theorem ref_task (x : Int) (w : World) : Calls Tryz.prog 30 #[.int .i64 x] w fun e w' => e = .returned (.bool (isN x)) ∧ w = w' := by
  have c := Lib.hid (within_any x 1 16 w)
  unfold isN
  generalize decide (1 ≤ x ∧ x ≤ 16) = b at *
  go_enter Tryz.func30, Tryz.ntmps30
  go_wp2_with (go_at_call 61; (with_reducible refine c.out.mono ?_); rintro e w' ⟨rfl, rfl⟩)
  go_ret
  exact ⟨rfl, rfl⟩

/-- What is known behind a call that changes one task. -/
def Turned (w : World) (b : Nat) (t : Int) (x : Tk) (e : Ending) (w' : World) : Prop := e = .returned (.tuple #[]) ∧ w'.heap[b]? = some (taskCells t x) ∧ Only (fun k => k = b) w w'

section
variable {w : World} {b : Nat} {t n : Int} {x : Tk}

theorem set7 (h : w.heap[b]? = some (taskCells t x)) (t' q1 q2 q3 q4 : Int) (q5 q6 : Bool) :
    (((((((w.setCell ⟨b, 0, none⟩ (.int .i64 t')).setCell ⟨b, 1, none⟩ (.int .i64 q1)).setCell ⟨b, 2, none⟩ (.int .i64 q2)).setCell ⟨b, 3, none⟩ (.int .i64 q3)).setCell ⟨b, 4, none⟩ (.int .i64 q4)).setCell ⟨b, 5, none⟩ (.bool q5)).setCell ⟨b, 6, none⟩ (.bool q6)).heap[b]? = some (taskCells t' ⟨q1, q2, q3, q4, q5, q6⟩) := by
  unfold taskCells at h ⊢
  generalize Value.int .i64 x.b = v1 at h
  generalize Value.int .i64 x.p = v2 at h
  generalize Value.int .i64 x.l = v3 at h
  generalize Value.int .i64 x.d = v4 at h
  generalize Value.bool x.r = v5 at h
  generalize Value.bool x.o = v6 at h
  generalize Value.int .i64 t = v0 at h
  generalize Value.int .i64 t' = u0
  generalize Value.int .i64 q1 = u1
  generalize Value.int .i64 q2 = u2
  generalize Value.int .i64 q3 = u3
  generalize Value.int .i64 q4 = u4
  generalize Value.bool q5 = u5
  generalize Value.bool q6 = u6
  have h0 := heap_setCell_same w b 0 _ _ u0 h
  rw [show (#[v0, v1, v2, v3, v4, v5, v6] : Array Value).setIfInBounds 0 u0 = #[u0, v1, v2, v3, v4, v5, v6] from rfl] at h0
  generalize w.setCell ⟨b, 0, none⟩ u0 = w0 at *
  have h1 := heap_setCell_same w0 b 1 _ _ u1 h0
  rw [show (#[u0, v1, v2, v3, v4, v5, v6] : Array Value).setIfInBounds 1 u1 = #[u0, u1, v2, v3, v4, v5, v6] from rfl] at h1
  generalize w0.setCell ⟨b, 1, none⟩ u1 = w1 at *
  have h2 := heap_setCell_same w1 b 2 _ _ u2 h1
  rw [show (#[u0, u1, v2, v3, v4, v5, v6] : Array Value).setIfInBounds 2 u2 = #[u0, u1, u2, v3, v4, v5, v6] from rfl] at h2
  generalize w1.setCell ⟨b, 2, none⟩ u2 = w2 at *
  have h3 := heap_setCell_same w2 b 3 _ _ u3 h2
  rw [show (#[u0, u1, u2, v3, v4, v5, v6] : Array Value).setIfInBounds 3 u3 = #[u0, u1, u2, u3, v4, v5, v6] from rfl] at h3
  generalize w2.setCell ⟨b, 3, none⟩ u3 = w3 at *
  have h4 := heap_setCell_same w3 b 4 _ _ u4 h3
  rw [show (#[u0, u1, u2, u3, v4, v5, v6] : Array Value).setIfInBounds 4 u4 = #[u0, u1, u2, u3, u4, v5, v6] from rfl] at h4
  generalize w3.setCell ⟨b, 4, none⟩ u4 = w4 at *
  have h5 := heap_setCell_same w4 b 5 _ _ u5 h4
  rw [show (#[u0, u1, u2, u3, u4, v5, v6] : Array Value).setIfInBounds 5 u5 = #[u0, u1, u2, u3, u4, u5, v6] from rfl] at h5
  generalize w4.setCell ⟨b, 5, none⟩ u5 = w5 at *
  have h6 := heap_setCell_same w5 b 6 _ _ u6 h5
  rw [show (#[u0, u1, u2, u3, u4, u5, v6] : Array Value).setIfInBounds 6 u6 = #[u0, u1, u2, u3, u4, u5, u6] from rfl] at h6
  exact h6
theorem set2 (h : w.heap[b]? = some (taskCells t x)) (q3 q4 : Int) :
    ((w.setCell ⟨b, 3, none⟩ (.int .i64 q3)).setCell ⟨b, 4, none⟩ (.int .i64 q4)).heap[b]? = some (taskCells t ⟨x.b, x.p, q3, q4, x.r, x.o⟩) := by
  have h3 := heap_setCell_same w b 3 _ _ (.int .i64 q3) h
  exact heap_setCell_same _ b 4 _ _ (.int .i64 q4) h3
theorem only6r (w : World) (p i j k l m q : Nat) (a b c d e f : Value) : Only (fun k => k = p) w ((((((w.setCell ⟨p, i, none⟩ a).setCell ⟨p, j, none⟩ b).setCell ⟨p, k, none⟩ c).setCell ⟨p, l, none⟩ d).setCell ⟨p, m, none⟩ e).setCell ⟨p, q, none⟩ f) :=
  (((any_set3 (Only.refl (fun _ => False) w) i j k a b c).setCell (p := ⟨p, l, none⟩) rfl _).setCell (p := ⟨p, m, none⟩) rfl _).setCell (p := ⟨p, q, none⟩) rfl _
theorem only7 (w : World) (b : Nat) (u0 u1 u2 u3 u4 u5 u6 : Value) :
    Only (fun k => k = b) w (((((((w.setCell ⟨b, 0, none⟩ u0).setCell ⟨b, 1, none⟩ u1).setCell ⟨b, 2, none⟩ u2).setCell ⟨b, 3, none⟩ u3).setCell ⟨b, 4, none⟩ u4).setCell ⟨b, 5, none⟩ u5).setCell ⟨b, 6, none⟩ u6) :=
  (only6r w b 0 1 2 3 4 5 u0 u1 u2 u3 u4 u5).setCell (p := ⟨b, 6, none⟩) rfl _

set_option maxRecDepth 100000 in
set_option maxHeartbeats 1000000 in
theorem againr_any (h : w.heap[b]? = some (taskCells t x)) (d0 : 0 ≤ x.d) (d1 : x.d ≤ 9000000000000000000) (p0 : 0 ≤ x.p) (p1 : x.p ≤ 30) :
    Calls Tryz.prog 67 #[.pointer (some ⟨b, 0, none⟩), .int .i64 n] w (Turned w b t (again x n)) := by
  have H := Lib.hid h
  have ct : w.cell? ⟨b, 0, none⟩ = some (.int .i64 t) := by rw [cell_at h]; rfl
  have cb : w.cell? ⟨b, 1, none⟩ = some (.int .i64 x.b) := by rw [cell_at h]; rfl
  have cp : w.cell? ⟨b, 2, none⟩ = some (.int .i64 x.p) := by rw [cell_at h]; rfl
  have cl : w.cell? ⟨b, 3, none⟩ = some (.int .i64 x.l) := by rw [cell_at h]; rfl
  have cd : w.cell? ⟨b, 4, none⟩ = some (.int .i64 x.d) := by rw [cell_at h]; rfl
  have cr : w.cell? ⟨b, 5, none⟩ = some (.bool x.r) := by rw [cell_at h]; rfl
  have co : w.cell? ⟨b, 6, none⟩ = some (.bool x.o) := by rw [cell_at h]; rfl
  have fz := fun j => frozen_at (t := 88) (show w.heap[b]? = some (.cells _ _ (0, 0)) from h) j
  have HA : Hid (again x n = if x.o = true ∧ x.d ≤ n then fill x x.d else x) := Lib.hid rfl
  clear h
  cases ho : x.o with
  | false =>
    have HE := Lib.hid (HA.out.trans (if_neg (by rw [ho]; simp)))
    rw [ho] at co
    clear ho HA
    go_enter Tryz.func67, Tryz.ntmps67
    go_wp2_with fail
    go_end0
    exact ⟨rfl, by rw [HE.out]; exact H.out, Only.refl _ _⟩
  | true =>
    rw [ho] at co
    by_cases hd : x.d ≤ n
    · have HE := Lib.hid (HA.out.trans (if_pos ⟨ho, hd⟩))
      have hdd : decide (x.d ≤ n) = true := decide_eq_true hd
      clear ho HA
      go_enter Tryz.func67, Tryz.ntmps67
      go_upto_region 1 with fail
      refine wp_region_still_tail 32 (by kernel_rfl) (by kernel_rfl) ?_
      have H3 : Hid (w.drew.heap[b]? = some (taskCells t x)) := Lib.hid H.out
      have O3 : Hid (Only (fun k => k = b) w w.drew) := Lib.hid (Only.refl _ w).drew
      have ct2 : w.drew.cell? ⟨b, 0, none⟩ = some (.int .i64 t) := ct
      have cb2 : w.drew.cell? ⟨b, 1, none⟩ = some (.int .i64 x.b) := cb
      have cp2 : w.drew.cell? ⟨b, 2, none⟩ = some (.int .i64 x.p) := cp
      have cl2 : w.drew.cell? ⟨b, 3, none⟩ = some (.int .i64 x.l) := cl
      have cd2 : w.drew.cell? ⟨b, 4, none⟩ = some (.int .i64 x.d) := cd
      have cr2 : w.drew.cell? ⟨b, 5, none⟩ = some (.bool x.r) := cr
      have co2 : w.drew.cell? ⟨b, 6, none⟩ = some (.bool true) := co
      have fz2 : ∀ j, w.drew.frozen? ⟨b, j, none⟩ = false := fz
      show wpStill _ _ w.drew (fun a' => wpList _ _ _ _ a' w.drew) _ _
      clear ct cb cp cl cd cr co fz
      generalize w.drew = w2 at *
      simp only [List.take_succ_cons, List.take_zero, List.drop_succ_cons, List.drop_zero]
      repeat still_step
      refine wpStill_nil ?_
      go_wp2
      go_end0
      exact ⟨rfl, by rw [HE.out]; exact set7 H3.out _ _ _ _ _ _ _, O3.out.trans (only7 w2 b _ _ _ _ _ _ _) (fun _ _ h => h)⟩
    · have HE := Lib.hid (HA.out.trans (if_neg (fun q => hd q.2)))
      have hdd : decide (x.d ≤ n) = false := decide_eq_false hd
      clear ho HA
      go_enter Tryz.func67, Tryz.ntmps67
      go_wp2_with fail
      go_end0
      exact ⟨rfl, by rw [HE.out]; exact H.out, Only.refl _ _⟩
set_option maxRecDepth 100000 in
set_option maxHeartbeats 1000000 in
theorem wokenr_any (h : w.heap[b]? = some (taskCells t x)) (n0 : 0 ≤ n) (n1 : n ≤ 8000000000000000) (d1 : x.d ≤ 9000000000000000) (b1 : 0 ≤ x.b) (b2 : x.b ≤ 30) (l1 : 0 ≤ x.l) (l2 : x.l ≤ 30) (p1 : 0 ≤ x.p) (p2 : x.p ≤ 30) :
    Calls Tryz.prog 40 #[.pointer (some ⟨b, 0, none⟩), .int .i64 n] w (Turned w b t (woke x n)) := by
  have H := Lib.hid h
  have cr : w.cell? ⟨b, 5, none⟩ = some (.bool x.r) := by rw [cell_at h]; rfl
  have fz := fun j => frozen_at (t := 88) (show w.heap[b]? = some (.cells _ _ (0, 0)) from h) j
  have HW : Hid (woke x n = if x.o = false ∧ Stale x n then fill ⟨x.b, x.p, x.l, x.d, true, x.o⟩ n else ⟨x.b, x.p, x.l, x.d, true, x.o⟩) := Lib.hid rfl
  have H2 : Hid ((w.setCell ⟨b, 5, none⟩ (.bool true)).heap[b]? = some (taskCells t ⟨x.b, x.p, x.l, x.d, true, x.o⟩)) := Lib.hid (heap_setCell_same w b 5 _ _ _ h)
  have O2 := Lib.hid (any_set1 (Only.refl _ w) (p := b) 5 (.bool true))
  clear h
  go_enter Tryz.func40, Tryz.ntmps40
  go_upto_region 1 with fail
  clear cr fz
  generalize w.setCell ⟨b, 5, none⟩ (.bool true) = w2 at *
  have cb : w2.cell? ⟨b, 1, none⟩ = some (.int .i64 x.b) := by rw [cell_at H2.out]; rfl
  have cp : w2.cell? ⟨b, 2, none⟩ = some (.int .i64 x.p) := by rw [cell_at H2.out]; rfl
  have cl : w2.cell? ⟨b, 3, none⟩ = some (.int .i64 x.l) := by rw [cell_at H2.out]; rfl
  have cd : w2.cell? ⟨b, 4, none⟩ = some (.int .i64 x.d) := by rw [cell_at H2.out]; rfl
  have co : w2.cell? ⟨b, 6, none⟩ = some (.bool x.o) := by rw [cell_at H2.out]; rfl
  cases ho : x.o with
  | true =>
    have HE := Lib.hid (HW.out.trans (if_neg (by rw [ho]; simp)))
    rw [ho] at co
    clear HW ho
    go_wp2_with fail
    (try simp only [Exit.inBlock, Exit.then])
    refine bodyPost_ret (results_none rfl _ _ _) rfl ?_
    exact ⟨rfl, by rw [HE.out]; exact H2.out, O2.out⟩
  | false =>
    rw [ho] at co
    have m1 := mul_bd x.l x.p l1 l2 p1 (by omega)
    rw [ho] at H2
    have HO_ := Lib.hid ho
    by_cases h1 : x.d ≤ n
    · have hd : decide (x.d ≤ n) = true := decide_eq_true h1
      have HE := Lib.hid (HW.out.trans (if_pos ⟨ho, Or.inl h1⟩))
      clear HW ho HO_
      go_wp2_with fail
      go_quiet (fail)
      have H3 : Hid ((w2.drewN nq).heap[b]? = some (taskCells t ⟨x.b, x.p, x.l, x.d, true, false⟩)) := Lib.hid H2.out
      have O3 : Hid (Only (fun k => k = b) w (w2.drewN nq)) := Lib.hid (only_drewN O2.out nq)
      clear cb cp cl cd co
      generalize w2.drewN nq = w3 at *
      go_upto_region 3 with fail
      have cb : w3.cell? ⟨b, 1, none⟩ = some (.int .i64 x.b) := by rw [cell_at H3.out]; rfl
      have cp : w3.cell? ⟨b, 2, none⟩ = some (.int .i64 x.p) := by rw [cell_at H3.out]; rfl
      have cl : w3.cell? ⟨b, 3, none⟩ = some (.int .i64 x.l) := by rw [cell_at H3.out]; rfl
      have cd : w3.cell? ⟨b, 4, none⟩ = some (.int .i64 x.d) := by rw [cell_at H3.out]; rfl
      have fz := fun j => frozen_at (t := 88) (show w3.heap[b]? = some (.cells _ _ (0, 0)) from H3.out) j
      go_region
      go_wp2_with fail
      go_end0
      exact ⟨rfl, by rw [HE.out]; exact set2 H3.out _ _, ((O3.out.setCell (p := ⟨b, 3, none⟩) rfl _).setCell (p := ⟨b, 4, none⟩) rfl _).drew⟩
    · have hd : decide (x.d ≤ n) = false := decide_eq_false h1
      have m2 := mul_bd x.b (x.d - n) b1 b2 (by omega) (by omega)
      rw [Int.mul_comm x.b] at m2
      by_cases h2 : (x.d - n) * x.b < x.l * x.p
      · have he : decide ((x.d - n) * x.b < x.l * x.p) = true := decide_eq_true h2
        have HE := Lib.hid (HW.out.trans (if_pos ⟨ho, Or.inr (by rw [Int.mul_comm]; exact h2)⟩))
        clear HW ho HO_
        go_wp2_with fail
        go_quiet (fail)
        have H3 : Hid ((w2.drewN nq).heap[b]? = some (taskCells t ⟨x.b, x.p, x.l, x.d, true, false⟩)) := Lib.hid H2.out
        have O3 : Hid (Only (fun k => k = b) w (w2.drewN nq)) := Lib.hid (only_drewN O2.out nq)
        clear cb cp cl cd co
        generalize w2.drewN nq = w3 at *
        go_upto_region 3 with fail
        have cb : w3.cell? ⟨b, 1, none⟩ = some (.int .i64 x.b) := by rw [cell_at H3.out]; rfl
        have cp : w3.cell? ⟨b, 2, none⟩ = some (.int .i64 x.p) := by rw [cell_at H3.out]; rfl
        have cl : w3.cell? ⟨b, 3, none⟩ = some (.int .i64 x.l) := by rw [cell_at H3.out]; rfl
        have cd : w3.cell? ⟨b, 4, none⟩ = some (.int .i64 x.d) := by rw [cell_at H3.out]; rfl
        have fz := fun j => frozen_at (t := 88) (show w3.heap[b]? = some (.cells _ _ (0, 0)) from H3.out) j
        go_region
        go_wp2_with fail
        go_end0
        exact ⟨rfl, by rw [HE.out]; exact set2 H3.out _ _, ((O3.out.setCell (p := ⟨b, 3, none⟩) rfl _).setCell (p := ⟨b, 4, none⟩) rfl _).drew⟩
      · have he : decide ((x.d - n) * x.b < x.l * x.p) = false := decide_eq_false h2
        have HE := Lib.hid (HW.out.trans (if_neg (fun q => by rcases q.2 with q | q; exact h1 q; exact h2 (by rw [Int.mul_comm]; exact q))))
        clear HW ho
        go_wp2_with fail
        go_quiet (fail)
        go_wp2_with fail
        go_end0
        exact ⟨rfl, by rw [HE.out, HO_.out]; exact H2.out, only_drewN O2.out nq⟩
end
end Go.Proofs.YtpincdcebhmnhaaGreat.De
/- The reference's Tick. -/
namespace Go.Proofs.YtpincdcebhmnhaaGreat.De
open Go.ChangeShapes Go.WideShapes Go.ChangeAt Go.RowKit Go.Maps
open Go.Proofs.YtpincdcebhmnhaaGreat.Pd
set_option linter.unusedVariables false

/-- The tasks of the list behind a tick, as far as j. -/
def ranTo (L : List (Nat × Nat)) (U : Tks) (n : Int) (j : Nat) : Tks := fun t => if t ∈ (L.take j).map (·.2) then again (U t) n else U t

theorem ran_zero (L : List (Nat × Nat)) (U : Tks) (n : Int) : ranTo L U n 0 = U := by funext t; unfold ranTo; rw [if_neg (by simp)]
theorem ran_at {L : List (Nat × Nat)} {U : Tks} {n : Int} {j : Nat} {x : Nat × Nat} (hn : (L.map (·.2)).Nodup) (h : L[j]? = some x) : ranTo L U n j x.2 = U x.2 := by
  unfold ranTo
  rw [if_neg]
  intro hm
  obtain ⟨y, hy, e⟩ := List.mem_map.1 hm
  obtain ⟨i, hi, hi2⟩ := List.getElem_of_mem hy
  rw [List.length_take] at hi
  rw [List.getElem_take] at hi2
  have hj : j < L.length := by
    rcases Nat.lt_or_ge j L.length with q | q
    · exact q
    · rw [List.getElem?_eq_none q] at h; cases h
  have hx : L[j] = x := by rw [List.getElem?_eq_getElem hj] at h; exact Option.some.inj h
  unfold List.Nodup at hn
  have := (List.pairwise_iff_getElem.1 hn) i j (by rw [List.length_map]; omega) (by rw [List.length_map]; exact hj) (by omega)
  simp [hi2, hx, e] at this
theorem ran_succ {L : List (Nat × Nat)} {U : Tks} {n : Int} {j : Nat} {x : Nat × Nat} (h : L[j]? = some x) : ranTo L U n (j + 1) = upd (ranTo L U n j) x.2 (again (U x.2) n) := by
  funext t
  unfold ranTo upd
  dsimp only
  rw [List.take_add_one, h]
  by_cases e : t = x.2
  · subst e; rw [if_pos (by simp), if_pos rfl]
  · rw [if_neg e]
    by_cases hm : t ∈ (L.take j).map (·.2)
    · rw [if_pos (by rw [List.map_append]; exact List.mem_append_left _ hm), if_pos hm]
    · rw [if_neg (by
        rw [List.map_append]; intro hh
        rcases List.mem_append.1 hh with hh | hh
        · exact hm hh
        · simp at hh; exact e hh), if_neg hm]
theorem ran_all {L : List (Nat × Nat)} {U : Tks} {n : Int} {k : Nat} (hk : k = L.length) {x : Nat × Nat} (hx : x ∈ L) (h17 : x.2 < 17) : past U n x.2 = ranTo L U (n + 1) k x.2 := by
  rw [past_at U n h17]
  unfold ranTo
  rw [if_pos (by rw [hk, List.take_length]; exact List.mem_map.2 ⟨x, hx, rfl⟩)]

theorem use_out {l : Int} (h : 1 ≤ l) : decide (l - 1 < 1) = (l - 1 == 0) := by
  by_cases e : l - 1 = 0
  · rw [decide_eq_true (by omega)]; simp [e]
  · rw [decide_eq_false (by omega)]; simp [e]

/-- The blocks of a class of the reference that a tick turns. -/
def Its (q : Nat) (L : List (Nat × Nat)) (x : Nat) : Prop := x = q ∨ ∃ y ∈ L, x = y.1

/-- From w to w' nothing changed but those blocks, and of block q no cell but o. -/
structure OnlyIts (q o : Nat) (L : List (Nat × Nat)) (w w' : World) : Prop where
  only : Only (Its q L) w w'
  still : ∀ cs T, w.heap[q]? = some (.cells cs T (0, 0)) → ∃ cs', w'.heap[q]? = some (.cells cs' T (0, 0)) ∧ cs'.size = cs.size ∧ ∀ j, j ≠ o → cs'[j]? = cs[j]?
theorem OnlyIts.of {q o : Nat} {L : List (Nat × Nat)} {w w' : World} (hq : q < w.heap.size) (h : Only (fun _ => False) w w') : OnlyIts q o L w w' := ⟨h.mono (fun _ _ e => e.elim), fun cs T hc => ⟨cs, (h.block q hq id).trans hc, rfl, fun _ _ => rfl⟩⟩
theorem OnlyIts.setq {q o : Nat} {L : List (Nat × Nat)} {w w' : World} (h : OnlyIts q o L w w') (u : Value) : OnlyIts q o L w (w'.setCell ⟨q, o, none⟩ u) :=
  ⟨h.only.setCell (p := ⟨q, o, none⟩) (Or.inl rfl) u, fun cs T hc => by
    obtain ⟨cs1, h1, s1, e1⟩ := h.still cs T hc
    refine ⟨_, heap_setCell_same w' q o cs1 T u h1, by simp [s1], fun j hj => ?_⟩
    rw [Array.getElem?_setIfInBounds, if_neg (fun e => hj e.symm)]
    exact e1 j hj⟩

def TickOf (q o D : Nat) (L : List (Nat × Nat)) (B : Nat) (w : World) (U : Tks) (n : Int) (k : Int) (e : Ending) (w' : World) : Prop :=
  e = .returned (.int .i64 k) ∧ RefAt B w' q o D L U n ∧ OnlyIts q o L w w'

theorem turned_its {w w1 w2 : World} {q o b t : Nat} {L : List (Nat × Nat)} (hq : ∀ x ∈ L, x.1 ≠ q) (hl : q < w1.heap.size) (h : OnlyIts q o L w w1) (k : Only (fun x => x = b) w1 w2) (hb : (b, t) ∈ L) : OnlyIts q o L w w2 :=
  ⟨h.only.trans k (fun x _ e => Or.inr ⟨_, hb, e⟩), fun cs T hc => by
    obtain ⟨cs1, h1, s1, e1⟩ := h.still cs T hc
    exact ⟨cs1, (k.block q hl (fun e => hq _ hb e.symm)).trans h1, s1, e1⟩⟩

set_option maxRecDepth 100000 in
set_option maxHeartbeats 2000000 in
theorem tickr_any {B : Nat} {w : World} {q o D : Nat} {L : List (Nat × Nat)} {T U : Tks} {n : Int} {kk : Nat} (h : RefAt B w q o D L T n) (hs : Same L T) (hf : Fit T n) (hl : L.length ≤ 16) (n0 : 0 ≤ n) (nB : n ≤ 8000000000000000) (pass : Bool) (hfu : Fit U n)
    (hp : ((pass = true ∨ pick T = 0) ∧ U = T ∧ kk = 0) ∨ (pass = false ∧ pick T ≠ 0 ∧ U = upd T (pick T) (use (T (pick T))) ∧ kk = pick T)) :
    Calls Tryz.prog 43 #[.pointer (some ⟨q, o, none⟩), .bool pass] w (TickOf q o D L B w (past U n) (n + 1) kk) := by
  obtain ⟨k, hk⟩ : ∃ k, L.length = k := ⟨_, rfl⟩
  have HK := Lib.hid hk
  have hk16 : k ≤ 16 := by omega
  have H := Lib.hid h
  have HS := Lib.hid hs
  have HF := Lib.hid hf
  have HFU := Lib.hid hfu
  have HP := Lib.hid hp
  have CN := Lib.hid (nextr_any h hl hs hf)
  clear h hs hf hl hk hp hfu
  go_enter Tryz.func43, Tryz.ntmps43
  go_upto_region 3 with (go_at_call 47; (with_reducible refine CN.out.mono ?_); rintro e w1 ⟨hcs, hO⟩; have HO := Lib.hid hO; obtain ⟨xo, rfl, hxo⟩ : ∃ xo, e = .returned (.pointer xo) ∧ ((xo = none ∧ pick T = 0) ∨ ∃ b, ((b, pick T) ∈ L ∧ pick T ≠ 0) ∧ xo = some ⟨b, 0, none⟩) := (by rcases hcs with ⟨h1, h2⟩ | ⟨b, h1, h2⟩; exact ⟨none, h1, Or.inl ⟨rfl, h2⟩⟩; exact ⟨_, h2, Or.inr ⟨b, h1, rfl⟩⟩); have HXO := Lib.hid hxo; clear hcs hO hxo)
  rcases HXO.out with ⟨rfl, h0⟩ | ⟨b, ⟨hb, hn⟩, rfl⟩
  · rcases HP.out with ⟨-, rfl, rfl⟩ | ⟨-, h1, -⟩
    · clear h0
      go_upto_region 7 with fail
      have HO2 : Hid (OnlyIts q o L w w1) := Lib.hid (OnlyIts.of H.out.lt HO.out)
      have HR := Lib.hid (H.out.later HO.out)
      clear HXO HO CN H HP
      generalize w1 = wc at *
      have cn := HR.out.now
      have fz := HR.out.frozen
      go_upto_region 8 with fail
      have HR2 := Lib.hid (HR.out.set_now (n + 1))
      have HO3 : Hid (OnlyIts q o L w (wc.setCell ⟨q, o, none⟩ (.int .i64 (n + 1)))) := Lib.hid (HO2.out.setq _)
      clear cn fz HR HO2
      generalize wc.setCell ⟨q, o, none⟩ (.int .i64 (n + 1)) = w2 at *
      obtain ⟨V, c0, hr, hv⟩ := HR2.out.slice
      obtain ⟨a, c, rfl, hc1, hc2, hc3⟩ := hr.shape (n := k) (by rw [List.length_map]; exact HK.out)
      have HV := Lib.hid hv
      have HROW := Lib.hid hr
      clear hr hv
      go_wp2_with fail
      go_loopw [48] (fun i wr => ∃ j : Nat, j ≤ k ∧ i = .int .i64 j ∧ RefAt B wr q o D L (ranTo L U (n + 1) j) (n + 1) ∧ RowAt wr B (.slice a k c) (L.map (·.1)) ∧ OnlyIts q o L w wr) (fun i _ => k - (intOf i).toNat)
      case atStart => exact ⟨0, by omega, rfl, by rw [ran_zero]; exact HR2.out, HROW.out, HO3.out⟩
      case round =>
        obtain ⟨j, hj, rfl, hR, hrw, hO⟩ := hrel
        have HR4 := Lib.hid hR
        have HRW := Lib.hid hrw
        have HO4 := Lib.hid hO
        clear hR hrw hO c0
        by_cases hlt : j < k
        · obtain ⟨m, hm, hm2⟩ := mem_getD (L := L) (j := j) (by rw [HK.out]; exact hlt)
          obtain ⟨g, rfl, -, -, d0⟩ := row_at HRW.out (j := j) (by rw [List.length_map, HK.out]; exact hlt)
          have hnum := HS.out.num _ hm
          simp only at hnum
          have ht := HR4.out.task _ hm
          have hat := ran_at (U := U) (n := n + 1) HR4.out.nums hm2
          simp only at ht hat
          rw [hat] at ht
          have HSU := Lib.hid (ran_succ (U := U) (n := n + 1) hm2)
          simp only at HSU
          have cn := HR4.out.now
          have ok := HFU.out.at (show m < 17 by omega)
          have CA := Lib.hid (againr_any (n := n + 1) ht ok.d.1 (by have := ok.d.2; omega) (by have := ok.b; omega) ok.p)
          have HM := Lib.hid hm
          generalize (L.map (·.1)).getD j 0 = b at *
          unfold pt at *
          have g1 : (j : Int) < k := by omega
          have g2 : (0 : Int) ≤ j := by omega
          clear hm hm2 ht hat hnum ok
          go_wp2_with (go_at_call 67; (with_reducible refine CA.out.mono ?_); rintro e w5 ⟨rfl, hx5, hO5⟩; have HR5 := Lib.hid (HR4.out.turn HM.out hO5 hx5); have HRW5 := Lib.hid (HRW.out.keep hO5 (fun g hg e => (HV.out g hg).2 _ HM.out e)); have HO5 := Lib.hid (turned_its HR4.out.apart HR4.out.lt HO4.out hO5 HM.out); clear hx5 hO5)
          go_roundw
          case rel => exact ⟨j + 1, by omega, by go_num, by rw [HSU.out]; exact HR5.out, HRW5.out, HO5.out⟩
          case measure => simp [intOf]; omega
        · obtain rfl : j = k := by omega
          go_wp2_with fail
          go_ret
          exact ⟨rfl, HR4.out.congr (fun x hx => ran_all HK.out.symm hx (by have := HS.out.num x hx; omega)), HO4.out⟩
    · exact absurd h0 h1
  · rcases HP.out with ⟨h1, rfl, rfl⟩ | ⟨rfl, h1, hU, rfl⟩
    · have : pass = true := h1.resolve_right hn
      subst this
      clear h1 hb hn
      go_upto_region 7 with fail
      have HO2 : Hid (OnlyIts q o L w w1) := Lib.hid (OnlyIts.of H.out.lt HO.out)
      have HR := Lib.hid (H.out.later HO.out)
      clear HXO HO CN H HP
      generalize w1 = wc at *
      have cn := HR.out.now
      have fz := HR.out.frozen
      go_upto_region 8 with fail
      have HR2 := Lib.hid (HR.out.set_now (n + 1))
      have HO3 : Hid (OnlyIts q o L w (wc.setCell ⟨q, o, none⟩ (.int .i64 (n + 1)))) := Lib.hid (HO2.out.setq _)
      clear cn fz HR HO2
      generalize wc.setCell ⟨q, o, none⟩ (.int .i64 (n + 1)) = w2 at *
      obtain ⟨V, c0, hr, hv⟩ := HR2.out.slice
      obtain ⟨a, c, rfl, hc1, hc2, hc3⟩ := hr.shape (n := k) (by rw [List.length_map]; exact HK.out)
      have HV := Lib.hid hv
      have HROW := Lib.hid hr
      clear hr hv
      go_wp2_with fail
      go_loopw [48] (fun i wr => ∃ j : Nat, j ≤ k ∧ i = .int .i64 j ∧ RefAt B wr q o D L (ranTo L U (n + 1) j) (n + 1) ∧ RowAt wr B (.slice a k c) (L.map (·.1)) ∧ OnlyIts q o L w wr) (fun i _ => k - (intOf i).toNat)
      case atStart => exact ⟨0, by omega, rfl, by rw [ran_zero]; exact HR2.out, HROW.out, HO3.out⟩
      case round =>
        obtain ⟨j, hj, rfl, hR, hrw, hO⟩ := hrel
        have HR4 := Lib.hid hR
        have HRW := Lib.hid hrw
        have HO4 := Lib.hid hO
        clear hR hrw hO c0
        by_cases hlt : j < k
        · obtain ⟨m, hm, hm2⟩ := mem_getD (L := L) (j := j) (by rw [HK.out]; exact hlt)
          obtain ⟨g, rfl, -, -, d0⟩ := row_at HRW.out (j := j) (by rw [List.length_map, HK.out]; exact hlt)
          have hnum := HS.out.num _ hm
          simp only at hnum
          have ht := HR4.out.task _ hm
          have hat := ran_at (U := U) (n := n + 1) HR4.out.nums hm2
          simp only at ht hat
          rw [hat] at ht
          have HSU := Lib.hid (ran_succ (U := U) (n := n + 1) hm2)
          simp only at HSU
          have cn := HR4.out.now
          have ok := HFU.out.at (show m < 17 by omega)
          have CA := Lib.hid (againr_any (n := n + 1) ht ok.d.1 (by have := ok.d.2; omega) (by have := ok.b; omega) ok.p)
          have HM := Lib.hid hm
          generalize (L.map (·.1)).getD j 0 = b at *
          unfold pt at *
          have g1 : (j : Int) < k := by omega
          have g2 : (0 : Int) ≤ j := by omega
          clear hm hm2 ht hat hnum ok
          go_wp2_with (go_at_call 67; (with_reducible refine CA.out.mono ?_); rintro e w5 ⟨rfl, hx5, hO5⟩; have HR5 := Lib.hid (HR4.out.turn HM.out hO5 hx5); have HRW5 := Lib.hid (HRW.out.keep hO5 (fun g hg e => (HV.out g hg).2 _ HM.out e)); have HO5 := Lib.hid (turned_its HR4.out.apart HR4.out.lt HO4.out hO5 HM.out); clear hx5 hO5)
          go_roundw
          case rel => exact ⟨j + 1, by omega, by go_num, by rw [HSU.out]; exact HR5.out, HRW5.out, HO5.out⟩
          case measure => simp [intOf]; omega
        · obtain rfl : j = k := by omega
          go_wp2_with fail
          go_ret
          exact ⟨rfl, HR4.out.congr (fun x hx => ran_all HK.out.symm hx (by have := HS.out.num x hx; omega)), HO4.out⟩
    · have HO1 : Hid (OnlyIts q o L w w1) := Lib.hid (OnlyIts.of H.out.lt HO.out)
      have H1 := Lib.hid (H.out.later HO.out)
      have HBL := Lib.hid hb
      have ht := H1.out.task _ hb
      have hc := pick_can h1
      have hpl := pick_lt T
      generalize pick T = m at *
      have HT := Lib.hid ht
      have d0 := H1.out.tn hb
      have d3 := H1.out.tl hb
      have d6 := H1.out.to hb
      have fz := H1.out.tfrozen hb
      have ok := HF.out.at hpl
      have l1 : 1 ≤ (T m).l := by
        have := ok.l
        have h0 : (T m).l ≠ 0 := fun e => by have := (ok.lo (ok.rp hc.1)).2 e; rw [hc.2] at this; cases this
        omega
      have l2 : (T m).l ≤ 30 := by have := ok.l; have := ok.b; have := ok.p; omega
      have HU := Lib.hid (use_out l1)
      clear hb hn h1 ht hc hpl ok
      go_upto_region 7 with fail
      have hx : ((w1.setCell ⟨b, 3, none⟩ (.int .i64 ((T m).l - 1))).setCell ⟨b, 6, none⟩ (.bool (decide ((T m).l - 1 < 1)))).heap[b]? = some (taskCells m (use (T m))) := by
        rw [HU.out]
        have h3 := heap_setCell_same w1 b 3 _ _ (.int .i64 ((T m).l - 1)) HT.out
        exact heap_setCell_same _ b 6 _ _ (.bool ((T m).l - 1 == 0)) h3
      have o2 : Only (fun x => x = b) w1 ((w1.setCell ⟨b, 3, none⟩ (.int .i64 ((T m).l - 1))).setCell ⟨b, 6, none⟩ (.bool (decide ((T m).l - 1 < 1)))) := any_set2 (Only.refl _ w1) (p := b) 3 6 (.int .i64 ((T m).l - 1)) (.bool (decide ((T m).l - 1 < 1)))
      have HR := Lib.hid (H1.out.turn HBL.out o2 hx)
      rw [← hU] at HR
      have HO2 := Lib.hid (turned_its H1.out.apart H1.out.lt HO1.out o2 HBL.out)
      clear hx o2 d0 d3 d6 fz HXO HO CN H HP HT hU
      generalize ((w1.setCell ⟨b, 3, none⟩ (.int .i64 ((T m).l - 1))).setCell ⟨b, 6, none⟩ (.bool (decide ((T m).l - 1 < 1)))) = wc at *
      have cn := HR.out.now
      have fz := HR.out.frozen
      go_upto_region 8 with fail
      have HR2 := Lib.hid (HR.out.set_now (n + 1))
      have HO3 : Hid (OnlyIts q o L w (wc.setCell ⟨q, o, none⟩ (.int .i64 (n + 1)))) := Lib.hid (HO2.out.setq _)
      clear cn fz HR HO2
      generalize wc.setCell ⟨q, o, none⟩ (.int .i64 (n + 1)) = w2 at *
      obtain ⟨V, c0, hr, hv⟩ := HR2.out.slice
      obtain ⟨a, c, rfl, hc1, hc2, hc3⟩ := hr.shape (n := k) (by rw [List.length_map]; exact HK.out)
      have HV := Lib.hid hv
      have HROW := Lib.hid hr
      clear hr hv
      go_wp2_with fail
      go_loopw [48] (fun i wr => ∃ j : Nat, j ≤ k ∧ i = .int .i64 j ∧ RefAt B wr q o D L (ranTo L U (n + 1) j) (n + 1) ∧ RowAt wr B (.slice a k c) (L.map (·.1)) ∧ OnlyIts q o L w wr) (fun i _ => k - (intOf i).toNat)
      case atStart => exact ⟨0, by omega, rfl, by rw [ran_zero]; exact HR2.out, HROW.out, HO3.out⟩
      case round =>
        obtain ⟨j, hj, rfl, hR, hrw, hO⟩ := hrel
        have HR4 := Lib.hid hR
        have HRW := Lib.hid hrw
        have HO4 := Lib.hid hO
        clear hR hrw hO c0
        by_cases hlt : j < k
        · obtain ⟨m, hm, hm2⟩ := mem_getD (L := L) (j := j) (by rw [HK.out]; exact hlt)
          obtain ⟨g, rfl, -, -, d0⟩ := row_at HRW.out (j := j) (by rw [List.length_map, HK.out]; exact hlt)
          have hnum := HS.out.num _ hm
          simp only at hnum
          have ht := HR4.out.task _ hm
          have hat := ran_at (U := U) (n := n + 1) HR4.out.nums hm2
          simp only at ht hat
          rw [hat] at ht
          have HSU := Lib.hid (ran_succ (U := U) (n := n + 1) hm2)
          simp only at HSU
          have cn := HR4.out.now
          have ok := HFU.out.at (show m < 17 by omega)
          have CA := Lib.hid (againr_any (n := n + 1) ht ok.d.1 (by have := ok.d.2; omega) (by have := ok.b; omega) ok.p)
          have HM := Lib.hid hm
          generalize (L.map (·.1)).getD j 0 = b at *
          unfold pt at *
          have g1 : (j : Int) < k := by omega
          have g2 : (0 : Int) ≤ j := by omega
          clear hm hm2 ht hat hnum ok
          go_wp2_with (go_at_call 67; (with_reducible refine CA.out.mono ?_); rintro e w5 ⟨rfl, hx5, hO5⟩; have HR5 := Lib.hid (HR4.out.turn HM.out hO5 hx5); have HRW5 := Lib.hid (HRW.out.keep hO5 (fun g hg e => (HV.out g hg).2 _ HM.out e)); have HO5 := Lib.hid (turned_its HR4.out.apart HR4.out.lt HO4.out hO5 HM.out); clear hx5 hO5)
          go_roundw
          case rel => exact ⟨j + 1, by omega, by go_num, by rw [HSU.out]; exact HR5.out, HRW5.out, HO5.out⟩
          case measure => simp [intOf]; omega
        · obtain rfl : j = k := by omega
          go_wp2_with fail
          go_ret
          exact ⟨rfl, HR4.out.congr (fun x hx => ran_all HK.out.symm hx (by have := HS.out.num x hx; omega)), HO4.out⟩
end Go.Proofs.YtpincdcebhmnhaaGreat.De
/- slices.DeleteFunc of pointers to tasks, by a task's number. -/
namespace Go.Proofs.YtpincdcebhmnhaaGreat.Pd
open Go.ChangeShapes Go.WideShapes Go.ChangeAt Go.RowKit Go.Maps
set_option linter.unusedVariables false

/-- The closure: has a task that number? -/
theorem asks_num (x Bx : Nat) (m t : Int) (W : World) (hx : W.cell? ⟨x, 0, none⟩ = some (.int .i64 m)) (hB : W.cell? ⟨Bx, 0, none⟩ = some (.int .i64 t)) :
    Calls Tryz.prog 37 #[pt x, .pointer (some ⟨Bx, 0, none⟩)] W (fun e w' => e = .returned (.bool (m == t)) ∧ Only (fun _ => False) W w') := by
  unfold pt
  go_enter Tryz.func37, Tryz.ntmps37
  go_wp2_with fail
  go_quiet (fail)
  go_wp2_with fail
  go_ret
  exact ⟨rfl, only_drewN (Only.refl _ _) _⟩

section
variable {w w' : World} {B g n c : Nat} {S : List Nat}
theorem RowAt.there (h : RowAt w B (.slice (some ⟨g, 0, none⟩) n c) S) : n = S.length ∧ n ≤ c ∧ c ≤ 9223372036854775807 ∧ B ≤ g ∧ ∃ cur, w.heap[g]? = some (.cells cur 86 (0, 0)) ∧ cur.size = c ∧ cur.toList.take (S.length * 1) = S.map pt := by
  rcases h.2 with ⟨h1, _⟩ | ⟨g', cap', cur, h1, hb, h2, h3, h4, h5, h6⟩
  · cases h1
  · obtain ⟨e1, e2, e3⟩ := Value.slice.inj h1
    cases e1
    subst e3
    unfold maxLen at h4
    exact ⟨e2, by omega, by omega, hb, cur, h2, by omega, h6⟩
theorem RowAt.mk {cur : Array Value} (hg : w.heap[g]? = some (.cells cur 86 (0, 0))) (hB : B ≤ g) (hn : n = S.length) (hc : n ≤ c) (hm : c ≤ 9223372036854775807) (hs : cur.size = c) (hm2 : c ≤ maxLen) (ht : cur.toList.take (S.length * 1) = S.map pt) : RowAt w B (.slice (some ⟨g, 0, none⟩) n c) S := by
  subst hn
  exact ⟨by simp, Or.inr ⟨g, c, cur, rfl, hB, hg, hc, hm2, by omega, ht⟩⟩
theorem RowAt.max (h : RowAt w B (.slice (some ⟨g, 0, none⟩) n c) S) : c ≤ maxLen := by
  rcases h.2 with ⟨h1, _⟩ | ⟨g', cap', cur, h1, hb, h2, h3, h4, h5, h6⟩
  · cases h1
  · obtain ⟨e1, e2, e3⟩ := Value.slice.inj h1
    subst e3
    exact h4
/-- A pointer stored in a row. -/
theorem RowAt.set (h : RowAt w B (.slice (some ⟨g, 0, none⟩) n c) S) {i : Nat} (hi : i < n) (x : Nat) :
    (w.cell? ⟨g, i, none⟩).isSome = true ∧ w.frozen? ⟨g, i, none⟩ = false ∧ RowAt (w.setCell ⟨g, i, none⟩ (pt x)) B (.slice (some ⟨g, 0, none⟩) n c) (S.set i x) := by
  have hmax := h.max
  obtain ⟨hn, h1, h2, h3, cur, h4, h5, h6⟩ := h.there
  refine ⟨?_, frozen_at h4 _, RowAt.mk (heap_setCell_same w g i cur _ (pt x) h4) h3 (by simp [hn]) h1 h2 (by simp [h5]) hmax ?_⟩
  · rw [cell_at h4]; simp; omega
  · rw [Array.toList_setIfInBounds]
    apply List.ext_getElem?
    intro j
    rw [List.length_set, List.getElem?_take, List.map_set, List.getElem?_set, ← h6, List.getElem?_set, List.getElem?_take, List.length_take]
    simp only [Array.length_toList, Nat.mul_one]
    by_cases hj : j < S.length
    · rw [if_pos hj, if_pos hj]
      by_cases e : i = j
      · subst e; rw [if_pos rfl, if_pos rfl, if_pos (by omega), if_pos (by omega)]
      · rw [if_neg e, if_neg e]
    · rw [if_neg hj, if_neg hj, if_neg (by omega)]
/-- The row without its last pointer, whose cell is cleared. -/
theorem RowAt.cut {m : Nat} (h : RowAt w B (.slice (some ⟨g, 0, none⟩) (m + 1) c) S) :
    (w.cell? ⟨g, m, none⟩).isSome = true ∧ w.frozen? ⟨g, m, none⟩ = false ∧ RowAt (w.setCells g m [.pointer none]) B (.slice (some ⟨g, 0, none⟩) m c) (S.take m) ∧ Only (· = g) w (w.setCells g m [.pointer none]) := by
  have hmax := h.max
  obtain ⟨hn, h1, h2, h3, cur, h4, h5, h6⟩ := h.there
  obtain ⟨c2, hh2, hs2, ht2, hO2⟩ := heap_setCells [.pointer none] m w cur h4
  refine ⟨by rw [cell_at h4]; simp; omega, frozen_at h4 _, RowAt.mk hh2 h3 (by rw [List.length_take]; omega) (by omega) h2 (by omega) hmax ?_, hO2⟩
  rw [ht2, List.length_take, Nat.min_eq_left (by omega), List.map_take, ← h6]
  apply List.ext_getElem?
  intro j
  rw [List.getElem?_take, List.getElem?_take, List.getElem?_take]
  by_cases hj : j < m
  · rw [if_pos (by omega), if_pos hj, if_pos (by omega)]
    show (cur.toList.set m (.pointer none))[j]? = _
    rw [List.getElem?_set_ne (by omega)]
  · rw [if_neg (by omega), if_neg hj]
end

/-- The pointers of a row in which those behind k have moved up, as far as j. -/
def mid (S : List Nat) (k j : Nat) : List Nat := (List.range S.length).map fun p => if p < k then S.getD p 0 else if p + 1 < j then S.getD (p + 1) 0 else S.getD p 0
theorem mid_len (S : List Nat) (k j : Nat) : (mid S k j).length = S.length := by simp [mid]
theorem mid_at (S : List Nat) (k j : Nat) {p : Nat} (hp : p < S.length) : (mid S k j).getD p 0 = if p < k then S.getD p 0 else if p + 1 < j then S.getD (p + 1) 0 else S.getD p 0 := by
  unfold mid
  rw [List.getD_eq_getElem?_getD, List.getElem?_map, List.getElem?_range hp]; rfl
theorem list_ext {S R : List Nat} (hl : S.length = R.length) (h : ∀ p, p < S.length → S.getD p 0 = R.getD p 0) : S = R := by
  apply List.ext_getElem hl
  intro p h1 h2
  have := h p h1
  rw [List.getD_eq_getElem?_getD, List.getD_eq_getElem?_getD, List.getElem?_eq_getElem h1, List.getElem?_eq_getElem h2] at this
  exact this
theorem mid_start (S : List Nat) (k : Nat) : mid S k (k + 1) = S := by
  refine list_ext (mid_len _ _ _) (fun p hp => ?_)
  rw [mid_len] at hp
  rw [mid_at _ _ _ hp]
  by_cases h : p < k
  · rw [if_pos h]
  · rw [if_neg h, if_neg (by omega)]
theorem mid_next (S : List Nat) {k j : Nat} (hk : k < j) (hj : j < S.length) : (mid S k j).set (j - 1) (S.getD j 0) = mid S k (j + 1) := by
  refine list_ext (by rw [List.length_set, mid_len, mid_len]) (fun p hp => ?_)
  rw [List.length_set, mid_len] at hp
  rw [List.getD_eq_getElem?_getD, List.getElem?_set, mid_at _ _ _ hp]
  by_cases e : j - 1 = p
  · subst e
    rw [if_pos rfl, if_pos (by rw [mid_len]; omega), if_neg (by omega), if_pos (by omega), show j - 1 + 1 = j by omega]; rfl
  · rw [if_neg e, ← List.getD_eq_getElem?_getD, mid_at _ _ _ hp]
    by_cases h : p < k
    · rw [if_pos h, if_pos h]
    · rw [if_neg h, if_neg h]
      by_cases h2 : p + 1 < j
      · rw [if_pos h2, if_pos (by omega)]
      · rw [if_neg h2, if_neg (by omega)]
theorem mid_end (S : List Nat) {k m : Nat} (hm : S.length = m + 1) (hk : k ≤ m) : (mid S k (m + 1)).take m = S.eraseIdx k := by
  refine list_ext (by rw [List.length_take, mid_len, hm, List.length_eraseIdx, if_pos (by omega)]; omega) (fun p hp => ?_)
  rw [List.length_take, mid_len] at hp
  rw [List.getD_eq_getElem?_getD, List.getElem?_take, if_pos (by omega), ← List.getD_eq_getElem?_getD, mid_at _ _ _ (by omega), List.getD_eq_getElem?_getD (l := S.eraseIdx k), List.getElem?_eraseIdx]
  by_cases h : p < k
  · rw [if_pos h, if_pos h, List.getD_eq_getElem?_getD]
  · rw [if_neg h, if_neg h, if_pos (by omega), List.getD_eq_getElem?_getD]

theorem run_clear (w : World) (ty : TypeId) (b o c : Nat) (hc : (w.cell? ⟨b, o, none⟩).isSome = true) (hf : w.frozen? ⟨b, o, none⟩ = false) :
    (Builtin.clear_ #[40] ty #[.slice (some ⟨b, o, none⟩) 1 c]).run Tryz.prog w = .ok (.tuple #[]) (w.setCells b o [.pointer none]) := by
  have hst := run_storeCells_cells (P := Tryz.prog) b o [.pointer none] 0 w (by intro j hj; simp at hj; subst hj; simpa using hc) (by intro j hj; simp at hj; subst hj; simpa using hf) (by intro v hv'; simp at hv'; rcases hv' with rfl; rfl)
  simp only [Nat.add_zero] at hst
  have hzc : (Builtin.zeroCells (Value.pointer none).cells 1).toList = [.pointer none] := by
    simp [Builtin.zeroCells, Value.cells]
    try rfl
  obtain ⟨i0, hi, hz0, hz1, hz2⟩ := info_parts Tryz.infoElem
  have hze : ∀ w, (zeroValue 86).run Tryz.prog w = .ok (.pointer none) w := fun w => by simp [zeroValue, typeInfo, hi, hz0]
  simp [Builtin.clear_, run_underlying Tryz.underlying40, hze, hzc, hst]

/-- Where the first task with a number stands. -/
def Found (f : Nat → Int) (S : List Nat) (t : Int) (w : World) (e : Ending) (w' : World) : Prop :=
  ((∃ k : Nat, e = .returned (.int .i64 k) ∧ k < S.length ∧ f (S.getD k 0) = t) ∨ (e = .returned (.int .i64 (-1)) ∧ ∀ k, k < S.length → f (S.getD k 0) ≠ t)) ∧ Only (fun _ => False) w w'

theorem not_val {a b : Int} (h : a ≠ b) : (a == b) = false := beq_eq_false_iff_ne.2 h

set_option maxHeartbeats 1000000 in
theorem index_num (a : Option Addr) (n c Bx base : Nat) (f : Nat → Int) (t : Int) (S : List Nat) (w : World) (h : RowAt w base (.slice a n c) S) (hn : S.length = n) (hf : ∀ x ∈ S, w.cell? ⟨x, 0, none⟩ = some (.int .i64 (f x))) (hB : w.cell? ⟨Bx, 0, none⟩ = some (.int .i64 t)) :
    Calls Tryz.prog 66 #[.slice a n c, .func (.func 37) #[] #[.pointer (some ⟨Bx, 0, none⟩)]] w (Found f S t w) := by
  obtain ⟨a', c', e, hc1, hc2, hc3⟩ := h.shape hn
  obtain ⟨rfl, -, rfl⟩ := Value.slice.inj e
  have H := Lib.hid h
  have HF := Lib.hid (fun (W : World) (x : Nat) (hx : x ∈ S) (hO : Only (fun _ => False) w W) => show W.cell? ⟨x, 0, none⟩ = some (.int .i64 (f x)) from by
    have := hf x hx
    rw [Pr.cell_kept hO (block_lt this) id]; exact this)
  have HBX := Lib.hid (fun (W : World) (hO : Only (fun _ => False) w W) => show W.cell? ⟨Bx, 0, none⟩ = some (.int .i64 t) from by
    rw [Pr.cell_kept hO (block_lt hB) id]; exact hB)
  have HN := Lib.hid hn
  clear h hn hf hB e
  go_enter Tryz.func66, Tryz.ntmps66
  go_wp2_with fail
  go_loopw [8] (fun i wr => ∃ j : Nat, j ≤ n ∧ i = .int .i64 j ∧ (∀ k, k < j → f (S.getD k 0) ≠ t) ∧ Only (fun _ => False) w wr) (fun i _ => n - (intOf i).toNat)
  case atStart => exact ⟨0, by omega, rfl, fun k hk => absurd hk (Nat.not_lt_zero _), Only.refl _ _⟩
  case round =>
    obtain ⟨j, hj, rfl, hno, hO⟩ := hrel
    have HNO := Lib.hid hno
    have HO := Lib.hid hO
    clear hno hO
    by_cases hlt : j < n
    · obtain ⟨g, cap, e, -, -, -, -, hcell⟩ : ∃ g cap, (Value.slice a n c) = .slice (some ⟨g, 0, none⟩) S.length cap ∧ base ≤ g ∧ S.length ≤ cap ∧ cap ≤ 9223372036854775807 ∧ (∃ cur, wr.heap[g]? = some (.cells cur 86 (0, 0))) ∧ ∀ i, i < S.length → wr.cell? ⟨g, i, none⟩ = some (pt (S.getD i 0)) := by
        rcases (H.out.later HO.out).cases with ⟨h1, h2⟩ | h1
        · exfalso; have := HN.out; rw [h2] at this; simp at this; omega
        · exact h1
      obtain ⟨rfl, -, -⟩ := Value.slice.inj e
      have c0 := hcell j (by rw [HN.out]; exact hlt)
      have hmem : S.getD j 0 ∈ S := by
        have hl : j < S.length := by rw [HN.out]; exact hlt
        rw [List.getD_eq_getElem?_getD, List.getElem?_eq_getElem hl]; exact List.getElem_mem hl
      have KA := Lib.hid (fun (W : World) (hW : Only (fun _ => False) w W) => asks_num (S.getD j 0) Bx (f (S.getD j 0)) t W (HF.out W _ hmem hW) (HBX.out W hW))
      have HX := Lib.hid (fun (h : f (S.getD j 0) = t) => (show j < S.length ∧ f (S.getD j 0) = t from ⟨by rw [HN.out]; exact hlt, h⟩))
      clear hcell e hmem
      have hg : ∃ y, S.getD j 0 = y := ⟨_, rfl⟩
      obtain ⟨y, hy⟩ := hg
      rw [hy] at c0 KA HX
      have HY := Lib.hid hy
      unfold pt at *
      clear hy
      have g1 : (j : Int) < n := by omega
      have g2 : (0 : Int) ≤ j := by omega
      by_cases hv : f y = t
      · have e1 : (f y == t) = true := by simp [hv]
        rw [e1] at KA
        have HV := Lib.hid (HX.out hv)
        clear hv e1
        go_wp2_with (go_at_call 37; (with_reducible refine (KA.out _ HO.out).mono ?_); rintro e w' ⟨rfl, hO1⟩; have HO1 := Lib.hid (HO.out.trans hO1 (fun _ _ h => h)); clear hO1)
        go_ret
        exact ⟨Or.inl ⟨j, rfl, HV.out.1, by rw [HY.out]; exact HV.out.2⟩, HO1.out⟩
      · have e1 : (f y == t) = false := not_val hv
        rw [e1] at KA
        have HV := Lib.hid hv
        clear hv e1
        go_wp2_with (go_at_call 37; (with_reducible refine (KA.out _ HO.out).mono ?_); rintro e w' ⟨rfl, hO1⟩; have HO1 := Lib.hid (HO.out.trans hO1 (fun _ _ h => h)); clear hO1)
        go_roundw
        case rel =>
          refine ⟨j + 1, by omega, by go_num, fun k hk => ?_, HO1.out⟩
          by_cases ek : k = j
          · subst ek; rw [HY.out]; exact HV.out
          · exact HNO.out k (by omega)
        case measure => simp [intOf]; omega
    · obtain rfl : j = n := by omega
      go_wp2_with fail
      go_ret
      exact ⟨Or.inr ⟨rfl, fun k hk => HNO.out k (by rw [HN.out] at hk; exact hk)⟩, HO.out⟩

theorem RowAt.mid_cell {w : World} {B g n c : Nat} {S : List Nat} {k j : Nat} (h : RowAt w B (.slice (some ⟨g, 0, none⟩) n c) (mid S k j)) (hk : k < j) (hj : j < S.length) : w.cell? ⟨g, j, none⟩ = some (pt (S.getD j 0)) := by
  rw [h.cell (i := j) (by rw [mid_len]; exact hj), mid_at _ _ _ hj, if_neg (by omega), if_neg (by omega)]

/-- What is known behind the deletion of the one task with a number, that stands at k: only the row has changed. -/
def Gone (B : Nat) (S : List Nat) (k g : Nat) (w : World) (e : Ending) (w' : World) : Prop := ∃ n c, e = .returned (.slice (some ⟨g, 0, none⟩) n c) ∧ RowAt w' B (.slice (some ⟨g, 0, none⟩) n c) (S.eraseIdx k) ∧ Only (· = g) w w'

set_option maxRecDepth 100000 in
set_option maxHeartbeats 2000000 in
theorem delete_num (g m c Bx base k : Nat) (f : Nat → Int) (t : Int) (S : List Nat) (w : World) (h : RowAt w base (.slice (some ⟨g, 0, none⟩) (m + 1) c) S) (hn : S.length = m + 1) (hf : ∀ x ∈ S, w.cell? ⟨x, 0, none⟩ = some (.int .i64 (f x))) (hfg : ∀ x ∈ S, x ≠ g) (hB : w.cell? ⟨Bx, 0, none⟩ = some (.int .i64 t)) (hBg : Bx ≠ g)
    (hk : k < m + 1) (hkt : f (S.getD k 0) = t) (hone : ∀ j, j < m + 1 → f (S.getD j 0) = t → j = k) :
    Calls Tryz.prog 36 #[.slice (some ⟨g, 0, none⟩) (m + 1) c, .func (.func 37) #[] #[.pointer (some ⟨Bx, 0, none⟩)]] w (Gone base S k g w) := by
  have HI := Lib.hid (show Calls Tryz.prog 66 #[.slice (some ⟨g, 0, none⟩) (m + 1) c, .func (.func 37) #[] #[.pointer (some ⟨Bx, 0, none⟩)]] w (fun e w' => e = .returned (.int .i64 k) ∧ Only (fun _ => False) w w') from
    (index_num (some ⟨g, 0, none⟩) (m + 1) c Bx base f t S w h hn hf hB).mono (fun e w' hh => by
      obtain ⟨⟨k', rfl, h1, h2⟩ | ⟨rfl, hno⟩, hO⟩ := hh
      · rw [hone k' (by omega) h2]; exact ⟨rfl, hO⟩
      · exact absurd hkt (hno k (by omega))))
  have HH := Lib.hid h
  have hmem : ∀ j, j < m + 1 → S.getD j 0 ∈ S := fun j hj => by
    have hl : j < S.length := by rw [hn]; exact hj
    rw [List.getD_eq_getElem?_getD, List.getElem?_eq_getElem hl]; exact List.getElem_mem hl
  have HF := Lib.hid (fun (W : World) (j : Nat) (hj : j < m + 1) (hO : Only (· = g) w W) => show W.cell? ⟨S.getD j 0, 0, none⟩ = some (.int .i64 (f (S.getD j 0))) from by
    have := hf _ (hmem j hj)
    rw [Pr.cell_kept hO (block_lt this) (hfg _ (hmem j hj))]; exact this)
  have HBX := Lib.hid (fun (W : World) (hO : Only (· = g) w W) => show W.cell? ⟨Bx, 0, none⟩ = some (.int .i64 t) from by
    rw [Pr.cell_kept hO (block_lt hB) hBg]; exact hB)
  have HN := Lib.hid hn
  have HONE := Lib.hid hone
  have HKT := Lib.hid hkt
  obtain ⟨-, hc1, hc2, -, -⟩ := h.there
  have hk0 : ((k : Int) == -1) = false := not_val (by omega)
  have HK3 := Lib.hid (show k + 1 ≤ m + 1 by omega)
  have hk5 : (k : Int) + 1 ≤ 9223372036854775807 := by omega
  have hw : wrap64 ((k : Int) + 1) = (k : Int) + 1 := IntWalk.wrap64_in _ (by omega)
  clear h hn hf hfg hB hBg hkt hone hmem
  go_enter Tryz.func36, Tryz.ntmps36
  go_wp2_with (go_at_call 66; (with_reducible refine HI.out.mono ?_); rintro e w1 ⟨rfl, hO1⟩; have HO1 := Lib.hid hO1; clear hO1)
  clear hw
  go_loopw [5, 6] (fun i j wr => ∃ jj : Nat, k < jj ∧ jj ≤ m + 1 ∧ j = .int .i64 jj ∧ i = .int .i64 ((jj - 1 : Nat) : Int) ∧ RowAt wr base (.slice (some ⟨g, 0, none⟩) (m + 1) c) (mid S k jj) ∧ Only (· = g) w wr) (fun _ j _ => m + 1 - (intOf j).toNat)
  case atStart => exact ⟨k + 1, by omega, HK3.out, by go_num, by go_num, by rw [mid_start]; exact HH.out.later HO1.out, HO1.out.mono (fun _ _ e => e.elim)⟩
  case round =>
    obtain ⟨j, hkj, hj, rfl, rfl, hR, hO⟩ := hrel
    have HR := Lib.hid hR
    have HO := Lib.hid hO
    clear hR hO
    obtain ⟨i, hi⟩ : ∃ i, j - 1 = i := ⟨_, rfl⟩
    have hij : j = i + 1 := by omega
    rw [hi]
    by_cases hlt : j < m + 1
    · have c0 := HR.out.mid_cell hkj (by rw [HN.out]; exact hlt)
      have KA := Lib.hid (fun (W : World) (hW : Only (fun _ => False) wr W) => asks_num (S.getD j 0) Bx (f (S.getD j 0)) t W (HF.out W j hlt (HO.out.trans hW (fun _ _ e => e.elim))) (HBX.out W (HO.out.trans hW (fun _ _ e => e.elim))))
      have hv : (f (S.getD j 0) == t) = false := not_val (fun e => by have := HONE.out j hlt e; omega)
      rw [hv] at KA
      have HSET := Lib.hid (fun (W : World) (hW : Only (fun _ => False) wr W) => show (∃ o, W.cell? ⟨g, i, none⟩ = some o) ∧ W.frozen? ⟨g, i, none⟩ = false ∧ RowAt (W.setCell ⟨g, i, none⟩ (pt (S.getD j 0))) base (.slice (some ⟨g, 0, none⟩) (m + 1) c) (mid S k (j + 1)) ∧ Only (· = g) w (W.setCell ⟨g, i, none⟩ (pt (S.getD j 0))) from by
        obtain ⟨s1, s2, s3⟩ := (HR.out.later hW).set (i := i) (by omega) (S.getD j 0)
        refine ⟨Option.isSome_iff_exists.1 s1, s2, ?_, (HO.out.trans hW (fun _ _ e => e.elim)).setCell (p := ⟨g, i, none⟩) rfl _⟩
        rw [← mid_next S hkj (by rw [HN.out]; exact hlt), hi]; exact s3)
      generalize S.getD j 0 = y at *
      unfold pt at *
      have g1 : (j : Int) < (m : Int) + 1 := by omega
      have g2 : (0 : Int) ≤ j := by omega
      have g3 : (i : Int) < (m : Int) + 1 := by omega
      have g4 : j ≤ m := by omega
      have HIJ := Lib.hid hij
      clear hv hij hi
      go_wp2_with (go_at_call 37; (with_reducible refine (KA.out _ (Only.refl _ _)).mono ?_); rintro e w2 ⟨rfl, hO2⟩; obtain ⟨⟨o, hco⟩, hfz, h3, h4⟩ := HSET.out w2 hO2; have H3 := Lib.hid h3; have H4 := Lib.hid h4; clear h3 h4 hO2)
      go_roundw
      case rel => exact ⟨j + 1, by omega, by omega, by go_num, by have := HIJ.out; go_num, H3.out, H4.out⟩
      case measure => simp [intOf]; omega
    · have hjm : j = m + 1 := by omega
      have him : i = m := by omega
      subst hjm
      subst him
      obtain ⟨s1, s2, s3, s4⟩ := HR.out.cut
      have HC := Lib.hid (fun ty => run_clear wr ty g i (c - i) s1 s2)
      have HG := Lib.hid (show Gone base S k g w (.returned (.slice (some ⟨g, 0, none⟩) i c)) (wr.setCells g i [.pointer none]) from ⟨i, c, rfl, by
        have := mid_end S (k := k) (m := i) HN.out (by omega)
        rw [this] at s3; exact s3, HO.out.trans s4 (fun _ _ h => h)⟩)
      have hcl := HC.out
      have g4 : i ≤ c := by omega
      clear s1 s2 s3 s4 HC
      go_wp2_with fail
      go_ret
      exact HG.out

theorem delete_miss (a : Option Addr) (n c Bx base : Nat) (f : Nat → Int) (t : Int) (S : List Nat) (w : World) (h : RowAt w base (.slice a n c) S) (hn : S.length = n) (hf : ∀ x ∈ S, w.cell? ⟨x, 0, none⟩ = some (.int .i64 (f x))) (hB : w.cell? ⟨Bx, 0, none⟩ = some (.int .i64 t))
    (hno : ∀ j, j < n → f (S.getD j 0) ≠ t) :
    Calls Tryz.prog 36 #[.slice a n c, .func (.func 37) #[] #[.pointer (some ⟨Bx, 0, none⟩)]] w (fun e w' => e = .returned (.slice a n c) ∧ Only (fun _ => False) w w') := by
  have HI := Lib.hid (show Calls Tryz.prog 66 #[.slice a n c, .func (.func 37) #[] #[.pointer (some ⟨Bx, 0, none⟩)]] w (fun e w' => e = .returned (.int .i64 (-1)) ∧ Only (fun _ => False) w w') from
    (index_num a n c Bx base f t S w h hn hf hB).mono (fun e w' hh => by
      obtain ⟨⟨k', rfl, h1, h2⟩ | ⟨rfl, -⟩, hO⟩ := hh
      · exact absurd h2 (hno k' (by omega))
      · exact ⟨rfl, hO⟩))
  clear h hn hf hB hno
  go_enter Tryz.func36, Tryz.ntmps36
  go_wp2_with (go_at_call 66; (with_reducible refine HI.out.mono ?_); rintro e w1 ⟨rfl, hO1⟩; have HO1 := Lib.hid hO1; clear hO1)
  go_ret
  exact ⟨rfl, HO1.out⟩
end Go.Proofs.YtpincdcebhmnhaaGreat.Pd
/- The reference's list of tasks of deadlines: one less, by its number. -/
namespace Go.Proofs.YtpincdcebhmnhaaGreat.De
open Go.ChangeShapes Go.WideShapes Go.ChangeAt Go.RowKit Go.Maps
open Go.Proofs.YtpincdcebhmnhaaGreat.Vt Go.Proofs.YtpincdcebhmnhaaGreat.Pd
set_option linter.unusedVariables false

/-- A task is not there any more. -/
def outT (T : Tks) (t : Nat) : Tks := if (T t).p = 0 then T else upd T t noTk

section
variable {B : Nat} {w w5 : World} {q o D : Nat} {L : List (Nat × Nat)} {T : Tks} {n : Int}

/-- The class with its list cut, or none, the row stored anew. -/
theorem RefAt.row_set (h : RefAt B w q o D L T n) {L2 : List (Nat × Nat)} {T2 : Tks} {V V5 : Value} (hV : w.cell? ⟨q, o + 1, none⟩ = some V) (hr : RowAt w5 B V5 (L2.map (·.1))) (hO : Only (fun k => V.ownBlock = some k) w w5) (hg : ∀ g, V5.ownBlock = some g → V.ownBlock = some g)
    (hL : L2.Sublist L) (hT : ∀ x ∈ L2, T2 x.2 = T x.2) :
    w5.cell? ⟨q, o + 1, none⟩ = some V ∧ w5.frozen? ⟨q, o + 1, none⟩ = false ∧ RefAt B (w5.setCell ⟨q, o + 1, none⟩ V5) q o D L2 T2 n ∧ Only (fun k => k = q ∨ V.ownBlock = some k) w (w5.setCell ⟨q, o + 1, none⟩ V5) := by
  obtain ⟨⟨cs, V', h1, h2, h3, h4⟩, h5, h6, h7, h8, h9⟩ := h
  have hVV : V' = V := by have := cell_at h1 (o + 1); rw [hV, h2.2] at this; exact (Option.some.inj this).symm
  subst hVV
  have hsub : ∀ x ∈ L2, x ∈ L := fun x hx => hL.subset hx
  have q1 : w5.heap[q]? = some (.cells cs D (0, 0)) := (hO.block q (block_there h1) (fun e => (h4 q e).1 rfl)).trans h1
  have oq : Only (fun k => k = q) w5 (w5.setCell ⟨q, o + 1, none⟩ V5) := (Only.refl (fun k => k = q) w5).setCell (p := ⟨q, o + 1, none⟩) rfl _
  refine ⟨by rw [cell_at q1]; exact h2.2, frozen_at q1 (o + 1), ⟨⟨_, V5, heap_setCell_same w5 q (o + 1) cs _ _ q1, ?_, ?_, ?_⟩, ?_, ⟨h6.1, fun x hx => h6.2 x (hsub x hx)⟩, fun x hx => h7 x (hsub x hx), (hL.map _).nodup h8, (hL.map _).nodup h9⟩, ?_⟩
  · have hs := (Array.getElem?_eq_some_iff.1 h2.2).1
    exact ⟨by rw [Array.getElem?_setIfInBounds, if_neg (by omega)]; exact h2.1, by rw [Array.getElem?_setIfInBounds, if_pos rfl, if_pos (by omega)]⟩
  · exact hr.keep oq (fun k hk e => (h4 k (hg k hk)).1 e)
  · intro k hk
    exact ⟨(h4 k (hg k hk)).1, fun x hx => (h4 k (hg k hk)).2 x (hsub x hx)⟩
  · intro x hx
    rw [hT x hx]
    have hx5 := (hO.block x.1 (block_there (h5 x (hsub x hx))) (fun e => (h4 x.1 e).2 x (hsub x hx) rfl)).trans (h5 x (hsub x hx))
    exact (oq.block x.1 (block_there hx5) (h7 x (hsub x hx))).trans hx5
  · have o1 : Only (fun k => k = q ∨ V'.ownBlock = some k) w w5 := hO.mono (fun k _ e => Or.inr e)
    exact o1.trans oq (fun k hk e => Or.inl e)

/-- What is known behind the delete, ahead of the store. -/
def Cut (B q o D : Nat) (V : Value) (t : Nat) (T : Tks) (n : Int) (w : World) (e : Ending) (w' : World) : Prop := ∃ v1 v2 v3 L2, e = .returned (.slice v1 v2 v3) ∧ w'.cell? ⟨q, o + 1, none⟩ = some V ∧ w'.frozen? ⟨q, o + 1, none⟩ = false ∧ RefAt B (w'.setCell ⟨q, o + 1, none⟩ (.slice v1 v2 v3)) q o D L2 (outT T t) n ∧ Same L2 (outT T t) ∧ Only (fun k => k = q ∨ V.ownBlock = some k) w (w'.setCell ⟨q, o + 1, none⟩ (.slice v1 v2 v3)) ∧ Only (fun k => V.ownBlock = some k) w w'

theorem del_any (h : RefAt B w q o D L T n) (hs : Same L T) (t : Nat) (ht : t < 17) {V : Value} (hV : w.cell? ⟨q, o + 1, none⟩ = some V) {Bx : Nat} (hB : w.cell? ⟨Bx, 0, none⟩ = some (.int .i64 t)) (hBg : V.ownBlock ≠ some Bx) :
    Calls Tryz.prog 36 #[V, .func (.func 37) #[] #[.pointer (some ⟨Bx, 0, none⟩)]] w (Cut B q o D V t T n w) := by
  obtain ⟨V', e1, hrow, hap⟩ := h.slice
  have hVV : V' = V := by rw [hV] at e1; exact (Option.some.inj e1).symm
  subst hVV
  obtain ⟨f, hff⟩ := h.numbers
  have hf : ∀ x ∈ L.map (·.1), w.cell? ⟨x, 0, none⟩ = some (.int .i64 ((fun y => ((f y : Nat) : Int)) x)) := fun x hx => by
    obtain ⟨⟨b, k⟩, hy, rfl⟩ := List.mem_map.1 hx
    have := h.tn hy
    rw [this]
    exact congrArg (fun z : Nat => some (Value.int .i64 (z : Int))) (hff _ hy).symm
  have gd : ∀ j (hj : j < L.length), (L.map (·.1)).getD j 0 = L[j].1 := fun j hj => by
    rw [List.getD_eq_getElem?_getD, List.getElem?_map, List.getElem?_eq_getElem hj]; rfl
  have fd : ∀ j (hj : j < L.length), f ((L.map (·.1)).getD j 0) = L[j].2 := fun j hj => by rw [gd j hj]; exact hff _ (List.getElem_mem hj)
  by_cases hc : (T t).p = 0
  · have eT : outT T t = T := by unfold outT; rw [if_pos hc]
    obtain ⟨a, c, rfl, -, -, -⟩ := hrow.shape (n := L.length) (by simp)
    refine (Pd.delete_miss a L.length c Bx B _ t (L.map (·.1)) w hrow (by simp) hf hB (fun j hj e => ?_)).mono ?_
    · have e2 := fd j hj
      have := hs.there _ (List.getElem_mem hj)
      rw [← e2, show f ((L.map (·.1)).getD j 0) = t from by have e : ((f ((L.map (·.1)).getD j 0) : Nat) : Int) = t := e; omega] at this
      exact this hc
    · rintro e w' ⟨rfl, hO⟩
      obtain ⟨k1, k2, k3, k4⟩ := h.row_set (L2 := L) (T2 := T) hV (hrow.later hO) (hO.mono (fun _ _ e => e.elim)) (fun _ e => e) (List.Sublist.refl L) (fun x _ => rfl)
      unfold Cut
      rw [eT]
      exact ⟨_, _, _, L, rfl, k1, k2, k3, hs, k4, hO.mono (fun _ _ e => e.elim)⟩
  · have eT : outT T t = upd T t noTk := by unfold outT; rw [if_neg hc]
    obtain ⟨b, hb⟩ := hs.all t ht hc
    obtain ⟨k, hk, hkb⟩ := List.getElem_of_mem hb
    obtain ⟨m, hm⟩ : ∃ m, L.length = m + 1 := ⟨L.length - 1, by omega⟩
    obtain ⟨g, c, rfl, -, -, -, -, hrow2⟩ := hrow.at_block (n := m + 1) (by simp [hm]) (by omega)
    have one : ∀ j (hj : j < L.length), L[j].2 = t → j = k := fun j hj e => by
      refine Fr.nodup_inj h.nums (i := j) (j := k) (by simpa using hj) (by simpa using hk) ?_
      simp only [List.getElem_map]
      rw [e, hkb]
    refine (Pd.delete_num g m c Bx B k _ t (L.map (·.1)) w hrow2 (by simp [hm]) hf (fun x hx e => ?_) hB (fun e => hBg (by rw [e]; rfl)) (by omega) ?_ (fun j hj e => one j (by omega) ?_)).mono ?_
    · obtain ⟨y, hy, rfl⟩ := List.mem_map.1 hx
      exact (hap g rfl).2 y hy e.symm
    · show ((f ((L.map (·.1)).getD k 0) : Nat) : Int) = t
      rw [fd k hk, hkb]
    · have := fd j (by omega)
      have e : ((f ((L.map (·.1)).getD j 0) : Nat) : Int) = t := e
      omega
    · rintro e w' ⟨n5, c5, rfl, hr, hO⟩
      rw [Fr.map_del] at hr
      have hne : ∀ x ∈ L.eraseIdx k, x.2 ≠ t := fun x hx e => by
        obtain ⟨i, hi, hik, rfl⟩ := List.mem_eraseIdx_iff_getElem.1 hx
        exact hik (one i hi e)
      obtain ⟨k1, k2, k3, k4⟩ := h.row_set (L2 := L.eraseIdx k) (T2 := upd T t noTk) hV hr (hO.mono (fun x _ e => by show some g = some x; rw [e])) (fun _ e => e) (List.eraseIdx_sublist L k) (fun x hx => upd_other _ _ (hne x hx))
      unfold Cut
      rw [eT]
      refine ⟨_, _, _, L.eraseIdx k, rfl, k1, k2, k3, ?_, k4, hO.mono (fun x _ e => by show some g = some x; rw [e])⟩
      have sub : ∀ x ∈ L.eraseIdx k, x ∈ L := fun x hx => (List.eraseIdx_sublist L k).subset hx
      refine ⟨fun x hx => hs.num x (sub x hx), fun j hj hcj => ?_, fun x hx => ?_⟩
      · by_cases e : j = t
        · subst e; rw [upd_same] at hcj; exact absurd rfl hcj
        · rw [upd_other _ _ e] at hcj
          obtain ⟨b', hb'⟩ := hs.all j hj hcj
          refine ⟨b', ?_⟩
          obtain ⟨i, hi, hib⟩ := List.getElem_of_mem hb'
          refine List.mem_eraseIdx_iff_getElem.2 ⟨i, hi, fun e2 => ?_, hib⟩
          subst e2
          rw [hib] at hkb
          exact e (congrArg Prod.snd hkb)
      · rw [upd_other _ _ (hne x hx)]; exact hs.there x (sub x hx)
end
end Go.Proofs.YtpincdcebhmnhaaGreat.De
/- Contracts of package prio: List, Bits. -/
namespace Go.Proofs.YtpincdcebhmnhaaGreat.Pr
open Go.ChangeShapes Go.WideShapes Go.ChangeAt Go.RowKit Go.Maps
set_option linter.unusedVariables false

/-- A mask of the first k places. -/
def bitsTo (f : Nat → Bool) : Nat → Nat
  | 0 => 0
  | k + 1 => bitsTo f k + if f k = true then 2 ^ k else 0
/-- Which queues have somebody. -/
def some? (Q : Qs) (k : Nat) : Bool := decide (0 < (Q k).length)
def bits (Q : Qs) : Nat := bitsTo (some? Q) 8

theorem bitsTo_lt (f : Nat → Bool) (k : Nat) : bitsTo f k < 2 ^ k := by
  induction k with
  | zero => simp [bitsTo]
  | succ k ih =>
    unfold bitsTo
    rw [Nat.pow_succ]
    split <;> omega

theorem or_all : ∀ k, k < 8 → ∀ b, b < 2 ^ k → Go.bits BinOp.or IntKind.i64 ((b : Nat) : Int) (wrap64 (2 ^ k)) = ((b + 2 ^ k : Nat) : Int) := by decide +kernel
theorem or_bit {k b : Nat} (hk : k < 8) (hb : b < 2 ^ k) : Go.bits BinOp.or IntKind.i64 (b : Int) (wrap64 (2 ^ k)) = ((b + 2 ^ k : Nat) : Int) := or_all k hk b hb

section
variable {w : World} {p o T : Nat} {V : Nat → Value} {Q : Qs}
/-- A copy of a queue was answered. -/
def Listed (xs : List Int) (w : World) (e : Ending) (w' : World) : Prop := ∃ v, e = .returned (.tuple #[v, .int .i64 0]) ∧ Ints w' w.heap.size v xs ∧ Only (fun _ => False) w w'

end
end Go.Proofs.YtpincdcebhmnhaaGreat.Pr
/- Contracts of the reference: within, Task, Of, Go, Turn, First of ringref1.Prio. -/
namespace Go.Proofs.YtpincdcebhmnhaaGreat.Pr
open Go.ChangeShapes Go.WideShapes Go.ChangeAt Go.RowKit Go.Maps
set_option linter.unusedVariables false

theorem within_any (x a b : Int) (w : World) :
    Calls Tryz.prog 61 #[.int .i64 x, .int .i64 a, .int .i64 b] w fun e w' => e = .returned (.bool (decide (a ≤ x ∧ x ≤ b))) ∧ w = w' := by
  by_cases h1 : a ≤ x
  · by_cases h2 : x ≤ b
    · rw [decide_eq_true (p := a ≤ x ∧ x ≤ b) ⟨h1, h2⟩]
      go_enter Tryz.func61, Tryz.ntmps61
      go_wp2
      go_ret
      exact ⟨rfl, rfl⟩
    · rw [decide_eq_false (p := a ≤ x ∧ x ≤ b) (by omega)]
      go_enter Tryz.func61, Tryz.ntmps61
      go_wp2
      go_ret
      exact ⟨rfl, rfl⟩
  · rw [decide_eq_false (p := a ≤ x ∧ x ≤ b) (by omega)]
    go_enter Tryz.func61, Tryz.ntmps61
    go_wp2
    go_ret
    exact ⟨rfl, rfl⟩

/-- May this be the number of a task? -/
def isN (x : Int) : Bool := decide (1 ≤ x ∧ x ≤ 16)
theorem ref_task (x : Int) (w : World) : Calls Tryz.prog 30 #[.int .i64 x] w fun e w' => e = .returned (.bool (isN x)) ∧ w = w' := by
  have c := Lib.hid (within_any x 1 16 w)
  unfold isN
  generalize decide (1 ≤ x ∧ x ≤ 16) = b at *
  go_enter Tryz.func30, Tryz.ntmps30
  go_wp2_with (go_at_call 61; (with_reducible refine c.out.mono ?_); rintro e w' ⟨rfl, rfl⟩)
  go_ret
  exact ⟨rfl, rfl⟩

section
variable {w : World} {p o T : Nat} {V : Nat → Value} {Q : Qs}

/-- The priority of a task; -1: it is in none. -/
def ofQ (Q : Qs) (t : Int) : Int := match seek Q t with
  | some i => (i : Nat)
  | none => -1
theorem ofQ_some {Q : Qs} {t : Int} {i : Nat} (h : seek Q t = some i) : ofQ Q t = i := by unfold ofQ; simp only [h]
theorem ofQ_none {Q : Qs} {t : Int} (h : seek Q t = none) : ofQ Q t = -1 := by unfold ofQ; simp only [h]

def rank (Q : Qs) (n : Nat) : Int := (Q n).getD 0 0
/-- What the reference's First answers. -/
def FirstRef (Q : Qs) (w : World) (e : Ending) (w' : World) : Prop :=
  match top Q with
  | some n => Pair ((Q n).getD 0 0) n w e w'
  | none => Pair 0 0 w e w'
theorem FirstRef.some {Q : Qs} {n : Nat} {w : World} {e : Ending} {w' : World} (hn : top Q = some n) (h : Pair ((Q n).getD 0 0) n w e w') : FirstRef Q w e w' := by unfold FirstRef; simpa only [hn] using h
theorem FirstRef.none {Q : Qs} {w : World} {e : Ending} {w' : World} (hn : top Q = none) (h : Pair 0 0 w e w') : FirstRef Q w e w' := by unfold FirstRef; simpa only [hn] using h
theorem firstref_is {Q : Qs} {f : Nat} {args : Array Value} {w : World} (h : Calls Tryz.prog f args w (FirstRef Q w)) {n : Nat} (hn : top Q = some n) : Calls Tryz.prog f args w (Pair ((Q n).getD 0 0) n w) := by
  unfold FirstRef at h
  simpa only [hn] using h
theorem firstref_not {Q : Qs} {f : Nat} {args : Array Value} {w : World} (h : Calls Tryz.prog f args w (FirstRef Q w)) (hn : top Q = none) : Calls Tryz.prog f args w (Pair 0 0 w) := by
  unfold FirstRef at h
  simpa only [hn] using h

theorem ref_first (h : QAt w p o T V Q) (hl : ∀ i, i < 8 → (Q i).length ≤ 17000000000000) :
    Calls Tryz.prog 48 #[.pointer (some ⟨p, o, none⟩)] w (FirstRef Q w) := by
  have H := Lib.hid h
  have HL := Lib.hid hl
  clear hl h
  go_enter Tryz.func48, Tryz.ntmps48
  go_wp2_with fail
  go_loopw [4] (fun i wr => ∃ (k : Nat) (z : Int), k ≤ 8 ∧ i = .int .i64 z ∧ z + 1 = k ∧ (∀ j, k ≤ j → j < 8 → Q j = []) ∧ Only (fun _ => False) w wr) (fun i _ => (intOf i + 1).toNat)
  case atStart => exact ⟨8, 7, Nat.le_refl _, rfl, rfl, fun j h1 h2 => by omega, Only.refl _ w⟩
  case round =>
    obtain ⟨k, z, hk, rfl, hz, ht, hO⟩ := hrel
    have HT := Lib.hid ht
    have HO := Lib.hid hO
    clear ht hO
    by_cases h0 : k = 0
    · obtain rfl : z = -1 := by omega
      subst h0
      go_wp2_with fail
      go_ret2
      exact FirstRef.none (top_none (fun j hj => HT.out j (Nat.zero_le _) hj)) ⟨rfl, HO.out⟩
    · obtain ⟨n, rfl⟩ : ∃ n : Nat, z = n := ⟨z.toNat, by omega⟩
      obtain rfl : k = n + 1 := by omega
      have hn : n < 8 := by omega
      have H1 := Lib.hid (H.out.later HO.out)
      have c0 := H1.out.cell hn
      have HLn := Lib.hid (HL.out n hn)
      have g1 : (n : Int) < 8 := by omega
      by_cases he : Q n = []
      · have HE := Lib.hid he
        obtain ⟨a, c, hv, -, -⟩ := (H1.out.row n hn).shape
        rw [hv, he] at c0
        clear he hz h0 hk hv
        go_wp2_with fail
        go_roundw
        case rel => exact ⟨n, (n : Int) - 1, by omega, by go_num, by omega, fun j h1 h2 => by
          by_cases e : j = n
          · subst e; exact HE.out
          · exact HT.out j (by omega) h2, HO.out⟩
        case measure => simp [intOf]; try omega
      · have HE := Lib.hid he
        obtain ⟨m, hm⟩ : ∃ m, (Q n).length = m + 1 := ⟨(Q n).length - 1, by have := List.length_pos_iff.2 he; omega⟩
        obtain ⟨g, c, hv, -, hg, HR⟩ := (H1.out.row n hn).at_block hm (by omega)
        have d0 := ints_cell HR (j := 0) (by omega)
        rw [hv] at c0
        rw [hm] at HLn
        have hmb : (m : Int) + 1 ≤ 17000000000000 := by have := HLn.out; omega
        clear he hz h0 hk hv HR hm
        go_wp2_with fail
        go_ret2
        exact FirstRef.some (top_some hn HE.out HT.out) ⟨rfl, HO.out⟩
end
end Go.Proofs.YtpincdcebhmnhaaGreat.Pr
/- Contracts of the reference: Go and Turn of ringref1.Prio. -/
namespace Go.Proofs.YtpincdcebhmnhaaGreat.Pr
open Go.ChangeShapes Go.WideShapes Go.ChangeAt Go.RowKit Go.Maps
set_option linter.unusedVariables false

/-- A list without a number. -/
def sans (t : Int) (xs : List Int) : List Int := xs.filter (fun x => x != t)

theorem sans_len (t : Int) (xs : List Int) : (sans t xs).length ≤ xs.length := List.length_filter_le _ _
theorem sans_take {t : Int} {xs : List Int} {k : Nat} (hk : k < xs.length) : sans t (xs.take (k + 1)) = sans t (xs.take k) ++ if xs.getD k 0 = t then [] else [xs.getD k 0] := by
  unfold sans
  rw [List.take_succ_eq_append_getElem hk, List.filter_append]
  congr 1
  have : xs.getD k 0 = xs[k] := by simp [List.getD, hk]
  rw [this]
  by_cases e : xs[k] = t <;> simp [e]

/-- The queues below k without a number. -/
def goneTo (Q : Qs) (t : Int) (k : Nat) : Qs := fun j => if j < k then sans t (Q j) else Q j
def gone (Q : Qs) (t : Int) : Qs := fun j => if j < 8 then sans t (Q j) else Q j
theorem goneTo_zero (Q : Qs) (t : Int) : goneTo Q t 0 = Q := by funext j; simp [goneTo]
theorem goneTo_next (Q : Qs) (t : Int) (k : Nat) : upd (goneTo Q t k) k (sans t (Q k)) = goneTo Q t (k + 1) := by
  funext j
  unfold upd goneTo
  by_cases e : j = k
  · subst e; simp
  · rw [if_neg e]
    by_cases h : j < k
    · rw [if_pos h, if_pos (by omega)]
    · rw [if_neg h, if_neg (by omega)]
theorem goneTo_at (Q : Qs) (t : Int) (k : Nat) : goneTo Q t k k = Q k := by simp [goneTo]

section
variable {w : World} {p o T : Nat} {V : Nat → Value} {Q : Qs}

theorem go_store {w1 w2 : World} {V1 : Nat → Value} {k : Nat} {v : Value} {t : Int} (h : QAt w1 p o T V1 (goneTo Q t k)) (hs : Step p o V V1 w w1) (hk : k < 8) (hr : Ints w2 w1.heap.size v (sans t (Q k))) (hO : Only (fun _ => False) w1 w2) :
    w2.cell? ⟨p, o + k, none⟩ = some (V1 k) ∧ w2.frozen? ⟨p, o + k, none⟩ = false ∧ QAt (w2.setCell ⟨p, o + k, none⟩ v) p o T (upd V1 k v) (goneTo Q t (k + 1)) ∧ Step p o V (upd V1 k v) w (w2.setCell ⟨p, o + k, none⟩ v) := by
  obtain ⟨q1, q2⟩ := h.row_set hk (hr.base (Nat.zero_le _)) (hO.mono (fun _ _ e => e.elim)) (fun x hx => Or.inr (hr.block hx).1)
  rw [goneTo_next] at q1
  exact ⟨(h.later hO).cell hk, (h.later hO).frozen _, q1, hs.trans q2⟩

theorem app_only {w1 wr w5 : World} {v : Value} {ys : List Int} {oo : Obj} (hr : Ints wr w1.heap.size v ys) (hO : Only (fun _ => False) w1 wr) (h5 : Only (fun k => v.ownBlock = some k) (wr.alloc oo) w5) : Only (fun _ => False) w1 w5 :=
  (hO.alloc oo).trans h5 (fun k hk e => by have := (hr.block e).1; omega)

set_option maxHeartbeats 1000000 in
theorem go_any (h : QAt w p o T V Q) (hl : ∀ i, i < 8 → (Q i).length ≤ 1000000000000) (t : Int) :
    Calls Tryz.prog 35 #[.pointer (some ⟨p, o, none⟩), .int .i64 t] w (Moved p o T V (goneTo Q t 8) (.tuple #[]) w) := by
  have H := Lib.hid h
  have HL := Lib.hid hl
  clear hl h
  go_enter Tryz.func35, Tryz.ntmps35
  go_wp2_with fail
  go_loopw [4, 5, 6, 8, 11] (fun _ _ _ _ i wr => ∃ (k : Nat) (V1 : Nat → Value), k ≤ 8 ∧ i = .int .i64 k ∧ QAt wr p o T V1 (goneTo Q t k) ∧ Step p o V V1 w wr) (fun _ _ _ _ i _ => 8 - (intOf i).toNat)
  case atStart => exact ⟨0, V, Nat.zero_le _, rfl, by rw [goneTo_zero]; exact H.out, Step.refl _ _ _ _⟩
  case round =>
    obtain ⟨k, V1, hk, rfl, hq, hs⟩ := hrel
    have HQ := Lib.hid hq
    have HS := Lib.hid hs
    clear hq hs
    by_cases hlt : k < 8
    · have c0 := HQ.out.cell hlt
      have R := HQ.out.row k hlt
      rw [goneTo_at] at R
      have HR := Lib.hid R
      obtain ⟨sa, sc, hv, -, -⟩ := R.shape
      have HV := Lib.hid hv
      rw [hv] at c0
      clear hv R
      have g1 : (k : Int) < 8 := by omega
      have HLk := HL.out k hlt
      generalize hw1 : wr = w1 at *
      go_wp2_with fail
      go_quiet (fail)
      obtain ⟨w2, hw2⟩ : ∃ w2, w1.drewN nq = w2 := ⟨_, rfl⟩
      have HW2 := Lib.hid (show Only (fun _ => False) w1 w2 from by rw [← hw2]; exact only_drewN (Only.refl _ _) _)
      rw [hw2]
      clear hw2
      have HZ := Lib.hid HW2.out.size
      generalize hn : (Q k).length = n at *
      have HN := Lib.hid hn
      clear hn
      go_wp2_with fail
      go_loopw [6, 8, 19] (fun l _ i wr => ∃ j : Nat, j ≤ n ∧ i = .int .i64 j ∧ Ints wr w1.heap.size l (sans t ((Q k).take j)) ∧ Only (fun _ => False) w1 wr) (fun _ _ i _ => n - (intOf i).toNat)
      case atStart => exact ⟨0, Nat.zero_le _, rfl, by simpa [sans] using ints_nil w2 w1.heap.size, HW2.out⟩
      case round =>
        obtain ⟨j, hj, rfl, hr, hO⟩ := hrel
        have HR1 := Lib.hid hr
        have HO := Lib.hid hO
        clear hr hO
        by_cases hjn : j < n
        · have HRq := Lib.hid (HR.out.later HO.out)
          obtain ⟨b, off, e, -, hc⟩ := (HV.out ▸ HRq.out.nums : Nums wr (.slice sa n sc) (Q k)).at (j := j) (by rw [HN.out]; exact hjn)
          subst e
          have HT := Lib.hid (sans_take (t := t) (xs := Q k) (k := j) (by rw [HN.out]; exact hjn))
          have g2 : (j : Int) < n := by omega
          generalize (Q k).getD j 0 = x at *
          by_cases hx : x = t
          · have HX : Hid (sans t ((Q k).take (j + 1)) = sans t ((Q k).take j)) := by have := HT.out; rw [if_pos hx, List.append_nil] at this; exact this
            subst hx
            clear HT
            go_wp2_with fail
            go_roundw
            case rel => exact ⟨j + 1, by omega, by go_num, by rw [HX.out]; exact HR1.out, HO.out⟩
            case measure => simp [intOf]; omega
          · have HX : Hid (sans t ((Q k).take (j + 1)) = sans t ((Q k).take j) ++ [x]) := by have := HT.out; rw [if_neg hx] at this; exact this
            have hx' : (x == t) = false := by simpa using hx
            have hlb := Lib.hid (show (sans t ((Q k).take j)).length + 1 ≤ 17000000000000 from by have := sans_len t ((Q k).take j); rw [List.length_take] at this; omega)
            clear HT hx
            generalize sans t ((Q k).take j) = ys at *
            have HA := Lib.hid (HR1.out.later ((Only.refl (fun _ => False) wr).alloc (.cells #[.int .i64 x] 3)))
            have HB := Lib.hid (show w1.heap.size ≤ (wr.alloc (.cells #[.int .i64 x] 3)).heap.size from by have := HO.out.size; simp; omega)
            go_wp2_with (at_builtin; go_must (refine append_one rfl (.tmp 26) (.tmp 28) rfl w1.heap.size wr.heap.size 1 _ ys x rfl rfl HA.out (heap_alloc_new wr _) hlb.out HB.out ?_); go_must (intro v5 w5 hr5 hO5 hb5); have HR5 := Lib.hid hr5; have HO5 := Lib.hid (app_only HR1.out HO.out hO5); clear hr5 hO5 hb5)
            go_roundw
            case rel => exact ⟨j + 1, by omega, by go_num, by rw [HX.out]; exact HR5.out, HO5.out⟩
            case measure => simp [intOf]; omega
        · obtain rfl : j = n := by omega
          have HF := Lib.hid (show Ints wr w1.heap.size _ (sans t (Q k)) from by have := HR1.out; rw [List.take_of_length_le (by rw [HN.out]; exact Nat.le_refl _)] at this; exact this)
          obtain ⟨fa, fc, e0, -, -⟩ := HF.out.shape
          obtain ⟨e1, e2, e3, e4⟩ := go_store HQ.out HS.out hlt HF.out HO.out
          rw [e0] at e3 e4
          rw [HV.out] at e1
          subst e0
          have E3 := Lib.hid e3
          have E4 := Lib.hid e4
          clear e3 e4
          go_wp2_with fail
          go_roundw
          case rel => exact ⟨k + 1, _, by omega, by go_num, E3.out, E4.out⟩
          case measure => simp [intOf]; omega
    · obtain rfl : k = 8 := by omega
      go_wp2_with fail
      go_end0
      exact ⟨rfl, V1, HQ.out, HS.out⟩

theorem goneTo_lt (Q : Qs) (t : Int) {i : Nat} (hi : i < 8) : goneTo Q t 8 i = sans t (Q i) := by simp [goneTo, hi]

set_option maxHeartbeats 1000000 in
theorem ref_turn (h : QAt w p o T V Q) (hl : ∀ i, i < 8 → (Q i).length ≤ 1000000000000) (v : Nat) (hv : v < 8) (x : Int) (xs : List Int) (he : Q v = x :: xs) :
    Calls Tryz.prog 42 #[.pointer (some ⟨p, o, none⟩), .int .i64 v] w (Moved p o T V (upd (goneTo Q x 8) v (sans x (Q v) ++ [x])) (.tuple #[]) w) := by
  have H := Lib.hid h
  have c0 := h.cell hv
  have hL := hl v hv
  obtain ⟨n, hn⟩ : ∃ n, xs.length = n := ⟨_, rfl⟩
  have hq : (Q v).length = n + 1 := by rw [he]; simp [hn]
  obtain ⟨g, c, hw, -, hgl, HR⟩ := (h.row v hv).at_block (n := n + 1) hq (by omega)
  have d0 := ints_cell HR (j := 0) (by rw [he]; simp)
  rw [he] at d0
  have d0 : w.cell? ⟨g, 0, none⟩ = some (.int .i64 x) := d0
  rw [hw] at c0
  have C := Lib.hid (fun (W : World) (hW : QAt W p o T V Q) => go_any hW hl x)
  have HS := Lib.hid (goneTo_lt Q x hv)
  have HL := Lib.hid (show (goneTo Q x 8 v).length + 1 ≤ 17000000000000 from by rw [HS.out]; have := sans_len x (Q v); omega)
  have g1 : (v : Int) < 8 := by omega
  rw [hq] at hL
  rw [← HS.out]
  generalize goneTo Q x 8 = Q1 at *
  clear h hl hn hq he HR hw
  go_enter Tryz.func42, Tryz.ntmps42
  go_wp2_with (go_at_call 35; (with_reducible refine (C.out _ H.out).mono ?_); rintro e w1 ⟨rfl, V1, hq1, hs1⟩; have HQ1 := Lib.hid hq1; have HS1 := Lib.hid hs1; clear hq1 hs1)
  have c1 := HQ1.out.cell hv
  have hp := HQ1.out.lt
  obtain ⟨sa, sc, hsv, -, -⟩ := (HQ1.out.row v hv).shape
  have HSV := Lib.hid hsv
  rw [hsv] at c1
  clear hsv
  go_region_law (refine step_add rfl (.tmp 21) (.tmp 23) rfl w1 p o T w1.heap.size V1 Q1 v x HQ1.out hv ((Only.refl _ w1).alloc _).drew (by rw [HSV.out]; rfl) (by rfl) (heap_alloc_new w1 _) HL.out ?_; intro g c w2 q1 q2 HA; rw [HSV.out] at q1)
  all_goals (
    (try go_wp2_with fail)
    go_end0
    exact ⟨rfl, _, HA.out.at_, HS1.out.trans HA.out.step⟩)
end
end Go.Proofs.YtpincdcebhmnhaaGreat.Pr
/- Queues in which each task stands once: the reference's Go and Turn leave what the program's leave. -/
namespace Go.Proofs.YtpincdcebhmnhaaGreat.Pr
open Go.ChangeShapes Go.WideShapes Go.ChangeAt Go.RowKit Go.Maps
set_option linter.unusedVariables false

theorem Uniq.gone {Q : Qs} (h : Uniq Q) {t : Int} {i : Nat} (hi : i < 8) (ht : t ∈ Q i) : goneTo Q t 8 = Pr.upd Q i ((Q i).erase t) := by
  funext j
  unfold goneTo Pr.upd
  by_cases hj : j < 8
  · rw [if_pos hj]
    by_cases e : j = i
    · subst e
      rw [if_pos rfl, (h.nodup j hj).erase_eq_filter]
      rfl
    · rw [if_neg e]
      unfold sans
      rw [List.filter_eq_self]
      intro a ha
      have : a ≠ t := by
        rintro rfl
        exact e (h.only j i a hj hi ha ht)
      simpa using this
  · rw [if_neg hj, if_neg (by omega)]

theorem Uniq.turn {Q : Qs} (h : Uniq Q) {v : Nat} (hv : v < 8) {x : Int} {xs : List Int} (he : Q v = x :: xs) :
    Pr.upd (goneTo Q x 8) v (sans x (Q v) ++ [x]) = Pr.upd Q v (xs ++ [x]) ∧ Uniq (Pr.upd Q v (xs ++ [x])) := by
  have hx : x ∈ Q v := by rw [he]; simp
  have hn := h.nodup v hv
  rw [he, List.nodup_cons] at hn
  constructor
  · rw [h.gone hv hx, upd_upd, he]
    congr 2
    unfold sans
    rw [List.filter_cons_of_neg (by simp), List.filter_eq_self]
    intro a ha
    have : a ≠ x := by rintro rfl; exact hn.1 ha
    simpa using this
  · refine h.upd hv ?_ (fun t ht => Or.inl ?_)
    · rw [List.nodup_append]
      refine ⟨hn.2, by simp, fun a ha b hb => ?_⟩
      simp at hb
      subst hb
      rintro rfl
      exact hn.1 ha
    · rw [he]
      rcases List.mem_append.1 ht with ht | ht
      · exact List.mem_cons_of_mem _ ht
      · simp at ht; subst ht; simp

/-- Of a task that is in no queue nothing is to be taken out. -/
theorem gone_none {Q : Qs} {t : Int} (h : seek Q t = none) : goneTo Q t 8 = Q := by
  funext j
  unfold goneTo
  split
  · rename_i hj
    unfold sans
    rw [List.filter_eq_self]
    intro a ha
    have : a ≠ t := by rintro rfl; exact seek_no h hj ha
    simpa using this
  · rfl
end Go.Proofs.YtpincdcebhmnhaaGreat.Pr
