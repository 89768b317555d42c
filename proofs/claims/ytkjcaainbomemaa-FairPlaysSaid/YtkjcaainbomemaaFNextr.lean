/- The reference's Next. -/
import Derived.Test.YtkjcaainbomemaaFTops2
namespace Go.Proofs.Ytkjcaainbomemaa.Fr
open Go.ChangeShapes Go.WideShapes Go.ChangeAt Go.RowKit Go.Maps
open Go.Proofs.Ytkjcaainbomemaa.Vt Go.Proofs.Ytkjcaainbomemaa.Pt
set_option linter.unusedVariables false

theorem pick_group {T : Tks} {G : Grs} {k : Nat} (h0 : (T 0).r = false) (hz : (next T G).1 ≠ 0) (hk : k < 8) (hf : first T ((k : Int) + 1) ≠ 0) (hv : (G (k + 1)).v = (next T G).2) (hno : ∀ g : Nat, 1 ≤ g → g ≤ k → first T g ≠ 0 → (G g).v ≠ (next T G).2) : (next T G).1 = first T ((k : Int) + 1) := by
  have ek : ((k : Int) + 1) = ((k + 1 : Nat) : Int) := by omega
  rw [ek] at hf ⊢
  rcases ((next_spec (G := G) h0).2 hz).2.2 with ⟨g, h1, h2, h3, h4⟩ | ⟨h1, h2, h3⟩
  · rw [h3] at hv hno ⊢
    simp only at hv hno ⊢
    by_cases e : g = k + 1
    · subst e; rfl
    · by_cases l : g ≤ k
      · exact absurd rfl (hno g h1.1 l h2)
      · exact absurd hv (h4 (k + 1) (by omega) (by omega) hf)
  · rw [h2] at hv
    exact absurd hv (h3 (k + 1) (by omega) (by omega) hf)
theorem pick_solo {T : Tks} {G : Grs} (h0 : (T 0).r = false) (hz : (next T G).1 ≠ 0) (hno : ∀ g : Nat, 1 ≤ g → g ≤ 8 → first T g ≠ 0 → (G g).v ≠ (next T G).2) : first T 0 ≠ 0 ∧ (next T G).1 = first T 0 := by
  rcases ((next_spec (G := G) h0).2 hz).2.2 with ⟨g, h1, h2, h3, h4⟩ | ⟨h1, h2, h3⟩
  · rw [h3] at hno
    exact absurd rfl (hno g h1.1 h1.2 h2)
  · rw [h2]; exact ⟨h1, rfl⟩

/-- What the reference's Next answers. -/
def NextAns (w : World) (L : List (Nat × Nat)) (n : Nat) (e : Ending) (w' : World) : Prop :=
  ((n = 0 ∧ e = .returned (.pointer none)) ∨ (n ≠ 0 ∧ ∃ b, (b, n) ∈ L ∧ e = .returned (pt b))) ∧ Only (fun _ => False) w w'

set_option maxRecDepth 100000 in
set_option maxHeartbeats 1000000 in
theorem nextr_any {B : Nat} {w : World} {q : Nat} {L : List (Nat × Nat)} {T : Tks} {G : Grs} {W GW : Nat → Int} (h : RefAt B w q L T G W GW) (hs : Same L T G W GW) (h0 : (T 0).r = false) (hrc : ∀ t, t < 17 → (T t).r = true → (T t).c ≠ 0) :
    Calls Try.prog 24 #[.pointer (some ⟨q, 0, none⟩)] w (NextAns w L (next T G).1) := by
  have H := Lib.hid h
  have HS := Lib.hid (⟨hs, h0, hrc⟩ : Same L T G W GW ∧ (T 0).r = false ∧ ∀ t, t < 17 → (T t).r = true → (T t).c ≠ 0)
  have ct := Lib.hid (topsr_any h hs h0 hrc)
  clear h hs h0 hrc
  by_cases hz : (next T G).1 = 0
  · have HZ := Lib.hid hz
    clear hz
    go_enter Try.func24, Try.ntmps24
    go_wp2_with (go_at_call 37; (with_reducible refine ct.out.mono ?_); rintro e w1 ⟨a, n, c, U, rfl, hU, hn, hN, hT, hO⟩; have hn0 : ((n : Int) == 0) = true := (by have := (tops_empty HS.out.2.1 hT).2 HZ.out; rw [this] at hU; simp at hU; simp; omega); have HO := Lib.hid hO; clear hU hN hT hO)
    go_ret
    exact ⟨Or.inl ⟨HZ.out, rfl⟩, HO.out⟩
  · have HZ := Lib.hid hz
    obtain ⟨m, hm⟩ : ∃ m, (next T G).2 = m := ⟨_, rfl⟩
    have HM := Lib.hid hm
    clear hz hm
    go_enter Try.func24, Try.ntmps24
    go_wp2_with (first
      | (go_at_call 37; (with_reducible refine ct.out.mono ?_); rintro e w1 ⟨a, n, c, U, rfl, hU, hn, hN, hT, hO⟩; have hn1 : 1 ≤ n := (by have h1 : U ≠ [] := fun e => HZ.out ((tops_empty HS.out.2.1 hT).1 e); have := List.length_pos_iff.2 h1; omega); have hn0 : ((n : Int) == 0) = false := (by simp; omega); have HO := Lib.hid hO; have cm := min_any a n c U w1 hN hU hn1 (by omega); rw [show leastTo U (n - 1) = m from (by have hls := leastTo_spec U (n - 1) (by omega); rw [tops_least HS.out.2.1 hT hls.1 (fun x hx => by obtain ⟨i, hi, e⟩ := List.getElem_of_mem hx; have := hls.2 i (by omega); rw [← e]; simpa [List.getD, hi] using this)]; exact HM.out)] at cm; have CM := Lib.hid cm; clear hU hN hT hO cm)
      | (go_at_call 39; (with_reducible refine CM.out.mono ?_); rintro e w' ⟨rfl, rfl⟩))
    clear ct CM
    go_loopw [5] (fun i wr => ∃ k : Nat, k ≤ 8 ∧ i = .int .i64 ((k : Int) + 1) ∧ (∀ g : Nat, 1 ≤ g → g ≤ k → first T g ≠ 0 → (G g).v ≠ m) ∧ Only (fun _ => False) w wr) (fun i _ => 9 - (intOf i).toNat)
    case atStart => exact ⟨0, by omega, rfl, fun g h1 h2 => by omega, HO.out⟩
    case round =>
      obtain ⟨k, hk, rfl, hno, hO⟩ := hrel
      have HNO := Lib.hid hno
      have HO2 := Lib.hid hO
      clear hno hO
      by_cases hlt : k < 8
      · have co := Lib.hid (ofh_any (H.out.later HO2.out) HS.out.1 HS.out.2.1 HS.out.2.2 ((k : Int) + 1))
        have g1 : (k : Int) + 1 < 9 := by omega
        by_cases hf : first T ((k : Int) + 1) = 0
        · have HF := Lib.hid hf
          clear hf
          go_wp2_with (go_at_call 38; (with_reducible refine co.out.mono ?_); rintro e w2 ⟨a2, n2, c2, K, rfl, hK, hc1, hc2, hn16, hrow, hmem, hz, hnz, hO1⟩; have HO1 := Lib.hid (HO2.out.trans hO1 (fun _ _ h => h)); have hn0 : ¬ (0 : Int) < n2 := (by intro h; exact (hnz (by omega)).1 HF.out); clear hK hrow hmem hz hnz hO1)
          go_roundw
          case rel =>
            refine ⟨k + 1, by omega, by go_num, fun g h1 h2 h3 => ?_, HO1.out⟩
            by_cases e : g = k + 1
            · subst e; exact absurd HF.out h3
            · exact HNO.out g h1 (by omega) h3
          case measure => simp [intOf]; omega
        · have HF := Lib.hid hf
          by_cases hv : (G (k + 1)).v = m
          · have HP := Lib.hid (pick_group HS.out.2.1 HZ.out hlt hf (by rw [hv, HM.out]) (fun g h1 h2 h3 => by rw [HM.out]; exact HNO.out g h1 h2 h3))
            have hv2 : ((G (k + 1)).v == m) = true := by simp [hv]
            clear hf hv
            go_wp2_with (go_at_call 38; (with_reducible refine co.out.mono ?_); rintro e w2 ⟨a2, n2, c2, K, rfl, hK, hc1, hc2, hn16, hrow, hmem, hz, hnz, hO1⟩; have HO1 := Lib.hid (HO2.out.trans hO1 (fun _ _ h => h)); have hn0 : (0 : Int) < n2 := (by have : n2 ≠ 0 := fun h => HF.out (hz h); omega); have dv := (H.out.later HO1.out).gv (k + 1) (by omega); have hkn := (hnz (by omega)).2; obtain ⟨gk, rfl, -, -, d0⟩ := row_at hrow (j := 0) (by omega); have HKN := Lib.hid hkn; generalize K.getD 0 0 = b0 at *; unfold pt at d0; clear hkn hK hrow hmem hz hnz hO1)
            go_ret
            exact ⟨Or.inr ⟨HZ.out, _, by rw [HP.out]; exact HKN.out, rfl⟩, HO1.out⟩
          · have hv2 : ((G (k + 1)).v == m) = false := by simp [hv]
            have HV := Lib.hid hv
            clear hf hv
            go_wp2_with (go_at_call 38; (with_reducible refine co.out.mono ?_); rintro e w2 ⟨a2, n2, c2, K, rfl, hK, hc1, hc2, hn16, hrow, hmem, hz, hnz, hO1⟩; have HO1 := Lib.hid (HO2.out.trans hO1 (fun _ _ h => h)); have hn0 : (0 : Int) < n2 := (by have : n2 ≠ 0 := fun h => HF.out (hz h); omega); have dv := (H.out.later HO1.out).gv (k + 1) (by omega); clear hK hrow hmem hz hnz hO1)
            go_roundw
            case rel =>
              refine ⟨k + 1, by omega, by go_num, fun g h1 h2 h3 => ?_, HO1.out⟩
              by_cases e : g = k + 1
              · subst e; exact HV.out
              · exact HNO.out g h1 (by omega) h3
            case measure => simp [intOf]; omega
      · obtain rfl : k = 8 := by omega
        have co := Lib.hid (ofh_any (H.out.later HO2.out) HS.out.1 HS.out.2.1 HS.out.2.2 0)
        have HP := Lib.hid (pick_solo HS.out.2.1 HZ.out (fun g h1 h2 h3 => by rw [HM.out]; exact HNO.out g h1 h2 h3))
        go_wp2_with (go_at_call 38; (with_reducible refine co.out.mono ?_); rintro e w2 ⟨a2, n2, c2, K, rfl, hK, hc1, hc2, hn16, hrow, hmem, hz, hnz, hO1⟩; have HO1 := Lib.hid (HO2.out.trans hO1 (fun _ _ h => h)); have hn0 : (0 : Int) < n2 := (by have : n2 ≠ 0 := fun h => HP.out.1 (hz h); omega); have hkn := (hnz (by omega)).2; obtain ⟨gk, rfl, -, -, d0⟩ := row_at hrow (j := 0) (by omega); have HKN := Lib.hid hkn; generalize K.getD 0 0 = b0 at *; unfold pt at d0; clear hkn hK hrow hmem hz hnz hO1)
        go_ret
        exact ⟨Or.inr ⟨HZ.out, _, by rw [HP.out.2]; exact HKN.out, rfl⟩, HO1.out⟩
end Go.Proofs.Ytkjcaainbomemaa.Fr
