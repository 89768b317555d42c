/- Texts of this claim, merged: RkBest. -/
import Derived.Test.YtpincdcebhmnhaaGreatM23
import Derived.Test.YtpincdcebhmnhaaGreatM13
import Derived.Test.YtpincdcebhmnhaaGreatM21
/- The reference of one processor's scheduler: what ties it to the program's, and who is the best. -/
namespace Go.Proofs.YtpincdcebhmnhaaGreat.Rk
open Go.ChangeShapes Go.WideShapes Go.ChangeAt Go.RowKit Go.Maps
open Go.Proofs.YtpincdcebhmnhaaGreat.Of Go.Proofs.YtpincdcebhmnhaaGreat.Pk
set_option linter.unusedVariables false
set_option maxRecDepth 100000

/-- The reference tells what the program's scheduler tells. -/
structure Link (S : St) (M : RSt) : Prop where
  T : M.T = S.T
  Q : M.Q = S.Q
  d : M.d = S.d
  n : M.n = S.n
  fs : Fr.Same M.LF S.T Fr.noG M.W (fun _ => 0)
  ds : De.Same M.LD S.d
  C : ∀ t : Int, M.C t = if 1 ≤ t ∧ t ≤ 16 then S.C t.toNat else 0
  off : ∀ k : Nat, 1 ≤ k → k ≤ 16 → S.C k ≠ 0 → M.f k = !ready S k
  inq : ∀ k v : Nat, v < 8 → (k : Int) ∈ S.Q v → M.A k = v
  outq : ∀ k : Nat, 1 ≤ k → k ≤ 16 → S.C k = 2 → (∀ v, v < 8 → (k : Int) ∉ S.Q v) → M.A k = S.A k
  now : M.now = S.now
  used : S.now ≠ 0 → M.used = S.row

section
variable {B : Nat} {w w' : World} {q : Nat} {M : RSt} {S : St} {b : Int}

theorem Link.gno (hI : Inv S b) : S.G = Fr.noG := hI.gno
theorem fair_ref (h : RefP B w q M) (hL : Link S M) : Fr.RefAt B w q 0 44 M.LF S.T Fr.noG M.W (fun _ => 0) := hL.T ▸ h.fair
theorem dead_ref (h : RefP B w q M) (hL : Link S M) : De.RefAt B w q 36 44 M.LD S.d S.n := hL.d ▸ hL.n ▸ h.dead
theorem prio_ref (h : RefP B w q M) (hL : Link S M) : Pr.QAt w q 28 44 M.U S.Q := hL.Q ▸ h.prio

theorem nextd_no (h : RefP B w q M) (hL : Link S M) (hI : Inv S b) (hp : De.pick S.d = 0) :
    Calls Tryz.prog 47 #[.pointer (some ⟨q, 36, none⟩)] w (fun e w' => e = .returned (.pointer none) ∧ Only (fun _ => False) w w') :=
  (De.nextr_any (dead_ref h hL) ((dead_ref h hL).len16 hL.ds) hL.ds hI.dfit).mono fun e w' ⟨h1, h2⟩ => by
    rcases h1 with ⟨h1, -⟩ | ⟨x, ⟨-, h3⟩, -⟩
    · exact ⟨h1, h2⟩
    · exact absurd hp h3
theorem nextd_yes (h : RefP B w q M) (hL : Link S M) (hI : Inv S b) (hp : De.pick S.d ≠ 0) :
    Calls Tryz.prog 47 #[.pointer (some ⟨q, 36, none⟩)] w (fun e w' => (∃ x, e = .returned (.pointer (some ⟨x, 0, none⟩)) ∧ w'.cell? ⟨x, 0, none⟩ = some (.int .i64 (De.pick S.d : Nat))) ∧ Only (fun _ => False) w w') :=
  (De.nextr_any (dead_ref h hL) ((dead_ref h hL).len16 hL.ds) hL.ds hI.dfit).mono fun e w' ⟨h1, h2⟩ => by
    rcases h1 with ⟨-, h1⟩ | ⟨x, ⟨h3, -⟩, h4⟩
    · exact absurd h1 hp
    · exact ⟨⟨x, h4, ((dead_ref h hL).later h2).tn h3⟩, h2⟩
theorem nextf_no (h : RefP B w q M) (hL : Link S M) (hI : Inv S b) (hp : (Fr.next S.T S.G).1 = 0) :
    Calls Tryz.prog 49 #[.pointer (some ⟨q, 0, none⟩)] w (fun e w' => e = .returned (.pointer none) ∧ Only (fun _ => False) w w') :=
  (Fr.nextr_any (fair_ref h hL) hL.fs hI.tr0 hI.fit.rc).mono fun e w' ⟨h1, h2⟩ => by
    rw [hI.gno] at hp
    rcases h1 with ⟨-, h1⟩ | ⟨h3, x, -, -⟩
    · exact ⟨h1, h2⟩
    · exact absurd hp h3
theorem nextf_yes (h : RefP B w q M) (hL : Link S M) (hI : Inv S b) (hp : (Fr.next S.T S.G).1 ≠ 0) :
    Calls Tryz.prog 49 #[.pointer (some ⟨q, 0, none⟩)] w (fun e w' => (∃ x, e = .returned (.pointer (some ⟨x, 0, none⟩)) ∧ w'.cell? ⟨x, 0, none⟩ = some (.int .i64 ((Fr.next S.T S.G).1 : Nat))) ∧ Only (fun _ => False) w w') :=
  (Fr.nextr_any (fair_ref h hL) hL.fs hI.tr0 hI.fit.rc).mono fun e w' ⟨h1, h2⟩ => by
    rw [hI.gno] at hp ⊢
    rcases h1 with ⟨h1, -⟩ | ⟨-, x, h3, h4⟩
    · exact absurd h1 hp
    · exact ⟨⟨x, h4, ((fair_ref h hL).later h2).tn h3⟩, h2⟩

theorem rbest_any (h : RefP B w q M) (hL : Link S M) (hI : Inv S b) :
    Calls Tryz.prog 18 #[.pointer (some ⟨q, 0, none⟩)] w (fun e w' => e = .returned (.int .i64 (best S)) ∧ Only (fun _ => False) w w') := by
  obtain ⟨m, hm, hm16, hg⟩ := hI.goes
  rw [hm]
  cases hg with
  | dead h1 hr hc =>
    have k1 := Lib.hid (nextd_yes h hL hI h1)
    clear h hL hI h1 hr hc hm
    generalize De.pick S.d = m at *
    go_enter Tryz.func18, Tryz.ntmps18
    go_wp2_with (go_at_call 47; (with_reducible refine k1.out.mono ?_); rintro e w1 ⟨⟨x, rfl, cx⟩, hO⟩; have HO := Lib.hid hO; clear hO)
    go_ret
    exact ⟨rfl, HO.out⟩
  | prio h1 v m xs ht hv hq m1 m2 hc =>
    have k1 := Lib.hid (nextd_no h hL hI h1)
    have k2 := Lib.hid (fun W (hW : Only (fun _ => False) w W) => Pr.firstref_is (Pr.ref_first ((prio_ref h hL).later hW) (fun j hj => by have := hI.uniq.len hj; omega)) ht)
    rw [hq] at k2
    have g1 : (0 : Int) < m := by omega
    have g2 : 0 < m := by omega
    clear h hL hI h1 hc hm ht hq
    simp only [List.getD_cons_zero] at k2
    go_enter Tryz.func18, Tryz.ntmps18
    go_wp2_with (first
      | (go_at_call 47; (with_reducible refine k1.out.mono ?_); rintro e w1 ⟨rfl, hO⟩; have HO := Lib.hid hO; clear hO)
      | (go_at_call 48; (with_reducible refine (k2.out _ HO.out).mono ?_); rintro e w2 ⟨rfl, hO⟩; have HO2 := Lib.hid (HO.out.trans hO (fun _ _ h => h)); clear hO))
    go_ret
    exact ⟨rfl, HO2.out⟩
  | fair h1 ht hn hr hc =>
    have k1 := Lib.hid (nextd_no h hL hI h1)
    have k2 := Lib.hid (fun W (hW : Only (fun _ => False) w W) => Pr.firstref_not (Pr.ref_first ((prio_ref h hL).later hW) (fun j hj => by have := hI.uniq.len hj; omega)) ht)
    have k3 := Lib.hid (fun W (hW : Only (fun _ => False) w W) => nextf_yes (h.later hW) hL hI hn)
    clear h hL hI h1 hc hm ht hn hr
    generalize (Fr.next S.T S.G).1 = m at *
    go_enter Tryz.func18, Tryz.ntmps18
    go_wp2_with (first
      | (go_at_call 47; (with_reducible refine k1.out.mono ?_); rintro e w1 ⟨rfl, hO⟩; have HO := Lib.hid hO; clear hO)
      | (go_at_call 48; (with_reducible refine (k2.out _ HO.out).mono ?_); rintro e w2 ⟨rfl, hO⟩; have HO2 := Lib.hid (HO.out.trans hO (fun _ _ h => h)); clear hO)
      | (go_at_call 49; (with_reducible refine (k3.out _ HO2.out).mono ?_); rintro e w3 ⟨⟨x, rfl, cx⟩, hO⟩; have HO3 := Lib.hid (HO2.out.trans hO (fun _ _ h => h)); clear hO))
    go_ret
    exact ⟨rfl, HO3.out⟩
  | none h1 ht hn =>
    have k1 := Lib.hid (nextd_no h hL hI h1)
    have k2 := Lib.hid (fun W (hW : Only (fun _ => False) w W) => Pr.firstref_not (Pr.ref_first ((prio_ref h hL).later hW) (fun j hj => by have := hI.uniq.len hj; omega)) ht)
    have k3 := Lib.hid (fun W (hW : Only (fun _ => False) w W) => nextf_no (h.later hW) hL hI hn)
    clear h hL hI h1 hm ht hn
    go_enter Tryz.func18, Tryz.ntmps18
    go_wp2_with (first
      | (go_at_call 47; (with_reducible refine k1.out.mono ?_); rintro e w1 ⟨rfl, hO⟩; have HO := Lib.hid hO; clear hO)
      | (go_at_call 48; (with_reducible refine (k2.out _ HO.out).mono ?_); rintro e w2 ⟨rfl, hO⟩; have HO2 := Lib.hid (HO.out.trans hO (fun _ _ h => h)); clear hO)
      | (go_at_call 49; (with_reducible refine (k3.out _ HO2.out).mono ?_); rintro e w3 ⟨rfl, hO⟩; have HO3 := Lib.hid (HO2.out.trans hO (fun _ _ h => h)); clear hO))
    go_ret
    exact ⟨rfl, HO3.out⟩
end
end Go.Proofs.YtpincdcebhmnhaaGreat.Rk
