/- Texts of this claim, merged: OFTops. -/
import Derived.Test.YtpincdcebhmnhaaGreatM16
import Derived.Test.YtpincdcebhmnhaaGreatM09
/- The reference's tops, and slices.Min of numbers. -/
namespace Go.Proofs.YtpincdcebhmnhaaGreat.Fr
open Go.ChangeShapes Go.WideShapes Go.ChangeAt Go.RowKit Go.Maps
open Go.Proofs.YtpincdcebhmnhaaGreat.Vt Go.Proofs.YtpincdcebhmnhaaGreat.Pt
set_option linter.unusedVariables false

theorem run_min2 (x y m : Int) (h : min x y = m) (w : World) (ts : Array TypeId) (t : TypeId) : (Builtin.min_ ts t #[.int .i64 x, .int .i64 y]).run Tryz.prog w = .ok (.int .i64 m) w := by
  subst h
  have e : (if y < x then y else x) = min x y := by rw [Int.min_def]; split <;> split <;> omega
  simp [Builtin.min_, Builtin.min2, e]

/-- The least of the first j + 1 numbers. -/
def leastTo (U : List Int) : Nat → Int
  | 0 => U.getD 0 0
  | j + 1 => min (leastTo U j) (U.getD (j + 1) 0)
theorem leastTo_spec (U : List Int) (j : Nat) (hj : j < U.length) : leastTo U j ∈ U ∧ ∀ i, i ≤ j → leastTo U j ≤ U.getD i 0 := by
  have hm : ∀ i, i < U.length → U.getD i 0 ∈ U := fun i hi => by simp [List.getD, hi]
  induction j with
  | zero => exact ⟨hm 0 hj, fun i hi => by rw [show i = 0 by omega]; exact Int.le_refl _⟩
  | succ j ih =>
    obtain ⟨h1, h2⟩ := ih (by omega)
    unfold leastTo
    refine ⟨?_, fun i hi => ?_⟩
    · by_cases h : leastTo U j ≤ U.getD (j + 1) 0
      · rw [Int.min_eq_left h]; exact h1
      · rw [Int.min_eq_right (by omega)]; exact hm _ hj
    · by_cases e : i = j + 1
      · subst e; exact Int.min_le_right _ _
      · have := h2 i (by omega); have := Int.min_le_left (leastTo U j) (U.getD (j + 1) 0); omega

theorem min_any (a : Option Addr) (n c : Nat) (U : List Int) (w : World) (h : Nums w (.slice a n c) U) (hn : U.length = n) (h1 : 1 ≤ n) (hm : n ≤ 100) :
    Calls Tryz.prog 64 #[.slice a n c] w fun e w' => e = .returned (.int .i64 (leastTo U (n - 1))) ∧ w = w' := by
  have H := Lib.hid h
  have HN := Lib.hid hn
  obtain ⟨b, off, rfl, -, d0⟩ := h.at (j := 0) (by omega)
  clear h hn
  have e1 : ¬ (n : Int) < 1 := by omega
  have L0 : Hid (leastTo U 0 = U.getD 0 0) := Lib.hid rfl
  have g0 : (0 : Int) < n := by omega
  simp only [Nat.add_zero] at d0
  go_enter Tryz.func64, Tryz.ntmps64
  go_wp2_with fail
  go_loopw [3, 4] (fun m i wr => ∃ j : Nat, j < n ∧ i = .int .i64 ((j : Int) + 1) ∧ m = .int .i64 (leastTo U j) ∧ wr = w) (fun _ i _ => n + 1 - (intOf i).toNat)
  case atStart => exact ⟨0, by omega, rfl, rfl, rfl⟩
  case round =>
    obtain ⟨j, hj, rfl, rfl, rfl⟩ := hrel
    by_cases hlt : j + 1 < n
    · obtain ⟨b', off', e, -, d⟩ := H.out.at (j := j + 1) (by rw [HN.out]; exact hlt)
      cases e
      have LS : Hid (leastTo U (j + 1) = min (leastTo U j) (U.getD (j + 1) 0)) := Lib.hid rfl
      obtain ⟨m, hm⟩ : ∃ m, min (leastTo U j) (U.getD (j + 1) 0) = m := ⟨_, rfl⟩
      rw [hm] at LS
      have q := run_min2 _ _ _ hm
      clear hm
      generalize leastTo U j = x at *
      generalize U.getD (j + 1) 0 = y at *
      have g1 : (j : Int) + 1 < n := by omega
      have g2 : (0 : Int) ≤ (j : Int) + 1 := by omega
      go_wp2_with fail
      go_roundw
      case rel => exact ⟨j + 1, by omega, by go_num, by rw [LS.out], trivial⟩
      case measure => simp [intOf]; omega
    · obtain rfl : n = j + 1 := by omega
      have g1 : ¬ (j : Int) + 1 < ((j + 1 : Nat) : Int) := by omega
      go_wp2_with fail
      go_ret
      exact ⟨rfl, rfl⟩

/-- Who is first of what of answers. -/
theorem of_first {L : List (Nat × Nat)} {T : Tks} {g : Int} {K : List Nat} (h0 : (T 0).r = false) (hnum : ∀ x ∈ L, x.2 ≤ 16) (hall : ∀ t, t < 17 → isOf T g t → ∃ b, (b, t) ∈ L) (hK : ∀ b, b ∈ K ↔ ∃ t, (b, t) ∈ L ∧ isOf T g t)
    (hS : ∃ f : Nat → Nat, (∀ x ∈ L, f x.1 = x.2) ∧ K.Pairwise fun x y => goesLt T f y x = false) : (K = [] → first T g = 0) ∧ (K ≠ [] → first T g ≠ 0 ∧ (K.getD 0 0, first T g) ∈ L) := by
  obtain ⟨f, hf, hp⟩ := hS
  constructor
  · intro e
    exact first_none h0 (fun t ht ho => by
      obtain ⟨b, hb⟩ := hall t ht ho
      have := (hK b).2 ⟨t, hb, ho⟩
      rw [e] at this; cases this)
  · intro e
    match K, e, hK, hp with
    | b0 :: r, _, hK, hp =>
      obtain ⟨t0, h1, h2⟩ := (hK b0).1 (by simp)
      have hf0 := hf _ h1
      have hlt0 := hnum _ h1
      have hfi : first T g = t0 := first_is h0 t0 (by simp only at hlt0; omega) h2 (fun t ht ho => by
        obtain ⟨b, hb⟩ := hall t ht ho
        have hfb := hf _ hb
        have hm := (hK b).2 ⟨t, hb, ho⟩
        rcases List.mem_cons.1 hm with e | e
        · subst e
          have : t = t0 := hfb.symm.trans hf0
          subst this
          exact Or.inr ⟨rfl, Nat.le_refl _⟩
        · have := (List.pairwise_cons.1 hp).1 b e
          unfold goesLt at this
          simp only at hf0 hfb
          rw [hf0, hfb] at this
          have := of_decide_eq_false this
          omega)
      have hz : t0 ≠ 0 := by rintro rfl; rw [h2.1] at h0; cases h0
      rw [hfi]
      exact ⟨hz, h1⟩

/-- What of answers, with who is first. -/
def OfHead (w : World) (L : List (Nat × Nat)) (T : Tks) (g : Int) (e : Ending) (w' : World) : Prop :=
  ∃ a n c K, e = .returned (.slice a n c) ∧ K.length = n ∧ n ≤ c ∧ c ≤ 9223372036854775807 ∧ n ≤ 16 ∧ RowAt w' (w.heap.size + 1) (.slice a n c) K ∧ (∀ b, b ∈ K ↔ ∃ t, (b, t) ∈ L ∧ isOf T g t) ∧ (n = 0 → first T g = 0) ∧ (n ≠ 0 → first T g ≠ 0 ∧ (K.getD 0 0, first T g) ∈ L) ∧ Only (fun _ => False) w w'

theorem ofh_any {B : Nat} {w : World} {q o D : Nat} {L : List (Nat × Nat)} {T : Tks} {G : Grs} {W GW : Nat → Int} (h : RefAt B w q o D L T G W GW) (hs : Same L T G W GW) (h0 : (T 0).r = false) (hrc : ∀ t, t < 17 → (T t).r = true → (T t).c ≠ 0) (gr : Int) :
    Calls Tryz.prog 63 #[.pointer (some ⟨q, o, none⟩), .int .i64 gr] w (OfHead w L T gr) := by
  refine (of_any h (h.len16 hs) gr).mono ?_
  rintro e w' ⟨a, n, c, K, rfl, h1, h2, h3, h4, h5, h6, h7, h8⟩
  have hf := of_first h0 (fun x hx => (hs.num x hx).2) (fun t ht ho => hs.all t ht (hrc t ht ho.1)) h6 h7
  exact ⟨a, n, c, K, rfl, h1, h2, h3, h4, h5, h6, fun e => hf.1 (List.eq_nil_of_length_eq_zero (by omega)), fun e => hf.2 (fun e' => by rw [e'] at h1; simp at h1; omega), h8⟩
end Go.Proofs.YtpincdcebhmnhaaGreat.Fr
