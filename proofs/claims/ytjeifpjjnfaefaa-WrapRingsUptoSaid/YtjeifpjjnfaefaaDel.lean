/- The contract of slices.Delete at the first element of a row of slices that the call owns. -/
import Derived.Test.YtjeifpjjnfaefaaRing
import Derived.Deep.RegionLaw
import Derived.Lib.SliceRun
namespace Go.Proofs.Ytjeifpjjnfaefaa
open Go.ChangeShapes Go.WideShapes Go.ChangeAt Go.RowKit
set_option linter.unusedVariables false

/-- Some elements laid over a list from a place on. -/
def over : Nat → List Value → List Value → List Value
  | _, [], xs => xs
  | o, v :: r, xs => over (o + 1) r (xs.set o v)

theorem over_length (o : Nat) (vs xs : List Value) : (over o vs xs).length = xs.length := by
  induction vs generalizing o xs with
  | nil => rfl
  | cons v r ih => rw [over, ih]; simp

theorem over_get (o : Nat) (vs xs : List Value) (i : Nat) (h : o + vs.length ≤ xs.length) : (over o vs xs)[i]? = if o ≤ i ∧ i < o + vs.length then vs[i - o]? else xs[i]? := by
  induction vs generalizing o xs with
  | nil => rw [over, if_neg (by simp)]
  | cons v r ih =>
    simp only [List.length_cons] at h
    rw [over, ih _ _ (by simp; omega)]
    simp only [List.length_cons]
    by_cases h1 : o + 1 ≤ i ∧ i < o + 1 + r.length
    · rw [if_pos h1, if_pos (by omega), show i - o = (i - (o + 1)) + 1 by omega]
      simp
    · rw [if_neg h1]
      by_cases h2 : i = o
      · subst h2
        rw [if_pos (by omega)]
        simp [show i < xs.length by omega]
      · rw [if_neg (by omega)]
        simp [Ne.symm h2]

theorem owns_setCells {w : World} {base : Nat} {e : TypeId} {g n cap : Nat} (vs : List Value) (o : Nat) (xs : List Value) (h : w.ownsRow base e 1 (.slice (some ⟨g, 0, none⟩) n cap) n xs) :
    (w.setCells g o vs).ownsRow base e 1 (.slice (some ⟨g, 0, none⟩) n cap) n (over o vs xs) ∧ Only (· = g) w (w.setCells g o vs) := by
  induction vs generalizing o xs w with
  | nil => exact ⟨h, Only.refl _ _⟩
  | cons v r ih =>
    obtain ⟨h1, h2⟩ := h.stored o v
    obtain ⟨h3, h4⟩ := ih (o + 1) _ h1
    exact ⟨h3, (Only.of_grown h2 (fun k hk => by simpa using hk.symm)).trans h4 (fun _ _ h => h)⟩

theorem owns_shrink {w : World} {base : Nat} {e : TypeId} {g n cap : Nat} {xs : List Value} (m : Nat) (hm : m ≤ n) (h : w.ownsRow base e 1 (.slice (some ⟨g, 0, none⟩) n cap) n xs) :
    w.ownsRow base e 1 (.slice (some ⟨g, 0, none⟩) m cap) m (xs.take m) := by
  have h1 := h.1
  refine ⟨by simp; omega, ?_⟩
  rcases h.2 with ⟨h', _⟩ | ⟨g', cap', cur, h', hb, hg, hnc, hcm, hcs, htake⟩
  · simp at h'
  · simp only [Value.slice.injEq, Option.some.injEq, Addr.mk.injEq, and_true, true_and] at h'
    obtain ⟨rfl, rfl⟩ := h'
    refine Or.inr ⟨g, cap, cur, rfl, hb, hg, by omega, hcm, hcs, ?_⟩
    rw [← htake, List.take_take]
    congr 1; omega

/-- What Delete leaves: the row without its first element. -/
theorem deleted {vals : List Value} (n : Nat) (hn : vals.length = n + 1) (z : Value) : (over n [z] (over 0 (vals.drop 1) vals)).take n = vals.drop 1 := by
  apply List.ext_getElem?
  intro i
  rw [List.getElem?_take]
  by_cases h : i < n
  · rw [if_pos h, over_get _ _ _ _ (by rw [over_length]; simp; omega), if_neg (by omega), over_get _ _ _ _ (by simp), if_pos (by simp; omega)]
    simp
  · rw [if_neg h, List.getElem?_eq_none (by simp; omega)]

/-- What is known behind Delete. -/
def DelAnswer (base g n cap : Nat) (vals : List Value) (w : World) (e : Ending) (w' : World) : Prop :=
  e = .returned (.slice (some ⟨g, 0, none⟩) n cap) ∧ w'.ownsRow base 35 1 (.slice (some ⟨g, 0, none⟩) n cap) n (vals.drop 1) ∧ Only (· = g) w w'

theorem Try.zero35 : ∀ w, (zeroValue 35).run Try.prog w = .ok (.slice none 0 0) w := by
  intro w
  obtain ⟨i0, hi, hz0, hz1, hz2⟩ := info_parts Try.info35
  simp [zeroValue, typeInfo, hi, hz0]

set_option maxHeartbeats 1000000 in
theorem delete_first (base g n cap : Nat) (vals : List Value) (w : World) (hown : w.ownsRow base 35 1 (.slice (some ⟨g, 0, none⟩) (n + 1) cap) (n + 1) vals) (hb : n ≤ 1000) (h1 : ∀ v ∈ vals, v.oneCell' = true) :
    Calls Try.prog 30 #[.slice (some ⟨g, 0, none⟩) (n + 1) cap, .int .i64 0, .int .i64 1] w (DelAnswer base g n cap vals w) := by
  obtain ⟨i0, hi, hz0, hz1, hz2⟩ := info_parts Try.info35
  have hlen : vals.length = n + 1 := by have := hown.1; omega
  have hcap : n + 1 ≤ cap ∧ cap ≤ 9223372036854775807 := by
    rcases hown.2 with ⟨h', _⟩ | ⟨g', cap', cur, h', _, _, hnc, hcm, _⟩
    · cases h'
    · cases h'
      unfold maxLen at hcm
      omega
  obtain ⟨hc1, hc2⟩ := hcap
  obtain ⟨A, hA, hsrc⟩ : ∃ A : Addr, (if cap = 1 then some (⟨g, 0, none⟩ : Addr) else some ⟨g, 1, none⟩) = some A ∧ Hid (∀ j u, (vals.drop 1)[j]? = some u → w.drew.cell? (A.add j) = some u) := by
    by_cases h : cap = 1
    · refine ⟨⟨g, 0, none⟩, by simp [h], fun j u hu => ?_⟩
      rw [List.getElem?_eq_none (by simp; omega)] at hu
      cases hu
    · refine ⟨⟨g, 1, none⟩, by simp [h], fun j u hu => ?_⟩
      have hj : j < n := by
        have := (List.getElem?_eq_some_iff.1 hu).1
        simp at this; omega
      rw [add_plain]
      show w.cell? ⟨g, 1 + j, none⟩ = some u
      rw [hown.cellAt (1 + j) (by omega), Nat.add_comm]
      simpa using hu
  have s1 : Hid ((vals.drop 1).length = n * 1) := by show _ = _; simp; omega
  have s2 : Hid (∀ u ∈ vals.drop 1, u.oneCell' = true) := fun u hu => h1 u (List.mem_of_mem_drop hu)
  have s3 : Hid (∀ j, j < (vals.drop 1).length → (w.drew.cell? ⟨g, 0 + 0 * 1 + j, none⟩).isSome = true ∧ w.drew.frozen? ⟨g, 0 + 0 * 1 + j, none⟩ = false) := by
    intro j hj
    simp at hj
    have e : 0 + 0 * 1 + j = j := by omega
    rw [e]
    constructor
    · show (w.cell? _).isSome = true
      rw [hown.cellAt j (by omega)]
      simp; omega
    · exact hown.frozenAt j
  obtain ⟨W1, hW1⟩ : ∃ W1, W1 = w.drew.setCells g (0 + 0 * 1) (vals.drop 1) := ⟨_, rfl⟩
  obtain ⟨hO1, hK1⟩ : W1.ownsRow base 35 1 (.slice (some ⟨g, 0, none⟩) (n + 1) cap) (n + 1) (over 0 (vals.drop 1) vals) ∧ Only (· = g) w W1 := by
    subst hW1
    obtain ⟨a, b⟩ := owns_setCells (vals.drop 1) 0 vals (hown.drew)
    exact ⟨a, (Only.refl _ w).drew.trans b (fun _ _ h => h)⟩
  have hcl : ∀ ty, (Builtin.clear_ #[30] ty #[.slice (some ⟨g, n, none⟩) 1 (cap - n)]).run Try.prog W1 = .ok (.tuple #[]) (W1.setCells g n [.slice none 0 0]) := by
    intro ty
    have := Lib.run_clear_slice (P := Try.prog) W1 30 35 ty (.slice none 0 0) Try.underlying30 Try.zero35 rfl rfl g n 1 (cap - n) (by omega)
      (fun j hj => by
        have e : j = 0 := by omega
        subst e
        rw [Nat.add_zero, hO1.cellAt n (by omega)]
        simp [over_length, hlen])
      (fun j hj => by
        have e : j = 0 := by omega
        subst e
        exact hO1.frozenAt _)
    exact this
  obtain ⟨hO2, hK2⟩ := owns_setCells [.slice none 0 0] n _ hO1
  have HF := Lib.hid (show DelAnswer base g n cap vals w (.returned (.slice (some ⟨g, 0, none⟩) n cap)) (W1.setCells g n [.slice none 0 0]) from
    ⟨rfl, by have := owns_shrink n (by omega) hO2; rwa [deleted n hlen] at this, hK1.trans hK2 (fun _ _ h => h)⟩)
  have hW : Hid (W1 = w.drew.setCells g (0 + 0 * 1) (vals.drop 1)) := hW1
  clear hW1 hO1 hK1 hO2 hK2 hown h1 hlen hz0 hz2
  generalize vals.drop 1 = news at *
  go_enter Try.func30, Try.ntmps30
  go_wp2_with fail
  have hle : (1 : Int) ≤ (n : Int) + 1 := by omega
  go_region_law (refine step_append_room rfl (.tmp 22) (.tmp 25) 30 rfl 35 i0 1 Try.underlying30 hi hz1 g 0 0 cap (by simp [Act.eval, Act.put]) A n (cap - 1) news (by simp [Act.eval, Act.put]) s1.out hsrc.out s2.out (by omega) s3.out ?_; rw [← hW.out])
  go_wp2
  go_ret
  exact HF.out
end Go.Proofs.Ytjeifpjjnfaefaa
