/- The heap's order alone, of lists of items: swapping, rising, sinking. No world here. -/
import Derived.Test.YtiodfpoaakcejaaHBase
namespace Go.Proofs.Ytiodfpoaakcejaa.Hp
set_option linter.unusedVariables false

/-- The item at a place. -/
def it (L : List (Int × Int)) (i : Nat) : Int × Int := L.getD i (0, 0)

/-- Two items exchanged. -/
def swapL (L : List (Int × Int)) (i j : Nat) : List (Int × Int) := (L.set i (it L j)).set j (it L i)

theorem swapL_len (L : List (Int × Int)) (i j : Nat) : (swapL L i j).length = L.length := by simp [swapL]

theorem it_eq {L : List (Int × Int)} {i : Nat} (h : i < L.length) : it L i = L[i] := by simp [it, List.getD, h]

theorem it_mem {L : List (Int × Int)} {i : Nat} (h : i < L.length) : it L i ∈ L := by rw [it_eq h]; exact List.getElem_mem h

theorem it_swap {L : List (Int × Int)} {i j : Nat} (hi : i < L.length) (hj : j < L.length) (k : Nat) : it (swapL L i j) k = if k = i then it L j else if k = j then it L i else it L k := by
  simp only [it, swapL, List.getD, List.getElem?_set, List.length_set]
  by_cases h1 : j = k
  · subst h1
    by_cases h2 : j = i
    · subst h2; simp [hj]
    · simp [hj, h2]
  · by_cases h2 : i = k
    · subst h2; simp [hi, h1]
    · simp [h1, h2, Ne.symm h1, Ne.symm h2]

theorem swap_perm {L : List (Int × Int)} {i j : Nat} (hi : i < L.length) (hj : j < L.length) : (swapL L i j).Perm L := by
  simp only [swapL, it_eq hi, it_eq hj]
  exact List.set_set_perm hi hj

theorem prec_trans {x y z : Int × Int} (h1 : prec x y = true) (h2 : prec y z = true) : prec x z = true := by
  simp only [prec, decide_eq_true_eq] at *; omega
theorem prec_asymm {x y : Int × Int} (h1 : prec x y = true) : prec y x = false := by
  simp only [prec, decide_eq_true_eq, decide_eq_false_iff_not] at *; omega
theorem le_trans' {x y z : Int × Int} (h1 : prec y x = false) (h2 : prec z y = false) : prec z x = false := by
  simp only [prec, decide_eq_false_iff_not] at *; omega
theorem prec_irrefl (x : Int × Int) : prec x x = false := by simp [prec]

/-- Item j does not come before the one above it. -/
def okAt (f : Nat → Int × Int) (j : Nat) : Prop := prec (f j) (f ((j - 1) / 2)) = false

/-- In order everywhere. -/
def Ordered (L : List (Int × Int)) : Prop := ∀ j, 0 < j → j < L.length → okAt (it L) j

/-- In order but for what lies below i; and what lies below i does not come before the one above i. -/
def SinkOk (L : List (Int × Int)) (i : Nat) : Prop :=
  (∀ j, 0 < j → j < L.length → (j - 1) / 2 ≠ i → okAt (it L) j) ∧ (0 < i → ∀ j, 0 < j → j < L.length → (j - 1) / 2 = i → prec (it L j) (it L ((i - 1) / 2)) = false)

/-- In order but for place c, where a rise from i has come to. -/
def RiseOk (L : List (Int × Int)) (c i : Nat) : Prop :=
  c ≤ i ∧ (∀ j, 0 < j → j < L.length → j ≠ c → ((j - 1) / 2 ≠ i ∨ c ≠ i) → okAt (it L) j) ∧
    (0 < c → ∀ j, 0 < j → j < L.length → (j - 1) / 2 = c → prec (it L j) (it L ((c - 1) / 2)) = false)

theorem rise_done {L : List (Int × Int)} {c i : Nat} (h : RiseOk L c i) (hc : c = 0 ∨ prec (it L c) (it L ((c - 1) / 2)) = false) : SinkOk L i ∧ (c ≠ i → Ordered L) := by
  obtain ⟨hci, h1, h2⟩ := h
  have all : c ≠ i → Ordered L := by
    intro hne j hj hl
    by_cases hjc : j = c
    · subst hjc
      rcases hc with hc | hc
      · omega
      · exact hc
    · exact h1 j hj hl hjc (Or.inr hne)
  refine ⟨⟨fun j hj hl hp => ?_, fun hi j hj hl hp => ?_⟩, all⟩
  · by_cases hjc : j = c
    · subst hjc
      rcases hc with hc | hc
      · omega
      · exact hc
    · exact h1 j hj hl hjc (Or.inl hp)
  · by_cases hne : c = i
    · subst hne; exact h2 hi j hj hl hp
    · have o1 := all hne j hj hl
      have o2 := all hne i hi (by omega)
      unfold okAt at o1 o2
      rw [hp] at o1
      exact le_trans' o2 o1

theorem rise_step {L : List (Int × Int)} {c i : Nat} (hc : 0 < c) (hl : i < L.length) (h : RiseOk L c i) (hp : prec (it L c) (it L ((c - 1) / 2)) = true) : RiseOk (swapL L c ((c - 1) / 2)) ((c - 1) / 2) i := by
  obtain ⟨hci, h1, h2⟩ := h
  have hcl : c < L.length := by omega
  have hq : (c - 1) / 2 < c := by omega
  generalize hqe : (c - 1) / 2 = q at *
  have hsw := it_swap hcl (show q < L.length by omega)
  refine ⟨by omega, fun j hj hjl hjq hor => ?_, fun hq0 j hj hjl hpar => ?_⟩
  · rw [swapL_len] at hjl
    unfold okAt
    rw [hsw, hsw]
    by_cases hjc : j = c
    · subst hjc; simp only [hqe, if_true]; rw [if_neg (by omega)]; exact prec_asymm hp
    · rw [if_neg hjc, if_neg hjq]
      by_cases hpc : (j - 1) / 2 = c
      · rw [if_pos hpc]; exact h2 hc j hj hjl hpc
      · rw [if_neg hpc]
        have hjok : okAt (it L) j := h1 j hj hjl hjc (by omega)
        by_cases hpq : (j - 1) / 2 = q
        · rw [if_pos hpq]
          unfold okAt at hjok; rw [hpq] at hjok
          cases hx : prec (it L j) (it L c)
          · rfl
          · exact absurd (prec_trans hx hp) (by rw [hjok]; simp)
        · rw [if_neg hpq]; exact hjok
  · rw [swapL_len] at hjl
    rw [hsw, hsw, if_neg (show ¬ (q - 1) / 2 = c by omega), if_neg (show ¬ (q - 1) / 2 = q by omega)]
    have hqok : okAt (it L) q := h1 q hq0 (by omega) (by omega) (by omega)
    by_cases hjc : j = c
    · rw [if_pos hjc]; exact hqok
    · rw [if_neg hjc, if_neg (by omega)]
      have hjok : okAt (it L) j := h1 j hj hjl hjc (by omega)
      unfold okAt at hjok hqok
      rw [hpar] at hjok
      exact le_trans' hqok hjok

theorem sink_done {L : List (Int × Int)} {c : Nat} (h : SinkOk L c) (hc : ∀ j, 0 < j → j < L.length → (j - 1) / 2 = c → prec (it L j) (it L c) = false) : Ordered L := by
  intro j hj hl
  by_cases hp : (j - 1) / 2 = c
  · unfold okAt; rw [hp]; exact hc j hj hl hp
  · exact h.1 j hj hl hp

theorem sink_step {L : List (Int × Int)} {c f : Nat} (h : SinkOk L c) (hf : 0 < f) (hfl : f < L.length) (hpf : (f - 1) / 2 = c) (hlt : prec (it L f) (it L c) = true)
    (hmin : ∀ j, 0 < j → j < L.length → (j - 1) / 2 = c → prec (it L j) (it L f) = false) : SinkOk (swapL L c f) f := by
  obtain ⟨h1, h2⟩ := h
  have hsw := it_swap (show c < L.length by omega) hfl
  refine ⟨fun j hj hjl hp => ?_, fun _ j hj hjl hp => ?_⟩
  · rw [swapL_len] at hjl
    unfold okAt
    rw [hsw, hsw, if_neg hp]
    by_cases hjc : j = c
    · rw [if_pos hjc, if_neg (show ¬ (j - 1) / 2 = c by omega)]
      rw [hjc]
      rw [hjc] at hj
      exact h2 hj f hf hfl hpf
    · rw [if_neg hjc]
      by_cases hpc : (j - 1) / 2 = c
      · rw [if_pos hpc]
        by_cases hjf : j = f
        · rw [if_pos hjf]; exact prec_asymm hlt
        · rw [if_neg hjf]; exact hmin j hj hjl hpc
      · rw [if_neg hpc, if_neg (show ¬ j = f by rintro rfl; exact hpc hpf)]
        exact h1 j hj hjl hpc
  · rw [swapL_len] at hjl
    rw [hsw, hsw, if_neg (show ¬ j = c by omega), if_neg (show ¬ j = f by omega), hpf, if_pos rfl]
    have := h1 j hj hjl (by omega)
    unfold okAt at this
    rw [hp] at this
    exact this

theorem sink_of_ordered {L : List (Int × Int)} (h : Ordered L) (i : Nat) : SinkOk L i := by
  refine ⟨fun j hj hl _ => h j hj hl, fun hi j hj hl hp => ?_⟩
  have h1 := h j hj hl
  have h2 := h i hi (by omega)
  unfold okAt at h1 h2
  rw [hp] at h1
  exact le_trans' h2 h1

theorem rise_of_change {L L' : List (Int × Int)} {i : Nat} (h : Ordered L) (hl : L'.length ≤ L.length) (he : ∀ j, j ≠ i → j < L'.length → it L' j = it L j) (hi : i < L'.length) : RiseOk L' i i := by
  refine ⟨Nat.le_refl _, fun j hj hjl hne hor => ?_, fun hi0 j hj hjl hp => ?_⟩
  · have := h j hj (by omega)
    unfold okAt at *
    rw [he j hne hjl, he _ (by omega) (by omega)]
    exact this
  · rw [he j (by omega) hjl, he _ (by omega) (by omega)]
    have h1 := h j hj (by omega)
    have h2 := h i hi0 (by omega)
    unfold okAt at h1 h2
    rw [hp] at h1
    exact le_trans' h2 h1

/-- The first of the items in order is ahead of all others. -/
theorem least_first {L : List (Int × Int)} (h : Ordered L) : ∀ j, j < L.length → prec (it L j) (it L 0) = false := by
  intro j
  induction j using Nat.strongRecOn with
  | ind j ih =>
    intro hl
    by_cases hj : j = 0
    · subst hj; exact prec_irrefl _
    · have h1 := ih ((j - 1) / 2) (by omega) (by omega)
      have h2 := h j (by omega) hl
      exact le_trans' h1 h2
end Go.Proofs.Ytiodfpoaakcejaa.Hp
