/- Shares of a processor as fractions: what fits, by any number that all periods divide. Without memory. -/
import Derived.Test.YtijpiloljgpnkaaAdPure
namespace Go.Proofs.Ytijpiloljgpnkaa.Ad
set_option linter.unusedVariables false

theorem used_mul {S : List Use} {r N : Nat} : ∀ {k : Nat}, (∀ j, j < k → per (nthU S j) ∣ r ∧ per (nthU S j) ∣ N) → usedTo S r k * N = r * usedTo S N k
  | 0, _ => by simp [usedTo]
  | k + 1, h => by
    have ih := used_mul (k := k) (fun j hj => h j (by omega))
    obtain ⟨⟨a, ha⟩, ⟨b, hb⟩⟩ := h k (by omega)
    show (usedTo S r k + r / per (nthU S k) * cst (nthU S k)) * N = r * (usedTo S N k + N / per (nthU S k) * cst (nthU S k))
    rw [Nat.add_mul, Nat.mul_add, ih]
    congr 1
    generalize per (nthU S k) = p at *
    generalize cst (nthU S k) = c at *
    by_cases h0 : p = 0
    · subst h0; simp at ha hb; subst ha hb; simp
    · have e1 : r / p = a := by rw [ha]; exact Nat.mul_div_cancel_left _ (by omega)
      have e2 : N / p = b := by rw [hb]; exact Nat.mul_div_cancel_left _ (by omega)
      rw [e1, e2, hb]
      conv => rhs; rw [ha]
      ac_rfl

theorem gcd_pos_of {S : List Use} (h : allOk S) : 0 < Nat.gcd (rnd S) (used S) := Nat.gcd_pos_of_pos_left _ (rndTo_pos h (Nat.le_refl _))

theorem share_mul {S : List Use} : shareN S * Nat.gcd (rnd S) (used S) = used S ∧ shareD S * Nat.gcd (rnd S) (used S) = rnd S :=
  ⟨Nat.div_mul_cancel (Nat.gcd_dvd_right _ _), Nat.div_mul_cancel (Nat.gcd_dvd_left _ _)⟩

theorem share_le {S : List Use} (h : allOk S) (k : Nat) : shareN S ≤ k * shareD S ↔ used S ≤ k * rnd S := by
  have hg := gcd_pos_of h
  obtain ⟨h1, h2⟩ := share_mul (S := S)
  generalize Nat.gcd (rnd S) (used S) = g at *
  rw [← h1, ← h2, ← Nat.mul_assoc]
  constructor
  · intro h; exact Nat.mul_le_mul_right g h
  · intro h; exact Nat.le_of_mul_le_mul_right h hg

theorem share_le_of {S : List Use} (h : allOk S) {N : Nat} (hN : 0 < N) (hd : ∀ j, j < S.length → per (nthU S j) ∣ N) (k : Nat) : shareN S ≤ k * shareD S ↔ usedTo S N S.length ≤ k * N := by
  rw [share_le h]
  have h1 := used_mul (S := S) (r := rnd S) (N := N) (k := S.length) (fun j hj => ⟨per_dvd hj, hd j hj⟩)
  have h2 : 0 < rnd S := rndTo_pos h (Nat.le_refl _)
  unfold used
  constructor
  · intro h
    have := Nat.mul_le_mul_right N h
    rw [h1, Nat.mul_right_comm, Nat.mul_comm (k * N)] at this
    exact Nat.le_of_mul_le_mul_left this h2
  · intro h
    have := Nat.mul_le_mul_left (rnd S) h
    rw [← h1, ← Nat.mul_assoc, Nat.mul_comm (rnd S) k] at this
    exact Nat.le_of_mul_le_mul_right this hN

/-- The share in lowest terms, by any number that all periods divide. -/
theorem share_by {S : List Use} (h : allOk S) {N : Nat} (hN : 0 < N) (hd : ∀ j, j < S.length → per (nthU S j) ∣ N) :
    shareN S = usedTo S N S.length / Nat.gcd N (usedTo S N S.length) ∧ shareD S = N / Nat.gcd N (usedTo S N S.length) := by
  have h1 := used_mul (S := S) (r := rnd S) (N := N) (k := S.length) (fun j hj => ⟨per_dvd hj, hd j hj⟩)
  have h2 : 0 < rnd S := rndTo_pos h (Nat.le_refl _)
  have key : ∀ (r u N x : Nat), 0 < r → 0 < N → u * N = r * x → u / Nat.gcd r u = x / Nat.gcd N x ∧ r / Nat.gcd r u = N / Nat.gcd N x := by
    intro r u N x hr hN e
    have e1 : Nat.gcd r u * N = r * Nat.gcd N x := by rw [← Nat.gcd_mul_right, e, ← Nat.gcd_mul_left]
    have g1 : 0 < Nat.gcd r u := Nat.gcd_pos_of_pos_left _ hr
    have g2 : 0 < Nat.gcd N x := Nat.gcd_pos_of_pos_left _ hN
    constructor
    · apply Nat.eq_of_mul_eq_mul_right (show 0 < Nat.gcd r u * N from Nat.mul_pos g1 hN)
      rw [← Nat.mul_assoc, Nat.div_mul_cancel (Nat.gcd_dvd_right r u), e1, Nat.mul_left_comm, Nat.div_mul_cancel (Nat.gcd_dvd_right N x)]
      exact e
    · apply Nat.eq_of_mul_eq_mul_right (show 0 < Nat.gcd r u * N from Nat.mul_pos g1 hN)
      rw [← Nat.mul_assoc, Nat.div_mul_cancel (Nat.gcd_dvd_left r u), e1, Nat.mul_left_comm, Nat.div_mul_cancel (Nat.gcd_dvd_left N x)]
  exact key _ _ _ _ h2 hN h1

theorem usedTo_append (S T : List Use) (r : Nat) : ∀ k, k ≤ T.length → usedTo (S ++ T) r (S.length + k) = usedTo S r S.length + usedTo T r k
  | 0, _ => by
    have : ∀ k, k ≤ S.length → usedTo (S ++ T) r k = usedTo S r k := by
      intro k
      induction k with
      | zero => intro _; rfl
      | succ k ih =>
        intro hk
        show usedTo (S ++ T) r k + r / per (nthU (S ++ T) k) * cst (nthU (S ++ T) k) = usedTo S r k + r / per (nthU S k) * cst (nthU S k)
        rw [ih (by omega), show nthU (S ++ T) k = nthU S k by unfold nthU; simp only [List.getD]; rw [List.getElem?_append_left (by omega)]]
    exact this _ (Nat.le_refl _)
  | k + 1, hk => by
    show usedTo (S ++ T) r (S.length + k) + r / per (nthU (S ++ T) (S.length + k)) * cst (nthU (S ++ T) (S.length + k)) = usedTo S r S.length + (usedTo T r k + r / per (nthU T k) * cst (nthU T k))
    rw [usedTo_append S T r k (by omega), show nthU (S ++ T) (S.length + k) = nthU T k by unfold nthU; simp only [List.getD]; rw [List.getElem?_append_right (by omega), Nat.add_sub_cancel_left], Nat.add_assoc]

/-- The shares of N of all of a list. -/
def shares (N : Nat) (S : List Use) : Nat := usedTo S N S.length
theorem shares_append (N : Nat) (S T : List Use) : shares N (S ++ T) = shares N S + shares N T := by
  unfold shares; rw [List.length_append]; exact usedTo_append S T N _ (Nat.le_refl _)
theorem shares_one (N : Nat) (u : Use) : shares N [u] = N / per u * cst u := by
  show 0 + N / per (nthU [u] 0) * cst (nthU [u] 0) = _
  rw [Nat.zero_add]; rfl
theorem shares_nil (N : Nat) : shares N [] = 0 := rfl

theorem nthU_append_left {S T : List Use} {j : Nat} (h : j < S.length) : nthU (S ++ T) j = nthU S j := by
  unfold nthU; simp only [List.getD]; rw [List.getElem?_append_left h]
theorem nthU_append_right {S T : List Use} (j : Nat) : nthU (S ++ T) (S.length + j) = nthU T j := by
  unfold nthU; simp only [List.getD]; rw [List.getElem?_append_right (by omega), Nat.add_sub_cancel_left]
theorem nthU_mem {S : List Use} {j : Nat} (h : j < S.length) : nthU S j ∈ S := by
  unfold nthU; simp only [List.getD, List.getElem?_eq_getElem h, Option.getD_some]; exact List.getElem_mem h
theorem mem_nthU {S : List Use} {x : Use} (h : x ∈ S) : ∃ j, j < S.length ∧ nthU S j = x := by
  obtain ⟨j, hj, e⟩ := List.getElem_of_mem h
  exact ⟨j, hj, by unfold nthU; simp [List.getD, hj, e]⟩
theorem allOk_mem {S : List Use} : allOk S ↔ ∀ x ∈ S, okU x = true :=
  ⟨fun h x hx => by obtain ⟨j, hj, rfl⟩ := mem_nthU hx; exact h j hj, fun h j hj => h _ (nthU_mem hj)⟩
theorem chk_of {S : List Use} (hl : S.length ≤ 16) (h : ∀ x ∈ S, okU x = true) : chk S = 0 := chk_ok hl (allOk_mem.2 h)
end Go.Proofs.Ytijpiloljgpnkaa.Ad
