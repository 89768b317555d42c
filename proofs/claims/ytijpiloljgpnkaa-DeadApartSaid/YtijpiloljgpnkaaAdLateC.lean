/- The contract of package admit's Late. -/
import Derived.Test.YtijpiloljgpnkaaAdLate
namespace Go.Proofs.Ytijpiloljgpnkaa.Ad
open Go.ChangeShapes Go.WideShapes Go.ChangeAt Go.RowKit
set_option linter.unusedVariables false
theorem fAt_bd {S : List Use} (h : allOk S) (t : Nat) (i : Nat) : fAt S t i ≤ 1000 := by
  have h1 := fAt_le S t i
  by_cases hi : i < S.length
  · have := okU_nat (h i hi); omega
  · have : nthU S i = (0, 0) := by unfold nthU; simp [List.getD, List.getElem?_eq_none (show S.length ≤ i by omega)]
    rw [this] at h1; unfold cst at h1; simp at h1; omega

/-- The jobs at the beginning, as far as k. -/
def startTo (S : List Use) (k : Nat) : Nat → Nat := fun i => if i < k then cst (nthU S i) else 0
theorem start_succ (S : List Use) (k : Nat) : startTo S (k + 1) = updN (startTo S k) k (cst (nthU S k)) := by
  funext i
  by_cases e : i = k
  · subst e; simp [startTo, updN]
  · have h2 : i < k + 1 ↔ i < k := by omega
    simp [startTo, updN, e, h2]
theorem start_zero (S : List Use) (n : Nat) : fl n (startTo S 0) = List.replicate n 0 := by
  apply List.ext_getElem
  · simp [fl]
  · intro i h1 h2; simp [fl, startTo]
theorem start_all (S : List Use) : fl S.length (startTo S S.length) = fl S.length (fAt S 0) := by
  apply List.ext_getElem
  · simp [fl]
  · intro i h1 h2
    have : i < S.length := by simpa [fl] using h1
    simp [fl, startTo, fAt, this]

end Go.Proofs.Ytijpiloljgpnkaa.Ad
