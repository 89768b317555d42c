/- Contracts of package admit: next, release, Late. -/
import Derived.Test.YtijpiloljgpnkaaAdLateP
import Derived.Test.YtijpiloljgpnkaaAdOps
import Derived.Test.YtijpiloljgpnkaaNumRow
import Derived.Deep.QuietTactic
import Derived.BigQuiet
namespace Go.Proofs.Ytijpiloljgpnkaa.Ad
open Go.ChangeShapes Go.WideShapes Go.ChangeAt Go.RowKit
set_option linter.unusedVariables false
/-- Where a slice lies, that is none of block g. -/
def Off (v : Value) (g : Nat) : Prop := ∀ a l k, v = .slice (some a) l k → a.block ≠ g

theorem UV.off {w w' : World} {v : Value} {S : List Use} {g : Nat} (h : UV w v S) (hO : Only (fun k => k = g) w w') (hg : Off v g) : UV w' v S := h.keep hO (fun a l c e => hg a l c e)

theorem UV.off0 {w w' : World} {v : Value} {S : List Use} {g : Nat} (h : UV w v S) (hO : Only (fun k => k = g) w w') (hg : 0 < S.length → Off v g) : UV w' v S := by
  by_cases h0 : S.length = 0
  · obtain ⟨a, c, e, h1, h2, -⟩ := h
    exact ⟨a, c, e, h1, h2, fun j hj => by omega⟩
  · exact h.off hO (hg (by omega))

/-- Jobs were released: so many were late. -/
def Released (S : List Use) (f : Nat → Nat) (now g n : Nat) (w : World) (e : Ending) (w' : World) : Prop :=
  e = .returned (.int .i64 (cnt S f now : Nat)) ∧ BlockOf w' g (fl n (rel S f now)) ∧ Only (fun k => k = g) w w'

end Go.Proofs.Ytijpiloljgpnkaa.Ad
