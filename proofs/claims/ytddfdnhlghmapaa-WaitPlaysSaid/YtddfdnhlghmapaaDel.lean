/- slices.DeleteFunc of numbers at a closure that asks for one number, which it has captured. -/
import Derived.Test.YtddfdnhlghmapaaClone
import Derived.Test.YtddfdnhlghmapaaDlay
namespace Go.Proofs.Ytddfdnhlghmapaa
open Go.ChangeShapes Go.WideShapes Go.ChangeAt Go.RowKit Go.Shelf Go.Sort
set_option linter.unusedVariables false

theorem asks_one (x i : Int) (B : Nat) (W : World) (hc : W.cell? ⟨B, 0, none⟩ = some (.int .i64 i)) :
    FnGives Try.prog 63 #[.pointer (some ⟨B, 0, none⟩)] #[.int .i64 x] (.bool (decide (x = i))) W := by
  show Calls Try.prog 63 #[.int .i64 x, .pointer (some ⟨B, 0, none⟩)] W _
  by_cases h : x = i
  · subst h
    go_enter Try.func63, Try.ntmps63
    go_wp2
    go_ret
    exact ⟨by simp, 0, rfl⟩
  · go_enter Try.func63, Try.ntmps63
    go_wp2
    go_ret
    exact ⟨by simp [h], 0, rfl⟩

/-- The numbers but one. -/
def notOne (xs : List Int) (i : Int) : List Int := xs.filter fun x => !decide (x = i)

/-- What is known behind the deletion: only the row has changed. -/
def Struck (xs : List Int) (i : Int) (g : Nat) (w : World) (e : Ending) (w' : World) : Prop := ∃ v, e = .returned v ∧ Nums w' v (notOne xs i) ∧ Only (· = g) w w'

theorem holds_ints {w : World} {base g n c : Nat} {xs : List Int} (h : Ints w base (.slice (some ⟨g, 0, none⟩) n c) xs) : Holds (Value.int .i64) w g 0 xs.toArray := by
  intro j hj
  have hj2 : j < xs.length := by simpa using hj
  obtain ⟨g', e, hc⟩ := h.cell hj2
  cases e
  obtain ⟨cur, hb⟩ := owns_type h rfl
  rw [Nat.zero_add]
  refine ⟨?_, frozen_at hb j⟩
  rw [hc, getElem!_pos _ j (by simpa using hj)]
  simp [List.getD, hj2]

theorem only_putRow {w : World} {g q : Nat} {d : Array Int} : Only (· = g) w (putRow (Value.int .i64) (Sort.ahead w q) g 0 d) := by
  refine ⟨rfl, rfl, rfl, by rw [size_putRow]; exact Nat.le_refl _, fun k hk hn => ?_⟩
  unfold putRow mapBlock
  show (w.heap.modify g _)[k]? = _
  rw [Array.getElem?_modify, if_neg (Ne.symm hn)]

theorem delete_one (g n c : Nat) (i : Int) (B base : Nat) (xs : List Int) (w : World) (h : Ints w base (.slice (some ⟨g, 0, none⟩) n c) xs) (hn : n = xs.length) (hB : B < w.heap.size) (hBg : B ≠ g) (hc : w.cell? ⟨B, 0, none⟩ = some (.int .i64 i)) (hl : xs.length ≤ 9223372036854775807) :
    Calls Try.prog 61 #[.slice (some ⟨g, 0, none⟩) n c, .func (.func 63) #[] #[.pointer (some ⟨B, 0, none⟩)]] w (Struck xs i g w) := by
  subst hn
  have eg : ∀ args w, (callFunc 63 args).run Try.prog w = .ok (.enter 63 args) w := enters_of Try.func63 (by kernel_rfl) rfl
  have hcap : xs.length ≤ c := by
    rcases h.2 with ⟨h1, _⟩ | ⟨g', cap', cur, h1, _, _, h3, _⟩
    · cases h1
    · cases h1; exact h3
  have hH := holds_ints h
  have hp : PredAt Try.prog 63 #[.pointer (some ⟨B, 0, none⟩)] (Value.int .i64) (fun x => decide (x = i)) w :=
    fun W x hb => asks_one x i B W ((hb.cell (p := ⟨B, 0, none⟩) hB).trans hc)
  have hpo : PredOver Try.prog 63 #[.pointer (some ⟨B, 0, none⟩)] (Value.int .i64) (fun x => decide (x = i)) g 0 xs.toArray.size w :=
    fun n os dk x _ => asks_one x i B _ (by
      unfold sortWorld
      rw [cell?_grow _ _ _ (by show B < (putRow _ _ _ _ _).heap.size; rw [size_putRow]; exact hB), cell?_putRow_other _ _ g 0 _ _ (Or.inl hBg)]
      exact hc)
  have hcon := AnyE.slices_DeleteFunc delL (Value.int .i64) (fun _ => rfl) (fun x => decide (x = i)) 63 #[.pointer (some ⟨B, 0, none⟩)] eg 0 Try.zeroValue3 g 0 c xs.toArray w hp hpo hH (by simpa using hl) (by simpa using hcap)
  change Calls Try.prog 61 _ _ _ at hcon
  have e0 : xs.toArray.size = xs.length := by simp
  rw [e0] at hcon
  refine hcon.mono ?_
  rintro e w' ⟨rfl, q, rfl⟩
  have hf : (xs.filter fun x => !decide (x = i)).length ≤ xs.length := List.length_filter_le _ _
  refine ⟨_, rfl, ⟨_, c, rfl, fun j hj => ⟨g, 0, rfl, ?_⟩⟩, only_putRow⟩
  have hj2 : j < (xs.filter fun x => !decide (x = i)).length := hj
  have hsz : ((xs.filter fun x => !decide (x = i)) ++ List.replicate (xs.length - (xs.filter fun x => !decide (x = i)).length) (0 : Int)).toArray.size = xs.toArray.size := by simp; omega
  have := holds_putRow (Value.int .i64) (Sort.ahead w q) g 0 xs.toArray ((xs.filter fun x => !decide (x = i)) ++ List.replicate (xs.length - (xs.filter fun x => !decide (x = i)).length) (0 : Int)).toArray hH hsz j (by rw [hsz]; simp; omega)
  show World.cell? _ ⟨g, 0 + j, none⟩ = some (.int .i64 ((notOne xs i).getD j 0))
  rw [this.1]
  congr 2
  rw [getElem!_pos _ j (by rw [hsz]; simp; omega)]
  unfold notOne
  simp [List.getD, hj2]
end Go.Proofs.Ytddfdnhlghmapaa
