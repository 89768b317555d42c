/- slices.Insert of one thing. -/
import Derived.Test.YtbfnaejfmpnkbaaThings
namespace Go.Proofs.Ytbfnaejfmpnkbaa
open Go.ChangeShapes Go.WideShapes Go.ChangeAt Go.RowKit
set_option linter.unusedVariables false

/-- The cells of one thing. -/
def one3 (x : El) : List Value := [.int .i64 x.k, .int .i64 x.i, .int .i64 x.w]

theorem cells3_cons (x : El) (L : List El) : cells3 (x :: L) = one3 x ++ cells3 L := rfl

/-- What Insert leaves. -/
def InsAns (B : Nat) (V : Value) (K : List El) (w : World) (e : Ending) (w' : World) : Prop :=
  ∃ V', e = .returned V' ∧ ThingsAt w' B V' K ∧ Only (fun k => V.ownBlock = some k) w w' ∧ ∀ g, V'.ownBlock = some g → V.ownBlock = some g ∨ w.heap.size ≤ g

/-- A block with one thing. -/
def OneAt (w : World) (vb : Nat) (x : El) : Prop := w.heap[vb]? = some (.cells (one3 x).toArray 32 (0, 0))

theorem OneAt.cell {w : World} {vb : Nat} {x : El} (h : OneAt w vb x) (j : Nat) (u : Value) (hj : (one3 x)[j]? = some u) : w.cell? ⟨vb, j, none⟩ = some u := by
  rw [cell_at h]; simpa using hj

theorem ins_of_lies {B g cap : Nat} {V : Value} {L : List El} {x : El} {w w' : World} (h2 : w'.ownsRow B 32 3 (.slice (some ⟨g, 0, none⟩) (L.length + 1) cap) (L.length + 1) (cells3 L ++ one3 x)) (hg : w.grownBy w' V.ownBlock) (hat : V.ownBlock = some g ∨ g = w.heap.size) :
    InsAns B V (L ++ [x]) w (.returned (.slice (some ⟨g, 0, none⟩) (L.length + 1) cap)) w' := by
  refine ⟨_, rfl, ?_, Only.of_grown (S := fun k => V.ownBlock = some k) hg (fun k hk => hk), fun k hk => ?_⟩
  · unfold ThingsAt
    rw [cells3_append, List.length_append]
    exact h2
  · cases hk
    rcases hat with e | e
    · exact Or.inl e
    · exact Or.inr (Nat.le_of_eq e.symm)

theorem one3_ones (x : El) : ∀ u ∈ one3 x, u.oneCell' = true := by
  intro u hu; simp [one3] at hu; rcases hu with rfl | rfl | rfl <;> rfl

set_option maxRecDepth 100000 in
set_option maxHeartbeats 1000000 in
theorem insert_nil (B vb : Nat) (x : El) (w : World) (hx : OneAt w vb x) (hB : B ≤ w.heap.size) :
    Calls Try.prog 14 #[.slice none 0 0, .int .i64 0, .slice (some ⟨vb, 0, none⟩) 1 1] w (InsAns B (.slice none 0 0) [x] w) := by
  obtain ⟨i0, hi, hz0, hz1, hz2⟩ := info_parts Try.info32
  have HX := Lib.hid hx
  have HC : Hid (∀ j u, (one3 x)[j]? = some u → w.cell? ((⟨vb, 0, none⟩ : Addr).add j) = some u) := Lib.hid (fun j u hj => by rw [add_plain, Nat.zero_add]; exact hx.cell j u hj)
  have C2 := Lib.hid (one3_ones x)
  clear hx
  go_enter Try.func14, Try.ntmps14
  go_wp2_with (at_builtin; go_must (refine wpList_append_lies _ rfl _ _ 28 rfl B 32 i0 _ 3 24 Try.underlying28 hi hz0 hz1 hz2 rfl (by decide) _ 0 (cells3 []) rfl (World.ownsRow_nil w B 32 3) ⟨vb, 0, none⟩ 1 1 (one3 x) rfl rfl HC.out C2.out Nat.one_pos (by decide) (by decide) hB _ rfl ?_); go_must (intro g3 cap3 w3 hown3 hgrow hat _); go_must (have hans := ins_of_lies (L := []) (x := x) hown3 hgrow hat); have HA := Lib.hid hans; clear hans hown3 hgrow hat)
  go_ret
  exact HA.out

set_option maxRecDepth 100000 in
set_option maxHeartbeats 1000000 in
theorem insert_end (B vb g cap : Nat) (L : List El) (x : El) (w : World) (h : ThingsAt w B (.slice (some ⟨g, 0, none⟩) L.length cap) L) (hx : OneAt w vb x) (hB : B ≤ w.heap.size) (hl : (L.length + 1) * 24 ≤ 140737488355328) (hcap : L.length ≤ cap) :
    Calls Try.prog 14 #[.slice (some ⟨g, 0, none⟩) L.length cap, .int .i64 L.length, .slice (some ⟨vb, 0, none⟩) 1 1] w (InsAns B (.slice (some ⟨g, 0, none⟩) L.length cap) (L ++ [x]) w) := by
  obtain ⟨i0, hi, hz0, hz1, hz2⟩ := info_parts Try.info32
  have HO := Lib.hid h
  have HX := Lib.hid hx
  have HC : Hid (∀ j u, (one3 x)[j]? = some u → w.cell? ((⟨vb, 0, none⟩ : Addr).add j) = some u) := Lib.hid (fun j u hj => by rw [add_plain, Nat.zero_add]; exact hx.cell j u hj)
  have C2 := Lib.hid (one3_ones x)
  have C3 : Hid (L.length + 1 ≤ maxLen) := Lib.hid (by unfold maxLen; omega)
  have C4 := Lib.hid hl
  clear h hx
  rcases Nat.lt_or_ge L.length cap with hc | hc
  · have hc2 : ¬ cap = L.length := by omega
    go_enter Try.func14, Try.ntmps14
    go_wp2_with (at_builtin; go_must (refine wpList_append_lies _ rfl _ _ 28 rfl B 32 i0 _ 3 24 Try.underlying28 hi hz0 hz1 hz2 rfl (by decide) _ L.length (cells3 L) rfl HO.out ⟨vb, 0, none⟩ 1 1 (one3 x) rfl rfl HC.out C2.out Nat.one_pos C3.out C4.out hB _ rfl ?_); go_must (intro g3 cap3 w3 hown3 hgrow hat _); go_must (have hans := ins_of_lies (L := L) (x := x) hown3 hgrow hat); have HA := Lib.hid hans; clear hans hown3 hgrow hat)
    go_ret
    exact HA.out
  · obtain rfl : cap = L.length := by omega
    go_enter Try.func14, Try.ntmps14
    go_wp2_with (at_builtin; go_must (refine wpList_append_lies _ rfl _ _ 28 rfl B 32 i0 _ 3 24 Try.underlying28 hi hz0 hz1 hz2 rfl (by decide) _ L.length (cells3 L) rfl HO.out ⟨vb, 0, none⟩ 1 1 (one3 x) rfl rfl HC.out C2.out Nat.one_pos C3.out C4.out hB _ rfl ?_); go_must (intro g3 cap3 w3 hown3 hgrow hat _); go_must (have hans := ins_of_lies (L := L) (x := x) hown3 hgrow hat); have HA := Lib.hid hans; clear hans hown3 hgrow hat)
    all_goals go_ret
    all_goals exact HA.out
end Go.Proofs.Ytbfnaejfmpnkbaa
