/- The contracts of spoil, which writes over a slice and the room behind it, and of slices.Clone. -/
import Derived.Test.YtjeifpjjnfaefaaArgs
import Derived.Lib.MinMax
namespace Go.Proofs.Ytjeifpjjnfaefaa
open Go.ChangeShapes Go.WideShapes Go.ChangeAt Go.RowKit
set_option linter.unusedVariables false

/-- A slice of bytes of the call's own, whatever it holds. -/
def OwnBuf (w : World) (base : Nat) (v : Value) : Prop :=
  v = .slice none 0 0 ∨ ∃ g n c cur, v = .slice (some ⟨g, 0, none⟩) n c ∧ base ≤ g ∧ w.heap[g]? = some (.cells cur 5 (0, 0)) ∧ cur.size = c ∧ n ≤ c ∧ c ≤ maxLen

theorem OwnBytes.buf {w : World} {base : Nat} {v : Value} {xs : List Int} (h : OwnBytes w base v xs) : OwnBuf w base v := by
  rcases h.2 with ⟨rfl, _⟩ | ⟨g, c, cur, rfl, hb, hg, hn, hm, hs, _⟩
  · exact Or.inl rfl
  · exact Or.inr ⟨g, _, c, cur, rfl, hb, hg, by omega, hn, hm⟩

/-- From w to w' only the block of v changed, and it is a row of bytes as long as it was. -/
def SpoiltAt (w : World) (v : Value) (w' : World) : Prop :=
  Only (fun k => v.ownBlock = some k) w w' ∧ ∀ g cur, v.ownBlock = some g → w.heap[g]? = some (.cells cur 5 (0, 0)) → ∃ cur', w'.heap[g]? = some (.cells cur' 5 (0, 0)) ∧ cur'.size = cur.size

theorem OwnBuf.spoilt {w w' : World} {base : Nat} {u v : Value} (h : OwnBuf w base u) (hs : SpoiltAt w v w') : OwnBuf w' base u := by
  rcases h with rfl | ⟨g, n, c, cur, rfl, hb, hg, r⟩
  · exact Or.inl rfl
  · right
    by_cases e : v.ownBlock = some g
    · obtain ⟨cur', h1, h2⟩ := hs.2 g cur e hg
      exact ⟨g, n, c, cur', rfl, hb, h1, by omega, r.2⟩
    · exact ⟨g, n, c, cur, rfl, hb, by rw [hs.1.block g (block_there hg) e]; exact hg, r⟩

def SpoilAnswer (v : Value) (w : World) (e : Ending) (w' : World) : Prop := e = .returned (.tuple #[]) ∧ SpoiltAt w v w'

set_option maxHeartbeats 1000000 in
theorem spoil_any (base : Nat) (v : Value) (x : Int) (w : World) (h : OwnBuf w base v) : Calls Try.prog 25 #[v, .int .u8 x] w (SpoilAnswer v w) := by
  rcases h with rfl | ⟨g, n, c, cur, rfl, hb, hg, hs, hn, hm⟩
  · go_enter Try.func25, Try.ntmps25
    go_wp2_with fail
    go_loop [11] (fun i => i = .int .i64 0) (fun _ => 0)
    case atStart => exact rfl
    case round =>
      subst hrel
      go_wp2
      go_end0
      exact ⟨rfl, Only.refl _ _, fun g cur h => by cases h⟩
  · have HG := Lib.hid hg
    have HS := Lib.hid hs
    unfold maxLen at hm
    clear hg hs hb
    go_enter Try.func25, Try.ntmps25
    go_wp2_with fail
    go_loopw [4, 11] (fun _ i wr => ∃ k : Nat, k ≤ c ∧ i = .int .i64 k ∧ Only (fun k => k = g) w wr ∧ ∃ cur', wr.heap[g]? = some (.cells cur' 5 (0, 0)) ∧ cur'.size = c) (fun _ i _ => c - (intOf i).toNat)
    case atStart => exact ⟨0, Nat.zero_le _, rfl, Only.refl _ _, cur, HG.out, HS.out⟩
    case round =>
      obtain ⟨k, hk, rfl, hO, cur', hg', hs'⟩ := hrel
      by_cases hlt : k < c
      · have c1 : wr.cell? ⟨g, k, none⟩ = some (cur'.getD k (.int .u8 0)) := by
          rw [cell_at hg']; simp [Array.getD, show k < cur'.size by omega]
        have f1 := frozen_at hg' k
        have HO := Lib.hid hO
        have HH := Lib.hid (heap_setCell_same wr g k cur' 5 (.int .u8 x) hg')
        have HS' := Lib.hid hs'
        clear hO hg' hs'
        generalize cur'.getD k (.int .u8 0) = old at *
        go_wp2
        go_roundw
        case rel => exact ⟨k + 1, by omega, by go_num, Only.setCell (S := fun k => k = g) HO.out (p := ⟨g, k, none⟩) rfl _, _, HH.out, by simp [HS'.out]⟩
        case measure => simp [intOf]; omega
      · have HF := Lib.hid (show SpoilAnswer (.slice (some ⟨g, 0, none⟩) n c) w (.returned (.tuple #[])) wr from
          ⟨rfl, hO.mono (fun x _ e => by subst e; rfl), fun g2 cur2 h2 h3 => by
            cases h2
            have : some (Obj.cells cur 5) = some (Obj.cells cur2 5) := HG.out.symm.trans h3
            cases this
            exact ⟨cur', hg', by rw [hs', HS.out]⟩⟩)
        clear hO hg' hs'
        go_wp2
        go_end0
        exact HF.out

set_option maxHeartbeats 400000 in
theorem clone2_any (v : Value) (xs : List Int) (w : World) (h : Bytes w v xs) (hn : xs.length ≤ 140737488355328) : Calls Try.prog 24 #[v] w (BytesAnswer xs w) := by
  have H := Lib.hid h
  obtain ⟨a, cap, rfl, h1, h2⟩ := h
  have q35 : ∀ (w : World) (a : Option Addr) (n c n' c' : Nat), (binOp .eql 35 (.slice a n c) (.slice none n' c')).run Try.prog w = .ok (.bool a.isNone) w := fun w a n c n' c' => Lib.run_eql_slice_nil w _ _ a n c n' c' Try.underlying35
  cases a with
  | none =>
    have hz : xs = [] := by
      by_cases e : xs = []
      · exact e
      · obtain ⟨b, off, hh, _⟩ := h2 e; cases hh
    subst hz
    clear h2
    go_enter Try.func24, Try.ntmps24
    go_wp2
    go_ret
    exact ⟨_, rfl, World.ownsRow_nil _ _ _ _, Below.refl _ _⟩
  | some ad =>
    clear h1 h2
    have HO := Lib.hid (World.ownsRow_made (base := w.heap.size) (e := 5) (size := 1) w #[] 0 (Nat.le_refl _) (Nat.zero_le _) rfl)
    have HB := Lib.hid ((Below.refl w.heap.size w).alloc (Nat.le_refl _) (.cells #[] 5))
    go_enter Try.func24, Try.ntmps24
    go_wp2_with (at_builtin; go_must (refine bytes_append rfl _ _ rfl w.heap.size _ _ xs rfl rfl HO.out (H.out.later HB.out) hn (by simp) ?_); intro v' w1 hown hg; have HO1 := Lib.hid hown; go_must (have HB1 := Lib.hid (HB.out.grown hg (by simp) (fun k hk => (HO.out.lt k hk).1))); clear hown hg)
    go_ret
    exact ⟨_, rfl, HO1.out, HB1.out⟩
end Go.Proofs.Ytjeifpjjnfaefaa
