/- The contracts of slices.Grow at a nil slice and of slices.Concat at two slices of numbers of 32 bits. -/
import Derived.Test.YtjeifpjjnfaefaaRow
import Derived.Laws.AppendOwnNone
import Derived.Lib.AppendZeros
namespace Go.Proofs.Ytjeifpjjnfaefaa
open Go.ChangeShapes Go.WideShapes Go.ChangeAt Go.RowKit
set_option linter.unusedVariables false

theorem Try.info22 : (Try.prog.info? 22).map (fun i => (i.zero, i.size, i.bytes)) = some (some (.int .u32 0), 1, 4) := by kernel_rfl
theorem Try.info23 : (Try.prog.info? 23).map (fun i => (i.zero, i.size, i.bytes)) = some (some (.slice none 0 0), 1, 24) := by kernel_rfl

/-- A slice without elements was answered, with room of the call's own. -/
def OwnEmpty (w : World) (e : Ending) (w' : World) : Prop := ∃ v, e = .returned v ∧ w'.ownsRow w.heap.size 22 1 v 0 [] ∧ Below w.heap.size w w'

theorem grow_zero (w : World) : Calls Try.prog 32 #[.slice none 0 0, .int .i64 0] w (OwnEmpty w) := by
  go_enter Try.func32, Try.ntmps32
  go_wp2
  go_ret
  exact ⟨_, rfl, World.ownsRow_nil _ _ _ _, Below.refl _ _⟩

theorem grow_pos (n : Nat) (h0 : 0 < n) (h : n ≤ 1000000) (w : World) : Calls Try.prog 32 #[.slice none 0 0, .int .i64 n] w (OwnEmpty w) := by
  obtain ⟨i0, hi, hz0, hz1, hz2⟩ := info_parts Try.info22
  have hrun := Lib.hid (Lib.run_append_nil_zeros (P := Try.prog) w 23 3 23 22 i0 (.int .u32 0) .i64 .i64 Try.underlying23 Try.underlying3 hi hz0 n h0 (by omega) (by omega) (by rw [hz2]; omega))
  have hge := grownCap_ge w n 0 22
  have hle := grownCap_le_maxLen w n 0 22 (by unfold maxLen; omega)
  clear hi hz0 hz1 hz2
  generalize grownCap w n 0 22 = c at *
  have hs : (Builtin.zeroCells (Value.cells (.int .u32 0)) n ++ Builtin.zeroCells (Value.cells (.int .u32 0)) (c - n)).size = c * 1 := by
    rw [Array.size_append, size_zeroCells, size_zeroCells]
    simp [Value.cells]; omega
  have HO := Lib.hid (World.ownsRow_made (e := 22) w.drew (Builtin.zeroCells (Value.cells (.int .u32 0)) n ++ Builtin.zeroCells (Value.cells (.int .u32 0)) (c - n)) c (Nat.le_refl _) hle hs)
  have HB := Lib.hid (((Below.refl w.heap.size w).drew).alloc (Nat.le_refl _) (.cells (Builtin.zeroCells (Value.cells (.int .u32 0)) n ++ Builtin.zeroCells (Value.cells (.int .u32 0)) (c - n)) 22))
  clear hs hle
  generalize Builtin.zeroCells (Value.cells (.int .u32 0)) n ++ Builtin.zeroCells (Value.cells (.int .u32 0)) (c - n) = cur at *
  go_enter Try.func32, Try.ntmps32
  go_wp2_with (at_builtin; refine Lib.wpList_append_run _ rfl _ _ _ _ rfl _ _ rfl rfl _ _ hrun.out ?_)
  go_ret
  exact ⟨_, rfl, HO.out, HB.out⟩

/-- A slice whose numbers are 'zs': empty, at whatever address; or they lie in cells of a block that is there. -/
def RowAt (w : World) (v : Value) (zs : List Int) : Prop :=
  ∃ a cap, v = .slice a zs.length cap ∧ (a = none → cap = 0) ∧ (zs ≠ [] → ∃ b off, a = some ⟨b, off, none⟩ ∧ b < w.heap.size ∧ CellsAt w b off zs)

theorem RowAt.later {w w' : World} {v : Value} {zs : List Int} (h : RowAt w v zs) (hb : Below w.heap.size w w') : RowAt w' v zs := by
  obtain ⟨a, cap, rfl, h1, h2⟩ := h
  refine ⟨a, cap, rfl, h1, fun hne => ?_⟩
  obtain ⟨b, off, rfl, hbl, hc⟩ := h2 hne
  exact ⟨b, off, rfl, Nat.lt_of_lt_of_le hbl hb.size, cells_later hb hbl hc⟩

theorem append_row {w : World} {ops : Array Oper} {rest : List Oper} {o : Oper} {a : Act} {Q : Exit → Act → World → Prop} (hgd : o.guard = none) (s x : Operand)
    (ho : o.op = .call { callee := .builtin .append, args := #[s, x], argTypes := #[23, 23] })
    (base : Nat) (v vx : Value) (xs zs : List Int) (hs : a.eval s = v) (hx : a.eval x = vx) (hown : w.ownsRow base 22 1 v xs.length (xs.map (Value.int .u32))) (hr : RowAt w vx zs)
    (hn : xs.length + zs.length ≤ 1000000) (hbase : base ≤ w.heap.size)
    (h : ∀ v' w', w'.ownsRow base 22 1 v' (xs ++ zs).length ((xs ++ zs).map (Value.int .u32)) → w.grownBy w' v.ownBlock → wpList Try.prog ops Q rest (a.put o.dst v') w') : wpList Try.prog ops Q (o :: rest) a w := by
  obtain ⟨i0, hi, hz0, hz1, hz2⟩ := info_parts Try.info22
  obtain ⟨ad, cap, rfl, h1, h2⟩ := hr
  cases ad with
  | none =>
    have hz : zs = [] := by
      by_cases e : zs = []
      · exact e
      · obtain ⟨b, off, hh, _⟩ := h2 e; cases hh
    subst hz
    have := h1 rfl; subst this
    refine wpList_append_own_none hgd s x 23 ho base 22 i0 1 Try.underlying23 hi v xs.length (xs.map (Value.int .u32)) hs hown hx ?_
    exact h v w (by simpa using hown) ⟨rfl, rfl, rfl, Nat.le_refl _, fun _ _ _ => rfl⟩
  | some ad =>
    refine wpList_append_own w hgd s x 23 ho base 22 i0 (.int .u32 0) 1 4 Try.underlying23 hi hz0 hz1 hz2 rfl (by decide) v xs.length (xs.map (Value.int .u32)) hs hown ad zs.length cap (zs.map (Value.int .u32)) hx (by simp) ?_ (by simp; intro z _; rfl) (by unfold maxLen; omega) (by omega) hbase ?_
    · intro j u hj
      by_cases e : zs = []
      · subst e; simp at hj
      · obtain ⟨b, off, hh, hbl, hc⟩ := h2 e
        obtain rfl := Option.some.inj hh
        rw [List.getElem?_map] at hj
        have hlt : j < zs.length := by
          by_cases hlt : j < zs.length
          · exact hlt
          · rw [List.getElem?_eq_none (by omega)] at hj; simp at hj
        have := hc j hlt
        rw [add_plain, this]
        rw [List.getElem?_eq_getElem hlt] at hj
        simp at hj
        subst hj
        simp [List.getD, List.getElem?_eq_getElem hlt]
    · intro v' w' hown' hg _
      refine h v' w' ?_ hg
      simpa using hown'

/-- The numbers 'zs' were answered in a row of the call's own, and nothing that was there changed. -/
def OwnAnswer (zs : List Int) (w : World) (e : Ending) (w' : World) : Prop :=
  ∃ v, e = .returned v ∧ w'.ownsRow w.heap.size 22 1 v zs.length (zs.map (Value.int .u32)) ∧ Below w.heap.size w w'

theorem owned_ge {w : World} {base : Nat} {v : Value} {n : Nat} {xs : List Value} (h : w.ownsRow base 22 1 v n xs) : ∀ k, v.ownBlock = some k → base ≤ k := fun k hk => (h.lt k hk).1

set_option maxHeartbeats 1000000 in
theorem concat_two (p cap : Nat) (v1 v2 : Value) (z1 z2 : List Int) (w : World) (h1 : RowAt w v1 z1) (h2 : RowAt w v2 z2) (hn : z1.length + z2.length ≤ 1000)
    (hp : p < w.heap.size) (c1 : w.cell? ⟨p, 0, none⟩ = some v1) (c2 : w.cell? ⟨p, 1, none⟩ = some v2) :
    Calls Try.prog 23 #[.slice (some ⟨p, 0, none⟩) 2 cap] w (OwnAnswer (z1 ++ z2) w) := by
  have R1 := Lib.hid h1
  have R2 := Lib.hid h2
  obtain ⟨a1, k1, rfl, -, -⟩ := h1
  obtain ⟨a2, k2, rfl, -, -⟩ := h2
  have hc1 := Lib.hid c1
  have hc2 := Lib.hid c2
  have hg : Hid (Calls Try.prog 32 #[.slice none 0 0, .int .i64 ((z1.length : Int) + z2.length)] w (OwnEmpty w)) := by
    by_cases h0 : z1.length + z2.length = 0
    · have e : ((z1.length : Int) + z2.length) = 0 := by omega
      show Calls _ _ _ _ _
      rw [e]; exact grow_zero w
    · have e : ((z1.length : Int) + z2.length) = ((z1.length + z2.length : Nat) : Int) := by omega
      show Calls _ _ _ _ _
      rw [e]; exact grow_pos _ (by omega) (by omega) w
  go_enter Try.func23, Try.ntmps23
  go_wp2_with fail
  go_loop [3, 5, 11, 12, 13, 14, 15, 16, 17, 18, 19, 20, 22] (fun s _ i _ _ _ _ _ _ _ _ _ _ => ∃ k : Nat, k ≤ 2 ∧ i = .int .i64 k ∧ s = .int .i64 (if k = 0 then 0 else if k = 1 then (z1.length : Int) else (z1.length : Int) + z2.length)) (fun _ _ i _ _ _ _ _ _ _ _ _ _ => 2 - (intOf i).toNat)
  case atStart => exact ⟨0, by omega, rfl, rfl⟩
  case round =>
    obtain ⟨k, hk, rfl, rfl⟩ := hrel
    obtain rfl | rfl | rfl : k = 0 ∨ k = 1 ∨ k = 2 := by omega
    · go_wp2_with fail
      go_round
      case rel => exact ⟨1, by omega, rfl, by simp⟩
      case measure => simp [intOf]
    · go_wp2_with fail
      go_round
      case rel => exact ⟨2, by omega, rfl, by simp⟩
      case measure => simp [intOf]
    · go_wp2_with fail
      refine hg.out.mono ?_
      rintro e w1 ⟨v, rfl, hown, hb⟩
      have HO := Lib.hid hown
      have HB := Lib.hid hb
      clear hown hb hg c1 c2
      go_wp2_with fail
      go_loopw [6, 8, 27, 28, 29, 30, 31, 32, 33, 34] (fun v _ i _ _ _ _ _ _ _ wr => ∃ k : Nat, k ≤ 2 ∧ i = .int .i64 k ∧ ∃ zs : List Int, zs = (if k = 0 then [] else if k = 1 then z1 else z1 ++ z2) ∧ wr.ownsRow w.heap.size 22 1 v zs.length (zs.map (Value.int .u32)) ∧ Below w.heap.size w wr) (fun _ _ i _ _ _ _ _ _ _ _ => 2 - (intOf i).toNat)
      case atStart => exact ⟨0, by omega, rfl, [], rfl, HO.out, HB.out⟩
      case round =>
        obtain ⟨k, hk, rfl, zs, hzs, hown, hb⟩ := hrel
        obtain rfl | rfl | rfl : k = 0 ∨ k = 1 ∨ k = 2 := by omega
        · have hz : zs = [] := by simpa using hzs
          subst hz
          clear hzs
          have d1 : wr.cell? ⟨p, 0, none⟩ = some (.slice a1 z1.length k1) := by rw [hb.cell (p := ⟨p, 0, none⟩) hp]; exact hc1.out
          go_wp2_with (at_builtin; refine append_row rfl _ _ rfl w.heap.size _ _ [] z1 rfl rfl hown (R1.out.later hb) (by simp; omega) hb.size ?_; intro v' w2 hown2 hg2; have hb2 := Lib.hid (hb.grown hg2 hb.size (owned_ge hown)); have HO2 := Lib.hid hown2; clear hown2 hg2)
          go_roundw
          case rel => exact ⟨1, by omega, rfl, z1, by simp, HO2.out, hb2.out⟩
          case measure => simp [intOf]
        · have hz : zs = z1 := by simpa using hzs
          subst hz
          clear hzs
          have d2 : wr.cell? ⟨p, 1, none⟩ = some (.slice a2 z2.length k2) := by rw [hb.cell (p := ⟨p, 1, none⟩) hp]; exact hc2.out
          go_wp2_with (at_builtin; refine append_row rfl _ _ rfl w.heap.size _ _ zs z2 rfl rfl hown (R2.out.later hb) (by omega) hb.size ?_; intro v' w2 hown2 hg2; have hb2 := Lib.hid (hb.grown hg2 hb.size (owned_ge hown)); have HO2 := Lib.hid hown2; clear hown2 hg2)
          go_roundw
          case rel => exact ⟨2, by omega, rfl, zs ++ z2, by simp, HO2.out, hb2.out⟩
          case measure => simp [intOf]
        · have hz : zs = z1 ++ z2 := by simpa using hzs
          subst hz
          clear hzs
          have HO2 := Lib.hid hown
          clear hown
          go_wp2_with fail
          go_ret
          exact ⟨_, rfl, HO2.out, hb⟩
end Go.Proofs.Ytjeifpjjnfaefaa
