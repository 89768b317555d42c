/-
  ringlaw1.WrapSays: for every two numbers and every slice of numbers of 32 bits the call returns true, and every argument reads as it did. No condition.
-/
import Derived.Test.YtjeifpjjnfaefaaRef
import Derived.Test.YtjeifpjjnfaefaaRow
namespace Go.Proofs.Ytjeifpjjnfaefaa.wrapSays
open Go.ChangeShapes Go.WideShapes Go.ChangeAt Go.RowKit
open Go.ChangeMaps (open_string shut_string)
set_option linter.unusedVariables false

theorem own : ownKnob Try.prog.godebug = none := by kernel_rfl
theorem laidOut : laidOutB Try.prog = true := by kernel_rfl

theorem lastOf_at (zs : List Int) (k : Nat) (hk : k < zs.length) (h1 : ∀ j, j < k → isLast zs (zs.getD j 0) = false) (h2 : isLast zs (zs.getD k 0) = true) : lastOf zs = (zs.getD k 0, 0) := by
  have : zs.find? (isLast zs) = some (zs.getD k 0) := by
    rw [List.find?_eq_some_iff_getElem]
    refine ⟨h2, k, hk, by simp [List.getD, List.getElem?_eq_getElem hk], fun j hj => ?_⟩
    have := h1 j hj
    simp only [List.getD, List.getElem?_eq_getElem (show j < zs.length by omega), Option.getD_some] at this
    simp [this]
  unfold lastOf
  rw [this]

theorem lastOf_end (zs : List Int) (hne : zs ≠ []) (h1 : ∀ j, j < zs.length → isLast zs (zs.getD j 0) = false) : lastOf zs = (0, 3) := by
  have : zs.find? (isLast zs) = none := by
    rw [List.find?_eq_none]
    intro x hx
    obtain ⟨j, hj, rfl⟩ := List.getElem_of_mem hx
    have := h1 j hj
    simp only [List.getD, List.getElem?_eq_getElem hj, Option.getD_some] at this
    simp [this]
  unfold lastOf
  rw [this]
  simp [hne]

theorem ref_last_none (a : Option Addr) (cap : Nat) (w : World) :
    Calls Try.prog 11 #[.slice a 0 cap] w fun e w' => e = .returned (.tuple #[.int .u32 (lastOf []).1, .int .i64 (lastOf []).2]) ∧ Below w.heap.size w w' := by
  go_enter Try.func11, Try.ntmps11
  go_wp2
  go_ret2
  exact ⟨rfl, Below.refl _ _⟩

set_option maxHeartbeats 400000 in
theorem ref_last_some (b off cap : Nat) (zs : List Int) (w : World) (hl : zs.length ≤ 9223372036854775807) (hne : zs ≠ []) (hr : InRange zs) (hbl : b < w.heap.size) (hc : CellsAt w b off zs) :
    Calls Try.prog 11 #[.slice (some ⟨b, off, none⟩) zs.length cap] w fun e w' => e = .returned (.tuple #[.int .u32 (lastOf zs).1, .int .i64 (lastOf zs).2]) ∧ Below w.heap.size w w' := by
  have hz : ((zs.length : Int) == 0) = false := by simpa using hne
  have HC := Lib.hid hc
  have Hr := Lib.hid hr
  have Hne := Lib.hid hne
  have CN := Lib.hid (fun w' p n hn hb hp h => contains_no b off cap zs p n hn w' hl hr (cells_later hb hbl hc) hp h)
  have CY := Lib.hid (fun w' p n hn hb hp h => contains_yes b off cap zs p n hn w' hl hr (cells_later hb hbl hc) hp h)
  clear hc hr hne
  go_enter Try.func11, Try.ntmps11
  go_wp2_with fail
  go_loopw [5, 11, 14, 16, 17, 18] (fun y i _ _ _ _ wr => ∃ k : Nat, k ≤ zs.length ∧ i = .int .i64 k ∧ Below w.heap.size w wr ∧ ∀ j, j < k → isLast zs (zs.getD j 0) = false) (fun _ i _ _ _ _ _ => zs.length - (intOf i).toNat)
  case atStart => exact ⟨0, Nat.zero_le _, rfl, Below.refl _ _, fun j hj => by omega⟩
  case round =>
    obtain ⟨k, hk, rfl, hb, hall⟩ := hrel
    have HA := Lib.hid hall
    clear hall
    by_cases hlt : k < zs.length
    · have hcell : wr.cell? ⟨b, off + k, none⟩ = some (.int .u32 (zs.getD k 0)) := cells_later hb hbl HC.out k hlt
      have hn := Hr.out _ (getD_mem zs k hlt)
      have hb1 := hb.alloc hb.size (.cells #[.int .u32 (zs.getD k 0)] 22)
      have HB := Lib.hid hb1
      cases hi : isLast zs (zs.getD k 0) with
      | true =>
        have c := Lib.hid (CN.out _ ⟨wr.heap.size, 0, none⟩ _ hn hb1 (by simp) hi)
        have HE := Lib.hid (lastOf_at zs k hlt HA.out hi)
        clear hn hb1 hi
        generalize zs.getD k 0 = y at *
        go_wp2_with (go_at_call 27; refine c.out.mono ?_; rintro e w' ⟨rfl, rfl⟩)
        go_ret2
        exact ⟨by rw [HE.out]; rfl, HB.out⟩
      | false =>
        have c := Lib.hid (CY.out _ ⟨wr.heap.size, 0, none⟩ _ hn hb1 (by simp) hi)
        have HA' := Lib.hid (show ∀ j, j < k + 1 → isLast zs (zs.getD j 0) = false from fun j hj => by
          by_cases e : j = k
          · subst e; exact hi
          · exact HA.out j (by omega))
        clear hn hb1 hi
        generalize zs.getD k 0 = y at *
        go_wp2_with (go_at_call 27; refine c.out.mono ?_; rintro e w' ⟨rfl, rfl⟩)
        go_roundw
        case rel => exact ⟨k + 1, by omega, by go_num, HB.out, HA'.out⟩
        case measure => simp [intOf]; omega
    · have HE := Lib.hid (lastOf_end zs Hne.out (fun j hj => HA.out j (by omega)))
      go_wp2
      go_ret2
      exact ⟨by rw [HE.out]; rfl, hb⟩
theorem ends (a0 a1 : Int) (v : Value) (x y : Int) (w : World) (w0 : 0 ≤ a0 ∧ a0 < 4294967296) (w1 : 0 ≤ a1 ∧ a1 < 4294967296)
    (c1 : Calls Try.prog 10 #[v] w fun e w' => e = .returned (.tuple #[.int .u32 x, .int .i64 y]) ∧ w = w')
    (c2 : Calls Try.prog 11 #[v] w fun e w' => e = .returned (.tuple #[.int .u32 x, .int .i64 y]) ∧ Below w.heap.size w w') :
    Calls Try.prog 3 #[.int .u32 a0, .int .u32 a1, v] w fun e w' => e = .returned (.bool true) ∧ Below w.heap.size w w' := by
  have C1 := Lib.hid c1
  have C2 := Lib.hid c2
  have C3 := Lib.hid (ref_far a0 a1 w0 w1)
  have C4 := Lib.hid (far_any a0 a1)
  have C5 := Lib.hid (less_any a0 a1)
  have C6 := Lib.hid (less_yes 4294967295 0 (by decide))
  clear c1 c2 w0 w1
  generalize dist a0 a1 = d at *
  go_enter Try.func3, Try.ntmps3
  go_wp2_with fail
  refine C1.out.mono ?_; rintro e w' ⟨rfl, rfl⟩
  go_wp2_with fail
  refine C2.out.mono ?_; rintro e w' ⟨rfl, hb⟩
  go_wp2_with fail
  refine (C3.out _).mono ?_; rintro e w'' ⟨rfl, rfl⟩
  go_wp2_with fail
  refine (C4.out _).mono ?_; rintro e w'' ⟨rfl, rfl⟩
  go_wp2_with fail
  refine (C5.out _).mono ?_; rintro e w'' ⟨rfl, rfl⟩
  go_wp2_with fail
  refine (C6.out _).mono ?_; rintro e w'' ⟨rfl, rfl⟩
  go_wp2_with fail
  go_ret
  exact ⟨rfl, hb⟩

/-! ### STEP 1: THE WALK: the Go text returns true, AND WRITES NOTHING THAT WAS THERE: 'Below w.heap.size w w'' (Derived/Below.lean: '.refl', '.alloc', '.drew', '.setCell' at a new block, '.trans'). Open each 'IsRow' by 'rcases' AHEAD of 'go_enter'; part every test ahead of the walk. -/
theorem walk (a0 : Int) (a1 : Int) (a2 : Option Addr) (len2 cap2 : Nat) (z2 : List Int) (w : World) (w0 : (Lit.int .u32 a0).wf = true) (w1 : (Lit.int .u32 a1).wf = true) (w2 : IsRow .u32 w a2 len2 cap2 z2) :
    Calls Try.prog 3 #[.int .u32 a0, .int .u32 a1, .slice a2 len2 cap2] w fun e w' => e = .returned (.bool true) ∧ Below w.heap.size w w' := by
  rcases row_cases w2 with rfl | ⟨b, off, ys, rfl, rfl, hne, hcap, hbl, hl, hwf, hc⟩
  · exact ends a0 a1 _ _ _ w (u32_bd w0) (u32_bd w1) (last_none a2 cap2 w) (ref_last_none a2 cap2 w)
  · have hr : InRange ys := fun x hx => u32_bd (hwf x hx)
    exact ends a0 a1 _ _ _ w (u32_bd w0) (u32_bd w1) (last_some b off cap2 ys w hl hne hr hc) (ref_last_some b off cap2 ys w hl hne hr hbl hc)

/-! ### THE ROW's STEP: WRITTEN OUT: LEAVE IT -/
set_option maxRecDepth 100000 in
theorem lifted (os : Os) (started : os.Started) (H : Type) (enc : TypeId × Value → H) :
    ReturnsInHanded {} Try.checked os 3 .any (Rows.wrapSaysSpec.pre6 enc Try.prog Try.f3 Rows.wrapSaysRow.domain false) (Rows.wrapSaysSpec.post enc Try.prog Try.f3 false true false false) := by
  refine returnsInHanded_of_change (C := Try.checked) own started (by kernel_rfl) Try.func3
    (ChangeSpec.witness6 (enc := enc) (C := Try.checked) false ⟨#[], #[.int .u32 0, .int .u32 0, .slice none 0 0], []⟩ 8 (by kernel_rfl) (by kernel_rfl) (by kernel_rfl) (by kernel_rfl)) ?_
  intro W base args ds gs before hval0 hW hcnd _
  have hval : ∀ (j : Nat) t v, Try.f3.params[j]? = some t → args[j]? = some v → Value.okWide Try.prog W .any base t v := hval0
  have hW' := hW
  obtain ⟨p, q, hA0, hV, rfl, hfz, hnd⟩ := hW
  have hA : DataW.TrodAll enc Try.prog W 0 (fun _ => true) true Try.f3.params.toList args.toList ds p := hA0
  rw [Try.params3] at hA hval
  obtain ⟨v0, vs0, d0, ds0, p0, q0, hargs, rfl, rfl, h0, r0⟩ := trodAll_cons hA
  obtain ⟨v1, vs1, d1, ds1, p1, q1, rfl, rfl, rfl, h1, r1⟩ := trodAll_cons r0
  obtain ⟨v2, vs2, d2, ds2, p2, q2, rfl, rfl, rfl, h2, r2⟩ := trodAll_cons r1
  obtain ⟨rfl, rfl, rfl⟩ := trodAll_nil r2
  obtain rfl : args = #[v0, v1, v2] := by cases args; simp_all
  obtain ⟨rfl, rfl⟩ := trodVars_none hV
  obtain ⟨a0, rfl, rfl, rfl, w0⟩ := open_int Try.underlying22 (hval 0 22 v0 rfl rfl) h0
  obtain ⟨a1, rfl, rfl, rfl, w1⟩ := open_int Try.underlying22 (hval 1 22 v1 rfl rfl) h1
  obtain ⟨a2, len2, cap2, rfl⟩ := okWide_slice Try.underlying23 (hval 2 23 v2 rfl rfl)
  have k2 := h2
  have lt2 : ∀ x ∈ p2, x.block < W.heap.size := by obtain ⟨m, hm⟩ := k2; exact DataW.trod_lt m _ _ _ hm
  obtain ⟨z2, w2⟩ : ∃ zs, IsRow .u32 W a2 len2 cap2 zs := by
    obtain ⟨fuel, hf⟩ := h2
    rcases open_ints Try.underlying23 Try.underlying22 (by kernel_rfl) hf with ⟨hcs, _⟩ | ⟨x, l, c, zs, hcs, _, hl, hm, hz, _, hcell, hwz⟩
    · simp [Value.cells] at hcs
      obtain ⟨rfl, rfl, rfl⟩ := hcs
      exact ⟨[], .inl ⟨rfl, rfl, rfl, rfl⟩⟩
    · simp [Value.cells] at hcs
      obtain ⟨rfl, rfl, rfl⟩ := hcs
      exact ⟨zs, .inr ⟨_, rfl, hl, hm, by simpa using hz, hcell, hwz⟩⟩
  clear hA0 hval0
  refine (walk a0 a1 a2 len2 cap2 z2 W w0 w1 w2).mono fun e W' ⟨he, bel⟩ => ?_
  subst he
  exact ⟨_, rfl, _, _, _, [], _, [], hW', trodAll_mk1 (shut_bool Try.underlying4 _), (trodAll_cons_mk (shut_int Try.underlying22 w0) (trodAll_cons_mk (shut_int Try.underlying22 w1) (trodAll_cons_mk (Below.trod laidOut (by kernel_rfl) (of_decide_eq_true (by kernel_rfl)) k2 bel lt2) trodAll_mk0))), rfl, bel.frame _, fun h => by cases h⟩

theorem over : Rows.wrapSaysRow.holds Try.pinned (OpenSpec.ofChange Rows.wrapSaysSpec) :=
  OpenClaim.holds_of_wide 3 Try.f3 rfl rfl rfl rfl rfl rfl rfl ⟨rfl, rfl, rfl, rfl, rfl⟩ rfl rfl rfl rfl rfl (by kernel_rfl) Try.func3 (by kernel_rfl)
    (of_decide_eq_true (by kernel_rfl)) (by unfold Func.isWrapper; first | (rw [if_pos (by decide +kernel)]; kernel_rfl) | (rw [if_neg (by decide +kernel)]; exact ⟨rfl, rfl⟩))
    (fun os started H enc _ => lifted os started H enc)

/-- ████ THE STATEMENT ████ -/
theorem proved : Rows.WrapSaysSaid := over
#print axioms proved
end Go.Proofs.Ytjeifpjjnfaefaa.wrapSays
