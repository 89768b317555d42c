/- Texts of this claim, merged: ODPick. -/
import Derived.Test.YtpincdcebhmnhaaGreatM04
/- Contract of package dead's Pick: who goes next. -/
namespace Go.Proofs.YtpincdcebhmnhaaGreat.De
open Go.ChangeShapes Go.WideShapes Go.ChangeAt Go.RowKit Go.Maps
set_option linter.unusedVariables false

/-- The tasks' cells. -/
def arrOf (o : Nat) (cs : Array Value) : Array Value := ((List.range 102).map fun j => cs.getD (o + j) undef).toArray

theorem arrOf_get (o : Nat) (cs : Array Value) (j : Nat) (h : j < 102) : (arrOf o cs)[j]? = some (cs.getD (o + j) undef) := by
  simp [arrOf, h]

theorem arrOf_size (o : Nat) (cs : Array Value) : (arrOf o cs).size = 102 := by simp [arrOf]

theorem load_arr {w : World} {p o D : Nat} {cs : Array Value} (h : w.heap[p]? = some (.cells cs D (0, 0))) (hs : o + 103 ≤ cs.size) :
    (loadVar 70 ⟨p, o, none⟩).run Tryz.prog w = .ok (.agg (arrOf o cs)) w := by
  have hl : (loadCells ⟨p, o, none⟩ 102).run Tryz.prog w = .ok (arrOf o cs) w :=
    run_loadCells w ⟨p, o, none⟩ 102 (fun j => cs.getD (o + j) undef) (fun j hj => by
      have hadd : (⟨p, o, none⟩ : Addr).add j = ⟨p, o + j, none⟩ := by rw [add_plain]
      rw [hadd, cell_at h]
      simp [show o + j < cs.size by omega])
  have hagg : (isAgg 70).run Tryz.prog w = .ok true w := by kernel_rfl
  simp [loadVar, Sem.run_bind, hagg, hl]

theorem index_arr {o : Nat} {cs : Array Value} {T : Tks} {n : Int} (h : Cells o cs T n) (k : Nat) (hk : k < 17) (w : World) :
    (Instr.index 70 (.agg (arrOf o cs)) (.int .i64 k)).run Tryz.prog w = .ok (.agg #[.int .i64 (T k).b, .int .i64 (T k).p, .int .i64 (T k).l, .int .i64 (T k).d, .bool (T k).o, .bool (T k).r]) w := by
  have hsz : (sizeOf 69).run Tryz.prog w = .ok 6 w := by kernel_rfl
  have hx : (arrOf o cs).extract (k * 6) (k * 6 + 6) = #[.int .i64 (T k).b, .int .i64 (T k).p, .int .i64 (T k).l, .int .i64 (T k).d, .bool (T k).o, .bool (T k).r] := by
    apply Array.ext
    · simp [arrOf_size]; omega
    · intro i h1 h2
      have hi : i < 6 := by simpa using h2
      have e : ∀ j, j < 102 → (arrOf o cs)[j]? = cs[o + j]? := fun j hj => by
        rw [arrOf_get o cs j hj]; have := h.size; simp [show o + j < cs.size by omega]
      have e1 := e (k * 6) (by omega)
      have e2 := e (k * 6 + 1) (by omega)
      rw [← Nat.add_assoc] at e2
      have e3 := e (k * 6 + 2) (by omega)
      rw [← Nat.add_assoc] at e3
      have e4 := e (k * 6 + 3) (by omega)
      rw [← Nat.add_assoc] at e4
      have e5 := e (k * 6 + 4) (by omega)
      rw [← Nat.add_assoc] at e5
      have e6 := e (k * 6 + 5) (by omega)
      rw [← Nat.add_assoc] at e6
      rw [h.cb k hk] at e1
      rw [h.cp k hk] at e2
      rw [h.cl k hk] at e3
      rw [h.cd k hk] at e4
      rw [h.co k hk] at e5
      rw [h.cr k hk] at e6
      apply Option.some.inj
      rw [← Array.getElem?_eq_getElem h1, ← Array.getElem?_eq_getElem h2, Array.getElem?_extract]
      rw [arrOf_size, if_pos (by omega)]
      match i, hi with
      | 0, _ => simpa using e1
      | 1, _ => simpa using e2
      | 2, _ => simpa using e3
      | 3, _ => simpa using e4
      | 4, _ => simpa using e5
      | 5, _ => simpa using e6
  unfold Instr.index
  rw [Sem.run_bind]
  simp only [asIntOf, Sem.run_pure, Result.andThen_ok, Sem.run_bind, run_underlying Tryz.underlying70]
  have h1 : (0 : Int) ≤ k ∧ (k : Int) < ((17 : Nat) : Int) := by omega
  rw [if_pos h1]
  simp [Sem.run_bind, hsz, part, hx]

section
variable {P : Program}
/-- A load whose run is known. -/
theorem wpList_load_known {ops : Array Oper} {rest : List Oper} {o : Oper} {a : Act} {w : World} {Q : Exit → Act → World → Prop} (hgd : o.guard = none) (ty : TypeId) (x : Operand) (ho : o.op = .load ty x)
    (ad : Addr) (hx : a.eval x = .pointer (some ad)) (v : Value) (hl : (loadVar ty ad).run P w = .ok v w)
    (h : wpList P ops Q rest (a.put o.dst v) w) : wpList P ops Q (o :: rest) a w := by
  refine wpList_plain hgd fun _ hK => ?_
  unfold Oper.wp execOp
  simp only [ho, hx, Instr.loadAt, Instr.sureAddr, Sem.run_bind, Sem.run_pure, Result.andThen_ok, hl]
  exact hK _ _ h
end

/-- What Pick answers. -/
def pickErr (T : Tks) : Int := if pick T = 0 then 4 else 0
theorem pickErr_yes {T : Tks} (h : pick T ≠ 0) : pickErr T = 0 := by unfold pickErr; rw [if_neg h]
theorem pickErr_no {T : Tks} (h : pick T = 0) : pickErr T = 4 := by unfold pickErr; rw [if_pos h]

theorem pick_any {w : World} {p o D : Nat} {T : Tks} {n : Int} (h : DeadAt w p o D T n) :
    Calls Tryz.prog 44 #[.pointer (some ⟨p, o, none⟩)] w fun e w' => e = .returned (.tuple #[.int .i64 (pick T : Nat), .int .i64 (pickErr T)]) ∧ Only (fun _ => False) w w' := by
  obtain ⟨cs, h1, h2⟩ := h
  have HF := Lib.hid (show DeadAt w p o D T n from ⟨cs, h1, h2⟩)
  have HX := Lib.hid (index_arr h2)
  have HL := Lib.hid (load_arr h1 h2.size)
  clear h1 h2
  generalize arrOf o cs = arr at *
  go_enter Tryz.func44, Tryz.ntmps44
  go_wp2_with (refine wpList_load_known rfl 70 _ rfl ⟨p, o, none⟩ rfl (.agg arr) HL.out ?_)
  go_loopw [4, 11] (fun m i wr => ∃ k : Nat, k ≤ 17 ∧ i = .int .i64 k ∧ m = .int .i64 (pickTo T k : Nat) ∧ Only (fun _ => False) w wr) (fun _ i _ => 17 - (intOf i).toNat)
  case atStart => exact ⟨0, by omega, rfl, rfl, Only.refl _ w⟩
  case round =>
    obtain ⟨k, hk, rfl, rfl, hO⟩ := hrel
    have HO := Lib.hid hO
    by_cases hlt : k < 17
    · have ix := HX.out k hlt
      have HS := Lib.hid (show pickTo T (k + 1) = if (T k).r = true ∧ (T k).o = false ∧ (pickTo T k = 0 ∨ (T k).d < (T (pickTo T k)).d) then k else pickTo T k from rfl)
      have hml := pickTo_lt T k
      generalize pickTo T k = m at *
      have cv := (HF.out.later hO).cd m (by omega)
      have hp := (HF.out.later hO).lt
      clear hO
      have g1 : (k : Int) < 17 := by omega
      have g2 : (m : Int) < 17 := by omega
      cases hr : (T k).r with
      | false =>
        rw [hr] at ix
        have HE : Hid (pickTo T (k + 1) = m) := by have := HS.out; rw [hr] at this; simp at this; exact this
        clear hr HS
        go_wp2_with fail
        go_quiet (fail)
        go_wp2_with fail
        go_roundw
        case rel => exact ⟨k + 1, by omega, by go_num, by rw [HE.out], ((HO.out.alloc _).trans (only_drewN (Only.refl _ _) _) (fun _ _ h => h))⟩
        case measure => simp [intOf]; omega
      | true =>
        rw [hr] at ix
        cases hg : (T k).o with
        | false =>
          rw [hg] at ix
          by_cases hm : m = 0
          · subst hm
            have HE : Hid (pickTo T (k + 1) = k) := by have := HS.out; rw [hr, if_pos ⟨rfl, hg, Or.inl rfl⟩] at this; exact this
            clear hr hg HS
            go_wp2_with fail
            go_quiet (fail)
            go_wp2_with fail
            go_roundw
            case rel => exact ⟨k + 1, by omega, by go_num, by rw [HE.out], ((HO.out.alloc _).trans (only_drewN (Only.refl _ _) _) (fun _ _ h => h))⟩
            case measure => simp [intOf]; omega
          · have hm0 : ((m : Int) == 0) = false := by simp; omega
            by_cases hv : (T k).d < (T m).d
            · have HE : Hid (pickTo T (k + 1) = k) := by have := HS.out; rw [hr, if_pos ⟨rfl, hg, Or.inr hv⟩] at this; exact this
              have hd : decide ((T k).d < (T m).d) = true := decide_eq_true hv
              clear hr hg HS hm hv
              go_wp2_with fail
              go_quiet (fail)
              go_wp2_with fail
              go_roundw
              case rel => exact ⟨k + 1, by omega, by go_num, by rw [HE.out], ((HO.out.alloc _).trans (only_drewN (Only.refl _ _) _) (fun _ _ h => h))⟩
              case measure => simp [intOf]; omega
            · have HE : Hid (pickTo T (k + 1) = m) := by have := HS.out; rw [if_neg (by rintro ⟨_, _, h | h⟩; exact hm h; exact hv h)] at this; exact this
              have hd : decide ((T k).d < (T m).d) = false := decide_eq_false hv
              clear hr hg HS hm hv
              go_wp2_with fail
              go_quiet (fail)
              go_wp2_with fail
              go_roundw
              case rel => exact ⟨k + 1, by omega, by go_num, by rw [HE.out], ((HO.out.alloc _).trans (only_drewN (Only.refl _ _) _) (fun _ _ h => h))⟩
              case measure => simp [intOf]; omega
        | true =>
          rw [hg] at ix
          have HE : Hid (pickTo T (k + 1) = m) := by have := HS.out; rw [if_neg (by rintro ⟨_, h, _⟩; rw [hg] at h; cases h)] at this; exact this
          clear hr HS hg
          go_wp2_with fail
          go_quiet (fail)
          go_wp2_with fail
          go_roundw
          case rel => exact ⟨k + 1, by omega, by go_num, by rw [HE.out], ((HO.out.alloc _).trans (only_drewN (Only.refl _ _) _) (fun _ _ h => h))⟩
          case measure => simp [intOf]; omega
    · obtain rfl : k = 17 := by omega
      have HP : Hid (pickTo T 17 = pick T) := Lib.hid rfl
      have e1 := pickErr_yes (T := T)
      have e2 := pickErr_no (T := T)
      have HM := Lib.hid (show pick T = pickTo T 17 from rfl)
      clear HP
      generalize pickTo T 17 = m at *
      by_cases hm : m = 0
      · have hm0 : ((m : Int) == 0) = true := by simp [hm]
        have HE := Lib.hid (e2 (HM.out.trans hm))
        have HM0 := Lib.hid (HM.out.trans hm)
        clear e1 e2
        go_wp2_with fail
        go_ret2
        exact ⟨by rw [HE.out, HM0.out]; rfl, HO.out⟩
      · have hm0 : ((m : Int) == 0) = false := by simp [hm]
        have HE := Lib.hid (e1 (fun q => hm (HM.out.symm.trans q)))
        clear e1 e2
        go_wp2_with fail
        go_ret2
        exact ⟨by rw [HE.out, HM.out]; rfl, HO.out⟩
end Go.Proofs.YtpincdcebhmnhaaGreat.De
