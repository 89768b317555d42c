/- Contract of package fair's first: who goes first among the ready tasks of a group. -/
import Derived.Test.YtpincdcebhmnhaaOFr
namespace Go.Proofs.Ytpincdcebhmnhaa.Fr
open Go.ChangeShapes Go.WideShapes Go.ChangeAt Go.RowKit Go.Maps
set_option linter.unusedVariables false

/-- The tasks' cells. -/
def arrOf (o : Nat) (cs : Array Value) : Array Value := ((List.range 68).map fun j => cs.getD (o + j) undef).toArray

theorem arrOf_get (o : Nat) (cs : Array Value) (j : Nat) (h : j < 68) : (arrOf o cs)[j]? = some (cs.getD (o + j) undef) := by
  simp [arrOf, h]

theorem arrOf_size (o : Nat) (cs : Array Value) : (arrOf o cs).size = 68 := by simp [arrOf]

theorem load_arr {w : World} {p o D : Nat} {cs : Array Value} (h : w.heap[p]? = some (.cells cs D (0, 0))) (hs : o + 86 ≤ cs.size) :
    (loadVar 46 ⟨p, o, none⟩).run Try.prog w = .ok (.agg (arrOf o cs)) w := by
  have hl : (loadCells ⟨p, o, none⟩ 68).run Try.prog w = .ok (arrOf o cs) w :=
    run_loadCells w ⟨p, o, none⟩ 68 (fun j => cs.getD (o + j) undef) (fun j hj => by
      have hadd : (⟨p, o, none⟩ : Addr).add j = ⟨p, o + j, none⟩ := by rw [add_plain]
      rw [hadd, cell_at h]
      simp [show o + j < cs.size by omega])
  have hagg : (isAgg 46).run Try.prog w = .ok true w := by kernel_rfl
  simp [loadVar, Sem.run_bind, hagg, hl]

theorem index_arr {o : Nat} {cs : Array Value} {T : Tks} {G : Grs} (h : Cells o cs T G) (k : Nat) (hk : k < 17) (w : World) :
    (Instr.index 46 (.agg (arrOf o cs)) (.int .i64 k)).run Try.prog w = .ok (.agg #[.int .i64 (T k).c, .int .i64 (T k).v, .int .i64 (T k).g, .bool (T k).r]) w := by
  have hsz : (sizeOf 45).run Try.prog w = .ok 4 w := by kernel_rfl
  have hx : (arrOf o cs).extract (k * 4) (k * 4 + 4) = #[.int .i64 (T k).c, .int .i64 (T k).v, .int .i64 (T k).g, .bool (T k).r] := by
    apply Array.ext
    · simp [arrOf_size]; omega
    · intro i h1 h2
      have hi : i < 4 := by simpa using h2
      have e : ∀ j, j < 68 → (arrOf o cs)[j]? = cs[o + j]? := fun j hj => by
        rw [arrOf_get o cs j hj]; have := h.size; simp [show o + j < cs.size by omega]
      have e1 := e (k * 4) (by omega)
      have e2 := e (k * 4 + 1) (by omega)
      rw [← Nat.add_assoc] at e2
      have e3 := e (k * 4 + 2) (by omega)
      rw [← Nat.add_assoc] at e3
      have e4 := e (k * 4 + 3) (by omega)
      rw [← Nat.add_assoc] at e4
      rw [h.tc k hk] at e1
      rw [h.tv k hk] at e2
      rw [h.tg k hk] at e3
      rw [h.tr k hk] at e4
      apply Option.some.inj
      rw [← Array.getElem?_eq_getElem h1, ← Array.getElem?_eq_getElem h2, Array.getElem?_extract]
      rw [arrOf_size, if_pos (by omega)]
      match i, hi with
      | 0, _ => simpa using e1
      | 1, _ => simpa using e2
      | 2, _ => simpa using e3
      | 3, _ => simpa using e4
  unfold Instr.index
  rw [Sem.run_bind]
  simp only [asIntOf, Sem.run_pure, Result.andThen_ok, Sem.run_bind, run_underlying Try.underlying46]
  have h1 : (0 : Int) ≤ k ∧ (k : Int) < ((17 : Nat) : Int) := by omega
  rw [if_pos h1]
  simp [Sem.run_bind, hsz, part, hx]

section
variable {P : Program}
/-- A load whose run is known. -/
theorem wpList_load_known {ops : Array Oper} {rest : List Oper} {o : Oper} {a : Act} {w : World} {Q : Exit → Act → World → Prop} (hgd : o.guard = none) (ty : TypeId) (x : Operand) (ho : o.op = .load ty x)
    (ad : Addr) (hx : a.eval x = .pointer (some ad)) (v : Value) (hl : (loadVar ty ad).run P w = .ok v w)
    (h : wpList P ops Q rest (a.put o.dst v) w) : wpList P ops Q (o :: rest) a w := by
  refine wpList_plain hgd fun _ hK => ?_
  unfold Oper.wp execOp
  simp only [ho, hx, Instr.loadAt, Instr.sureAddr, Sem.run_bind, Sem.run_pure, Result.andThen_ok, hl]
  exact hK _ _ h
end

theorem first_any {w : World} {p o D : Nat} {T : Tks} {G : Grs} (h : FairAt w p o D T G) (g : Int) :
    Calls Try.prog 46 #[.pointer (some ⟨p, o, none⟩), .int .i64 g] w fun e w' => e = .returned (.int .i64 (first T g : Nat)) ∧ Only (fun _ => False) w w' := by
  obtain ⟨cs, h1, h2⟩ := h
  have HF := Lib.hid (show FairAt w p o D T G from ⟨cs, h1, h2⟩)
  have HX := Lib.hid (index_arr h2)
  have HL := Lib.hid (load_arr h1 h2.size)
  clear h1 h2
  generalize arrOf o cs = arr at *
  go_enter Try.func46, Try.ntmps46
  go_wp2_with (refine wpList_load_known rfl 46 _ rfl ⟨p, o, none⟩ rfl (.agg arr) HL.out ?_)
  go_loopw [5, 12] (fun m i wr => ∃ k : Nat, k ≤ 17 ∧ i = .int .i64 k ∧ m = .int .i64 (firstTo T g k : Nat) ∧ Only (fun _ => False) w wr) (fun _ i _ => 17 - (intOf i).toNat)
  case atStart => exact ⟨0, by omega, rfl, rfl, Only.refl _ w⟩
  case round =>
    obtain ⟨k, hk, rfl, rfl, hO⟩ := hrel
    have HO := Lib.hid hO
    by_cases hlt : k < 17
    · have ix := HX.out k hlt
      have HS := Lib.hid (show firstTo T g (k + 1) = if (T k).r = true ∧ (T k).g = g ∧ (firstTo T g k = 0 ∨ (T k).v < (T (firstTo T g k)).v) then k else firstTo T g k from rfl)
      have hml := firstTo_lt T g k
      generalize firstTo T g k = m at *
      have cv := (HF.out.later hO).tv m (by omega)
      have hp := (HF.out.later hO).lt
      clear hO
      have g1 : (k : Int) < 17 := by omega
      have g2 : (m : Int) < 17 := by omega
      cases hr : (T k).r with
      | false =>
        rw [hr] at ix
        have HE : Hid (firstTo T g (k + 1) = m) := by have := HS.out; rw [hr] at this; simp at this; exact this
        clear hr HS
        go_wp2_with fail
        go_quiet (fail)
        go_wp2_with fail
        go_roundw
        case rel => exact ⟨k + 1, by omega, by go_num, by rw [HE.out], ((HO.out.alloc _).trans (only_drewN (Only.refl _ _) _) (fun _ _ h => h))⟩
        case measure => simp [intOf]; omega
      | true =>
        rw [hr] at ix
        by_cases hg : (T k).g = g
        · rw [hg] at ix
          by_cases hm : m = 0
          · subst hm
            have HE : Hid (firstTo T g (k + 1) = k) := by have := HS.out; rw [hr, if_pos ⟨rfl, hg, Or.inl rfl⟩] at this; exact this
            clear hr hg HS
            go_wp2_with fail
            go_quiet (fail)
            go_wp2_with fail
            go_roundw
            case rel => exact ⟨k + 1, by omega, by go_num, by rw [HE.out], ((HO.out.alloc _).trans (only_drewN (Only.refl _ _) _) (fun _ _ h => h))⟩
            case measure => simp [intOf]; omega
          · have hm0 : ((m : Int) == 0) = false := by simp; omega
            by_cases hv : (T k).v < (T m).v
            · have HE : Hid (firstTo T g (k + 1) = k) := by have := HS.out; rw [hr, if_pos ⟨rfl, hg, Or.inr hv⟩] at this; exact this
              have hd : decide ((T k).v < (T m).v) = true := decide_eq_true hv
              clear hr hg HS hm hv
              go_wp2_with fail
              go_quiet (fail)
              go_wp2_with fail
              go_roundw
              case rel => exact ⟨k + 1, by omega, by go_num, by rw [HE.out], ((HO.out.alloc _).trans (only_drewN (Only.refl _ _) _) (fun _ _ h => h))⟩
              case measure => simp [intOf]; omega
            · have HE : Hid (firstTo T g (k + 1) = m) := by have := HS.out; rw [if_neg (by rintro ⟨_, _, h | h⟩; exact hm h; exact hv h)] at this; exact this
              have hd : decide ((T k).v < (T m).v) = false := decide_eq_false hv
              clear hr hg HS hm hv
              go_wp2_with fail
              go_quiet (fail)
              go_wp2_with fail
              go_roundw
              case rel => exact ⟨k + 1, by omega, by go_num, by rw [HE.out], ((HO.out.alloc _).trans (only_drewN (Only.refl _ _) _) (fun _ _ h => h))⟩
              case measure => simp [intOf]; omega
        · have HE : Hid (firstTo T g (k + 1) = m) := by have := HS.out; rw [if_neg (by rintro ⟨_, h, _⟩; exact hg h)] at this; exact this
          have hg' : ((T k).g == g) = false := by simpa using hg
          clear hr HS hg
          go_wp2_with fail
          go_quiet (fail)
          go_wp2_with fail
          go_roundw
          case rel => exact ⟨k + 1, by omega, by go_num, by rw [HE.out], ((HO.out.alloc _).trans (only_drewN (Only.refl _ _) _) (fun _ _ h => h))⟩
          case measure => simp [intOf]; omega
    · obtain rfl : k = 17 := by omega
      go_wp2_with fail
      go_ret
      exact ⟨rfl, HO.out⟩
end Go.Proofs.Ytpincdcebhmnhaa.Fr
