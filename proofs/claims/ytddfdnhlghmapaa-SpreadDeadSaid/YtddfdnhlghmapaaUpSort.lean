/- slices.SortFunc of budgets and periods, by their periods. (Flay: shelf.sh NAME Flay "Derived.Shelf.SlSortCmp.NoneTotal Derived.Ground.SlsfProg" "shelf_lay_g SlLaysF0.n6 Slsf 6 at Try <number of slices.SortFunc> as sortFL") -/
import Derived.Test.YtddfdnhlghmapaaUpRow
import Derived.Test.YtddfdnhlghmapaaFlay
namespace Go.Proofs.Ytddfdnhlghmapaa.Up
open Go.ChangeShapes Go.WideShapes Go.ChangeAt Go.RowKit Go.Shelf Go.Sort
set_option linter.unusedVariables false

def cfP (x y : U30) : Int := x.1.2 - y.1.2
theorem cfP_lt (x y : U30) : ltOf cfP x y = decide (x.1.2 < y.1.2) := by
  unfold ltOf cfP
  by_cases h : x.1.2 < y.1.2
  · rw [decide_eq_true h]; exact decide_eq_true (by omega)
  · rw [decide_eq_false h]; exact decide_eq_false (by omega)
theorem cfP_swo : SWO (ltOf cfP) := by
  refine ⟨fun x => ?_, fun x y z h1 h2 => ?_, fun x y z h1 h2 => ?_⟩ <;> simp only [cfP_lt, decide_eq_true_eq, decide_eq_false_iff_not] at * <;> omega
theorem asks_cmp (x y : U30) (W : World) : Calls Try.prog 55 #[.agg #[.int .i64 x.1.1, .int .i64 x.1.2], .agg #[.int .i64 y.1.1, .int .i64 y.1.2]] W fun e w' => e = .returned (.int .i64 (cfP x y)) ∧ ∃ os', w' = grow W os' := by
  obtain ⟨⟨a, b⟩, h1, h2⟩ := x
  obtain ⟨⟨c, d⟩, h3, h4⟩ := y
  simp only at h1 h2 h3 h4
  simp only
  go_enter Try.func55, Try.ntmps55
  go_wp2
  go_ret
  refine ⟨rfl, #[.cells #[.int .i64 a, .int .i64 b] 71, .cells #[.int .i64 c, .int .i64 d] 71], ?_⟩
  unfold grow World.alloc
  have e : ∀ (A : Array Obj) (x y : Obj), (A.push x).push y = A ++ #[x, y] := fun A x y => by apply Array.ext'; simp
  simp [e]

theorem sortf_any (v : Value) (S : List (Int × Int)) (base : Nat) (w : World) (h : Us.RowAt w base v S) (hb : ∀ u ∈ S, 1 ≤ u.2 ∧ u.2 ≤ 30) (hl : S.length ≤ 1000) :
    Calls Try.prog 54 #[v, .func (.func 55) #[] #[]] w fun e w' => e = .returned (.tuple #[]) ∧ ∃ T : List (Int × Int), T.Perm S ∧ (T.Pairwise fun x y => x.2 ≤ y.2) ∧ Us.RowAt w' base v T ∧ Only (fun k => v.ownBlock = some k) w w' := by
  obtain ⟨T, rfl⟩ := lift_row S hb
  have hr := row_iff.1 h
  rcases hr.cases with ⟨rfl, rfl⟩ | ⟨g, c, rfl, hbg, hcap, hmx, ⟨cur, hcur⟩, -⟩
  · have hc := AnyF.slices_SortFunc_none sortFL none 0 (.func (.func 55) #[] #[]) w
    change Calls Try.prog 54 _ _ _ at hc
    refine hc.mono ?_
    rintro e w' ⟨rfl, rfl⟩
    exact ⟨rfl, [], List.Perm.refl _, List.Pairwise.nil, h, Only.refl _ _⟩
  · have eg : ∀ args w, (callFunc 55 args).run Try.prog w = .ok (.enter 55 args) w := enters_of Try.func55 (by kernel_rfl) rfl
    have hcmp : CmpLays Try.prog 55 #[] enc 2 cfP g 0 T.toArray.size w := fun m os dk _ x y => by
      refine (asks_cmp x y _).mono ?_
      rintro e w' ⟨rfl, os', rfl⟩
      exact ⟨rfl, 0, os', rfl⟩
    have hc := AnyQ.slices_SortFunc sortFL 2 (fun _ => by kernel_rfl) (fun _ => by kernel_rfl) enc enc_len enc_one cfP cfP_swo 55 #[] g 0 c T.toArray w eg hcmp (holds_row hr) (block_there hcur) (by simp at hl; simp; omega)
    change Calls Try.prog 54 _ _ _ at hc
    have e0 : T.toArray.size = T.length := by simp
    have e1 : (T.map (·.1)).length = T.length := List.length_map ..
    rw [e0] at hc
    refine hc.mono ?_
    rintro e w' ⟨rfl, d', m, os, hP, hSo, rfl⟩
    rw [← e0] at hP hSo
    obtain ⟨h3, h4⟩ := perm_of_in hP
    have h5 : d'.toList.length = T.length := by rw [Array.length_toList, h3]; simp
    obtain ⟨p1, p2⟩ := row_put (m := m) (os := os) (T := d'.toList) hr h5
    refine ⟨rfl, d'.toList.map (·.1), (by simpa using h4.map (·.1)), ?_, row_iff.2 (by simpa [sortWorldK] using p1), (by simpa [sortWorldK] using p2.mono (fun k _ e => by rw [e]; rfl))⟩
    have hp := pairs_of_in (lt := ltOf cfP) (d := d') (by rw [h3]; exact hSo)
    rw [List.pairwise_map]
    refine hp.imp ?_
    intro x y hxy
    rw [cfP_lt] at hxy
    have := of_decide_eq_false hxy
    omega
end Go.Proofs.Ytddfdnhlghmapaa.Up
