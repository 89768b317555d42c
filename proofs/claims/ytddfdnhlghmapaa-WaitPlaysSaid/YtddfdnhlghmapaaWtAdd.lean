/- One more who waits, at an append in a region that draws its order; where a task stands. -/
import Derived.Test.YtddfdnhlghmapaaWt
import Derived.Deep.RegionLaw
namespace Go.Proofs.Ytddfdnhlghmapaa.Wt
open Go.ChangeShapes Go.WideShapes Go.ChangeAt Go.RowKit Go.Maps
set_option linter.unusedVariables false

/-- What is known behind the append, ahead of the store. -/
structure Added (p : Nat) (V : Value) (S : Line) (G : Looks) (x : Int × Bool) (w : World) (v' : Value) (w' : World) : Prop where
  at_ : QAt (w'.setCell ⟨p, 0, none⟩ v') p v' (S ++ [x]) G
  step : Step p V v' w (w'.setCell ⟨p, 0, none⟩ v')

theorem added_of {p : Nat} {V : Value} {S : Line} {G : Looks} {x : Int × Bool} {wr w w' : World} {g c : Nat} (hq : QAt wr p V S G) (hO : Only (fun _ => False) wr w)
    (hown : w'.ownsRow 0 81 2 (.slice (some ⟨g, 0, none⟩) (S.length + 1) c) (S.length + 1) (flat enc S ++ enc x)) (hg : w.grownBy w' V.ownBlock) (hat : V.ownBlock = some g ∨ g = w.heap.size) :
    w'.cell? ⟨p, 0, none⟩ = some V ∧ w'.frozen? ⟨p, 0, none⟩ = false ∧ Added p V S G x wr (.slice (some ⟨g, 0, none⟩) (S.length + 1) c) w' := by
  have hO2 : Only (fun k => V.ownBlock = some k) w w' := Only.of_grown hg (fun k hk => hk)
  have hO3 : Only (fun k => V.ownBlock = some k) wr w' := (hO.mono (T := fun k => V.ownBlock = some k) (fun _ _ e => e.elim)).trans hO2 (fun _ _ e => e)
  have hr : RowAt w' 0 (.slice (some ⟨g, 0, none⟩) (S.length + 1) c) (S ++ [x]) := by
    unfold RowAt
    rw [List.length_append, flat_append, flat_one]
    exact hown
  obtain ⟨h1, h2⟩ := hq.row_set hr hO3 (fun k hk => by
    have e : g = k := Option.some.inj hk
    subst e
    rcases hat with e | e
    · exact Or.inl e
    · exact Or.inr (by rw [e]; exact hO.size))
  obtain ⟨cs, q1, q2, q3, -⟩ := hq.block
  have hp : w'.heap[p]? = some (.cells cs 78 (0, 0)) := (hO3.block p hq.lt hq.not_row).trans q1
  exact ⟨by rw [cell_at hp]; exact q3, frozen_at hp _, ⟨h1, h2⟩⟩

theorem step_add {w : World} {ops : Array Oper} {oo : Oper} {a : Act} {K : Act → World → Prop} {R : Exit → Act → World → Prop} {E : Prop} (hgd : oo.guard = none) (s y : Operand)
    (ho : oo.op = .call { callee := .builtin .append, args := #[s, y], argTypes := #[74, 74] })
    (wr : World) (p b : Nat) (V : Value) (S : Line) (G : Looks) (x : Int × Bool) (hq : QAt wr p V S G) (hO : Only (fun _ => False) wr w) (hs : a.eval s = V) (hy : a.eval y = .slice (some ⟨b, 0, none⟩) 1 1)
    (hb : w.heap[b]? = some (.cells #[.int .i64 x.1, .bool x.2] 81 (0, 0))) (hl : S.length + 1 ≤ 8796093022144)
    (h : ∀ g c w', w'.cell? ⟨p, 0, none⟩ = some V → w'.frozen? ⟨p, 0, none⟩ = false → Hid (Added p V S G x wr (.slice (some ⟨g, 0, none⟩) (S.length + 1) c) w') → K (a.put oo.dst (.slice (some ⟨g, 0, none⟩) (S.length + 1) c)) w') :
    if Region.wanted oo (yielded ops a.tmps) = true then Oper.wp Try.prog oo a w K R else E := by
  obtain ⟨i0, hi0, hz0, hz1, hz2⟩ := info_parts Try.infoElem
  refine step_append_lies w hgd s y 74 ho 0 81 i0 (.agg #[.int .i64 0, .bool false]) 2 16 Try.underlying74 hi0 hz0 hz1 hz2 rfl (by decide) V S.length (flat enc S) hs (hq.later hO).row ⟨b, 0, none⟩ 1 1 (enc x) hy rfl
    (World.news_of_block (cs := #[.int .i64 x.1, .bool x.2]) hb) (enc_one x) (by omega) (lim_of hl).1 (lim_of hl).2 (Nat.zero_le _) w.heap.size rfl ?_
  intro g c w' hown hg hat hlt
  obtain ⟨q1, q2, q3⟩ := added_of hq hO hown hg hat
  exact h g c w' q1 q2 q3

theorem append_add {w : World} {ops : Array Oper} {rest : List Oper} {oo : Oper} {a : Act} {R : Exit → Act → World → Prop} (hgd : oo.guard = none) (s y : Operand)
    (ho : oo.op = .call { callee := .builtin .append, args := #[s, y], argTypes := #[74, 74] })
    (wr : World) (p b : Nat) (V : Value) (S : Line) (G : Looks) (x : Int × Bool) (hq : QAt wr p V S G) (hO : Only (fun _ => False) wr w) (hs : a.eval s = V) (hy : a.eval y = .slice (some ⟨b, 0, none⟩) 1 1)
    (hb : w.heap[b]? = some (.cells #[.int .i64 x.1, .bool x.2] 81 (0, 0))) (hl : S.length + 1 ≤ 8796093022144)
    (h : ∀ g c w', w'.cell? ⟨p, 0, none⟩ = some V → w'.frozen? ⟨p, 0, none⟩ = false → Hid (Added p V S G x wr (.slice (some ⟨g, 0, none⟩) (S.length + 1) c) w') → wpList Try.prog ops R rest (a.put oo.dst (.slice (some ⟨g, 0, none⟩) (S.length + 1) c)) w') :
    wpList Try.prog ops R (oo :: rest) a w := by
  obtain ⟨i0, hi0, hz0, hz1, hz2⟩ := info_parts Try.infoElem
  refine wpList_append_lies w hgd s y 74 ho 0 81 i0 (.agg #[.int .i64 0, .bool false]) 2 16 Try.underlying74 hi0 hz0 hz1 hz2 rfl (by decide) V S.length (flat enc S) hs (hq.later hO).row ⟨b, 0, none⟩ 1 1 (enc x) hy rfl
    (World.news_of_block (cs := #[.int .i64 x.1, .bool x.2]) hb) (enc_one x) (by omega) (lim_of hl).1 (lim_of hl).2 (Nat.zero_le _) w.heap.size rfl ?_
  intro g c w' hown hg hat hlt
  obtain ⟨q1, q2, q3⟩ := added_of hq hO hown hg hat
  exact h g c w' q1 q2 q3

theorem asks_one (Bx : Nat) (t : Int) (w : World) (hB : w.heap[Bx]? = some (.cells #[.int .i64 t] 3 (0, 0))) (x : Int × Bool) (W : World) (hW : Below w.heap.size w W) :
    Calls Try.prog 108 #[.agg #[.int .i64 x.1, .bool x.2], .pointer (some ⟨Bx, 0, none⟩)] W (fun e W' => e = .returned (.bool (x.1 == t)) ∧ Below W.heap.size W W') := by
  have hB2 : W.heap[Bx]? = some (.cells #[.int .i64 t] 3 (0, 0)) := (hW.block Bx (block_there hB)).trans hB
  have hc : W.cell? ⟨Bx, 0, none⟩ = some (.int .i64 t) := by rw [cell_at hB2]; rfl
  have hlt := block_there hB2
  clear hB hB2 hW
  obtain ⟨x, k⟩ := x
  simp only
  go_enter Try.func108, Try.ntmps108
  go_wp2
  go_ret
  exact ⟨rfl, (Below.refl _ W).alloc (Nat.le_refl _) _⟩

section
variable {w : World} {p : Nat} {V : Value} {S : Line} {G : Looks}

theorem place_any (h : QAt w p V S G) (t : Int) : Calls Try.prog 57 #[.pointer (some ⟨p, 0, none⟩), .int .i64 t] w fun e w' => ∃ r, e = .returned (.int .i64 r) ∧ Found S (fun x => x.1 == t) r ∧ Only (fun _ => False) w w' := by
  have H := Lib.hid (h.later ((Only.refl (fun _ => False) w).alloc (.cells #[.int .i64 t] 3)))
  have c0 := h.cell0
  have hp := h.lt
  have hp2 : p < (w.alloc (.cells #[.int .i64 t] 3)).heap.size := by simp; omega
  obtain ⟨a, c, hV, -⟩ := h.row.shape rfl
  have HV := Lib.hid hV
  rw [hV] at c0
  have HA := Lib.hid (asks_one w.heap.size t (w.alloc (.cells #[.int .i64 t] 3)) (heap_alloc_new w _))
  have HI := Lib.hid (index_one w.heap.size 0 V S (fun x => x.1 == t) (w.alloc (.cells #[.int .i64 t] 3)) H.out.row (fun x W hW => HA.out x W hW))
  rw [hV] at HI
  clear h hV
  go_enter Try.func57, Try.ntmps57
  go_wp2_with (go_at_call 107; (with_reducible refine HI.out.mono ?_); rintro e w1 ⟨r, rfl, hf, hb⟩; have HF := Lib.hid hf; have HB := Lib.hid hb; clear hf hb)
  go_ret
  exact ⟨r, rfl, HF.out, only_trans ((Only.refl (fun _ => False) w).alloc _) (Only.of_below HB.out)⟩

theorem place_no (h : QAt w p V S G) (t : Int) (ht : t ∉ ids S) : Calls Try.prog 57 #[.pointer (some ⟨p, 0, none⟩), .int .i64 t] w fun e w' => e = .returned (.int .i64 (-1)) ∧ Only (fun _ => False) w w' :=
  (place_any h t).mono fun e w' ⟨r, h1, h2, h3⟩ => by
    rcases h2 with ⟨rfl, -⟩ | ⟨i, rfl, hi, hx⟩
    · exact ⟨h1, h3⟩
    · exfalso
      refine ht ?_
      have e : (S.getD i (0, false)).1 = t := by simpa using hx
      rw [← e, ← ids_at S hi]
      have hl : i < (ids S).length := by rw [ids_len]; exact hi
      simp [List.getD, hl]

theorem place_yes (h : QAt w p V S G) (t : Int) (ht : t ∈ ids S) : Calls Try.prog 57 #[.pointer (some ⟨p, 0, none⟩), .int .i64 t] w fun e w' => ∃ i : Nat, e = .returned (.int .i64 i) ∧ i < S.length ∧ (S.getD i (0, false)).1 = t ∧ Only (fun _ => False) w w' :=
  (place_any h t).mono fun e w' ⟨r, h1, h2, h3⟩ => by
    rcases h2 with ⟨rfl, hn⟩ | ⟨i, rfl, hi, hx⟩
    · exfalso
      obtain ⟨x, hx, rfl⟩ := List.mem_map.1 ht
      have := hn x hx
      simp at this
    · exact ⟨i, h1, hi, by simpa using hx, h3⟩

theorem isTask_any (t : Int) (w : World) : Calls Try.prog 56 #[.int .i64 t] w fun e w' => e = .returned (.bool (isT t)) ∧ w = w' := by
  by_cases h1 : 1 ≤ t
  · by_cases h2 : t ≤ 16
    · have E := Lib.hid (show isT t = true from decide_eq_true ⟨h1, h2⟩)
      go_enter Try.func56, Try.ntmps56
      go_wp2
      go_ret
      rw [E.out]; exact ⟨rfl, rfl⟩
    · have E := Lib.hid (show isT t = false from decide_eq_false (by omega))
      go_enter Try.func56, Try.ntmps56
      go_wp2
      go_ret
      rw [E.out]; exact ⟨rfl, rfl⟩
  · have E := Lib.hid (show isT t = false from decide_eq_false (by omega))
    go_enter Try.func56, Try.ntmps56
    go_wp2
    go_ret
    rw [E.out]; exact ⟨rfl, rfl⟩
end
end Go.Proofs.Ytddfdnhlghmapaa.Wt
