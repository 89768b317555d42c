/- Contracts of package wait: New, Add, Out, Look, Sleep. -/
import Derived.Test.YtddfdnhlghmapaaWtAdd
namespace Go.Proofs.Ytddfdnhlghmapaa.Wt
open Go.ChangeShapes Go.WideShapes Go.ChangeAt Go.RowKit Go.Maps
set_option linter.unusedVariables false

/-- What is known behind a call that changes a queue. -/
def Moved (p : Nat) (V : Value) (S' : Line) (G' : Looks) (x : Value) (w : World) (e : Ending) (w' : World) : Prop := e = .returned x ∧ ∃ V', QAt w' p V' S' G' ∧ Step p V V' w w'

def noG : Looks := fun _ => 0

theorem new_any (w : World) : Calls Try.prog 11 #[] w fun e w' => ∃ p, e = .returned (.pointer (some ⟨p, 0, none⟩)) ∧ p = w.heap.size ∧ QAt w' p (.slice none 0 0) [] noG ∧ Only (fun _ => False) w w' := by
  go_enter Try.func11, Try.ntmps11
  go_wp2
  go_ret
  refine ⟨_, rfl, rfl, ⟨⟨_, heap_alloc_new w _, by rfl, by rfl, fun i hi => ?_⟩, row_nil _ _⟩, (Only.refl _ w).alloc _⟩
  have h : ∀ i : Nat, i < 17 → (#[.slice none 0 0, .int .i64 0, .int .i64 0, .int .i64 0, .int .i64 0, .int .i64 0, .int .i64 0, .int .i64 0, .int .i64 0, .int .i64 0, .int .i64 0, .int .i64 0, .int .i64 0, .int .i64 0, .int .i64 0, .int .i64 0, .int .i64 0, .int .i64 0] : Array Value)[1 + i]? = some (.int .i64 0) := by
    intro i hi
    rcases (show i = 0 ∨ i = 1 ∨ i = 2 ∨ i = 3 ∨ i = 4 ∨ i = 5 ∨ i = 6 ∨ i = 7 ∨ i = 8 ∨ i = 9 ∨ i = 10 ∨ i = 11 ∨ i = 12 ∨ i = 13 ∨ i = 14 ∨ i = 15 ∨ i = 16 by omega) with rfl | rfl | rfl | rfl | rfl | rfl | rfl | rfl | rfl | rfl | rfl | rfl | rfl | rfl | rfl | rfl | rfl <;> rfl
  exact h i hi

section
variable {w : World} {p : Nat} {V : Value} {S : Line} {G : Looks}

theorem Moved.same {x : Value} {w' : World} (h : QAt w p V S G) (hO : Only (fun _ => False) w w') : Moved p V S G x w (.returned x) w' := ⟨rfl, V, h.later hO, Step.later hO⟩

theorem add_bad (h : QAt w p V S G) (t : Int) (a : Bool) (ht : isT t = false) :
    Calls Try.prog 12 #[.pointer (some ⟨p, 0, none⟩), .int .i64 t, .bool a] w (Moved p V S G (.int .i64 1) w) := by
  have H := Lib.hid h
  have C := Lib.hid (fun w => isTask_any t w)
  rw [ht] at C
  clear h ht
  go_enter Try.func12, Try.ntmps12
  go_wp2_with (go_at_call 56; (with_reducible refine (C.out _).mono ?_); rintro e w1 ⟨rfl, rfl⟩)
  go_ret
  exact Moved.same H.out (Only.refl _ _)

theorem add_there (h : QAt w p V S G) (t : Int) (a : Bool) (ht : isT t = true) (hm : t ∈ ids S) :
    Calls Try.prog 12 #[.pointer (some ⟨p, 0, none⟩), .int .i64 t, .bool a] w (Moved p V S G (.int .i64 5) w) := by
  have H := Lib.hid h
  have C := Lib.hid (fun w => isTask_any t w)
  have F := Lib.hid (place_yes h t hm)
  rw [ht] at C
  clear h ht hm
  go_enter Try.func12, Try.ntmps12
  go_wp2_with (first
    | (go_at_call 56; (with_reducible refine (C.out _).mono ?_); rintro e w1 ⟨rfl, rfl⟩)
    | (go_at_call 57; (with_reducible refine F.out.mono ?_); rintro e w1 ⟨i, rfl, -, -, hO⟩; have HO := Lib.hid hO; clear hO; have hi0 : (0 : Int) ≤ (i : Nat) := by omega))
  go_ret
  exact Moved.same H.out HO.out

set_option maxHeartbeats 1000000 in
theorem add_new (h : QAt w p V S G) (hl : S.length ≤ 16) (t : Int) (a : Bool) (ht : isT t = true) (hm : t ∉ ids S) :
    Calls Try.prog 12 #[.pointer (some ⟨p, 0, none⟩), .int .i64 t, .bool a] w (Moved p V (S ++ [(t, a)]) G (.int .i64 0) w) := by
  have H := Lib.hid h
  have C := Lib.hid (fun w => isTask_any t w)
  have F := Lib.hid (place_no h t hm)
  have HL := Lib.hid (show S.length + 1 ≤ 8796093022144 by omega)
  rw [ht] at C
  clear h ht hm hl
  go_enter Try.func12, Try.ntmps12
  go_upto_region 5 with (first
    | (go_at_call 56; (with_reducible refine (C.out _).mono ?_); rintro e w1 ⟨rfl, rfl⟩)
    | (go_at_call 57; (with_reducible refine F.out.mono ?_); rintro e w1 ⟨rfl, hO⟩; have HO := Lib.hid hO; have H1 := Lib.hid (H.out.later hO); clear hO))
  have c0 := H1.out.cell0
  have hp := H1.out.lt
  obtain ⟨sa, sc, hsv, -, -⟩ := H1.out.row.shape rfl
  have HSV := Lib.hid hsv
  rw [hsv] at c0
  clear hsv
  go_wp2_with (at_builtin; go_must (refine append_add rfl (.tmp 18) (.tmp 22) rfl w1 p w1.heap.size V S G (t, a) H1.out ((Only.refl _ w1).alloc _) (by rw [HSV.out]; rfl) (by rfl) (heap_alloc_new w1 _) HL.out ?_); go_must (intro g c w2 q1 q2 HA); rw [HSV.out] at q1)
  go_ret
  exact ⟨rfl, _, HA.out.at_, (Step.later HO.out).trans HA.out.step⟩

/-- Who waits, but for one. -/
def gone (S : Line) (t : Int) : Line := S.filter fun x => !decide (x.1 = t)

theorem gone_none {S : Line} {t : Int} (h : t ∉ ids S) : gone S t = S := by
  unfold gone
  refine List.filter_eq_self.2 fun x hx => ?_
  have : x.1 ≠ t := fun e => h (by rw [← e]; exact List.mem_map.2 ⟨x, hx, rfl⟩)
  simpa using this

theorem gone_idx : ∀ {S : Line} {t : Int} {i : Nat}, (ids S).Nodup → i < S.length → (S.getD i (0, false)).1 = t → gone S t = S.eraseIdx i := by
  intro S
  induction S with
  | nil => intro t i _ hi _; cases hi
  | cons x r ih =>
    intro t i hn hi hx
    have hn2 : x.1 ∉ ids r ∧ (ids r).Nodup := List.nodup_cons.1 hn
    cases i with
    | zero =>
      have e : x.1 = t := by simpa using hx
      show List.filter _ (x :: r) = r
      rw [List.filter_cons, if_neg (by simp [e])]
      exact gone_none (by rw [← e]; exact hn2.1)
    | succ i =>
      have hx2 : (r.getD i (0, false)).1 = t := by simpa using hx
      have hi2 : i < r.length := by simpa using hi
      have hne : x.1 ≠ t := fun e => hn2.1 (by
        rw [e, ← hx2, ← ids_at r hi2]
        have hl : i < (ids r).length := by rw [ids_len]; exact hi2
        simp [List.getD, hl])
      show List.filter _ (x :: r) = x :: r.eraseIdx i
      rw [List.filter_cons, if_pos (by simpa using hne)]
      congr 1
      exact ih hn2.2 hi2 hx2

theorem out_no (h : QAt w p V S G) (t : Int) (hm : t ∉ ids S) :
    Calls Try.prog 18 #[.pointer (some ⟨p, 0, none⟩), .int .i64 t] w (Moved p V S G (.int .i64 4) w) := by
  have H := Lib.hid h
  have F := Lib.hid (place_no h t hm)
  clear h hm
  go_enter Try.func18, Try.ntmps18
  go_wp2_with (go_at_call 57; (with_reducible refine F.out.mono ?_); rintro e w1 ⟨rfl, hO⟩; have HO := Lib.hid hO; clear hO)
  go_ret
  exact Moved.same H.out HO.out

theorem del_back {w1 W w2 : World} {g n c : Nat} (h : QAt w1 p V S G) (hv : V = .slice (some ⟨g, 0, none⟩) n c) (hW : Only (fun _ => False) w1 W) (h2 : Only (· = g) W w2) :
    w2.cell? ⟨p, 0, none⟩ = some (.slice (some ⟨g, 0, none⟩) n c) ∧ w2.frozen? ⟨p, 0, none⟩ = false ∧ Only (fun k => V.ownBlock = some k) w1 w2 := by
  have hO : Only (fun k => V.ownBlock = some k) w1 w2 := (hW.mono (fun _ _ e => e.elim)).trans h2 (fun k _ e => by subst e; rw [hv]; rfl)
  obtain ⟨cs, q1, q2, q3, -⟩ := h.block
  have hp := (hO.block p h.lt h.not_row).trans q1
  exact ⟨by rw [cell_at hp, ← hv]; exact q3, frozen_at hp _, hO⟩

set_option maxHeartbeats 1000000 in
theorem out_yes (h : QAt w p V S G) (hf : Fine S) (t : Int) (hm : t ∈ ids S) :
    Calls Try.prog 18 #[.pointer (some ⟨p, 0, none⟩), .int .i64 t] w (Moved p V (gone S t) G (.int .i64 0) w) := by
  have H := Lib.hid h
  have F := Lib.hid (place_yes h t hm)
  have HL := Lib.hid hf.len
  have HN := Lib.hid hf.nodup
  clear h hm hf
  go_enter Try.func18, Try.ntmps18
  go_upto_region 4 with (go_at_call 57; (with_reducible refine F.out.mono ?_); rintro e w1 ⟨i, rfl, hi, hx, hO⟩; have HO := Lib.hid hO; have H1 := Lib.hid (H.out.later hO); have HI := Lib.hid hi; have HX := Lib.hid hx; clear hO hi hx; have hi0 : ¬ ((i : Nat) : Int) < 0 := by omega)
  have HE := Lib.hid (gone_idx HN.out HI.out HX.out)
  have hi := HI.out
  obtain ⟨m, hm⟩ : ∃ m, S.length = m + 1 := ⟨S.length - 1, by omega⟩
  rw [hm] at hi
  have hl := HL.out
  rw [hm] at hl
  have c0 := H1.out.cell0
  have hp := H1.out.lt
  obtain ⟨g, c, hv, -, hg, -, -, HR⟩ := H1.out.row.at_block hm (by omega)
  have HV := Lib.hid hv
  have HM := Lib.hid hm
  rw [hv] at c0
  clear hv hg hm
  have HR := Lib.hid HR
  have hjm : IntKind.i64.wrap ((i : Int) + 1) = (i : Int) + 1 := IntWalk.i64_in _ (by omega)
  have D := Lib.hid (fun (W : World) (hW : Only (fun _ => False) w1 W) => delete_row 0 g m c i S W (HR.out.later hW) HM.out hi (by omega))
  have Gb := Lib.hid (fun (W w2 : World) (hW : Only (fun _ => False) w1 W) (h2 : Only (· = g) W w2) => del_back H1.out HV.out hW h2)
  go_wp2_with (go_at_call 60; (with_reducible refine (D.out _ (Only.refl _ _)).mono ?_); rintro e w2 ⟨rfl, hr2, hO2⟩; obtain ⟨q1, q2, q3⟩ := Gb.out _ w2 (Only.refl _ _) hO2; have HR2 := Lib.hid hr2; have HO2 := Lib.hid q3; clear hr2 hO2 q3)
  go_ret
  have hr := HR2.out
  rw [← HE.out] at hr
  obtain ⟨r1, r2⟩ := H1.out.row_set hr HO2.out (fun k hk => Or.inl (by rw [HV.out]; exact hk))
  exact ⟨rfl, _, r1, (Step.later HO.out).trans r2⟩

theorem look_bad (h : QAt w p V S G) (t : Int) (ht : isT t = false) :
    Calls Try.prog 21 #[.pointer (some ⟨p, 0, none⟩), .int .i64 t] w (Moved p V S G (.int .i64 1) w) := by
  have H := Lib.hid h
  have C := Lib.hid (fun w => isTask_any t w)
  rw [ht] at C
  clear h ht
  go_enter Try.func21, Try.ntmps21
  go_wp2_with (go_at_call 56; (with_reducible refine (C.out _).mono ?_); rintro e w1 ⟨rfl, rfl⟩)
  go_ret
  exact Moved.same H.out (Only.refl _ _)

theorem look_there (h : QAt w p V S G) (t : Int) (ht : isT t = true) (hm : t ∈ ids S) :
    Calls Try.prog 21 #[.pointer (some ⟨p, 0, none⟩), .int .i64 t] w (Moved p V S G (.int .i64 5) w) := by
  have H := Lib.hid h
  have C := Lib.hid (fun w => isTask_any t w)
  have F := Lib.hid (place_yes h t hm)
  rw [ht] at C
  clear h ht hm
  go_enter Try.func21, Try.ntmps21
  go_wp2_with (first
    | (go_at_call 56; (with_reducible refine (C.out _).mono ?_); rintro e w1 ⟨rfl, rfl⟩)
    | (go_at_call 57; (with_reducible refine F.out.mono ?_); rintro e w1 ⟨i, rfl, -, -, hO⟩; have HO := Lib.hid hO; clear hO; have hi0 : (0 : Int) ≤ (i : Nat) := by omega))
  go_ret
  exact Moved.same H.out HO.out

theorem look_new (h : QAt w p V S G) (k : Nat) (hk : 1 ≤ k ∧ k ≤ 16) (hm : (k : Int) ∉ ids S) :
    Calls Try.prog 21 #[.pointer (some ⟨p, 0, none⟩), .int .i64 k] w (Moved p V S (upd G k 1) (.int .i64 0) w) := by
  have H := Lib.hid h
  have C := Lib.hid (fun w => isTask_any k w)
  rw [show isT (k : Int) = true from decide_eq_true (by omega)] at C
  have F := Lib.hid (place_no h k hm)
  obtain ⟨k1, k2⟩ := hk
  have k3 : (k : Int) < 17 := by omega
  have k4 : (0 : Int) ≤ k := by omega
  clear h hm
  go_enter Try.func21, Try.ntmps21
  go_upto_region 5 with (first
    | (go_at_call 56; (with_reducible refine (C.out _).mono ?_); rintro e w1 ⟨rfl, rfl⟩)
    | (go_at_call 57; (with_reducible refine F.out.mono ?_); rintro e w1 ⟨rfl, hO⟩; have HO := Lib.hid hO; have H1 := Lib.hid (H.out.later hO); clear hO))
  have c0 := H1.out.look (i := k) (by omega)
  have f0 := H1.out.frozen (1 + k)
  go_wp2_with fail
  go_ret
  obtain ⟨r1, r2⟩ := H1.out.look_set (i := k) (by omega) 1
  exact ⟨rfl, _, r1, (Step.later HO.out).trans r2⟩
end
end Go.Proofs.Ytddfdnhlghmapaa.Wt
