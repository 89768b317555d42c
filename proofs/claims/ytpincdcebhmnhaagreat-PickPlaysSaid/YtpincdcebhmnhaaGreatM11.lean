/- Texts of this claim, merged: PkOps. -/
import Derived.Test.YtpincdcebhmnhaaGreatM10
/- Contracts of package pick: New, Fair, Prio, Dead, Block, Wake, Now. -/
namespace Go.Proofs.YtpincdcebhmnhaaGreat.Pk
open Go.ChangeShapes Go.WideShapes Go.ChangeAt Go.RowKit Go.Maps
open Go.Proofs.YtpincdcebhmnhaaGreat.Vt
set_option linter.unusedVariables false

/-- There is no task of this number. -/
def Free (S : St) (t : Int) : Prop := t < 1 ∨ 16 < t ∨ S.C t.toNat = 0

section
variable {w w' : World} {p D : Nat} {V V' V'' : Nat → Value} {S S' : St}

theorem find_free (h : PickAt w p D V S) (t : Int) (hf : Free S t) :
    Calls Tryz.prog 21 #[.pointer (some ⟨p, 0, none⟩), .int .i64 t] w fun e w' => e = .returned .nilIface ∧ w = w' := by
  by_cases h1 : t < 1 ∨ 16 < t
  · exact find_out h t h1
  · obtain ⟨k, rfl⟩ : ∃ k : Nat, t = k := ⟨t.toNat, by omega⟩
    rcases hf with hf | hf | hf
    · omega
    · omega
    · exact find_none h k (by omega) (by omega) (by simpa using hf)

theorem zero_at {P D : Nat} (w : World) (cs : Array Value) (hT : D ≠ 3) (hF : Fr.Cells 0 cs Fr.noT Fr.noG) (hQ : ∀ i, i < 8 → cs[86 + i]? = some (.slice none 0 0)) (hD : De.Cells 111 cs De.noT 0)
    (hv : ∀ t, t < 17 → cs[94 + t]? = some (.int .i64 0)) (hc : ∀ t, t < 17 → cs[214 + t]? = some (.int .i64 0)) (hn : cs[231]? = some (.int .i64 0)) (hr : cs[232]? = some (.int .i64 0)) :
    PickAt (w.alloc (.cells cs D)) w.heap.size D Pr.noV ⟨Fr.noT, Fr.noG, Pr.noQ, fun _ => 0, De.noT, 0, fun _ => 0, 0, 0⟩ := by
  have hb := heap_alloc_new w (.cells cs D)
  exact ⟨⟨cs, hb, hF⟩, ⟨⟨cs, hb, hQ⟩, hT, fun i hi => ints_nil _ _, fun i j k hi hj hij e => by cases e⟩, ⟨cs, hb, hD⟩, fun t ht => by rw [cell_at hb]; exact hv t ht, fun t ht => by rw [cell_at hb]; exact hc t ht, by rw [cell_at hb]; exact hn, by rw [cell_at hb]; exact hr⟩

/-- A scheduler with nobody. -/
def noS : St := ⟨Fr.noT, Fr.noG, Pr.noQ, fun _ => 0, De.noT, 0, fun _ => 0, 0, 0⟩

theorem now_any (h : PickAt w p D V S) : Calls Tryz.prog 19 #[.pointer (some ⟨p, 0, none⟩)] w fun e w' => e = .returned (.int .i64 S.now) ∧ w = w' := by
  have c := h.now
  clear h
  go_enter Tryz.func19, Tryz.ntmps19
  go_wp2
  go_ret
  exact ⟨rfl, rfl⟩

/-- A task is there already. -/
theorem fair_there (h : PickAt w p D V S) (t : Nat) (h1 : 1 ≤ t) (h2 : t ≤ 16) (a : Int) (hc : S.C t = 1 ∨ S.C t = 2 ∨ S.C t = 3) :
    Calls Tryz.prog 5 #[.pointer (some ⟨p, 0, none⟩), .int .i64 t, .int .i64 a] w (Did p D V S (.int .i64 5) w) := by
  have H := Lib.hid h
  rcases hc with hc | hc | hc
  · have c := Lib.hid (find_fair h t h1 h2 hc)
    clear h hc
    go_enter Tryz.func5, Tryz.ntmps5
    go_wp2_with (go_at_call 21; (with_reducible refine c.out.mono ?_); rintro e w' ⟨rfl, rfl⟩)
    go_ret
    exact Did.same H.out
  · have c := Lib.hid (find_fixed h t h1 h2 hc)
    clear h hc
    go_enter Tryz.func5, Tryz.ntmps5
    go_wp2_with (go_at_call 21; (with_reducible refine c.out.mono ?_); rintro e w' ⟨rfl, rfl⟩)
    go_ret
    exact Did.same H.out
  · have c := Lib.hid (find_dead h t h1 h2 hc)
    clear h hc
    go_enter Tryz.func5, Tryz.ntmps5
    go_wp2_with (go_at_call 21; (with_reducible refine c.out.mono ?_); rintro e w' ⟨rfl, rfl⟩)
    go_ret
    exact Did.same H.out
theorem prio_there (h : PickAt w p D V S) (t : Nat) (h1 : 1 ≤ t) (h2 : t ≤ 16) (a : Int) (hc : S.C t = 1 ∨ S.C t = 2 ∨ S.C t = 3) :
    Calls Tryz.prog 6 #[.pointer (some ⟨p, 0, none⟩), .int .i64 t, .int .i64 a] w (Did p D V S (.int .i64 5) w) := by
  have H := Lib.hid h
  rcases hc with hc | hc | hc
  · have c := Lib.hid (find_fair h t h1 h2 hc)
    clear h hc
    go_enter Tryz.func6, Tryz.ntmps6
    go_wp2_with (go_at_call 21; (with_reducible refine c.out.mono ?_); rintro e w' ⟨rfl, rfl⟩)
    go_ret
    exact Did.same H.out
  · have c := Lib.hid (find_fixed h t h1 h2 hc)
    clear h hc
    go_enter Tryz.func6, Tryz.ntmps6
    go_wp2_with (go_at_call 21; (with_reducible refine c.out.mono ?_); rintro e w' ⟨rfl, rfl⟩)
    go_ret
    exact Did.same H.out
  · have c := Lib.hid (find_dead h t h1 h2 hc)
    clear h hc
    go_enter Tryz.func6, Tryz.ntmps6
    go_wp2_with (go_at_call 21; (with_reducible refine c.out.mono ?_); rintro e w' ⟨rfl, rfl⟩)
    go_ret
    exact Did.same H.out
theorem dead_there (h : PickAt w p D V S) (t : Nat) (h1 : 1 ≤ t) (h2 : t ≤ 16) (a b : Int) (hc : S.C t = 1 ∨ S.C t = 2 ∨ S.C t = 3) :
    Calls Tryz.prog 9 #[.pointer (some ⟨p, 0, none⟩), .int .i64 t, .int .i64 a, .int .i64 b] w (Did p D V S (.int .i64 5) w) := by
  have H := Lib.hid h
  rcases hc with hc | hc | hc
  · have c := Lib.hid (find_fair h t h1 h2 hc)
    clear h hc
    go_enter Tryz.func9, Tryz.ntmps9
    go_wp2_with (go_at_call 21; (with_reducible refine c.out.mono ?_); rintro e w' ⟨rfl, rfl⟩)
    go_ret
    exact Did.same H.out
  · have c := Lib.hid (find_fixed h t h1 h2 hc)
    clear h hc
    go_enter Tryz.func9, Tryz.ntmps9
    go_wp2_with (go_at_call 21; (with_reducible refine c.out.mono ?_); rintro e w' ⟨rfl, rfl⟩)
    go_ret
    exact Did.same H.out
  · have c := Lib.hid (find_dead h t h1 h2 hc)
    clear h hc
    go_enter Tryz.func9, Tryz.ntmps9
    go_wp2_with (go_at_call 21; (with_reducible refine c.out.mono ?_); rintro e w' ⟨rfl, rfl⟩)
    go_ret
    exact Did.same H.out

theorem fair_bad (h : PickAt w p D V S) (t a : Int) (hf : Free S t) (hb : isW a = false ∨ t < 1 ∨ 16 < t) :
    Calls Tryz.prog 5 #[.pointer (some ⟨p, 0, none⟩), .int .i64 t, .int .i64 a] w (Did p D V S (.int .i64 1) w) := by
  have c := Lib.hid (find_free h t hf)
  have k := Lib.hid (Fr.add_bad h.fair t a 0 (by rcases hb with h | h | h; exact Or.inl h; exact Or.inr (Or.inl h); exact Or.inr (Or.inr (Or.inl h))))
  have q := Lib.hid (enter_no h t 1 1 (by decide))
  clear h hf hb
  go_enter Tryz.func5, Tryz.ntmps5
  go_wp2_with (first
    | (go_at_call 21; (with_reducible refine c.out.mono ?_); rintro e w' ⟨rfl, rfl⟩)
    | (go_at_call 23; (with_reducible refine k.out.mono ?_); rintro e w' ⟨rfl, rfl⟩)
    | (go_at_call 22; (with_reducible refine q.out.mono ?_); rintro e w' ⟨rfl, V1, h1, h2⟩; have H1 := Lib.hid h1; have H2 := Lib.hid h2; clear h1 h2))
  go_ret
  exact Did.mk H1.out H2.out
theorem fair_new (h : PickAt w p D V S) (t : Nat) (h1 : 1 ≤ t) (h2 : t ≤ 16) (a : Int) (hf : S.C t = 0) (ha : isW a = true) (hc : (S.T t).c = 0) :
    Calls Tryz.prog 5 #[.pointer (some ⟨p, 0, none⟩), .int .i64 t, .int .i64 a] w
      (Did p D V { S with T := Fr.addT S.T S.G t (costOf a) 0, G := Fr.addG S.T S.G t (costOf a) 0, C := upd S.C t 1 } (.int .i64 0) w) := by
  have H := Lib.hid h
  have c := Lib.hid (find_none h t h1 h2 hf)
  have k := Lib.hid (Fr.add_yes h.fair t a 0 ha h1 h2 (by omega) hc (Or.inl rfl))
  have q := Lib.hid (fun W S2 (hW : PickAt W p D V S2) => enter_yes hW t h1 h2 1)
  simp only [Int.natCast_zero] at k
  clear h hf hc ha
  go_enter Tryz.func5, Tryz.ntmps5
  go_wp2_with (first
    | (go_at_call 21; (with_reducible refine c.out.mono ?_); rintro e w' ⟨rfl, rfl⟩)
    | (go_at_call 23; (with_reducible refine k.out.mono ?_); rintro e w1 ⟨rfl, hF, hW⟩; have HA := Lib.hid (H.out.by_fair hF hW); clear hF hW)
    | (go_at_call 22; (with_reducible refine (q.out _ _ HA.out.1).mono ?_); rintro e w' ⟨rfl, V1, h1, h2⟩; have H1 := Lib.hid h1; have H2 := Lib.hid h2; clear h1 h2))
  go_ret
  exact Did.mk H1.out (HA.out.2.trans H2.out)
theorem prio_bad (h : PickAt w p D V S) (t a : Int) (hf : Free S t) (hb : ¬ ((1 ≤ t ∧ t ≤ 16) ∧ Pr.valid a = true)) :
    Calls Tryz.prog 6 #[.pointer (some ⟨p, 0, none⟩), .int .i64 t, .int .i64 a] w (Did p D V S (.int .i64 1) w) := by
  have H := Lib.hid h
  have c := Lib.hid (find_free h t hf)
  have k := Lib.hid (Pr.put_bad h.prio t a hb)
  have q := Lib.hid (fun W V2 S2 (hW : PickAt W p D V2 S2) => enter_no hW t 2 1 (by decide))
  clear h hf hb
  go_enter Tryz.func6, Tryz.ntmps6
  go_wp2_with (first
    | (go_at_call 21; (with_reducible refine c.out.mono ?_); rintro e w' ⟨rfl, rfl⟩)
    | (go_at_call 24; (with_reducible refine k.out.mono ?_); rintro e w' ⟨rfl, V1, hq, hs⟩; have HA := Lib.hid (H.out.by_prio hq hs); clear hq hs)
    | (go_at_call 22; (with_reducible refine (q.out _ _ _ HA.out.1).mono ?_); rintro e w' ⟨rfl, V1, h1, h2⟩; have H1 := Lib.hid h1; have H2 := Lib.hid h2; clear h1 h2))
  go_ret
  exact Did.mk H1.out (HA.out.2.trans H2.out)
theorem prio_new (h : PickAt w p D V S) (hu : Pr.Uniq S.Q) (t : Nat) (h1 : 1 ≤ t) (h2 : t ≤ 16) (v : Nat) (hv : v < 8) (hf : S.C t = 0) (hs : Pr.seek S.Q t = none) :
    Calls Tryz.prog 6 #[.pointer (some ⟨p, 0, none⟩), .int .i64 t, .int .i64 v] w
      (Did p D V { S with Q := upd S.Q v (S.Q v ++ [(t : Int)]), C := upd S.C t 2 } (.int .i64 0) w) := by
  have H := Lib.hid h
  have c := Lib.hid (find_none h t h1 h2 hf)
  have k := Lib.hid (Pr.put_new h.prio (fun j hj => by have := hu.len hj; omega) (t : Int) v (by omega) hv hs)
  have q := Lib.hid (fun W V2 S2 (hW : PickAt W p D V2 S2) => enter_yes hW t h1 h2 2)
  clear h hf hu hs
  go_enter Tryz.func6, Tryz.ntmps6
  go_wp2_with (first
    | (go_at_call 21; (with_reducible refine c.out.mono ?_); rintro e w' ⟨rfl, rfl⟩)
    | (go_at_call 24; (with_reducible refine k.out.mono ?_); rintro e w' ⟨rfl, V1, hq, hs⟩; have HA := Lib.hid (H.out.by_prio hq hs); clear hq hs)
    | (go_at_call 22; (with_reducible refine (q.out _ _ _ HA.out.1).mono ?_); rintro e w' ⟨rfl, V1, h1, h2⟩; have H1 := Lib.hid h1; have H2 := Lib.hid h2; clear h1 h2))
  go_ret
  exact Did.mk H1.out (HA.out.2.trans H2.out)
theorem dead_bad (h : PickAt w p D V S) (t a b : Int) (hf : Free S t) (hb : ¬ De.Good t a b) :
    Calls Tryz.prog 9 #[.pointer (some ⟨p, 0, none⟩), .int .i64 t, .int .i64 a, .int .i64 b] w (Did p D V S (.int .i64 1) w) := by
  have c := Lib.hid (find_free h t hf)
  have k := Lib.hid (De.add_bad h.dead t a b hb)
  have q := Lib.hid (enter_no h t 3 1 (by decide))
  clear h hf hb
  go_enter Tryz.func9, Tryz.ntmps9
  go_wp2_with (first
    | (go_at_call 21; (with_reducible refine c.out.mono ?_); rintro e w' ⟨rfl, rfl⟩)
    | (go_at_call 29; (with_reducible refine k.out.mono ?_); rintro e w' ⟨rfl, rfl⟩)
    | (go_at_call 22; (with_reducible refine q.out.mono ?_); rintro e w' ⟨rfl, V1, h1, h2⟩; have H1 := Lib.hid h1; have H2 := Lib.hid h2; clear h1 h2))
  go_ret
  exact Did.mk H1.out H2.out
theorem dead_new (h : PickAt w p D V S) (t : Nat) (h1 : 1 ≤ t) (h2 : t ≤ 16) (a b : Int) (hf : S.C t = 0) (hb : De.Good t a b) (hc : (S.d t).p = 0) (n0 : 0 ≤ S.n) (nB : S.n ≤ 8000000000000000000) :
    Calls Tryz.prog 9 #[.pointer (some ⟨p, 0, none⟩), .int .i64 t, .int .i64 a, .int .i64 b] w
      (Did p D V { S with d := De.upd S.d t (De.came a b S.n), C := upd S.C t 3 } (.int .i64 0) w) := by
  have H := Lib.hid h
  have c := Lib.hid (find_none h t h1 h2 hf)
  have k := Lib.hid (De.add_yes h.dead t a b hb hc n0 nB)
  have q := Lib.hid (fun W S2 (hW : PickAt W p D V S2) => enter_yes hW t h1 h2 3)
  clear h hf hb hc n0 nB
  go_enter Tryz.func9, Tryz.ntmps9
  go_wp2_with (first
    | (go_at_call 21; (with_reducible refine c.out.mono ?_); rintro e w' ⟨rfl, rfl⟩)
    | (go_at_call 29; (with_reducible refine k.out.mono ?_); rintro e w1 ⟨rfl, hF, hW⟩; have HA := Lib.hid (H.out.by_dead hF hW); clear hF hW)
    | (go_at_call 22; (with_reducible refine (q.out _ _ HA.out.1).mono ?_); rintro e w' ⟨rfl, V1, h1, h2⟩; have H1 := Lib.hid h1; have H2 := Lib.hid h2; clear h1 h2))
  go_ret
  exact Did.mk H1.out (HA.out.2.trans H2.out)

theorem block_free (h : PickAt w p D V S) (t : Int) (hf : Free S t) :
    Calls Tryz.prog 13 #[.pointer (some ⟨p, 0, none⟩), .int .i64 t] w (Did p D V S (.int .i64 4) w) := by
  have H := Lib.hid h
  have c := Lib.hid (find_free h t hf)
  clear h hf
  go_enter Tryz.func13, Tryz.ntmps13
  go_wp2_with (go_at_call 21; (with_reducible refine c.out.mono ?_); rintro e w' ⟨rfl, rfl⟩)
  go_ret
  exact Did.same H.out
theorem block_fair (h : PickAt w p D V S) (t : Nat) (h1 : 1 ≤ t) (h2 : t ≤ 16) (hc : S.C t = 1) {T' : Fr.Tks} {x : Int}
    (k : Calls Tryz.prog 121 #[.pointer (some ⟨p, 0, none⟩), .int .i64 t] w (Fr.FKeep w p 0 D (.int .i64 x) T' S.G)) :
    Calls Tryz.prog 13 #[.pointer (some ⟨p, 0, none⟩), .int .i64 t] w (Did p D V { S with T := T' } (.int .i64 x) w) := by
  have H := Lib.hid h
  have k := Lib.hid k
  have c := Lib.hid (find_fair h t h1 h2 hc)
  clear h hc
  go_enter Tryz.func13, Tryz.ntmps13
  go_wp2_with (first
    | (go_at_call 21; (with_reducible refine c.out.mono ?_); rintro e w' ⟨rfl, rfl⟩)
    | (go_at_call 121; (with_reducible refine k.out.mono ?_); rintro e w1 ⟨rfl, hF, hW⟩; have HA := Lib.hid (H.out.by_fair hF hW); clear hF hW))
  go_ret
  exact Did.mk HA.out.1 HA.out.2
theorem block_fixed (h : PickAt w p D V S) (t : Nat) (h1 : 1 ≤ t) (h2 : t ≤ 16) (hc : S.C t = 2) {S' : St} {x : Int}
    (k : Calls Tryz.prog 124 #[.pointer (some ⟨p, 86, none⟩), .int .i64 t] w (Did p D V S' (.int .i64 x) w)) :
    Calls Tryz.prog 13 #[.pointer (some ⟨p, 0, none⟩), .int .i64 t] w (Did p D V S' (.int .i64 x) w) := by
  have H := Lib.hid h
  have k := Lib.hid k
  have c := Lib.hid (find_fixed h t h1 h2 hc)
  clear h hc
  go_enter Tryz.func13, Tryz.ntmps13
  go_wp2_with (first
    | (go_at_call 21; (with_reducible refine c.out.mono ?_); rintro e w' ⟨rfl, rfl⟩)
    | (go_at_call 124; (with_reducible refine k.out.mono ?_); rintro e w1 ⟨rfl, V1, hF, hW⟩; have HF := Lib.hid hF; have HW := Lib.hid hW; clear hF hW))
  go_ret
  exact Did.mk HF.out HW.out
theorem block_dead (h : PickAt w p D V S) (t : Nat) (h1 : 1 ≤ t) (h2 : t ≤ 16) (hc : S.C t = 3) {d' : De.Tks} {x : Int}
    (k : Calls Tryz.prog 129 #[.pointer (some ⟨p, 111, none⟩), .int .i64 t] w (De.DKeep w p 111 D (.int .i64 x) d' S.n)) :
    Calls Tryz.prog 13 #[.pointer (some ⟨p, 0, none⟩), .int .i64 t] w (Did p D V { S with d := d' } (.int .i64 x) w) := by
  have H := Lib.hid h
  have k := Lib.hid k
  have c := Lib.hid (find_dead h t h1 h2 hc)
  clear h hc
  go_enter Tryz.func13, Tryz.ntmps13
  go_wp2_with (first
    | (go_at_call 21; (with_reducible refine c.out.mono ?_); rintro e w' ⟨rfl, rfl⟩)
    | (go_at_call 129; (with_reducible refine k.out.mono ?_); rintro e w1 ⟨rfl, hF, hW⟩; have HA := Lib.hid (H.out.by_dead hF hW); clear hF hW))
  go_ret
  exact Did.mk HA.out.1 HA.out.2
theorem wake_free (h : PickAt w p D V S) (t : Int) (hf : Free S t) :
    Calls Tryz.prog 14 #[.pointer (some ⟨p, 0, none⟩), .int .i64 t] w (Did p D V S (.int .i64 4) w) := by
  have H := Lib.hid h
  have c := Lib.hid (find_free h t hf)
  clear h hf
  go_enter Tryz.func14, Tryz.ntmps14
  go_wp2_with (go_at_call 21; (with_reducible refine c.out.mono ?_); rintro e w' ⟨rfl, rfl⟩)
  go_ret
  exact Did.same H.out
theorem wake_fair (h : PickAt w p D V S) (t : Nat) (h1 : 1 ≤ t) (h2 : t ≤ 16) (hc : S.C t = 1) {T' : Fr.Tks} {x : Int}
    (k : Calls Tryz.prog 123 #[.pointer (some ⟨p, 0, none⟩), .int .i64 t] w (Fr.FKeep w p 0 D (.int .i64 x) T' S.G)) :
    Calls Tryz.prog 14 #[.pointer (some ⟨p, 0, none⟩), .int .i64 t] w (Did p D V { S with T := T' } (.int .i64 x) w) := by
  have H := Lib.hid h
  have k := Lib.hid k
  have c := Lib.hid (find_fair h t h1 h2 hc)
  clear h hc
  go_enter Tryz.func14, Tryz.ntmps14
  go_wp2_with (first
    | (go_at_call 21; (with_reducible refine c.out.mono ?_); rintro e w' ⟨rfl, rfl⟩)
    | (go_at_call 123; (with_reducible refine k.out.mono ?_); rintro e w1 ⟨rfl, hF, hW⟩; have HA := Lib.hid (H.out.by_fair hF hW); clear hF hW))
  go_ret
  exact Did.mk HA.out.1 HA.out.2
theorem wake_fixed (h : PickAt w p D V S) (t : Nat) (h1 : 1 ≤ t) (h2 : t ≤ 16) (hc : S.C t = 2) {S' : St} {x : Int}
    (k : Calls Tryz.prog 126 #[.pointer (some ⟨p, 86, none⟩), .int .i64 t] w (Did p D V S' (.int .i64 x) w)) :
    Calls Tryz.prog 14 #[.pointer (some ⟨p, 0, none⟩), .int .i64 t] w (Did p D V S' (.int .i64 x) w) := by
  have H := Lib.hid h
  have k := Lib.hid k
  have c := Lib.hid (find_fixed h t h1 h2 hc)
  clear h hc
  go_enter Tryz.func14, Tryz.ntmps14
  go_wp2_with (first
    | (go_at_call 21; (with_reducible refine c.out.mono ?_); rintro e w' ⟨rfl, rfl⟩)
    | (go_at_call 126; (with_reducible refine k.out.mono ?_); rintro e w1 ⟨rfl, V1, hF, hW⟩; have HF := Lib.hid hF; have HW := Lib.hid hW; clear hF hW))
  go_ret
  exact Did.mk HF.out HW.out
theorem wake_dead (h : PickAt w p D V S) (t : Nat) (h1 : 1 ≤ t) (h2 : t ≤ 16) (hc : S.C t = 3) {d' : De.Tks} {x : Int}
    (k : Calls Tryz.prog 131 #[.pointer (some ⟨p, 111, none⟩), .int .i64 t] w (De.DKeep w p 111 D (.int .i64 x) d' S.n)) :
    Calls Tryz.prog 14 #[.pointer (some ⟨p, 0, none⟩), .int .i64 t] w (Did p D V { S with d := d' } (.int .i64 x) w) := by
  have H := Lib.hid h
  have k := Lib.hid k
  have c := Lib.hid (find_dead h t h1 h2 hc)
  clear h hc
  go_enter Tryz.func14, Tryz.ntmps14
  go_wp2_with (first
    | (go_at_call 21; (with_reducible refine c.out.mono ?_); rintro e w' ⟨rfl, rfl⟩)
    | (go_at_call 131; (with_reducible refine k.out.mono ?_); rintro e w1 ⟨rfl, hF, hW⟩; have HA := Lib.hid (H.out.by_dead hF hW); clear hF hW))
  go_ret
  exact Did.mk HA.out.1 HA.out.2

/-- Who should go. -/
def best (S : St) : Int := if De.pick S.d ≠ 0 then (De.pick S.d : Int) else match Pr.top S.Q with
  | some v => (S.Q v).getD 0 0
  | none => ((Fr.next S.T S.G).1 : Int)
theorem best_1 (h : De.pick S.d ≠ 0) : best S = De.pick S.d := by unfold best; rw [if_pos h]
theorem best_2 (h : De.pick S.d = 0) {v : Nat} (ht : Pr.top S.Q = some v) : best S = (S.Q v).getD 0 0 := by unfold best; rw [if_neg (fun q => q h), ht]
theorem best_3 (h : De.pick S.d = 0) (ht : Pr.top S.Q = none) : best S = (Fr.next S.T S.G).1 := by unfold best; rw [if_neg (fun q => q h), ht]

theorem best_any (h : PickAt w p D V S) (hu : Pr.Uniq S.Q) :
    Calls Tryz.prog 17 #[.pointer (some ⟨p, 0, none⟩)] w fun e w' => e = .returned (.int .i64 (best S)) ∧ Only (fun _ => False) w w' := by
  have H := Lib.hid h
  have k1 := Lib.hid (De.pick_any h.dead)
  by_cases h1 : De.pick S.d = 0
  · have e1 := De.pickErr_no h1
    have HZ := Lib.hid h1
    rw [e1, h1] at k1
    have k2 := Lib.hid (fun W (hW : Only (fun _ => False) w W) => Pr.first_any (h.later hW).prio (fun j hj => by have := hu.len hj; omega))
    cases ht : Pr.top S.Q with
    | some v =>
      have HE := Lib.hid (best_2 h1 ht)
      have k2 := Lib.hid (fun W (hW : Only (fun _ => False) w W) => Pr.first_is (k2.out W hW) ht)
      clear h hu h1 e1 ht
      go_enter Tryz.func17, Tryz.ntmps17
      go_wp2_with (first
        | (go_at_call 44; (with_reducible refine k1.out.mono ?_); rintro e w1 ⟨rfl, hO⟩; have HO := Lib.hid hO; clear hO)
        | (go_at_call 45; (with_reducible refine (k2.out _ HO.out).mono ?_); rintro e w2 ⟨rfl, hO⟩; have HO2 := Lib.hid (HO.out.trans hO (fun _ _ h => h)); clear hO))
      go_ret
      exact ⟨ret_int (by rw [HE.out]; simp), HO2.out⟩
    | none =>
      have HE := Lib.hid (best_3 h1 ht)
      have k2 := Lib.hid (fun W (hW : Only (fun _ => False) w W) => Pr.first_not (k2.out W hW) ht)
      have k3 := Lib.hid (fun W (hW : Only (fun _ => False) w W) => Fr.pick_any (h.later hW).fair)
      have HP := Lib.hid (show (Fr.pickAns S.T S.G).1 = ((Fr.next S.T S.G).1 : Int) from by unfold Fr.pickAns; split; rename_i q; rw [q]; rfl; rfl)
      clear h hu h1 e1 ht
      go_enter Tryz.func17, Tryz.ntmps17
      go_wp2_with (first
        | (go_at_call 44; (with_reducible refine k1.out.mono ?_); rintro e w1 ⟨rfl, hO⟩; have HO := Lib.hid hO; clear hO)
        | (go_at_call 45; (with_reducible refine (k2.out _ HO.out).mono ?_); rintro e w2 ⟨rfl, hO⟩; have HO2 := Lib.hid (HO.out.trans hO (fun _ _ h => h)); clear hO)
        | (go_at_call 46; (with_reducible refine (k3.out _ HO2.out).mono ?_); rintro e w3 ⟨rfl, hO⟩; have HO3 := Lib.hid (HO2.out.trans hO (fun _ _ h => h)); clear hO))
      go_ret
      exact ⟨ret_int (HP.out.trans HE.out.symm), HO3.out⟩
  · have e1 := De.pickErr_yes h1
    have HE := Lib.hid (best_1 h1)
    rw [e1] at k1
    clear h hu h1 e1
    go_enter Tryz.func17, Tryz.ntmps17
    go_wp2_with (go_at_call 44; (with_reducible refine k1.out.mono ?_); rintro e w1 ⟨rfl, hO⟩; have HO := Lib.hid hO; clear hO)
    go_ret
    exact ⟨ret_int HE.out.symm, HO.out⟩
theorem mark_any (h : PickAt w p D V S) (hu : Pr.Uniq S.Q) :
    Calls Tryz.prog 20 #[.pointer (some ⟨p, 0, none⟩)] w fun e w' => e = .returned (.bool (best S != S.now)) ∧ Only (fun _ => False) w w' := by
  have k1 := Lib.hid (best_any h hu)
  have k2 := Lib.hid (fun W (hW : Only (fun _ => False) w W) => now_any (h.later hW))
  clear h hu
  go_enter Tryz.func20, Tryz.ntmps20
  go_wp2_with (first
    | (go_at_call 17; (with_reducible refine k1.out.mono ?_); rintro e w1 ⟨rfl, hO⟩; have HO := Lib.hid hO; clear hO)
    | (go_at_call 19; (with_reducible refine (k2.out _ HO.out).mono ?_); rintro e w2 ⟨rfl, rfl⟩))
  go_ret
  exact ⟨rfl, HO.out⟩

/-- A task has left: its class is none, and it was not the last. -/
def gone (S : St) (t : Nat) : St := { S with now := if S.now = t then 0 else S.now, C := upd S.C t 0 }

theorem leave_free (h : PickAt w p D V S) (t : Int) (hf : Free S t) :
    Calls Tryz.prog 11 #[.pointer (some ⟨p, 0, none⟩), .int .i64 t] w (Did p D V S (.int .i64 4) w) := by
  have H := Lib.hid h
  have c := Lib.hid (find_free h t hf)
  clear h hf
  go_enter Tryz.func11, Tryz.ntmps11
  go_wp2_with (go_at_call 21; (with_reducible refine c.out.mono ?_); rintro e w' ⟨rfl, rfl⟩)
  go_ret
  exact Did.same H.out
theorem leave_fair (h : PickAt w p D V S) (t : Nat) (h1 : 1 ≤ t) (h2 : t ≤ 16) (hc : S.C t = 1) {T' : Fr.Tks} {x : Int}
    (k : ∀ W, PickAt W p D V (gone S t) → Calls Tryz.prog 122 #[.pointer (some ⟨p, 0, none⟩), .int .i64 t] W (Fr.FKeep W p 0 D (.int .i64 x) T' S.G)) :
    Calls Tryz.prog 11 #[.pointer (some ⟨p, 0, none⟩), .int .i64 t] w (Did p D V { gone S t with T := T' } (.int .i64 x) w) := by
  have H := Lib.hid h
  have k := Lib.hid k
  have c := Lib.hid (find_fair h t h1 h2 hc)
  have cn := h.now
  have cl := h.cls t (by omega)
  have fz := h.frozen
  have q3 : (t : Int) < 17 := by omega
  by_cases e : S.now = t
  · have HG0 := h.set_now 0
    have HG1 := HG0.1.set_cls t (by omega) 0
    have HG := Lib.hid (show PickAt _ p D V (gone S t) ∧ PStep p V V w _ from ⟨by unfold gone; rw [if_pos e]; exact HG1.1, HG0.2.trans HG1.2⟩)
    have k := Lib.hid (k.out _ HG.out.1)
    rw [e] at cn
    clear h hc e HG0 HG1
    go_enter Tryz.func11, Tryz.ntmps11
    go_wp2_with (first
      | (go_at_call 21; (with_reducible refine c.out.mono ?_); rintro e w' ⟨rfl, rfl⟩)
      | (go_at_call 122; (with_reducible refine k.out.mono ?_); rintro e w1 ⟨rfl, hF, hW⟩; have HA := Lib.hid (HG.out.1.by_fair hF hW); clear hF hW))
    go_ret
    exact Did.mk HA.out.1 (HG.out.2.trans HA.out.2)
  · have HG1 := h.set_cls t (by omega) 0
    have HG := Lib.hid (show PickAt _ p D V (gone S t) ∧ PStep p V V w _ from ⟨by unfold gone; rw [if_neg e]; exact HG1.1, HG1.2⟩)
    have k := Lib.hid (k.out _ HG.out.1)
    have qn : (S.now == (t : Int)) = false := beq_eq_false_iff_ne.2 e
    clear h hc HG1
    go_enter Tryz.func11, Tryz.ntmps11
    go_wp2_with (first
      | (go_at_call 21; (with_reducible refine c.out.mono ?_); rintro e w' ⟨rfl, rfl⟩)
      | (go_at_call 122; (with_reducible refine k.out.mono ?_); rintro e w1 ⟨rfl, hF, hW⟩; have HA := Lib.hid (HG.out.1.by_fair hF hW); clear hF hW))
    go_ret
    exact Did.mk HA.out.1 (HG.out.2.trans HA.out.2)
theorem leave_fixed (h : PickAt w p D V S) (t : Nat) (h1 : 1 ≤ t) (h2 : t ≤ 16) (hc : S.C t = 2) {Q' : Pr.Qs} {x : Int}
    (k : ∀ W, PickAt W p D V (gone S t) → Calls Tryz.prog 125 #[.pointer (some ⟨p, 86, none⟩), .int .i64 t] W (Did p D V { gone S t with Q := Q' } (.int .i64 x) W)) :
    Calls Tryz.prog 11 #[.pointer (some ⟨p, 0, none⟩), .int .i64 t] w (Did p D V { gone S t with Q := Q' } (.int .i64 x) w) := by
  have H := Lib.hid h
  have k := Lib.hid k
  have c := Lib.hid (find_fixed h t h1 h2 hc)
  have cn := h.now
  have cl := h.cls t (by omega)
  have fz := h.frozen
  have q3 : (t : Int) < 17 := by omega
  by_cases e : S.now = t
  · have HG0 := h.set_now 0
    have HG1 := HG0.1.set_cls t (by omega) 0
    have HG := Lib.hid (show PickAt _ p D V (gone S t) ∧ PStep p V V w _ from ⟨by unfold gone; rw [if_pos e]; exact HG1.1, HG0.2.trans HG1.2⟩)
    have k := Lib.hid (k.out _ HG.out.1)
    rw [e] at cn
    clear h hc e HG0 HG1
    go_enter Tryz.func11, Tryz.ntmps11
    go_wp2_with (first
      | (go_at_call 21; (with_reducible refine c.out.mono ?_); rintro e w' ⟨rfl, rfl⟩)
      | (go_at_call 125; (with_reducible refine k.out.mono ?_); rintro e w1 ⟨rfl, V1, hF, hW⟩; have HF := Lib.hid hF; have HW := Lib.hid hW; clear hF hW))
    go_ret
    exact Did.mk HF.out (HG.out.2.trans HW.out)
  · have HG1 := h.set_cls t (by omega) 0
    have HG := Lib.hid (show PickAt _ p D V (gone S t) ∧ PStep p V V w _ from ⟨by unfold gone; rw [if_neg e]; exact HG1.1, HG1.2⟩)
    have k := Lib.hid (k.out _ HG.out.1)
    have qn : (S.now == (t : Int)) = false := beq_eq_false_iff_ne.2 e
    clear h hc HG1
    go_enter Tryz.func11, Tryz.ntmps11
    go_wp2_with (first
      | (go_at_call 21; (with_reducible refine c.out.mono ?_); rintro e w' ⟨rfl, rfl⟩)
      | (go_at_call 125; (with_reducible refine k.out.mono ?_); rintro e w1 ⟨rfl, V1, hF, hW⟩; have HF := Lib.hid hF; have HW := Lib.hid hW; clear hF hW))
    go_ret
    exact Did.mk HF.out (HG.out.2.trans HW.out)
theorem leave_dead (h : PickAt w p D V S) (t : Nat) (h1 : 1 ≤ t) (h2 : t ≤ 16) (hc : S.C t = 3) {d' : De.Tks} {x : Int}
    (k : ∀ W, PickAt W p D V (gone S t) → Calls Tryz.prog 130 #[.pointer (some ⟨p, 111, none⟩), .int .i64 t] W (De.DKeep W p 111 D (.int .i64 x) d' S.n)) :
    Calls Tryz.prog 11 #[.pointer (some ⟨p, 0, none⟩), .int .i64 t] w (Did p D V { gone S t with d := d' } (.int .i64 x) w) := by
  have H := Lib.hid h
  have k := Lib.hid k
  have c := Lib.hid (find_dead h t h1 h2 hc)
  have cn := h.now
  have cl := h.cls t (by omega)
  have fz := h.frozen
  have q3 : (t : Int) < 17 := by omega
  by_cases e : S.now = t
  · have HG0 := h.set_now 0
    have HG1 := HG0.1.set_cls t (by omega) 0
    have HG := Lib.hid (show PickAt _ p D V (gone S t) ∧ PStep p V V w _ from ⟨by unfold gone; rw [if_pos e]; exact HG1.1, HG0.2.trans HG1.2⟩)
    have k := Lib.hid (k.out _ HG.out.1)
    rw [e] at cn
    clear h hc e HG0 HG1
    go_enter Tryz.func11, Tryz.ntmps11
    go_wp2_with (first
      | (go_at_call 21; (with_reducible refine c.out.mono ?_); rintro e w' ⟨rfl, rfl⟩)
      | (go_at_call 130; (with_reducible refine k.out.mono ?_); rintro e w1 ⟨rfl, hF, hW⟩; have HA := Lib.hid (HG.out.1.by_dead hF hW); clear hF hW))
    go_ret
    exact Did.mk HA.out.1 (HG.out.2.trans HA.out.2)
  · have HG1 := h.set_cls t (by omega) 0
    have HG := Lib.hid (show PickAt _ p D V (gone S t) ∧ PStep p V V w _ from ⟨by unfold gone; rw [if_neg e]; exact HG1.1, HG1.2⟩)
    have k := Lib.hid (k.out _ HG.out.1)
    have qn : (S.now == (t : Int)) = false := beq_eq_false_iff_ne.2 e
    clear h hc HG1
    go_enter Tryz.func11, Tryz.ntmps11
    go_wp2_with (first
      | (go_at_call 21; (with_reducible refine c.out.mono ?_); rintro e w' ⟨rfl, rfl⟩)
      | (go_at_call 130; (with_reducible refine k.out.mono ?_); rintro e w1 ⟨rfl, hF, hW⟩; have HA := Lib.hid (HG.out.1.by_dead hF hW); clear hF hW))
    go_ret
    exact Did.mk HA.out.1 (HG.out.2.trans HA.out.2)
end
end Go.Proofs.YtpincdcebhmnhaaGreat.Pk
