/- The law WaitWakes: what an event wakes, and what it leaves. -/
import Derived.Test.YtddfdnhlghmapaaWtLaw
import Derived.Test.YtddfdnhlghmapaaMin2
import Derived.Test.YtddfdnhlghmapaaConcat
import Derived.Test.YtddfdnhlghmapaaSortI
import Derived.Deep.CutBlock
namespace Go.Proofs.Ytddfdnhlghmapaa.Wt
open Go.ChangeShapes Go.WideShapes Go.ChangeAt Go.RowKit Go.Maps
set_option linter.unusedVariables false

/-- Who waits alone. -/
def lone (S : Line) : Line := S.filter (·.2)
theorem lone_open (S : Line) {x : Int × Bool} (h : x.2 = false) : lone (S ++ [x]) = lone S := by unfold lone; rw [List.filter_append]; simp [h]
theorem lone_alone (S : Line) {x : Int × Bool} (h : x.2 = true) : lone (S ++ [x]) = lone S ++ [x] := by unfold lone; rw [List.filter_append]; simp [h]
theorem lone_le (S : Line) : (lone S).length ≤ S.length := List.length_filter_le _ _

theorem wk_facts (S : Line) (N : Nat) (k : Nat) (hk : k ≤ S.length) : ∃ W R m, wk S N k = (W, R, m) ∧ m = ((N - (lone (S.take k)).length : Nat) : Int) ∧ R = (lone (S.take k)).drop N ∧
    W.length = k - (lone (S.take k)).length + min N (lone (S.take k)).length ∧ (W ++ ids R).Perm (ids (S.take k)) := by
  induction k with
  | zero => exact ⟨[], [], N, rfl, by simp [lone], by simp [lone], by simp [lone], by simp [ids]⟩
  | succ k ih =>
    obtain ⟨W, R, m, h, hm, hR, hW, hP⟩ := ih (by omega)
    obtain ⟨x, hx⟩ : ∃ x, S.getD k (0, false) = x := ⟨_, rfl⟩
    have ht : S.take (k + 1) = S.take k ++ [x] := by
      rw [List.take_succ_eq_append_getElem (by omega)]
      simp [← hx, List.getD, show k < S.length by omega]
    have hle := lone_le (S.take k)
    rw [List.length_take] at hle
    rw [ht, ids_snoc]
    cases ho : x.2 with
    | false =>
      rw [lone_open _ ho]
      refine ⟨_, _, _, wk_open h hx ho, hm, hR, by rw [List.length_append, hW]; simp; omega, ?_⟩
      rw [List.append_assoc]
      refine List.Perm.trans ?_ (hP.append_right [x.1])
      rw [List.append_assoc]
      exact List.Perm.append_left W List.perm_append_comm
    | true =>
      rw [lone_alone _ ho]
      generalize lone (S.take k) = A at *
      by_cases hm0 : 0 < m
      · have hA : A.length < N := by omega
        have hR0 : R = [] := by rw [hR]; exact List.drop_of_length_le (by omega)
        refine ⟨_, _, _, wk_goes h hx ho hm0, by simp; omega, by rw [hR0, List.drop_of_length_le (by simp; omega)], by rw [List.length_append, hW]; simp; omega, ?_⟩
        rw [hR0] at hP ⊢
        simp only [ids, List.map_nil, List.append_nil] at hP ⊢
        exact hP.append_right [x.1]
      · have hA : N ≤ A.length := by omega
        refine ⟨_, _, _, wk_stays h hx ho hm0, by simp; omega, by rw [hR, List.drop_append_of_le_length hA], by rw [hW]; simp; omega, ?_⟩
        rw [ids_snoc, ← List.append_assoc]
        exact hP.append_right [x.1]

theorem wake_facts (S : Line) (N : Nat) : (woken S N).length = S.length - (lone S).length + min N (lone S).length ∧ ids (stay S N) = (ids (lone S)).drop (min N (lone S).length) ∧ (woken S N ++ ids (stay S N)).Perm (ids S) := by
  obtain ⟨W, R, m, h, -, hR, hW, hP⟩ := wk_facts S N S.length (Nat.le_refl _)
  rw [List.take_length] at hR hW hP
  unfold woken stay
  rw [h]
  refine ⟨hW, ?_, hP⟩
  show ids R = _
  rw [hR]
  unfold ids
  rw [List.map_drop]
  by_cases e : N ≤ (lone S).length
  · rw [Nat.min_eq_left e]
  · rw [Nat.min_eq_right (by omega), List.drop_of_length_le (by simp; omega), List.drop_of_length_le (by simp)]

/-- What is known in the loop: all who came, and who of them waits alone, in rows apart. -/
structure Came (w wr : World) (p : Nat) (V : Value) (S : Line) (va vl : Value) : Prop where
  mine : Mine w wr p V S noG
  all : Ints wr w.heap.size va (ids S)
  alone : Ints wr w.heap.size vl (ids (lone S))
  apart : ∀ g, va.ownBlock = some g → vl.ownBlock ≠ some g

section
variable {w wr w2 : World} {p : Nat} {V V' : Value} {S S' : Line} {G G' : Looks} {va vl : Value} {xs : List Int} {base : Nat}
/-- A row of numbers is none of a queue's blocks. -/
theorem not_foot (h : QAt wr p V S G) (hi : Ints wr base va xs) {g : Nat} (hg : va.ownBlock = some g) : ¬ Foot p V g := by
  obtain ⟨cur, q⟩ := owns_type hi hg
  rintro (e | e)
  · obtain ⟨cs, h1, -⟩ := h.block
    rw [e, h1] at q; cases q
  · obtain ⟨cur2, q2⟩ := h.row.type e
    rw [q2] at q; cases q
theorem ints_beside (h : QAt wr p V S G) (hi : Ints wr base va xs) (hs : Step p V V' wr w2) : Ints w2 base va xs := hi.keep hs.only (fun g hg => not_foot h hi hg)

theorem Came.later (h : Came w wr p V S va vl) (hO : Only (fun _ => False) wr w2) : Came w w2 p V S va vl := ⟨h.mine.quiet hO, h.all.later hO, h.alone.later hO, h.apart⟩
theorem Came.moved (h : Came w wr p V S va vl) (hs : Step p V V' wr w2) (hq : QAt w2 p V' S noG) : Came w w2 p V' S va vl :=
  ⟨h.mine.step hq hs h.mine.fine, ints_beside h.mine.at_ h.all hs, ints_beside h.mine.at_ h.alone hs, h.apart⟩
/-- A queue with one more, and the rows as they were. -/
structure Ere (w wr : World) (p : Nat) (V : Value) (S : Line) (x : Int × Bool) (va vl : Value) : Prop where
  mine : Mine w wr p V (S ++ [x]) noG
  all : Ints wr w.heap.size va (ids S)
  alone : Ints wr w.heap.size vl (ids (lone S))
  apart : ∀ g, va.ownBlock = some g → vl.ownBlock ≠ some g
theorem Came.ere (h : Came w wr p V S va vl) {x : Int × Bool} (hs : Step p V V' wr w2) (hq : QAt w2 p V' (S ++ [x]) noG) (hf : Fine (S ++ [x])) : Ere w w2 p V' S x va vl :=
  ⟨h.mine.step hq hs hf, ints_beside h.mine.at_ h.all hs, ints_beside h.mine.at_ h.alone hs, h.apart⟩
theorem Ere.later {x : Int × Bool} (h : Ere w wr p V S x va vl) (hO : Only (fun _ => False) wr w2) : Ere w w2 p V S x va vl := ⟨h.mine.quiet hO, h.all.later hO, h.alone.later hO, h.apart⟩
/-- One more, who waits with the others. -/
theorem Ere.open_ {t : Int} (h : Ere w wr p V S (t, false) va vl) {w4 : World} {v' : Value}
    (hr : Ints w4 w.heap.size v' (ids S ++ [t])) (hO2 : Only (fun k => va.ownBlock = some k) wr w4) (hb : ∀ k, v'.ownBlock = some k → va.ownBlock = some k ∨ wr.heap.size ≤ k) : Came w w4 p V (S ++ [(t, false)]) v' vl := by
  refine ⟨h.mine.beside hO2 (fun k hk e => not_foot h.mine.at_ h.all e hk) (fun k e => (h.all.block e).1), by rw [ids_snoc]; exact hr, ?_, fun g hg e => ?_⟩
  · rw [lone_open S rfl]
    exact h.alone.keep hO2 (fun g hg e => h.apart g e hg)
  · rcases hb g hg with e2 | e2
    · exact h.apart g e2 e
    · have := (h.alone.block e).2
      omega
/-- One more, who waits alone: in the first row. -/
structure Half (w wr : World) (p : Nat) (V : Value) (S : Line) (t : Int) (va vl : Value) : Prop where
  mine : Mine w wr p V (S ++ [(t, true)]) noG
  all : Ints wr w.heap.size va (ids S ++ [t])
  alone : Ints wr w.heap.size vl (ids (lone S))
  apart : ∀ g, va.ownBlock = some g → vl.ownBlock ≠ some g
theorem Ere.half {t : Int} (h : Ere w wr p V S (t, true) va vl) {w4 : World} {v' : Value}
    (hr : Ints w4 w.heap.size v' (ids S ++ [t])) (hO2 : Only (fun k => va.ownBlock = some k) wr w4) (hb : ∀ k, v'.ownBlock = some k → va.ownBlock = some k ∨ wr.heap.size ≤ k) : Half w w4 p V S t v' vl := by
  refine ⟨h.mine.beside hO2 (fun k hk e => not_foot h.mine.at_ h.all e hk) (fun k e => (h.all.block e).1), hr, h.alone.keep hO2 (fun g hg e => h.apart g e hg), fun g hg e => ?_⟩
  rcases hb g hg with e2 | e2
  · exact h.apart g e2 e
  · have := (h.alone.block e).2
    omega
theorem Half.later {t : Int} (h : Half w wr p V S t va vl) (hO : Only (fun _ => False) wr w2) : Half w w2 p V S t va vl := ⟨h.mine.quiet hO, h.all.later hO, h.alone.later hO, h.apart⟩
theorem Half.done {t : Int} (h : Half w wr p V S t va vl) {w4 : World} {v' : Value}
    (hr : Ints w4 w.heap.size v' (ids (lone S) ++ [t])) (hO2 : Only (fun k => vl.ownBlock = some k) wr w4) (hb : ∀ k, v'.ownBlock = some k → vl.ownBlock = some k ∨ wr.heap.size ≤ k) : Came w w4 p V (S ++ [(t, true)]) va v' := by
  refine ⟨h.mine.beside hO2 (fun k hk e => not_foot h.mine.at_ h.alone e hk) (fun k e => (h.alone.block e).1), by rw [ids_snoc]; exact h.all.keep hO2 (fun g hg e => h.apart g hg e), by rw [lone_alone S rfl, ids_snoc]; exact hr, fun g hg e => ?_⟩
  rcases hb g e with e2 | e2
  · exact h.apart g hg e2
  · have := (h.all.block hg).2
    omega
end

theorem ints_cap {w : World} {base n c : Nat} {a : Option Addr} {xs : List Int} (h : Ints w base (.slice a n c) xs) (hn : xs.length = n) : n ≤ c := by
  rcases h.2 with ⟨e, h0⟩ | ⟨g', cap, cur, e, hb, hg, r1, r2, r3, r4⟩
  · cases e; omega
  · cases e; omega
theorem drop_near {w : World} {base g A c : Nat} {xs : List Int} (h : Ints w base (.slice (some ⟨g, 0, none⟩) A c) xs) (hA : xs.length = A) {q F : Nat} (hF : A - q = F) (hq : q ≤ A) (c' : Nat) : Nums w (.slice (some ⟨g, q, none⟩) F c') (xs.drop q) := by
  have hl : (xs.drop q).length = F := by rw [List.length_drop]; omega
  refine ⟨_, c', by rw [hl], fun j hj => ⟨g, q, rfl, ?_⟩⟩
  rw [hl] at hj
  rw [ints_cell h (by omega)]
  simp [List.getD, List.getElem?_drop]
theorem drop_far {w : World} {A : Nat} {xs : List Int} (a : Option Addr) (hA : xs.length = A) {q F : Nat} (hF : A - q = F) (hq : A ≤ q) (c' : Nat) : Nums w (.slice a F c') (xs.drop q) := by
  have hl : (xs.drop q).length = F := by rw [List.length_drop]; omega
  refine ⟨a, c', by rw [hl], fun j hj => ?_⟩
  rw [hl] at hj; omega

/-- Behind the event: all, alone, woken. -/
structure After (w wr : World) (p : Nat) (V : Value) (S T : Line) (G : Looks) (O : List Int) (va vl vo : Value) : Prop where
  mine : Mine w wr p V T G
  all : Ints wr w.heap.size va (ids S)
  alone : Ints wr w.heap.size vl (ids (lone S))
  out : Ints wr w.heap.size vo O
  apart : ∀ g, vo.ownBlock = some g → va.ownBlock ≠ some g
section
variable {w wr w2 : World} {p : Nat} {V V' : Value} {S T : Line} {G : Looks} {O : List Int} {va vl vo v4 : Value}
theorem Came.woke (h : Came w wr p V S va vl) (hi : Ints w2 wr.heap.size vo O) (hq : QAt w2 p V' T G) (hs : Step p V V' wr w2) (hf : Fine T) : After w w2 p V' S T G O va vl vo :=
  ⟨h.mine.step hq hs hf, ints_beside h.mine.at_ h.all hs, ints_beside h.mine.at_ h.alone hs, hi.base h.mine.only.size, fun g hg e => by
    have := (hi.block hg).1
    have := (h.all.block e).2
    omega⟩
/-- And who is left. -/
structure Lists (w wr : World) (S T : Line) (O : List Int) (va vl vo v4 : Value) : Prop where
  only : Only (fun _ => False) w wr
  all : Ints wr w.heap.size va (ids S)
  alone : Ints wr w.heap.size vl (ids (lone S))
  out : Ints wr w.heap.size vo O
  left : Ints wr w.heap.size v4 (ids T)
theorem After.listed (h : After w wr p V S T G O va vl vo) (hi : Ints w2 wr.heap.size v4 (ids T)) (hO : Only (fun _ => False) wr w2) : Lists w w2 S T O va vl vo v4 :=
  ⟨only_trans h.mine.only hO, h.all.later hO, h.alone.later hO, h.out.later hO, hi.base h.mine.only.size⟩
theorem Lists.later (h : Lists w wr S T O va vl vo v4) (hO : Only (fun _ => False) wr w2) : Lists w w2 S T O va vl vo v4 :=
  ⟨only_trans h.only hO, h.all.later hO, h.alone.later hO, h.out.later hO, h.left.later hO⟩
end

theorem Lists.rows {w wr : World} {S T : Line} {O : List Int} {va vl vo v4 : Value} (h : Lists w wr S T O va vl vo v4) : Rows (wr.alloc (.cells #[vo, v4] 28)) wr.heap.size [vo, v4] [O, ids T] := by
  have hO9 : Only (fun _ => False) wr (wr.alloc (.cells #[vo, v4] 28)) := (Only.refl _ _).alloc _
  have hb9 := heap_alloc_new wr (.cells #[vo, v4] 28)
  refine ⟨rfl, fun j hj => ?_, fun j hj => ?_, fun j l c hj e => ?_⟩
  · rw [cell_at hb9]
    rcases (show j = 0 ∨ j = 1 by simp at hj; omega) with rfl | rfl <;> rfl
  · rcases (show j = 0 ∨ j = 1 by simp at hj; omega) with rfl | rfl
    · exact (h.out.later hO9).nums
    · exact (h.left.later hO9).nums
  · rcases (show j = 0 ∨ j = 1 by simp at hj; omega) with rfl | rfl
    · exact h.out.nil_cap l c e
    · exact h.left.nil_cap l c e
/-- Two rows apart. -/
structure Pair2 (w wr : World) (va vb : Value) (xs ys : List Int) : Prop where
  only : Only (fun _ => False) w wr
  one : Ints wr w.heap.size va xs
  two : Ints wr w.heap.size vb ys
  apart : ∀ g, va.ownBlock = some g → vb.ownBlock ≠ some g
theorem Lists.pair {w wr w5 w6 : World} {S T : Line} {O : List Int} {va vl vo v4 v5 : Value} {ys : List Int} (h : Lists w wr S T O va vl vo v4) (hO5 : Only (fun _ => False) wr w5) (hi : Ints w6 w5.heap.size v5 ys) (hO : Only (fun _ => False) w5 w6) : Pair2 w w6 va v5 (ids S) ys :=
  ⟨only_trans (only_trans h.only hO5) hO, (h.all.later hO5).later hO, hi.base (only_trans h.only hO5).size, fun g hg e => by
    have := (hi.block e).1
    have := ((h.all.later hO5).block hg).2
    omega⟩
theorem Pair2.set2 {w wr w2 : World} {va vb : Value} {xs ys zs : List Int} (h : Pair2 w wr va vb xs ys) (hi : Ints w2 w.heap.size vb zs) (hO : Only (fun k => vb.ownBlock = some k) wr w2) : Pair2 w w2 va vb xs zs :=
  ⟨h.only.trans hO (fun k hk e => by have := (h.two.block e).1; omega), h.one.keep hO (fun g hg e => h.apart g hg e), hi, h.apart⟩
theorem Pair2.set1 {w wr w2 : World} {va vb : Value} {xs ys zs : List Int} (h : Pair2 w wr va vb xs ys) (hi : Ints w2 w.heap.size va zs) (hO : Only (fun k => va.ownBlock = some k) wr w2) : Pair2 w w2 va vb zs ys :=
  ⟨h.only.trans hO (fun k hk e => by have := (h.one.block e).1; omega), hi, h.two.keep hO (fun g hg e => h.apart g e hg), h.apart⟩

set_option maxRecDepth 100000 in
set_option maxHeartbeats 4000000 in
theorem wakes_walk (a : Option Addr) (len cap : Nat) (zs : List Int) (a1 : Int) (w : World) (h : IsRow .i64 w a len cap zs) :
    Calls Try.prog 5 #[.slice a len cap, .int .i64 a1] w fun e w' => e = .returned (.bool true) ∧ Below w.heap.size w w' := by
  obtain ⟨ys, hy1, hy2, hy3, hy4⟩ := nums_cut h 40
  obtain ⟨m, hm⟩ : ∃ m, min len 40 = m := ⟨_, rfl⟩
  rw [hm] at hy1
  rw [hy1] at hy2
  have hm1 : m ≤ 40 := by omega
  have hm2 : m ≤ len := by omega
  have q2 := run_min2 (len : Int) 40 m (by omega)
  have HY := Lib.hid hy2
  have HYL := Lib.hid hy1
  clear h hy1 hy2 hm
  have K0 := Lib.hid (begun_any w)
  have R1 := Lib.hid (fun w => rest_any a1 20 (by omega) (by omega) w)
  have b1 := restOf_lo a1 20 (by omega)
  have b2 := restOf_hi a1 20 (by omega)
  obtain ⟨N, hN⟩ : ∃ N : Nat, restOf a1 20 = N := ⟨(restOf a1 20).toNat, by omega⟩
  rw [hN] at R1 b1 b2
  have RK := Lib.hid (fun x w => rest_any x 16 (by omega) (by omega) w)
  have RB := Lib.hid (fun x w => rest_any x 2 (by omega) (by omega) w)
  have NW := Lib.hid (fun W hO => new_mine (w0 := w) (w := W) hO)
  clear hN
  go_enter Try.func5, Try.ntmps5
  go_wp2_with (first
    | (go_at_call 23; (with_reducible refine K0.out.mono ?_); rintro e w1 ⟨rfl, hO⟩; have O1 := Lib.hid hO; clear hO)
    | (go_at_call 11; (with_reducible refine (NW.out _ O1.out).mono ?_); rintro e w2 ⟨p, rfl, -, hM⟩; have H0 := Lib.hid hM; clear hM))
  clear K0 O1 NW
  go_loopw [6, 7, 9, 10, 11, 25] (fun va vl _ _ _ i wr => ∃ (k : Nat) (V : Value) (S : Line), k ≤ m ∧ i = .int .i64 k ∧ Came w wr p V S va vl) (fun _ _ _ _ _ i _ => m - (intOf i).toNat)
  case atStart => exact ⟨0, _, _, by omega, rfl, H0.out, ints_nil _ _, ints_nil _ _, fun g e => by cases e⟩
  case round =>
    clear H0
    obtain ⟨k, V, S, hk, rfl, hM⟩ := hrel
    have HM := Lib.hid hM
    clear hM
    by_cases hlt : k < m
    · have g1 : (k : Int) < m := by omega
      have g2 : (0 : Int) ≤ k := by omega
      obtain ⟨ya, yc, hye, hyc⟩ := HY.out
      rw [Value.slice.injEq] at hye
      obtain ⟨rfl, -, rfl⟩ := hye
      obtain ⟨b, off, rfl, hc⟩ := hyc k (by rw [HYL.out]; exact hlt)
      have hcx := (HM.out.mine.below.cell (p := ⟨b, off + k, none⟩) (block_lt hc)).trans hc
      generalize ys.getD k 0 = x at *
      clear hc hyc
      obtain ⟨z, hz⟩ : ∃ z, x.tdiv 2 = z := ⟨_, rfl⟩
      have RX := Lib.hid (RK.out (wrap64 z))
      have RP := Lib.hid (RB.out x)
      have x1 := restOf_lo (wrap64 z) 16 (by omega)
      have x2 := restOf_hi (wrap64 z) 16 (by omega)
      have y1 := restOf_lo x 2 (by omega)
      have y2 := restOf_hi x 2 (by omega)
      generalize restOf (wrap64 z) 16 = rx at *
      generalize restOf x 2 = rb at *
      obtain ⟨u, hu⟩ : ∃ u : Nat, (u : Int) = 1 + rx := ⟨(1 + rx).toNat, by omega⟩
      have eu : 1 + rx = (u : Int) := hu.symm
      have u1 : 1 ≤ u := by omega
      have u2 : u ≤ 16 := by omega
      clear hu x1 x2
      have BU : isT (u : Int) = true := decide_eq_true (by omega)
      by_cases hmem : (u : Int) ∈ ids S
      · have KA := Lib.hid (fun al => add_there HM.out.mine.at_ u al BU hmem)
        have KC := Lib.hid (fun (W : World) V (h : Came w W p V S u6 u7) => has_yes u6 (ids S) u W h.all.nums (by have := h.mine.fine.len; rw [ids_len]; omega) hmem)
        clear hmem
        go_wp2_with (first
          | (go_at_call_of 24 (Value.int .i64 x); (with_reducible refine (RP.out _).mono ?_); rintro e w' ⟨rfl, rfl⟩)
          | (go_at_call 24; (with_reducible refine (RX.out _).mono ?_); rintro e w' ⟨rfl, rfl⟩)
          | (go_at_call 12; (with_reducible refine (KA.out _).mono ?_); rintro e w3 ⟨rfl, V3, hq, hs⟩; have HM2 := Lib.hid (HM.out.moved hs hq); clear hq hs)
          | (go_at_call 16; (with_reducible refine (KC.out _ _ HM2.out).mono ?_); rintro e w4 ⟨rfl, hO⟩; have HM3 := Lib.hid (HM2.out.later hO); clear hO))
        go_roundw
        case rel => exact ⟨k + 1, _, _, by omega, by go_num, HM3.out⟩
        case measure => simp [intOf]; omega
      · have HF := Lib.hid (fun al => HM.out.mine.fine.snoc (t := (u : Int)) (by omega) hmem al)
        have KA := Lib.hid (fun al => add_new HM.out.mine.at_ HM.out.mine.fine.len u al BU hmem)
        have KC := Lib.hid (fun (W : World) V al (h : Ere w W p V S ((u : Int), al) u6 u7) => has_no u6 (ids S) u W h.all.nums (by have := HM.out.mine.fine.len; rw [ids_len]; omega) hmem)
        have HL := Lib.hid (show (ids S).length + 1 ≤ 17000000000000 by have := HM.out.mine.fine.len; rw [ids_len]; omega)
        have HL2 := Lib.hid (show (ids (lone S)).length + 1 ≤ 17000000000000 by have := HM.out.mine.fine.len; have := lone_le S; rw [ids_len]; omega)
        clear hmem
        rcases (show rb = 0 ∨ rb = 1 by omega) with rfl | rfl
        · go_wp2_with (first
            | (go_at_call_of 24 (Value.int .i64 x); (with_reducible refine (RP.out _).mono ?_); rintro e w' ⟨rfl, rfl⟩)
            | (go_at_call 24; (with_reducible refine (RX.out _).mono ?_); rintro e w' ⟨rfl, rfl⟩)
            | (go_at_call 12; (with_reducible refine (KA.out _).mono ?_); rintro e w3 ⟨rfl, V3, hq, hs⟩; have HM2 := Lib.hid (HM.out.ere hs hq (HF.out _)); clear hq hs)
            | (go_at_call 16; (with_reducible refine (KC.out _ _ _ HM2.out).mono ?_); rintro e w4 ⟨rfl, hO⟩; have HM3 := Lib.hid ((HM2.out.later hO).later ((Only.refl (fun _ => False) w4).alloc (.cells #[.int .i64 u] 3))); clear hO)
            | (at_builtin; have hm4 := HM4; clear hm4; go_must (refine append_one rfl _ _ rfl w.heap.size w7.heap.size 1 _ (ids (lone S)) u rfl rfl HM4.out.alone (heap_alloc_new _ _) HL2.out HM4.out.mine.only.size ?_); go_must (intro v8 w8 hr8 hO8 hb8); have HM5 := Lib.hid (HM4.out.done hr8 hO8 hb8); clear hr8 hO8 hb8)
            | (at_builtin; go_must (refine append_one rfl _ _ rfl w.heap.size w4.heap.size 1 _ (ids S) u rfl rfl HM3.out.all (heap_alloc_new _ _) HL.out HM3.out.mine.only.size ?_); go_must (intro v7 w7 hr7 hO7 hb7); have HM4 := Lib.hid ((HM3.out.half hr7 hO7 hb7).later ((Only.refl (fun _ => False) w7).alloc (.cells #[.int .i64 u] 3))); clear hr7 hO7 hb7))
          go_roundw
          case rel => exact ⟨k + 1, _, _, by omega, by go_num, HM5.out⟩
          case measure => simp [intOf]; omega
        · go_wp2_with (first
            | (go_at_call_of 24 (Value.int .i64 x); (with_reducible refine (RP.out _).mono ?_); rintro e w' ⟨rfl, rfl⟩)
            | (go_at_call 24; (with_reducible refine (RX.out _).mono ?_); rintro e w' ⟨rfl, rfl⟩)
            | (go_at_call 12; (with_reducible refine (KA.out _).mono ?_); rintro e w3 ⟨rfl, V3, hq, hs⟩; have HM2 := Lib.hid (HM.out.ere hs hq (HF.out _)); clear hq hs)
            | (go_at_call 16; (with_reducible refine (KC.out _ _ _ HM2.out).mono ?_); rintro e w4 ⟨rfl, hO⟩; have HM3 := Lib.hid ((HM2.out.later hO).later ((Only.refl (fun _ => False) w4).alloc (.cells #[.int .i64 u] 3))); clear hO)
            | (at_builtin; go_must (refine append_one rfl _ _ rfl w.heap.size w4.heap.size 1 _ (ids S) u rfl rfl HM3.out.all (heap_alloc_new _ _) HL.out HM3.out.mine.only.size ?_); go_must (intro v7 w7 hr7 hO7 hb7); have HM4 := Lib.hid (HM3.out.open_ hr7 hO7 hb7); clear hr7 hO7 hb7))
          go_roundw
          case rel => exact ⟨k + 1, _, _, by omega, by go_num, HM4.out⟩
          case measure => simp [intOf]; omega
    · obtain rfl : k = m := by omega
      have KW := Lib.hid (wake_any HM.out.mine.at_ HM.out.mine.fine.len (N : Int) b1 (by omega))
      obtain ⟨f1, f2, f3⟩ := wake_facts S N
      have F2 := Lib.hid f2
      have F3 := Lib.hid f3
      have hS16 := HM.out.mine.fine.len
      have hA16 := lone_le S
      obtain ⟨L, hL⟩ : ∃ L, S.length = L := ⟨_, rfl⟩
      obtain ⟨A, hA⟩ : ∃ A, (lone S).length = A := ⟨_, rfl⟩
      rw [hL, hA] at f1 hA16
      rw [hA] at f2
      rw [hL] at hS16
      have HLa := Lib.hid ((ids_len S).trans hL)
      have HLl := Lib.hid ((ids_len (lone S)).trans hA)
      obtain ⟨q, hq⟩ : ∃ q, min N A = q := ⟨_, rfl⟩
      rw [hq] at f1 f2
      obtain ⟨O, hO⟩ : ∃ O : Nat, L - A + q = O := ⟨_, rfl⟩
      obtain ⟨F, hF⟩ : ∃ F : Nat, A - q = F := ⟨_, rfl⟩
      rw [hO] at f1
      have HL2 := Lib.hid (show (ids (stay S N)).length = F by rw [f2, List.length_drop, HLl.out, hF])
      have HO1 := Lib.hid f1
      have F2 := Lib.hid f2
      have qA : q ≤ A := by omega
      have qN : q ≤ N := by omega
      have qm := run_min2 (N : Int) (A : Int) (q : Int) (by omega)
      obtain ⟨aa, ac, hva, -, -⟩ := HM.out.all.shape
      rw [HLa.out] at hva
      obtain ⟨la, lc, hvl, la1, la2⟩ := HM.out.alone.shape
      rw [HLl.out] at hvl
      subst hva hvl
      have KI := Lib.hid (fun (W : World) V G (h : Mine w W p V (stay S N) G) => list_any h.at_ h.fine.len)
      have HFS := Lib.hid (HM.out.mine.fine.stay (N : Int))
      clear f1 f2 f3 hL hA HY RK RB
      go_upto_region 22 with (first
        | (go_at_call 24; (with_reducible refine (R1.out _).mono ?_); rintro e w' ⟨rfl, rfl⟩)
        | (go_at_call 20; (with_reducible refine KW.out.mono ?_); rintro e w3 ⟨v3, V3, rfl, hi, hq, hs, hne⟩; have HB := Lib.hid (HM.out.woke hi hq hs HFS.out); clear hi hq hs hne)
        | (go_at_call 14; (with_reducible refine (KI.out _ _ _ HB.out.mine).mono ?_); rintro e w4 ⟨v4, rfl, hi, hO⟩; have HB2 := Lib.hid (HB.out.listed hi hO); clear hi hO))
      obtain ⟨oa, oc, hvo, -, -⟩ := HB2.out.out.shape
      rw [HO1.out] at hvo
      obtain ⟨ra, rc, hvr, -, -⟩ := HB2.out.left.shape
      rw [HL2.out] at hvr
      subst hvo hvr
      have hOi : ((O : Int) != (L : Int) - A + q) = false := by simp; omega
      have hFi : (A : Int) - q = F := by omega
      have KE := Lib.hid (fun (v' : Value) (h : Nums w4 v' (ids (stay S N))) => eq_same (.slice ra F rc) v' _ w4 HB2.out.left.nums h (by rw [HL2.out]; omega))
      have hfl : Hid ([woken S N, ids (stay S N)].flatten = woken S N ++ ids (stay S N)) := Lib.hid (by simp)
      have HK := Lib.hid (fun (p : Nat) (W : World) (h : Rows W p [.slice oa O oc, .slice ra F rc] [woken S N, ids (stay S N)]) => concat_ints p 2 2 _ _ W h rfl (by rw [hfl.out, List.length_append, HO1.out, HL2.out]; omega) (by decide))
      have HLW : Hid ((woken S N ++ ids (stay S N)).length ≤ 1000) := Lib.hid (by rw [List.length_append, HO1.out, HL2.out]; omega)
      have HLS : Hid ((ids S).length ≤ 1000) := Lib.hid (by rw [HLa.out]; omega)
      have KS1 := Lib.hid (fun (v : Value) (base : Nat) (W : World) (h : Ints W base v (woken S N ++ ids (stay S N))) => sort_any v _ base W h (by have := HLW.out; omega))
      have KS2 := Lib.hid (fun (v : Value) (base : Nat) (W : World) (h : Ints W base v (ids S)) => sort_any v _ base W h (by have := HLS.out; omega))
      have HSP := Lib.hid (sort_of_perm F3.out)
      have KQ := Lib.hid (fun (v v' : Value) (W : World) (h : Nums W v ((woken S N ++ ids (stay S N)).mergeSort leI)) (h' : Nums W v' ((ids S).mergeSort leI)) => eq_same v v' ((ids S).mergeSort leI) W (by rw [← HSP.out]; exact h) h' (by rw [List.length_mergeSort]; have := HLS.out; omega))
      have HKN := Lib.hid (fun e => HB2.out.alone.nil_cap A lc e)
      cases la with
      | none =>
        have h0 : A = 0 := by rw [← HLl.out, la1 rfl]; rfl
        have h1 : lc = 0 := HKN.out rfl
        clear HKN
        subst h0 h1
        obtain rfl : q = 0 := by omega
        obtain rfl : F = 0 := by omega
        go_wp2_with (first
            | (go_at_call 13; have hc := KE.out (.slice none 0 0) (by rw [F2.out]; exact drop_far _ HLl.out hF (by omega) 0); (with_reducible refine hc.mono ?_); clear hc; rintro e w5 ⟨rfl, hO5⟩; have HB5 := Lib.hid (HB2.out.later hO5); clear hO5)
            | (go_at_call 25; have hc := HK.out _ _ HB5.out.rows; (with_reducible refine hc.mono ?_); clear hc; rintro e w6 ⟨v6, rfl, hi6, hO6⟩; rw [hfl.out] at hi6; have HP1 := Lib.hid (HB5.out.pair ((Only.refl _ _).alloc _) hi6 hO6); clear hi6 hO6)
            | (go_at_call 26; have hc := KS2.out _ _ _ HP2.out.one; (with_reducible refine hc.mono ?_); clear hc; rintro e w8 ⟨rfl, hi8, hO8⟩; have HP3 := Lib.hid (HP2.out.set1 hi8 hO8); clear hi8 hO8)
            | (go_at_call 26; have hc := KS1.out _ _ _ HP1.out.two; (with_reducible refine hc.mono ?_); clear hc; rintro e w7 ⟨rfl, hi7, hO7⟩; have HP2 := Lib.hid (HP1.out.set2 hi7 hO7); clear hi7 hO7)
            | (go_at_call 13; have hc := KQ.out _ _ _ HP3.out.two.nums HP3.out.one.nums; (with_reducible refine hc.mono ?_); clear hc; rintro e w9 ⟨rfl, hO9⟩; have HO9 := Lib.hid (only_trans HP3.out.only hO9); clear hO9))
        go_ret
        exact ⟨rfl, HO9.out.below (Nat.le_refl _) (fun _ e => e.elim)⟩
      | some ad =>
        clear HKN
        obtain ⟨g, rfl, -, -⟩ := la2 ad rfl
        have hcl := ints_cap HB2.out.alone HLl.out
        by_cases hq2 : lc = q
        · go_wp2_with (first
            | (go_at_call 13; have hc := KE.out (.slice (some ⟨g, 0, none⟩) F 0) (by rw [F2.out]; exact drop_far _ HLl.out hF (by omega) 0); (with_reducible refine hc.mono ?_); clear hc; rintro e w5 ⟨rfl, hO5⟩; have HB5 := Lib.hid (HB2.out.later hO5); clear hO5)
            | (go_at_call 25; have hc := HK.out _ _ HB5.out.rows; (with_reducible refine hc.mono ?_); clear hc; rintro e w6 ⟨v6, rfl, hi6, hO6⟩; rw [hfl.out] at hi6; have HP1 := Lib.hid (HB5.out.pair ((Only.refl _ _).alloc _) hi6 hO6); clear hi6 hO6)
            | (go_at_call 26; have hc := KS2.out _ _ _ HP2.out.one; (with_reducible refine hc.mono ?_); clear hc; rintro e w8 ⟨rfl, hi8, hO8⟩; have HP3 := Lib.hid (HP2.out.set1 hi8 hO8); clear hi8 hO8)
            | (go_at_call 26; have hc := KS1.out _ _ _ HP1.out.two; (with_reducible refine hc.mono ?_); clear hc; rintro e w7 ⟨rfl, hi7, hO7⟩; have HP2 := Lib.hid (HP1.out.set2 hi7 hO7); clear hi7 hO7)
            | (go_at_call 13; have hc := KQ.out _ _ _ HP3.out.two.nums HP3.out.one.nums; (with_reducible refine hc.mono ?_); clear hc; rintro e w9 ⟨rfl, hO9⟩; have HO9 := Lib.hid (only_trans HP3.out.only hO9); clear hO9))
          go_ret
          exact ⟨rfl, HO9.out.below (Nat.le_refl _) (fun _ e => e.elim)⟩
        · go_wp2_with (first
            | (go_at_call 13; have hc := KE.out (.slice (some ⟨g, q, none⟩) F (lc - q)) (by rw [F2.out]; exact drop_near HB2.out.alone HLl.out hF qA _); (with_reducible refine hc.mono ?_); clear hc; rintro e w5 ⟨rfl, hO5⟩; have HB5 := Lib.hid (HB2.out.later hO5); clear hO5)
            | (go_at_call 25; have hc := HK.out _ _ HB5.out.rows; (with_reducible refine hc.mono ?_); clear hc; rintro e w6 ⟨v6, rfl, hi6, hO6⟩; rw [hfl.out] at hi6; have HP1 := Lib.hid (HB5.out.pair ((Only.refl _ _).alloc _) hi6 hO6); clear hi6 hO6)
            | (go_at_call 26; have hc := KS2.out _ _ _ HP2.out.one; (with_reducible refine hc.mono ?_); clear hc; rintro e w8 ⟨rfl, hi8, hO8⟩; have HP3 := Lib.hid (HP2.out.set1 hi8 hO8); clear hi8 hO8)
            | (go_at_call 26; have hc := KS1.out _ _ _ HP1.out.two; (with_reducible refine hc.mono ?_); clear hc; rintro e w7 ⟨rfl, hi7, hO7⟩; have HP2 := Lib.hid (HP1.out.set2 hi7 hO7); clear hi7 hO7)
            | (go_at_call 13; have hc := KQ.out _ _ _ HP3.out.two.nums HP3.out.one.nums; (with_reducible refine hc.mono ?_); clear hc; rintro e w9 ⟨rfl, hO9⟩; have HO9 := Lib.hid (only_trans HP3.out.only hO9); clear hO9))
          go_ret
          exact ⟨rfl, HO9.out.below (Nat.le_refl _) (fun _ e => e.elim)⟩
end Go.Proofs.Ytddfdnhlghmapaa.Wt
