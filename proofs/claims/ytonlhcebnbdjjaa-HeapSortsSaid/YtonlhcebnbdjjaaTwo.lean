/- Two heaps side by side; and Rest. -/
import Derived.Test.YtonlhcebnbdjjaaFace
import Derived.Test.YtonlhcebnbdjjaaRow
namespace Go.Proofs.Ytonlhcebnbdjjaa
open Go.ChangeShapes Go.WideShapes Go.ChangeAt Go.RowKit Go.Maps
set_option linter.unusedVariables false

theorem u64_is (k : Int) : IntKind.u64.wrap k = k % 18446744073709551616 := by
  simp [IntKind.wrap, IntKind.signed, IntKind.bits]

theorem rest_any (k n : Int) (h : 0 < n) (h2 : n ≤ 9223372036854775807) (w : World) :
    Calls Try.prog 19 #[.int .i64 k, .int .i64 n] w fun e w' => e = .returned (.int .i64 (restOf k n)) ∧ w = w' := by
  have hn : ¬ IntKind.u64.wrap n = 0 := by rw [u64_is]; omega
  go_enter Try.func19, Try.ntmps19
  go_wp2
  go_ret
  refine ⟨ret_int ?_, rfl⟩
  have e2 := restOf_lo k n h
  have e3 := restOf_hi k n h
  rw [u64_is, Int.tmod_eq_emod_of_nonneg (by omega)]
  show wrap64 (restOf k n) = _
  exact IntWalk.wrap64_in _ (by omega)

/-- Two heaps that have nothing to do with each other, in blocks from B on. -/
def Twos (B : Nat) (w : World) (pa pb : Nat) (Sa Sb : List (Int × Int)) : Prop :=
  ∃ MA MB : Nat → Prop, HeapAt MA w pa Sa ∧ HeapAt MB w pb Sb ∧ (∀ k, MA k → ¬ MB k) ∧ (∀ k, MA k → B ≤ k) ∧ (∀ k, MB k → B ≤ k)

/-- What is known behind a call at one of two heaps. -/
def TAns (B : Nat) (w : World) (pa pb : Nat) (v : Value) (Sa Sb : List (Int × Int)) (e : Ending) (w' : World) : Prop :=
  e = .returned v ∧ Twos B w' pa pb Sa Sb ∧ Below B w w'

section
variable {B : Nat} {w w' : World} {pa pb : Nat} {Sa Sb : List (Int × Int)}

theorem Twos.swap (h : Twos B w pa pb Sa Sb) : Twos B w pb pa Sb Sa := by
  obtain ⟨MA, MB, h1, h2, h3, h4, h5⟩ := h
  exact ⟨MB, MA, h2, h1, fun k hk e => h3 k e hk, h5, h4⟩

theorem Twos.later (h : Twos B w pa pb Sa Sb) (hO : Only (fun _ => False) w w') : Twos B w' pa pb Sa Sb := by
  obtain ⟨MA, MB, h1, h2, h3, h4, h5⟩ := h
  exact ⟨MA, MB, h1.later hO, h2.later hO, h3, h4, h5⟩

theorem Twos.low (h : Twos B w pa pb Sa Sb) : B ≤ w.heap.size := by
  obtain ⟨MA, MB, h1, h2, h3, h4, h5⟩ := h
  obtain ⟨L, -, -, hm, ⟨-, hf⟩ | ⟨g, b, cap, -, -, hr⟩⟩ := h1
  · have := h4 _ hm; have := block_there hf; omega
  · have := h4 _ hm; have := block_there hr.self; omega

theorem two_left {f : Nat} {args : Array Value} {v : Value} {Sa' : List (Int × Int)} (h : Twos B w pa pb Sa Sb) (hc : ∀ M, HeapAt M w pa Sa → Calls Try.prog f args w (HAns M w pa v Sa')) :
    Calls Try.prog f args w (TAns B w pa pb v Sa' Sb) := by
  have hB := h.low
  obtain ⟨MA, MB, h1, h2, h3, h4, h5⟩ := h
  refine (hc MA h1).mono ?_
  rintro e w' ⟨rfl, ha, hO⟩
  refine ⟨rfl, ⟨_, _, ha, h2.there.keep hO (fun k _ hk e => h3 k e hk.1), ?_, ?_, fun k hk => h5 k hk.1⟩, hO.below hB h4⟩
  · rintro k (hk | hk) hb
    · exact h3 k hk hb.1
    · omega
  · rintro k (hk | hk)
    · exact h4 k hk
    · omega

theorem two_right {f : Nat} {args : Array Value} {v : Value} {Sb' : List (Int × Int)} (h : Twos B w pa pb Sa Sb) (hc : ∀ M, HeapAt M w pb Sb → Calls Try.prog f args w (HAns M w pb v Sb')) :
    Calls Try.prog f args w (TAns B w pa pb v Sa Sb') := by
  refine (two_left h.swap hc).mono ?_
  rintro e w' ⟨rfl, h1, h2⟩
  exact ⟨rfl, h1.swap, h2⟩

theorem Twos.perm {Ta Tb : List (Int × Int)} (h : Twos B w pa pb Sa Sb) (ha : Sa.Perm Ta) (hb : Sb.Perm Tb) : Twos B w pa pb Ta Tb := by
  obtain ⟨MA, MB, h1, h2, h3⟩ := h
  exact ⟨MA, MB, h1.perm ha, h2.perm hb, h3⟩

theorem Twos.idsA (h : Twos B w pa pb Sa Sb) : Ids Sa := by
  obtain ⟨MA, MB, h1, h2, h3⟩ := h
  exact h1.ids

/-- What is known behind the making of two heaps. -/
def Made (B : Nat) (w : World) (pa : Nat) (e : Ending) (w' : World) : Prop :=
  ∃ pb, e = .returned (.pointer (some ⟨pb, 0, none⟩)) ∧ Twos B w' pa pb [] [] ∧ Below B w w'

theorem two_made {M : Nat → Prop} (h : HeapAt M w pa []) (hM : ∀ k, M k → B ≤ k) (hB : B ≤ w.heap.size) : Calls Try.prog 8 #[] w (Made B w pa) := by
  refine (hnew w).mono ?_
  rintro e w' ⟨q, rfl, h2, hO⟩
  exact ⟨q, rfl, ⟨_, _, h.there.later hO, h2, fun k hk e => by omega, fun k hk => hM k hk.1, fun k hk => by omega⟩, hO.below hB (fun _ e => e.elim)⟩
end

/-- The number at a place of a list. -/
def nth (ks : List Int) (j : Nat) : Int := ks.getD j 0

/-- The numbers of a list with their places. -/
def en (ks : List Int) (j : Nat) : List (Int × Int) := (List.range j).map fun (i : Nat) => ((i : Int), nth ks i)

theorem en_succ (ks : List Int) (j : Nat) : en ks (j + 1) = en ks j ++ [((j : Int), nth ks j)] := by simp [en, List.range_succ]
theorem en_len (ks : List Int) (j : Nat) : (en ks j).length = j := by simp [en]
theorem en_mem (ks : List Int) {i j : Nat} (h : i < j) : ((i : Int), nth ks i) ∈ en ks j := by
  unfold en; exact List.mem_map.2 ⟨i, List.mem_range.2 h, rfl⟩
theorem en_no (ks : List Int) (j : Nat) : ∀ x ∈ en ks j, x.1 ≠ (j : Int) := by
  intro x hx
  obtain ⟨i, hi, rfl⟩ := List.mem_map.1 hx
  have := List.mem_range.1 hi
  show (i : Int) ≠ j
  omega

theorem without_no (S : List (Int × Int)) (id : Int) : ∀ x ∈ without S id, x.1 ≠ id := by
  intro x hx
  have := (List.mem_filter.1 hx).2
  simpa using this

theorem split_ids {S : List (Int × Int)} (h : Ids S) {x : Int × Int} (hx : x ∈ S) : (x :: without S x.1).Perm S := by
  obtain ⟨s, t, rfl⟩ := List.append_of_mem hx
  have h1 : (x :: (s ++ t)).Perm (s ++ x :: t) := List.perm_middle.symm
  have h2 := without_of h h1
  exact (h2.symm.cons _).trans h1

theorem without_len {S : List (Int × Int)} (h : Ids S) {x : Int × Int} (hx : x ∈ S) : (without S x.1).length + 1 = S.length := by
  have := (split_ids h hx).length_eq
  simpa using this

theorem rekey_no {S : List (Int × Int)} {id : Int} (k : Int) (h : ∀ x ∈ S, x.1 ≠ id) : rekey S id k = S := by
  unfold rekey
  conv => rhs; rw [← List.map_id S]
  apply List.map_congr_left
  intro x hx
  rw [if_neg (h x hx)]; rfl

theorem rekey_perm {S : List (Int × Int)} (h : Ids S) {x : Int × Int} (hx : x ∈ S) (k : Int) : (without S x.1 ++ [(x.1, k)]).Perm (rekey S x.1 k) := by
  have h1 := (split_ids h hx).map (fun y => if y.1 = x.1 then (x.1, k) else y)
  have h2 : (rekey (x :: without S x.1) x.1 k).Perm (rekey S x.1 k) := h1
  have h3 : rekey (x :: without S x.1) x.1 k = (x.1, k) :: without S x.1 := by
    have := rekey_no k (without_no S x.1)
    unfold rekey at *
    rw [List.map_cons, if_pos rfl, this]
  rw [h3] at h2
  exact (List.perm_append_singleton _ _).trans h2
  
theorem least_exists {S : List (Int × Int)} (h : S ≠ []) : ∃ m, Least S m := by
  induction S with
  | nil => exact absurd rfl h
  | cons x xs ih =>
    by_cases hx : xs = []
    · subst hx; exact ⟨x, by simp, fun y hy => by simp at hy; subst hy; exact prec_irrefl _⟩
    · obtain ⟨m, hm, hl⟩ := ih hx
      rcases Bool.eq_false_or_eq_true (prec x m) with hp | hp
      · refine ⟨x, by simp, fun y hy => ?_⟩
        rcases List.mem_cons.1 hy with rfl | hy
        · exact prec_irrefl _
        · exact le_trans' (prec_asymm hp) (hl y hy)
      · refine ⟨m, List.mem_cons_of_mem _ hm, fun y hy => ?_⟩
        rcases List.mem_cons.1 hy with rfl | hy
        · exact hp
        · exact hl y hy
end Go.Proofs.Ytonlhcebnbdjjaa
