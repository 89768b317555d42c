/- Texts of this claim, merged: OFTops2. -/
import Derived.Test.YtpincdcebhmnhaaGreatM17
/- The reference's tops: the times that compete. -/
namespace Go.Proofs.YtpincdcebhmnhaaGreat.Fr
open Go.ChangeShapes Go.WideShapes Go.ChangeAt Go.RowKit Go.Maps
open Go.Proofs.YtpincdcebhmnhaaGreat.Vt Go.Proofs.YtpincdcebhmnhaaGreat.Pt
set_option linter.unusedVariables false

/-- append(a, x): one number more, which lies in a block of its own. -/
theorem append_one {w : World} {ops : Array Oper} {rest : List Oper} {o : Oper} {a : Act} {Q : Exit → Act → World → Prop} (hgd : o.guard = none) (s x : Operand)
    (ho : o.op = .call { callee := .builtin .append, args := #[s, x], argTypes := #[37, 37] })
    (base b c : Nat) (v : Value) (S : List Int) (y : Int) (hs : a.eval s = v) (hx : a.eval x = .slice (some ⟨b, 0, none⟩) 1 c) (hown : Ints w base v S) (hb : w.heap[b]? = some (.cells #[.int .i64 y] 3 (0, 0)))
    (hn : S.length + 1 ≤ 17000000000000) (hbase : base ≤ w.heap.size)
    (h : ∀ v' w', Ints w' base v' (S ++ [y]) → Only (fun k => v.ownBlock = some k) w w' → (∀ k, v'.ownBlock = some k → v.ownBlock = some k ∨ w.heap.size ≤ k) → wpList Tryz.prog ops Q rest (a.put o.dst v') w') : wpList Tryz.prog ops Q (o :: rest) a w := by
  obtain ⟨i0, hi, hz0, hz1, hz2⟩ := info_parts Tryz.infoInt
  refine wpList_append_lies w hgd s x 37 ho base 3 i0 (.int .i64 0) 1 8 Tryz.underlying37 hi hz0 hz1 hz2 rfl (by decide) v S.length (numCells S) hs hown ⟨b, 0, none⟩ 1 c [.int .i64 y] hx rfl ?_ (one_num y) Nat.one_pos (max_of hn).1 (max_of hn).2 hbase _ rfl ?_
  · intro j u hj
    rw [add_plain, cell_at hb, Nat.zero_add, ← Array.getElem?_toList]
    exact hj
  · intro g' cap' w' hown' hg hat _
    refine h _ w' ?_ (Only.of_grown hg (fun k hk => hk)) (fun k hk => by cases hk; exact hat.imp_right (fun e => by rw [e]; exact Nat.le_refl _))
    unfold Ints
    rw [List.length_append, numCells_snoc]
    exact hown'

/-- The times of the groups that compete, as far as k. -/
def GTops (T : Tks) (G : Grs) (k : Nat) (U : List Int) : Prop := ∀ x, x ∈ U ↔ ∃ g : Nat, (1 ≤ g ∧ g ≤ k) ∧ first T g ≠ 0 ∧ x = (G g).v

theorem gtops_yes {T : Tks} {G : Grs} {k : Nat} {U : List Int} (h : GTops T G k U) (hf : first T ((k : Int) + 1) ≠ 0) : GTops T G (k + 1) (U ++ [(G (k + 1)).v]) := by
  intro x
  rw [List.mem_append, h x]
  constructor
  · rintro (⟨g, h1, h2, h3⟩ | hx)
    · exact ⟨g, ⟨h1.1, by omega⟩, h2, h3⟩
    · simp at hx; exact ⟨k + 1, by omega, hf, hx⟩
  · rintro ⟨g, h1, h2, h3⟩
    by_cases e : g = k + 1
    · subst e; right; simp [h3]
    · exact Or.inl ⟨g, by omega, h2, h3⟩
theorem gtops_no {T : Tks} {G : Grs} {k : Nat} {U : List Int} (h : GTops T G k U) (hf : first T ((k : Int) + 1) = 0) : GTops T G (k + 1) U := by
  intro x
  rw [h x]
  constructor
  · rintro ⟨g, h1, h2, h3⟩; exact ⟨g, by omega, h2, h3⟩
  · rintro ⟨g, h1, h2, h3⟩
    by_cases e : g = k + 1
    · subst e; exact absurd hf h2
    · exact ⟨g, by omega, h2, h3⟩

/-- The times that compete, of groups and of the first j of K. -/
def KTops (T : Tks) (G : Grs) (L : List (Nat × Nat)) (K : List Nat) (j : Nat) (U : List Int) : Prop := ∀ x, x ∈ U ↔ (∃ g : Nat, (1 ≤ g ∧ g ≤ 8) ∧ first T g ≠ 0 ∧ x = (G g).v) ∨ ∃ i, i < j ∧ ∃ t, (K.getD i 0, t) ∈ L ∧ x = (T t).v

theorem ktops_more {T : Tks} {G : Grs} {L : List (Nat × Nat)} {K : List Nat} {j t : Nat} {U : List Int} (h : KTops T G L K j U) (ht : (K.getD j 0, t) ∈ L) (hu : ∀ t', (K.getD j 0, t') ∈ L → t' = t) : KTops T G L K (j + 1) (U ++ [(T t).v]) := by
  intro x
  rw [List.mem_append, h x]
  constructor
  · rintro ((h1 | ⟨i, h1, h2⟩) | hx)
    · exact Or.inl h1
    · exact Or.inr ⟨i, by omega, h2⟩
    · simp at hx; exact Or.inr ⟨j, by omega, t, ht, hx⟩
  · rintro (h1 | ⟨i, h1, t', h2, h3⟩)
    · exact Or.inl (Or.inl h1)
    · by_cases e : i = j
      · subst e; right; rw [hu t' h2] at h3; simp [h3]
      · exact Or.inl (Or.inr ⟨i, by omega, t', h2, h3⟩)

theorem ktops_all {T : Tks} {G : Grs} {L : List (Nat × Nat)} {K : List Nat} {U : List Int} (h : KTops T G L K K.length U) (hnum : ∀ x ∈ L, x.2 ≤ 16) (hall : ∀ t, t < 17 → isOf T 0 t → ∃ b, (b, t) ∈ L) (hK : ∀ b, b ∈ K ↔ ∃ t, (b, t) ∈ L ∧ isOf T 0 t) (hu : ∀ b t t', (b, t) ∈ L → (b, t') ∈ L → t' = t) : Tops T G U := by
  intro x
  rw [h x]
  constructor
  · rintro (h1 | ⟨i, h1, t, h2, h3⟩)
    · exact Or.inl h1
    · have hm : K.getD i 0 ∈ K := by simp [List.getD, h1]
      obtain ⟨t', h4, h5⟩ := (hK _).1 hm
      have e := hu _ _ _ h2 h4
      subst e
      have := hnum _ h4
      exact Or.inr ⟨t', by simp only at this; omega, h5, h3⟩
  · rintro (h1 | ⟨t, h1, h2, h3⟩)
    · exact Or.inl h1
    · obtain ⟨b, hb⟩ := hall t h1 h2
      have hm := (hK b).2 ⟨t, hb, h2⟩
      obtain ⟨i, hi, hi2⟩ := List.getElem_of_mem hm
      exact Or.inr ⟨i, hi, t, by simp [List.getD, hi, hi2, hb], h3⟩

/-- What tops answers. -/
def TopsAns (w : World) (T : Tks) (G : Grs) (e : Ending) (w' : World) : Prop :=
  ∃ a n c U, e = .returned (.slice a n c) ∧ U.length = n ∧ n ≤ 24 ∧ Nums w' (.slice a n c) U ∧ Tops T G U ∧ Only (fun _ => False) w w'

set_option maxRecDepth 100000 in
set_option maxHeartbeats 1000000 in
theorem topsr_any {B : Nat} {w : World} {q o D : Nat} {L : List (Nat × Nat)} {T : Tks} {G : Grs} {W GW : Nat → Int} (h : RefAt B w q o D L T G W GW) (hs : Same L T G W GW) (h0 : (T 0).r = false) (hrc : ∀ t, t < 17 → (T t).r = true → (T t).c ≠ 0) :
    Calls Tryz.prog 62 #[.pointer (some ⟨q, o, none⟩)] w (TopsAns w T G) := by
  have H := Lib.hid h
  have HS := Lib.hid (⟨hs, h0, hrc⟩ : Same L T G W GW ∧ (T 0).r = false ∧ ∀ t, t < 17 → (T t).r = true → (T t).c ≠ 0)
  clear h hs h0 hrc
  go_enter Tryz.func62, Tryz.ntmps62
  go_wp2_with fail
  go_loopw [3, 4] (fun v i wr => ∃ (k : Nat) (U : List Int), k ≤ 8 ∧ i = .int .i64 ((k : Int) + 1) ∧ Ints wr w.heap.size v U ∧ U.length ≤ k ∧ GTops T G k U ∧ Only (fun _ => False) w wr) (fun _ i _ => 9 - (intOf i).toNat)
  case atStart => exact ⟨0, [], by omega, rfl, ints_nil _ _, Nat.le_refl _, fun x => ⟨(fun h => by cases h), (fun h => by obtain ⟨g, h1, -⟩ := h; omega)⟩, Only.refl _ w⟩
  case round =>
    obtain ⟨k, U, hk, rfl, hI, hUl, hG, hO⟩ := hrel
    have HI := Lib.hid hI
    have HUL := Lib.hid hUl
    have HG := Lib.hid hG
    have HO := Lib.hid hO
    clear hI hUl hG hO
    by_cases hlt : k < 8
    · have co := Lib.hid (ofh_any (H.out.later HO.out) HS.out.1 HS.out.2.1 HS.out.2.2 ((k : Int) + 1))
      have g1 : (k : Int) + 1 < 9 := by omega
      by_cases hf : first T ((k : Int) + 1) = 0
      · have HF := Lib.hid hf
        have HG2 := Lib.hid (gtops_no HG.out hf)
        clear hf
        go_wp2_with (go_at_call 63; (with_reducible refine co.out.mono ?_); rintro e w1 ⟨a, n, c, K, rfl, hK, hc1, hc2, hn16, hrow, hmem, hz, hnz, hO1⟩; have HO1 := Lib.hid (HO.out.trans hO1 (fun _ _ h => h)); have HI1 := Lib.hid (HI.out.later hO1); have hn0 : ¬ (0 : Int) < n := (by intro h; exact (hnz (by omega)).1 HF.out); clear hK hrow hmem hz hnz hO1)
        go_roundw
        case rel => exact ⟨k + 1, U, by omega, by go_num, HI1.out, by have := HUL.out; omega, HG2.out, HO1.out⟩
        case measure => simp [intOf]; omega
      · have HF := Lib.hid hf
        have HG2 := Lib.hid (gtops_yes HG.out hf)
        have HLE := Lib.hid (show U.length + 1 ≤ 17000000000000 by have := HUL.out; omega)
        clear hf
        go_wp2_with (first
          | (go_at_call 63; (with_reducible refine co.out.mono ?_); rintro e w1 ⟨a, n, c, K, rfl, hK, hc1, hc2, hn16, hrow, hmem, hz, hnz, hO1⟩; have HO1 := Lib.hid (HO.out.trans hO1 (fun _ _ h => h)); have HI1 := Lib.hid (HI.out.later hO1); have hn0 : (0 : Int) < n := (by have : n ≠ 0 := fun h => HF.out (hz h); omega); have dv := (H.out.later HO1.out).gv (k + 1) (by omega); have HZ1 := Lib.hid HO1.out.size; clear hK hrow hmem hz hnz hO1)
          | (at_builtin; go_must (refine append_one rfl _ _ rfl w.heap.size w1.heap.size 1 _ U (G (k + 1)).v rfl rfl (HI1.out.later ((Only.refl _ w1).alloc _)) ?_ HLE.out ?_ ?_); (go_must (exact heap_alloc_new w1 _)); (go_must (exact Nat.le_trans HZ1.out (by simp))); go_must (intro v5 w5 hr5 hO5 hV5); have HR5 := Lib.hid hr5; have HO5 := Lib.hid ((HO1.out.alloc _).trans hO5 (fun x hx e => by have := (HI1.out.block e).1; omega)); clear hr5 hO5 hV5))
        go_roundw
        case rel => exact ⟨k + 1, _, by omega, by go_num, HR5.out, by rw [List.length_append]; have := HUL.out; simp; omega, HG2.out, HO5.out⟩
        case measure => simp [intOf]; omega
    · obtain rfl : k = 8 := by omega
      have co := Lib.hid (ofh_any (H.out.later HO.out) HS.out.1 HS.out.2.1 HS.out.2.2 0)
      go_wp2_with (go_at_call 63; (with_reducible refine co.out.mono ?_); rintro e w1 ⟨a, n, c, K, rfl, hK, hc1, hc2, hn16, hrow, hmem, hz, hnz, hO1⟩; have HO1 := Lib.hid (HO.out.trans hO1 (fun _ _ h => h)); have HI1 := Lib.hid (HI.out.later hO1); have HKN := Lib.hid hK; have HROW := Lib.hid hrow; have HMEM := Lib.hid hmem; have HSZ := Lib.hid hO1.size; clear hK hrow hmem hz hnz hO1)
      have HZ8 := Lib.hid (HO.out.size)
      clear co
      go_loopw [3, 29] (fun v i wr => ∃ (j : Nat) (U : List Int), j ≤ n ∧ i = .int .i64 j ∧ Ints wr w.heap.size v U ∧ U.length ≤ 8 + j ∧ KTops T G L K j U ∧ RowAt wr w.heap.size (.slice a n c) K ∧ (∀ g, v.ownBlock = some g → ∀ ad, a = some ad → ad.block ≠ g) ∧ Only (fun _ => False) w wr) (fun _ i _ => n - (intOf i).toNat)
      case atStart =>
        refine ⟨0, U, by omega, rfl, HI1.out, by have := HUL.out; omega, fun x => ?_, HROW.out.base (by have := HZ8.out; omega), fun g hg ad ha => ?_, HO1.out⟩
        · rw [HG.out x]
          constructor
          · exact Or.inl
          · rintro (h1 | ⟨i, h1, -⟩)
            · exact h1
            · omega
        · subst ha
          have h1 := (HI.out.block hg).2
          obtain ⟨gk, hgk⟩ : ∃ gk, (Value.slice (some ad) n c).ownBlock = some gk := by
            rcases HROW.out.cases with ⟨e, -⟩ | ⟨gk, cap, e, -⟩
            · cases e
            · cases e; exact ⟨gk, rfl⟩
          have h2 := (HROW.out.block hgk).1
          rcases HROW.out.cases with ⟨e, -⟩ | ⟨gk', cap, e, -⟩
          · cases e
          · cases e; cases hgk; have h3 : wr.heap.size + 1 ≤ gk' := h2; show gk' ≠ g; omega
      case round =>
        obtain ⟨j, U2, hj, rfl, hI, hUl, hKT, hRw, hap, hO⟩ := hrel
        have HI2 := Lib.hid hI
        have HUL2 := Lib.hid hUl
        have HKT := Lib.hid hKT
        have HRW := Lib.hid hRw
        have HAP := Lib.hid hap
        have HO2 := Lib.hid hO
        clear hI hUl hKT hRw hap hO
        by_cases hlt : j < n
        · obtain ⟨gk, rfl, -, hgk, d0⟩ := row_at HRW.out (j := j) (by rw [HKN.out]; exact hlt)
          have hmem : K.getD j 0 ∈ K := by simp [List.getD, show j < K.length by rw [HKN.out]; exact hlt]
          obtain ⟨t, ht, -⟩ := (HMEM.out _).1 hmem
          obtain ⟨f, hf⟩ := H.out.numbers
          have HK2 := Lib.hid (ktops_more HKT.out ht (fun t' ht' => by have a := hf _ ht; have b := hf _ ht'; simp only at a b; omega))
          have dv := (H.out.later HO2.out).tv ht
          have HLE := Lib.hid (show U2.length + 1 ≤ 17000000000000 by have := HUL2.out; omega)
          have HBS := Lib.hid (show w.heap.size ≤ (wr.alloc (.cells #[.int .i64 (T t).v] 3)).heap.size from Nat.le_trans HO2.out.size (by simp))
          have HGK := Lib.hid hgk
          generalize K.getD j 0 = b at *
          unfold pt at d0
          have g1 : (j : Int) < n := by omega
          have g2 : (0 : Int) ≤ j := by omega
          clear ht hf hmem hgk
          go_wp2_with (at_builtin; go_must (refine append_one rfl _ _ rfl w.heap.size wr.heap.size 1 _ U2 (T t).v rfl rfl (HI2.out.later ((Only.refl _ wr).alloc _)) ?_ HLE.out HBS.out ?_); (go_must (exact heap_alloc_new wr _)); go_must (intro v5 w5 hr5 hO5 hV5); have HR5 := Lib.hid hr5; have HRW5 := Lib.hid ((HRW.out.later ((Only.refl (fun _ => False) wr).alloc _)).keep hO5 (fun g hg e => by cases hg; exact HAP.out _ e _ rfl rfl)); have HAP5 : Hid (∀ g, v5.ownBlock = some g → ∀ ad : Addr, some (⟨gk, 0, none⟩ : Addr) = some ad → ad.block ≠ g) := Lib.hid (fun g hg ad ha => by cases ha; rcases hV5 g hg with e | e; exact HAP.out g e _ rfl; have h1 := HGK.out; have h2 : wr.heap.size ≤ g := (by simp at e; omega); show gk ≠ g; omega); have HO5 := Lib.hid ((HO2.out.alloc _).trans hO5 (fun x hx e => by have := (HI2.out.block e).1; omega)); clear hr5 hO5 hV5)
          go_roundw
          case rel => exact ⟨j + 1, _, by omega, by go_num, HR5.out, by rw [List.length_append]; have := HUL2.out; simp; omega, HK2.out, HRW5.out, HAP5.out, HO5.out⟩
          case measure => simp [intOf]; omega
        · obtain rfl : j = n := by omega
          have hTT : Tops T G U2 := ktops_all (by rw [HKN.out]; exact HKT.out) (fun x hx => (HS.out.1.num x hx).2) (fun t ht ho => HS.out.1.all t ht (HS.out.2.2 t ht ho.1)) HMEM.out (fun b t t' h1 h2 => by
            obtain ⟨f, hf⟩ := H.out.numbers
            have a := hf _ h1; have b := hf _ h2; simp only at a b; omega)
          have HTT := Lib.hid hTT
          obtain ⟨a2, c3, hv, -⟩ := HI2.out.shape
          obtain ⟨n2, hn2⟩ : ∃ n2, U2.length = n2 := ⟨_, rfl⟩
          rw [hn2] at hv
          have HN2 := Lib.hid hn2
          have hnm := HI2.out.nums
          have HNM := Lib.hid hnm
          clear hTT hn2 hnm
          subst hv
          go_wp2_with fail
          go_ret
          exact ⟨_, _, _, U2, rfl, HN2.out, by have := HUL2.out; have := HN2.out; omega, HNM.out, HTT.out, HO2.out⟩
end Go.Proofs.YtpincdcebhmnhaaGreat.Fr
