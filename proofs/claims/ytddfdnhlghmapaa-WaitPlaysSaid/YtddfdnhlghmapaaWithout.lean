/- The statements' without: a list without one number, in a row of the call's own. (Dlay as for Del; fill Del with ringhall/ringkeep1.WheelOut$1=ringhall/ringlaw1.without$1.) -/
import Derived.Test.YtddfdnhlghmapaaDel
import Derived.Test.YtddfdnhlghmapaaSortI
namespace Go.Proofs.Ytddfdnhlghmapaa
open Go.ChangeShapes Go.WideShapes Go.ChangeAt Go.RowKit Go.Shelf Go.Sort
set_option linter.unusedVariables false

theorem ints_shrink {w : World} {B g n c : Nat} {F R : List Int} (h : Ints w B (.slice (some ⟨g, 0, none⟩) n c) (F ++ R)) : Ints w B (.slice (some ⟨g, 0, none⟩) F.length c) F := by
  obtain ⟨hl, ⟨e, h0⟩ | ⟨g', cap, cur, e, hb, hg, r1, r2, r3, r4⟩⟩ := h
  · cases e
  · cases e
    refine ⟨by rw [numCells_len, Nat.mul_one], Or.inr ⟨g, c, cur, rfl, hb, hg, by simp at r1; omega, r2, r3, ?_⟩⟩
    have := congrArg (List.take F.length) r4
    rw [List.take_take] at this
    rw [Nat.mul_one, show min F.length (F ++ R).length = F.length by simp] at this
    rw [Nat.mul_one, this]
    simp [numCells]

/-- What is known behind the deletion. -/
def Struck2 (xs : List Int) (i : Int) (base g : Nat) (w : World) (e : Ending) (w' : World) : Prop := ∃ v, e = .returned v ∧ Ints w' base v (notOne xs i) ∧ Only (· = g) w w'

theorem delete_own (g n c : Nat) (i : Int) (B base : Nat) (xs : List Int) (w : World) (h : Ints w base (.slice (some ⟨g, 0, none⟩) n c) xs) (hn : n = xs.length) (hB : B < w.heap.size) (hBg : B ≠ g) (hc : w.cell? ⟨B, 0, none⟩ = some (.int .i64 i)) (hl : xs.length ≤ 9223372036854775807) :
    Calls Try.prog 61 #[.slice (some ⟨g, 0, none⟩) n c, .func (.func 63) #[] #[.pointer (some ⟨B, 0, none⟩)]] w (Struck2 xs i base g w) := by
  subst hn
  have eg : ∀ args w, (callFunc 63 args).run Try.prog w = .ok (.enter 63 args) w := enters_of Try.func63 (by kernel_rfl) rfl
  have hcap : xs.length ≤ c := by
    rcases h.2 with ⟨h1, _⟩ | ⟨g', cap', cur, h1, _, _, h3, _⟩
    · cases h1
    · cases h1; exact h3
  have hH := holds_ints h
  have hp : PredAt Try.prog 63 #[.pointer (some ⟨B, 0, none⟩)] (Value.int .i64) (fun x => decide (x = i)) w :=
    fun W x hb => asks_one x i B W ((hb.cell (p := ⟨B, 0, none⟩) hB).trans hc)
  have hpo : PredOver Try.prog 63 #[.pointer (some ⟨B, 0, none⟩)] (Value.int .i64) (fun x => decide (x = i)) g 0 xs.toArray.size w :=
    fun n os dk x _ => asks_one x i B _ (by
      unfold sortWorld
      rw [cell?_grow _ _ _ (by show B < (putRow _ _ _ _ _).heap.size; rw [size_putRow]; exact hB), cell?_putRow_other _ _ g 0 _ _ (Or.inl hBg)]
      exact hc)
  have hcon := AnyE.slices_DeleteFunc delL (Value.int .i64) (fun _ => rfl) (fun x => decide (x = i)) 63 #[.pointer (some ⟨B, 0, none⟩)] eg 0 Try.zeroValue3 g 0 c xs.toArray w hp hpo hH (by simpa using hl) (by simpa using hcap)
  change Calls Try.prog 61 _ _ _ at hcon
  have e0 : xs.toArray.size = xs.length := by simp
  rw [e0] at hcon
  refine hcon.mono ?_
  rintro e w' ⟨rfl, q, rfl⟩
  have hf : (xs.filter fun x => !decide (x = i)).length ≤ xs.length := List.length_filter_le _ _
  have hsz : ((xs.filter fun x => !decide (x = i)) ++ List.replicate (xs.length - (xs.filter fun x => !decide (x = i)).length) (0 : Int)).length = xs.length := by simp; omega
  obtain ⟨p1, p2⟩ := ints_put (m := q) (os := #[]) h hsz
  have eg0 : ∀ W : World, Sort.grow W #[] = W := fun W => by simp [Sort.grow]
  rw [eg0] at p1 p2
  exact ⟨_, rfl, ints_shrink p1, by simpa using p2⟩

theorem delete_nil (i : Int) (B : Nat) (w : World) :
    Calls Try.prog 61 #[.slice none 0 0, .func (.func 63) #[] #[.pointer (some ⟨B, 0, none⟩)]] w fun e w' => e = .returned (.slice none 0 0) ∧ w = w' := by
  have hI : Hid (∀ w, Calls Try.prog 109 #[.slice none 0 0, .func (.func 63) #[] #[.pointer (some ⟨B, 0, none⟩)]] w fun e w' => e = .returned (.int .i64 (-1)) ∧ w = w') := Lib.hid (fun w => by
    go_enter Try.func109, Try.ntmps109
    go_wp2
    refine wp_loop_rounds 1 ?_
    rw [rounds_succ]
    go_wp2
    go_ret
    exact ⟨rfl, rfl⟩)
  go_enter Try.func61, Try.ntmps61
  go_wp2_with (go_at_call 109; (with_reducible refine (hI.out _).mono ?_); rintro e w1 ⟨rfl, rfl⟩)
  go_ret
  exact ⟨rfl, rfl⟩

/-- What is known behind it. -/
def Without (xs : List Int) (i : Int) (w : World) (e : Ending) (w' : World) : Prop := ∃ v, e = .returned v ∧ Ints w' w.heap.size v (notOne xs i) ∧ Only (fun _ => False) w w'

theorem without_any (v : Value) (xs : List Int) (i : Int) (w : World) (h : Nums w v xs) (hnil : ∀ l c, v = .slice none l c → c = 0) (hl : xs.length ≤ 17000000000000) :
    Calls Try.prog 19 #[v, .int .i64 i] w (Without xs i w) := by
  have hO1 : Only (fun _ => False) w (w.alloc (.cells #[.int .i64 i] 3)) := (Only.refl _ w).alloc _
  have HO1 := Lib.hid hO1
  have HC := Lib.hid (clone_ints v xs (w.alloc (.cells #[.int .i64 i] 3)) (h.later hO1) hnil hl)
  have hb := heap_alloc_new w (.cells #[.int .i64 i] 3)
  have HB := Lib.hid hb
  have HL := Lib.hid hl
  have hsz : w.heap.size < (w.alloc (.cells #[.int .i64 i] 3)).heap.size := by simp
  have HSZ := Lib.hid hsz
  clear h hnil hl hb hO1 hsz
  have main : Hid (∀ (w1 : World) (v1 : Value), Ints w1 (w.alloc (.cells #[.int .i64 i] 3)).heap.size v1 xs → Only (fun _ => False) (w.alloc (.cells #[.int .i64 i] 3)) w1 →
      Calls Try.prog 61 #[v1, .func (.func 63) #[] #[.pointer (some ⟨w.heap.size, 0, none⟩)]] w1 (Without xs i w)) := Lib.hid (fun w1 v1 hi hO => by
    have hc : w1.cell? ⟨w.heap.size, 0, none⟩ = some (.int .i64 i) := by
      have : w1.heap[w.heap.size]? = _ := (hO.block _ HSZ.out (fun e => e)).trans HB.out
      rw [cell_at this]; rfl
    obtain ⟨a, c, rfl, h1, h2⟩ := hi.shape
    cases a with
    | none =>
      have hx := h1 rfl
      subst hx
      have h0 := hi.nil_cap _ _ rfl
      subst h0
      exact (delete_nil i w.heap.size w1).mono fun e w' ⟨q1, q2⟩ => ⟨_, q1, by subst q2; exact ints_nil _ _, by subst q2; exact HO1.out.trans hO (fun _ _ e => e)⟩
    | some ad =>
      obtain ⟨g, rfl, hg1, hg2⟩ := h2 ad rfl
      have := HSZ.out
      refine (delete_own g xs.length c i w.heap.size _ xs w1 hi rfl (block_lt hc) (by omega) hc (by have := HL.out; omega)).mono fun e w' ⟨v', q1, q2, q3⟩ => ⟨v', q1, q2.base (by omega), ?_⟩
      exact (HO1.out.trans hO (fun _ _ e => e)).trans q3 (fun k hk e => by omega))
  go_enter Try.func19, Try.ntmps19
  go_wp2_with (first
    | (go_at_call 62; (with_reducible refine HC.out.mono ?_); rintro e w1 ⟨v1, rfl, hi, hO⟩; have HI := Lib.hid hi; have HO := Lib.hid hO; clear hi hO)
    | (go_at_call 61; have hc := main.out _ _ HI.out HO.out; (with_reducible refine hc.mono ?_); clear hc; rintro e w2 ⟨v2, rfl, hi, hO⟩; have HI2 := Lib.hid hi; have HO2 := Lib.hid hO; clear hi hO))
  go_ret
  exact ⟨_, rfl, HI2.out, HO2.out⟩
end Go.Proofs.Ytddfdnhlghmapaa
