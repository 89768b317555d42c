/- The list of pairs that a play keeps beside the heap: at, IndexFunc, first. -/
import Derived.Test.YtonlhcebnbdjjaaSFace
namespace Go.Proofs.Ytonlhcebnbdjjaa.S
open Go.ChangeShapes Go.WideShapes Go.ChangeAt Go.RowKit Go.Maps
set_option linter.unusedVariables false

/-- A row of pairs. -/
def PairsAt (w : World) (B : Nat) (V : Value) (S : List (Int × ByteArray)) : Prop := w.ownsRow B 73 2 V S.length (cellsOf S)

theorem PairsAt.cases {w : World} {B : Nat} {V : Value} {S : List (Int × ByteArray)} (h : PairsAt w B V S) : (V = .slice none 0 0 ∧ S = []) ∨
    ∃ g cap, V = .slice (some ⟨g, 0, none⟩) S.length cap ∧ B ≤ g ∧ S.length ≤ cap ∧ cap ≤ 9223372036854775807 ∧ (∃ cur, w.heap[g]? = some (.cells cur 73 (0, 0))) ∧ ∀ i, i < S.length → w.cell? ⟨g, i * 2, none⟩ = some (.int .i64 (it S i).1) ∧ w.cell? ⟨g, i * 2 + 1, none⟩ = some (.string (it S i).2) := by
  rcases h with ⟨hl, ⟨rfl, h0⟩ | ⟨g, cap, cur, rfl, hb, h2, h3, h4, h5, h6⟩⟩
  · exact Or.inl ⟨rfl, List.eq_nil_of_length_eq_zero h0⟩
  · refine Or.inr ⟨g, cap, rfl, hb, h3, by unfold maxLen at h4; omega, ⟨cur, h2⟩, fun i hi => ?_⟩
    have hc := cellsOf_at hi
    have hlen := cellsOf_len S
    rw [← h6, List.getElem?_take_of_lt (by omega), List.getElem?_take_of_lt (by omega)] at hc
    rw [cell_at h2, cell_at h2]
    exact ⟨by simpa using hc.1, by simpa using hc.2⟩

theorem PairsAt.later {w w' : World} {B : Nat} {V : Value} {S : List (Int × ByteArray)} (h : PairsAt w B V S) (hO : Only (fun _ => False) w w') : PairsAt w' B V S := owns_kept h hO (fun _ _ e => e)

theorem at_in (a : Addr) (n cap j : Nat) (x : Int) (w : World) (hj : j < n) (hn : n ≤ 9223372036854775807) (hc : w.cell? (a.add j) = some (.int .i64 x)) :
    Calls Try.prog 29 #[.slice (some a) n cap, .int .i64 j] w fun e w' => e = .returned (.int .i64 x) ∧ w = w' := by
  have h1 : (j : Int) < n := by omega
  have h2 : (0 : Int) ≤ j := by omega
  go_enter Try.func29, Try.ntmps29
  go_wp2
  go_ret
  exact ⟨rfl, rfl⟩

theorem at_out (a : Option Addr) (n cap j : Nat) (w : World) (hj : n ≤ j) (hn : n ≤ 9223372036854775807) (hjj : j ≤ 100) :
    Calls Try.prog 29 #[.slice a n cap, .int .i64 j] w fun e w' => e = .returned (.int .i64 0) ∧ w = w' := by
  have h1 : ¬ (j : Int) < n := by omega
  go_enter Try.func29, Try.ntmps29
  go_wp2
  go_ret
  exact ⟨rfl, rfl⟩

/-- One of the closures that ask a pair for its id. -/
theorem asks_any (f : Nat) (hf : f = 37 ∨ f = 45) (B : Nat) (x : Int × ByteArray) (id : Int) (w : World) (hB : w.heap[B]? = some (.cells #[.int .i64 id] 3 (0, 0))) :
    Calls Try.prog f #[itemVal x, .pointer (some ⟨B, 0, none⟩)] w fun e w' => e = .returned (.bool (x.1 == id)) ∧ Below w.heap.size w w' := by
  have hc : w.cell? ⟨B, 0, none⟩ = some (.int .i64 id) := by rw [cell_at hB]; rfl
  have hlt := block_there hB
  unfold itemVal
  rcases hf with rfl | rfl
  · go_enter Try.func37, Try.ntmps37
    go_wp2
    go_ret
    exact ⟨rfl, (Below.refl _ w).alloc (Nat.le_refl _) _⟩
  · go_enter Try.func45, Try.ntmps45
    go_wp2
    go_ret
    exact ⟨rfl, (Below.refl _ w).alloc (Nat.le_refl _) _⟩

/-- Where a list has an id; -1: nowhere. -/
def Found (S : List (Int × ByteArray)) (id r : Int) : Prop := (r = -1 ∧ ∀ x ∈ S, x.1 ≠ id) ∨ ∃ i : Nat, r = i ∧ i < S.length ∧ (it S i).1 = id

def FoundAns (S : List (Int × ByteArray)) (id : Int) (w : World) (e : Ending) (w' : World) : Prop := ∃ r, e = .returned (.int .i64 r) ∧ Found S id r ∧ Below w.heap.size w w'

theorem asks_is (f : Nat) (hf : f = 37 ∨ f = 45) (B : Nat) (x : Int × ByteArray) (id : Int) (v : Bool) (hv : (x.1 == id) = v) (w : World) (hB : w.heap[B]? = some (.cells #[.int .i64 id] 3 (0, 0))) :
    Calls Try.prog f #[itemVal x, .pointer (some ⟨B, 0, none⟩)] w fun e w' => e = .returned (.bool v) ∧ Below w.heap.size w w' := by
  subst hv; exact asks_any f hf B x id w hB

theorem index_any (f : Nat) (hf : f = 37 ∨ f = 45) (B lo : Nat) (V : Value) (S : List (Int × ByteArray)) (id : Int) (w : World) (h : PairsAt w lo V S) (hB : w.heap[B]? = some (.cells #[.int .i64 id] 3 (0, 0))) :
    Calls Try.prog 36 #[V, .func (.func f) #[] #[.pointer (some ⟨B, 0, none⟩)]] w (FoundAns S id w) := by
  rcases h.cases with ⟨rfl, rfl⟩ | ⟨g, cap, rfl, -, hcap, hmx, ⟨cur, hcur⟩, hc⟩
  · go_enter Try.func36, Try.ntmps36
    go_wp2
    refine wp_loop_rounds 1 ?_
    rw [rounds_succ]
    go_wp2
    go_ret
    exact ⟨-1, rfl, Or.inl ⟨rfl, fun x hx => absurd hx (by simp)⟩, Below.refl _ _⟩
  · have HCB := Lib.hid hB
    have HC := Lib.hid hc
    have hgl := block_there hcur
    have hBl := block_there hB
    clear h hB hc hcur
    have hlen : S.length ≤ 9223372036854775807 := by omega
    go_enter Try.func36, Try.ntmps36
    go_wp2_with fail
    go_loopw [8] (fun v wr => ∃ j : Nat, v = .int .i64 j ∧ j ≤ S.length ∧ (∀ k, k < j → (it S k).1 ≠ id) ∧ Below w.heap.size w wr) (fun v _ => S.length - (intOf v).toNat)
    case atStart => exact ⟨0, rfl, Nat.zero_le _, fun k hk => absurd hk (Nat.not_lt_zero _), Below.refl _ _⟩
    case round =>
      obtain ⟨j, rfl, hj, hno, hb⟩ := hrel
      have HN := Lib.hid hno
      have HB := Lib.hid hb
      clear hno hb
      by_cases hjn : j < S.length
      · have g1 : (j : Int) < S.length := by omega
        have g2 : (0 : Int) ≤ j := by omega
        have x0 := (HB.out.cell (p := ⟨g, j * 2, none⟩) hgl).trans (HC.out j hjn).1
        have x1 := (HB.out.cell (p := ⟨g, j * 2 + 1, none⟩) hgl).trans (HC.out j hjn).2
        have hB2 : wr.heap[B]? = some (.cells #[.int .i64 id] 3 (0, 0)) := (HB.out.block B hBl).trans HCB.out
        have HB2 := Lib.hid hB2
        clear hB2
        rcases Bool.eq_false_or_eq_true ((it S j).1 == id) with hv | hv
        · rcases hf with rfl | rfl
          · go_wp2_with (go_at_call 37; refine (asks_is 37 (Or.inl rfl) B (it S j) id true hv _ HB2.out).mono ?_; rintro e w6 ⟨rfl, hb6⟩; have HB6 := Lib.hid (HB.out.trans (hb6.mono HB.out.size)); clear hb6)
            go_ret
            exact ⟨j, rfl, Or.inr ⟨j, rfl, hjn, by simpa using hv⟩, HB6.out⟩
          · go_wp2_with (go_at_call 45; refine (asks_is 45 (Or.inr rfl) B (it S j) id true hv _ HB2.out).mono ?_; rintro e w6 ⟨rfl, hb6⟩; have HB6 := Lib.hid (HB.out.trans (hb6.mono HB.out.size)); clear hb6)
            go_ret
            exact ⟨j, rfl, Or.inr ⟨j, rfl, hjn, by simpa using hv⟩, HB6.out⟩
        · have hne : ∀ k, k < j + 1 → (it S k).1 ≠ id := fun k hk => by
            by_cases e : k = j
            · subst e; simpa using hv
            · exact HN.out k (by omega)
          have HNE := Lib.hid hne
          clear hne
          rcases hf with rfl | rfl
          · go_wp2_with (go_at_call 37; refine (asks_is 37 (Or.inl rfl) B (it S j) id false hv _ HB2.out).mono ?_; rintro e w6 ⟨rfl, hb6⟩; have HB6 := Lib.hid (HB.out.trans (hb6.mono HB.out.size)); clear hb6)
            go_roundw
            case rel => exact ⟨j + 1, by go_num, by omega, HNE.out, HB6.out⟩
            case measure => simp [intOf]; omega
          · go_wp2_with (go_at_call 45; refine (asks_is 45 (Or.inr rfl) B (it S j) id false hv _ HB2.out).mono ?_; rintro e w6 ⟨rfl, hb6⟩; have HB6 := Lib.hid (HB.out.trans (hb6.mono HB.out.size)); clear hb6)
            go_roundw
            case rel => exact ⟨j + 1, by go_num, by omega, HNE.out, HB6.out⟩
            case measure => simp [intOf]; omega
      · have e : j = S.length := by omega
        subst e
        go_wp2_with fail
        go_ret
        exact ⟨-1, rfl, Or.inl ⟨rfl, fun x hx => by
          obtain ⟨k, hk, rfl⟩ := List.getElem_of_mem hx
          rw [← it_eq hk]; exact HN.out k hk⟩, HB.out⟩
end Go.Proofs.Ytonlhcebnbdjjaa.S
