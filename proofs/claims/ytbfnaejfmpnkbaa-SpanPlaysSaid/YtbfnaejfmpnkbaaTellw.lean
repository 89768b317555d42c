/- The walk of spanTells. -/
import Derived.Test.YtbfnaejfmpnkbaaTells
namespace Go.Proofs.Ytbfnaejfmpnkbaa
open Go.ChangeShapes Go.WideShapes Go.ChangeAt Go.RowKit
set_option linter.unusedVariables false

/-- What is said of a thing that is told, or of none. -/
def Sees (L : List El) (o : Option El) (b : Bool) (i : Nat) : Prop := (o = none ∧ b = false) ∨ ∃ x, o = some x ∧ b = true ∧ i < L.length ∧ thg L i = x

theorem sees_dec {L : List El} {o : Option El} {c P : Prop} [Decidable c] [Decidable P] {i j : Nat} (ho : o = if c then some (thg L j) else none) (hc : c → j < L.length ∧ i = j) (hP : P ↔ c) : Sees L o (decide P) i := by
  by_cases h : c
  · obtain ⟨h1, h2⟩ := hc h
    subst h2
    rw [if_pos h] at ho
    exact Or.inr ⟨_, ho, decide_eq_true (hP.2 h), h1, rfl⟩
  · rw [if_neg h] at ho
    exact Or.inl ⟨ho, decide_eq_false (fun g => h (hP.1 g))⟩

theorem thing_ok {B i : Nat} {V : Value} {L : List El} {w : World} {o : Option El} {b : Bool} {t1 t2 t3 t4 iv : Int} (h : ThingsAt w B V L) (ht : told o = .tuple #[.int .i64 t1, .int .i64 t2, .int .i64 t3, .int .i64 t4]) (hs : Sees L o b i) (hiv : (i : Int) = iv) :
    Calls Try.prog 32 #[.int .i64 t1, .int .i64 t2, .int .i64 t3, .int .i64 t4, V, .bool b, .int .i64 iv] w fun e w' => e = .returned (.bool true) ∧ w = w' := by
  subst hiv
  rcases hs with ⟨rfl, rfl⟩ | ⟨x, rfl, rfl, hi, hx⟩
  · simp only [told, Value.tuple.injEq, Array.mk.injEq, List.cons.injEq, Value.int.injEq, and_true, true_and] at ht
    obtain ⟨rfl, rfl, rfl, rfl⟩ := ht
    exact thing_none V i w
  · simp only [told, Value.tuple.injEq, Array.mk.injEq, List.cons.injEq, Value.int.injEq, and_true, true_and] at ht
    obtain ⟨rfl, rfl, rfl, rfl⟩ := ht
    exact thing_some x B i V L w h hi hx

theorem deep_zero {n d : Nat} (h : Low n d) : ((d : Int) == 0) = ((n : Int) == 0) := by
  have h1 := h.1
  have h2 := h.2.1
  by_cases g : n = 0
  · have : d = 0 := by omega
    rw [g, this]
  · have : d ≠ 0 := fun e => by rw [e] at h2; simp at h2; omega
    rw [show ((d : Int) == 0) = false from beq_eq_false_iff_ne.2 (by omega), show ((n : Int) == 0) = false from beq_eq_false_iff_ne.2 (by omega)]

theorem bits_is {n v : Nat} (h : n ≤ 9223372036854775807) (hv : bt n = v) (w : World) : Calls Try.prog 33 #[.int .i64 n] w fun e w' => e = .returned (.int .i64 v) ∧ w = w' := by
  subst hv; exact bits_any n w h

theorem head_idx (L : List El) : L.head? = if 0 < L.length then some (thg L 0) else none := by
  cases L with
  | nil => rfl
  | cons x l => rw [if_pos (by simp)]; rfl

/-- Where the loop has found the next thing. -/
def Nx (L : List El) (k i : Int) (j q : Nat) : Prop := (nextI L k i < j ∧ q = nextI L k i) ∨ (j ≤ nextI L k i ∧ q = L.length)
/-- .. and the thing in which a number lies. -/
def Ls (L : List El) (n : Int) (j r : Nat) : Prop := (0 ≤ n ∧ liesI L n < j ∧ r = liesI L n) ∨ (¬ (0 ≤ n ∧ liesI L n < j) ∧ r = L.length)

theorem nextI_le (L : List El) (k i : Int) : nextI L k i ≤ L.length := List.findIdx_le_length
theorem liesI_le (L : List El) (n : Int) : liesI L n ≤ L.length := by
  induction L generalizing n with
  | nil => exact Nat.le_refl _
  | cons x l ih => simp only [liesI]; split; exact Nat.zero_le _; simpa using ih (n - x.w)

theorem nx_end {L : List El} {k i : Int} {q : Nat} (h : Nx L k i L.length q) : q = nextI L k i := by
  have := nextI_le L k i
  rcases h with ⟨_, h⟩ | ⟨h1, h⟩ <;> omega
theorem ls_end {L : List El} {n : Int} {r : Nat} (h : Ls L n L.length r) : (0 ≤ n ∧ liesI L n < L.length → r = liesI L n) ∧ (r < L.length ↔ 0 ≤ n ∧ liesI L n < L.length) := by
  rcases h with ⟨h0, h1, h⟩ | ⟨h1, h⟩
  · subst h; exact ⟨fun _ => rfl, fun _ => ⟨h0, h1⟩, fun _ => h1⟩
  · subst h; exact ⟨fun g => absurd g h1, fun g => absurd g (Nat.lt_irrefl _), fun g => absurd g h1⟩

theorem nx_not {L : List El} {k i : Int} {j q : Nat} (h : Nx L k i j q) (hj : j < L.length) (hx : ¬ aft (thg L j) k i) : Nx L k i (j + 1) q := by
  rcases h with ⟨h1, h⟩ | ⟨h1, h⟩
  · exact Or.inl ⟨by omega, h⟩
  · have := mt (nextI_at hj h1).1 hx
    exact Or.inr ⟨by omega, h⟩
theorem nx_found {L : List El} {k i : Int} {j : Nat} (h : j ≤ nextI L k i) (hj : j < L.length) (hx : aft (thg L j) k i) : Nx L k i (j + 1) j := by
  have := (nextI_at hj h).2 hx
  exact Or.inl ⟨by omega, this.symm⟩
theorem ls_not {L : List El} {n : Int} {j : Nat} (hL : Light L) (h : ¬ (0 ≤ n ∧ liesI L n < j)) (hj : j < L.length) (hx : ¬ (0 ≤ n ∧ n < wts (L.take (j + 1)))) : Ls L n (j + 1) L.length := by
  refine Or.inr ⟨fun g => hx ⟨g.1, (liesI_lt hL g.1 (by omega)).1 g.2⟩, rfl⟩
theorem ls_found {L : List El} {n : Int} {j : Nat} (hL : Light L) (h : ¬ (0 ≤ n ∧ liesI L n < j)) (hj : j < L.length) (h0 : 0 ≤ n) (hx : n < wts (L.take (j + 1))) : Ls L n (j + 1) j := by
  have h1 := (liesI_lt hL h0 (j := j + 1) (by omega)).2 hx
  have h2 : ¬ liesI L n < j := fun g => h ⟨h0, g⟩
  exact Or.inl ⟨h0, h1, by omega⟩

/-- What spanTells' loop has come to. -/
structure Telling (L : List El) (key id n : Int) (j : Nat) (sm ah : Int) (q r : Nat) : Prop where
  le : j ≤ L.length
  sum : sm = wts (L.take j)
  ahead : ah = aheadL (L.take j) key id
  next : Nx L key id j q
  lies : Ls L n j r

theorem box_cells {W w2 : World} {a b c : Value} (hb : Below (W.alloc (.cells #[a, b, c] 32)).heap.size (W.alloc (.cells #[a, b, c] 32)) w2) :
    w2.cell? ⟨W.heap.size, 0, none⟩ = some a ∧ w2.cell? ⟨W.heap.size, 1, none⟩ = some b ∧ w2.cell? ⟨W.heap.size, 2, none⟩ = some c ∧ Below W.heap.size W w2 := by
  have hh : w2.heap[W.heap.size]? = some (.cells #[a, b, c] 32 (0, 0)) := (hb.block W.heap.size (by simp)).trans (heap_alloc_new W _)
  refine ⟨by rw [cell_at hh]; rfl, by rw [cell_at hh]; rfl, by rw [cell_at hh]; rfl, ((Below.refl _ W).alloc (Nat.le_refl _) _).trans (hb.mono (by simp))⟩

theorem light_take {L : List El} (h : Light L) (j : Nat) : Light (L.take j) := fun x hx => h x (List.mem_of_mem_take hx)

set_option maxRecDepth 100000 in
set_option maxHeartbeats 4000000 in
theorem tells_walk (M : Nat → Prop) (B p : Nat) (V : Value) (L : List El) (key id n : Int) (w : World) (ht : TreeAt M w p L) (hl : ThingsAt w B V L) (hn : (Lit.int .i64 n).wf = true) :
    Calls Try.prog 17 #[.pointer (some ⟨p, 0, none⟩), V, .int .i64 key, .int .i64 id, .int .i64 n] w fun e w' => e = .returned (.bool true) ∧ Only (fun _ => False) w w' := by
  have hfew := ht.few
  have hlight := ht.light
  have HT := Lib.hid ht
  have HLI := Lib.hid hlight
  have HN := Lib.hid hn
  obtain ⟨a, cap, rfl, hadr⟩ : ∃ a cap, V = .slice a L.length cap ∧ (0 < L.length → ∃ g, a = some ⟨g, 0, none⟩) := by
    rcases hl.cases with ⟨rfl, rfl⟩ | ⟨g, cap, cur, rfl, -⟩
    · exact ⟨none, 0, rfl, fun h => absurd h (by decide)⟩
    · exact ⟨_, cap, rfl, fun _ => ⟨g, rfl⟩⟩
  have HH := Lib.hid hl
  have HAD := Lib.hid hadr
  clear ht hl hn hadr hlight
  go_enter Try.func17, Try.ntmps17
  go_wp2_with fail
  go_loopw [11, 12, 13, 14, 28] (fun s11 s12 s13 s14 s28 wr => ∃ (j : Nat) (sm ah : Int) (q r : Nat), s28 = .int .i64 j ∧ s11 = .int .i64 sm ∧ s12 = .int .i64 ah ∧ s13 = .int .i64 q ∧ s14 = .int .i64 r ∧ Telling L key id n j sm ah q r ∧ Below w.heap.size w wr) (fun _ _ _ _ s28 _ => L.length - (intOf s28).toNat)
  case atStart => exact ⟨0, 0, 0, L.length, L.length, rfl, rfl, rfl, rfl, rfl, ⟨Nat.zero_le _, rfl, rfl, Or.inr ⟨Nat.zero_le _, rfl⟩, Or.inr ⟨fun h => absurd h.2 (Nat.not_lt_zero _), rfl⟩⟩, Below.refl _ _⟩
  case round =>
    obtain ⟨j, sm, ah, q, r, rfl, rfl, rfl, rfl, rfl, hT, hb⟩ := hrel
    have HB := Lib.hid hb
    have bs := wts_bd (light_take HLI.out j)
    have ba := aheadL_bd key id (light_take HLI.out j)
    have btl : (L.take j).length ≤ 6000000000000 := Nat.le_trans (List.length_take_le' j L) hfew
    rw [← hT.sum] at bs ba
    rw [← hT.ahead] at ba
    have s0 : 0 ≤ sm := bs.1
    have s1 : sm ≤ 6000000000000000000 := by omega
    have a0 : 0 ≤ ah := ba.1
    have a1 : ah ≤ 6000000000000000000 := by omega
    have HTL := Lib.hid hT
    have hjl := hT.le
    clear hb bs ba btl hT
    by_cases hlt : j < L.length
    · obtain ⟨g, rfl⟩ := HAD.out (by omega)
      have hth := HH.out.later (Only.of_below (S := fun _ => False) HB.out)
      obtain ⟨x0, x1, x2⟩ : wr.cell? ⟨g, j * 3, none⟩ = some (.int .i64 (thg L j).k) ∧ wr.cell? ⟨g, j * 3 + 1, none⟩ = some (.int .i64 (thg L j).i) ∧ wr.cell? ⟨g, j * 3 + 2, none⟩ = some (.int .i64 (thg L j).w) := by
        rcases hth.cases with ⟨h, -⟩ | ⟨g', cap', cur, h, -, -, -, -, -, -, hc⟩
        · cases h
        · cases h; exact hc j hlt
      have hw := HLI.out (thg L j) (thg_mem hlt)
      have w0 : 0 ≤ (thg L j).w := hw.1
      have w1 : (thg L j).w ≤ 1000000 := hw.2
      have HSM : Hid (wts (L.take (j + 1)) = sm + (thg L j).w) := Lib.hid (by rw [wts_more hlt, HTL.out.sum])
      have HAM : Hid (aheadL (L.take (j + 1)) key id = ah + if bef (thg L j) key id then (thg L j).w else 0) := Lib.hid (by rw [ahead_more key id hlt, HTL.out.ahead])
      have g1 : (j : Int) < L.length := by omega
      have g2 : (0 : Int) ≤ j := by omega
      clear hth hw
      -- the number's place behind this round
      have hls : ∃ r', Ls L n (j + 1) r' ∧ ((((r : Int) == (L.length : Int)) = false ∧ r = r') ∨ (r = L.length ∧ 0 ≤ n ∧ n < sm + (thg L j).w ∧ j = r') ∨ (r = L.length ∧ 0 ≤ n ∧ sm + (thg L j).w ≤ n ∧ r = r') ∨ (r = L.length ∧ n < 0 ∧ r = r')) := by
        rcases HTL.out.lies with ⟨h0, h1, h⟩ | ⟨h1, h⟩
        · exact ⟨r, Or.inl ⟨h0, by omega, h⟩, Or.inl ⟨by simp; omega, rfl⟩⟩
        · by_cases h0 : 0 ≤ n
          · by_cases hx : n < sm + (thg L j).w
            · exact ⟨j, ls_found HLI.out h1 hlt h0 (by rw [HSM.out]; exact hx), Or.inr (Or.inl ⟨h, h0, hx, rfl⟩)⟩
            · exact ⟨r, by rw [h]; exact ls_not HLI.out h1 hlt (by rw [HSM.out]; omega), Or.inr (Or.inr (Or.inl ⟨h, h0, by omega, rfl⟩))⟩
          · exact ⟨r, by rw [h]; exact ls_not HLI.out h1 hlt (by omega), Or.inr (Or.inr (Or.inr ⟨h, by omega, rfl⟩))⟩
      obtain ⟨r', hLS, hcase⟩ := hls
      have HLS := Lib.hid hLS
      have HNX := Lib.hid HTL.out.next
      clear hLS
      obtain ⟨x, hx⟩ : ∃ x, thg L j = x := ⟨_, rfl⟩
      rw [hx] at x0 x1 x2 w0 w1 HSM HAM hcase
      have HX := Lib.hid hx
      clear hx
      rcases Int.lt_trichotomy x.k key with hk | hk | hk
      · have HV : Hid (decide (bef x key id) = true) := Lib.hid (decide_eq_true (Or.inl hk))
        have HA2 : Hid (aheadL (L.take (j + 1)) key id = ah + x.w) := Lib.hid (by rw [HAM.out]; rw [if_pos (of_decide_eq_true HV.out)])
        have HQ : Hid (Nx L key id (j + 1) q) := Lib.hid (nx_not HNX.out hlt (by rw [HX.out]; unfold aft; omega))
        rcases hcase with ⟨l1, rfl⟩ | ⟨rfl, l1, l2, rfl⟩ | ⟨rfl, l1, l2, rfl⟩ | ⟨rfl, l1, rfl⟩
        all_goals
          go_wp2_with (go_at_call 13; go_must (refine (before_any x key id true HV.out _).mono ?_); rintro e w2 ⟨rfl, hb2⟩; obtain ⟨y0, y1, y2, hb3⟩ := box_cells hb2; have HB2 := Lib.hid (HB.out.trans (hb3.mono HB.out.size)); clear hb2 hb3)
          go_roundw
          case rel => exact ⟨j + 1, _, _, _, _, by go_num, rfl, rfl, rfl, rfl, ⟨by omega, HSM.out.symm, HA2.out.symm, HQ.out, HLS.out⟩, HB2.out⟩
          case measure => simp [intOf]; omega
      · rcases Int.lt_trichotomy x.i id with hi | hi | hi
        · have hk2 : (x.k == key) = true := by simpa using hk
          have hk3 : ¬ x.k < key := by omega
          have HV : Hid (decide (bef x key id) = true) := Lib.hid (decide_eq_true (Or.inr ⟨hk, hi⟩))
          have HA2 : Hid (aheadL (L.take (j + 1)) key id = ah + x.w) := Lib.hid (by rw [HAM.out]; rw [if_pos (of_decide_eq_true HV.out)])
          have HQ : Hid (Nx L key id (j + 1) q) := Lib.hid (nx_not HNX.out hlt (by rw [HX.out]; unfold aft; omega))
          clear hk
          rcases hcase with ⟨l1, rfl⟩ | ⟨rfl, l1, l2, rfl⟩ | ⟨rfl, l1, l2, rfl⟩ | ⟨rfl, l1, rfl⟩
          all_goals
            go_wp2_with (go_at_call 13; go_must (refine (before_any x key id true HV.out _).mono ?_); rintro e w2 ⟨rfl, hb2⟩; obtain ⟨y0, y1, y2, hb3⟩ := box_cells hb2; have HB2 := Lib.hid (HB.out.trans (hb3.mono HB.out.size)); clear hb2 hb3)
            go_roundw
            case rel => exact ⟨j + 1, _, _, _, _, by go_num, rfl, rfl, rfl, rfl, ⟨by omega, HSM.out.symm, HA2.out.symm, HQ.out, HLS.out⟩, HB2.out⟩
            case measure => simp [intOf]; omega
        · have hk2 : (x.k == key) = true := by simpa using hk
          have hk4 : (x.k != key) = false := by simpa using hk
          have hi4 : (x.i != id) = false := by simpa using hi
          have hk3 : ¬ x.k < key := by omega
          have HBE : Hid (¬ bef x key id) := Lib.hid (fun h => by unfold bef at h; omega)
          have HAE : Hid (¬ aft x key id) := Lib.hid (fun h => by unfold aft at h; omega)
          clear hk hi
          rcases HNX.out with ⟨n1, n2⟩ | ⟨n1, n2⟩
          · have q2 : ((q : Int) == (L.length : Int)) = false := by simp; omega
            have HV : Hid (decide (bef x key id) = false) := Lib.hid (decide_eq_false HBE.out)
            have HA2 : Hid (aheadL (L.take (j + 1)) key id = ah) := Lib.hid (by rw [HAM.out]; rw [if_neg (of_decide_eq_false HV.out)]; omega)
            have HQ : Hid (Nx L key id (j + 1) q) := Lib.hid (Or.inl ⟨by omega, n2⟩)
            clear n1 n2
            rcases hcase with ⟨l1, rfl⟩ | ⟨rfl, l1, l2, rfl⟩ | ⟨rfl, l1, l2, rfl⟩ | ⟨rfl, l1, rfl⟩
            all_goals
              go_wp2_with (go_at_call 13; go_must (refine (before_any x key id false HV.out _).mono ?_); rintro e w2 ⟨rfl, hb2⟩; obtain ⟨y0, y1, y2, hb3⟩ := box_cells hb2; have HB2 := Lib.hid (HB.out.trans (hb3.mono HB.out.size)); clear hb2 hb3)
              go_roundw
              case rel => exact ⟨j + 1, _, _, _, _, by go_num, rfl, rfl, rfl, rfl, ⟨by omega, HSM.out.symm, HA2.out.symm, HQ.out, HLS.out⟩, HB2.out⟩
              case measure => simp [intOf]; omega
          · subst n2
            have HV : Hid (decide (bef x key id) = false) := Lib.hid (decide_eq_false HBE.out)
            have HA2 : Hid (aheadL (L.take (j + 1)) key id = ah) := Lib.hid (by rw [HAM.out]; rw [if_neg (of_decide_eq_false HV.out)]; omega)
            have HQ : Hid (Nx L key id (j + 1) L.length) := Lib.hid (nx_not HNX.out hlt (by rw [HX.out]; exact HAE.out))
            clear n1
            rcases hcase with ⟨l1, rfl⟩ | ⟨rfl, l1, l2, rfl⟩ | ⟨rfl, l1, l2, rfl⟩ | ⟨rfl, l1, rfl⟩
            all_goals
              go_wp2_with (go_at_call 13; go_must (refine (before_any x key id false HV.out _).mono ?_); rintro e w2 ⟨rfl, hb2⟩; obtain ⟨y0, y1, y2, hb3⟩ := box_cells hb2; have HB2 := Lib.hid (HB.out.trans (hb3.mono HB.out.size)); clear hb2 hb3)
              go_roundw
              case rel => exact ⟨j + 1, _, _, _, _, by go_num, rfl, rfl, rfl, rfl, ⟨by omega, HSM.out.symm, HA2.out.symm, HQ.out, HLS.out⟩, HB2.out⟩
              case measure => simp [intOf]; omega
        · have haf : aft x key id := Or.inr ⟨hk, hi⟩
          have HAF := Lib.hid haf
          clear haf
          rcases HNX.out with ⟨n1, n2⟩ | ⟨n1, n2⟩
          · have q2 : ((q : Int) == (L.length : Int)) = false := by simp; omega
            have hk4 : (x.k != key) = false := by simpa using hk
            have hi4 : (x.i != id) = true := by simp; omega
            have HV : Hid (decide (bef x key id) = false) := Lib.hid (decide_eq_false (fun h => by have := HAF.out; unfold bef aft at *; omega))
            have HA2 : Hid (aheadL (L.take (j + 1)) key id = ah) := Lib.hid (by rw [HAM.out]; rw [if_neg (of_decide_eq_false HV.out)]; omega)
            have HQ : Hid (Nx L key id (j + 1) q) := Lib.hid (Or.inl ⟨by omega, n2⟩)
            clear n1 n2 hk
            rcases hcase with ⟨l1, rfl⟩ | ⟨rfl, l1, l2, rfl⟩ | ⟨rfl, l1, l2, rfl⟩ | ⟨rfl, l1, rfl⟩
            all_goals
              go_wp2_with (go_at_call 13; go_must (refine (before_any x key id false HV.out _).mono ?_); rintro e w2 ⟨rfl, hb2⟩; obtain ⟨y0, y1, y2, hb3⟩ := box_cells hb2; have HB2 := Lib.hid (HB.out.trans (hb3.mono HB.out.size)); clear hb2 hb3)
              go_roundw
              case rel => exact ⟨j + 1, _, _, _, _, by go_num, rfl, rfl, rfl, rfl, ⟨by omega, HSM.out.symm, HA2.out.symm, HQ.out, HLS.out⟩, HB2.out⟩
              case measure => simp [intOf]; omega
          · subst n2
            have hk4 : (x.k != key) = false := by simpa using hk
            have hi4 : (x.i != id) = true := by simp; omega
            have HV : Hid (decide (bef x key id) = false) := Lib.hid (decide_eq_false (fun h => by have := HAF.out; unfold bef aft at *; omega))
            have HA2 : Hid (aheadL (L.take (j + 1)) key id = ah) := Lib.hid (by rw [HAM.out]; rw [if_neg (of_decide_eq_false HV.out)]; omega)
            have HQ : Hid (Nx L key id (j + 1) j) := Lib.hid (nx_found n1 hlt (by rw [HX.out]; exact HAF.out))
            clear n1 hk
            rcases hcase with ⟨l1, rfl⟩ | ⟨rfl, l1, l2, rfl⟩ | ⟨rfl, l1, l2, rfl⟩ | ⟨rfl, l1, rfl⟩
            all_goals
              go_wp2_with (go_at_call 13; go_must (refine (before_any x key id false HV.out _).mono ?_); rintro e w2 ⟨rfl, hb2⟩; obtain ⟨y0, y1, y2, hb3⟩ := box_cells hb2; have HB2 := Lib.hid (HB.out.trans (hb3.mono HB.out.size)); clear hb2 hb3)
              go_roundw
              case rel => exact ⟨j + 1, _, _, _, _, by go_num, rfl, rfl, rfl, rfl, ⟨by omega, HSM.out.symm, HA2.out.symm, HQ.out, HLS.out⟩, HB2.out⟩
              case measure => simp [intOf]; omega
      · rcases Int.lt_trichotomy 0 1 with hz | hz | hz
        · have haf : aft x key id := Or.inl hk
          have HAF := Lib.hid haf
          clear haf
          rcases HNX.out with ⟨n1, n2⟩ | ⟨n1, n2⟩
          · have q2 : ((q : Int) == (L.length : Int)) = false := by simp; omega
            have hk4 : (x.k != key) = true := by simp; omega
            have HV : Hid (decide (bef x key id) = false) := Lib.hid (decide_eq_false (fun h => by have := HAF.out; unfold bef aft at *; omega))
            have HA2 : Hid (aheadL (L.take (j + 1)) key id = ah) := Lib.hid (by rw [HAM.out]; rw [if_neg (of_decide_eq_false HV.out)]; omega)
            have HQ : Hid (Nx L key id (j + 1) q) := Lib.hid (Or.inl ⟨by omega, n2⟩)
            clear n1 n2
            rcases hcase with ⟨l1, rfl⟩ | ⟨rfl, l1, l2, rfl⟩ | ⟨rfl, l1, l2, rfl⟩ | ⟨rfl, l1, rfl⟩
            all_goals
              go_wp2_with (go_at_call 13; go_must (refine (before_any x key id false HV.out _).mono ?_); rintro e w2 ⟨rfl, hb2⟩; obtain ⟨y0, y1, y2, hb3⟩ := box_cells hb2; have HB2 := Lib.hid (HB.out.trans (hb3.mono HB.out.size)); clear hb2 hb3)
              go_roundw
              case rel => exact ⟨j + 1, _, _, _, _, by go_num, rfl, rfl, rfl, rfl, ⟨by omega, HSM.out.symm, HA2.out.symm, HQ.out, HLS.out⟩, HB2.out⟩
              case measure => simp [intOf]; omega
          · subst n2
            have hk4 : (x.k != key) = true := by simp; omega
            have HV : Hid (decide (bef x key id) = false) := Lib.hid (decide_eq_false (fun h => by have := HAF.out; unfold bef aft at *; omega))
            have HA2 : Hid (aheadL (L.take (j + 1)) key id = ah) := Lib.hid (by rw [HAM.out]; rw [if_neg (of_decide_eq_false HV.out)]; omega)
            have HQ : Hid (Nx L key id (j + 1) j) := Lib.hid (nx_found n1 hlt (by rw [HX.out]; exact HAF.out))
            clear n1
            rcases hcase with ⟨l1, rfl⟩ | ⟨rfl, l1, l2, rfl⟩ | ⟨rfl, l1, l2, rfl⟩ | ⟨rfl, l1, rfl⟩
            all_goals
              go_wp2_with (go_at_call 13; go_must (refine (before_any x key id false HV.out _).mono ?_); rintro e w2 ⟨rfl, hb2⟩; obtain ⟨y0, y1, y2, hb3⟩ := box_cells hb2; have HB2 := Lib.hid (HB.out.trans (hb3.mono HB.out.size)); clear hb2 hb3)
              go_roundw
              case rel => exact ⟨j + 1, _, _, _, _, by go_num, rfl, rfl, rfl, rfl, ⟨by omega, HSM.out.symm, HA2.out.symm, HQ.out, HLS.out⟩, HB2.out⟩
              case measure => simp [intOf]; omega
        · omega
        · omega
    · have e : j = L.length := by omega
      subst e
      have HS : Hid (wts L = sm) := Lib.hid (by have := HTL.out.sum; rw [List.take_length] at this; exact this.symm)
      have HA : Hid (aheadL L key id = ah) := Lib.hid (by have := HTL.out.ahead; rw [List.take_length] at this; exact this.symm)
      have HQE : Hid (q = nextI L key id) := Lib.hid (nx_end HTL.out.next)
      have HRE := Lib.hid (ls_end HTL.out.lies)
      obtain ⟨a1', a2', a3', a4', h1, -⟩ := tells_of L.head?
      obtain ⟨b1', b2', b3', b4', h2, -⟩ := tells_of (nextL L key id)
      obtain ⟨c1', c2', c3', c4', h3, -⟩ := tells_of (atL L n)
      have T1 := Lib.hid h1
      have T2 := Lib.hid h2
      have T3 := Lib.hid h3
      have HT0 := Lib.hid (HT.out.later (Only.of_below (S := fun _ => False) HB.out))
      have HH0 := Lib.hid (HH.out.later (Only.of_below (S := fun _ => False) HB.out))
      have HO0 := Lib.hid (Only.of_below (S := fun _ => False) HB.out)
      obtain ⟨bn, hbn⟩ : ∃ bn, bt L.length = bn := ⟨_, rfl⟩
      have b64 : bn ≤ 63 := by rw [← hbn]; exact bt_64 (by omega)
      have HBN := Lib.hid hbn
      clear h1 h2 h3 hbn hlt hjl
      by_cases hz : L.length = 0
      all_goals
        have HZ := Lib.hid hz
        have hzb : ((L.length : Int) == 0) = decide (L.length = 0) := by
          by_cases g : L.length = 0
          · rw [g]; rfl
          · rw [decide_eq_false g]; exact beq_eq_false_iff_ne.2 (by omega)
        first | rw [decide_eq_true hz] at hzb | rw [decide_eq_false hz] at hzb
        clear hz
        go_wp2_with (first
          | (go_at_call 20; (with_reducible refine (tleast HT0.out).mono ?_); rintro e w3 ⟨rfl, ho⟩; rw [T1.out]; have HT1 := Lib.hid (HT0.out.later ho); have HH1 := Lib.hid (HH0.out.later ho); have HO1 := Lib.hid (HO0.out.trans ho (fun _ _ e => e)); clear ho)
          | (go_at_call 32; have hc1 := thing_ok (i := 0) (iv := 0) (b := decide (0 < L.length)) HH1.out T1.out (sees_dec (head_idx L) (fun h => ⟨h, rfl⟩) Iff.rfl) rfl; (with_reducible refine hc1.mono ?_); clear hc1; rintro e w3 ⟨rfl, rfl⟩)
          | (go_at_call 23; (with_reducible refine (tnext HT1.out key id).mono ?_); rintro e w3 ⟨rfl, ho⟩; rw [T2.out]; have HT2 := Lib.hid (HT1.out.later ho); have HH2 := Lib.hid (HH1.out.later ho); have HO2 := Lib.hid (HO1.out.trans ho (fun _ _ e => e)); clear ho)
          | (go_at_call 32; have hc2 := thing_ok (i := q) (iv := q) (b := decide (q < L.length)) HH2.out T2.out (sees_dec (nextL_idx L key id) (fun h => ⟨h, HQE.out⟩) (by rw [HQE.out])) rfl; (with_reducible refine hc2.mono ?_); clear hc2; rintro e w3 ⟨rfl, rfl⟩)
          | (go_at_call 24; (with_reducible refine (tat HT2.out HN.out).mono ?_); rintro e w3 ⟨rfl, ho⟩; rw [T3.out]; have HT3 := Lib.hid (HT2.out.later ho); have HH3 := Lib.hid (HH2.out.later ho); have HO3 := Lib.hid (HO2.out.trans ho (fun _ _ e => e)); clear ho)
          | (go_at_call 32; have hc3 := thing_ok (i := r) (iv := r) (b := decide (r < L.length)) HH3.out T3.out (sees_dec (atL_idx n) (fun h => ⟨h.2, HRE.out.1 h⟩) HRE.out.2) rfl; (with_reducible refine hc3.mono ?_); clear hc3; rintro e w3 ⟨rfl, rfl⟩)
          | (go_at_call 25; (with_reducible refine (tdeep HT3.out).mono ?_); rintro e w3 ⟨d, hd, rfl, rfl⟩; have d0 : ((d : Int) == 0) = ((L.length : Int) == 0) := (by have := hd.1; have := hd.2.1; exact deep_zero hd); rw [hzb] at d0; have d1 : (bn : Int) ≤ d := (by have := bt_lo hd.2.1; have := HBN.out; omega); have d2 : 2 * (d : Int) ≤ 3 * bn + 2 := (by have := hd.2.2 _ (bt_hi L.length); have := HBN.out; omega); have d3 : (d : Int) ≤ 100 := (by omega); clear hd)
          | (go_at_call 22; (with_reducible refine (tahead_is HT3.out HA.out).mono ?_); rintro e w3 ⟨rfl, ho⟩; have HT4 := Lib.hid (HT3.out.later ho); have HO4 := Lib.hid (HO3.out.trans ho (fun _ _ e => e)); clear ho)
          | (go_at_call 11; (with_reducible refine (tsum_is HT4.out HS.out).mono ?_); rintro e w3 ⟨rfl, rfl⟩)
          | (go_at_call 19; (with_reducible refine (tlen HT4.out).mono ?_); rintro e w3 ⟨rfl, rfl⟩)
          | (go_at_call 33; (with_reducible refine (bits_is (by omega) HBN.out _).mono ?_); rintro e w3 ⟨rfl, rfl⟩))
        go_ret
        exact ⟨rfl, HO4.out⟩
end Go.Proofs.Ytbfnaejfmpnkbaa
