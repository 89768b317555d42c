/- thing and bits; and where in a list the next thing stands, and the thing in which a number lies. -/
import Derived.Test.YtbfnaejfmpnkbaaDelt
import Derived.Test.YtbfnaejfmpnkbaaWalks
import Derived.Laws.StructEq
namespace Go.Proofs.Ytbfnaejfmpnkbaa
open Go.ChangeShapes Go.WideShapes Go.ChangeAt Go.RowKit
set_option linter.unusedVariables false

theorem thing_none (V : Value) (i : Int) (w : World) :
    Calls Try.prog 32 #[.int .i64 0, .int .i64 0, .int .i64 0, .int .i64 4, V, .bool false, .int .i64 i] w fun e w' => e = .returned (.bool true) ∧ w = w' := by
  go_enter Try.func32, Try.ntmps32
  go_wp2
  go_ret
  exact ⟨rfl, rfl⟩

theorem thing_some (x : El) (B i : Nat) (V : Value) (L : List El) (w : World) (h : ThingsAt w B V L) (hi : i < L.length) (hx : thg L i = x) :
    Calls Try.prog 32 #[.int .i64 x.k, .int .i64 x.i, .int .i64 x.w, .int .i64 0, V, .bool true, .int .i64 i] w fun e w' => e = .returned (.bool true) ∧ w = w' := by
  rcases h.cases with ⟨rfl, rfl⟩ | ⟨g, cap, cur, rfl, -, hcap, hmx, -, -, -, hc⟩
  · cases hi
  · obtain ⟨c0, c1, c2⟩ := hc i hi
    rw [hx] at c0 c1 c2
    have e1 : (i : Int) < L.length := by omega
    have e2 : (0 : Int) ≤ i := by omega
    have e3 : L.length ≤ 9223372036854775807 := by omega
    generalize L.length = n at *
    clear h hc hx hcap
    go_enter Try.func32, Try.ntmps32
    go_wp2
    go_ret
    exact ⟨rfl, rfl⟩

/-- The bits that a number needs. -/
def bt (n : Nat) : Nat := if h : n = 0 then 0 else bt (n / 2) + 1
termination_by n
decreasing_by omega

theorem bt_pos {n : Nat} (h : 0 < n) : bt n = bt (n / 2) + 1 := by rw [bt, dif_neg (by omega)]
theorem bt_zero : bt 0 = 0 := by rw [bt, dif_pos rfl]
theorem bt_hi (n : Nat) : n < 2 ^ bt n := by
  induction n using Nat.strongRecOn with
  | _ n ih =>
    by_cases h : n = 0
    · subst h; rw [bt_zero]; decide
    · rw [bt_pos (by omega), Nat.pow_succ]
      have := ih (n / 2) (by omega)
      omega
theorem bt_lo {n d : Nat} (h : n < 2 ^ d) : bt n ≤ d := by
  induction n using Nat.strongRecOn generalizing d with
  | _ n ih =>
    by_cases h0 : n = 0
    · subst h0; rw [bt_zero]; omega
    · rw [bt_pos (by omega)]
      cases d with
      | zero => simp at h; omega
      | succ d =>
        have := ih (n / 2) (by omega) (d := d) (by rw [Nat.pow_succ] at h; omega)
        omega
theorem bt_64 {n : Nat} (h : n ≤ 9223372036854775807) : bt n ≤ 63 := bt_lo (by omega)

theorem bits_any (n : Nat) (w : World) (h : n ≤ 9223372036854775807) : Calls Try.prog 33 #[.int .i64 n] w fun e w' => e = .returned (.int .i64 (bt n)) ∧ w = w' := by
  have h64 := bt_64 h
  go_enter Try.func33, Try.ntmps33
  go_wp2_with fail
  go_loop [0, 3] (fun s0 s3 => ∃ m k : Nat, s0 = .int .i64 m ∧ s3 = .int .i64 k ∧ k + bt m = bt n ∧ m ≤ n) (fun s0 _ => (intOf s0).toNat)
  case atStart => exact ⟨n, 0, rfl, rfl, by omega, Nat.le_refl _⟩
  case round =>
    obtain ⟨m, k, rfl, rfl, hk, hm⟩ := hrel
    by_cases h0 : m = 0
    · subst h0
      rw [bt_zero] at hk
      have HK := Lib.hid hk
      clear hk h64
      go_wp2
      go_ret
      exact ⟨ret_int (by have := HK.out; omega), rfl⟩
    · have hp := bt_pos (n := m) (by omega)
      have HK := Lib.hid hk
      have HP := Lib.hid hp
      have k1 : k ≤ 63 := by omega
      have m1 : (0 : Int) < m := by omega
      have m2 : (m : Int) / 2 = ((m / 2 : Nat) : Int) := by omega
      have M2 := Lib.hid m2
      clear hk hp m2
      go_wp2
      go_round
      case rel => exact ⟨m / 2, k + 1, by rw [M2.out], by go_num, by have := HK.out; have := HP.out; omega, by omega⟩
      case measure => simp [intOf]; omega

/-- Where the next thing stands: as many as there are, if there is none. -/
def nextI (L : List El) (k i : Int) : Nat := L.findIdx fun x => decide (aft x k i)
/-- Where the thing stands in which a number from 0 on lies. -/
def liesI : List El → Int → Nat
  | [], _ => 0
  | x :: l, n => if n < x.w then 0 else liesI l (n - x.w) + 1

theorem nextL_idx (L : List El) (k i : Int) : nextL L k i = if nextI L k i < L.length then some (thg L (nextI L k i)) else none := by
  induction L with
  | nil => rfl
  | cons x l ih =>
    by_cases h : aft x k i
    · rw [nextL_cons_pos h]
      have : nextI (x :: l) k i = 0 := by simp [nextI, List.findIdx_cons, h]
      rw [this, if_pos (by simp)]; rfl
    · rw [nextL_cons_neg h, ih]
      have : nextI (x :: l) k i = nextI l k i + 1 := by simp [nextI, List.findIdx_cons, h]
      rw [this]
      by_cases g : nextI l k i < l.length
      · rw [if_pos g, if_pos (by simpa using g)]; rfl
      · rw [if_neg g, if_neg (by simpa using g)]

theorem nextI_at {L : List El} {k i : Int} {j : Nat} (hj : j < L.length) (h : j ≤ nextI L k i) : nextI L k i = j ↔ aft (thg L j) k i := by
  induction L generalizing j with
  | nil => cases hj
  | cons x l ih =>
    by_cases hx : aft x k i
    · have e : nextI (x :: l) k i = 0 := by simp [nextI, List.findIdx_cons, hx]
      rw [e] at h ⊢
      obtain rfl : j = 0 := by omega
      exact ⟨fun _ => hx, fun _ => rfl⟩
    · have e : nextI (x :: l) k i = nextI l k i + 1 := by simp [nextI, List.findIdx_cons, hx]
      rw [e] at h ⊢
      cases j with
      | zero => exact ⟨fun h => by omega, fun h => absurd h hx⟩
      | succ j =>
        have := ih (j := j) (by simpa using hj) (by omega)
        rw [show thg (x :: l) (j + 1) = thg l j from rfl, ← this]; omega

theorem liesL_idx {L : List El} (n : Int) : liesL L n = if liesI L n < L.length then some (thg L (liesI L n)) else none := by
  induction L generalizing n with
  | nil => rfl
  | cons x l ih =>
    simp only [liesL]
    by_cases h : n < x.w
    · have e : liesI (x :: l) n = 0 := by simp only [liesI]; rw [if_pos h]
      rw [if_pos h, e, if_pos (by simp)]; rfl
    · have e : liesI (x :: l) n = liesI l (n - x.w) + 1 := by simp only [liesI]; rw [if_neg h]
      rw [if_neg h, e, ih]
      by_cases g : liesI l (n - x.w) < l.length
      · rw [if_pos g, if_pos (by simpa using g)]; rfl
      · rw [if_neg g, if_neg (by simpa using g)]

theorem liesI_lt {L : List El} {n : Int} (hL : Light L) (hn : 0 ≤ n) {j : Nat} (hj : j ≤ L.length) : liesI L n < j ↔ n < wts (L.take j) := by
  induction L generalizing n j with
  | nil =>
    obtain rfl : j = 0 := by simpa using hj
    simp [wts]; omega
  | cons x l ih =>
    have hx := (light_cons.1 hL).1
    cases j with
    | zero => simp [wts]; omega
    | succ j =>
      have b := wts_bd (l := l.take j) (fun y hy => hL y (List.mem_cons_of_mem _ (List.mem_of_mem_take hy)))
      simp only [liesI, List.take_succ_cons, wts]
      by_cases h : n < x.w
      · rw [if_pos h]; constructor <;> intro _ <;> omega
      · rw [if_neg h]
        have := ih (light_cons.1 hL).2 (n := n - x.w) (by omega) (j := j) (by simpa using hj)
        constructor
        · intro g; have := this.1 (by omega); omega
        · intro g; have := this.2 (by omega); omega

theorem atL_idx {L : List El} (n : Int) : atL L n = if 0 ≤ n ∧ liesI L n < L.length then some (thg L (liesI L n)) else none := by
  unfold atL
  by_cases h : n < 0
  · rw [if_pos h, if_neg (by omega)]
  · rw [if_neg h, liesL_idx]
    by_cases g : liesI L n < L.length
    · rw [if_pos g, if_pos ⟨by omega, g⟩]
    · rw [if_neg g, if_neg (fun e => g e.2)]

theorem take_more {L : List El} {j : Nat} (hj : j < L.length) : L.take (j + 1) = L.take j ++ [thg L j] := by
  rw [List.take_succ_eq_append_getElem hj, thg_eq hj]
theorem wts_more {L : List El} {j : Nat} (hj : j < L.length) : wts (L.take (j + 1)) = wts (L.take j) + (thg L j).w := by
  rw [take_more hj, wts_append]; simp [wts]
theorem ahead_more {L : List El} {j : Nat} (k i : Int) (hj : j < L.length) : aheadL (L.take (j + 1)) k i = aheadL (L.take j) k i + if bef (thg L j) k i then (thg L j).w else 0 := by
  rw [take_more hj, aheadL_app]; simp [aheadL]
end Go.Proofs.Ytbfnaejfmpnkbaa
