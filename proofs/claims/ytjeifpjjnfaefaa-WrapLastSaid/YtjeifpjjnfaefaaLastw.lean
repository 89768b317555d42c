/- The walk of ringkeep1.WrapLast. -/
import Derived.Test.YtjeifpjjnfaefaaConcat
import Derived.Lib.MinMax
import Derived.Deep.DeepMust
import Derived.Deep.RegionWith
namespace Go.Proofs.Ytjeifpjjnfaefaa
open Go.ChangeShapes Go.WideShapes Go.ChangeAt Go.RowKit
set_option linter.unusedVariables false

/-- The remainders of the first k numbers. -/
def rests (ks : List Int) (k : Nat) : List Int := (ks.take k).map (restOf · 2147483648)
def most (rs : List Int) : Int := rs.foldl max 0
def shifted (a : Int) (rs : List Int) : List Int := rs.map fun r => (a + r) % 4294967296

theorem rests_snoc (ks : List Int) (k : Nat) (hk : k < ks.length) : rests ks (k + 1) = rests ks k ++ [restOf (ks.getD k 0) 2147483648] := by
  unfold rests
  rw [List.take_add_one, List.map_append]
  simp [List.getD, List.getElem?_eq_getElem hk]

theorem most_snoc (rs : List Int) (r : Int) : most (rs ++ [r]) = max (most rs) r := by unfold most; simp
theorem shifted_snoc (a : Int) (rs : List Int) (r : Int) : shifted a (rs ++ [r]) = shifted a rs ++ [(a + r) % 4294967296] := by unfold shifted; simp

theorem rests_bd (ks : List Int) (k : Nat) : ∀ r ∈ rests ks k, 0 ≤ r ∧ r < 2147483648 := by
  intro r hr
  unfold rests at hr
  obtain ⟨x, _, rfl⟩ := List.mem_map.1 hr
  exact ⟨restOf_lo _ _ (by omega), restOf_hi _ _ (by omega)⟩

theorem max_le_foldl (rs : List Int) (m : Int) : m ≤ rs.foldl max m ∧ (∀ r ∈ rs, r ≤ rs.foldl max m) ∧ (rs.foldl max m = m ∨ rs.foldl max m ∈ rs) := by
  induction rs generalizing m with
  | nil => simp
  | cons a rs ih =>
    obtain ⟨h1, h2, h3⟩ := ih (max m a)
    simp only [List.foldl_cons]
    refine ⟨by omega, ?_, ?_⟩
    · intro r hr
      rcases List.mem_cons.1 hr with rfl | hr
      · omega
      · exact h2 r hr
    · rcases h3 with h3 | h3
      · by_cases e : m ≤ a
        · right; rw [h3]; simp; left; omega
        · left; rw [h3]; omega
      · right; simp [h3]

theorem most_bd (rs : List Int) (h : ∀ r ∈ rs, 0 ≤ r ∧ r < 2147483648) : 0 ≤ most rs ∧ most rs < 2147483648 := by
  obtain ⟨h1, h2, h3⟩ := max_le_foldl rs 0
  unfold most
  rcases h3 with h3 | h3
  · omega
  · have := h _ h3; omega

/-- Of numbers within half of the way the last one is the farthest. -/
theorem last_far (a : Int) (rs zs : List Int) (hne : rs ≠ []) (h : ∀ r ∈ rs, 0 ≤ r ∧ r < 2147483648) (hz : ∀ x, x ∈ zs ↔ x ∈ shifted a rs) : lastOf zs = ((a + most rs) % 4294967296, 0) := by
  obtain ⟨h1, h2, h3⟩ := max_le_foldl rs 0
  have hm : most rs ∈ rs := by
    unfold most
    rcases h3 with h3 | h3
    · cases rs with
      | nil => exact absurd rfl hne
      | cons r l =>
        have a1 := h r (by simp)
        have a2 := h2 r (by simp)
        rw [h3] at a2 ⊢
        have : r = 0 := by omega
        simp [this]
    · exact h3
  have hmm := h _ hm
  have hin : (a + most rs) % 4294967296 ∈ zs := (hz _).2 (by unfold shifted; exact List.mem_map.2 ⟨_, hm, rfl⟩)
  have hd : ∀ r, 0 ≤ r → r < 2147483648 → dist ((a + most rs) % 4294967296) ((a + r) % 4294967296) = r - most rs := by
    intro r r0 r1; unfold dist; omega
  have hd' : ∀ r, 0 ≤ r → r < 2147483648 → dist ((a + r) % 4294967296) ((a + most rs) % 4294967296) = most rs - r := by
    intro r r0 r1; unfold dist; omega
  have hl : isLast zs ((a + most rs) % 4294967296) = true := by
    rw [isLast_iff]
    intro y hy
    obtain ⟨r, hr, rfl⟩ := List.mem_map.1 ((hz y).1 hy)
    rw [hd r (h r hr).1 (h r hr).2]
    have := h2 r hr
    unfold most; omega
  unfold lastOf
  cases hf : zs.find? (isLast zs) with
  | none =>
    have := List.find?_eq_none.1 hf _ hin
    exact absurd hl this
  | some x =>
    have hx := (isLast_iff zs x).1 (List.find?_some hf) _ hin
    obtain ⟨r, hr, rfl⟩ := List.mem_map.1 ((hz x).1 (List.mem_of_find?_eq_some hf))
    rw [hd' r (h r hr).1 (h r hr).2] at hx
    have := h2 r hr
    have : r = most rs := by unfold most at *; omega
    simp [this]

theorem three_last : lastOf [4294967295, 2, 1] = (2, 0) := by decide

theorem first_try (w : World) (f : Ending → World → Prop) (h : f (.returned (.tuple #[.int .u32 2, .int .i64 0])) (w.alloc (.cells #[.int .u32 4294967295, .int .u32 2, .int .u32 1] 22))) :
    Calls Try.prog 10 #[.slice (some ⟨w.heap.size, 0, none⟩) 3 3] (w.alloc (.cells #[.int .u32 4294967295, .int .u32 2, .int .u32 1] 22)) f := by
  refine (last_some w.heap.size 0 3 [4294967295, 2, 1] _ (by decide) (by simp) ?_ ?_).mono ?_
  · intro x hx; simp at hx; omega
  · intro j hj
    have : j = 0 ∨ j = 1 ∨ j = 2 := by simp at hj; omega
    rcases this with rfl | rfl | rfl <;> simp
  · rintro e w' ⟨rfl, rfl⟩
    rw [three_last]
    exact h

theorem one_row (w : World) (x : Int) : RowAt (w.alloc (.cells #[.int .u32 x] 22)) (.slice (some ⟨w.heap.size, 0, none⟩) 1 1) [x] :=
  ⟨_, 1, rfl, (fun h => by cases h), fun _ => ⟨_, _, rfl, by simp, fun j hj => by simp at hj; subst hj; simp⟩⟩

theorem shifted_range (a : Int) (rs : List Int) : InRange (shifted a rs) := by
  intro x hx
  obtain ⟨r, _, rfl⟩ := List.mem_map.1 hx
  omega

theorem owned_shape {w : World} {base : Nat} {v : Value} {zs : List Int} (h : w.ownsRow base 22 1 v zs.length (zs.map (Value.int .u32))) (hne : zs ≠ []) :
    ∃ g c, v = .slice (some ⟨g, 0, none⟩) zs.length c ∧ zs.length ≤ c ∧ c ≤ 9223372036854775807 ∧ base ≤ g ∧ g < w.heap.size ∧ CellsAt w g 0 zs := by
  have hpos : 0 < zs.length := List.length_pos_iff.2 hne
  have h' := h
  rcases h.2 with ⟨_, h0⟩ | ⟨g, c, cur, rfl, hb, hg, hn, hm, _, _⟩
  · omega
  · have hlt := (h.lt g rfl).2
    unfold maxLen at hm
    refine ⟨g, c, rfl, hn, by omega, hb, hlt, fun j hj => ?_⟩
    rw [Nat.zero_add, h'.cellAt j (by omega)]
    simp [hj, List.getD]

theorem row_drop (w : World) (g q c : Nat) (zs : List Int) (hg : g < w.heap.size) (hc : zs.length ≤ c) (hq : q ≤ zs.length) (h : CellsAt w g 0 zs) :
    RowAt w (.slice (if c = q then some ⟨g, 0, none⟩ else some ⟨g, q, none⟩) (zs.length - q) (c - q)) (zs.drop q) := by
  refine ⟨_, c - q, by rw [List.length_drop], ?_, fun hne => ?_⟩
  · split <;> simp
  · have : q ≠ zs.length := fun e => hne (by subst e; simp)
    refine ⟨g, q, if_neg (by omega), hg, fun j hj => ?_⟩
    rw [List.length_drop] at hj
    have := h (q + j) (by omega)
    rw [Nat.zero_add] at this
    rw [this]
    simp [List.getD]

theorem row_take (w : World) (g q c : Nat) (zs : List Int) (hg : g < w.heap.size) (hc : zs.length ≤ c) (hq : q ≤ zs.length) (h : CellsAt w g 0 zs) :
    RowAt w (.slice (some ⟨g, 0, none⟩) q c) (zs.take q) := by
  refine ⟨_, c, by rw [List.length_take, Nat.min_eq_left hq], (fun e => by cases e), fun hne => ⟨g, 0, rfl, hg, fun j hj => ?_⟩⟩
  rw [List.length_take] at hj
  rw [h j (by omega)]
  simp [List.getD, show j < q by omega]

/-- A slice of the call's own was answered, whose numbers are 'zs'. -/
def SliceAnswer (zs : List Int) (W : World) (e : Ending) (w' : World) : Prop :=
  ∃ g c, e = .returned (.slice (some ⟨g, 0, none⟩) zs.length c) ∧ CellsAt w' g 0 zs ∧ Below W.heap.size W w'

theorem slice_answer {zs : List Int} {W w w' : World} {e : Ending} (hne : zs ≠ []) (hb : Below W.heap.size W w) (hs : W.heap.size ≤ w.heap.size) (h : OwnAnswer zs w e w') : SliceAnswer zs W e w' := by
  obtain ⟨v, rfl, hown, hb2⟩ := h
  obtain ⟨g, c, rfl, _, _, _, _, hc⟩ := owned_shape hown hne
  exact ⟨g, c, rfl, hc, hb.trans (hb2.mono hs)⟩

theorem last_gives (g c : Nat) (zs : List Int) (x y : Int) (w : World) (hne : zs ≠ []) (hl : zs.length ≤ 9223372036854775807) (hr : InRange zs) (h : lastOf zs = (x, y)) (hc : CellsAt w g 0 zs) :
    Calls Try.prog 10 #[.slice (some ⟨g, 0, none⟩) zs.length c] w fun e w' => e = .returned (.tuple #[.int .u32 x, .int .i64 y]) ∧ w = w' := by
  have := last_some g 0 c zs w hl hne hr hc
  rwa [h] at this

set_option maxHeartbeats 1000000 in
theorem walk_full (fr t : Int) (b off cap : Nat) (ks : List Int) (w : World) (hne : ks ≠ []) (hcap : ks.length ≤ cap) (hl : cap ≤ 9223372036854775807) (hbl : b < w.heap.size) (hf : 0 ≤ fr ∧ fr < 4294967296)
    (hk : ∀ k ∈ ks, -9223372036854775808 ≤ k ∧ k ≤ 9223372036854775807) (hc : CellsOf .i64 w b off ks) :
    Calls Try.prog 7 #[.int .u32 fr, .slice (some ⟨b, off, none⟩) ks.length cap, .int .i64 t] w fun e w' => e = .returned (.bool true) ∧ Below w.heap.size w w' := by
  have hpos : 0 < ks.length := List.length_pos_iff.2 hne
  have HC := Lib.hid hc
  have F1 := Lib.hid (first_try w)
  have R1 := Lib.hid (fun k => rest_any k 2147483648 (by omega) (by omega))
  clear hc
  obtain ⟨n, hn⟩ : ∃ n, n = min ks.length 200 := ⟨_, rfl⟩
  have hn0 : 0 < n := by omega
  have hn1 : n ≤ ks.length := by omega
  have hn2 : n ≤ 200 := by omega
  have hmin : min (ks.length : Int) 200 = (n : Int) := by omega
  clear hn
  have HB0 := Lib.hid ((Below.refl w.heap.size w).alloc (Nat.le_refl _) (.cells #[.int .u32 4294967295, .int .u32 2, .int .u32 1] 22))
  go_enter Try.func7, Try.ntmps7
  go_wp2_with fail
  refine F1.out _ ?_
  clear F1
  generalize w.alloc (.cells #[.int .u32 4294967295, .int .u32 2, .int .u32 1] 22) = w0 at *
  go_wp2_with fail
  clear hmin
  go_loopw [9, 10, 12, 32, 33, 34, 35, 36, 37, 38, 39, 40, 41, 42, 43, 44, 45, 46, 47, 48] (fun v m _ i _ _ _ _ _ _ _ _ _ _ _ _ _ _ _ _ wr => ∃ k : Nat, k ≤ n ∧ i = .int .i64 k ∧ m = .int .i64 (most (rests ks k)) ∧ wr.ownsRow w.heap.size 22 1 v (shifted fr (rests ks k)).length ((shifted fr (rests ks k)).map (Value.int .u32)) ∧ Below w.heap.size w wr) (fun _ _ _ i _ _ _ _ _ _ _ _ _ _ _ _ _ _ _ _ _ => n - (intOf i).toNat)
  case atStart => exact ⟨0, by omega, rfl, rfl, World.ownsRow_nil _ _ _ _, HB0.out⟩
  case round =>
    obtain ⟨k, hk, rfl, rfl, hown, hb⟩ := hrel
    by_cases hlt : k < n
    · have hcell : wr.cell? ⟨b, off + k, none⟩ = some (.int .i64 (ks.getD k 0)) := by rw [hb.cell (p := ⟨b, off + k, none⟩) hbl]; exact HC.out k (by omega)
      have hlen : (shifted fr (rests ks k)).length ≤ 200 := by unfold shifted rests; simp; omega
      have hmb := most_bd (rests ks k) (rests_bd ks k)
      have hrl := restOf_lo (ks.getD k 0) 2147483648 (by omega)
      have hrh := restOf_hi (ks.getD k 0) 2147483648 (by omega)
      have HR := Lib.hid (rests_snoc ks k (by omega))
      generalize rests ks k = rs at *
      have c := Lib.hid (R1.out (ks.getD k 0))
      generalize restOf (ks.getD k 0) 2147483648 = r at *
      generalize ks.getD k 0 = y at *
      have HM := Lib.hid (most_snoc rs r)
      have HS := Lib.hid (shifted_snoc fr rs r)
      have HM : Hid (most (rests ks (k + 1)) = max (most rs) r) := by show _ = _; rw [HR.out]; exact HM.out
      have HS : Hid (shifted fr (rests ks (k + 1)) = shifted fr rs ++ [(fr + r) % 4294967296]) := by show _ = _; rw [HR.out]; exact HS.out
      clear HR
      generalize most rs = m at *
      generalize shifted fr rs = ss at *
      have HA := Lib.hid (hown.alloc (.cells #[.int .u32 ((fr + r) % 4294967296)] 22))
      have hsz := hb.size
      have HB1 := Lib.hid (hb.alloc hsz (.cells #[.int .u32 ((fr + r) % 4294967296)] 22))
      clear hown
      go_wp2_with (first | (go_at_call 22; refine (c.out _).mono ?_; rintro e w' ⟨rfl, rfl⟩) | (at_builtin; go_must (refine append_row rfl _ _ rfl w.heap.size _ _ ss [(fr + r) % 4294967296] rfl rfl HA.out (one_row _ _) (by simp; omega) (by simp; omega) ?_); intro v' w2 hown2 hg2; have hb2 := Lib.hid (HB1.out.grown hg2 (by simp; omega) (owned_ge HA.out)); have HO2 := Lib.hid hown2; clear hown2 hg2))
      go_roundw
      case rel => exact ⟨k + 1, by omega, by go_num, by rw [HM.out], by rw [HS.out]; exact HO2.out, hb2.out⟩
      case measure => simp [intOf]; omega
    · obtain rfl : k = n := by omega
      have hzl : (shifted fr (rests ks k)).length = k := by unfold shifted rests; simp; omega
      have hzne : shifted fr (rests ks k) ≠ [] := by intro e; rw [e] at hzl; simp at hzl; omega
      have hrne : rests ks k ≠ [] := by intro e; apply hzne; rw [e]; rfl
      obtain ⟨g, c, hv, hgc, hgb, -, hgl, hcz⟩ := owned_shape hown hzne
      have hmb := most_bd (rests ks k) (rests_bd ks k)
      have HR := Lib.hid (shifted_range fr (rests ks k))
      have HL := Lib.hid (fun zs hz => last_far fr (rests ks k) zs hrne (rests_bd ks k) hz)
      have r1 := restOf_lo t (k + 1) (by omega)
      have r2 := restOf_hi t (k + 1) (by omega)
      have c2 := Lib.hid (rest_any t (k + 1) (by omega) (by omega))
      obtain ⟨q, hq⟩ : ∃ q : Nat, restOf t (k + 1) = q := ⟨(restOf t (k + 1)).toNat, by omega⟩
      rw [hq] at r1 r2 c2
      subst hv
      clear hq hown hrne hzne
      generalize most (rests ks k) = m at *
      generalize shifted fr (rests ks k) = zs at *
      subst hzl
      have hsz := hb.size
      have R1p := row_drop wr g q c zs hgl hgc (by omega) hcz
      obtain ⟨ad, had⟩ : ∃ ad : Option Addr, (if c = q then some ⟨g, 0, none⟩ else some ⟨g, q, none⟩) = ad := ⟨_, rfl⟩
      rw [had] at R1p
      have R1' := Lib.hid R1p
      clear R1p
      have R2' := Lib.hid (row_take wr g q c zs hgl hgc (by omega) hcz)
      have HB1 := Lib.hid ((Below.refl wr.heap.size wr).alloc (Nat.le_refl _) (.cells #[.slice ad (zs.length - q) (c - q), .slice (some ⟨g, 0, none⟩) q c] 23)).drew
      have CC := Lib.hid (concat_two wr.heap.size 2 _ _ (zs.drop q) (zs.take q) _ (R1'.out.later HB1.out) (R2'.out.later HB1.out) (by simp; omega) (by simp) (by simp) (by simp))
      have HM := Lib.hid (show ∀ x, x ∈ zs.drop q ++ zs.take q ↔ x ∈ zs from fun x => by
        rw [List.mem_append, or_comm, ← List.mem_append, List.take_append_drop])
      have hl2 : (zs.drop q ++ zs.take q).length = zs.length := by simp; omega
      have hqn : (q : Int) ≤ zs.length := by omega
      have hqc : (q : Int) ≤ c := by omega
      clear hcz
      generalize zs.drop q ++ zs.take q = zs2 at *
      have hne2 : zs2 ≠ [] := by intro e; rw [e] at hl2; simp at hl2; omega
      have CD := Lib.hid (CC.out.mono (fun e w' h => slice_answer hne2 HB1.out (by show _ ≤ (wr.heap.push _).size; simp) h))
      have LL := Lib.hid (fun g2 c3 w2 hc2 => last_gives g2 c3 zs2 _ _ w2 hne2 (by omega) (fun x hx => HR.out x ((HM.out x).1 hx)) (HL.out zs2 HM.out) hc2)
      have hzz : ((zs.length : Int) == 0) = false := by rw [beq_eq_false_iff_ne]; omega
      clear CC R1' R2' HB1 hne2 hl2 HL HR HM
      go_wp2_with (go_at_call 22; refine (c2.out _).mono ?_; rintro e w' ⟨rfl, rfl⟩)
      go_region_with (first | (go_at_call 23; refine CD.out.mono ?_; rintro e w2 ⟨g2, c3, rfl, hc2, hb2⟩; have HB2 := Lib.hid hb2; have L2 := Lib.hid (LL.out g2 c3 w2 hc2); clear hc2 hb2) | (go_at_call 10; refine L2.out.mono ?_; rintro e w3 ⟨rfl, rfl⟩))
      go_wp2_with fail
      go_ret
      exact ⟨rfl, hb.trans (HB2.out.mono hsz)⟩

/-- An empty slice was answered, and nothing that was there changed. -/
def EmptyAnswer (W : World) (e : Ending) (w' : World) : Prop := ∃ a c, e = .returned (.slice a 0 c) ∧ Below W.heap.size W w'

theorem empty_answer {W w w' : World} {e : Ending} (hb : Below W.heap.size W w) (hs : W.heap.size ≤ w.heap.size) (h : OwnAnswer [] w e w') : EmptyAnswer W e w' := by
  obtain ⟨v, rfl, hown, hb2⟩ := h
  rcases hown.2 with ⟨rfl, _⟩ | ⟨g, c, cur, rfl, _⟩
  · exact ⟨none, 0, rfl, hb.trans (hb2.mono hs)⟩
  · exact ⟨_, c, rfl, hb.trans (hb2.mono hs)⟩

set_option maxHeartbeats 1000000 in
theorem walk_empty (fr t : Int) (a : Option Addr) (cap : Nat) (w : World) :
    Calls Try.prog 7 #[.int .u32 fr, .slice a 0 cap, .int .i64 t] w fun e w' => e = .returned (.bool true) ∧ Below w.heap.size w w' := by
  have F1 := Lib.hid (first_try w)
  have HB0 := Lib.hid ((Below.refl w.heap.size w).alloc (Nat.le_refl _) (.cells #[.int .u32 4294967295, .int .u32 2, .int .u32 1] 22))
  have r0 : restOf t 1 = 0 := by have := restOf_lo t 1 (by omega); have := restOf_hi t 1 (by omega); omega
  have c2' := rest_any t 1 (by omega) (by omega)
  rw [r0] at c2'
  have c2 := Lib.hid c2'
  clear c2' r0
  go_enter Try.func7, Try.ntmps7
  go_wp2_with fail
  refine F1.out _ ?_
  clear F1
  generalize w.alloc (.cells #[.int .u32 4294967295, .int .u32 2, .int .u32 1] 22) = w0 at *
  go_wp2_with fail
  go_loop [9, 32] (fun v i => v = .slice none 0 0 ∧ i = .int .i64 0) (fun _ _ => 0)
  case atStart => exact ⟨rfl, rfl⟩
  case round =>
    obtain ⟨rfl, rfl⟩ := hrel
    have hb0 := Below.refl w0.heap.size w0
    have HB1 := Lib.hid ((hb0.alloc (Nat.le_refl _) (.cells #[.slice none 0 0, .slice none 0 0] 23)).drew)
    have hr : RowAt w0 (.slice none 0 0) [] := ⟨none, 0, rfl, fun _ => rfl, fun h => absurd rfl h⟩
    have CC := concat_two w0.heap.size 2 _ _ [] [] _ (hr.later HB1.out) (hr.later HB1.out) (by simp) (by simp) (by simp) (by simp)
    have CD := Lib.hid (CC.mono (fun e w' h => empty_answer HB1.out (by show _ ≤ (w0.heap.push _).size; simp) h))
    have hsz := HB0.out.size
    clear CC HB1 hr hb0
    go_wp2_with (go_at_call 22; refine (c2.out _).mono ?_; rintro e w' ⟨rfl, rfl⟩)
    go_region_with (first | (go_at_call 23; refine CD.out.mono ?_; rintro e w2 ⟨a2, c3, rfl, hb2⟩; have HB2 := Lib.hid hb2; have L2 := Lib.hid (last_none a2 c3 w2); clear hb2) | (go_at_call 10; refine L2.out.mono ?_; rintro e w3 ⟨rfl, rfl⟩))
    go_wp2_with fail
    go_ret
    exact ⟨rfl, HB0.out.trans (HB2.out.mono hsz)⟩
end Go.Proofs.Ytjeifpjjnfaefaa
