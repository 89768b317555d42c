/- The walk of HeapTurns. -/
import Derived.Test.YtonlhcebnbdjjaaTwo
namespace Go.Proofs.Ytonlhcebnbdjjaa
open Go.ChangeShapes Go.WideShapes Go.ChangeAt Go.RowKit Go.Maps
set_option linter.unusedVariables false

theorem rest_eq {k n r : Int} (h : 0 < n) (h2 : n ≤ 9223372036854775807) (hr : restOf k n = r) (w : World) :
    Calls Try.prog 19 #[.int .i64 k, .int .i64 n] w fun e w' => e = .returned (.int .i64 r) ∧ w = w' := by
  subst hr; exact rest_any k n h h2 w

section
variable {B : Nat} {w : World} {pa pb : Nat} {Sa Sb : List (Int × Int)}

theorem st_push (h : Twos B w pa pb [] Sb) : Calls Try.prog 9 #[.pointer (some ⟨pa, 0, none⟩), .int .i64 1, .int .i64 7] w (TAns B w pa pb (.int .i64 0) [(1, 7)] Sb) :=
  two_left h fun M hM => hpush hM 7 (by decide) (by simp) (by simp)

theorem st_turn (h : Twos B w pa pb [(1, 7)] Sb) : Calls Try.prog 24 #[.pointer (some ⟨pa, 0, none⟩), .int .i64 1, .int .i64 4] w (TAns B w pa pb (.int .i64 0) [(1, 4)] Sb) :=
  two_left h fun M hM => hturn hM (x := (1, 7)) 4 (by simp)

theorem least_single (x : Int × Int) : Least [x] x := ⟨by simp, fun y hy => by simp at hy; subst hy; exact prec_irrefl _⟩

theorem st_pop (h : Twos B w pa pb [(1, 4)] Sb) : Calls Try.prog 18 #[.pointer (some ⟨pa, 0, none⟩)] w (TAns B w pa pb (.tuple #[.int .i64 1, .int .i64 4, .int .i64 0]) [] Sb) :=
  two_left h fun M hM => hpop hM (m := (1, 4)) (least_single _)

theorem ab_pushA (ks : List Int) (j : Nat) (hj : j < 1000) (h : Twos B w pa pb (en ks j) Sb) : Calls Try.prog 9 #[.pointer (some ⟨pa, 0, none⟩), .int .i64 j, .int .i64 (nth ks j)] w (TAns B w pa pb (.int .i64 0) (en ks (j + 1)) Sb) := by
  rw [en_succ]
  exact two_left h fun M hM => hpush hM _ (i64_wf (by omega)) (en_no ks j) (by rw [en_len]; omega)

theorem ab_pushB (ks : List Int) (j : Nat) (hj : j < 1000) (h : Twos B w pa pb Sa (en ks j)) : Calls Try.prog 9 #[.pointer (some ⟨pb, 0, none⟩), .int .i64 j, .int .i64 (nth ks j)] w (TAns B w pa pb (.int .i64 0) Sa (en ks (j + 1))) := by
  rw [en_succ]
  exact two_right h fun M hM => hpush hM _ (i64_wf (by omega)) (en_no ks j) (by rw [en_len]; omega)

theorem b_out (ks : List Int) {i n : Nat} (hi : i < n) (h : Twos B w pa pb Sa (en ks n)) :
    Calls Try.prog 25 #[.pointer (some ⟨pb, 0, none⟩), .int .i64 i] w (TAns B w pa pb (.tuple #[.int .i64 (nth ks i), .int .i64 0]) Sa (without (en ks n) i)) :=
  two_right h fun M hM => hout hM (en_mem ks hi)

theorem b_push (ks : List Int) {i n : Nat} (k : Int) (hi : i < n) (hn : n < 1000) (hS : Ids (en ks n)) (h : Twos B w pa pb Sa (without (en ks n) i)) :
    Calls Try.prog 9 #[.pointer (some ⟨pb, 0, none⟩), .int .i64 i, .int .i64 k] w (TAns B w pa pb (.int .i64 0) Sa (rekey (en ks n) i k)) := by
  have hl : (without (en ks n) i).length + 1 = n := by
    have := without_len hS (en_mem ks hi)
    rwa [en_len] at this
  refine (two_right h fun M hM => hpush hM k (id := (i : Int)) (i64_wf (by omega)) (without_no _ _) (by omega)).mono ?_
  rintro e w' ⟨rfl, ht, hb⟩
  exact ⟨rfl, ht.perm (List.Perm.refl _) (rekey_perm hS (en_mem ks hi) k), hb⟩

theorem a_turn (ks : List Int) {i n : Nat} (k : Int) (hi : i < n) (h : Twos B w pa pb (en ks n) Sb) :
    Calls Try.prog 24 #[.pointer (some ⟨pa, 0, none⟩), .int .i64 i, .int .i64 k] w (TAns B w pa pb (.int .i64 0) (rekey (en ks n) i k) Sb) :=
  two_left h fun M hM => hturn hM k (en_mem ks hi)

theorem rekey_mem (ks : List Int) {i n : Nat} (k : Int) (hi : i < n) : ((i : Int), k) ∈ rekey (en ks n) i k :=
  List.mem_map.2 ⟨_, en_mem ks hi, by simp⟩

theorem a_key {x : Int × Int} (hx : x ∈ Sa) (h : Twos B w pa pb Sa Sb) :
    Calls Try.prog 26 #[.pointer (some ⟨pa, 0, none⟩), .int .i64 x.1] w (TAns B w pa pb (.tuple #[.int .i64 x.2, .int .i64 0]) Sa Sb) := by
  have hB := h.low
  have h0 := h
  obtain ⟨MA, MB, h1, h2⟩ := h
  refine (hkey h1 hx).mono ?_
  rintro e w' ⟨rfl, hO⟩
  exact ⟨rfl, h0.later hO, hO.below hB (fun _ e => e.elim)⟩

theorem a_pop {m : Int × Int} (hm : Least Sa m) (h : Twos B w pa pb Sa Sb) : Calls Try.prog 18 #[.pointer (some ⟨pa, 0, none⟩)] w (TAns B w pa pb (.tuple #[.int .i64 m.1, .int .i64 m.2, .int .i64 0]) (without Sa m.1) Sb) :=
  two_left h fun M hM => hpop hM hm

theorem b_pop {m : Int × Int} (hm : Least Sb m) (h : Twos B w pa pb Sa Sb) : Calls Try.prog 18 #[.pointer (some ⟨pb, 0, none⟩)] w (TAns B w pa pb (.tuple #[.int .i64 m.1, .int .i64 m.2, .int .i64 0]) Sa (without Sb m.1)) :=
  two_right h fun M hM => hpop hM hm

theorem a_len (h : Twos B w pa pb Sa Sb) : Calls Try.prog 10 #[.pointer (some ⟨pa, 0, none⟩)] w fun e w' => e = .returned (.int .i64 Sa.length) ∧ w = w' := by
  obtain ⟨MA, MB, h1, h2⟩ := h
  exact hlen h1
theorem b_len (h : Twos B w pa pb Sa Sb) : Calls Try.prog 10 #[.pointer (some ⟨pb, 0, none⟩)] w fun e w' => e = .returned (.int .i64 Sb.length) ∧ w = w' := a_len h.swap
end

/-- The first lines: two heaps are made, and the first is tried. -/
def Begun (B : Nat) (w0 w : World) (pa pb : Nat) : Prop := Twos B w pa pb [] [] ∧ Below B w0 w

set_option maxRecDepth 100000 in
set_option maxHeartbeats 2000000 in
theorem turns_empty (a1 a2 : Int) (a : Option Addr) (cap : Nat) (w : World) :
    Calls Try.prog 6 #[.slice a 0 cap, .int .i64 a1, .int .i64 a2] w fun e w' => e = .returned (.bool true) ∧ Below w.heap.size w w' := by
  cases a with
  | none =>
    go_enter Try.func6, Try.ntmps6
    go_wp2_with (first
      | (go_at_call 8; refine (two_made (B := w.heap.size) HA.out (fun _ e => e) HO.out.size).mono ?_; rintro e w2 ⟨pb, rfl, ht, hb⟩; have HT := Lib.hid ht; have HB := Lib.hid ((HO.out.below (Nat.le_refl _) (fun _ e => e.elim)).trans hb); clear ht hb)
      | (go_at_call 8; refine (hnew _).mono ?_; rintro e w1 ⟨pa, rfl, ha, ho⟩; have HA := Lib.hid ha; have HO := Lib.hid ho; clear ha ho)
      | (go_at_call 9; refine (st_push HT.out).mono ?_; rintro e w3 ⟨rfl, ht, hb⟩; have HT1 := Lib.hid ht; have HB1 := Lib.hid (HB.out.trans hb); clear ht hb)
      | (go_at_call 24; refine (st_turn HT1.out).mono ?_; rintro e w4 ⟨rfl, ht, hb⟩; have HT2 := Lib.hid ht; have HB2 := Lib.hid (HB1.out.trans hb); clear ht hb)
      | (go_at_call 18; refine (st_pop HT2.out).mono ?_; rintro e w5 ⟨rfl, ht, hb⟩; have HT3 := Lib.hid ht; have HB3 := Lib.hid (HB2.out.trans hb); clear ht hb))
    go_ret
    exact ⟨rfl, HB3.out⟩
  | some a =>
    go_enter Try.func6, Try.ntmps6
    go_wp2_with (first
      | (go_at_call 8; refine (two_made (B := w.heap.size) HA.out (fun _ e => e) HO.out.size).mono ?_; rintro e w2 ⟨pb, rfl, ht, hb⟩; have HT := Lib.hid ht; have HB := Lib.hid ((HO.out.below (Nat.le_refl _) (fun _ e => e.elim)).trans hb); clear ht hb)
      | (go_at_call 8; refine (hnew _).mono ?_; rintro e w1 ⟨pa, rfl, ha, ho⟩; have HA := Lib.hid ha; have HO := Lib.hid ho; clear ha ho)
      | (go_at_call 9; refine (st_push HT.out).mono ?_; rintro e w3 ⟨rfl, ht, hb⟩; have HT1 := Lib.hid ht; have HB1 := Lib.hid (HB.out.trans hb); clear ht hb)
      | (go_at_call 24; refine (st_turn HT1.out).mono ?_; rintro e w4 ⟨rfl, ht, hb⟩; have HT2 := Lib.hid ht; have HB2 := Lib.hid (HB1.out.trans hb); clear ht hb)
      | (go_at_call 18; refine (st_pop HT2.out).mono ?_; rintro e w5 ⟨rfl, ht, hb⟩; have HT3 := Lib.hid ht; have HB3 := Lib.hid (HB2.out.trans hb); clear ht hb))
    go_ret
    exact ⟨rfl, HB3.out⟩

set_option maxRecDepth 100000 in
set_option maxHeartbeats 2000000 in
theorem turns_walk (a1 a2 : Int) (b off cap : Nat) (ks : List Int) (w : World) (hne : ks ≠ []) (hcap : ks.length ≤ cap) (hcl : cap ≤ 9223372036854775807) (hbl : b < w.heap.size) (hc : CellsOf .i64 w b off ks) :
    Calls Try.prog 6 #[.slice (some ⟨b, off, none⟩) ks.length cap, .int .i64 a1, .int .i64 a2] w fun e w' => e = .returned (.bool true) ∧ Below w.heap.size w w' := by
  have HC := Lib.hid hc
  clear hc
  go_enter Try.func6, Try.ntmps6
  go_upto_region 7 with (first
    | (go_at_call 8; refine (two_made (B := w.heap.size) HA.out (fun _ e => e) HO.out.size).mono ?_; rintro e w2 ⟨pb, rfl, ht, hb⟩; have HT := Lib.hid ht; have HB := Lib.hid ((HO.out.below (Nat.le_refl _) (fun _ e => e.elim)).trans hb); clear ht hb)
    | (go_at_call 8; refine (hnew _).mono ?_; rintro e w1 ⟨pa, rfl, ha, ho⟩; have HA := Lib.hid ha; have HO := Lib.hid ho; clear ha ho)
    | (go_at_call 9; refine (st_push HT.out).mono ?_; rintro e w3 ⟨rfl, ht, hb⟩; have HT1 := Lib.hid ht; have HB1 := Lib.hid (HB.out.trans hb); clear ht hb)
    | (go_at_call 24; refine (st_turn HT1.out).mono ?_; rintro e w4 ⟨rfl, ht, hb⟩; have HT2 := Lib.hid ht; have HB2 := Lib.hid (HB1.out.trans hb); clear ht hb)
    | (go_at_call 18; refine (st_pop HT2.out).mono ?_; rintro e w5 ⟨rfl, ht, hb⟩; have HT3 := Lib.hid ht; have HB3 := Lib.hid (HB2.out.trans hb); clear ht hb))
  obtain ⟨n, hn⟩ : ∃ n, n = min ks.length 100 := ⟨_, rfl⟩
  go_cut [0] (fun s0 wx => s0 = .slice (some ⟨b, off, none⟩) n cap ∧ wx = w5)
  case first =>
    by_cases h100 : (100 : Int) < ks.length
    · have e : n = 100 := by omega
      go_wp2
      go_meet
      exact ⟨by rw [e], rfl⟩
    · have e : n = ks.length := by omega
      go_wp2
      go_meet
      exact ⟨by rw [e], rfl⟩
  case rest =>
    obtain ⟨rfl, rfl⟩ := hcut
    have hlp : 0 < ks.length := List.length_pos_iff.2 hne
    have hn0 : 0 < n := by omega
    have hnl : n ≤ ks.length := by omega
    have hn100 : n ≤ 100 := by omega
    obtain ⟨i, hi⟩ : ∃ i : Nat, restOf a1 n = i := ⟨(restOf a1 n).toNat, by have := restOf_lo a1 n (by omega); omega⟩
    have hin : i < n := by have := restOf_hi a1 n (by omega); omega
    have HRS := Lib.hid (fun w => rest_eq (k := a1) (n := n) (r := i) (by omega) (by omega) hi w)
    have HN := Lib.hid hn
    clear hn hi HT HB HT1 HB1 HT2 HB2 HA HO
    have g0 : ((n : Int) == 0) = false := by simp; omega
    go_upto_region 11 with (go_at_call 19; (with_reducible refine (HRS.out _).mono ?_); rintro e w6 ⟨rfl, rfl⟩)
    clear HRS
    go_wp2_with fail
    go_loopw [72] (fun v wr => ∃ j : Nat, v = .int .i64 j ∧ j ≤ n ∧ Twos w.heap.size wr pa pb (en ks j) (en ks j) ∧ Below w.heap.size w wr) (fun v _ => n - (intOf v).toNat)
    case atStart => exact ⟨0, rfl, Nat.zero_le _, HT3.out, HB3.out⟩
    case round =>
      obtain ⟨j, rfl, hj, ht, hb⟩ := hrel
      have HT := Lib.hid ht
      have HB := Lib.hid hb
      clear ht hb
      by_cases hjn : j < n
      · have hcx : wr.cell? ⟨b, off + j, none⟩ = some (.int .i64 (nth ks j)) := (HB.out.cell (p := ⟨b, off + j, none⟩) hbl).trans (HC.out j (by omega))
        have hlt : (j : Int) < n := by omega
        have hj1000 : j < 1000 := by omega
        go_wp2_with (first
          | (go_at_call 9; (with_reducible refine (ab_pushA ks j hj1000 HT.out).mono ?_); rintro e w6 ⟨rfl, ht, hb⟩; have HT6 := Lib.hid ht; have HB6 := Lib.hid (HB.out.trans hb); clear ht hb)
          | (go_at_call 9; (with_reducible refine (ab_pushB ks j hj1000 HT6.out).mono ?_); rintro e w7 ⟨rfl, ht, hb⟩; have HT7 := Lib.hid ht; have HB7 := Lib.hid (HB6.out.trans hb); clear ht hb))
        go_roundw
        case rel => exact ⟨j + 1, by go_num, by omega, HT7.out, HB7.out⟩
        case measure => simp [intOf]; omega
      · have hjn2 : j = n := by omega
        subst hjn2
        have HI := Lib.hid HT.out.idsA
        have hi1 : i < ks.length := by omega
        have hj1000 : j < 1000 := by omega
        have hlt : (i : Int) < j := by omega
        have hle : (0 : Int) ≤ i := by omega
        go_upto_region 23 with (first
          | (go_at_call 25; (with_reducible refine (b_out ks hin HT.out).mono ?_); rintro e w6 ⟨rfl, ht, hb⟩; have HT6 := Lib.hid ht; have HB6 := Lib.hid (HB.out.trans hb); have hcx := (HB6.out.cell (p := ⟨b, off + i, none⟩) hbl).trans (HC.out i hi1); change _ = some (Value.int IntKind.i64 (nth ks i)) at hcx; clear ht hb)
          | (go_at_call 9; (with_reducible refine (b_push ks a2 hin hj1000 HI.out HT6.out).mono ?_); rintro e w7 ⟨rfl, ht, hb⟩; have HT7 := Lib.hid ht; have HB7 := Lib.hid (HB6.out.trans hb); clear ht hb)
          | (go_at_call 24; (with_reducible refine (a_turn ks a2 hin HT7.out).mono ?_); rintro e w8 ⟨rfl, ht, hb⟩; have HT8 := Lib.hid ht; have HB8 := Lib.hid (HB7.out.trans hb); clear ht hb)
          | (go_at_call 26; (refine (a_key (rekey_mem ks a2 hin) HT8.out).mono ?_); rintro e w9 ⟨rfl, ht, hb⟩; have HT9 := Lib.hid ht; have HB9 := Lib.hid (HB8.out.trans hb); clear ht hb))
        have HS := Lib.hid (show (rekey (en ks j) i a2).length = j by simp [rekey, en_len])
        clear HT6 HB6 hcx HT7 HB7 HT8 HB8 HT HB HI
        go_wp2_with fail
        go_loopw [135] (fun v wr => ∃ (t : Nat) (S : List (Int × Int)), v = .int .i64 t ∧ S.length + t = j ∧ Twos w.heap.size wr pa pb S S ∧ Below w.heap.size w wr) (fun v _ => j - (intOf v).toNat)
        case atStart => exact ⟨0, _, rfl, HS.out, HT9.out, HB9.out⟩
        case round =>
          obtain ⟨t, S, rfl, hS, ht, hb⟩ := hrel
          have HT := Lib.hid ht
          have HB := Lib.hid hb
          have HI := Lib.hid ht.idsA
          clear ht hb
          by_cases htn : t < j
          · obtain ⟨m, hm⟩ := least_exists (S := S) (by rintro rfl; simp at hS; omega)
            have hwl := without_len HI.out hm.1
            have HM := Lib.hid hm
            have hlt2 : (t : Int) < j := by omega
            clear hm
            go_wp2_with (first
              | (go_at_call 18; (with_reducible refine (a_pop HM.out HT.out).mono ?_); rintro e w6 ⟨rfl, ht, hb⟩; have HT6 := Lib.hid ht; have HB6 := Lib.hid (HB.out.trans hb); clear ht hb)
              | (go_at_call 18; (with_reducible refine (b_pop HM.out HT6.out).mono ?_); rintro e w7 ⟨rfl, ht, hb⟩; have HT7 := Lib.hid ht; have HB7 := Lib.hid (HB6.out.trans hb); clear ht hb))
            go_roundw
            case rel => exact ⟨t + 1, _, by go_num, by omega, HT7.out, HB7.out⟩
            case measure => simp [intOf]; omega
          · have hz : S.length = 0 := by omega
            obtain rfl := List.eq_nil_of_length_eq_zero hz
            go_wp2_with (first
              | (go_at_call 10; (with_reducible refine (a_len HT.out).mono ?_); rintro e w6 ⟨rfl, rfl⟩)
              | (go_at_call 10; (with_reducible refine (b_len HT.out).mono ?_); rintro e w6 ⟨rfl, rfl⟩))
            go_ret
            exact ⟨rfl, HB.out⟩
end Go.Proofs.Ytonlhcebnbdjjaa
