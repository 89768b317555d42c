/- The law SpreadFull: its walk. -/
import Derived.Test.YtddfdnhlghmapaaSpFull
import Derived.Test.YtddfdnhlghmapaaBoolRow
import Derived.Test.YtddfdnhlghmapaaInts
import Derived.Test.YtddfdnhlghmapaaMin2
import Derived.Deep.CutBlock
namespace Go.Proofs.Ytddfdnhlghmapaa.Sp
open Go.ChangeShapes Go.WideShapes Go.ChangeAt Go.RowKit Go.Maps
open Go.Proofs.Ytddfdnhlghmapaa.Vt
set_option linter.unusedVariables false

/-- What is known behind a call that changes a run: of its block alone. -/
def Did2 (w0 : World) (p : Nat) (S : St) (B : Int) (v : Value) (w : World) (e : Ending) (w' : World) : Prop := e = .returned v ∧ Own w0 w' p S B ∧ Only (· = p) w w'
section
variable {w0 w w' : World} {p : Nat} {S S' : St} {B B' : Int}
theorem Own.did2 {f : Nat} {args : Array Value} {v : Value} (h : Own w0 w p S B) (ok : Ok S' B') (k : Calls Try.prog f args w (Keep p S' v w)) : Calls Try.prog f args w (Did2 w0 p S' B' v w) :=
  k.mono fun e w' ⟨h1, h2, h3⟩ => ⟨h1, ⟨h2, ok, h.own, h.only.trans h3 (fun x hx e => by have := h.own; omega)⟩, h3⟩
theorem own2_add (h : Own w0 w p S B) (hB : B ≤ 7000000000000) (t c v : Int) : Calls Try.prog 28 #[.pointer (some ⟨p, 0, none⟩), .int .i64 t, .int .i64 c, .int .i64 v] w (Did2 w0 p (addS S t c v) (B + 1) (.int .i64 (addE S t c v)) w) := h.did2 (h.ok.add t c v) (add_any h.at_ h.ok (by omega) t c v)
theorem own2_block (h : Own w0 w p S B) (hB : B ≤ 7000000000000) (t : Int) : Calls Try.prog 35 #[.pointer (some ⟨p, 0, none⟩), .int .i64 t] w (Did2 w0 p (blockS S t) (B + 1) (.int .i64 (blockE S t)) w) := h.did2 (h.ok.block t) (block_any h.at_ h.ok (by omega) t)
theorem own2_wake (h : Own w0 w p S B) (hB : B ≤ 7000000000000) (t : Int) : Calls Try.prog 37 #[.pointer (some ⟨p, 0, none⟩), .int .i64 t] w (Did2 w0 p (wakeS S t) (B + 1) (.int .i64 (wakeE S t)) w) := h.did2 (h.ok.wake t) (wake_any h.at_ h.ok (by omega) t)
theorem own2_tick (h : Own w0 w p S B) (hB : B ≤ 7000000000000) (c : Int) : Calls Try.prog 39 #[.pointer (some ⟨p, 0, none⟩), .int .i64 c] w (Did2 w0 p (tickS S c) (B + 2) (.int .i64 (tickE S c)) w) := h.did2 (h.ok.tickS c) (tick_any h.at_ h.ok hB c)
end

/-- A run, and a row of bools beside it. -/
structure RunBools (w0 w : World) (p g : Nat) (S : St) (B : Int) (bs : List Bool) : Prop where
  own : Own w0 w p S B
  bools : BoolsOf w g bs
  go : w0.heap.size ≤ g
section
variable {w0 w w' : World} {p g : Nat} {S S' : St} {B B' : Int} {bs : List Bool}
theorem RunBools.ne (h : RunBools w0 w p g S B bs) : p ≠ g := by
  rintro rfl
  obtain ⟨cs, h1, -⟩ := h.own.at_
  have h2 := h.bools
  unfold BoolsOf at h2
  rw [h1] at h2
  cases h2
theorem RunBools.call (h : RunBools w0 w p g S B bs) (ho : Own w0 w' p S' B') (hO : Only (· = p) w w') : RunBools w0 w' p g S' B' bs := ⟨ho, h.bools.keep hO (fun e => h.ne e.symm), h.go⟩
theorem RunBools.set (h : RunBools w0 w p g S B bs) (j : Nat) (x : Bool) : RunBools w0 (w.setCell ⟨g, j, none⟩ (.bool x)) p g S B (bs.set j x) :=
  ⟨h.own.beside (R := (· = g)) (Only.setCell (S := fun x => x = g) (Only.refl _ w) (p := ⟨g, j, none⟩) rfl _) h.ne (fun k e => by rw [e]; exact h.go), h.bools.set j x, h.go⟩
theorem RunBools.quiet (h : RunBools w0 w p g S B bs) (hO : Only (fun _ => False) w w') : RunBools w0 w' p g S B bs := ⟨h.own.quiet hO, h.bools.later hO, h.go⟩
theorem RunBools.mono (h : RunBools w0 w p g S B bs) (hB : B ≤ B') : RunBools w0 w p g S B' bs := ⟨h.own.mono hB, h.bools, h.go⟩
end
abbrev rdOf (bs : List Bool) : Nat → Bool := fun t => bs.getD t false
theorem rd_set {bs : List Bool} {j : Nat} (hj : j < bs.length) (x : Bool) (t : Nat) : rdOf (bs.set j x) t = upd (rdOf bs) j x t := by
  unfold rdOf upd
  by_cases e : t = j
  · subst e; rw [if_pos rfl]; simp [List.getD, hj]
  · rw [if_neg e]; simp [List.getD, List.getElem?_set_ne (fun h => e h.symm)]
theorem kind_full (k : Nat) : kindOk (1 + ((k : Int) + 1) % 2) (1 + ((k : Int) + 1) % 7) = true := decide_eq_true (by omega)

/-- What is known ere each play. -/
def FullEre (w0 : World) (p g N n m : Nat) (i : Value) (wr : World) : Prop :=
  ∃ (j : Nat) (S : St) (bs : List Bool), j ≤ m ∧ i = .int .i64 j ∧ RunBools w0 wr p g S (n + 2 * j) bs ∧ bs.length = n + 1 ∧ bs.getD 0 false = false ∧ Fulls S N n (rdOf bs)
/-- What is known behind the switch. -/
def FullMid (w0 : World) (p g N n j : Nat) (wx : World) : Prop :=
  ∃ (S : St) (bs : List Bool), RunBools w0 wx p g S (n + 2 * j + 2) bs ∧ bs.length = n + 1 ∧ bs.getD 0 false = false ∧ Fulls S N n (rdOf bs)
theorem set_zero {bs : List Bool} (hz : bs.getD 0 false = false) (j : Nat) (hj : 1 ≤ j) (x : Bool) : (bs.set j x).getD 0 false = false := by
  simp only [List.getD] at hz ⊢
  rw [List.getElem?_set_ne (by omega)]; exact hz
theorem fulls_set {S : St} {N n : Nat} {bs : List Bool} {j : Nat} (hj : j < bs.length) {x : Bool} (h : Fulls S N n (upd (rdOf bs) j x)) : Fulls S N n (rdOf (bs.set j x)) := h.congr (fun t _ _ => (rd_set hj x t).symm)

set_option maxRecDepth 100000 in
set_option maxHeartbeats 4000000 in
theorem full_walk (a0 a1 : Int) (a : Option Addr) (len cap : Nat) (zs : List Int) (w : World) (h : IsRow .i64 w a len cap zs) :
    Calls Try.prog 9 #[.int .i64 a0, .int .i64 a1, .slice a len cap] w fun e w' => e = .returned (.bool true) ∧ Below w.heap.size w w' := by
  obtain ⟨ys, hy1, hy2, hy3, hy4⟩ := nums_cut h 150
  obtain ⟨m, hm⟩ : ∃ m, min len 150 = m := ⟨_, rfl⟩
  rw [hm] at hy1
  rw [hy1] at hy2
  have hm1 : m ≤ 150 := by omega
  have hm2 : m ≤ len := by omega
  have q2 := run_min2 (len : Int) 150 m (by omega)
  have HY := Lib.hid hy2
  have HYL := Lib.hid hy1
  clear h hy1 hy2 hm
  have K0 := Lib.hid (begun_any w)
  have R1 := Lib.hid (fun w => rest_any a0 4 (by omega) (by omega) w)
  have b1 := restOf_lo a0 4 (by omega)
  have b2 := restOf_hi a0 4 (by omega)
  generalize restOf a0 4 = rc at *
  obtain ⟨N, hN⟩ : ∃ N : Nat, (N : Int) = 1 + rc := ⟨(1 + rc).toNat, by omega⟩
  have eN : 1 + rc = (N : Int) := hN.symm
  have N1 : 1 ≤ N := by omega
  have N4 : N ≤ 4 := by omega
  have R2 := Lib.hid (fun w => rest_any a1 17 (by omega) (by omega) w)
  have d1 := restOf_lo a1 17 (by omega)
  have d2 := restOf_hi a1 17 (by omega)
  generalize restOf a1 17 = rn at *
  obtain ⟨n, rfl⟩ : ∃ n : Nat, rn = n := ⟨rn.toNat, by omega⟩
  have n16 : n ≤ 16 := by omega
  have RK := Lib.hid (fun x w => rest_any x N (by omega) (by omega) w)
  have R3 := Lib.hid (fun x w => rest_any x 3 (by omega) (by omega) w)
  have NW := Lib.hid (fun W hO => own_new N N1 N4 (w0 := w) (w := W) hO)
  have hmk := run_mkb (n + 1) (by omega)
  have e1 : ((n + 1 : Nat) : Int) = (n : Int) + 1 := by omega
  rw [e1] at hmk
  clear b1 b2 hN d1 d2
  go_enter Try.func9, Try.ntmps9
  go_upto_region 7 with (first
    | (go_at_call 48; (with_reducible refine K0.out.mono ?_); rintro e w1 ⟨rfl, hO⟩; have O1 := Lib.hid hO; clear hO)
    | (go_at_call_of 24 (Value.int .i64 a0); (with_reducible refine (R1.out _).mono ?_); rintro e w' ⟨rfl, rfl⟩)
    | (go_at_call_of 24 (Value.int .i64 a1); (with_reducible refine (R2.out _).mono ?_); rintro e w' ⟨rfl, rfl⟩)
    | (go_at_call 27; (with_reducible refine (NW.out _ O1.out).mono ?_); rintro e w2 ⟨p, rfl, -, hM⟩; have H0 := Lib.hid hM; clear hM))
  clear K0 O1 R1 R2 NW
  have HB0 : Hid (RunBools w (w2.alloc (.cells (boolCells (List.replicate (n + 1) false)).toArray 4)) p w2.heap.size (noS N) 0 (List.replicate (n + 1) false)) :=
    Lib.hid ⟨H0.out.quiet ((Only.refl _ _).alloc _), BoolsOf.new _ _, H0.out.only.size⟩
  go_wp2_with fail
  obtain ⟨g, hg⟩ : ∃ g, w2.heap.size = g := ⟨_, rfl⟩
  rw [hg] at HB0
  rw [hg]
  clear hg H0
  generalize w2.alloc _ = w3 at *
  have hl0 : (List.replicate (n + 1) false).length = n + 1 := by simp
  have hz0 : (List.replicate (n + 1) false).getD 0 false = false := by simp
  generalize List.replicate (n + 1) false = bs0 at *
  go_loopw [10] (fun i wr => ∃ (k : Nat) (S : St) (bs : List Bool), k ≤ n ∧ i = .int .i64 ((k + 1 : Nat) : Int) ∧ RunBools w wr p g S k bs ∧ bs.length = n + 1 ∧ bs.getD 0 false = false ∧ Fulls S N k (rdOf bs)) (fun i _ => n + 1 - (intOf i).toNat)
  case atStart => exact ⟨0, _, bs0, by omega, rfl, HB0.out, hl0, hz0, Fulls.start N4 _⟩
  case round =>
    clear HB0 hl0 hz0
    obtain ⟨k, S, bs, hk, rfl, hB, hl, hz, hF⟩ := hrel
    have HB := Lib.hid hB
    have HL := Lib.hid hl
    have HZ := Lib.hid hz
    have HF := Lib.hid hF
    clear hB hl hz hF
    by_cases hlt : k < n
    · have g1 : (k : Int) + 1 ≤ n := by omega
      have hbl : k + 1 < bs.length := by rw [HL.out]; omega
      have HF2 := Lib.hid (HF.out.congr (rd' := rdOf (bs.set (k + 1) true)) (fun t h1 h2 => by rw [rd_set hbl, upd_other _ _ (by omega)]))
      have hmore := HF2.out.more (by omega) (kind_full k) (by rw [rd_set hbl, upd_same])
      have KA := Lib.hid (own2_add HB.out.own (by omega) ((k : Int) + 1) (1 + ((k : Int) + 1) % 2) (1 + ((k : Int) + 1) % 7))
      rw [hmore.1] at KA
      have HM := Lib.hid hmore.2
      have hc := HB.out.bools.cell (j := k + 1) hbl
      clear hmore hbl
      go_wp2_with (first
        | (go_at_call 28; (with_reducible refine KA.out.mono ?_); rintro e w4 ⟨rfl, ho, hO⟩; have HC := Lib.hid (HB.out.call ho hO); have c4 := HC.out.bools.frozen (k + 1); have c5 := HC.out.bools.cell (j := k + 1) (by rw [HL.out]; omega); clear ho hO))
      go_roundw
      case rel => exact ⟨k + 1, _, bs.set (k + 1) true, by omega, by go_num, HC.out.set (k + 1) true, by rw [List.length_set]; exact HL.out, set_zero HZ.out _ (by omega) _, HM.out⟩
      case measure => simp [intOf]; omega
    · obtain rfl : k = n := by omega
      have g1 : ¬ (k : Int) + 1 ≤ k := by omega
      clear hlt
      go_wp2_with fail
      go_loopw [12, 13, 14, 15, 17, 18, 19, 20, 62] (fun _ _ _ _ _ _ _ _ i wr => FullEre w p g N k m i wr) (fun _ _ _ _ _ _ _ _ i _ => m - (intOf i).toNat)
      case atStart => exact ⟨0, S, bs, by omega, rfl, HB.out.mono (by omega), HL.out, HZ.out, HF.out⟩
      case round =>
        clear HB HL HZ HF
        obtain ⟨j, S, bs, hj, rfl, hB, hl, hz, hF⟩ := hrel
        have HB := Lib.hid hB
        have HL := Lib.hid hl
        have HZ := Lib.hid hz
        have HF := Lib.hid hF
        clear hB hl hz hF
        by_cases hlt : j < m
        · have g2 : (j : Int) < m := by omega
          have g3 : (0 : Int) ≤ j := by omega
          obtain ⟨ya, yc, hye, hyc⟩ := HY.out
          rw [Value.slice.injEq] at hye
          obtain ⟨rfl, -, rfl⟩ := hye
          obtain ⟨b, off, rfl, hc⟩ := hyc j (by rw [HYL.out]; exact hlt)
          have hcx := (HB.out.own.below.cell (p := ⟨b, off + j, none⟩) (block_lt hc)).trans hc
          generalize ys.getD j 0 = x at *
          clear hc hyc
          by_cases hn0 : k = 0
          · subst hn0
            go_wp2_with fail
            go_ret
            exact ⟨rfl, HB.out.own.below⟩
          · have hkz : ((k : Int) == 0) = false := by simp; omega
            obtain ⟨z, hz⟩ : ∃ z, x.tdiv 3 = z := ⟨_, rfl⟩
            have RT := Lib.hid (fun w => rest_any (wrap64 z) k (by omega) (by omega) w)
            have RC := Lib.hid (RK.out (wrap64 z))
            have RX := Lib.hid (R3.out x)
            have t1 := restOf_lo (wrap64 z) k (by omega)
            have t2 := restOf_hi (wrap64 z) k (by omega)
            have c1 := restOf_lo (wrap64 z) N (by omega)
            have c2 := restOf_hi (wrap64 z) N (by omega)
            have r1 := restOf_lo x 3 (by omega)
            have r2 := restOf_hi x 3 (by omega)
            generalize restOf (wrap64 z) k = rt at *
            generalize restOf (wrap64 z) N = rcp at *
            generalize restOf x 3 = kind at *
            obtain ⟨u, hu⟩ : ∃ u : Nat, (u : Int) = 1 + rt := ⟨(1 + rt).toNat, by omega⟩
            have eu : 1 + rt = (u : Int) := hu.symm
            have u1 : 1 ≤ u := by omega
            have u2 : u ≤ k := by omega
            obtain ⟨cp, rfl⟩ : ∃ cp : Nat, rcp = cp := ⟨rcp.toNat, by omega⟩
            have hcp : cp < N := by omega
            have hul : u < bs.length := by rw [HL.out]; omega
            have hu0 : (u : Int) < (k : Int) + 1 := by omega
            clear hu t1 t2 c1 c2
            go_upto_block 4 with (first
              | (go_at_call_of 24 (Value.int .i64 x); (with_reducible refine (RX.out _).mono ?_); rintro e w' ⟨rfl, rfl⟩)
              | (go_at_call 24; (with_reducible refine (RT.out _).mono ?_); rintro e w' ⟨rfl, rfl⟩))
            go_cut [14] (fun _ wx => FullMid w p g N k j wx)
            case first =>
              have c5 := HB.out.bools.cell (j := u) hul
              have HUL := Lib.hid hul
              rcases (show kind = 0 ∨ kind = 1 ∨ kind = 2 by omega) with rfl | rfl | rfl
              · have KB := Lib.hid (own2_block HB.out.own (by omega) (u : Int))
                rcases HF.out.block n16 u1 u2 with ⟨e1, e2⟩ | ⟨e1, e2⟩
                · rw [e1] at KB
                  have HF2 := Lib.hid (fulls_set hul e2)
                  clear e1 e2 hul c5
                  go_wp2_with (go_at_call 35; (with_reducible refine KB.out.mono ?_); rintro e w5 ⟨rfl, ho, hO⟩; have HC := Lib.hid (HB.out.call ho hO); have c4 := HC.out.bools.frozen u; have c6 := HC.out.bools.cell (j := u) HUL.out; clear ho hO)
                  go_meet
                  exact ⟨_, bs.set u false, (HC.out.set u false).mono (by omega), by rw [List.length_set]; exact HL.out, set_zero HZ.out _ u1 _, HF2.out⟩
                · rw [e1] at KB
                  have HF2 := Lib.hid e2
                  clear e1 e2 hul c5
                  go_wp2_with (go_at_call 35; (with_reducible refine KB.out.mono ?_); rintro e w5 ⟨rfl, ho, hO⟩; have HC := Lib.hid (HB.out.call ho hO); clear ho hO)
                  go_meet
                  exact ⟨_, bs, HC.out.mono (by omega), HL.out, HZ.out, HF2.out⟩
              · have KB := Lib.hid (own2_wake HB.out.own (by omega) (u : Int))
                rcases HF.out.wake n16 u1 u2 with ⟨e1, e2⟩ | ⟨e1, e2⟩
                · rw [e1] at KB
                  have HF2 := Lib.hid (fulls_set hul e2)
                  clear e1 e2 hul c5
                  go_wp2_with (go_at_call 37; (with_reducible refine KB.out.mono ?_); rintro e w5 ⟨rfl, ho, hO⟩; have HC := Lib.hid (HB.out.call ho hO); have c4 := HC.out.bools.frozen u; have c6 := HC.out.bools.cell (j := u) HUL.out; clear ho hO)
                  go_meet
                  exact ⟨_, bs.set u true, (HC.out.set u true).mono (by omega), by rw [List.length_set]; exact HL.out, set_zero HZ.out _ u1 _, HF2.out⟩
                · rw [e1] at KB
                  have HF2 := Lib.hid e2
                  clear e1 e2 hul c5
                  go_wp2_with (go_at_call 37; (with_reducible refine KB.out.mono ?_); rintro e w5 ⟨rfl, ho, hO⟩; have HC := Lib.hid (HB.out.call ho hO); clear ho hO)
                  go_meet
                  exact ⟨_, bs, HC.out.mono (by omega), HL.out, HZ.out, HF2.out⟩
              · have htk := HF.out.tick n16 N4 hcp
                have KB := Lib.hid (own2_tick HB.out.own (by omega) (cp : Int))
                rw [htk.1] at KB
                have HF2 := Lib.hid htk.2
                clear htk hul c5
                go_wp2_with (first
                  | (go_at_call 24; (with_reducible refine (RC.out _).mono ?_); rintro e w' ⟨rfl, rfl⟩)
                  | (go_at_call 39; (with_reducible refine KB.out.mono ?_); rintro e w5 ⟨rfl, ho, hO⟩; have HC := Lib.hid (HB.out.call ho hO); clear ho hO))
                go_meet
                exact ⟨_, bs, HC.out.mono (by omega), HL.out, HZ.out, HF2.out⟩
            case rest =>
              clear HB HL HZ HF hul
              obtain ⟨S, bs, hB, hl, hz, hF⟩ := hcut
              have HB := Lib.hid hB
              have HL := Lib.hid hl
              have HZ := Lib.hid hz
              have HF := Lib.hid hF
              have HCN := Lib.hid (hF.count hB.own.ok N4 n16 hz)
              clear hB hl hz hF
              go_wp2_with fail
              go_loopw [14, 17, 102] (fun wn _ i wr => ∃ q : Nat, q ≤ k + 1 ∧ i = .int .i64 q ∧ wn = .int .i64 (readies (rdOf bs) q : Nat) ∧ wc = wr) (fun _ _ i _ => k + 1 - (intOf i).toNat)
              case atStart => exact ⟨0, by omega, rfl, rfl, rfl⟩
              case round =>
                obtain ⟨q, hq, rfl, rfl, rfl⟩ := hrel
                by_cases hlt2 : q < k + 1
                · have g4 : (q : Int) < (k : Int) + 1 := by omega
                  have g5 : (0 : Int) ≤ q := by omega
                  have c5 := HB.out.bools.cell (j := q) (by rw [HL.out]; exact hlt2)
                  have hrs := readies_succ (rdOf bs) q
                  have hrl := readies_le (rdOf bs) q
                  cases hbq : bs.getD q false with
                  | true =>
                    rw [hbq] at c5
                    rw [if_pos hbq] at hrs
                    have HRS := Lib.hid hrs
                    clear hrs hbq
                    go_wp2_with fail
                    go_roundw
                    case rel => exact ⟨q + 1, by omega, by go_num, by rw [HRS.out]; go_num, trivial⟩
                    case measure => simp [intOf]; omega
                  | false =>
                    rw [hbq] at c5
                    rw [if_neg (by show ¬ bs.getD q false = true; rw [hbq]; decide)] at hrs
                    have HRS := Lib.hid hrs
                    clear hrs hbq
                    go_wp2_with fail
                    go_roundw
                    case rel => exact ⟨q + 1, by omega, by go_num, by rw [HRS.out], trivial⟩
                    case measure => simp [intOf]; omega
                · have hqk : q = k + 1 := by omega
                  have g4 : ¬ (q : Int) < (k : Int) + 1 := by omega
                  have hrl := readies_le (rdOf bs) q
                  obtain ⟨wn, hwn⟩ : ∃ wn, readies (rdOf bs) q = wn := ⟨_, rfl⟩
                  rw [← hqk, hwn] at HCN
                  rw [hwn] at hrl
                  rw [hwn]
                  have qm := run_min2 (N : Int) (wn : Int) (busy S N : Nat) (by have := HCN.out; omega)
                  clear hwn hlt2
                  go_wp2_with fail
                  go_loopw [15, 18, 19, 20, 111] (fun bz _ _ _ i wr => ∃ q : Nat, q ≤ N ∧ i = .int .i64 q ∧ bz = .int .i64 (busy S q : Nat) ∧ wc = wr) (fun _ _ _ _ i _ => N - (intOf i).toNat)
                  case atStart => exact ⟨0, by omega, rfl, rfl, rfl⟩
                  case round =>
                    obtain ⟨q, hq2, rfl, rfl, rfl⟩ := hrel
                    by_cases hlt3 : q < N
                    · have g4 : (q : Int) < N := by omega
                      have g5 : (0 : Int) ≤ q := by omega
                      have KP := Lib.hid (own_pick HB.out.own (q : Int))
                      have hpi : isCpu S (q : Int) = true := decide_eq_true (by rw [HF.out.hn]; omega)
                      have hbs := busy_succ S q
                      have hbl := busy_le S q
                      unfold pickN pickE at KP
                      rw [if_pos hpi, if_pos hpi, Int.toNat_natCast] at KP
                      by_cases hon : S.on q = 0
                      · rw [if_pos hon] at KP
                        rw [if_pos hon] at hbs
                        have HBS := Lib.hid hbs
                        clear hbs hpi
                        go_wp2_with (go_at_call 29; (with_reducible refine KP.out.mono ?_); rintro e w' ⟨rfl, rfl⟩)
                        go_roundw
                        case rel => exact ⟨q + 1, by omega, by go_num, by rw [HBS.out], trivial⟩
                        case measure => simp [intOf]; omega
                      · rw [if_neg hon] at KP
                        rw [if_neg hon] at hbs
                        have HBS := Lib.hid hbs
                        clear hbs hpi
                        go_wp2_with (go_at_call 29; (with_reducible refine KP.out.mono ?_); rintro e w' ⟨rfl, rfl⟩)
                        go_roundw
                        case rel => exact ⟨q + 1, by omega, by go_num, by rw [HBS.out]; go_num, trivial⟩
                        case measure => simp [intOf]; omega
                    · obtain rfl : q = N := by omega
                      have hbl := busy_le S q
                      generalize busy S q = bz at *
                      go_wp2_with fail
                      go_roundw
                      case rel => exact ⟨j + 1, S, bs, by omega, by go_num, HB.out.mono (by omega), HL.out, HZ.out, HF.out⟩
                      case measure => simp [intOf]; omega
        · obtain rfl : j = m := by omega
          go_wp2_with fail
          go_ret
          exact ⟨rfl, HB.out.own.below⟩
end Go.Proofs.Ytddfdnhlghmapaa.Sp
