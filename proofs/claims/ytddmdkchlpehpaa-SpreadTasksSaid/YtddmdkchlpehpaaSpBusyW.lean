/- The law SpreadBusy: its walk. -/
import Derived.Test.YtddmdkchlpehpaaSpBusy
import Derived.Test.YtddmdkchlpehpaaSpPlay
import Derived.Test.YtddmdkchlpehpaaMin2
import Derived.Deep.CutBlock
namespace Go.Proofs.Ytddmdkchlpehpaa.Sp
open Go.ChangeShapes Go.WideShapes Go.ChangeAt Go.RowKit Go.Maps
open Go.Proofs.Ytddmdkchlpehpaa.Vt
set_option linter.unusedVariables false

section
variable {w0 w w' : World} {p q : Nat} {S : St} {P : Pls} {B : Int} {n : Nat}
theorem Duo.below (h : Duo w0 w p q S P B) : Below w0.heap.size w0 w := h.own.below
theorem Duo.beside {R : Nat → Prop} (h : Duo w0 w p q S P B) (hO : Only R w w') (hp : ¬ R p) (hq : ¬ R q) (hN : ∀ k, R k → w0.heap.size ≤ k) : Duo w0 w' p q S P B :=
  ⟨h.own.beside hO hp hN, h.pl.keep hO hq, h.ne, h.qown, h.told, h.runs, h.full⟩
theorem runs_none (n4 : n ≤ 4) : Runs (noS n) :=
  ⟨fun c _ h => absurd rfl h, fun c d _ _ h => absurd rfl h, fun t _ h => (by cases h), rfl, fun c _ => Nat.zero_le _, n4⟩
theorem duo_start (h : Own w0 w p (noS n) 0) (n4 : n ≤ 4) : Duo w0 (w.alloc (.cells Try.zeroCells49 49)) p w.heap.size (noS n) (fun _ => ⟨false, false, false, false, 0⟩) 0 := by
  have hO : Only (fun _ => False) w (w.alloc (.cells Try.zeroCells49 49)) := (Only.refl _ w).alloc _
  refine ⟨h.quiet hO, ⟨_, heap_alloc_new w _, zero_pl⟩, ?_, h.only.size, fun t _ _ => ⟨rfl, rfl, fun e => absurd rfl e⟩, runs_none n4, fun c _ _ t _ => rfl⟩
  obtain ⟨cs, h1, -⟩ := h.at_
  have := block_there h1
  omega
theorem Duo.fresh (h : Duo w0 w p q S P B) : p < w.heap.size ∧ q < w.heap.size := by
  obtain ⟨cs, h1, -⟩ := h.own.at_
  exact ⟨block_there h1, h.pl.lt⟩
end

set_option maxRecDepth 100000 in
set_option maxHeartbeats 4000000 in
theorem busy_walk (cpus : Int) (a : Option Addr) (len cap : Nat) (recs : List (List Int)) (w : World) (h : ArgRows w a len cap recs) :
    Calls Try.prog 4 #[.int .i64 cpus, .slice a len cap] w fun e w' => e = .returned (.bool true) ∧ Below w.heap.size w w' := by
  obtain ⟨hlen, hcap, hmx, -, hrow⟩ := h
  have hcm : cap ≤ 9223372036854775807 := by unfold maxLen at hmx; omega
  obtain ⟨m, hm⟩ : ∃ m, min len 200 = m := ⟨_, rfl⟩
  have hm1 : m ≤ 200 := by omega
  have hm2 : m ≤ len := by omega
  have q2 := run_min2 (len : Int) 200 m (by omega)
  rw [← hlen] at hrow
  have HROW := Lib.hid hrow
  clear hrow hmx hlen hm
  have K0 := Lib.hid (begun_any w)
  have R1 := Lib.hid (fun w => rest_any cpus 4 (by omega) (by omega) w)
  have b1 := restOf_lo cpus 4 (by omega)
  have b2 := restOf_hi cpus 4 (by omega)
  generalize restOf cpus 4 = rc at *
  obtain ⟨n, hn⟩ : ∃ n : Nat, (n : Int) = 1 + rc := ⟨(1 + rc).toNat, by omega⟩
  have en : 1 + rc = (n : Int) := hn.symm
  have n1 : 1 ≤ n := by omega
  have n4 : n ≤ 4 := by omega
  have NW := Lib.hid (fun W hO => own_new n n1 n4 (w0 := w) (w := W) hO)
  clear b1 b2 hn
  go_enter Try.func4, Try.ntmps4
  go_wp2_with (first
    | (go_at_call 34; (with_reducible refine K0.out.mono ?_); rintro e w1 ⟨rfl, hO⟩; have O1 := Lib.hid hO; clear hO)
    | (go_at_call 35; (with_reducible refine (R1.out _).mono ?_); rintro e w' ⟨rfl, rfl⟩)
    | (go_at_call 12; (with_reducible refine (NW.out _ O1.out).mono ?_); rintro e w2 ⟨p, rfl, -, hM⟩; have H0 := Lib.hid hM; clear hM))
  clear K0 O1 R1 NW
  have HB0 := Lib.hid (duo_start H0.out n4)
  clear H0
  go_loopw [38] (fun i wr => ∃ (j : Nat) (S : St) (P : Pls), j ≤ m ∧ i = .int .i64 j ∧ Duo w wr p w2.heap.size S P (2 * j) ∧ S.n = n) (fun i _ => m - (intOf i).toNat)
  case atStart => exact ⟨0, _, _, by omega, rfl, HB0.out, rfl⟩
  case round =>
    clear HB0
    obtain ⟨j, S, P, hj, rfl, hM, hn⟩ := hrel
    have HM := Lib.hid hM
    have Hn := Lib.hid hn
    clear hM hn
    generalize w2.heap.size = q at *
    by_cases hlt : j < m
    · obtain ⟨rb, roff, rv, rfl, hbl, hc, hv⟩ := HROW.out j (by omega)
      have hcx := (HM.out.below.cell (p := ⟨rb, roff + j, none⟩) hbl).trans hc
      have HV := Lib.hid (hv.later HM.out.below)
      have g1 : (j : Int) < m := by omega
      have g2 : (0 : Int) ≤ j := by omega
      generalize recs.getD j [] = xs at *
      obtain ⟨ya, yc, rfl, hl1, hl2, -⟩ := hv
      have hl3 : yc ≤ 9223372036854775807 := by unfold maxLen at hl2; omega
      clear hc hl2 HROW
      by_cases hs : xs.length < 3
      · have g3 : (xs.length : Int) < 3 := by omega
        go_wp2_with fail
        go_roundw
        case rel => exact ⟨j + 1, S, P, by omega, by go_num, HM.out.mono (by omega), Hn.out⟩
        case measure => simp [intOf]; omega
      · have g3 : ¬ (xs.length : Int) < 3 := by omega
        have KP := Lib.hid (play_any HM.out (by omega) n Hn.out _ xs HV.out (by omega))
        clear HV
        go_wp2_with (go_at_call 36; (with_reducible refine KP.out.mono ?_); rintro e w3 ⟨rfl, S3, P3, hM, hn⟩; have HD := Lib.hid hM; have Hn3 := Lib.hid hn; clear hM hn)
        clear KP HM
        have fr := HD.out.fresh
        have fs := HD.out.own.only.size
        have HA0 := Lib.hid (zero_arr w3 S3)
        have HD0 := Lib.hid (HD.out.quiet ((Only.refl (fun _ => False) w3).alloc (.cells zero17 47)))
        go_loopw [11, 50] (fun d i wx => ∃ c : Nat, c ≤ n ∧ i = .int .i64 c ∧ d = .int .i64 (idleTo S3 c : Nat) ∧ Duo w wx p q S3 P3 (2 * j + 2) ∧ ArrAt wx w3.heap.size (atTo S3 c)) (fun _ i _ => n - (intOf i).toNat)
        case atStart => exact ⟨0, by omega, rfl, rfl, HD0.out, HA0.out⟩
        case round =>
          clear HD HA0 HD0
          obtain ⟨c, hc, rfl, rfl, hD, hA⟩ := hrel
          have HD2 := Lib.hid hD
          have HA := Lib.hid hA
          clear hD hA
          obtain ⟨b, hb⟩ : ∃ b, w3.heap.size = b := ⟨_, rfl⟩
          rw [hb] at fr fs HA
          rw [hb]
          have fzA := HA.out.frozen
          by_cases hc2 : c < n
          · have g4 : (c : Int) < n := by omega
            have g5 : (0 : Int) ≤ c := by omega
            have hcp : isCpu S3 (c : Int) = true := decide_eq_true (by rw [Hn3.out]; omega)
            have KQ := Lib.hid (own_pick HD2.out.own (c : Int))
            by_cases h0 : S3.on c = 0
            · have hpk : pickN S3 (c : Int) = 0 ∧ pickE S3 (c : Int) = 4 := by
                unfold pickN pickE; rw [if_pos hcp, if_pos hcp, Int.toNat_natCast, h0]
                exact ⟨rfl, if_pos rfl⟩
              rw [hpk.1, hpk.2] at KQ
              have ei : bits BinOp.or IntKind.i64 (idleTo S3 c : Nat) (wrap64 (2 ^ c)) = (idleTo S3 (c + 1) : Nat) := by
                rw [shl5b (by omega), or_more (by omega) (idleTo_lt S3 c)]
                show _ = ((if S3.on c = 0 then idleTo S3 c + 2 ^ c else idleTo S3 c : Nat) : Int)
                rw [if_pos h0]
              have EI := Lib.hid ei
              clear hpk hcp ei
              go_wp2_with (go_at_call 14; (with_reducible refine KQ.out.mono ?_); rintro e w' ⟨rfl, rfl⟩)
              go_roundw
              case rel => exact ⟨c + 1, by omega, by go_num, by rw [EI.out], HD2.out, by rw [atTo_same h0]; exact HA.out⟩
              case measure => simp [intOf]; omega
            · have hpk : pickN S3 (c : Int) = S3.on c ∧ pickE S3 (c : Int) = 0 := by
                unfold pickN pickE; rw [if_pos hcp, if_pos hcp, Int.toNat_natCast]
                exact ⟨rfl, if_neg h0⟩
              rw [hpk.1, hpk.2] at KQ
              obtain ⟨t1, t2, t3, t4, t5, mm, t6, t7, t8⟩ := run_told HD2.out.told HD2.out.runs HD2.out.own.ok (c := c) (by rw [Hn3.out]; exact hc2) h0
              have em := atTo_more (S := S3) (c := c) h0
              have ei : idleTo S3 (c + 1) = idleTo S3 c := if_neg h0
              clear hpk hcp
              generalize S3.on c = t at *
              have ca : wr.cell? ⟨b, t, none⟩ = some (.int .i64 0) := by have := HA.out.cell t (by omega); rw [t3] at this; exact this
              have ci := HD2.out.pl.qi t (by omega)
              have cr := HD2.out.pl.qr t (by omega)
              have cp := HD2.out.pl.qpin t (by omega)
              rw [t4] at ci
              rw [t5] at cr
              rw [t7] at cp
              have hmn := may_not t6 (show c < 4 by omega) t8
              have k1 : ¬ (t : Int) < 1 := by omega
              have k2 : ¬ 16 < (t : Int) := by omega
              have k3 : (t : Int) < 17 := by omega
              have k4 : (0 : Int) ≤ t := by omega
              clear t3 t4 t5 t7 t8
              go_wp2_with (go_at_call 14; (with_reducible refine KQ.out.mono ?_); rintro e w' ⟨rfl, rfl⟩)
              go_roundw
              case rel =>
                refine ⟨c + 1, by omega, by go_num, by rw [ei], HD2.out.beside ((Only.refl (fun k => k = b) _).setCell (p := ⟨b, t, none⟩) rfl _) (by omega) (by omega) (fun k e => by omega), ?_⟩
                have := HA.out.set t (by omega) (c + 1)
                rw [show ((c + 1 : Nat) : Int) = (c : Int) + 1 by omega, em] at this
                exact this
              case measure => simp [intOf]; omega
          · obtain rfl : c = n := by omega
            have g4 : ¬ (c : Int) < c := by omega
            go_wp2_with fail
            go_loopw [110] (fun i wy => ∃ t : Nat, t ≤ 17 ∧ i = .int .i64 t ∧ wr = wy) (fun i _ => 17 - (intOf i).toNat)
            case atStart => exact ⟨0, by omega, rfl, rfl⟩
            case round =>
              obtain ⟨t, ht, rfl, rfl⟩ := hrel
              by_cases ht2 : t < 17
              · have g5 : (t : Int) < 17 := by omega
                have g6 : (0 : Int) ≤ t := by omega
                have ca := HA.out.cell t ht2
                have ci := HD2.out.pl.qi t ht2
                have cr := HD2.out.pl.qr t ht2
                have cd := HD2.out.pl.qd t ht2
                have cm := HD2.out.pl.qm t ht2
                have cp := HD2.out.pl.qpin t ht2
                have hq := rest_told HD2.out.told HD2.out.runs HD2.out.full HD2.out.own.ok ht2
                rw [Hn3.out] at hq
                generalize (P3 t).i = pi at *
                generalize (P3 t).r = pr at *
                generalize (P3 t).d = pd at *
                generalize (P3 t).m = pm at *
                generalize (P3 t).pin = pp at *
                generalize atTo S3 c t = at' at *
                generalize idleTo S3 c = d at *
                cases pi with
                | false =>
                  clear hq
                  go_wp2_with fail
                  go_roundw
                  case rel => exact ⟨t + 1, by omega, by go_num, trivial⟩
                  case measure => simp [intOf]; omega
                | true =>
                  cases pr with
                  | false =>
                    clear hq
                    go_wp2_with fail
                    go_roundw
                    case rel => exact ⟨t + 1, by omega, by go_num, trivial⟩
                    case measure => simp [intOf]; omega
                  | true =>
                    by_cases h0 : at' = 0
                    · subst h0
                      have hq2 := hq rfl rfl rfl
                      clear hq
                      cases pd with
                      | false =>
                        obtain ⟨mm, m1, rfl, m2⟩ := hq2 (Or.inl rfl)
                        go_wp2_with fail
                        go_roundw
                        case rel => exact ⟨t + 1, by omega, by go_num, trivial⟩
                        case measure => simp [intOf]; omega
                      | true =>
                        cases pm with
                        | false =>
                          clear hq2
                          go_wp2_with fail
                          go_roundw
                          case rel => exact ⟨t + 1, by omega, by go_num, trivial⟩
                          case measure => simp [intOf]; omega
                        | true =>
                          obtain ⟨mm, m1, rfl, m2⟩ := hq2 (Or.inr rfl)
                          go_wp2_with fail
                          go_roundw
                          case rel => exact ⟨t + 1, by omega, by go_num, trivial⟩
                          case measure => simp [intOf]; omega
                    · have hne : ((at' : Int) == 0) = false := by simp; omega
                      clear hq
                      go_wp2_with fail
                      go_roundw
                      case rel => exact ⟨t + 1, by omega, by go_num, trivial⟩
                      case measure => simp [intOf]; omega
              · obtain rfl : t = 17 := by omega
                go_wp2_with fail
                go_roundw
                case rel => exact ⟨j + 1, S3, P3, by omega, by go_num, HD2.out.mono (by omega), Hn3.out⟩
                case measure => simp [intOf]; omega
    · obtain rfl : j = m := by omega
      go_wp2_with fail
      go_ret
      exact ⟨rfl, HM.out.below⟩
end Go.Proofs.Ytddmdkchlpehpaa.Sp
