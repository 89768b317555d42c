/- The law SpreadDead: its walk. -/
import Derived.Test.YtddfdnhlghmapaaSpDeadT
import Derived.Test.YtddfdnhlghmapaaUpSort
import Derived.Test.YtddfdnhlghmapaaSpSharesW
import Derived.BigRegion
import Derived.BigQuiet
import Derived.Deep.DeepCutAuto
namespace Go.Proofs.Ytddfdnhlghmapaa.Sp
open Go.ChangeShapes Go.WideShapes Go.ChangeAt Go.RowKit Go.Maps
open Go.Proofs.Ytddfdnhlghmapaa.Vt Go.Proofs.Ytddfdnhlghmapaa.Ad
set_option linter.unusedVariables false

/-- What is so at the head of a tick. -/
structure DeadAt (w : World) (p g : Nat) (L : List Use) (n j : Nat) (wr : World) (S : St) (xs : List Int) (gv : Nat → Nat) : Prop where
  nums : RunNums w wr p g S (16 + 2 * j) xs
  len : xs.length = n
  gave : ∀ i, i < n → xs.getD i 0 = (gv i : Int)
  deads : Deads S L.length
  k : S.k = j
  going : De.Going L (De S L.length) j
  had : De.Had L (De S L.length) j gv

theorem DeadAt.quiet {w wr wr' : World} {p g n j : Nat} {L : List Use} {S : St} {xs : List Int} {gv : Nat → Nat} (h : DeadAt w p g L n j wr S xs gv) (hO : Only (fun _ => False) wr wr') : DeadAt w p g L n j wr' S xs gv := ⟨h.nums.quiet hO, h.len, h.gave, h.deads, h.k, h.going, h.had⟩
/-- A tick that none of the tasks with deadlines had. -/
theorem DeadAt.other {w wr wr' : World} {p g n j : Nat} {L : List Use} {S : St} {xs : List Int} {gv : Nat → Nat} (h : DeadAt w p g L n j wr S xs gv) (hl : L.length ≤ 16) (h0 : De.pick (De S L.length) = 0) (ho : Own w wr' p (tick S 0) (16 + 2 * j + 2)) (hO : Only (· = p) wr wr') : DeadAt w p g L n (j + 1) wr' (tick S 0) xs gv := by
  obtain ⟨d1, d2⟩ := deads_tick h.deads hl
  have hg := h.going.tick
  have hh := h.had.tick h.going
  rw [if_pos h0] at hh
  rw [h.k] at d2
  refine ⟨(h.nums.call ho hO).mono (by omega), h.len, h.gave, d1, by rw [tick_k, h.k]; omega, ?_, ?_⟩
  · rw [d2]; exact hg
  · rw [d2]; exact hh
/-- A tick that one of them had. -/
theorem DeadAt.its {w wr wr' : World} {p g n j i : Nat} {L : List Use} {S : St} {xs : List Int} {gv : Nat → Nat} (h : DeadAt w p g L n j wr S xs gv) (hl : L.length ≤ 16) (hi : De.pick (De S L.length) = i + 1) (hin : i < n) {x : Int} (hx : x = (gv i : Int) + 1) (ho : Own w wr' p (tick S 0) (16 + 2 * j + 2)) (hO : Only (· = p) (wr.setCell ⟨g, i, none⟩ (.int .i64 x)) wr') : DeadAt w p g L n (j + 1) wr' (tick S 0) (xs.set i x) (updN gv i (gv i + 1)) := by
  obtain ⟨d1, d2⟩ := deads_tick h.deads hl
  have hg := h.going.tick
  have hh := h.had.tick h.going
  rw [if_neg (by omega), hi, Nat.add_sub_cancel] at hh
  rw [h.k] at d2
  have hil : i < xs.length := by rw [h.len]; exact hin
  refine ⟨((h.nums.set i x).call ho hO).mono (by omega), by rw [List.length_set]; exact h.len, fun t ht => ?_, d1, by rw [tick_k, h.k]; omega, ?_, ?_⟩
  · rw [getD_set hil]
    by_cases e : t = i
    · subst e; rw [if_pos rfl, updN_same, hx]; omega
    · rw [if_neg e, updN_other _ _ e]; exact h.gave t ht
  · rw [d2]; exact hg
  · rw [d2]; exact hh

theorem row_later {w : World} {a : Option Addr} {len cap : Nat} {zs : List Int} (h : IsRow .i64 w a len cap zs) {w' : World} (hO : Only (fun _ => False) w w') : IsRow .i64 w' a len cap zs := by
  rcases h with h | ⟨x, h1, h2, h3, h4, h5, h6⟩
  · exact .inl h
  · refine .inr ⟨x, h1, h2, h3, h4, fun i hi => ?_, h6⟩
    have := h5 i hi
    rw [← this]
    unfold World.cell?
    rw [hO.block _ (block_lt this) id]
theorem own_new1 {w0 w : World} (hO : Only (fun _ => False) w0 w) : Calls Try.prog 27 #[.int .i64 1] w fun e w' => ∃ p, e = .returned (.tuple #[.pointer (some ⟨p, 0, none⟩), .int .i64 0]) ∧ p = w.heap.size ∧ Own w0 w' p (noS 1) 0 := own_new 1 (by omega) (by omega) hO
theorem own3_addDead {w0 w : World} {p : Nat} {S S' : St} {B : Int} (h : Own w0 w p S B) (hB : B ≤ 7000000000000) {t b q : Int} (e : addDeadE S t b q = 0) (e2 : addDeadS S t b q = S') :
    Calls Try.prog 31 #[.pointer (some ⟨p, 0, none⟩), .int .i64 t, .int .i64 b, .int .i64 q] w (Did w0 p S' (B + 1) (.int .i64 0)) := by
  subst e2
  have := own_addDead h hB t b q
  rwa [e] at this
theorem own3_add {w0 w : World} {p : Nat} {S S' : St} {B : Int} (h : Own w0 w p S B) (hB : B ≤ 7000000000000) {t c v : Int} (e : addE S t c v = 0) (e2 : addS S t c v = S') :
    Calls Try.prog 28 #[.pointer (some ⟨p, 0, none⟩), .int .i64 t, .int .i64 c, .int .i64 v] w (Did w0 p S' (B + 1) (.int .i64 0)) := by
  subst e2
  have := own_add h hB t c v
  rwa [e] at this

set_option maxRecDepth 100000 in
set_option maxHeartbeats 4000000 in
theorem dead_walk (a : Option Addr) (len cap : Nat) (zs : List Int) (a1 a2 : Int) (w : World) (h : IsRow .i64 w a len cap zs) :
    Calls Try.prog 10 #[.slice a len cap, .int .i64 a1, .int .i64 a2] w fun e w' => e = .returned (.bool true) ∧ Below w.heap.size w w' := by
  have HI := Lib.hid h
  clear h
  have o0 := restOf_lo a1 8 (by omega)
  have o1 := restOf_hi a1 8 (by omega)
  have R1 := fun w => rest_any a1 8 (by omega) (by omega) w
  obtain ⟨r, hr⟩ : ∃ r : Nat, restOf a1 8 = r := ⟨(restOf a1 8).toNat, by omega⟩
  rw [hr] at R1 o1
  have KR1 := Lib.hid R1
  have p0 := restOf_lo a2 150 (by omega)
  have p1 := restOf_hi a2 150 (by omega)
  have R2 := fun w => rest_any a2 150 (by omega) (by omega) w
  obtain ⟨q, hq⟩ : ∃ q : Nat, restOf a2 150 = q := ⟨(restOf a2 150).toNat, by omega⟩
  rw [hq] at R2 p1
  have KR2 := Lib.hid R2
  clear R1 R2 hr hq o0 p0
  go_enter Try.func10, Try.ntmps10
  go_upto_region 8 with (first
    | (go_at_call 48; (with_reducible refine (begun_any _).mono ?_); rintro e w1 ⟨rfl, hO⟩; have HO1 := Lib.hid hO; clear hO)
    | (go_at_call 52; (with_reducible refine (Ad.begun_any _).mono ?_); rintro e w2 ⟨rfl, hO⟩; have HO2 := Lib.hid (quiet_trans HO1.out hO); clear hO)
    | (go_at_call 53; (with_reducible refine (Ad.sets_any _ _ _ _ _ (row_later HI.out HO2.out)).mono ?_); rintro e w3 ⟨V, S0, rfl, hS, hr, hO⟩; obtain ⟨n, hn⟩ : ∃ n, S0.length = n := ⟨_, rfl⟩; obtain ⟨a3, c3, rfl, hc31, hc32, -⟩ := hr.shape hn; have HS0 := Lib.hid hS; have HR0 := Lib.hid hr; have HO3 := Lib.hid (quiet_trans HO2.out hO); have HN0 := Lib.hid hn; have HZ := Lib.hid HO2.out.size; clear hS hr hO hn)
    | (go_at_call 54; (with_reducible refine (Up.sortf_any _ _ _ _ HR0.out (fun x hx => by have := Ad.okU_bd (HS0.out.each x hx).1; exact ⟨this.1, this.2.1⟩) (by have := HS0.out.len; omega)).mono ?_); rintro e w4 ⟨rfl, L, hp, hso, hr, hO⟩; have HS := Lib.hid (De.SetOk.perm HS0.out hp); have HSO := Lib.hid hso; have HN : Hid (L.length = n) := Lib.hid (by rw [hp.length_eq]; exact HN0.out); have HO4 := Lib.hid (Ad.only_row HO3.out HR0.out hO HZ.out); have HR := Lib.hid hr; clear hp hso hr hO)
    | (go_at_call 27; (with_reducible refine (own_new1 (Only.refl _ w4)).mono ?_); rintro e w5 ⟨p, rfl, -, hM⟩; have H0 := Lib.hid hM; clear hM))
  have hn8 : n ≤ 8 := by have := HS.out.len; have := HN.out; omega
  have HV := Lib.hid (fun (wx : World) (hO : Only (fun _ => False) w4 wx) => row_view (HR.out.later hO))
  go_wp2_with fail
  go_loopw [10, 11, 37] (fun _ _ i wr => ∃ (k : Nat) (S : St), k ≤ n ∧ i = .int .i64 k ∧ Own w4 wr p S k ∧ Begun S L k 0) (fun _ _ i _ => n - (intOf i).toNat)
  case atStart => exact ⟨0, _, Nat.zero_le _, rfl, H0.out, Begun.start L⟩
  case round =>
    clear H0
    obtain ⟨k, S, hk, rfl, hB, hG⟩ := hrel
    have HB := Lib.hid hB
    have HG := Lib.hid hG
    clear hB hG
    by_cases hlt : k < n
    · obtain ⟨b, off, rfl, hb, c1, c2⟩ : ∃ b off, a3 = some ⟨b, off, none⟩ ∧ b < wr.heap.size ∧ wr.cell? ⟨b, off + k * 2, none⟩ = some (.int .i64 (nthU L k).1) ∧ wr.cell? ⟨b, off + k * 2 + 1, none⟩ = some (.int .i64 (nthU L k).2) := by
        obtain ⟨a', c', e, -, -, h3⟩ := HV.out wr HB.out.only
        cases e
        exact h3 k (by rw [HN.out]; exact hlt)
      have g1 : (k : Int) < n := by omega
      have g2 : (0 : Int) ≤ k := by omega
      obtain ⟨e1, e2⟩ := HG.out.more HS.out (by rw [HN.out]; exact hlt)
      obtain ⟨S', hS'⟩ : ∃ S', addDeadS S ((k : Int) + 1) (nthU L k).1 (nthU L k).2 = S' := ⟨_, rfl⟩
      have KA := Lib.hid (fun (wx : World) (hO : Only (fun _ => False) wr wx) => own3_addDead (HB.out.quiet hO) (by omega) e1 hS')
      rw [hS'] at e2
      have HG2 := Lib.hid e2
      clear e1 e2 hS'
      have hu := Ad.okU_bd (HS.out.each _ (Ad.nthU_mem (show k < L.length by rw [HN.out]; exact hlt))).1
      generalize (nthU L k).1 = x at *
      generalize (nthU L k).2 = y at *
      go_wp2_with (go_at_call 31; (with_reducible refine (KA.out _ ((Only.refl _ wr).alloc _)).mono ?_); rintro e w6 ⟨rfl, ho⟩; have HB2 := Lib.hid ho; clear ho)
      go_roundw
      case rel => exact ⟨k + 1, S', by omega, by go_num, HB2.out, HG2.out⟩
      case measure => simp [intOf]; omega
    · have hkn : L.length = k := by have := HN.out; omega
      have e1 := HG.out
      rw [← hkn] at e1
      have HG1 := Lib.hid e1
      obtain rfl : k = n := by omega
      have HB1 := Lib.hid (HB.out.mono (B' := 8) (by omega))
      clear HG HB e1 hkn
      go_wp2_with (go_at_call 24; (with_reducible refine (KR1.out _).mono ?_); rintro e w' ⟨rfl, rfl⟩)
      clear HR0 HN0 HS0 HO3 HZ HO1 HO2 HI KR1
      go_loopw [12, 54] (fun _ i wr => ∃ (x : Nat) (S : St), x ≤ r ∧ i = .int .i64 x ∧ Own w4 wr p S (8 + x) ∧ Begun S L L.length x) (fun _ i _ => r - (intOf i).toNat)
      case atStart => exact ⟨0, S, Nat.zero_le _, rfl, HB1.out, HG1.out⟩
      case round =>
        clear HB1 HG1
        obtain ⟨x, S, hx, rfl, hB, hG⟩ := hrel
        have HB := Lib.hid hB
        have HG := Lib.hid hG
        clear hB hG
        by_cases hlt2 : x < r
        · have g1 : (x : Int) < r := by omega
          have g2 : (0 : Int) ≤ x := by omega
          have m0 : (0 : Int) ≤ (x : Int) % 2 := by omega
          have m1 : (x : Int) % 2 < 2 := by omega
          obtain ⟨e1, e2⟩ := HG.out.other (c := 1 + (x : Int) % 2) (v := 7) (by have := HN.out; omega) (by omega) (decide_eq_true (by omega))
          obtain ⟨S', hS'⟩ : ∃ S', addS S (9 + (x : Int)) (1 + (x : Int) % 2) 7 = S' := ⟨_, rfl⟩
          have KA := Lib.hid (own3_add HB.out (by omega) e1 hS')
          rw [hS'] at e2
          have HG2 := Lib.hid e2
          clear e1 e2 hS'
          go_wp2_with (go_at_call 28; (with_reducible refine KA.out.mono ?_); rintro e w6 ⟨rfl, ho⟩; have HB2 := Lib.hid ho; clear ho)
          go_roundw
          case rel => exact ⟨x + 1, S', by omega, by go_num, HB2.out.mono (by omega), HG2.out⟩
          case measure => simp [intOf]; omega
        · obtain ⟨d1, d2, d3⟩ := HG.out.deads HS.out HSO.out
          have hk0 := HG.out.k0
          have mk := run_mk k (by omega)
          have HB0 : Hid (RunNums w4 (wr.alloc (.cells (numCells (List.replicate k 0)).toArray 3)) p wr.heap.size S 16 (List.replicate k 0)) :=
            Lib.hid ⟨(HB.out.quiet ((Only.refl _ _).alloc _)).mono (by omega), BlockOf.new _ _, HB.out.only.size⟩
          have hz0 : ∀ t, t < k → (List.replicate k (0 : Int)).getD t 0 = ((fun _ => 0 : Nat → Nat) t : Int) := fun t h => by simp [List.getD, h]
          have HST : Hid (DeadAt w4 p wr.heap.size L k 0 (wr.alloc (.cells (numCells (List.replicate k 0)).toArray 3)) S (List.replicate k 0) (fun _ => 0)) :=
            Lib.hid ⟨HB0.out, by simp, hz0, d1, hk0, d2, d3⟩
          clear d1 d2 d3 hk0 hz0 HB HG HB0 HSO
          go_wp2_with fail
          clear mk
          generalize wr.alloc (.cells (numCells (List.replicate k 0)).toArray 3) = w5 at *
          generalize wr.heap.size = g at *
          generalize List.replicate k (0 : Int) = xs0 at *
          go_loopw [14, 15, 16, 17, 18] (fun i _ _ _ _ wr => ∃ (j : Nat) (S : St) (xs : List Int) (gv : Nat → Nat), j ≤ q ∧ i = .int .i64 ((j : Int) + 1) ∧ DeadAt w4 p g L k j wr S xs gv) (fun i _ _ _ _ _ => q + 1 - (intOf i).toNat)
          case atStart => exact ⟨0, S, xs0, fun _ => 0, Nat.zero_le _, rfl, HST.out⟩
          case round =>
            clear HST
            obtain ⟨j, S, xs, gv, hj, rfl, hD⟩ := hrel
            have HD := Lib.hid hD
            clear hD
            by_cases hlt3 : j < q
            · have g1 : (j : Int) + 1 ≤ q := by omega
              have KP := Lib.hid (own_pick HD.out.nums.own 0)
              have hpi := cpu0 (S := S) (by rw [HD.out.deads.n]; omega)
              unfold pickN pickE at KP
              rw [if_pos hpi, if_pos hpi, Int.toNat_zero] at KP
              have htk := tick0 (S := S) (by rw [HD.out.deads.n]; omega)
              have KT := Lib.hid (fun (wx : World) (h : Own w4 wx p S (16 + 2 * j)) => own2_tick h (by omega) 0)
              rw [htk.1, htk.2] at KT
              have hcur := HD.out.deads.cur
              have hpin := @De_pick S L.length
              rw [HN.out] at hcur hpin
              obtain ⟨o, ho⟩ : ∃ o, S.on 0 = o := ⟨_, rfl⟩
              obtain ⟨pk, hpk⟩ : ∃ pk, De.pick (De S k) = pk := ⟨_, rfl⟩
              have HPK := Lib.hid (show De.pick (De S L.length) = pk by rw [HN.out]; exact hpk)
              rw [ho] at KP hcur
              rw [hpk] at hcur hpin
              clear hpi htk ho hpk
              obtain ⟨ev, hev⟩ : ∃ ev : Int, (if o = 0 then 4 else 0) = ev := ⟨_, rfl⟩
              rw [hev] at KP
              go_upto_region 25 with (first
                | (go_at_call 24; (with_reducible refine (KR2.out _).mono ?_); rintro e w' ⟨rfl, rfl⟩)
                | (go_at_call 29; (with_reducible refine KP.out.mono ?_); rintro e w' ⟨rfl, rfl⟩))
              clear KP
              by_cases hp0 : pk = 0
              · go_cut [91] (fun c wx => c = .bool false ∧ wx = wr)
                case first =>
                  rcases hcur.2 hp0 with h0 | h0
                  · subst h0
                    rw [if_pos rfl] at hev
                    subst hev
                    go_wp2_with fail
                    go_meet
                    exact ⟨rfl, rfl⟩
                  · rw [if_neg (by omega)] at hev
                    subst hev
                    have g3 : (1 : Int) ≤ o := by omega
                    have g4 : ¬ (o : Int) ≤ k := by omega
                    go_wp2_with fail
                    go_meet
                    exact ⟨rfl, rfl⟩
                case rest =>
                  obtain ⟨rfl, rfl⟩ := hcut
                  have HPK0 := Lib.hid (show De.pick (De S L.length) = 0 by rw [HPK.out]; exact hp0)
                  have hl16 := Lib.hid (show L.length ≤ 16 by have := HN.out; omega)
                  clear hcur hpin hp0 hev
                  go_wp2_with (go_at_call 39; (with_reducible refine (KT.out _ HD.out.nums.own).mono ?_); rintro e w7 ⟨rfl, ho, hO⟩; have H7 := Lib.hid (HD.out.other hl16.out HPK0.out ho hO); clear ho hO)
                  generalize De.pick (De S L.length) = pk2 at *
                  go_loopw [17, 18, 104] (fun _ _ i wr => ∃ x : Nat, x ≤ k ∧ i = .int .i64 x ∧ Only (fun _ => False) w7 wr) (fun _ _ i _ => k - (intOf i).toNat)
                  case atStart => exact ⟨0, Nat.zero_le _, rfl, Only.refl _ _⟩
                  case round =>
                    obtain ⟨x, hx, rfl, hOx⟩ := hrel
                    have HOX := Lib.hid hOx
                    clear hOx
                    by_cases hxk : x < k
                    · obtain ⟨b, off, rfl, hb, c1, c2⟩ : ∃ b off, a3 = some ⟨b, off, none⟩ ∧ b < wr.heap.size ∧ wr.cell? ⟨b, off + x * 2, none⟩ = some (.int .i64 (nthU L x).1) ∧ wr.cell? ⟨b, off + x * 2 + 1, none⟩ = some (.int .i64 (nthU L x).2) := by
                        obtain ⟨a', c', e, -, -, h3⟩ := HV.out wr (quiet_trans H7.out.nums.own.only HOX.out)
                        cases e
                        exact h3 x (by rw [HN.out]; exact hxk)
                      have c3 := (H7.out.nums.nums.later HOX.out).cell (j := x) (by rw [H7.out.len]; exact hxk)
                      have hgl := (H7.out.nums.nums.later HOX.out).lt
                      rw [H7.out.gave x hxk] at c3
                      have g1 : (x : Int) < k := by omega
                      have g2 : (0 : Int) ≤ x := by omega
                      have hu := Ad.okU_nat (HS.out.each _ (Ad.nthU_mem (show x < L.length by rw [HN.out]; exact hxk))).1
                      have hdone := H7.out.had.done H7.out.going HS.out (show x < L.length by rw [HN.out]; exact hxk)
                      have hgb := (H7.out.had x (by rw [HN.out]; exact hxk)).2
                      obtain ⟨v1, v2, v3, v4, v5, v6⟩ := hu
                      rw [v1] at c1
                      rw [v2] at c2
                      clear v1 v2
                      generalize cst (nthU L x) = c at *
                      generalize per (nthU L x) = y at *
                      generalize gv x = gx at *
                      obtain ⟨m, hm⟩ : ∃ m, (j + 1) % y = m := ⟨_, rfl⟩
                      have qm : ((j : Int) + 1) % y = (m : Int) := by rw [← hm, show (j : Int) + 1 = ((j + 1 : Nat) : Int) by omega]; rfl
                      rw [hm] at hdone
                      obtain ⟨z, hz⟩ : ∃ z, (j + 1) / y = z := ⟨_, rfl⟩
                      have qz : ((j : Int) + 1) / y = (z : Int) := by rw [← hz, show (j : Int) + 1 = ((j + 1 : Nat) : Int) by omega]; rfl
                      rw [hz] at hdone
                      have hzb : z ≤ j + 1 := hz ▸ Nat.div_le_self _ _
                      clear hm hz
                      have e1 : ¬ (y : Int) = 0 := by omega
                      have e2 : (0 : Int) ≤ (j : Int) + 1 := by omega
                      by_cases m0 : m = 0
                      · have e4 : ((m : Int) == 0) = true := by simp [m0]
                        have hgx := hdone m0
                        have q2 : wrap64 ((z : Int) * c) = (gx : Int) := by rw [← Int.natCast_mul, hgx]; exact IntWalk.wrap64_in _ (by omega)
                        clear hdone hgx
                        go_wp2_with fail
                        go_quiet (fail)
                        go_wp2_with fail
                        go_roundw
                        case rel => exact ⟨x + 1, by omega, by go_num, only_drewN (HOX.out.alloc _) _⟩
                        case measure => simp [intOf]; omega
                      · have e4 : ((m : Int) == 0) = false := by simp [m0]
                        clear hdone
                        go_wp2_with fail
                        go_quiet (fail)
                        go_wp2_with fail
                        go_roundw
                        case rel => exact ⟨x + 1, by omega, by go_num, only_drewN (HOX.out.alloc _) _⟩
                        case measure => simp [intOf]; omega
                    · have hxx : x = k := by omega
                      have g1 : ¬ (x : Int) < k := by omega
                      go_wp2_with fail
                      go_roundw
                      case rel => exact ⟨j + 1, _, _, _, by omega, by go_num, H7.out.quiet HOX.out⟩
                      case measure => simp [intOf]; omega
              · obtain ⟨i, hi⟩ : ∃ i, pk = i + 1 := ⟨pk - 1, by omega⟩
                have ho1 := hcur.1 hp0
                have hik := hpin hp0
                rw [hi] at ho1 hik HPK
                rw [ho1, if_neg (by omega)] at hev
                have hin : i < k := by omega
                have hl16 := Lib.hid (show L.length ≤ 16 by have := HN.out; omega)
                have hgi := (HD.out.had i (by rw [HN.out]; exact hin)).2
                have hil : i < xs.length := by rw [HD.out.len]; exact hin
                have c3 := HD.out.nums.nums.cell hil
                have f3 := HD.out.nums.nums.frozen i
                rw [HD.out.gave i hin] at c3
                have i0 : (0 : Int) ≤ i := by omega
                have i1 : (i : Int) < k := by omega
                have i3 : (i : Int) + 1 - 1 = i := by omega
                have i4 : (i : Int) + 1 ≤ k := by omega
                have i5 : (1 : Int) ≤ (i : Int) + 1 := by omega
                have i6 : ((i + 1 : Nat) : Int) = (i : Int) + 1 := by omega
                have HSET := Lib.hid (HD.out.nums.set i ((gv i : Int) + 1))
                have HIT := Lib.hid (fun (wx : World) (ho : Own w4 wx p (tick S 0) (16 + 2 * j + 2)) (hO : Only (· = p) (wr.setCell ⟨g, i, none⟩ (.int .i64 ((gv i : Int) + 1))) wx) => HD.out.its hl16.out HPK.out hin rfl ho hO)
                subst ho1 hi hev
                obtain ⟨gw, hgw⟩ : ∃ gw, updN gv i (gv i + 1) = gw := ⟨_, rfl⟩
                rw [hgw] at HIT
                clear hgw hcur hpin hik hp0 HPK hil
                generalize gv i = y0 at *
                rw [i6]
                go_wp2_with (go_at_call 39; (with_reducible refine (KT.out _ HSET.out.own).mono ?_); rintro e w7 ⟨rfl, ho, hO⟩; have H7 := Lib.hid (HIT.out _ ho hO); clear ho hO)
                clear c3 f3
                generalize xs.set i ((y0 : Int) + 1) = xs2 at *
                go_loopw [17, 18, 104] (fun _ _ i wr => ∃ x : Nat, x ≤ k ∧ i = .int .i64 x ∧ Only (fun _ => False) w7 wr) (fun _ _ i _ => k - (intOf i).toNat)
                case atStart => exact ⟨0, Nat.zero_le _, rfl, Only.refl _ _⟩
                case round =>
                  obtain ⟨x, hx, rfl, hOx⟩ := hrel
                  have HOX := Lib.hid hOx
                  clear hOx
                  by_cases hxk : x < k
                  · obtain ⟨b, off, rfl, hb, c1, c2⟩ : ∃ b off, a3 = some ⟨b, off, none⟩ ∧ b < wr.heap.size ∧ wr.cell? ⟨b, off + x * 2, none⟩ = some (.int .i64 (nthU L x).1) ∧ wr.cell? ⟨b, off + x * 2 + 1, none⟩ = some (.int .i64 (nthU L x).2) := by
                      obtain ⟨a', c', e, -, -, h3⟩ := HV.out wr (quiet_trans H7.out.nums.own.only HOX.out)
                      cases e
                      exact h3 x (by rw [HN.out]; exact hxk)
                    have c3 := (H7.out.nums.nums.later HOX.out).cell (j := x) (by rw [H7.out.len]; exact hxk)
                    have hgl := (H7.out.nums.nums.later HOX.out).lt
                    rw [H7.out.gave x hxk] at c3
                    have g1 : (x : Int) < k := by omega
                    have g2 : (0 : Int) ≤ x := by omega
                    have hu := Ad.okU_nat (HS.out.each _ (Ad.nthU_mem (show x < L.length by rw [HN.out]; exact hxk))).1
                    have hdone := H7.out.had.done H7.out.going HS.out (show x < L.length by rw [HN.out]; exact hxk)
                    have hgb := (H7.out.had x (by rw [HN.out]; exact hxk)).2
                    obtain ⟨v1, v2, v3, v4, v5, v6⟩ := hu
                    rw [v1] at c1
                    rw [v2] at c2
                    clear v1 v2
                    generalize cst (nthU L x) = c at *
                    generalize per (nthU L x) = y at *
                    generalize gw x = gx at *
                    obtain ⟨m, hm⟩ : ∃ m, (j + 1) % y = m := ⟨_, rfl⟩
                    have qm : ((j : Int) + 1) % y = (m : Int) := by rw [← hm, show (j : Int) + 1 = ((j + 1 : Nat) : Int) by omega]; rfl
                    rw [hm] at hdone
                    obtain ⟨z, hz⟩ : ∃ z, (j + 1) / y = z := ⟨_, rfl⟩
                    have qz : ((j : Int) + 1) / y = (z : Int) := by rw [← hz, show (j : Int) + 1 = ((j + 1 : Nat) : Int) by omega]; rfl
                    rw [hz] at hdone
                    have hzb : z ≤ j + 1 := hz ▸ Nat.div_le_self _ _
                    clear hm hz
                    have e1 : ¬ (y : Int) = 0 := by omega
                    have e2 : (0 : Int) ≤ (j : Int) + 1 := by omega
                    by_cases m0 : m = 0
                    · have e4 : ((m : Int) == 0) = true := by simp [m0]
                      have hgx := hdone m0
                      have q2 : wrap64 ((z : Int) * c) = (gx : Int) := by rw [← Int.natCast_mul, hgx]; exact IntWalk.wrap64_in _ (by omega)
                      clear hdone hgx
                      go_wp2_with fail
                      go_quiet (fail)
                      go_wp2_with fail
                      go_roundw
                      case rel => exact ⟨x + 1, by omega, by go_num, only_drewN (HOX.out.alloc _) _⟩
                      case measure => simp [intOf]; omega
                    · have e4 : ((m : Int) == 0) = false := by simp [m0]
                      clear hdone
                      go_wp2_with fail
                      go_quiet (fail)
                      go_wp2_with fail
                      go_roundw
                      case rel => exact ⟨x + 1, by omega, by go_num, only_drewN (HOX.out.alloc _) _⟩
                      case measure => simp [intOf]; omega
                  · have hxx : x = k := by omega
                    have g1 : ¬ (x : Int) < k := by omega
                    go_wp2_with fail
                    go_roundw
                    case rel => exact ⟨j + 1, _, _, _, by omega, by go_num, H7.out.quiet HOX.out⟩
                    case measure => simp [intOf]; omega
            · have hjq : j = q := by omega
              have g1 : ¬ (j : Int) + 1 ≤ q := by omega
              go_wp2_with (go_at_call 24; (with_reducible refine (KR2.out _).mono ?_); rintro e w' ⟨rfl, rfl⟩)
              go_ret
              exact ⟨rfl, Only.below (quiet_trans HO4.out HD.out.nums.own.only) (Nat.le_refl _) (fun _ e => e.elim)⟩
end Go.Proofs.Ytddfdnhlghmapaa.Sp
