/- The law WaitLost. -/
import Derived.Test.YtddfdnhlghmapaaWtLaw
import Derived.Test.YtddfdnhlghmapaaMin2
import Derived.Deep.CutBlock
namespace Go.Proofs.Ytddfdnhlghmapaa.Wt
open Go.ChangeShapes Go.WideShapes Go.ChangeAt Go.RowKit Go.Maps
set_option linter.unusedVariables false

/-- All wait with the others. -/
def Open (S : Line) : Prop := ∀ y ∈ S, y.2 = false

theorem wk_all {S : Line} (h : Open S) (T : Line) (n : Int) : ∀ j, j ≤ S.length → wk (S ++ T) n j = (ids (S.take j), [], n) := by
  intro j
  induction j with
  | zero => exact fun _ => rfl
  | succ j ih =>
    intro hj
    have hlt : j < S.length := by omega
    have e : (S ++ T).getD j (0, false) = S[j] := by simp [List.getD, List.getElem?_append_left hlt, hlt]
    rw [wk_open (ih (by omega)) e (h _ (List.getElem_mem hlt)), take_ids S hlt]
    simp [List.getD, hlt]
theorem open_wake {S : Line} (h : Open S) (n : Int) : woken S n = ids S ∧ stay S n = [] := by
  have := wk_all h [] n S.length (Nat.le_refl _)
  rw [List.append_nil, List.take_length] at this
  unfold woken stay
  rw [this]; exact ⟨rfl, rfl⟩
theorem open_wake1 {S : Line} (h : Open S) (t : Int) (a : Bool) : woken (S ++ [(t, a)]) 1 = ids S ++ [t] ∧ stay (S ++ [(t, a)]) 1 = [] := by
  have h1 := wk_all h [(t, a)] 1 S.length (Nat.le_refl _)
  rw [List.take_length] at h1
  have e : (S ++ [(t, a)]).getD S.length (0, false) = (t, a) := by simp [List.getD]
  have hl : (S ++ [(t, a)]).length = S.length + 1 := by simp
  unfold woken stay
  rw [hl]
  cases a with
  | false => rw [wk_open h1 e rfl]; exact ⟨rfl, rfl⟩
  | true => rw [wk_goes h1 e rfl (by omega)]; exact ⟨rfl, rfl⟩
theorem open_snoc {S : Line} (h : Open S) (t : Int) : Open (S ++ [(t, false)]) := fun y hy => by
  rcases List.mem_append.1 hy with hy | hy
  · exact h y hy
  · rw [List.mem_singleton.1 hy]
theorem open_nil : Open [] := fun y hy => by cases hy

section
variable {w : World} {p : Nat} {V : Value} {G : Looks}
theorem list_nil (h : QAt w p V [] G) : Calls Try.prog 14 #[.pointer (some ⟨p, 0, none⟩)] w fun e w' => ∃ a c, e = .returned (.slice a 0 c) ∧ Ints w' w.heap.size (.slice a 0 c) [] ∧ Only (fun _ => False) w w' :=
  (list_any h (Nat.zero_le _)).mono fun e w' ⟨v, h1, h2, h3⟩ => by
    obtain ⟨a, c, rfl, -, -⟩ := h2.shape
    exact ⟨a, c, h1, h2, h3⟩
theorem wake_nil (h : QAt w p V [] G) (n : Int) (hn : 0 ≤ n) (hn2 : n ≤ 9223372036854775807) : Calls Try.prog 20 #[.pointer (some ⟨p, 0, none⟩), .int .i64 n] w fun e w' => ∃ v V', e = .returned (.tuple #[v, .int .i64 0]) ∧ Ints w' w.heap.size v [] ∧ QAt w' p V' [] (spoilt G) ∧ Step p V V' w w' :=
  (wake_any h (Nat.zero_le _) n hn hn2).mono fun e w' ⟨v, V', h1, h2, h3, h4, h5⟩ => ⟨v, V', h1, h2, h3, h4⟩
theorem has_no (v : Value) (xs : List Int) (t : Int) (w : World) (h : Nums w v xs) (hl : xs.length ≤ 1000) (ht : t ∉ xs) : Calls Try.prog 16 #[v, .int .i64 t] w (BoolOnly false w) := by
  have := contains_any v xs t w h (by omega)
  rwa [decide_eq_false ht] at this
theorem has_yes (v : Value) (xs : List Int) (t : Int) (w : World) (h : Nums w v xs) (hl : xs.length ≤ 1000) (ht : t ∈ xs) : Calls Try.prog 16 #[v, .int .i64 t] w (BoolOnly true w) := by
  have := contains_any v xs t w h (by omega)
  rwa [decide_eq_true ht] at this
end

set_option maxRecDepth 100000 in
set_option maxHeartbeats 4000000 in
theorem lost_walk (a0 : Int) (a1 a2 : Bool) (a : Option Addr) (len cap : Nat) (zs : List Int) (w : World) (h : IsRow .i64 w a len cap zs) :
    Calls Try.prog 4 #[.int .i64 a0, .bool a1, .bool a2, .slice a len cap] w fun e w' => e = .returned (.bool true) ∧ Below w.heap.size w w' := by
  obtain ⟨ys, hy1, hy2, hy3, hy4⟩ := nums_cut h 20
  obtain ⟨m, hm⟩ : ∃ m, min len 20 = m := ⟨_, rfl⟩
  rw [hm] at hy1
  rw [hy1] at hy2
  have hm1 : m ≤ 20 := by omega
  have hm2 : m ≤ len := by omega
  have q2 := run_min2 (len : Int) 20 m (by omega)
  have HY := Lib.hid hy2
  have HYL := Lib.hid hy1
  clear h hy1 hy2 hm
  have K0 := Lib.hid (begun_any w)
  have R1 := Lib.hid (fun w => rest_any a0 16 (by omega) (by omega) w)
  have b1 := restOf_lo a0 16 (by omega)
  have b2 := restOf_hi a0 16 (by omega)
  generalize restOf a0 16 = rc at *
  obtain ⟨n, hn⟩ : ∃ n : Nat, (n : Int) = 1 + rc := ⟨(1 + rc).toNat, by omega⟩
  have en : 1 + rc = (n : Int) := hn.symm
  have n1 : 1 ≤ n := by omega
  have n4 : n ≤ 16 := by omega
  have RK := Lib.hid (fun x w => rest_any x 16 (by omega) (by omega) w)
  have NW := Lib.hid (fun W hO => new_mine (w0 := w) (w := W) hO)
  clear b1 b2 hn
  go_enter Try.func4, Try.ntmps4
  go_wp2_with (first
    | (go_at_call 23; (with_reducible refine K0.out.mono ?_); rintro e w1 ⟨rfl, hO⟩; have O1 := Lib.hid hO; clear hO)
    | (go_at_call 11; (with_reducible refine (NW.out _ O1.out).mono ?_); rintro e w2 ⟨p, rfl, -, hM⟩; have H0 := Lib.hid hM; clear hM)
    | (go_at_call 24; (with_reducible refine (R1.out _).mono ?_); rintro e w' ⟨rfl, rfl⟩))
  clear K0 O1 R1 NW
  go_loopw [11, 31] (fun _ i wr => ∃ (k : Nat) (V : Value) (S : Line), k ≤ m ∧ i = .int .i64 k ∧ Mine w wr p V S noG ∧ Open S ∧ (n : Int) ∉ ids S) (fun _ i _ => m - (intOf i).toNat)
  case atStart => exact ⟨0, _, _, by omega, rfl, H0.out, open_nil, by simp [ids]⟩
  case round =>
    clear H0
    obtain ⟨k, V, S, hk, rfl, hM, hS, hN⟩ := hrel
    have HM := Lib.hid hM
    have HS := Lib.hid hS
    have HN := Lib.hid hN
    clear hM hS hN
    by_cases hlt : k < m
    · have g1 : (k : Int) < m := by omega
      have g2 : (0 : Int) ≤ k := by omega
      obtain ⟨ya, yc, hye, hyc⟩ := HY.out
      rw [Value.slice.injEq] at hye
      obtain ⟨rfl, -, rfl⟩ := hye
      obtain ⟨b, off, rfl, hc⟩ := hyc k (by rw [HYL.out]; exact hlt)
      have hcx := (HM.out.below.cell (p := ⟨b, off + k, none⟩) (block_lt hc)).trans hc
      generalize ys.getD k 0 = x at *
      have RX := Lib.hid (RK.out x)
      have x1 := restOf_lo x 16 (by omega)
      have x2 := restOf_hi x 16 (by omega)
      generalize restOf x 16 = rx at *
      obtain ⟨u, hu⟩ : ∃ u : Nat, (u : Int) = 1 + rx := ⟨(1 + rx).toNat, by omega⟩
      have eu : 1 + rx = (u : Int) := hu.symm
      have u1 : 1 ≤ u := by omega
      have u2 : u ≤ 16 := by omega
      clear hc hyc hu x1 x2
      by_cases hun : u = n
      · subst hun
        go_wp2_with (go_at_call 24; (with_reducible refine (RX.out _).mono ?_); rintro e w' ⟨rfl, rfl⟩)
        go_roundw
        case rel => exact ⟨k + 1, V, S, by omega, by go_num, HM.out, HS.out, HN.out⟩
        case measure => simp [intOf]; omega
      · have hne : ((u : Int) != (n : Int)) = true := by simp; omega
        by_cases hmem : (u : Int) ∈ ids S
        · have KA := Lib.hid (add_there HM.out.at_ u false (decide_eq_true (by omega)) hmem)
          clear hmem
          go_wp2_with (first
            | (go_at_call 24; (with_reducible refine (RX.out _).mono ?_); rintro e w' ⟨rfl, rfl⟩)
            | (go_at_call 12; (with_reducible refine KA.out.mono ?_); rintro e w3 ⟨rfl, V3, hq, hs⟩; have HM2 := Lib.hid (HM.out.step hq hs HM.out.fine); clear hq hs))
          go_roundw
          case rel => exact ⟨k + 1, _, _, by omega, by go_num, HM2.out, HS.out, HN.out⟩
          case measure => simp [intOf]; omega
        · have KA := Lib.hid (add_new HM.out.at_ HM.out.fine.len u false (decide_eq_true (by omega)) hmem)
          have HF := Lib.hid (HM.out.fine.snoc (t := (u : Int)) (by omega) hmem false)
          clear hmem
          go_wp2_with (first
            | (go_at_call 24; (with_reducible refine (RX.out _).mono ?_); rintro e w' ⟨rfl, rfl⟩)
            | (go_at_call 12; (with_reducible refine KA.out.mono ?_); rintro e w3 ⟨rfl, V3, hq, hs⟩; have HM2 := Lib.hid (HM.out.step hq hs HF.out); clear hq hs))
          go_roundw
          case rel => exact ⟨k + 1, _, _, by omega, by go_num, HM2.out, open_snoc HS.out _, by
            rw [ids_snoc, List.mem_append]
            rintro (e | e)
            · exact HN.out e
            · have := List.mem_singleton.1 e
              have e2 : (n : Int) = u := this
              omega⟩
          case measure => simp [intOf]; omega
    · obtain rfl : k = m := by omega
      have KL := Lib.hid (look_new HM.out.at_ n ⟨n1, n4⟩ HN.out)
      cases a2 with
      | true =>
        have KW := Lib.hid (fun (W : World) V (h : Mine w W p V S (upd noG n 1)) => wake_any h.at_ h.fine.len 0 (by omega) (by omega))
        have E2 := Lib.hid (open_wake HS.out 0).2
        have KS := Lib.hid (fun (W : World) V (h : Mine w W p V [] (spoilt (upd noG n 1))) => sleep_stale h.at_ n ⟨n1, n4⟩ a1 (by unfold spoilt; rw [upd_same]; rfl) (by simp [ids]))
        have KO := Lib.hid (fun (W : World) V (h : Mine w W p V [] (upd (spoilt (upd noG n 1)) n 0)) => sleep_over h.at_ n ⟨n1, n4⟩ a1 (upd_same _ _ _))
        have KI := Lib.hid (fun (W : World) V G (h : Mine w W p V [] G) => list_nil h.at_)
        have KW2 := Lib.hid (fun (W : World) V G (h : Mine w W p V [] G) => wake_nil h.at_ 1 (by omega) (by omega))
        have KC := Lib.hid (fun (W : World) v (h : Nums W v []) => has_no v [] n W h (by decide) (by simp))
        clear HY HYL RK
        go_upto_region 18 with (first
          | (go_at_call 21; (with_reducible refine KL.out.mono ?_); rintro e w3 ⟨rfl, V3, hq, hs⟩; have HM2 := Lib.hid (HM.out.step hq hs HM.out.fine); clear hq hs)
          | (go_at_call 20; (with_reducible refine (KW.out _ _ HM2.out).mono ?_); rintro e w4 ⟨v4, V4, rfl, hi, hq, hs, hne⟩; rw [E2.out] at hq; have HC := Lib.hid (HM2.out.step hq hs fine_nil); clear hi hq hs hne))
        clear KL KW HM HM2 HS HN E2
        go_upto_region 21 with (first
          | (go_at_call 22; (with_reducible refine (KS.out _ _ HC.out).mono ?_); rintro e w5 ⟨rfl, V5, hq, hs⟩; have HC5 := Lib.hid (HC.out.step hq hs fine_nil); clear hq hs)
          | (go_at_call 14; (with_reducible refine (KI.out _ _ _ HC5.out).mono ?_); rintro e w6 ⟨la, lc, rfl, hi, hO⟩; have HC6 := Lib.hid (HC5.out.quiet hO); have HI := Lib.hid hi.nums; clear hi hO)
          | (go_at_call 16; (with_reducible refine (KC.out _ _ HI.out).mono ?_); rintro e w7 ⟨rfl, hO⟩; have HC7 := Lib.hid (HC6.out.quiet hO); clear hO))
        clear KS HC HC5 HC6 HI
        go_wp2_with (first
          | (go_at_call 22; (with_reducible refine (KO.out _ _ HC7.out).mono ?_); rintro e w8 ⟨rfl, V8, hq, hs⟩; have HC8 := Lib.hid (HC7.out.step hq hs fine_nil); clear hq hs)
          | (go_at_call 20; (with_reducible refine (KW2.out _ _ _ HC8.out).mono ?_); rintro e w9 ⟨v9, V9, rfl, hi, hq, hs⟩; have HC9 := Lib.hid (HC8.out.step hq hs fine_nil); have HI := Lib.hid hi.nums; clear hi hq hs)
          | (go_at_call 16; (with_reducible refine (KC.out _ _ HI.out).mono ?_); rintro e w10 ⟨rfl, hO⟩; have HC10 := Lib.hid (HC9.out.quiet hO); clear hO)
          | (go_at_call 14; (with_reducible refine (KI.out _ _ _ HC10.out).mono ?_); rintro e w11 ⟨la, lc, rfl, hi, hO⟩; have HC11 := Lib.hid (HC10.out.quiet hO); clear hi hO))
        go_ret
        exact ⟨rfl, HC11.out.below⟩
      | false =>
        have KS := Lib.hid (fun (W : World) V (h : Mine w W p V S (upd noG n 1)) => sleep_new h.at_ h.fine.len n ⟨n1, n4⟩ a1 (upd_same _ _ _) HN.out)
        have HF := Lib.hid (HM.out.fine.snoc (t := (n : Int)) (by omega) HN.out a1)
        obtain ⟨e1, e2⟩ := open_wake1 HS.out n a1
        have HT : Hid ((n : Int) ∈ ids (S ++ [((n : Int), a1)])) := Lib.hid (by rw [ids_snoc]; simp)
        have HT2 : Hid ((n : Int) ∈ ids S ++ [(n : Int)]) := Lib.hid (by simp)
        have HT3 : Hid ((ids S ++ [(n : Int)]).length ≤ 17) := Lib.hid (by rw [List.length_append, ids_len]; have := HM.out.fine.len; simp; omega)
        generalize S ++ [((n : Int), a1)] = T at *
        have KO := Lib.hid (fun (W : World) V (h : Mine w W p V T (upd (upd noG n 1) n 0)) => sleep_over h.at_ n ⟨n1, n4⟩ a1 (upd_same _ _ _))
        have KI := Lib.hid (fun (W : World) V G (h : Mine w W p V T G) => list_any h.at_ h.fine.len)
        have KI2 := Lib.hid (fun (W : World) V G (h : Mine w W p V [] G) => list_nil h.at_)
        have KW2 := Lib.hid (fun (W : World) V G (h : Mine w W p V T G) => wake_any h.at_ h.fine.len 1 (by omega) (by omega))
        have KC := Lib.hid (fun (W : World) v (h : Nums W v (ids T)) => has_yes v (ids T) n W h (by have := HF.out.len; rw [ids_len]; omega) HT.out)
        have KC2 := Lib.hid (fun (W : World) v (h : Nums W v (ids S ++ [(n : Int)])) => has_yes v (ids S ++ [(n : Int)]) n W h (by have := HT3.out; omega) HT2.out)
        have E1 := Lib.hid e1
        have E2 := Lib.hid e2
        clear HY HYL RK e1 e2
        go_upto_region 21 with (first
          | (go_at_call 21; (with_reducible refine KL.out.mono ?_); rintro e w3 ⟨rfl, V3, hq, hs⟩; have HC := Lib.hid (HM.out.step hq hs HM.out.fine); clear hq hs)
          | (go_at_call 22; (with_reducible refine (KS.out _ _ HC.out).mono ?_); rintro e w5 ⟨rfl, V5, hq, hs⟩; have HC5 := Lib.hid (HC.out.step hq hs HF.out); clear hq hs)
          | (go_at_call 14; (with_reducible refine (KI.out _ _ _ HC5.out).mono ?_); rintro e w6 ⟨v6, rfl, hi, hO⟩; have HC6 := Lib.hid (HC5.out.quiet hO); have HI := Lib.hid hi.nums; clear hi hO)
          | (go_at_call 16; (with_reducible refine (KC.out _ _ HI.out).mono ?_); rintro e w7 ⟨rfl, hO⟩; have HC7 := Lib.hid (HC6.out.quiet hO); clear hO))
        clear KS HC HC5 HC6 HI KL HM HS HN
        go_wp2_with (first
          | (go_at_call 22; (with_reducible refine (KO.out _ _ HC7.out).mono ?_); rintro e w8 ⟨rfl, V8, hq, hs⟩; have HC8 := Lib.hid (HC7.out.step hq hs HF.out); clear hq hs)
          | (go_at_call 20; (with_reducible refine (KW2.out _ _ _ HC8.out).mono ?_); rintro e w9 ⟨v9, V9, rfl, hi, hq, hs, hne⟩; rw [E1.out] at hi; rw [E2.out] at hq; have HC9 := Lib.hid (HC8.out.step hq hs fine_nil); have HI := Lib.hid hi.nums; clear hi hq hs hne)
          | (go_at_call 16; (with_reducible refine (KC2.out _ _ HI.out).mono ?_); rintro e w10 ⟨rfl, hO⟩; have HC10 := Lib.hid (HC9.out.quiet hO); clear hO)
          | (go_at_call 14; (with_reducible refine (KI2.out _ _ _ HC10.out).mono ?_); rintro e w11 ⟨la, lc, rfl, hi, hO⟩; have HC11 := Lib.hid (HC10.out.quiet hO); clear hi hO))
        go_ret
        exact ⟨rfl, HC11.out.below⟩
end Go.Proofs.Ytddfdnhlghmapaa.Wt
