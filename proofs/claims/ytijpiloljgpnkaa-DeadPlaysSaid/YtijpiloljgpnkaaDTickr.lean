/- The reference's Tick. -/
import Derived.Test.YtijpiloljgpnkaaDNextr
import Derived.Test.YtijpiloljgpnkaaDRefW
namespace Go.Proofs.Ytijpiloljgpnkaa.De
open Go.ChangeShapes Go.WideShapes Go.ChangeAt Go.RowKit Go.Maps
open Go.Proofs.Ytijpiloljgpnkaa.Pt
set_option linter.unusedVariables false

/-- The tasks of the list behind a tick, as far as j. -/
def ranTo (L : List (Nat × Nat)) (U : Tks) (n : Int) (j : Nat) : Tks := fun t => if t ∈ (L.take j).map (·.2) then again (U t) n else U t

theorem ran_zero (L : List (Nat × Nat)) (U : Tks) (n : Int) : ranTo L U n 0 = U := by funext t; unfold ranTo; rw [if_neg (by simp)]
theorem ran_at {L : List (Nat × Nat)} {U : Tks} {n : Int} {j : Nat} {x : Nat × Nat} (hn : (L.map (·.2)).Nodup) (h : L[j]? = some x) : ranTo L U n j x.2 = U x.2 := by
  unfold ranTo
  rw [if_neg]
  intro hm
  obtain ⟨y, hy, e⟩ := List.mem_map.1 hm
  obtain ⟨i, hi, hi2⟩ := List.getElem_of_mem hy
  rw [List.length_take] at hi
  rw [List.getElem_take] at hi2
  have hj : j < L.length := by
    rcases Nat.lt_or_ge j L.length with q | q
    · exact q
    · rw [List.getElem?_eq_none q] at h; cases h
  have hx : L[j] = x := by rw [List.getElem?_eq_getElem hj] at h; exact Option.some.inj h
  unfold List.Nodup at hn
  have := (List.pairwise_iff_getElem.1 hn) i j (by rw [List.length_map]; omega) (by rw [List.length_map]; exact hj) (by omega)
  simp [hi2, hx, e] at this
theorem ran_succ {L : List (Nat × Nat)} {U : Tks} {n : Int} {j : Nat} {x : Nat × Nat} (h : L[j]? = some x) : ranTo L U n (j + 1) = upd (ranTo L U n j) x.2 (again (U x.2) n) := by
  funext t
  unfold ranTo upd
  dsimp only
  rw [List.take_add_one, h]
  by_cases e : t = x.2
  · subst e; rw [if_pos (by simp), if_pos rfl]
  · rw [if_neg e]
    by_cases hm : t ∈ (L.take j).map (·.2)
    · rw [if_pos (by rw [List.map_append]; exact List.mem_append_left _ hm), if_pos hm]
    · rw [if_neg (by
        rw [List.map_append]; intro hh
        rcases List.mem_append.1 hh with hh | hh
        · exact hm hh
        · simp at hh; exact e hh), if_neg hm]
theorem ran_all {L : List (Nat × Nat)} {U : Tks} {n : Int} {k : Nat} (hk : k = L.length) {x : Nat × Nat} (hx : x ∈ L) (h17 : x.2 < 17) : past U n x.2 = ranTo L U (n + 1) k x.2 := by
  rw [past_at U n h17]
  unfold ranTo
  rw [if_pos (by rw [hk, List.take_length]; exact List.mem_map.2 ⟨x, hx, rfl⟩)]

theorem use_out {l : Int} (h : 1 ≤ l) : decide (l - 1 < 1) = (l - 1 == 0) := by
  by_cases e : l - 1 = 0
  · rw [decide_eq_true (by omega)]; simp [e]
  · rw [decide_eq_false (by omega)]; simp [e]

/-- The blocks of a class of the reference that a tick turns. -/
def Its (q : Nat) (L : List (Nat × Nat)) (x : Nat) : Prop := x = q ∨ ∃ y ∈ L, x = y.1

def TickOf (q : Nat) (L : List (Nat × Nat)) (B : Nat) (w : World) (U : Tks) (n : Int) (k : Int) (e : Ending) (w' : World) : Prop :=
  e = .returned (.int .i64 k) ∧ RefAt B w' q L U n ∧ Only (Its q L) w w'

theorem turned_its {w w1 w2 : World} {q b t : Nat} {L : List (Nat × Nat)} (h : Only (Its q L) w w1) (k : Only (fun x => x = b) w1 w2) (hb : (b, t) ∈ L) : Only (Its q L) w w2 :=
  h.trans k (fun x _ e => Or.inr ⟨_, hb, e⟩)

set_option maxRecDepth 100000 in
set_option maxHeartbeats 2000000 in
theorem tickr_any {B : Nat} {w : World} {q : Nat} {L : List (Nat × Nat)} {T U : Tks} {n : Int} {kk : Nat} (h : RefAt B w q L T n) (hs : Same L T) (hf : Fit T n) (hl : L.length ≤ 16) (n0 : 0 ≤ n) (nB : n ≤ 8000000000000000) (pass : Bool) (hfu : Fit U n)
    (hp : ((pass = true ∨ pick T = 0) ∧ U = T ∧ kk = 0) ∨ (pass = false ∧ pick T ≠ 0 ∧ U = upd T (pick T) (use (T (pick T))) ∧ kk = pick T)) :
    Calls Try.prog 20 #[.pointer (some ⟨q, 0, none⟩), .bool pass] w (TickOf q L B w (past U n) (n + 1) kk) := by
  obtain ⟨k, hk⟩ : ∃ k, L.length = k := ⟨_, rfl⟩
  have HK := Lib.hid hk
  have hk16 : k ≤ 16 := by omega
  have H := Lib.hid h
  have HS := Lib.hid hs
  have HF := Lib.hid hf
  have HFU := Lib.hid hfu
  have HP := Lib.hid hp
  have CN := Lib.hid (nextr_any h hl hs hf)
  clear h hs hf hl hk hp hfu
  go_enter Try.func20, Try.ntmps20
  go_upto_region 3 with (go_at_call 24; (with_reducible refine CN.out.mono ?_); rintro e w1 ⟨hcs, hO⟩; have HO := Lib.hid hO; obtain ⟨xo, rfl, hxo⟩ : ∃ xo, e = .returned (.pointer xo) ∧ ((xo = none ∧ pick T = 0) ∨ ∃ b, ((b, pick T) ∈ L ∧ pick T ≠ 0) ∧ xo = some ⟨b, 0, none⟩) := (by rcases hcs with ⟨h1, h2⟩ | ⟨b, h1, h2⟩; exact ⟨none, h1, Or.inl ⟨rfl, h2⟩⟩; exact ⟨_, h2, Or.inr ⟨b, h1, rfl⟩⟩); have HXO := Lib.hid hxo; clear hcs hO hxo)
  rcases HXO.out with ⟨rfl, h0⟩ | ⟨b, ⟨hb, hn⟩, rfl⟩
  · rcases HP.out with ⟨-, rfl, rfl⟩ | ⟨-, h1, -⟩
    · clear h0
      go_upto_region 7 with fail
      have HO2 : Hid (Only (Its q L) w w1) := Lib.hid (HO.out.mono (fun _ _ e => e.elim))
      have HR := Lib.hid (H.out.later HO.out)
      clear HXO HO CN H HP
      generalize w1 = wc at *
      have cn := HR.out.now
      have fz := HR.out.frozen
      go_upto_region 8 with fail
      have HR2 := Lib.hid (HR.out.set_now (n + 1))
      have HO3 : Hid (Only (Its q L) w (wc.setCell ⟨q, 0, none⟩ (.int .i64 (n + 1)))) := Lib.hid (HO2.out.setCell (p := ⟨q, 0, none⟩) (Or.inl rfl) _)
      clear cn fz HR HO2
      generalize wc.setCell ⟨q, 0, none⟩ (.int .i64 (n + 1)) = w2 at *
      obtain ⟨V, c0, hr, hv⟩ := HR2.out.slice
      obtain ⟨a, c, rfl, hc1, hc2, hc3⟩ := hr.shape (n := k) (by rw [List.length_map]; exact HK.out)
      have HV := Lib.hid hv
      have HROW := Lib.hid hr
      clear hr hv
      go_wp2_with fail
      go_loopw [48] (fun i wr => ∃ j : Nat, j ≤ k ∧ i = .int .i64 j ∧ RefAt B wr q L (ranTo L U (n + 1) j) (n + 1) ∧ RowAt wr B (.slice a k c) (L.map (·.1)) ∧ Only (Its q L) w wr) (fun i _ => k - (intOf i).toNat)
      case atStart => exact ⟨0, by omega, rfl, by rw [ran_zero]; exact HR2.out, HROW.out, HO3.out⟩
      case round =>
        obtain ⟨j, hj, rfl, hR, hrw, hO⟩ := hrel
        have HR4 := Lib.hid hR
        have HRW := Lib.hid hrw
        have HO4 := Lib.hid hO
        clear hR hrw hO c0
        by_cases hlt : j < k
        · obtain ⟨m, hm, hm2⟩ := mem_getD (L := L) (j := j) (by rw [HK.out]; exact hlt)
          obtain ⟨g, rfl, -, -, d0⟩ := row_at HRW.out (j := j) (by rw [List.length_map, HK.out]; exact hlt)
          have hnum := HS.out.num _ hm
          simp only at hnum
          have ht := HR4.out.task _ hm
          have hat := ran_at (U := U) (n := n + 1) HR4.out.nums hm2
          simp only at ht hat
          rw [hat] at ht
          have HSU := Lib.hid (ran_succ (U := U) (n := n + 1) hm2)
          simp only at HSU
          have cn := HR4.out.now
          have ok := HFU.out.at (show m < 17 by omega)
          have CA := Lib.hid (againr_any (n := n + 1) ht ok.d.1 (by have := ok.d.2; omega) (by have := ok.b; omega) ok.p)
          have HM := Lib.hid hm
          generalize (L.map (·.1)).getD j 0 = b at *
          unfold pt at *
          have g1 : (j : Int) < k := by omega
          have g2 : (0 : Int) ≤ j := by omega
          clear hm hm2 ht hat hnum ok
          go_wp2_with (go_at_call 36; (with_reducible refine CA.out.mono ?_); rintro e w5 ⟨rfl, hx5, hO5⟩; have HR5 := Lib.hid (HR4.out.turn HM.out hO5 hx5); have HRW5 := Lib.hid (HRW.out.keep hO5 (fun g hg e => (HV.out g hg).2 _ HM.out e)); have HO5 := Lib.hid (turned_its HO4.out hO5 HM.out); clear hx5 hO5)
          go_roundw
          case rel => exact ⟨j + 1, by omega, by go_num, by rw [HSU.out]; exact HR5.out, HRW5.out, HO5.out⟩
          case measure => simp [intOf]; omega
        · obtain rfl : j = k := by omega
          go_wp2_with fail
          go_ret
          exact ⟨rfl, HR4.out.congr (fun x hx => ran_all HK.out.symm hx (by have := HS.out.num x hx; omega)), HO4.out⟩
    · exact absurd h0 h1
  · rcases HP.out with ⟨h1, rfl, rfl⟩ | ⟨rfl, h1, hU, rfl⟩
    · have : pass = true := h1.resolve_right hn
      subst this
      clear h1 hb hn
      go_upto_region 7 with fail
      have HO2 : Hid (Only (Its q L) w w1) := Lib.hid (HO.out.mono (fun _ _ e => e.elim))
      have HR := Lib.hid (H.out.later HO.out)
      clear HXO HO CN H HP
      generalize w1 = wc at *
      have cn := HR.out.now
      have fz := HR.out.frozen
      go_upto_region 8 with fail
      have HR2 := Lib.hid (HR.out.set_now (n + 1))
      have HO3 : Hid (Only (Its q L) w (wc.setCell ⟨q, 0, none⟩ (.int .i64 (n + 1)))) := Lib.hid (HO2.out.setCell (p := ⟨q, 0, none⟩) (Or.inl rfl) _)
      clear cn fz HR HO2
      generalize wc.setCell ⟨q, 0, none⟩ (.int .i64 (n + 1)) = w2 at *
      obtain ⟨V, c0, hr, hv⟩ := HR2.out.slice
      obtain ⟨a, c, rfl, hc1, hc2, hc3⟩ := hr.shape (n := k) (by rw [List.length_map]; exact HK.out)
      have HV := Lib.hid hv
      have HROW := Lib.hid hr
      clear hr hv
      go_wp2_with fail
      go_loopw [48] (fun i wr => ∃ j : Nat, j ≤ k ∧ i = .int .i64 j ∧ RefAt B wr q L (ranTo L U (n + 1) j) (n + 1) ∧ RowAt wr B (.slice a k c) (L.map (·.1)) ∧ Only (Its q L) w wr) (fun i _ => k - (intOf i).toNat)
      case atStart => exact ⟨0, by omega, rfl, by rw [ran_zero]; exact HR2.out, HROW.out, HO3.out⟩
      case round =>
        obtain ⟨j, hj, rfl, hR, hrw, hO⟩ := hrel
        have HR4 := Lib.hid hR
        have HRW := Lib.hid hrw
        have HO4 := Lib.hid hO
        clear hR hrw hO c0
        by_cases hlt : j < k
        · obtain ⟨m, hm, hm2⟩ := mem_getD (L := L) (j := j) (by rw [HK.out]; exact hlt)
          obtain ⟨g, rfl, -, -, d0⟩ := row_at HRW.out (j := j) (by rw [List.length_map, HK.out]; exact hlt)
          have hnum := HS.out.num _ hm
          simp only at hnum
          have ht := HR4.out.task _ hm
          have hat := ran_at (U := U) (n := n + 1) HR4.out.nums hm2
          simp only at ht hat
          rw [hat] at ht
          have HSU := Lib.hid (ran_succ (U := U) (n := n + 1) hm2)
          simp only at HSU
          have cn := HR4.out.now
          have ok := HFU.out.at (show m < 17 by omega)
          have CA := Lib.hid (againr_any (n := n + 1) ht ok.d.1 (by have := ok.d.2; omega) (by have := ok.b; omega) ok.p)
          have HM := Lib.hid hm
          generalize (L.map (·.1)).getD j 0 = b at *
          unfold pt at *
          have g1 : (j : Int) < k := by omega
          have g2 : (0 : Int) ≤ j := by omega
          clear hm hm2 ht hat hnum ok
          go_wp2_with (go_at_call 36; (with_reducible refine CA.out.mono ?_); rintro e w5 ⟨rfl, hx5, hO5⟩; have HR5 := Lib.hid (HR4.out.turn HM.out hO5 hx5); have HRW5 := Lib.hid (HRW.out.keep hO5 (fun g hg e => (HV.out g hg).2 _ HM.out e)); have HO5 := Lib.hid (turned_its HO4.out hO5 HM.out); clear hx5 hO5)
          go_roundw
          case rel => exact ⟨j + 1, by omega, by go_num, by rw [HSU.out]; exact HR5.out, HRW5.out, HO5.out⟩
          case measure => simp [intOf]; omega
        · obtain rfl : j = k := by omega
          go_wp2_with fail
          go_ret
          exact ⟨rfl, HR4.out.congr (fun x hx => ran_all HK.out.symm hx (by have := HS.out.num x hx; omega)), HO4.out⟩
    · have HO1 : Hid (Only (Its q L) w w1) := Lib.hid (HO.out.mono (fun _ _ e => e.elim))
      have H1 := Lib.hid (H.out.later HO.out)
      have HBL := Lib.hid hb
      have ht := H1.out.task _ hb
      have hc := pick_can h1
      have hpl := pick_lt T
      generalize pick T = m at *
      have HT := Lib.hid ht
      have d0 := H1.out.tn hb
      have d3 := H1.out.tl hb
      have d6 := H1.out.to hb
      have fz := H1.out.tfrozen hb
      have ok := HF.out.at hpl
      have l1 : 1 ≤ (T m).l := by
        have := ok.l
        have h0 : (T m).l ≠ 0 := fun e => by have := (ok.lo (ok.rp hc.1)).2 e; rw [hc.2] at this; cases this
        omega
      have l2 : (T m).l ≤ 30 := by have := ok.l; have := ok.b; have := ok.p; omega
      have HU := Lib.hid (use_out l1)
      clear hb hn h1 ht hc hpl ok
      go_upto_region 7 with fail
      have hx : ((w1.setCell ⟨b, 3, none⟩ (.int .i64 ((T m).l - 1))).setCell ⟨b, 6, none⟩ (.bool (decide ((T m).l - 1 < 1)))).heap[b]? = some (taskCells m (use (T m))) := by
        rw [HU.out]
        have h3 := heap_setCell_same w1 b 3 _ _ (.int .i64 ((T m).l - 1)) HT.out
        exact heap_setCell_same _ b 6 _ _ (.bool ((T m).l - 1 == 0)) h3
      have o2 : Only (fun x => x = b) w1 ((w1.setCell ⟨b, 3, none⟩ (.int .i64 ((T m).l - 1))).setCell ⟨b, 6, none⟩ (.bool (decide ((T m).l - 1 < 1)))) := only_set2 (Only.refl _ w1) (p := b) 3 6 (.int .i64 ((T m).l - 1)) (.bool (decide ((T m).l - 1 < 1)))
      have HR := Lib.hid (H1.out.turn HBL.out o2 hx)
      rw [← hU] at HR
      have HO2 := Lib.hid (turned_its HO1.out o2 HBL.out)
      clear hx o2 d0 d3 d6 fz HXO HO CN H HP HT hU
      generalize ((w1.setCell ⟨b, 3, none⟩ (.int .i64 ((T m).l - 1))).setCell ⟨b, 6, none⟩ (.bool (decide ((T m).l - 1 < 1)))) = wc at *
      have cn := HR.out.now
      have fz := HR.out.frozen
      go_upto_region 8 with fail
      have HR2 := Lib.hid (HR.out.set_now (n + 1))
      have HO3 : Hid (Only (Its q L) w (wc.setCell ⟨q, 0, none⟩ (.int .i64 (n + 1)))) := Lib.hid (HO2.out.setCell (p := ⟨q, 0, none⟩) (Or.inl rfl) _)
      clear cn fz HR HO2
      generalize wc.setCell ⟨q, 0, none⟩ (.int .i64 (n + 1)) = w2 at *
      obtain ⟨V, c0, hr, hv⟩ := HR2.out.slice
      obtain ⟨a, c, rfl, hc1, hc2, hc3⟩ := hr.shape (n := k) (by rw [List.length_map]; exact HK.out)
      have HV := Lib.hid hv
      have HROW := Lib.hid hr
      clear hr hv
      go_wp2_with fail
      go_loopw [48] (fun i wr => ∃ j : Nat, j ≤ k ∧ i = .int .i64 j ∧ RefAt B wr q L (ranTo L U (n + 1) j) (n + 1) ∧ RowAt wr B (.slice a k c) (L.map (·.1)) ∧ Only (Its q L) w wr) (fun i _ => k - (intOf i).toNat)
      case atStart => exact ⟨0, by omega, rfl, by rw [ran_zero]; exact HR2.out, HROW.out, HO3.out⟩
      case round =>
        obtain ⟨j, hj, rfl, hR, hrw, hO⟩ := hrel
        have HR4 := Lib.hid hR
        have HRW := Lib.hid hrw
        have HO4 := Lib.hid hO
        clear hR hrw hO c0
        by_cases hlt : j < k
        · obtain ⟨m, hm, hm2⟩ := mem_getD (L := L) (j := j) (by rw [HK.out]; exact hlt)
          obtain ⟨g, rfl, -, -, d0⟩ := row_at HRW.out (j := j) (by rw [List.length_map, HK.out]; exact hlt)
          have hnum := HS.out.num _ hm
          simp only at hnum
          have ht := HR4.out.task _ hm
          have hat := ran_at (U := U) (n := n + 1) HR4.out.nums hm2
          simp only at ht hat
          rw [hat] at ht
          have HSU := Lib.hid (ran_succ (U := U) (n := n + 1) hm2)
          simp only at HSU
          have cn := HR4.out.now
          have ok := HFU.out.at (show m < 17 by omega)
          have CA := Lib.hid (againr_any (n := n + 1) ht ok.d.1 (by have := ok.d.2; omega) (by have := ok.b; omega) ok.p)
          have HM := Lib.hid hm
          generalize (L.map (·.1)).getD j 0 = b at *
          unfold pt at *
          have g1 : (j : Int) < k := by omega
          have g2 : (0 : Int) ≤ j := by omega
          clear hm hm2 ht hat hnum ok
          go_wp2_with (go_at_call 36; (with_reducible refine CA.out.mono ?_); rintro e w5 ⟨rfl, hx5, hO5⟩; have HR5 := Lib.hid (HR4.out.turn HM.out hO5 hx5); have HRW5 := Lib.hid (HRW.out.keep hO5 (fun g hg e => (HV.out g hg).2 _ HM.out e)); have HO5 := Lib.hid (turned_its HO4.out hO5 HM.out); clear hx5 hO5)
          go_roundw
          case rel => exact ⟨j + 1, by omega, by go_num, by rw [HSU.out]; exact HR5.out, HRW5.out, HO5.out⟩
          case measure => simp [intOf]; omega
        · obtain rfl : j = k := by omega
          go_wp2_with fail
          go_ret
          exact ⟨rfl, HR4.out.congr (fun x hx => ran_all HK.out.symm hx (by have := HS.out.num x hx; omega)), HO4.out⟩
end Go.Proofs.Ytijpiloljgpnkaa.De
