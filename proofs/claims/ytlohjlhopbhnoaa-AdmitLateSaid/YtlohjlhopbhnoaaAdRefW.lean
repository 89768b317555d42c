/- The contract of the reference's Late. -/
import Derived.Test.YtlohjlhopbhnoaaAdRefL
namespace Go.Proofs.Ytlohjlhopbhnoaa.Ad
open Go.ChangeShapes Go.WideShapes Go.ChangeAt Go.RowKit
set_option linter.unusedVariables false

theorem take_one {α : Type} [Inhabited α] {J : List α} {k : Nat} (h : k < J.length) : J.take (k + 1) = J.take k ++ [J[k]] := List.take_succ_eq_append_getElem h

/-- The jobs behind the releases of the first k. -/
def newTo (S : List Use) (now k : Nat) : List Job := jobsOf k (fun i => decide (now % per (nthU S i) = 0)) (newJob S now)
theorem newTo_zero (S : List Use) (now : Nat) : newTo S now 0 = [] := rfl
theorem newTo_yes {S : List Use} {now k : Nat} (h : now % per (nthU S k) = 0) : newTo S now (k + 1) = newTo S now k ++ [(cst (nthU S k), now + per (nthU S k), k)] := by
  unfold newTo jobsOf
  rw [List.range_succ, List.filter_append, List.map_append]
  congr 1
  simp [h, newJob]
theorem newTo_no {S : List Use} {now k : Nat} (h : ¬ now % per (nthU S k) = 0) : newTo S now (k + 1) = newTo S now k := by
  unfold newTo jobsOf
  rw [List.range_succ, List.filter_append, List.map_append]
  simp [h]
theorem newTo_len (S : List Use) (now k : Nat) : (newTo S now k).length ≤ k := by
  unfold newTo jobsOf
  rw [List.length_map]
  have := List.length_filter_le (fun i => decide (now % per (nthU S i) = 0)) (List.range k)
  simpa using this
theorem jobs_len (n : Nat) (q : Nat → Bool) (g : Nat → Job) : (jobsOf n q g).length ≤ n := by
  unfold jobsOf
  rw [List.length_map]
  have := List.length_filter_le q (List.range n)
  simpa using this

def keepP (now : Nat) (x : Job) : Bool := decide (now < x.2.1) && decide (0 < x.1)
def lateP (now : Nat) (x : Job) : Bool := decide (x.2.1 = now) && decide (0 < x.1)

theorem keep_step {J : List Job} {now k : Nat} (h : k < J.length) : ((J.take (k + 1)).filter (keepP now)) = (J.take k).filter (keepP now) ++ (if keepP now J[k] = true then [J[k]] else []) := by
  rw [List.take_succ_eq_append_getElem h, List.filter_append]
  congr 1
  by_cases e : keepP now J[k] = true
  · rw [if_pos e]; simp [e]
  · rw [if_neg e]; simp [e]
theorem late_step {J : List Job} {now k : Nat} (h : k < J.length) : ((J.take (k + 1)).countP (lateP now)) = (J.take k).countP (lateP now) + (if lateP now J[k] = true then 1 else 0) := by
  rw [List.take_succ_eq_append_getElem h, List.countP_append]
  congr 1
  simp [List.countP_cons]

theorem lateB_le (S : List Use) (t : Nat) : lateB S t ≤ S.length * t := by
  cases t with
  | zero => exact Nat.zero_le _
  | succ t =>
    have := lateAt_le S t
    show lateAt S t ≤ _
    rw [Nat.mul_succ]; omega

theorem above_cell {w w' : World} {b g o : Nat} {v : Value} (hO : Only (fun k => b ≤ k) w w') (hc : w.cell? ⟨g, o, none⟩ = some v) (hg : g < b) : w'.cell? ⟨g, o, none⟩ = some v := by
  rw [← hc]
  unfold World.cell?
  rw [hO.block g (block_lt hc) (by omega)]
theorem above_view {w w' : World} {b : Nat} {v : Value} {S : List Use} (h : UV w v S) (hO : Only (fun k => b ≤ k) w w') (hb : w.heap.size ≤ b) : UV w' v S := by
  obtain ⟨a, c, rfl, h0, h1, h2⟩ := h
  refine ⟨a, c, rfl, h0, h1, fun j hj => ?_⟩
  obtain ⟨b', off, rfl, hb', q1, q2⟩ := h2 j hj
  exact ⟨b', off, rfl, Nat.lt_of_lt_of_le hb' hO.size, above_cell hO q1 (by omega), above_cell hO q2 (by omega)⟩

/-- A row of jobs that was there. -/
theorem above_row {w w' : World} {b B g n c : Nat} {J : List Job} (h : Jb.RowAt w B (.slice (some ⟨g, 0, none⟩) n c) J) (hO : Only (fun k => b ≤ k) w w') (hb : w.heap.size ≤ b) : Jb.RowAt w' B (.slice (some ⟨g, 0, none⟩) n c) J :=
  h.keep hO (fun g' e hh => by have := (h.block e).2; omega)

theorem fAt_bd2 {S : List Use} (h : allOk S) (t : Nat) (i : Nat) : fAt S t i ≤ 1000 := by
  have h1 := fAt_le S t i
  by_cases hi : i < S.length
  · have := okU_nat (h i hi); omega
  · have : nthU S i = (0, 0) := by unfold nthU; simp [List.getD, List.getElem?_eq_none (show S.length ≤ i by omega)]
    rw [this] at h1; unfold cst at h1; simp at h1; omega

theorem sort_nil_any (lb : Array Value) (w : World) :
    Calls Try.prog 50 #[.iface 81 (.slice none 0 0), .func (.func 51) #[] lb] w (fun e w' => e = .returned (.tuple #[]) ∧ Only (fun _ => False) w w') := Jb.sort_job_nil lb w

/-- The first job with something else left. -/
theorem jb_set0 {w : World} {B g n c : Nat} {x : Job} {T : List Job} (h : Jb.RowAt w B (.slice (some ⟨g, 0, none⟩) n c) (x :: T)) (y : Nat) : Jb.RowAt (w.setCell ⟨g, 0, none⟩ (.int .i64 (y : Int))) B (.slice (some ⟨g, 0, none⟩) n c) ((y, x.2.1, x.2.2) :: T) := by
  obtain ⟨h1, h2⟩ := h
  refine ⟨by first | (rw [flat_len Jb.enc_len]; done) | (rw [flat_len Jb.enc_len]; rfl) | exact h1, ?_⟩
  rcases h2 with ⟨e, _⟩ | ⟨g', cap, cur, e, hb, hg, r1, r2, r3, r4⟩
  · cases e
  · cases e
    right
    refine ⟨g, c, _, by simp, hb, heap_setCell_same w g 0 cur _ _ hg, by simpa using r1, r2, by simpa using r3, ?_⟩
    rw [Array.toList_setIfInBounds, List.take_set]
    have e : (cur.toList.take ((x :: T).length * 3)) = flat Jb.enc (x :: T) := r4
    rw [show ((y, x.2.1, x.2.2) :: T).length = (x :: T).length from rfl, e]
    try rfl

theorem wrap_inc {x : Int} (h : 0 ≤ x ∧ x ≤ 1000000) : wrap64 (x + 1) = x + 1 := IntWalk.wrap64_in _ (by omega)

set_option maxRecDepth 100000 in
set_option maxHeartbeats 8000000 in
theorem ref_late (v : Value) (S : List Use) (t : Nat) (w : World) (h : UV w v S) (hc : chk S = 0) (ht : t ≤ 2000) :
    Calls Try.prog 22 #[v, .int .i64 t] w (Num (lateAt S t : Nat) w) := by
  obtain ⟨hl, hok⟩ := chk_zero hc
  have HOK := Lib.hid hok
  have H := Lib.hid h
  obtain ⟨a, c, rfl, h0, h1, h2⟩ := h
  clear h2 hok hc
  obtain ⟨n, hn⟩ : ∃ n, S.length = n := ⟨_, rfl⟩
  have HN := Lib.hid hn
  rw [hn] at H h0 hl ⊢
  clear hn
  go_enter Try.func22, Try.ntmps22
  go_wp2_with fail
  go_loopw [5, 6, 7] (fun V l i wr => ∃ (j : Nat) (J : List Job), j ≤ t + 1 ∧ i = .int .i64 j ∧ l = .int .i64 (lateB S j : Nat) ∧ Jb.RowAt wr w.heap.size V J ∧ Open S j J ∧ J.length ≤ 16 ∧ Only (fun _ => False) w wr) (fun _ _ i _ => t + 1 - (intOf i).toNat)
  case atStart => exact ⟨0, [], Nat.zero_le _, rfl, rfl, Jb.row_nil _ _, Open.start S, by simp, Only.refl _ _⟩
  case round =>
    obtain ⟨j, J, hj, rfl, rfl, hrow, hop, hJl, hOj⟩ := hrel
    obtain ⟨m, hm⟩ : ∃ m, J.length = m := ⟨_, rfl⟩
    obtain ⟨a3, c3, hv3, hc31, hc32, -⟩ := hrow.shape hm
    subst hv3
    have HJ := Lib.hid hrow
    have HOP := Lib.hid hop
    have HOJ := Lib.hid hOj
    have HM := Lib.hid hm
    rw [hm] at hJl
    have hlb := lateB_le S j
    have hlb2 : S.length * j ≤ 16 * 2001 := Nat.mul_le_mul (by rw [HN.out]; exact hl) (by omega)
    clear hrow hop hOj hm
    by_cases hjt : j ≤ t
    · obtain ⟨w1, hw1⟩ : ∃ w1, w1 = wr := ⟨_, rfl⟩
      subst hw1
      have j1 : (j : Int) ≤ t := by omega
      have hbl : lateB S j ≤ 32016 := by omega
      have HLT : Hid (J.countP (lateP j) = cnt S (Pb S j) j) := Lib.hid (HOP.out.late HOK.out)
      have HLI := Lib.hid (late_is S j)
      have hcn : cnt S (Pb S j) j ≤ 16 := by have := cntTo_le S (Pb S j) j S.length; have := HN.out; unfold cnt; omega
      have HLE : Hid ((J.filter (keepP j) ++ newTo S j n).Perm (jobsOf S.length (fun i => decide (0 < fAt S j i)) (jobA S (fAt S j) j))) := Lib.hid (by have := HOP.out.left HOK.out; unfold newTo; rw [← HN.out]; exact this)
      generalize lateB S j = lb at *
      clear hlb hlb2 HOP
      have HS0 := Lib.hid (LeftAt.start w1)
      have HO1 : Hid (Only (fun k => w1.heap.size ≤ k) w1 (w1.alloc (.cells #[.slice none 0 0] 81))) := Lib.hid ((Only.refl _ w1).alloc _)
      have HWB := Lib.hid HOJ.out.size
      have HBE := Lib.hid (show w1.heap.size = w1.heap.size from rfl)
      obtain ⟨B, hB⟩ : ∃ B, w1.heap.size = B := ⟨_, rfl⟩
      have HBW := Lib.hid hB
      rw [hB] at HS0 HO1 HWB
      go_wp2_with fail
      clear hB HBE
      generalize w1.alloc (.cells #[.slice none 0 0] 81) = w2 at *
      go_loopw [6, 20] (fun l i wx => ∃ (k : Nat) (V : Value), k ≤ m ∧ i = .int .i64 k ∧ l = .int .i64 ((lb + (J.take k).countP (lateP j) : Nat) : Int) ∧ LeftAt wx B V ((J.take k).filter (keepP j)) ∧ Only (fun k => B ≤ k) w1 wx) (fun _ i _ => m - (intOf i).toNat)
      case atStart => exact ⟨0, _, Nat.zero_le _, rfl, by simp, HS0.out, HO1.out⟩
      case round =>
        obtain ⟨k, V, hk, rfl, rfl, hLA, hO⟩ := hrel
        by_cases hkm : k < m
        · obtain ⟨gj, cj, hvj, -, hgj, -, -, hrj⟩ := HJ.out.at_block HM.out (by omega)
          injection hvj with hv1 hv2 hv3
          subst hv1
          subst hv3
          have hgB : gj < B := by have := HBW.out; omega
          have hkJ : k < J.length := by rw [HM.out]; exact hkm
          obtain ⟨q0, q1, q2⟩ := hrj.cell hkJ
          have c0 := above_cell hO q0 hgB
          have c1 := above_cell hO q1 hgB
          have c2 := above_cell hO q2 hgB
          have hgl : gj < wr.heap.size := Nat.lt_of_lt_of_le hgj hO.size
          have HKS := Lib.hid (keep_step (now := j) hkJ)
          have HLS := Lib.hid (late_step (now := j) hkJ)
          have hx : J.getD k (0, 0, 0) = J[k] := by simp [List.getD, hkJ]
          rw [hx] at c0 c1 c2
          have hcle : (J.take k).countP (lateP j) ≤ 16 := by
            have h1 := List.countP_le_length (p := lateP j) (l := J.take k)
            rw [List.length_take] at h1; omega
          have hlen : ((J.take k).filter (keepP j)).length ≤ 16 := by
            have h1 := List.length_filter_le (keepP j) (J.take k)
            rw [List.length_take] at h1; omega
          obtain ⟨cc', hcc'⟩ : ∃ x, (J.take (k + 1)).countP (lateP j) = x := ⟨_, rfl⟩
          obtain ⟨L', hL'⟩ : ∃ x, (J.take (k + 1)).filter (keepP j) = x := ⟨_, rfl⟩
          have HEC := Lib.hid hcc'
          have HEL := Lib.hid hL'
          rw [hcc'] at HLS
          rw [hL'] at HKS
          clear hcc' hL'
          generalize (J.take k).countP (lateP j) = cc at *
          generalize (J.take k).filter (keepP j) = L at *
          generalize J[k] = x at *
          obtain ⟨xl, xe, xi⟩ := x
          simp only at c0 c1 c2
          clear q0 q1 q2 hx hkJ hgj hrj hv2
          have k1 : (k : Int) < m := by omega
          obtain ⟨nl, hnl⟩ : ∃ nl, L.length = nl := ⟨_, rfl⟩
          obtain ⟨a4, c4, hv4, hc41, hc42, -⟩ := hLA.row.shape hnl
          subst hv4
          have cl := hLA.cell
          have hBl := hLA.lt
          have fz := hLA.frozen
          have HLA := Lib.hid hLA
          have HO := Lib.hid hO
          clear hLA hO
          generalize hlc : lb + cc = lc at *
          by_cases hxl : xl = 0
          · -- done long since
            have e1 : ¬ (0 : Int) < xl := by omega
            have e1n : ¬ 0 < xl := by omega
            have HL2 : Hid (L' = L) := Lib.hid (by rw [HKS.out, if_neg (by simp [keepP, hxl]), List.append_nil])
            have HC2 : Hid (cc' = cc) := Lib.hid (by rw [HLS.out, if_neg (by simp [lateP, hxl])]; rfl)
            clear hxl
            by_cases he : xe = j
            · subst he
              have e2 : ¬ (xe : Int) < xe := by omega
              go_wp2_with fail
              go_roundw
              case rel => exact ⟨k + 1, _, by omega, by go_num, by rw [HEC.out, HC2.out, hlc], by rw [HEL.out, HL2.out]; exact HLA.out.later ((Only.refl _ _).alloc _), above_quiet HO.out ((Only.refl _ _).alloc _)⟩
              case measure => simp [intOf]; omega
            · have e2 : ((xe : Int) == j) = false := by simp; omega
              have e2n : (xe == j) = false := by simp [he]
              by_cases he2 : j < xe
              · have e3 : (j : Int) < xe := by omega
                go_wp2_with fail
                go_roundw
                case rel => exact ⟨k + 1, _, by omega, by go_num, by rw [HEC.out, HC2.out, hlc], by rw [HEL.out, HL2.out]; exact HLA.out.later ((Only.refl _ _).alloc _), above_quiet HO.out ((Only.refl _ _).alloc _)⟩
                case measure => simp [intOf]; omega
              · have e3 : ¬ (j : Int) < xe := by omega
                go_wp2_with fail
                go_roundw
                case rel => exact ⟨k + 1, _, by omega, by go_num, by rw [HEC.out, HC2.out, hlc], by rw [HEL.out, HL2.out]; exact HLA.out.later ((Only.refl _ _).alloc _), above_quiet HO.out ((Only.refl _ _).alloc _)⟩
                case measure => simp [intOf]; omega
          · have e1 : (0 : Int) < xl := by omega
            have e1n : 0 < xl := by omega
            by_cases he : xe = j
            · -- late
              subst he
              have e2 : ¬ (xe : Int) < xe := by omega
              have HL2 : Hid (L' = L) := Lib.hid (by rw [HKS.out, if_neg (by simp [keepP]), List.append_nil])
              have HC2 : Hid (cc' = cc + 1) := Lib.hid (by rw [HLS.out, if_pos (by simp [lateP]; omega)])
              clear hxl
              go_wp2_with fail
              go_roundw
              case rel => exact ⟨k + 1, _, by omega, by go_num, by rw [HEC.out, HC2.out, ← Nat.add_assoc, hlc]; go_num, by rw [HEL.out, HL2.out]; exact HLA.out.later ((Only.refl _ _).alloc _), above_quiet HO.out ((Only.refl _ _).alloc _)⟩
              case measure => simp [intOf]; omega
            · have e2 : ((xe : Int) == j) = false := by simp; omega
              have e2n : (xe == j) = false := by simp [he]
              have HC2 : Hid (cc' = cc) := Lib.hid (by rw [HLS.out, if_neg (by simp [lateP, he])]; rfl)
              by_cases he2 : j < xe
              · -- it goes on
                have e3 : (j : Int) < xe := by omega
                have HL2 : Hid (L' = L ++ [(xl, xe, xi)]) := Lib.hid (by rw [HKS.out, if_pos (by simp [keepP]; omega)])
                have HNL : Hid (L.length + 1 ≤ 5864062014741) := Lib.hid (by omega)
                have HN1 : Hid ((L ++ [(xl, xe, xi)]).length = nl + 1) := Lib.hid (by rw [List.length_append, hnl]; rfl)
                have HOa := Lib.hid (((Only.refl (fun _ => False) wr).alloc (.cells #[.int .i64 (xl : Int), .int .i64 (xe : Int), .int .i64 (xi : Int)] 83)).alloc (.cells #[.int .i64 (xl : Int), .int .i64 (xe : Int), .int .i64 (xi : Int)] 83))
                have HLB := Lib.hid (HLA.out.later HOa.out)
                have hbk := heap_alloc_new (wr.alloc (.cells #[.int .i64 (xl : Int), .int .i64 (xe : Int), .int .i64 (xi : Int)] 83)) (.cells #[.int .i64 (xl : Int), .int .i64 (xe : Int), .int .i64 (xi : Int)] 83)
                rw [World.size_alloc] at hbk
                have HBK := Lib.hid hbk
                have HZ : Hid (B + 1 ≤ ((wr.alloc (.cells #[.int .i64 (xl : Int), .int .i64 (xe : Int), .int .i64 (xi : Int)] 83)).alloc (.cells #[.int .i64 (xl : Int), .int .i64 (xe : Int), .int .i64 (xi : Int)] 83)).heap.size) := Lib.hid HLB.out.lt
                clear hbk hxl
                go_wp2_with (at_builtin; go_must (refine Jb.append_row rfl _ _ rfl (B + 1) (wr.heap.size + 1) 1 (.slice a4 nl c4) L (xl, xe, xi) rfl rfl HLB.out.row HBK.out HNL.out HZ.out ?_); go_must (intro v7 w7 hr7 hO7 hb7); go_must (have hs7 := hr7.shape HN1.out); go_must (obtain ⟨a7, c7, hv7, -, -, -⟩ := hs7); go_must (subst hv7); have hg7 := HLB.out.grown hO7; have cl7 : w7.cell? ⟨B, 0, none⟩ = some (.slice a4 nl c4) := (by rw [cell_at hg7]; rfl); have fz7 := frozen_at hg7 0; have hBl7 := block_there hg7; have HG7 := Lib.hid hg7; have HR7 := Lib.hid hr7; have HO7 := Lib.hid (above_grown (above_quiet HO.out HOa.out) HLB.out hO7); clear hr7 hO7 hb7 hg7)
                go_roundw
                case rel => exact ⟨k + 1, _, by omega, by go_num, by rw [HEC.out, HC2.out, hlc], by rw [HEL.out, HL2.out]; exact LeftAt.stored HG7.out HR7.out, above_set HO7.out _⟩
                case measure => simp [intOf]; omega
              · -- it is gone
                have e3 : ¬ (j : Int) < xe := by omega
                have HL2 : Hid (L' = L) := Lib.hid (by rw [HKS.out, if_neg (by simp [keepP]; omega), List.append_nil])
                clear hxl
                go_wp2_with fail
                go_roundw
                case rel => exact ⟨k + 1, _, by omega, by go_num, by rw [HEC.out, HC2.out, hlc], by rw [HEL.out, HL2.out]; exact HLA.out.later ((Only.refl _ _).alloc _), above_quiet HO.out ((Only.refl _ _).alloc _)⟩
                case measure => simp [intOf]; omega
        · obtain rfl : k = m := by omega
          rw [List.take_of_length_le (by rw [HM.out]; exact Nat.le_refl _)] at hLA
          have hall : J.take k = J := List.take_of_length_le (by rw [HM.out]; exact Nat.le_refl _)
          rw [hall, HLT.out, HLI.out]
          have hlen : (J.filter (keepP j)).length ≤ 16 := by
            have h1 := List.length_filter_le (keepP j) J
            have := HM.out; omega
          obtain ⟨K, hK⟩ : ∃ K, J.filter (keepP j) = K := ⟨_, rfl⟩
          rw [hK] at HLE hLA hlen
          have HLA0 := Lib.hid hLA
          have HOA := Lib.hid hO
          clear hLA hO hall hK HLT HLI
          have hlaB := lateAt_le S j
          have HLQ : Hid (lateB S (j + 1) = lateAt S j) := Lib.hid rfl
          generalize lateAt S j = la at *
          go_wp2_with fail
          go_loopw [51] (fun i wx => ∃ (k : Nat) (V : Value), k ≤ n ∧ i = .int .i64 k ∧ LeftAt wx B V (K ++ newTo S j k) ∧ Only (fun k => B ≤ k) w1 wx) (fun i _ => n - (intOf i).toNat)
          case atStart => exact ⟨0, _, Nat.zero_le _, rfl, by rw [newTo_zero, List.append_nil]; exact HLA0.out, HOA.out⟩
          case round =>
            clear HLA0 HOA
            obtain ⟨q, V, hq, rfl, hLA, hO⟩ := hrel
            by_cases hqn : q < n
            · obtain ⟨b, off, rfl, hb, c1, c2⟩ : ∃ b off, a = some ⟨b, off, none⟩ ∧ b < wr.heap.size ∧ wr.cell? ⟨b, off + q * 2, none⟩ = some (.int .i64 (nthU S q).1) ∧ wr.cell? ⟨b, off + q * 2 + 1, none⟩ = some (.int .i64 (nthU S q).2) := by
                obtain ⟨a', c', e, -, -, h3⟩ := above_view (H.out.later HOJ.out) hO (by rw [HBW.out]; exact Nat.le_refl _)
                cases e
                exact h3 q (by rw [HN.out]; exact hqn)
              have g1 : (q : Int) < n := by omega
              have hu := okU_nat (HOK.out q (by rw [HN.out]; exact hqn))
              have HY := Lib.hid (newTo_yes (S := S) (now := j) (k := q))
              have HNO := Lib.hid (newTo_no (S := S) (now := j) (k := q))
              have hnl := newTo_len S j q
              obtain ⟨u1, u2, u3, u4, u5, u6⟩ := hu
              rw [u1] at c1
              rw [u2] at c2
              clear u1 u2
              generalize cst (nthU S q) = x at *
              generalize per (nthU S q) = p at *
              obtain ⟨z, hz⟩ : ∃ z, j % p = z := ⟨_, rfl⟩
              have qz : (j : Int) % p = (z : Int) := by rw [← hz]; rfl
              rw [hz] at HY HNO
              clear hz
              obtain ⟨M0, hM0⟩ : ∃ M0, K ++ newTo S j q = M0 := ⟨_, rfl⟩
              have hml : M0.length ≤ 32 := by rw [← hM0, List.length_append]; omega
              rw [hM0] at hLA
              have HM0 := Lib.hid hM0
              clear hM0
              obtain ⟨nl, hnl2⟩ : ∃ nl, M0.length = nl := ⟨_, rfl⟩
              obtain ⟨a4, c4, hv4, hc41, hc42, -⟩ := hLA.row.shape hnl2
              subst hv4
              have cl := hLA.cell
              have hBl := hLA.lt
              have fz := hLA.frozen
              have HLA := Lib.hid hLA
              have HO := Lib.hid hO
              clear hLA hO
              have e1 : ¬ (p : Int) = 0 := by omega
              have e2 : (0 : Int) ≤ j := by omega
              by_cases z0 : z = 0
              · have e3 : ((z : Int) == 0) = true := by simp [z0]
                have HNW : Hid (K ++ newTo S j (q + 1) = M0 ++ [(x, j + p, q)]) := Lib.hid (by rw [HY.out z0, ← List.append_assoc, HM0.out])
                have HNL : Hid (M0.length + 1 ≤ 5864062014741) := Lib.hid (by omega)
                have HN1 : Hid ((M0 ++ [(x, j + p, q)]).length = nl + 1) := Lib.hid (by rw [List.length_append, hnl2]; rfl)
                have hjp : ((j + p : Nat) : Int) = (j : Int) + p := Int.natCast_add j p
                have HOa := Lib.hid (((Only.refl (fun _ => False) wr).alloc (.cells #[.int .i64 (x : Int), .int .i64 (p : Int)] 40)).alloc (.cells #[.int .i64 (x : Int), .int .i64 ((j : Int) + p), .int .i64 (q : Int)] 83))
                have HLB := Lib.hid (HLA.out.later HOa.out)
                have hbk := heap_alloc_new (wr.alloc (.cells #[.int .i64 (x : Int), .int .i64 (p : Int)] 40)) (.cells #[.int .i64 (x : Int), .int .i64 ((j : Int) + p), .int .i64 (q : Int)] 83)
                rw [World.size_alloc] at hbk
                have HBK := Lib.hid hbk
                have HZ : Hid (B + 1 ≤ ((wr.alloc (.cells #[.int .i64 (x : Int), .int .i64 (p : Int)] 40)).alloc (.cells #[.int .i64 (x : Int), .int .i64 ((j : Int) + p), .int .i64 (q : Int)] 83)).heap.size) := Lib.hid HLB.out.lt
                clear hbk
                go_wp2_with (at_builtin; go_must (refine Jb.append_row rfl _ _ rfl (B + 1) (wr.heap.size + 1) 1 (.slice a4 nl c4) M0 (x, j + p, q) rfl rfl HLB.out.row HBK.out HNL.out HZ.out ?_); go_must (intro v7 w7 hr7 hO7 hb7); go_must (have hs7 := hr7.shape HN1.out); go_must (obtain ⟨a7, c7, hv7, -, -, -⟩ := hs7); go_must (subst hv7); have hg7 := HLB.out.grown hO7; have cl7 : w7.cell? ⟨B, 0, none⟩ = some (.slice a4 nl c4) := (by rw [cell_at hg7]; rfl); have fz7 := frozen_at hg7 0; have hBl7 := block_there hg7; have HG7 := Lib.hid hg7; have HR7 := Lib.hid hr7; have HO7 := Lib.hid (above_grown (above_quiet HO.out HOa.out) HLB.out hO7); clear hr7 hO7 hb7 hg7)
                go_roundw
                case rel => exact ⟨q + 1, _, by omega, by go_num, by rw [HNW.out]; exact LeftAt.stored HG7.out HR7.out, above_set HO7.out _⟩
                case measure => simp [intOf]; omega
              · have e3 : ((z : Int) == 0) = false := by simp [z0]
                have HNW : Hid (K ++ newTo S j (q + 1) = M0) := Lib.hid (by rw [HNO.out z0, HM0.out])
                go_wp2_with fail
                go_roundw
                case rel => exact ⟨q + 1, _, by omega, by go_num, by rw [HNW.out]; exact HLA.out.later ((Only.refl _ _).alloc _), above_quiet HO.out ((Only.refl _ _).alloc _)⟩
                case measure => simp [intOf]; omega
            · obtain rfl : q = n := by omega
              obtain ⟨Lf, hLf⟩ : ∃ Lf, K ++ newTo S j q = Lf := ⟨_, rfl⟩
              rw [hLf] at HLE hLA
              have hll : Lf.length ≤ 16 := by
                rw [HLE.out.length_eq]
                have := jobs_len S.length (fun i => decide (0 < fAt S j i)) (jobA S (fAt S j) j)
                have := HN.out; omega
              have HLA := Lib.hid hLA
              have HO := Lib.hid hO
              have hla2 : la ≤ 32000 := by
                have : S.length * j ≤ 16 * 2000 := Nat.mul_le_mul (by rw [HN.out]; exact hl) (by omega)
                omega
              clear hLf hLA hO hlaB
              clear hkm hk hq hqn HO1 HS0
              rcases HLA.out.row.cases with ⟨rfl, rfl⟩ | ⟨g, c4, rfl, hgB, hc41, hc42, -, -⟩
              · -- nobody is there
                have KS := Lib.hid (sort_nil_any #[.pointer (some ⟨B, 0, none⟩)] wr)
                have cl := HLA.out.cell
                have HOP2 := Lib.hid (tick_none HOK.out HLE.out)
                go_wp2_with (go_at_call 50; (with_reducible refine KS.out.mono ?_); rintro e w9 ⟨rfl, hO9⟩; have hl9 := HLA.out.later hO9; have cl9 := hl9.cell; have hb9 := hl9.lt; have HO9 := Lib.hid (above_quiet HO.out hO9); clear hO9 hl9)
                go_roundw
                case rel => exact ⟨j + 1, [], by omega, by go_num, by rw [HLQ.out], Jb.row_nil _ _, HOP2.out, by simp, above_old HOJ.out HO9.out HWB.out⟩
                case measure => simp [intOf]; omega
              · obtain ⟨nl, hnl⟩ : ∃ nl, Lf.length = nl := ⟨_, rfl⟩
                rw [hnl] at HLA hc41 hll
                have KS := Lib.hid (Jb.sort_job jobLt swo_job (B + 1) g nl c4 #[.pointer (some ⟨B, 0, none⟩)] Lf wr HLA.out.row hnl (by omega) (fun W T hT hrow hOW i i2 hi hi2 => by
                  have ci := hrow.cell (i := i) (by omega)
                  have cj := hrow.cell (i := i2) (by omega)
                  have hbx := (hOW.block B HLA.out.lt (by omega)).trans HLA.out.box
                  exact less_job B g c4 nl i i2 (T.getD i (0, 0, 0)) (T.getD i2 (0, 0, 0)) W hi hi2 (by omega) (by rw [cell_at hbx]; rfl) ci.2.1 ci.2.2 cj.2.1 cj.2.2))
                have cl := HLA.out.cell
                have HGB := Lib.hid hgB
                have HNL := Lib.hid hnl
                clear hnl hgB
                go_upto_region 22 with (go_at_call 50; (with_reducible refine KS.out.mono ?_); rintro e w9 ⟨rfl, T, hP, hS, hr9, hO9⟩; have hbx9 := (hO9.block B HLA.out.lt (by have := HGB.out; omega)).trans HLA.out.box; have cl9 : w9.cell? ⟨B, 0, none⟩ = some (.slice (some ⟨g, 0, none⟩) nl c4) := (by rw [cell_at hbx9]; rfl); have hb9 := block_there hbx9; have HP := Lib.hid hP; have HSO := Lib.hid hS; have HR9 := Lib.hid hr9; have HO9 := Lib.hid (HO.out.trans hO9 (fun k hk e => by have := HGB.out; have e2 : k = g := e; omega)); clear hbx9 hP hS hr9 hO9)
                by_cases hn0 : nl = 0
                · subst hn0
                  have hT0 : T = [] := List.eq_nil_of_length_eq_zero (by rw [HP.out.length_eq]; exact HNL.out)
                  subst hT0
                  have HOP2 := Lib.hid (tick_none HOK.out (HP.out.trans HLE.out))
                  go_wp2_with fail
                  go_roundw
                  case rel => exact ⟨j + 1, [], by omega, by go_num, by rw [HLQ.out], HR9.out.base (by have := HWB.out; omega), HOP2.out, by simp, above_old HOJ.out HO9.out HWB.out⟩
                  case measure => simp [intOf]; omega
                · have hTl : T.length = nl := by rw [HP.out.length_eq]; exact HNL.out
                  obtain ⟨x, T', rfl⟩ : ∃ x T', T = x :: T' := by
                    cases T with
                    | nil => simp at hTl; omega
                    | cons x T' => exact ⟨x, T', rfl⟩
                  have hTF := tick_first HOK.out (HP.out.trans HLE.out) HSO.out
                  have HTF := Lib.hid hTF.2
                  have hx0 := hTF.1
                  have q0 := (HR9.out.cell (i := 0) (by omega)).1
                  have hSET := jb_set0 HR9.out (x.1 - 1)
                  have hgl := (HR9.out.block rfl).2
                  have hfz : w9.frozen? ⟨g, 0, none⟩ = false := by
                    obtain ⟨cur, hg⟩ := HR9.out.type rfl
                    exact frozen_at hg 0
                  obtain ⟨xl, xe, xi⟩ := x
                  simp only [List.getD_cons_zero, Nat.zero_mul] at q0
                  simp only at hx0 hSET
                  have e1 : ((xl - 1 : Nat) : Int) = (xl : Int) - 1 := by omega
                  rw [e1] at hSET
                  have hxb : xl ≤ 1000 := by
                    obtain ⟨i, -, -, hi⟩ := mem_jobs.1 ((HP.out.trans HLE.out).mem_iff.1 List.mem_cons_self)
                    have h1 := fAt_bd2 HOK.out j i
                    have h2 : fAt S j i = xl := congrArg (fun z : Job => z.1) hi
                    omega
                  have HSET := Lib.hid hSET
                  have HO10 := Lib.hid (HO9.out.setCell (p := ⟨g, 0, none⟩) (by show B ≤ g; have := HGB.out; omega) (.int .i64 ((xl : Int) - 1)))
                  have HLF : Hid (((xl - 1, xe, xi) :: T').length ≤ 16) := Lib.hid (by simp at hTl ⊢; omega)
                  have hne : B ≠ g := by have := HGB.out; omega
                  have c10 : (w9.setCell ⟨g, 0, none⟩ (.int .i64 ((xl : Int) - 1))).cell? ⟨B, 0, none⟩ = some (.slice (some ⟨g, 0, none⟩) nl c4) := by
                    rw [World.cell?_setCell_far _ _ _ _ (show g ≠ B by omega)]; exact cl9
                  have g1 : (0 : Int) < nl := by omega
                  clear hTF hSET hTl e1 hx0
                  go_wp2_with fail
                  go_roundw
                  case rel => exact ⟨j + 1, _, by omega, by go_num, by rw [HLQ.out], HSET.out.base (by have := HWB.out; omega), HTF.out, HLF.out, above_old HOJ.out HO10.out HWB.out⟩
                  case measure => simp [intOf]; omega
    · obtain rfl : j = t + 1 := by omega
      have j1 : ¬ ((t + 1 : Nat) : Int) ≤ t := by omega
      go_wp2_with fail
      go_ret
      exact num_is rfl HOJ.out
end Go.Proofs.Ytlohjlhopbhnoaa.Ad
