/- The law PrioGoes. -/
import Derived.Test.YtcnmpgkapedniaaPGoP
namespace Go.Proofs.Ytcnmpgkapedniaa.Pr
open Go.ChangeShapes Go.WideShapes Go.ChangeAt Go.RowKit Go.Maps
set_option linter.unusedVariables false

theorem goes_start {w w4 : World} {p len c : Nat} {a : Option Addr} {xs : List Int} (hM : Mine w w4 p 0 52 noV noQ) (hp : w.heap.size < p) (hb : w4.heap[w.heap.size]? = some (.cells #[.slice a len c] 28 (0, 0))) (hN : Nums w (.slice a xs.length c) xs) :
    Goes w (w4.setCell ⟨w.heap.size, 0, none⟩ (.slice a xs.length c)) p noV (qsOf xs (upto 0)) w.heap.size a c xs (.slice none 0 0) (upto 0) := by
  have hO : Only (fun k => k = w.heap.size) w4 (w4.setCell ⟨w.heap.size, 0, none⟩ (.slice a xs.length c)) := Only.setCell (S := fun x => x = w.heap.size) (Only.refl _ w4) (p := ⟨w.heap.size, 0, none⟩) rfl _
  have hoff : ¬ Foot p noV w.heap.size := fun e => by have := no_foot e; omega
  refine ⟨⟨hM.at_.keep hO (fun k hk e => hoff (e ▸ hk)), hM.own, hM.only.trans hO (fun x hx e => by omega)⟩, heap_setCell_same w4 w.heap.size 0 _ _ _ hb, hN, ints_nil _ _, (fun g hg => by cases hg), hoff⟩

theorem goes_box {w0 w : World} {p : Nat} {V : Nat → Value} {Q : Qs} {B : Nat} {a : Option Addr} {c : Nat} {xs : List Int} {v : Value} {S : List Int} (h : Goes w0 w p V Q B a c xs v S) : w.cell? ⟨B, 0, none⟩ = some (.slice a xs.length c) := by
  rw [cell_at h.box]; rfl

theorem goes_num {w0 w : World} {p : Nat} {V : Nat → Value} {Q : Qs} {B b off : Nat} {c : Nat} {xs : List Int} {v : Value} {S : List Int} (h : Goes w0 w p V Q B (some ⟨b, off, none⟩) c xs v S) {x : Nat} (hx : x < xs.length) : w.cell? ⟨b, off + x, none⟩ = some (.int .i64 (xs.getD x 0)) := by
  obtain ⟨b', off', e, -, hc⟩ := h.cau.nums.at hx
  cases e
  exact hc

theorem goes_begin {w w1 w4 : World} {p len c : Nat} {a : Option Addr} {xs : List Int} (hN : Nums w (.slice a xs.length c) xs) (hb : (w.alloc (.cells #[.slice a len c] 28)).heap[w.heap.size]? = some (.cells #[.slice a len c] 28 (0, 0)))
    (hW : Only (fun _ => False) w (w.alloc (.cells #[.slice a len c] 28))) (hZ : w.heap.size < (w.alloc (.cells #[.slice a len c] 28)).heap.size) (hO : Only (fun _ => False) (w.alloc (.cells #[.slice a len c] 28)) w1) (hO4 : Only (fun _ => False) w1 w4) (hp : p = w1.heap.size) (hq : QAt w4 p 0 52 noV noQ) :
    w4.cell? ⟨w.heap.size, 0, none⟩ = some (.slice a len c) ∧ w4.frozen? ⟨w.heap.size, 0, none⟩ = false ∧
    Goes w (w4.setCell ⟨w.heap.size, 0, none⟩ (.slice a xs.length c)) p noV (qsOf xs (upto 0)) w.heap.size a c xs (.slice none 0 0) (upto 0) := by
  have hs1 := hO.size
  have h4 : w4.heap[w.heap.size]? = some (.cells #[.slice a len c] 28 (0, 0)) := by
    rw [hO4.block _ (by omega) id, hO.block _ hZ id]; exact hb
  refine ⟨by rw [cell_at h4]; rfl, frozen_at h4 0, goes_start ⟨hq, fun k hk => by rw [no_foot hk, hp]; omega, only_trans hW (only_trans hO hO4)⟩ (by omega) h4 hN⟩

set_option maxRecDepth 100000 in
set_option maxHeartbeats 2000000 in
theorem goes_walk (a : Option Addr) (len cap : Nat) (zs : List Int) (w : World) (h : IsRow .i64 w a len cap zs) :
    Calls Try.prog 4 #[.slice a len cap] w fun e w' => e = .returned (.bool true) ∧ Below w.heap.size w w' := by
  obtain ⟨xs, hx1, hx2, hc1, hc2⟩ := nums_cut h 16
  have hm1 : xs.length ≤ 16 := by omega
  have hm2 : xs.length ≤ len := by omega
  have qm := run_min2 (len : Int) 16 xs.length (by omega)
  have HX := Lib.hid hx2
  have HB := Lib.hid (show (w.alloc (.cells #[.slice a len cap] 28)).heap[w.heap.size]? = some (.cells #[.slice a len cap] 28 (0, 0)) from heap_alloc_new w _)
  have HW := Lib.hid (show Only (fun _ => False) w (w.alloc (.cells #[.slice a len cap] 28)) from (Only.refl _ w).alloc _)
  have HZ := Lib.hid (show w.heap.size < (w.alloc (.cells #[.slice a len cap] 28)).heap.size from by simp)
  clear h hx1 hx2
  go_enter Try.func4, Try.ntmps4
  go_wp2_with (first
    | (go_at_call 21; (with_reducible refine (begun_any _).mono ?_); rintro e w1 ⟨rfl, hO⟩; have HO := Lib.hid hO; clear hO)
    | (go_at_call 7; (with_reducible refine (new_any _).mono ?_); rintro e w4 ⟨p, rfl, hp, hq, hO4⟩; have HG0 := Lib.hid (goes_begin HX.out HB.out HW.out HZ.out HO.out hO4 hp hq); have cb := HG0.out.1; have fb := HG0.out.2.1; clear hp hq hO4))
  have HG := Lib.hid HG0.out.2.2
  clear HG0 cb fb qm HB HW HZ HO
  generalize w4.setCell _ _ = w5 at *
  generalize hBe : w.heap.size = B at *
  have HBE := Lib.hid hBe
  clear hBe
  go_loopw [4, 5, 6, 27] (fun s4 _ _ i wr => ∃ (k : Nat) (V : Nat → Value), k ≤ xs.length ∧ i = .int .i64 k ∧ Goes w wr p V (qsOf xs (upto k)) B a cap xs s4 (upto k) ∧ (k = 0 → s4 = .slice none 0 0)) (fun _ _ _ i _ => xs.length - (intOf i).toNat)
  case atStart => exact ⟨0, _, Nat.zero_le _, rfl, HG.out, fun _ => rfl⟩
  case round =>
    clear HG
    obtain ⟨k, V, hk, rfl, hG, h0⟩ := hrel
    have HG := Lib.hid hG
    clear hG
    by_cases hlt : k < xs.length
    · obtain ⟨b, off, rfl, hb, hc⟩ := HG.out.cau.nums.at (j := k) hlt
      obtain ⟨x, hx⟩ : ∃ x, xs.getD k 0 = x := ⟨_, rfl⟩
      rw [hx] at hc
      have kx : keyOf xs k = restOf x 8 := by rw [← hx]; rfl
      have k0 := keyOf_lo xs k
      have k8 := keyOf_hi xs k
      obtain ⟨q, hq⟩ : ∃ q : Nat, keyOf xs k = q := ⟨(keyOf xs k).toNat, by omega⟩
      have R8 := Lib.hid (fun W => rest_any x 8 (by omega) (by omega) W)
      rw [← kx, hq] at R8
      have HS := Lib.hid (show upd (qsOf xs (upto k)) q (qsOf xs (upto k) q ++ [(k : Int) + 1]) = qsOf xs (upto (k + 1)) from by rw [upto_succ, qsOf_snoc xs _ _ hq])
      have HP := Lib.hid (put_new HG.out.mine.at_ (fun i hi => by have := qsOf_len xs (upto k) i; rw [upto_len] at this; omega) ((k : Int) + 1) q (by omega) (by omega) (upto_seek xs k))
      rw [HS.out] at HP
      have g1 : (k : Int) < xs.length := by omega
      have g2 : (0 : Int) ≤ k := by omega
      have HLB := Lib.hid (show (upto k).length + 1 ≤ 17000000000000 from by rw [upto_len]; omega)
      clear hx kx k0 k8 hq h0
      go_wp2_with (first
        | (go_at_call 22; (with_reducible refine (R8.out _).mono ?_); rintro e w' ⟨rfl, rfl⟩)
        | (go_at_call 8; (with_reducible refine HP.out.mono ?_); rintro e w6 ⟨rfl, V2, hq2, hs2⟩; have HG2 := Lib.hid ((HG.out.step hq2 hs2).quiet ((Only.refl (fun _ => False) w6).alloc (.cells #[.int .i64 k] 3))); clear hq2 hs2)
        | (at_builtin; go_must (refine append_one rfl (.tmp 39) (.tmp 41) rfl w.heap.size w6.heap.size 1 _ (upto k) (k : Int) rfl rfl HG2.out.row (heap_alloc_new w6 _) HLB.out HG2.out.mine.only.size ?_); go_must (intro v7 w7 hr7 hO7 hb7); go_must (have hg7 := HG2.out.more hr7 hO7 hb7); rw [← upto_succ] at hg7; have HG7 := Lib.hid hg7; clear hr7 hO7 hb7 hg7))
      go_roundw
      case rel => exact ⟨k + 1, V2, by omega, by go_num, HG7.out, fun e => by omega⟩
      case measure => simp [intOf]; omega
    · have ek : k = xs.length := by omega
      by_cases hn0 : k = 0
      · have hv := h0 hn0
        subst hv
        have HG2 := Lib.hid HG.out
        rw [hn0] at HG2
        have HT := Lib.hid (first_not (first_any HG2.out.mine.at_ (fun i hi => by have := qsOf_len xs (upto 0) i; rw [upto_len] at this; omega)) (top_none (fun j hj => rfl)))
        clear h0
        go_wp2_with (go_at_call 23; (with_reducible refine (sort_nil _ _).mono ?_); rintro e w2 ⟨rfl, rfl⟩)
        have HBt := Lib.hid (fun (W : World) (h : QAt W p 0 52 V (qsOf xs (upto 0))) => bits_any h (fun i hi => by have := qsOf_len xs (upto 0) i; rw [upto_len] at this; omega))
        rw [bits_none (Q := qsOf xs (upto 0)) (top_none (fun j hj => rfl))] at HBt
        clear HG hk hlt hn0
        refine wp_loop_rounds 1 ?_
        rw [rounds_succ]
        go_wp2_with (first
          | (go_at_call 18; (with_reducible refine HT.out.mono ?_); rintro e w3 ⟨rfl, hO⟩; have HG3 := Lib.hid (HG2.out.quiet hO); clear hO)
          | (go_at_call 9; (with_reducible refine (HBt.out _ HG3.out.mine.at_).mono ?_); rintro e w4 ⟨rfl, hO⟩; have HG4 := Lib.hid (HG3.out.quiet hO); clear hO))
        go_ret
        exact ⟨rfl, HG4.out.mine.only.below (Nat.le_refl _) (fun _ h => h.elim)⟩
      · obtain ⟨g, c, hv, -, -, -⟩ := HG.out.row.at_block (n := k) (upto_len k) (by omega)
        subst hv
        have hn1 : 1 ≤ k := by omega
        have hn16 : k ≤ 16 := by omega
        obtain ⟨r1, r2, r3⟩ := HG.out.ready (by omega)
        have HSt := Lib.hid (sort_any r1 rfl ek hn1 hn16 r2 r3)
        have EK := Lib.hid ek
        have g0 : ¬ (k : Int) < xs.length := by omega
        clear h0 r1 r2 r3 hlt hk hn0 ek
        go_wp2_with (go_at_call 23; (with_reducible refine HSt.out.mono ?_); rintro e w2 ⟨rfl, S, hs, ho⟩; have HG2 := Lib.hid (HG.out.sorted hs); have HSM := Lib.hid hs.same; have HSO := Lib.hid ho; clear hs ho)
        have HLn : Hid (S.length = k) := Lib.hid (by rw [HSM.out.len, upto_len])
        have HG3 : Hid (∃ V', Goes w w2 p V' (qsOf xs (S.drop 0)) B a cap xs (.slice (some ⟨g, 0, none⟩) k c) S) := Lib.hid ⟨V, by rw [List.drop_zero, same_qs HSM.out]; exact HG2.out⟩
        clear HG HG2 HSt g0
        go_loopw [8, 9, 10, 11, 12, 13, 49] (fun _ _ _ _ _ _ i wr => ∃ (j : Nat) (V : Nat → Value), j ≤ k ∧ i = .int .i64 j ∧ Goes w wr p V (qsOf xs (S.drop j)) B a cap xs (.slice (some ⟨g, 0, none⟩) k c) S) (fun _ _ _ _ _ _ i _ => k - (intOf i).toNat)
        case atStart =>
          obtain ⟨V', h⟩ := HG3.out
          exact ⟨0, V', Nat.zero_le _, rfl, h⟩
        case round =>
          clear HG3
          obtain ⟨j, V1, hj, rfl, hG⟩ := hrel
          have HG := Lib.hid hG
          clear hG
          have HQl := Lib.hid (show ∀ i, i < 8 → (qsOf xs (S.drop j) i).length ≤ 16 from fun i hi => by have := qsOf_len xs (S.drop j) i; rw [List.length_drop, HLn.out] at this; omega)
          by_cases hjk : j < k
          · obtain ⟨x, q, hx, hxn, hkx, hq8, htop, hhead, hseek, hnext⟩ := take_one EK.out HSM.out HSO.out hjk
            have cx := ints_cell HG.out.row (j := j) (by rw [HLn.out]; exact hjk)
            rw [hx] at cx
            have HF := Lib.hid (first_is (first_any HG.out.mine.at_ (fun i hi => by have := HQl.out i hi; omega)) htop)
            rw [hhead] at HF
            have HOu := Lib.hid (fun (W : World) (h : QAt W p 0 52 V1 (qsOf xs (S.drop j))) => out_yes h (fun i hi => by have := HQl.out i hi; omega) ((x : Int) + 1) hseek)
            rw [hnext] at HOu
            obtain ⟨b, off, rfl, hb, hc⟩ := HG.out.cau.nums.at (j := x) (by have := EK.out; omega)
            have R8 := Lib.hid (fun W => rest_any (xs.getD x 0) 8 (by omega) (by omega) W)
            rw [show restOf (xs.getD x 0) 8 = (q : Int) from hkx] at R8
            obtain ⟨y, hy⟩ : ∃ y, xs.getD x 0 = y := ⟨_, rfl⟩
            rw [hy] at R8 hc
            have HY := Lib.hid hy
            have HXl := Lib.hid (show x < xs.length from by have := EK.out; omega)
            have g1 : (j : Int) < k := by omega
            have g2 : (x : Int) < xs.length := by have := EK.out; omega
            have g3 : (x : Int) ≤ 16 := by omega
            clear hx htop hhead hseek hnext hkx hy
            go_wp2_with (first
              | (go_at_call 18; (with_reducible refine HF.out.mono ?_); rintro e w3 ⟨rfl, hO⟩; have HG4 := Lib.hid (HG.out.quiet hO); clear hO)
              | (go_at_call 13; (with_reducible refine (HOu.out _ HG4.out.mine.at_).mono ?_); rintro e w5 ⟨rfl, V2, hq2, hs2⟩; have HG5 := Lib.hid (HG4.out.step hq2 hs2); have cB := goes_box HG5.out; have cy := goes_num HG5.out HXl.out; rw [HY.out] at cy; clear hq2 hs2)
              | (go_at_call 22; (with_reducible refine (R8.out _).mono ?_); rintro e w' ⟨rfl, rfl⟩))
            go_roundw
            case rel => exact ⟨j + 1, V2, by omega, by go_num, HG5.out⟩
            case measure => simp [intOf]; omega
          · have e0 : S.drop j = [] := List.drop_eq_nil_of_le (by rw [HLn.out]; omega)
            rw [e0, qsOf_nil] at HG
            have HF := Lib.hid (first_not (first_any HG.out.mine.at_ (fun i hi => by simp [noQ])) (top_none (Q := noQ) (fun j hj => rfl)))
            have HBt := Lib.hid (fun (W : World) (h : QAt W p 0 52 V1 noQ) => bits_any h (fun i hi => by simp [noQ]))
            rw [bits_none (Q := noQ) (top_none (fun j hj => rfl))] at HBt
            have g1 : ¬ (j : Int) < k := by omega
            clear e0 HQl hjk hj
            go_wp2_with (first
              | (go_at_call 18; (with_reducible refine HF.out.mono ?_); rintro e w3 ⟨rfl, hO⟩; have HG4 := Lib.hid (HG.out.quiet hO); clear hO)
              | (go_at_call 9; (with_reducible refine (HBt.out _ HG4.out.mine.at_).mono ?_); rintro e w5 ⟨rfl, hO⟩; have HG5 := Lib.hid (HG4.out.quiet hO); clear hO))
            go_ret
            exact ⟨rfl, HG5.out.mine.only.below (Nat.le_refl _) (fun _ h => h.elim)⟩
end Go.Proofs.Ytcnmpgkapedniaa.Pr
