/- The walk of ringlaw1.WrapRings. -/
import Derived.Test.YtjeifpjjnfaefaaSay1
import Derived.Deep.AppendLies
import Derived.Lib.MinMax
namespace Go.Proofs.Ytjeifpjjnfaefaa
open Go.ChangeShapes Go.WideShapes Go.ChangeAt Go.RowKit
set_option linter.unusedVariables false

/-- The first Put, onto the ring that the law makes for a trial. -/
theorem first_put {B px : Nat} {w1 : World} (h : RingAt (fun _ => False) B w1 px (.slice none 0 0) 1 5 []) (hB : B ≤ w1.heap.size) :
    Calls Try.prog 16 #[.pointer (some ⟨px, 0, none⟩), .slice (some ⟨w1.heap.size, 0, none⟩) 1 1] (w1.alloc (.cells #[.int .u8 7] 5)) fun e w' => e = .returned (.tuple #[.int .u32 5, .int .i64 0]) ∧ Below B w1 w' := by
  have hA : Below w1.heap.size w1 (w1.alloc (.cells #[.int .u8 7] 5)) := (Below.refl _ _).alloc (Nat.le_refl _) _
  have hr := h.later hA
  have hby : Bytes (w1.alloc (.cells #[.int .u8 7] 5)) (.slice (some ⟨w1.heap.size, 0, none⟩) 1 1) [7] := by
    refine ⟨some ⟨w1.heap.size, 0, none⟩, 1, rfl, (fun e => by cases e), fun _ => ⟨_, 0, rfl, by simp, fun j hj => ?_⟩⟩
    have : j = 0 := by simpa using hj
    subst this
    rw [cell_at (heap_alloc_new w1 _)]; rfl
  refine (put_any _ B px _ _ 1 5 [] [7] _ hr hby (by simp) (by omega) (by omega) (by simp) (by omega) (Nat.le_trans hB hA.size)).mono ?_
  rintro e w' ⟨rfl, V', hr', hO, hV⟩
  exact ⟨rfl, (hA.mono hB).trans (only_below hr hO)⟩

/-- What is left of the list from a place on, as the law cuts it. -/
theorem rest_near {B p size L kc j : Nat} {next : Int} {ka : Option Addr} {gs : List (List Int)} {w0 w : World} (h : Both B w0 w p size next (.slice ka L kc) gs) (hb : Below w0.heap.size w0 w) (hL : L = gs.length) (hj : j ≤ L) (hc : L ≤ kc) (c' : Nat) (hne : kc ≠ j) :
    ReadRows w (.slice (Option.map (fun x => x.add j) ka) (L - j) c') (gs.drop j) := by
  subst hL
  obtain ⟨a, c, e, _, _, hsh⟩ := h.shape
  cases e
  rcases hsh with ⟨rfl, _, h0⟩ | ⟨g, rfl⟩
  · have e : gs = [] := List.eq_nil_of_length_eq_zero h0
    subst e
    refine ⟨none, c', by simp, fun i hi => by simp at hi⟩
  · have := h.rest hb j hj hc c'
    rw [if_neg hne] at this
    simp only [Option.map]
    rw [add_plain, Nat.zero_add]
    exact this

theorem rest_far {L kc j : Nat} {ka : Option Addr} {gs : List (List Int)} {w : World} (hL : L = gs.length) (hj : j ≤ L) (hc : L ≤ kc) (c' : Nat) (he : kc = j) :
    ReadRows w (.slice ka (L - j) c') (gs.drop j) := by
  have e : gs.drop j = [] := List.drop_of_length_le (by omega)
  rw [e]
  exact ⟨ka, c', by simp; omega, fun i hi => by simp at hi⟩

set_option maxRecDepth 100000 in
set_option maxHeartbeats 4000000 in
theorem says_walk (sz na : Int) (a2 : Option Addr) (len2 cap2 : Nat) (recs : List (List Int)) (n : Int) (w : World) (hrows : ArgRows w a2 len2 cap2 recs) (ha : 0 ≤ na ∧ na < 4294967296) (hn : 0 ≤ n ∧ n < 4294967296) (hlen : recs.length ≤ 1048576) :
    Calls Try.prog 4 #[.int .i64 sz, .int .u32 na, .slice a2 len2 cap2, .int .u32 n] w fun e w' => e = .returned (.bool true) ∧ Below w.heap.size w w' := by
  obtain ⟨rfl, hlc, hcm, hn3, hr⟩ := hrows
  have HRR := Lib.hid hr
  have NX := Lib.hid (show Calls Try.prog 15 #[.int .i64 1, .int .u32 5] w (NewAnswer 1 5 w) from new_any 1 5 (by omega) (by omega) w)
  clear hr
  by_cases hbad : sz < 1 ∨ 64 < sz
  · have NB := Lib.hid (new_bad sz na hbad)
    rcases hbad with hbad | hbad
    · go_enter Try.func4, Try.ntmps4
      go_wp2_with fail
      (with_reducible refine NX.out.mono ?_); rintro e w1 ⟨px, rfl, hx, hb1, -⟩
      have PX := Lib.hid (first_put hx hb1.size)
      have HB1 := Lib.hid hb1
      clear hx hb1 NX
      go_wp2_with fail
      (with_reducible refine PX.out.mono ?_); rintro e w2 ⟨rfl, hb2⟩
      have HB2 := Lib.hid (HB1.out.trans hb2)
      clear hb2 PX HB1
      go_wp2_with fail
      (with_reducible refine (NB.out _).mono ?_); rintro e w3 ⟨rfl, rfl⟩
      go_wp2_with fail
      go_ret
      exact ⟨rfl, HB2.out⟩
    · have hn1 : 1 ≤ sz := by omega
      go_enter Try.func4, Try.ntmps4
      go_wp2_with fail
      (with_reducible refine NX.out.mono ?_); rintro e w1 ⟨px, rfl, hx, hb1, -⟩
      have PX := Lib.hid (first_put hx hb1.size)
      have HB1 := Lib.hid hb1
      clear hx hb1 NX
      go_wp2_with fail
      (with_reducible refine PX.out.mono ?_); rintro e w2 ⟨rfl, hb2⟩
      have HB2 := Lib.hid (HB1.out.trans hb2)
      clear hb2 PX HB1
      go_wp2_with fail
      (with_reducible refine (NB.out _).mono ?_); rintro e w3 ⟨rfl, rfl⟩
      go_wp2_with fail
      go_ret
      exact ⟨rfl, HB2.out⟩
  · obtain ⟨s, rfl⟩ : ∃ s : Nat, sz = s := ⟨sz.toNat, by omega⟩
    have hs1 : 1 ≤ s := by omega
    have hs2 : s ≤ 64 := by omega
    have hs3 : (1 : Int) ≤ s := by omega
    have hs4 : (s : Int) ≤ 64 := by omega
    have NY := Lib.hid (fun w => new_any s na hs1 hs2 w)
    obtain ⟨i0, hi, hz0, hz1, hz2⟩ := info_parts Try.info35
    clear hbad
    unfold maxLen at hcm
    go_enter Try.func4, Try.ntmps4
    go_wp2_with fail
    (with_reducible refine NX.out.mono ?_); rintro e w1 ⟨px, rfl, hx, hb1, -⟩
    have PX := Lib.hid (first_put hx hb1.size)
    have HB1 := Lib.hid hb1
    clear hx hb1 NX
    go_wp2_with fail
    (with_reducible refine PX.out.mono ?_); rintro e w2 ⟨rfl, hb2⟩
    have HB2 := Lib.hid (HB1.out.trans hb2)
    clear hb2 PX HB1
    go_wp2_with fail
    (with_reducible refine (NY.out _).mono ?_); rintro e w3 ⟨p, rfl, hx, hb3, -⟩
    have HB := Lib.hid (HB2.out.trans (hb3.mono HB2.out.size))
    have HBO := Lib.hid (show Both w.heap.size w w3 p s na (.slice none 0 0) [] from ⟨⟨_, (show RingAt _ w.heap.size w3 p _ s na (lastN s []) from by
      obtain ⟨vals, hv, ho, hr⟩ := hx.there.rows
      rw [show lastN s ([] : List (List Int)) = [] by simp [lastN]]
      exact ⟨Nat.le_trans HB2.out.size hx.low, hx.self, vals, hv, owns_base ho HB2.out.size, fun j hj => by cases hj⟩), fun g hg => by cases hg⟩, [], rfl, World.ownsRow_nil _ _ _ _, fun j hj => by cases hj⟩)
    clear hx hb3 NY HB2
    go_wp2_with fail
    go_loopw [15, 79] (fun v i wr => ∃ k : Nat, k ≤ recs.length ∧ i = .int .i64 k ∧ Both w.heap.size w wr p s ((na + (good recs k).length) % 4294967296) v (good recs k) ∧ Below w.heap.size w wr) (fun _ i _ => recs.length - (intOf i).toNat)
    case atStart => exact ⟨0, Nat.zero_le _, rfl, by have e1 : (na + ((0 : Nat) : Int)) % 4294967296 = na := by omega
                                                     have e2 : good recs 0 = [] := by simp [good]
                                                     rw [e2, List.length_nil, e1]; exact HBO.out, HB.out⟩
    case round =>
      obtain ⟨k, hk, rfl, hbo, hb⟩ := hrel
      have hgl := good_length recs k
      by_cases hlt : k < recs.length
      · obtain ⟨b, off, v0, rfl, hbl, hcell0, av, C, rfl, hLC, hCm, hby0, hwf⟩ := HRR.out k (by omega)
        have hcell : wr.cell? ⟨b, off + k, none⟩ = some (.slice av (recs.getD k []).length C) := by rw [hb.cell (p := ⟨b, off + k, none⟩) hbl]; exact hcell0
        have hbyw := hby0.later hb
        have HRC := Lib.hid (show RecAt w (.slice av (recs.getD k []).length C) (recs.getD k []) from ⟨av, C, rfl, hLC, hCm, hby0, hwf⟩)
        have HY := Lib.hid (good_yes recs k hlt)
        have HN := Lib.hid (good_no recs k hlt)
        unfold maxLen at hCm
        clear hcell0 hby0 hwf
        generalize recs.getD k [] = xs at *
        by_cases hbig : 32 < xs.length
        · have PL := Lib.hid (put_large ⟨p, 0, none⟩ _ xs wr hbyw hbig (by omega))
          have HBR := Lib.hid hb
          have HB0 := Lib.hid hbo
          have hbig2 : (32 : Int) < xs.length := by omega
          clear hbyw hb hbo
          go_wp2_with fail
          (with_reducible refine PL.out.mono ?_); rintro e w4 ⟨rfl, rfl⟩
          clear PL hcell
          go_wp2_with fail
          go_roundw
          case rel => exact ⟨k + 1, by omega, by go_num, by rw [HN.out hbig]; exact HB0.out, HBR.out⟩
          case measure => simp [intOf]; omega
        · obtain ⟨ka, kc, rfl, _⟩ := hbo.shape
          have HNX := Lib.hid (HY.out (by omega))
          have hsm : (xs.length : Int) ≤ 32 := by omega
          generalize good recs k = gs at *
          obtain ⟨nx, hnx⟩ : ∃ nx, nx = (na + (gs.length : Int)) % 4294967296 := ⟨_, rfl⟩
          rw [← hnx] at hbo
          have PB := Lib.hid (both_put hbo hbyw (by omega) hs1 hs2 (by omega))
          have HBR := Lib.hid hb
          have HS := Lib.hid hb.size
          have hne : (nx != (na + (gs.length : Int)) % 4294967296) = false := by simp [hnx]
          have HN1 := Lib.hid (show (nx + 1) % 4294967296 = (na + ((gs.length + 1 : Nat) : Int)) % 4294967296 by omega)
          clear hbyw hb hbo hnx
          go_wp2_with fail
          (with_reducible refine PB.out.mono ?_); rintro e w4 ⟨rfl, ⟨hri, vals, hvl, hown, hrec⟩, hb4⟩
          have HRI := Lib.hid hri
          have HVL := Lib.hid hvl
          have HOW := Lib.hid hown
          have HREC := Lib.hid hrec
          have HB4 := Lib.hid (HBR.out.trans hb4)
          have C1 := Lib.hid (show ∀ u ∈ ([.slice av xs.length C] : List Value), u.oneCell' = true by simp [Value.oneCell'])
          have C2 := Lib.hid (show gs.length + 1 ≤ maxLen by unfold maxLen; omega)
          have C3 := Lib.hid (show (gs.length + 1) * 24 ≤ 140737488355328 by omega)
          have C4 := Lib.hid (show w.heap.size ≤ (w4.alloc (.cells #[.slice av xs.length C] 35)).heap.size by have := HB4.out.size; simp; omega)
          clear hri hvl hown hrec hb4 PB hcell
          go_upto_region 22 with fail
          generalize Value.slice ka gs.length kc = V at HRI HOW ⊢
          go_wp2_with (at_builtin; go_must (refine wpList_append_lies _ rfl _ _ 30 rfl w.heap.size 35 i0 (.slice none 0 0) 1 24 Try.underlying30 hi hz0 hz1 hz2 rfl (by decide) _ gs.length vals rfl (HOW.out.alloc _) ⟨w4.heap.size, 0, none⟩ 1 1 [.slice av xs.length C] rfl rfl (World.news_of_block (cs := #[.slice av xs.length C]) (t := 35) (fr := (0, 0)) (heap_alloc_new w4 _)) ?_ Nat.one_pos ?_ ?_ ?_ _ rfl ?_); (go_must (exact C1.out)); (go_must (exact C2.out)); (go_must (exact C3.out)); (go_must (exact C4.out)); go_must (intro g cap3 w5 hown5 hgrow hat _); go_must (have HF := Lib.hid (behind_append HRI.out HVL.out HOW.out HREC.out HRC.out rfl hown5 hgrow hat)); clear hown5 hgrow hat)
          go_roundw
          case rel => exact ⟨k + 1, by omega, by go_num, by rw [HNX.out]; simp only [List.length_append, List.length_singleton]; rw [← HN1.out]; exact HF.out.1, HB4.out.trans HF.out.2⟩
          case measure => simp [intOf]; omega
      · obtain rfl : k = recs.length := by omega
        have hsh0 := good_short recs recs.length
        clear HRR hlt hk
        generalize good recs recs.length = gs at *
        obtain ⟨L, hL⟩ : ∃ L, L = gs.length := ⟨_, rfl⟩
        obtain ⟨gone, hgone⟩ : ∃ gone, gone = L - s := ⟨_, rfl⟩
        obtain ⟨nx, hnx⟩ : ∃ nx, nx = (na + (gs.length : Int)) % 4294967296 := ⟨_, rfl⟩
        rw [← hnx] at hbo
        have hm : min gs.length s = L - gone := by omega
        have hmax : max 0 ((L : Int) - (s : Int)) = (gone : Int) := by omega
        obtain ⟨lo, hlo⟩ : ∃ lo, lo = (na + (gone : Int)) % 4294967296 := ⟨_, rfl⟩
        have hlo2 : lo = oldest nx (min gs.length s) := by unfold oldest; omega
        have ne1 : (lo != (na + (gone : Int)) % 4294967296) = false := by simp [hlo]
        have ne2 : (nx != (na + (L : Int)) % 4294967296) = false := by simp [hnx, hL]
        have SP := Lib.hid (both_span hbo (by omega) hs2 hlo2)
        have hL2 : L ≤ 1048576 := by omega
        have hnx' : 0 ≤ nx ∧ nx < 4294967296 := by omega
        have KN := Lib.hid (fun (v : Value) (w' : World) (h : Both w.heap.size w w' p s nx v gs) (k : Nat) (hk : k < gone) => both_get_none h hnx' hs2 ((na + (k : Int)) % 4294967296) (by rw [hm]; unfold placeOf; omega))
        have KS := Lib.hid (fun (v : Value) (w' : World) (h : Both w.heap.size w w' p s nx v gs) (k : Nat) (hk : gone ≤ k) (hk2 : k < L) => both_get_some (xs := gs.getD k []) h hnx' hs2 ((na + (k : Int)) % 4294967296) (k - gone) (by omega) (by rw [hm]; unfold placeOf; omega)
          (by unfold lastN; rw [← hL, ← hgone]; simp [List.getD, show gone + (k - gone) = k by omega]) (hsh0 _ (by simp [List.getD, List.getElem?_eq_getElem (show k < gs.length by omega)])))
        obtain ⟨kk, hkk⟩ : ∃ kk, kk = placeOf nx (min gs.length s) n := ⟨_, rfl⟩
        have hk1 : (n - lo) % 4294967296 = kk := by rw [hkk, hm]; unfold placeOf; omega
        have hk2 : 0 ≤ kk ∧ kk < 4294967296 := by omega
        have FN := Lib.hid (fun (v : Value) (w' : World) (h : Both w.heap.size w w' p s nx v gs) (hk : (L : Int) - gone < kk) => both_from_none h hnx' hs2 n (by rw [← hkk, hm]; omega))
        have GN := Lib.hid (fun (v : Value) (w' : World) (h : Both w.heap.size w w' p s nx v gs) (hk : (L : Int) - gone < kk) => both_get_none h hnx' hs2 n (by rw [← hkk, hm]; omega))
        have HFS := Lib.hid (fun (v : Value) (w' : World) (h : Both w.heap.size w w' p s nx v gs) (j : Nat) (hk : kk = j) (hj : j + gone ≤ L) => both_from_some h hnx' hs2 n j (by omega) (by rw [← hkk]; exact hk) hsh0)
        have DR := Lib.hid (fun j : Nat => show (lastN s gs).drop j = gs.drop (gone + j) by unfold lastN; rw [← hL, ← hgone, List.drop_drop])
        obtain ⟨ka, kc, hv, hLc, hcm2, hsh⟩ := hbo.shape
        rw [← hL] at hv hLc hsh
        subst hv
        have HB0 := Lib.hid (fun kd => hbo.later (drewN_below (Below.refl wr.heap.size wr) kd))
        have HBR := Lib.hid hb
        have HL := Lib.hid hL
        have HK1 := Lib.hid hk1
        have hgo2 : (gone : Int) ≤ L := by omega
        have hlo3 : 0 ≤ lo ∧ lo < 4294967296 := by omega
        unfold maxLen at hcm2
        clear hbo hb hgone hnx hlo hlo2 hm hgl hkk hk1 hsh0 hL
        go_wp2_with fail
        (with_reducible refine SP.out.mono ?_); rintro e w4 ⟨rfl, kd, rfl⟩
        have HB1 := Lib.hid (HB0.out kd)
        clear SP HB0
        go_wp2_with fail
        clear ne1 ne2 hmax
        go_loopw [141] (fun i wx => ∃ k : Nat, k ≤ L ∧ i = .int .i64 k ∧ Both w.heap.size w wx p s nx (.slice ka L kc) gs ∧ Below w.heap.size w wx) (fun i _ => L - (intOf i).toNat)
        case atStart => exact ⟨0, Nat.zero_le _, rfl, HB1.out, drewN_below HBR.out _⟩
        case round =>
          obtain ⟨k, hk, rfl, hbo, hb⟩ := hrel
          by_cases hlt : k < L
          · rcases hsh with ⟨_, _, h0⟩ | ⟨g, rfl⟩
            · omega
            · have hrc := hbo
              rw [HL.out] at hrc
              obtain ⟨u, hcell, av, C, rfl, hLC, hCm, hby, -⟩ := hrc.record k (by rw [← HL.out]; exact hlt)
              have HBY := Lib.hid (hby.later hb)
              have HLA := Lib.hid (fun w' (h : Below wr.heap.size wr w') => (⟨hbo.later h, hb.trans (h.mono hb.size)⟩ : Both w.heap.size w w' p s nx _ gs ∧ Below w.heap.size w w'))
              unfold maxLen at hCm
              by_cases hkg : k < gone
              · have GK := Lib.hid (KN.out _ _ hbo k hkg)
                have hkg2 : (k : Int) < gone := by omega
                clear hrc hby hbo hb
                go_wp2_with fail
                (with_reducible refine GK.out.mono ?_); rintro e w5 ⟨rfl, hb5⟩
                have HF := Lib.hid (HLA.out _ hb5)
                clear hb5 GK HLA hcell
                go_wp2_with fail
                go_roundw
                case rel => exact ⟨k + 1, by omega, by go_num, HF.out.1, HF.out.2⟩
                case measure => simp [intOf]; omega
              · have GK := Lib.hid (KS.out _ _ hbo k (by omega) hlt)
                have hkg2 : (gone : Int) ≤ k := by omega
                have EQ := Lib.hid (fun w' (h : Below wr.heap.size wr w') v (h2 : Bytes w' v (gs.getD k [])) => equal_same v (.slice av (gs.getD k []).length C) _ w' h2 (hby.later (hb.trans (h.mono hb.size))))
                clear hrc hby hbo hb
                generalize gs.getD k [] = xs at *
                go_wp2_with fail
                (with_reducible refine GK.out.mono ?_); rintro e w5 ⟨a5, c5, rfl, hby5, hb5⟩
                have HF := Lib.hid (HLA.out _ hb5)
                have EQ5 := Lib.hid (EQ.out _ hb5 _ hby5)
                clear hb5 GK HLA hcell hby5 EQ
                go_wp2_with (go_at_call 19; go_must (refine EQ5.out.mono ?_); rintro e w6 ⟨rfl, rfl⟩)
                go_roundw
                case rel => exact ⟨k + 1, by omega, by go_num, HF.out.1, HF.out.2⟩
                case measure => simp [intOf]; omega
          · have HL2 := HL.out
            have hk1 := HK1.out
            have HBB := Lib.hid hb
            have HLA := Lib.hid (fun w' (h : Below wr.heap.size wr w') => (⟨hbo.later h, hb.trans (h.mono hb.size)⟩ : Both w.heap.size w w' p s nx _ gs ∧ Below w.heap.size w w'))
            by_cases hbig : (L : Int) - gone < kk
            · have F1 := Lib.hid (FN.out _ _ hbo hbig)
              have G1 := Lib.hid (fun w' (h : Both w.heap.size w w' p s nx (.slice ka L kc) gs) => GN.out _ w' h hbig)
              clear hbo hb HL2
              go_wp2_with fail
              (with_reducible refine F1.out.mono ?_); rintro e w5 ⟨rfl, hb5⟩
              have H5 := Lib.hid (HLA.out _ hb5)
              have G5 := Lib.hid (G1.out _ H5.out.1)
              clear hb5 F1 G1 HLA
              go_wp2_with fail
              (with_reducible refine G5.out.mono ?_); rintro e w6 ⟨rfl, hb6⟩
              have H6 := Lib.hid (H5.out.2.trans (hb6.mono H5.out.2.size))
              clear hb6 G5 H5
              go_wp2_with fail
              go_ret
              exact ⟨rfl, H6.out⟩
            · obtain ⟨j, rfl⟩ : ∃ j : Nat, kk = j := ⟨kk.toNat, by omega⟩
              have hjg : j + gone ≤ L := by omega
              have F1 := Lib.hid (HFS.out _ _ hbo j rfl hjg)
              have hsm : ¬ (L : Int) - gone < j := by omega
              clear hbo hb HL2
              go_wp2_with fail
              (with_reducible refine F1.out.mono ?_); rintro e w5 ⟨u, rfl, hrr, hb5⟩
              have H5 := Lib.hid (HLA.out _ hb5)
              have HRR := Lib.hid hrr
              clear hb5 F1 HLA hrr
              have hjl : (gs.drop (gone + j)).length ≤ 9223372036854775807 := by have := HL.out; simp; omega
              have RN := Lib.hid (rest_near H5.out.1 H5.out.2 HL.out (j := gone + j) (by omega) hLc)
              have RF := Lib.hid (rest_far (ka := ka) (kc := kc) (gs := gs) (w := w5) HL.out (j := gone + j) (by omega) hLc)
              have EQ := Lib.hid (fun V V' h h' => equal_rows V V' (gs.drop (gone + j)) w5 h h' hjl)
              have HU := Lib.hid (show ReadRows w5 u (gs.drop (gone + j)) by rw [← DR.out]; exact HRR.out)
              clear hjl
              go_wp2_with fail
              · refine (EQ.out _ _ HU.out (RF.out _ (by assumption))).mono ?_; rintro e w6 ⟨rfl, rfl⟩
                go_wp2_with fail
                go_ret
                exact ⟨rfl, H5.out.2⟩
              · refine (EQ.out _ _ HU.out (RN.out _ (by assumption))).mono ?_; rintro e w6 ⟨rfl, rfl⟩
                go_wp2_with fail
                go_ret
                exact ⟨rfl, H5.out.2⟩
end Go.Proofs.Ytjeifpjjnfaefaa
