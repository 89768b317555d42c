/- The walk of ringkeep1.WrapOwn: what a ring is handed it does not keep, what it tells is a copy. -/
import Derived.Test.YtjeifpjjnfaefaaSpoil
import Derived.Test.YtjeifpjjnfaefaaTwo
namespace Go.Proofs.Ytjeifpjjnfaefaa
open Go.ChangeShapes Go.WideShapes Go.ChangeAt Go.RowKit
set_option linter.unusedVariables false

/-- A ring of eight records at the most. -/
def Ring8 (B : Nat) (w : World) (p : Nat) (next : Int) (recs : List (List Int)) : Prop := ∃ V, RingAt (· < w.heap.size) B w p V 8 next recs

/-- A ring, and a slice of bytes that it has no part in. -/
def Guarded (B : Nat) (w : World) (p : Nat) (next : Int) (recs : List (List Int)) (v : Value) : Prop :=
  OwnBuf w B v ∧ ∃ V M, RingAt M B w p V 8 next recs ∧ ∀ g, v.ownBlock = some g → B ≤ g ∧ g ≠ p ∧ V.ownBlock ≠ some g ∧ ¬ M g

theorem OwnBuf.base {w : World} {b b' : Nat} {v : Value} (h : OwnBuf w b v) (hb : b' ≤ b) : OwnBuf w b' v := by
  rcases h with rfl | ⟨g, n, c, cur, rfl, h1, r⟩
  · exact Or.inl rfl
  · exact Or.inr ⟨g, n, c, cur, rfl, by omega, r⟩

section
variable {B p : Nat} {next : Int} {recs : List (List Int)} {xs : List Int} {v : Value} {w0 w1 w : World}

theorem put_own (h : Ring8 B w0 p next recs) (hb : Below w0.heap.size w0 w1) (hv : OwnBytes w1 w0.heap.size v xs) (hx : xs.length ≤ 32) (hl : recs.length < 8) (hn : 0 ≤ next ∧ next < 4294967296) :
    Calls Try.prog 16 #[.pointer (some ⟨p, 0, none⟩), v] w1 fun e w2 => e = .returned (.tuple #[.int .u32 next, .int .i64 0]) ∧ OwnBytes w2 B v xs ∧ Guarded B w2 p ((next + 1) % 4294967296) (recs ++ [xs]) v ∧ Below B w1 w2 := by
  obtain ⟨V, hr⟩ := h
  have hr1 := hr.later hb
  have hBw : B ≤ w0.heap.size := Nat.le_trans hr.low (Nat.le_of_lt hr.lt)
  refine (put_any _ B p V v 8 next recs xs w1 hr1 hv.bytes hx (by omega) (by omega) (by omega) hn (Nat.le_trans hBw hb.size)).mono ?_
  rintro e w2 ⟨rfl, V', hr2, hO, hV⟩
  have hp : pushed 8 recs xs = recs ++ [xs] := if_neg (by omega)
  rw [hp] at hr2
  have hvb : ∀ g, v.ownBlock = some g → w0.heap.size ≤ g ∧ g < w1.heap.size := fun g hg => hv.lt g hg
  have hVl : ∀ g, V.ownBlock = some g → g < w0.heap.size := fun g hg => (own_lt hr g hg).2
  have hpl := hr.lt
  have hv2 : OwnBytes w2 w0.heap.size v xs := owns_kept hv hO (fun g hg e => by
    have h1 := hvb g hg
    rcases e with rfl | e
    · omega
    · have := hVl g e; omega)
  refine ⟨rfl, owns_base hv2 hBw, ⟨OwnBytes.buf (xs := xs) (owns_base hv2 hBw), V', _, hr2, fun g hg => ?_⟩, only_below hr1 hO⟩
  have h1 := hvb g hg
  refine ⟨by omega, by omega, fun e => ?_, by omega⟩
  rcases hV g e with h2 | h2
  · have := hVl g h2; omega
  · omega

theorem Guarded.spoilt (h : Guarded B w p next recs v) (x : Int) :
    Calls Try.prog 25 #[v, .int .u8 x] w fun e w' => e = .returned (.tuple #[]) ∧ Ring8 B w' p next recs ∧ Below B w w' := by
  obtain ⟨hb, V, M, hr, hg⟩ := h
  refine (spoil_any B v x w hb).mono ?_
  rintro e w' ⟨rfl, hO, _⟩
  refine ⟨rfl, ⟨V, (hr.kept hO (fun e => (hg p e).2.1 rfl) (fun k hk e => (hg k e).2.2.1 hk) (fun k hk e => (hg k e).2.2.2 hk)).there⟩, hO.below (Nat.le_trans hr.low (Nat.le_of_lt hr.lt)) (fun k hk => (hg k hk).1)⟩

theorem get_own (h : Ring8 B w p next recs) (hl : recs.length ≤ 1000) (hn : 0 ≤ next ∧ next < 4294967296) (j : Nat) (hj : j < recs.length) (n : Int) (hp : placeOf next recs.length n = j) (hxs : recs.getD j [] = xs) (hx : xs.length ≤ 32) :
    Calls Try.prog 18 #[.pointer (some ⟨p, 0, none⟩), .int .u32 n] w fun e w' => ∃ a c, e = .returned (.tuple #[.slice a xs.length c, .int .i64 0]) ∧ Bytes w' (.slice a xs.length c) xs ∧ Guarded B w' p next recs (.slice a xs.length c) ∧ Below B w w' := by
  obtain ⟨V, hr⟩ := h
  have hBw : B ≤ w.heap.size := Nat.le_trans hr.low (Nat.le_of_lt hr.lt)
  refine (get_some _ B p V 8 next n recs j w hr hl hn hj hp (by rw [hxs]; omega)).mono ?_
  rintro e w' ⟨v, rfl, ho, hb⟩
  rw [hxs] at ho
  obtain ⟨a, c, rfl⟩ := slice_of_bytes ho
  refine ⟨a, c, rfl, ho.bytes, ⟨OwnBytes.buf (xs := xs) (owns_base ho hBw), V, _, hr.later hb, fun g hg => ?_⟩, hb.mono hBw⟩
  have h1 := (ho.lt g hg).1
  have h2 := hr.lt
  exact ⟨by omega, by omega, fun e => by have := (own_lt hr g e).2; omega, by omega⟩

/-- A ring, and rows of bytes that it has no part in. -/
def RowsGuard (B : Nat) (w : World) (p : Nat) (next : Int) (recs : List (List Int)) (L : Nat) (v : Value) : Prop :=
  ∃ H V, RingAt (· < H) B w p V 8 next recs ∧ B ≤ H ∧ p < H ∧ (∀ g, V.ownBlock = some g → g < H) ∧ ∃ vals : List Value, vals.length = L ∧ w.ownsRow H 35 1 v L vals ∧ ∀ j, j < L → OwnBuf w H (vals.getD j (.slice none 0 0))

theorem from_own (h : Ring8 B w p next recs) (hl : recs.length ≤ 1000) (hn : 0 ≤ next ∧ next < 4294967296) (o : Int) (ho : o = oldest next recs.length) (hs : ∀ xs ∈ recs, xs.length ≤ 32) (hne : recs ≠ []) :
    Calls Try.prog 20 #[.pointer (some ⟨p, 0, none⟩), .int .u32 o] w fun e w' => ∃ g c, e = .returned (.tuple #[.slice (some ⟨g, 0, none⟩) recs.length c, .int .i64 0]) ∧ RowsAt w' B (.slice (some ⟨g, 0, none⟩) recs.length c) recs ∧
      RowsGuard B w' p next recs recs.length (.slice (some ⟨g, 0, none⟩) recs.length c) ∧ Below B w w' := by
  obtain ⟨V, hR⟩ := h
  have hBw : B ≤ w.heap.size := Nat.le_trans hR.low (Nat.le_of_lt hR.lt)
  have h0 : placeOf next recs.length o = 0 := by subst ho; unfold placeOf oldest; omega
  have fin : Calls Try.prog 20 #[.pointer (some ⟨p, 0, none⟩), .int .u32 o] w (FromAnswer recs w) := by
    obtain ⟨vals, hv, hown, hrr⟩ := hR.rows
    rcases hown.2 with ⟨rfl, hz⟩ | ⟨g, c, cur, rfl, _⟩
    · exact absurd (List.eq_nil_of_length_eq_zero hz) hne
    · have := from_some _ B p g c 8 next o recs 0 w hR hl hn (Nat.zero_le _) h0 (fun xs h => by have := hs xs h; omega)
      simpa using this
  refine fin.mono ?_
  rintro e w' ⟨v, rfl, ⟨vals, hv, ho2, hr⟩, hb⟩
  rcases ho2.2 with ⟨rfl, hz⟩ | ⟨g, c, cur, rfl, _⟩
  · exact absurd (List.eq_nil_of_length_eq_zero hz) hne
  · exact ⟨g, c, rfl, ⟨vals, hv, owns_base ho2 hBw, fun j hj => owns_base (hr j hj) hBw⟩, ⟨w.heap.size, V, hR.later hb, hBw, hR.lt, fun g hg => (own_lt hR g hg).2, vals, hv, ho2, fun j hj => (hr j hj).buf⟩, hb.mono hBw⟩

theorem RowsGuard.spoilt {L g c : Nat} (h : RowsGuard B w p next recs L (.slice (some ⟨g, 0, none⟩) L c)) (j : Nat) (hj : j < L) (x : Int) :
    ∃ u, w.cell? ⟨g, j, none⟩ = some u ∧ Calls Try.prog 25 #[u, .int .u8 x] w fun e w' => e = .returned (.tuple #[]) ∧ RowsGuard B w' p next recs L (.slice (some ⟨g, 0, none⟩) L c) ∧ Below B w w' := by
  obtain ⟨H, V, hr, hBH, hpH, hVH, vals, hv, ho, hb⟩ := h
  have hu := hb j hj
  refine ⟨vals.getD j (.slice none 0 0), ?_, (spoil_any H _ x w hu).mono ?_⟩
  · rw [ho.cellAt j (by omega)]
    simp [List.getD, List.getElem?_eq_getElem (show j < vals.length by omega)]
  · rintro e w' ⟨rfl, hs⟩
    have hblk : ∀ k, (vals.getD j (.slice none 0 0)).ownBlock = some k → H ≤ k ∧ ∃ cur, w.heap[k]? = some (.cells cur 5 (0, 0)) := by
      intro k hk
      rcases hu with e | ⟨g', n, c', cur, e, h1, h2, _⟩
      · rw [e] at hk; cases hk
      · rw [e] at hk; cases hk; exact ⟨h1, cur, h2⟩
    refine ⟨rfl, ⟨H, V, hr.kept hs.1 (fun e => by have := (hblk p e).1; omega) (fun k hk e => by have := (hblk k e).1; have := hVH k hk; omega) (fun k hk e => by have := (hblk k e).1; omega), hBH, hpH, hVH, vals, hv,
      owns_kept ho hs.1 (fun k hk e => ?_), fun i hi => (hb i hi).spoilt hs⟩, hs.1.below (Nat.le_trans hr.low (Nat.le_of_lt hr.lt)) (fun k hk => by have := (hblk k hk).1; omega)⟩
    obtain ⟨cur, hc⟩ := owns_type ho hk
    obtain ⟨_, cur2, hc2⟩ := hblk k e
    rw [hc] at hc2; cases hc2

theorem RowsGuard.ring {L : Nat} (h : RowsGuard B w p next recs L v) : Ring8 B w p next recs := by
  obtain ⟨H, V, hr, _⟩ := h
  exact ⟨V, hr.there⟩
end

theorem guarded_ring {B p : Nat} {next : Int} {recs : List (List Int)} {v : Value} {w : World} (h : Guarded B w p next recs v) : Ring8 B w p next recs := by
  obtain ⟨_, V, M, hr, _⟩ := h
  exact ⟨V, hr.there⟩

/-- What is known behind the first Clone. -/
def Own1 (L : Nat) (xs : List Int) (w0 : World) (e : Ending) (w1 : World) : Prop :=
  ∃ a c, e = .returned (.slice a L c) ∧ OwnBytes w1 w0.heap.size (.slice a L c) xs ∧ Below w0.heap.size w0 w1

theorem own_cloned {L : Nat} {xs : List Int} {w0 w1 : World} {e : Ending} (hL : xs.length = L) (h : BytesAnswer xs w0 e w1) : Own1 L xs w0 e w1 := by
  obtain ⟨v, rfl, ho, hb⟩ := h
  obtain ⟨a, c, rfl⟩ := slice_of_bytes ho
  subst hL
  exact ⟨a, c, rfl, ho, hb⟩

/-- What is known behind a Get. -/
def Own2 (B p : Nat) (next : Int) (recs : List (List Int)) (L : Nat) (xs : List Int) (w : World) (e : Ending) (w' : World) : Prop :=
  ∃ a c, e = .returned (.tuple #[.slice a L c, .int .i64 0]) ∧ Bytes w' (.slice a L c) xs ∧ Guarded B w' p next recs (.slice a L c) ∧ Below B w w'

/-- What is known behind a From. -/
def Own3 (B p : Nat) (next : Int) (recs : List (List Int)) (L : Nat) (w : World) (e : Ending) (w' : World) : Prop :=
  ∃ g c, e = .returned (.tuple #[.slice (some ⟨g, 0, none⟩) L c, .int .i64 0]) ∧ RowsAt w' B (.slice (some ⟨g, 0, none⟩) L c) recs ∧ RowsGuard B w' p next recs L (.slice (some ⟨g, 0, none⟩) L c) ∧ Below B w w'

set_option maxRecDepth 100000 in
set_option maxHeartbeats 4000000 in
theorem own_walk (a0 : Option Addr) (len0 cap0 : Nat) (recs : List (List Int)) (na : Int) (w : World) (hrows : ArgRows w a0 len0 cap0 recs) (ha : 0 ≤ na ∧ na < 4294967296) :
    Calls Try.prog 9 #[.slice a0 len0 cap0, .int .u32 na] w fun e w' => e = .returned (.bool true) ∧ Below w.heap.size w w' := by
  obtain ⟨rfl, hlc, hcm, hn3, hr⟩ := hrows
  have HRR := Lib.hid hr
  have hmin : min (recs.length : Int) 8 = ((min recs.length 8 : Nat) : Int) := by omega
  obtain ⟨n, hn⟩ : ∃ n, n = min recs.length 8 := ⟨_, rfl⟩
  rw [← hn] at hmin
  have hn1 : n ≤ recs.length := by omega
  have hn2 : n ≤ 8 := by omega
  have NX := Lib.hid (show Calls Try.prog 15 #[.int .i64 8, .int .u32 na] w (NewAnswer 8 na w) from new_any 8 na (by omega) (by omega) w)
  unfold maxLen at hcm
  clear hn hr
  go_enter Try.func9, Try.ntmps9
  go_wp2_with fail
  (with_reducible refine NX.out.mono ?_); rintro e w1 ⟨px, rfl, hx, hb1, -⟩
  have HX := Lib.hid (show Ring8 w.heap.size w1 px na [] from ⟨_, hx.there⟩)
  have HB1 := Lib.hid hb1
  clear hx hb1 NX
  go_wp2_with fail
  clear hmin hcm
  go_loopw [36] (fun i wr => ∃ k : Nat, k ≤ n ∧ i = .int .i64 k ∧ Ring8 w.heap.size wr px ((na + k) % 4294967296) (cutRecs recs k) ∧ Below w.heap.size w wr) (fun i _ => n - (intOf i).toNat)
  case atStart => exact ⟨0, Nat.zero_le _, rfl, by have e1 : (na + ((0 : Nat) : Int)) % 4294967296 = na := by omega
                                                   rw [e1]; exact HX.out, HB1.out⟩
  case round =>
    obtain ⟨k, hk, rfl, hring, hb⟩ := hrel
    by_cases hlt : k < n
    · obtain ⟨b, off, v, rfl, hbl, hcell0, av, C, rfl, hLC, hCm, hby0, hwf⟩ := HRR.out k (by omega)
      have hcell : wr.cell? ⟨b, off + k, none⟩ = some (.slice av (recs.getD k []).length C) := by rw [hb.cell (p := ⟨b, off + k, none⟩) hbl]; exact hcell0
      have hbyw := hby0.take 32
      have HCR := Lib.hid (cutRecs_snoc recs k (by omega))
      have hcl := cutRecs_length recs k (by omega)
      have hsh := cutRecs_short recs (k + 1)
      have hxl : ((recs.getD k []).take 32).length ≤ 32 := by simp; omega
      unfold maxLen at hCm
      clear hcell0 hby0 hwf
      have hcl2 : ((recs.getD k []).take 32).length = min (recs.getD k []).length 32 := by rw [List.length_take, Nat.min_comm]
      generalize recs.getD k [] = xs at *
      obtain ⟨lc, hlc2⟩ : ∃ lc, lc = min xs.length 32 := ⟨_, rfl⟩
      have hmin2 : min (xs.length : Int) 32 = (lc : Int) := by omega
      rw [← hlc2] at hbyw hcl2
      have hlcC : lc ≤ C := by omega
      have hlcL : lc ≤ xs.length := by omega
      generalize xs.take 32 = ys at *
      rw [HCR.out] at hsh
      generalize cutRecs recs k = cs at *
      obtain ⟨nx, hnx⟩ : ∃ nx, nx = (na + (k : Int)) % 4294967296 := ⟨_, rfl⟩
      rw [← hnx] at hring
      have HNX := Lib.hid (show (nx + 1) % 4294967296 = (na + ((k + 1 : Nat) : Int)) % 4294967296 by omega)
      have hpl : placeOf ((nx + 1) % 4294967296) (cs ++ [ys]).length ((na + (k : Int)) % 4294967296) = (k : Int) := by unfold placeOf; simp [hcl]; omega
      have hol : na = oldest ((nx + 1) % 4294967296) (cs ++ [ys]).length := by unfold oldest; simp [hcl]; omega
      have hgd : (cs ++ [ys]).getD k [] = ys := by rw [← hcl]; simp [List.getD]
      have hL : (cs ++ [ys]).length = k + 1 := by simp [hcl]
      have BY := Lib.hid (fun w' (h : Below w.heap.size w w') => hbyw.later h)
      have HBR := Lib.hid hb
      have HS0 := Lib.hid hb.size
      have hrl : (cs ++ [ys]).length ≤ 1000 := by omega
      have hnn : 0 ≤ (nx + 1) % 4294967296 ∧ (nx + 1) % 4294967296 < 4294967296 := by omega
      have KC := Lib.hid ((clone2_any (.slice av lc C) ys wr (hbyw.later hb) (by omega)).mono (fun e w1 h => own_cloned hcl2 h))
      have KP := Lib.hid (fun w1 v (h1 : Below wr.heap.size wr w1) (h2 : OwnBytes w1 wr.heap.size v ys) => put_own hring h1 h2 hxl (by omega) (by omega))
      have KE := Lib.hid (fun v w' h h' => equal_same v (.slice av lc C) ys w' h h')
      have KG := Lib.hid (fun w' (h : Ring8 w.heap.size w' px ((nx + 1) % 4294967296) (cs ++ [ys])) => (show Calls Try.prog 18 #[.pointer (some ⟨px, 0, none⟩), .int .u32 ((na + (k : Int)) % 4294967296)] w' (Own2 w.heap.size px ((nx + 1) % 4294967296) (cs ++ [ys]) lc ys w') from by
        have := get_own h hrl hnn k (by omega) _ hpl hgd hxl
        rw [hcl2] at this
        exact this))
      have KF := Lib.hid (fun w' (h : Ring8 w.heap.size w' px ((nx + 1) % 4294967296) (cs ++ [ys])) => (show Calls Try.prog 20 #[.pointer (some ⟨px, 0, none⟩), .int .u32 na] w' (Own3 w.heap.size px ((nx + 1) % 4294967296) (cs ++ [ys]) (k + 1) w') from by
        have := from_own h hrl hnn na hol hsh (by simp)
        rw [hL] at this
        exact this))
      have KR := Lib.hid (show ∀ (w' : World) (g c : Nat), RowsAt w' w.heap.size (.slice (some ⟨g, 0, none⟩) (k + 1) c) (cs ++ [ys]) → ∃ a1 c1, w'.cell? ⟨g, k, none⟩ = some (.slice a1 lc c1) ∧ Bytes w' (.slice a1 lc c1) ys from fun w' g c h => by
        obtain ⟨a, c', he, hr⟩ := h.shape
        obtain ⟨g', v, hg, hc, hb⟩ := hr k (by omega)
        simp only [Value.slice.injEq] at he
        obtain ⟨rfl, -, rfl⟩ := he
        cases hg
        rw [hgd] at hb
        obtain ⟨a1, c1, e1, r1, r2⟩ := hb
        rw [hcl2] at e1
        subst e1
        exact ⟨a1, c1, hc, a1, c1, by rw [hcl2], r1, r2⟩)
      have HCR2 := Lib.hid HCR.out.symm
      have hk8 : (k : Int) < 8 := by omega
      clear hring hbyw hcl hsh hxl hcl2 hlc2 hpl hol hgd hL hrl hnn hb HCR hnx
      generalize cs ++ [ys] = ds at *
      generalize (nx + 1) % 4294967296 = nx1 at *
      go_wp2_with fail
      (with_reducible refine KC.out.mono ?_); rintro e w2 ⟨a2, c2, rfl, ho2, hb2⟩
      have P2 := Lib.hid (KP.out w2 _ hb2 ho2)
      have HB2 := Lib.hid (hb2.mono HS0.out)
      clear KC KP ho2 hb2
      go_wp2_with fail
      (with_reducible refine P2.out.mono ?_); rintro e w3 ⟨rfl, ho3, hg3, hb3⟩
      have HB3 := Lib.hid ((HBR.out.trans HB2.out).trans hb3)
      have E3 := Lib.hid (KE.out _ w3 ho3.bytes (BY.out _ HB3.out))
      have S3 := Lib.hid (hg3.spoilt 170)
      clear P2 ho3 hg3 hb3 HBR HB2
      go_wp2_with fail
      (with_reducible refine E3.out.mono ?_); rintro e w4 ⟨rfl, rfl⟩
      clear E3
      go_wp2_with fail
      (with_reducible refine S3.out.mono ?_); rintro e w4 ⟨rfl, hr4, hb4⟩
      have HB4 := Lib.hid (HB3.out.trans hb4)
      have G4 := Lib.hid (KG.out w4 hr4)
      clear S3 hr4 hb4 HB3
      go_wp2_with fail
      (with_reducible refine G4.out.mono ?_); rintro e w5 ⟨a5, c5, rfl, hy5, hg5, hb5⟩
      have HB5 := Lib.hid (HB4.out.trans hb5)
      have E5 := Lib.hid (KE.out _ w5 hy5 (BY.out _ HB5.out))
      have S5 := Lib.hid (hg5.spoilt 187)
      clear G4 hy5 hg5 hb5 HB4
      go_wp2_with fail
      (with_reducible refine E5.out.mono ?_); rintro e w6 ⟨rfl, rfl⟩
      clear E5
      go_wp2_with fail
      (with_reducible refine S5.out.mono ?_); rintro e w6 ⟨rfl, hr6, hb6⟩
      have HB6 := Lib.hid (HB5.out.trans hb6)
      have F6 := Lib.hid (KF.out w6 hr6)
      clear S5 hr6 hb6 HB5
      go_wp2_with fail
      (with_reducible refine F6.out.mono ?_); rintro e w7 ⟨g7, c7, rfl, hra7, hrg7, hb7⟩
      obtain ⟨a8, c8, hcell8, hy8⟩ := KR.out _ _ _ hra7
      have HB7 := Lib.hid (HB6.out.trans hb7)
      have E7 := Lib.hid (KE.out _ w7 hy8 (BY.out _ HB7.out))
      have RG7 := Lib.hid hrg7
      clear F6 hra7 hrg7 hb7 hy8 HB6 KR
      have hkk : (k : Int) < (k : Int) + 1 := by omega
      go_wp2_with fail
      (with_reducible refine E7.out.mono ?_); rintro e w8 ⟨rfl, rfl⟩
      clear E7 hcell8
      go_wp2_with fail
      go_loopw [109] (fun i wr' => ∃ j : Nat, j ≤ k + 1 ∧ i = .int .i64 j ∧ RowsGuard w.heap.size wr' px nx1 ds (k + 1) (.slice (some ⟨g7, 0, none⟩) (k + 1) c7) ∧ Below w.heap.size w wr') (fun i _ => (k + 1) - (intOf i).toNat)
      case atStart => exact ⟨0, Nat.zero_le _, rfl, RG7.out, HB7.out⟩
      case round =>
        obtain ⟨j, hj, rfl, hrg, hb8⟩ := hrel
        by_cases hlj : j < k + 1
        · obtain ⟨u, hu, hsp⟩ := hrg.spoilt j hlj 204
          have SP := Lib.hid hsp
          have HB8 := Lib.hid hb8
          clear hrg hb8 hsp
          go_wp2_with fail
          (with_reducible refine SP.out.mono ?_); rintro e w9 ⟨rfl, hrg9, hb9⟩
          have RG9 := Lib.hid hrg9
          have HB9 := Lib.hid (HB8.out.trans hb9)
          clear hrg9 hb9 SP HB8
          go_wp2_with fail
          go_roundw
          case rel => exact ⟨j + 1, by omega, by go_num, RG9.out, HB9.out⟩
          case measure => simp [intOf]; omega
        · have G9 := Lib.hid (KG.out _ hrg.ring)
          have HB9 := Lib.hid hb8
          clear hrg hb8
          go_wp2_with fail
          (with_reducible refine G9.out.mono ?_); rintro e w10 ⟨a10, c10, rfl, hy10, hg10, hb10⟩
          have HB10 := Lib.hid (HB9.out.trans hb10)
          have E10 := Lib.hid (KE.out _ w10 hy10 (BY.out _ HB10.out))
          have R10 := Lib.hid (guarded_ring hg10)
          clear G9 hy10 hg10 hb10
          go_wp2_with fail
          (with_reducible refine E10.out.mono ?_); rintro e w11 ⟨rfl, rfl⟩
          clear E10
          go_wp2_with fail
          go_roundw
          case rel => exact ⟨k + 1, by omega, by go_num, by rw [← HNX.out, ← HCR2.out]; exact R10.out, HB10.out⟩
          case measure => simp [intOf]; omega
    · go_wp2_with fail
      go_ret
      exact ⟨rfl, hb⟩
end Go.Proofs.Ytjeifpjjnfaefaa
