/- The walk of ringkeep1.WrapRing: two rings that begin at two numbers are handed the same records. -/
import Derived.Test.YtjeifpjjnfaefaaArgs
import Derived.Lib.MinMax
namespace Go.Proofs.Ytjeifpjjnfaefaa
open Go.ChangeShapes Go.WideShapes Go.ChangeAt Go.RowKit
set_option linter.unusedVariables false

/-- The records that came in, each cut to 32 bytes, the first k of them. -/
def cutRecs (recs : List (List Int)) (k : Nat) : List (List Int) := (recs.take k).map (·.take 32)

theorem cutRecs_snoc (recs : List (List Int)) (k : Nat) (hk : k < recs.length) : cutRecs recs (k + 1) = cutRecs recs k ++ [(recs.getD k []).take 32] := by
  unfold cutRecs
  rw [List.take_add_one, List.map_append]
  simp [List.getD, List.getElem?_eq_getElem hk]

theorem cutRecs_length (recs : List (List Int)) (k : Nat) (hk : k ≤ recs.length) : (cutRecs recs k).length = k := by unfold cutRecs; simp; omega

theorem cutRecs_short (recs : List (List Int)) (k : Nat) : ∀ xs ∈ cutRecs recs k, xs.length ≤ 32 := by
  intro xs h
  obtain ⟨y, _, rfl⟩ := List.mem_map.1 h
  simp; omega

theorem lastN_mem {size : Nat} {l : List (List Int)} {xs : List Int} (h : xs ∈ lastN size l) : xs ∈ l := List.mem_of_mem_drop h

/-- Two rings of the call's own with the same records. -/
def Rings (B : Nat) (w : World) (px py : Nat) (size : Nat) (nx ny : Int) (recs : List (List Int)) : Prop :=
  ∃ Vx Vy, RingAt (· < w.heap.size) B w px Vx size nx recs ∧ RingAt (· < w.heap.size) B w py Vy size ny recs ∧ (∀ k, Vx.ownBlock = some k → Vy.ownBlock ≠ some k)

/-- The same between the two Puts. -/
def Half (B : Nat) (w : World) (px py : Nat) (size : Nat) (nx ny : Int) (recs recs' : List (List Int)) : Prop :=
  ∃ Vx Vy, RingAt (· < w.heap.size) B w px Vx size nx recs' ∧ RingAt (· < w.heap.size) B w py Vy size ny recs ∧ (∀ k, Vx.ownBlock = some k → Vy.ownBlock ≠ some k)

theorem own_lt {M : Nat → Prop} {B : Nat} {w : World} {p : Nat} {V : Value} {size : Nat} {next : Int} {recs : List (List Int)} (h : RingAt M B w p V size next recs) : ∀ k, V.ownBlock = some k → B ≤ k ∧ k < w.heap.size := by
  obtain ⟨vals, _, ho, _⟩ := h.rows
  exact ho.lt

theorem only_below {M : Nat → Prop} {B : Nat} {w w' : World} {p : Nat} {V : Value} {size : Nat} {next : Int} {recs : List (List Int)} (h : RingAt M B w p V size next recs) (hO : Only (fun k => k = p ∨ V.ownBlock = some k) w w') : Below B w w' := by
  refine hO.below (Nat.le_trans h.low (Nat.le_of_lt h.lt)) ?_
  rintro k (rfl | e)
  · exact h.low
  · exact (own_lt h k e).1

theorem put_first {B px py size : Nat} {nx ny : Int} {recs : List (List Int)} {xs : List Int} {vb : Value} {w : World} (h : Rings B w px py size nx ny recs) (hp : px ≠ py) (hby : Bytes w vb xs) (hxs : xs.length ≤ 32) (hs1 : 1 ≤ size) (hs2 : size ≤ 64)
    (hrl : recs.length ≤ size) (hnx : 0 ≤ nx ∧ nx < 4294967296) :
    Calls Try.prog 16 #[.pointer (some ⟨px, 0, none⟩), vb] w fun e w' => e = .returned (.tuple #[.int .u32 nx, .int .i64 0]) ∧ Half B w' px py size ((nx + 1) % 4294967296) ny recs (pushed size recs xs) ∧ Below B w w' := by
  obtain ⟨Vx, Vy, hx, hy, hd⟩ := h
  refine (put_any _ B px Vx vb size nx recs xs w hx hby hxs hs1 hs2 hrl hnx (Nat.le_trans hx.low (Nat.le_of_lt hx.lt))).mono ?_
  rintro e w' ⟨rfl, V', hr, hO, hV⟩
  refine ⟨rfl, ⟨V', Vy, hr.there, (hy.other hx (Ne.symm hp) (fun k hk e => hd k e hk) hO).there, fun k hk e => ?_⟩, only_below hx hO⟩
  rcases hV k hk with h1 | h1
  · exact hd k h1 e
  · have := (own_lt hy k e).2; omega

theorem put_second {B px py size : Nat} {nx ny : Int} {recs recs' : List (List Int)} {xs : List Int} {vb : Value} {w : World} (h : Half B w px py size nx ny recs recs') (hp : px ≠ py) (hby : Bytes w vb xs) (hxs : xs.length ≤ 32) (hs1 : 1 ≤ size) (hs2 : size ≤ 64)
    (hrl : recs.length ≤ size) (hny : 0 ≤ ny ∧ ny < 4294967296) (he : pushed size recs xs = recs') :
    Calls Try.prog 16 #[.pointer (some ⟨py, 0, none⟩), vb] w fun e w' => e = .returned (.tuple #[.int .u32 ny, .int .i64 0]) ∧ Rings B w' px py size nx ((ny + 1) % 4294967296) recs' ∧ Below B w w' := by
  obtain ⟨Vx, Vy, hx, hy, hd⟩ := h
  refine (put_any _ B py Vy vb size ny recs xs w hy hby hxs hs1 hs2 hrl hny (Nat.le_trans hx.low (Nat.le_of_lt hx.lt))).mono ?_
  rintro e w' ⟨rfl, V', hr, hO, hV⟩
  rw [he] at hr
  refine ⟨rfl, ⟨Vx, V', (hx.other hy hp (fun k hk e => hd k hk e) hO).there, hr.there, fun k hk e => ?_⟩, only_below hy hO⟩
  rcases hV k e with h1 | h1
  · exact hd k hk h1
  · have := (own_lt hx k hk).2; omega

/-- The first ring is made. -/
theorem Rings.made {B size : Nat} {nx ny : Int} {w1 w2 : World} {px py : Nat} (h1 : RingAt (fun _ => False) B w1 px (.slice none 0 0) size nx []) (h2 : RingAt (fun _ => False) w1.heap.size w2 py (.slice none 0 0) size ny []) (hb : Below w1.heap.size w1 w2) (hB : B ≤ w1.heap.size) :
    Rings B w2 px py size nx ny [] := by
  refine ⟨.slice none 0 0, .slice none 0 0, (h1.later hb).there, ?_, fun k hk => by cases hk⟩
  obtain ⟨vals, hv, ho, hr⟩ := h2.there.rows
  exact ⟨Nat.le_trans hB h2.low, h2.self, vals, hv, owns_base ho hB, fun j hj => by cases hj⟩

theorem ReadRows.later {w w' : World} {V : Value} {recs : List (List Int)} (h : ReadRows w V recs) (hb : Below w.heap.size w w') : ReadRows w' V recs := by
  obtain ⟨a, c, e, hr⟩ := h
  refine ⟨a, c, e, fun j hj => ?_⟩
  obtain ⟨b, off, v, h1, h2, h3⟩ := hr j hj
  have hbl := block_lt h2
  exact ⟨b, off, v, h1, by rw [hb.cell (p := ⟨b, off + j, none⟩) hbl]; exact h2, h3.later hb⟩

/-- Copies of some records were answered, in memory of the call's own; so many of them. -/
def CopiesAnswer (L : Nat) (recs : List (List Int)) (W : World) (e : Ending) (w' : World) : Prop :=
  ∃ a c, e = .returned (.tuple #[.slice a L c, .int .i64 0]) ∧ ReadRows w' (.slice a L c) recs ∧ Below W.heap.size W w'

theorem from_all {M : Nat → Prop} {B p : Nat} {V : Value} {size : Nat} {next : Int} {recs : List (List Int)} {W w : World} (hR : RingAt M B w p V size next recs) (hl : recs.length ≤ 1000) (hnx : 0 ≤ next ∧ next < 4294967296)
    (hx : ∀ xs ∈ recs, xs.length ≤ 32) (hW : Below W.heap.size W w) (o : Int) (ho : o = oldest next recs.length) :
    Calls Try.prog 20 #[.pointer (some ⟨p, 0, none⟩), .int .u32 o] w (CopiesAnswer recs.length recs W) := by
  have h0 : placeOf next recs.length o = 0 := by subst ho; unfold placeOf oldest; omega
  have fin : Calls Try.prog 20 #[.pointer (some ⟨p, 0, none⟩), .int .u32 o] w (FromAnswer recs w) := by
    obtain ⟨vals, hv, hown, hrr⟩ := hR.rows
    rcases hown.2 with ⟨rfl, hz⟩ | ⟨g, c, cur, rfl, _⟩
    · obtain rfl : recs = [] := List.eq_nil_of_length_eq_zero hz
      exact from_empty M B p 0 size next o w hR hnx h0
    · have := from_some M B p g c size next o recs 0 w hR hl hnx (Nat.zero_le _) h0 (fun xs h => by have := hx xs h; omega)
      simpa using this
  refine fin.mono ?_
  rintro e w' ⟨v, rfl, hr, hb⟩
  obtain ⟨a, c, rfl, _⟩ := hr.shape
  exact ⟨a, c, rfl, hr.read, hW.trans (hb.mono hW.size)⟩

section
variable {B px py size : Nat} {nx ny : Int} {recs : List (List Int)} {w : World}
theorem drewN_drewN (w : World) (a b : Nat) : (w.drewN a).drewN b = w.drewN (a + b) := by simp [World.drewN, Nat.add_assoc]

theorem rings_span_x (h : Rings B w px py size nx ny recs) {L : Nat} (hL : L = recs.length) {o : Int} (ho : o = oldest nx L) (hl : L ≤ 1000) (hn : 0 ≤ nx ∧ nx < 4294967296) :
    Calls Try.prog 17 #[.pointer (some ⟨px, 0, none⟩)] w fun e w' => e = .returned (.tuple #[.int .u32 o, .int .u32 nx]) ∧ ∃ k, w' = w.drewN k := by
  obtain ⟨Vx, Vy, hx, hy, _⟩ := h
  obtain ⟨a, c, rfl, _⟩ := hx.shape
  subst hL; subst ho
  exact span_any px size nx a recs.length c w hl hn hx.self

theorem rings_span_y (h : Rings B w px py size nx ny recs) {L : Nat} (hL : L = recs.length) {o : Int} (ho : o = oldest ny L) (hl : L ≤ 1000) (hn : 0 ≤ ny ∧ ny < 4294967296) (j : Nat) :
    Calls Try.prog 17 #[.pointer (some ⟨py, 0, none⟩)] (w.drewN j) fun e w' => e = .returned (.tuple #[.int .u32 o, .int .u32 ny]) ∧ ∃ k, w' = w.drewN k := by
  obtain ⟨Vx, Vy, hx, hy, _⟩ := h
  obtain ⟨a, c, rfl, _⟩ := hy.shape
  subst hL; subst ho
  refine (span_any py size ny a recs.length c (w.drewN j) hl hn (hy.drewN j).self).mono ?_
  rintro e w' ⟨rfl, k, rfl⟩
  exact ⟨rfl, j + k, drewN_drewN w j k⟩

theorem rings_from_x (h : Rings B w px py size nx ny recs) {L : Nat} (hL : L = recs.length) {o : Int} (ho : o = oldest nx L) (hl : L ≤ 1000) (hn : 0 ≤ nx ∧ nx < 4294967296) (hs : ∀ xs ∈ recs, xs.length ≤ 32) (j : Nat) :
    Calls Try.prog 20 #[.pointer (some ⟨px, 0, none⟩), .int .u32 o] (w.drewN j) (CopiesAnswer L recs w) := by
  obtain ⟨Vx, Vy, hx, hy, _⟩ := h
  subst hL
  exact from_all (hx.drewN j) hl hn hs (drewN_below (Below.refl _ _) j) o ho

theorem rings_from_y (h : Rings B w px py size nx ny recs) {L : Nat} (hL : L = recs.length) {o : Int} (ho : o = oldest ny L) (hl : L ≤ 1000) (hn : 0 ≤ ny ∧ ny < 4294967296) (hs : ∀ xs ∈ recs, xs.length ≤ 32) (w1 : World) (hb : Below w.heap.size w w1) :
    Calls Try.prog 20 #[.pointer (some ⟨py, 0, none⟩), .int .u32 o] w1 (CopiesAnswer L recs w1) := by
  obtain ⟨Vx, Vy, hx, hy, _⟩ := h
  subst hL
  exact from_all (hy.later hb) hl hn hs (Below.refl _ _) o ho
end

set_option maxRecDepth 100000 in
set_option maxHeartbeats 4000000 in
theorem ring_walk (sz na nb : Int) (a3 : Option Addr) (len3 cap3 : Nat) (recs : List (List Int)) (w : World) (hrows : ArgRows w a3 len3 cap3 recs) (ha : 0 ≤ na ∧ na < 4294967296) (hb : 0 ≤ nb ∧ nb < 4294967296) :
    Calls Try.prog 8 #[.int .i64 sz, .int .u32 na, .int .u32 nb, .slice a3 len3 cap3] w fun e w' => e = .returned (.bool true) ∧ Below w.heap.size w w' := by
  obtain ⟨rfl, hlc, hcm, hn3, hr⟩ := hrows
  have HRR := Lib.hid hr
  obtain ⟨s, hs⟩ : ∃ s : Nat, restOf sz 64 = s := ⟨(restOf sz 64).toNat, by have := restOf_lo sz 64 (by omega); omega⟩
  have hs64 : s < 64 := by have := restOf_hi sz 64 (by omega); omega
  have R := rest_any sz 64 (by omega) (by omega)
  rw [hs] at R
  have RR := Lib.hid R
  clear R hs hr
  have hmin : min (recs.length : Int) 200 = ((min recs.length 200 : Nat) : Int) := by omega
  obtain ⟨n, hn⟩ : ∃ n, n = min recs.length 200 := ⟨_, rfl⟩
  rw [← hn] at hmin
  have hn1 : n ≤ recs.length := by omega
  have hn2 : n ≤ 200 := by omega
  have NX := Lib.hid (fun w => new_any (s + 1) na (by omega) (by omega) w)
  have NY := Lib.hid (fun w => new_any (s + 1) nb (by omega) (by omega) w)
  unfold maxLen at hcm
  clear hn
  have hsz : ((s + 1 : Nat) : Int) = 1 + (s : Int) := by omega
  rw [hsz] at NX NY
  clear hsz
  go_enter Try.func8, Try.ntmps8
  go_wp2_with fail
  refine (RR.out _).mono ?_; rintro e w' ⟨rfl, rfl⟩
  go_wp2_with fail
  refine (NX.out _).mono ?_; rintro e w1 ⟨px, rfl, hx, hb1, -⟩
  have HX := Lib.hid hx
  have HB1 := Lib.hid hb1
  clear hx hb1
  go_wp2_with fail
  refine (NY.out _).mono ?_; rintro e w2 ⟨py, rfl, hy, hb2, -⟩
  have HRS := Lib.hid (Rings.made HX.out hy hb2 HB1.out.size)
  have hpp : px ≠ py := by have := HX.out.lt; have := hy.low; omega
  have HPP := Lib.hid hpp
  have HB := Lib.hid (HB1.out.trans (hb2.mono HB1.out.size))
  clear hy hb2 HX HB1 RR NX NY hpp
  go_wp2_with fail
  clear hmin hcm
  go_loopw [13, 61] (fun c i wr => ∃ k : Nat, k ≤ n ∧ i = .int .i64 k ∧ c = .int .i64 k ∧ Rings w.heap.size wr px py (s + 1) ((na + k) % 4294967296) ((nb + k) % 4294967296) (lastN (s + 1) (cutRecs recs k)) ∧ Below w.heap.size w wr) (fun _ i _ => n - (intOf i).toNat)
  case atStart => exact ⟨0, Nat.zero_le _, rfl, rfl, by have e1 : (na + ((0 : Nat) : Int)) % 4294967296 = na := by omega
                                                        have e2 : (nb + ((0 : Nat) : Int)) % 4294967296 = nb := by omega
                                                        have e3 : lastN (s + 1) (cutRecs recs 0) = [] := by simp [lastN, cutRecs]
                                                        rw [e1, e2, e3]; exact HRS.out, HB.out⟩
  case round =>
    obtain ⟨k, hk, rfl, rfl, hring, hb⟩ := hrel
    by_cases hlt : k < n
    · obtain ⟨b, off, v, rfl, hbl, hcell0, av, C, rfl, hLC, hCm, hby0, hwf⟩ := HRR.out k (by omega)
      have hcell : wr.cell? ⟨b, off + k, none⟩ = some (.slice av (recs.getD k []).length C) := by rw [hb.cell (p := ⟨b, off + k, none⟩) hbl]; exact hcell0
      have hbyw := hby0.take 32
      have HCR := Lib.hid (cutRecs_snoc recs k (by omega))
      have HLL := Lib.hid (lastN_length (s + 1) (cutRecs recs k))
      have HPL := Lib.hid (pushed_lastN (s + 1) (by omega) (cutRecs recs k))
      have hxl : ((recs.getD k []).take 32).length ≤ 32 := by simp; omega
      unfold maxLen at hCm
      clear hcell0 hby0 hwf
      generalize recs.getD k [] = xs at *
      generalize cutRecs recs k = cs at *
      obtain ⟨lc, hlc2⟩ : ∃ lc, lc = min xs.length 32 := ⟨_, rfl⟩
      have hmin2 : min (xs.length : Int) 32 = (lc : Int) := by omega
      rw [← hlc2] at hbyw
      have hlcC : lc ≤ C := by omega
      have hlcL : lc ≤ xs.length := by omega
      generalize xs.take 32 = ys at *
      obtain ⟨nx, hnx⟩ : ∃ nx, nx = (na + (k : Int)) % 4294967296 := ⟨_, rfl⟩
      obtain ⟨ny, hny⟩ : ∃ ny, ny = (nb + (k : Int)) % 4294967296 := ⟨_, rfl⟩
      rw [← hnx, ← hny] at hring
      have e1 : (nx - na) % 4294967296 = (k : Int) := by omega
      have e2 : (ny - nb) % 4294967296 = (k : Int) := by omega
      have HNX := Lib.hid (show (nx + 1) % 4294967296 = (na + ((k + 1 : Nat) : Int)) % 4294967296 by omega)
      have HNY := Lib.hid (show (ny + 1) % 4294967296 = (nb + ((k + 1 : Nat) : Int)) % 4294967296 by omega)
      have hrl : (lastN (s + 1) cs).length ≤ s + 1 := by rw [HLL.out]; omega
      have PX := Lib.hid (put_first hring HPP.out (hbyw.later hb) hxl (by omega) (by omega) hrl (by omega))
      have HSZ := Lib.hid hb.size
      have PY := Lib.hid (fun w1 (hh : Half w.heap.size w1 px py (s + 1) ((nx + 1) % 4294967296) ny (lastN (s + 1) cs) (pushed (s + 1) (lastN (s + 1) cs) ys)) (hbb : Below w.heap.size wr w1) => put_second (vb := .slice av lc C) (xs := ys) hh HPP.out (hbyw.later (hb.trans hbb)) hxl (by omega) (by omega) hrl (by omega) rfl)
      have HPL2 := Lib.hid (show pushed (s + 1) (lastN (s + 1) cs) ys = lastN (s + 1) (cutRecs recs (k + 1)) by rw [HPL.out, HCR.out])
      have HBR := Lib.hid hb
      have hk200 : (k : Int) < 200 := by omega
      clear hring hbyw hrl hnx hny hxl hb hlc2
      go_wp2_with (first
        | (go_at_call_of 16 (Value.pointer (some ⟨px, 0, none⟩)); with_reducible refine PX.out.mono ?_; rintro e w3 ⟨rfl, hh, hb3⟩; have PY2 := Lib.hid (PY.out _ hh hb3); have HB3 := Lib.hid hb3; clear hh hb3)
        | (go_at_call_of 16 (Value.pointer (some ⟨py, 0, none⟩)); with_reducible refine PY2.out.mono ?_; rintro e w4 ⟨rfl, hr4, hb4⟩; have HR4 := Lib.hid hr4; have HB4 := Lib.hid hb4; clear hr4 hb4))
      go_roundw
      case rel => exact ⟨k + 1, by omega, by go_num, by go_num, by rw [← HNX.out, ← HNY.out, ← HPL2.out]; exact HR4.out, (HBR.out.trans HB3.out).trans HB4.out⟩
      case measure => simp [intOf]; omega
    · obtain rfl : k = n := by omega
      have hlen : (lastN (s + 1) (cutRecs recs k)).length = min k (s + 1) := by rw [lastN_length, cutRecs_length recs k hn1]
      have hshort : ∀ xs ∈ lastN (s + 1) (cutRecs recs k), xs.length ≤ 32 := fun xs h => cutRecs_short recs k xs (lastN_mem h)
      obtain ⟨nx, hnx⟩ : ∃ nx, nx = (na + (k : Int)) % 4294967296 := ⟨_, rfl⟩
      obtain ⟨ny, hny⟩ : ∃ ny, ny = (nb + (k : Int)) % 4294967296 := ⟨_, rfl⟩
      rw [← hnx, ← hny] at hring
      generalize lastN (s + 1) (cutRecs recs k) = rl at *
      obtain ⟨L, hL⟩ : ∃ L, L = rl.length := ⟨_, rfl⟩
      rw [← hL] at hlen
      obtain ⟨ox, hox⟩ : ∃ ox, ox = oldest nx L := ⟨_, rfl⟩
      obtain ⟨oy, hoy⟩ : ∃ oy, oy = oldest ny L := ⟨_, rfl⟩
      have hminL : min (k : Int) (1 + (s : Int)) = (L : Int) := by omega
      obtain ⟨d, hd⟩ : ∃ d, d = (ox - na) % 4294967296 := ⟨_, rfl⟩
      have e1 : (ox - na) % 4294967296 = d := hd.symm
      have e2 : (oy - nb) % 4294967296 = d := by unfold oldest at hox hoy; omega
      have e3 : (nx - na) % 4294967296 = (k : Int) := by omega
      have e4 : (ny - nb) % 4294967296 = (k : Int) := by omega
      have e5 : (nx - ox) % 4294967296 = (L : Int) := by unfold oldest at hox; omega
      have SX := Lib.hid (rings_span_x hring hL hox (by omega) (by omega))
      have SY := Lib.hid (rings_span_y hring hL hoy (by omega) (by omega))
      have FX := Lib.hid (rings_from_x hring hL hox (by omega) (by omega) hshort)
      have FY := Lib.hid (rings_from_y hring hL hoy (by omega) (by omega) hshort)
      have HBR := Lib.hid hb
      have HS := Lib.hid hb.size
      have EQ := Lib.hid (fun V V' w h h' => equal_rows V V' rl w h h' (by omega))
      clear hring hL hox hoy hd hlen hshort hnx hny hb
      go_wp2_with (first
        | (go_at_call_of 17 (Value.pointer (some ⟨px, 0, none⟩)); with_reducible refine SX.out.mono ?_; rintro e w3 ⟨rfl, j1, rfl⟩)
        | (go_at_call_of 17 (Value.pointer (some ⟨py, 0, none⟩)); with_reducible refine (SY.out _).mono ?_; rintro e w3 ⟨rfl, j2, rfl⟩))
      clear SX SY e1 e2 e3 e4 e5
      refine (FX.out _).mono ?_; rintro e w5 ⟨a5, c5, rfl, hr5, hb5⟩
      have FY5 := Lib.hid (FY.out w5 hb5)
      have HB5 := Lib.hid hb5
      have HR5 := Lib.hid hr5
      clear FX FY hb5 hr5
      go_wp2_with fail
      refine FY5.out.mono ?_; rintro e w6 ⟨a6, c6, rfl, hr6, hb6⟩
      have HB6 := Lib.hid hb6
      have EQ6 := Lib.hid (EQ.out _ _ w6 (HR5.out.later hb6) hr6)
      clear FY5 EQ hb6 hr6
      go_wp2_with fail
      refine EQ6.out.mono ?_; rintro e w7 ⟨rfl, rfl⟩
      go_wp2_with fail
      go_ret
      exact ⟨rfl, (HBR.out.trans (HB5.out.mono HS.out)).trans (HB6.out.mono (Nat.le_trans HS.out HB5.out.size))⟩
end Go.Proofs.Ytjeifpjjnfaefaa
