/- What is so of every run that came of so many calls, and that each call keeps it. -/
import Derived.Test.YtddfdnhlghmapaaSpStart
namespace Go.Proofs.Ytddfdnhlghmapaa.Sp
open Go.Proofs.Ytddfdnhlghmapaa.Vt
set_option linter.unusedVariables false

/-- A task's numbers are in their bounds. -/
structure TkOk (x : Tk) (B k : Int) : Prop where
  m : x.m < 16
  v : -1000 ≤ x.v ∧ x.v ≤ 1000
  bv : -1000 ≤ x.bv ∧ x.bv ≤ 1000
  t0 : 0 ≤ x.t
  tB : x.t ≤ B * 1048576
  w : x.c = 1 → isW x.v = true
  cls : (x.c = 0 ∨ x.c = 1 ∨ x.c = 2 ∨ x.c = 3) ∧ (x.ro = true → x.c = 3)
  b0 : 0 ≤ x.rb
  b1 : x.rb ≤ 30
  p0 : 0 ≤ x.rp
  p1 : x.rp ≤ 30
  l0 : 0 ≤ x.rl
  l1 : x.rl ≤ 30
  lo : x.ro = false → x.c = 3 → 1 ≤ x.rl
  d0 : 0 ≤ x.rd
  dB : x.rd ≤ k + 30
  bb : x.rb = 0 → x.c ≠ 3
/-- A run after no more than B calls. -/
structure Ok (S : St) (B : Int) : Prop where
  n1 : 1 ≤ S.n
  n4 : S.n ≤ 4
  on : ∀ i, i < 4 → S.on i ≤ 16
  k0 : 0 ≤ S.k
  kB : S.k ≤ B
  g0 : 0 ≤ S.g
  gB : S.g ≤ B
  tk : ∀ t, t < 17 → TkOk (S.T t) B S.k
  z : S.T 0 = noTk

theorem noTk_ok {B k : Int} (hB : 0 ≤ B) (hk : 0 ≤ k) : TkOk noTk B k := by
  constructor <;> simp <;> omega
section
variable {S : St} {B : Int}
theorem Ok.B0 (h : Ok S B) : 0 ≤ B := by have := h.k0; have := h.kB; omega
theorem Ok.fine (h : Ok S B) : Fine S := ⟨h.n1, h.n4, h.on, fun t ht => (h.tk t ht).m, fun t ht => ⟨(h.tk t ht).v, (h.tk t ht).bv⟩⟩
theorem TkOk.mono {x : Tk} {B' k k' : Int} (h : TkOk x B k) (hB : B ≤ B') (hk : k ≤ k') : TkOk x B' k' := by
  obtain ⟨a1, a2, a3, a4, a5, a6, a7, a8, a9, a10, a11, a12, a13, a14, a15, a16, a17⟩ := h
  exact ⟨a1, a2, a3, a4, by omega, a6, a7, a8, a9, a10, a11, a12, a13, a14, a15, by omega, a17⟩
theorem TkOk.rsv {x : Tk} {k : Int} (h : TkOk x B k) (hk : k ≤ 8000000000000) : RsvOk x := ⟨h.b0, h.b1, h.p0, h.p1, h.l0, h.l1, h.d0, by have := h.dB; omega⟩
theorem Ok.mono {B' : Int} (h : Ok S B) (hB : B ≤ B') : Ok S B' :=
  ⟨h.n1, h.n4, h.on, h.k0, by have := h.kB; omega, h.g0, by have := h.gB; omega, fun t ht => (h.tk t ht).mono hB (Int.le_refl _), h.z⟩
/-- One task has changed. -/
theorem Ok.set (h : Ok S B) {t : Nat} (h1 : 1 ≤ t) {x : Tk} (hx : TkOk x B S.k) : Ok { S with T := upd S.T t x } B := by
  refine ⟨h.n1, h.n4, h.on, h.k0, h.kB, h.g0, h.gB, fun j hj => ?_, ?_⟩
  · show TkOk (upd S.T t x j) B S.k
    unfold upd; split
    · exact hx
    · exact h.tk j hj
  · show upd S.T t x 0 = noTk
    rw [upd_other _ _ (by omega)]; exact h.z
theorem Ok.set_on (h : Ok S B) {f : Nat → Nat} (hf : ∀ i, i < 4 → f i ≤ 16) : Ok { S with on := f } B := ⟨h.n1, h.n4, hf, h.k0, h.kB, h.g0, h.gB, h.tk, h.z⟩
theorem TkOk.since {x : Tk} {k : Int} (h : TkOk x B k) (s : Int) : TkOk { x with s := s } B k := by
  obtain ⟨a1, a2, a3, a4, a5, a6, a7, a8, a9, a10, a11, a12, a13, a14, a15, a16, a17⟩ := h
  exact ⟨a1, a2, a3, a4, a5, a6, a7, a8, a9, a10, a11, a12, a13, a14, a15, a16, a17⟩
theorem Ok.queue (h : Ok S B) {t : Nat} (h1 : 1 ≤ t) (h2 : t < 17) : Ok (queue S t) (B + 1) := by
  have h3 := (h.set h1 (x := { S.T t with s := S.g + 1 }) ((h.tk t h2).since _)).mono (show B ≤ B + 1 by omega)
  exact ⟨h3.n1, h3.n4, h3.on, h3.k0, h3.kB, by show 0 ≤ S.g + 1; have := h.g0; omega, by show S.g + 1 ≤ B + 1; have := h.gB; omega, h3.tk, h3.z⟩
theorem put1_k (S : St) (c : Nat) : (put1 S c).k = S.k := by unfold put1; split <;> rfl
theorem put1_g (S : St) (c : Nat) : (put1 S c).g = S.g := by unfold put1; split <;> rfl
theorem Ok.put1 (h : Ok S B) (c : Nat) : Ok (put1 S c) B := by
  unfold Sp.put1; split
  · exact h.set_on (upd_on_le h.on (first_le S c))
  · exact h
theorem Ok.fillTo (h : Ok S B) (c : Nat) : Ok (fillTo S c) B := by
  induction c with
  | zero => exact h
  | succ c ih => exact ih.put1 c
theorem Ok.fill (h : Ok S B) : Ok (fill S) B := h.fillTo _
theorem Ok.clr (h : Ok S B) {c : Nat} (hc : c < 4) : Ok (clr S c) (B + 1) := by
  unfold Sp.clr; split
  · exact h.mono (by omega)
  · next e =>
    have := h.on c hc
    exact (h.queue (by omega) (by omega)).set_on (upd_on_le h.on (by omega))
theorem Ok.off (h : Ok S B) (t : Nat) : Ok (off S t) (B + 1) := by
  unfold Sp.off; split
  · next i e => exact h.clr (place_is e).1
  · exact h.mono (by omega)
theorem least_bd (h : Ok S B) : 0 ≤ least S ∧ least S ≤ B * 1048576 := by
  have := h.tk _ (leastTo_le S 17 (by omega))
  exact ⟨this.t0, this.tB⟩
theorem Ok.risen (h : Ok S B) {t : Nat} (ht : t < 17) : TkOk (risen S t) B S.k := by
  have hl := least_bd h
  obtain ⟨a1, a2, a3, a4, a5, a6, a7, a8, a9, a10, a11, a12, a13, a14, a15, a16, a17⟩ := h.tk t ht
  unfold Sp.risen; split
  · exact ⟨a1, a2, a3, by show 0 ≤ max _ _; omega, by show max _ _ ≤ _; omega, a6, a7, a8, a9, a10, a11, a12, a13, a14, a15, a16, a17⟩
  · exact ⟨a1, a2, a3, a4, a5, a6, a7, a8, a9, a10, a11, a12, a13, a14, a15, a16, a17⟩
theorem Ok.start (h : Ok S B) {t : Nat} (h1 : 1 ≤ t) (h2 : t < 17) : Ok (start S t) (B + 1) := ((h.set h1 (h.risen h2)).queue h1 h2).fill
theorem now_bd (h : Ok S B) : 0 ≤ now S ∧ now S ≤ S.k := by
  have h1 := h.n1
  have h0 := h.k0
  unfold now
  exact ⟨Int.ediv_nonneg h0 (by omega), Int.ediv_le_self _ h0⟩
theorem full_ok {x : Tk} {k s : Int} (h : TkOk x B k) (s0 : 0 ≤ s) (sk : s ≤ k) : TkOk (full x s) B k := by
  obtain ⟨a1, a2, a3, a4, a5, a6, a7, a8, a9, a10, a11, a12, a13, a14, a15, a16, a17⟩ := h
  exact ⟨a1, a2, a3, a4, a5, a6, ⟨a7.1, fun e => absurd (show false = true from e) (by decide)⟩, a8, a9, a10, a11, a8, a9, fun _ hc => by show 1 ≤ x.rb; have : ¬ x.rb = 0 := fun e => a17 e hc; omega, by show 0 ≤ s + x.rp; omega, by show s + x.rp ≤ k + 30; omega, a17⟩
theorem wokeR_ok {x : Tk} {k n : Int} (h : TkOk x B k) (n0 : 0 ≤ n) (nk : n ≤ k) : TkOk (wokeR x n) B k := by
  unfold wokeR; split
  · exact full_ok h n0 nk
  · exact h
theorem again_ok {x : Tk} {k n : Int} (h : TkOk x B k) (nk : n ≤ k) : TkOk (again x n) B k := by
  unfold again; split
  · next e => exact full_ok h h.d0 (by omega)
  · exact h
theorem charged_ok {x : Tk} {k : Int} (h : TkOk x B k) : TkOk (charged x) (B + 1) k := by
  have hm := h.mono (show B ≤ B + 1 by omega) (Int.le_refl k)
  obtain ⟨a1, a2, a3, a4, a5, a6, a7, a8, a9, a10, a11, a12, a13, a14, a15, a16, a17⟩ := h
  unfold charged; split
  · next e =>
    have hc := costOf_bd (a6 e)
    exact ⟨a1, a2, a3, by show 0 ≤ x.t + costOf x.v; omega, by show x.t + costOf x.v ≤ _; omega, a6, a7, a8, a9, a10, a11, a12, a13, a14, a15, a16, a17⟩
  · split
    · next e1 e =>
      unfold used; split
      · exact hm
      · next ho =>
        have h1 := a14 (by simpa using ho) e
        exact ⟨a1, a2, a3, a4, by show x.t ≤ _; omega, a6, ⟨a7.1, fun _ => e⟩, a8, a9, a10, a11, by show 0 ≤ x.rl - 1; omega, by show x.rl - 1 ≤ 30; omega, fun hq _ => by
          show 1 ≤ x.rl - 1
          have hq2 : (x.rl - 1 == 0) = false := hq
          simp at hq2; omega, a15, a16, a17⟩
    · exact hm
/-- A tick has been charged, and counted. -/
theorem Ok.charged_tick (h : Ok S B) {c : Nat} (hc : c < 4) : Ok { S with T := upd S.T (S.on c) (charged (S.T (S.on c))), k := S.k + 1 } (B + 1) := by
  have hk := h.k0
  have hkB := h.kB
  have hz : charged noTk = noTk := by unfold charged; rw [if_neg (by decide), if_neg (by decide)]
  refine ⟨h.n1, h.n4, h.on, by show 0 ≤ S.k + 1; omega, by show S.k + 1 ≤ B + 1; omega, h.g0, by show S.g ≤ B + 1; have := h.gB; omega, fun j hj => ?_, ?_⟩
  · show TkOk (upd S.T (S.on c) (charged (S.T (S.on c))) j) (B + 1) (S.k + 1)
    unfold upd; split
    · next e => exact (charged_ok (h.tk _ (by have := h.on c hc; omega))).mono (Int.le_refl _) (by omega)
    · exact (h.tk j hj).mono (by omega) (by omega)
  · show upd S.T (S.on c) (charged (S.T (S.on c))) 0 = noTk
    unfold upd; split
    · next e => rw [← e, h.z, hz]
    · exact h.z
/-- Time has passed for the first j of them. -/
theorem Ok.passTo (h : Ok S B) {n : Int} (hn : n ≤ S.k) (j : Nat) : Ok (passTo S n j) B := by
  refine ⟨h.n1, h.n4, h.on, h.k0, h.kB, h.g0, h.gB, fun i hi => ?_, ?_⟩
  · show TkOk (if i < j then again (S.T i) n else S.T i) B S.k
    split
    · exact again_ok (h.tk i hi) hn
    · exact h.tk i hi
  · show (if 0 < j then again (S.T 0) n else S.T 0) = noTk
    rw [h.z]
    split
    · unfold again; rw [if_neg (by simp)]
    · rfl
theorem Ok.tick (h : Ok S B) {c : Nat} (hc : c < 4) : Ok (tick S c) (B + 1 + 1) := by
  have h1 := h.charged_tick hc
  exact (Ok.clr (h1.passTo (now_bd h1).2 17) hc).fill
end
end Go.Proofs.Ytddfdnhlghmapaa.Sp
