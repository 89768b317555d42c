/- The state of DeadBudget: a class with two tasks, and what the first one had. -/
import Derived.Test.YtijpiloljgpnkaaDBud
import Derived.Test.YtijpiloljgpnkaaDOps
namespace Go.Proofs.Ytijpiloljgpnkaa.De
set_option linter.unusedVariables false

/-- Two tasks. -/
def two (x y : Tk) : Tks := fun t => if t = 1 then x else if t = 2 then y else noTk

section
variable {x y z : Tk} {n : Int}
theorem two_1 : two x y 1 = x := rfl
theorem two_2 : two x y 2 = y := rfl
theorem two_no {t : Nat} (h1 : t ≠ 1) (h2 : t ≠ 2) : two x y t = noTk := by unfold two; rw [if_neg h1, if_neg h2]
theorem two_upd1 : upd (two x y) 1 z = two z y := by
  funext t; unfold upd two
  by_cases h : t = 1
  · rw [if_pos h, if_pos h]
  · rw [if_neg h, if_neg h, if_neg h]
theorem two_upd2 : upd (two x y) 2 z = two x z := by
  funext t; unfold upd two
  by_cases h : t = 2
  · subst h; rfl
  · rw [if_neg h, if_neg h, if_neg h]
theorem two_made (b q b2 q2 n n2 : Int) : upd (upd noT 1 (came b q n)) 2 (came b2 q2 n2) = two (came b q n) (came b2 q2 n2) := by
  funext t; unfold upd two noT
  by_cases h : t = 2
  · subst h; rfl
  · rw [if_neg h]
    by_cases h1 : t = 1
    · rw [if_pos h1, if_pos h1]
    · rw [if_neg h1, if_neg h1, if_neg h]
theorem two_past : past (two x y) n = two (again x (n + 1)) (again y (n + 1)) := by
  funext t
  have h0 : again noTk (n + 1) = noTk := by unfold again; exact if_neg (fun h => by cases h.1)
  unfold past pastTo
  by_cases h1 : t = 1
  · subst h1; rfl
  · by_cases h2 : t = 2
    · subst h2; rfl
    · rw [two_no h1 h2, two_no h1 h2, h0, ite_self]

theorem two_pickTo (k : Nat) : pickTo (two x y) (k + 3) = pickTo (two x y) 3 := by
  induction k with
  | zero => rfl
  | succ k ih =>
    rw [← ih]
    show (if _ then _ else _) = _
    rw [if_neg]
    rintro ⟨h, -⟩
    rw [two_no (by omega) (by omega)] at h
    cases h
theorem two_pick : pick (two x y) = pickTo (two x y) 3 := two_pickTo 14
theorem two_pick1 (hx : Can x) (h : ¬ Can y ∨ x.d ≤ y.d) : pick (two x y) = 1 := by
  rw [two_pick]
  have h1 : pickTo (two x y) 1 = 0 := if_neg (fun h => by cases h.1)
  have h2 : pickTo (two x y) 2 = 1 := if_pos ⟨hx.1, hx.2, Or.inl h1⟩
  show (if _ then _ else _) = _
  rw [h2]
  refine if_neg ?_
  rintro ⟨a, b, c⟩
  rcases h with h | h
  · exact h ⟨a, b⟩
  · rcases c with c | c
    · omega
    · exact absurd c (by show ¬ y.d < x.d; omega)
theorem two_pick2 (hy : Can y) (h : ¬ Can x ∨ y.d < x.d) : pick (two x y) = 2 := by
  rw [two_pick]
  have h1 : pickTo (two x y) 1 = 0 := if_neg (fun h => by cases h.1)
  rcases h with h | h
  · have h2 : pickTo (two x y) 2 = 0 := (if_neg (fun q => h ⟨q.1, q.2.1⟩)).trans h1
    exact if_pos ⟨hy.1, hy.2, Or.inl h2⟩
  · have h2 : pickTo (two x y) 2 = 0 ∨ pickTo (two x y) 2 = 1 := by
      show (if _ then _ else _) = _ ∨ (if _ then _ else _) = _
      by_cases q : (two x y 1).r = true ∧ (two x y 1).o = false ∧ (pickTo (two x y) 1 = 0 ∨ (two x y 1).d < (two x y (pickTo (two x y) 1)).d)
      · right; exact if_pos q
      · left; exact (if_neg q).trans h1
    refine if_pos ⟨hy.1, hy.2, ?_⟩
    rcases h2 with h2 | h2
    · exact Or.inl h2
    · right; rw [h2]; exact h
theorem two_pick0 (hx : ¬ Can x) (hy : ¬ Can y) : pick (two x y) = 0 := by
  rw [two_pick]
  have h1 : pickTo (two x y) 1 = 0 := if_neg (fun h => by cases h.1)
  have h2 : pickTo (two x y) 2 = 0 := (if_neg (fun q => hx ⟨q.1, q.2.1⟩)).trans h1
  exact (if_neg (fun q => hy ⟨q.1, q.2.1⟩)).trans h2
end

/-- The first task, and the second. -/
def st (q p l d : Int) (r : Bool) (m e : Int) : Tks := two ⟨q, p, l, d, r, l == 0⟩ ⟨1, 30, m, e, true, m == 0⟩

theorem again_tk (q p l d n : Int) (r : Bool) (hq : q ≠ 0) : again ⟨q, p, l, d, r, l == 0⟩ n = ⟨q, p, agl q l d n, agd p l d n, r, agl q l d n == 0⟩ := by
  unfold again agl agd fill
  by_cases h : l = 0 ∧ d ≤ n
  · have h1 : (l == 0) = true := by simp [h.1]
    have h2 : (q == 0) = false := by simp [hq]
    rw [if_pos h, if_pos h]
    dsimp only
    rw [if_pos ⟨h1, h.2⟩, h2]
  · have h1 : ¬ ((l == 0) = true ∧ d ≤ n) := by simpa using h
    rw [if_neg h, if_neg h]
    dsimp only
    rw [if_neg h1]

/-- What is always so. -/
structure Base (q p n l d m e : Int) : Prop where
  vq : 1 ≤ q
  vqp : q ≤ p
  vp : p ≤ 30
  vl : 0 ≤ l ∧ l ≤ q
  vd : 0 ≤ d ∧ d ≤ n + p
  vm : m = 0 ∨ m = 1
  ve : 0 ≤ e ∧ e ≤ n + 30
  vn : 0 ≤ n

section
variable {q p n l d m e : Int} {r : Bool} {gs : List Int}

theorem Base.fit (h : Base q p n l d m e) : Fit (st q p l d r m e) n := by
  have hq := h.vq
  have hqp := h.vqp
  have hp := h.vp
  have hl := h.vl
  have hd := h.vd
  have hm := h.vm
  have he := h.ve
  have hn := h.vn
  refine Fit.of (fun t _ => ?_) rfl
  unfold st two
  split
  · exact ⟨⟨by dsimp; omega, hqp⟩, hp, hl, ⟨hd.1, by dsimp; omega⟩, fun _ => by dsimp; omega, fun _ => hq, fun _ => by simp⟩
  · split
    · exact ⟨⟨by dsimp; omega, by dsimp; omega⟩, by dsimp; omega, ⟨by dsimp; omega, by dsimp; omega⟩, he, fun _ => by dsimp; omega, fun _ => by dsimp; omega, fun _ => by simp⟩
    · exact ok_no hn
theorem Base.bare (h : Base q p n l d m e) : Bare (st q p l d r m e) := by
  have hq := h.vq
  have hqp := h.vqp
  intro t _ hp
  unfold st two at hp ⊢
  split
  · rename_i ht; rw [if_pos ht] at hp; dsimp at hp; omega
  · rename_i ht
    rw [if_neg ht] at hp
    split
    · rename_i h2; rw [if_pos h2] at hp; dsimp at hp; omega
    · rfl

/-- All that is so between two plays. -/
structure SInv (q p n l d : Int) (r : Bool) (m e : Int) (gs : List Int) : Prop where
  base : Base q p n l d m e
  edf : q < p → Edf q p n l d r m e
  win : q < p → Win q p n l d gs
  len : n = gs.length
  bit : ∀ x ∈ gs, 0 ≤ x ∧ x ≤ 1

/-- .. ahead of a tick. -/
structure SInvT (q p n l d : Int) (r : Bool) (m e : Int) (gs : List Int) : Prop where
  base : Base q p n l d m e
  edf : q < p → EdfT q p n l d r m e
  win : q < p → Win q p n l d gs
  len : n = gs.length
  bit : ∀ x ∈ gs, 0 ≤ x ∧ x ≤ 1

theorem SInv.start (hq : 1 ≤ q) (hqp : q ≤ p) (hp : p ≤ 30) : SInv q p 0 q p true 1 30 [] :=
  ⟨⟨hq, hqp, hp, ⟨by omega, by omega⟩, ⟨by omega, by omega⟩, Or.inr rfl, ⟨by omega, by omega⟩, Int.le_refl _⟩,
   fun h => ⟨fun _ => by omega, fun _ _ => ⟨by omega, fun _ _ => by omega⟩, by omega, by omega, fun _ => Or.inl (by omega)⟩,
   fun h => Win.start q p (by omega) (by omega), rfl, fun x hx => by cases hx⟩

theorem SInv.stay (h : SInv q p n l d r m e gs) : SInvT q p n l d r m e gs := ⟨h.base, fun x => (h.edf x).stay, h.win, h.len, h.bit⟩
theorem SInv.block (h : SInv q p n l d r m e gs) : SInvT q p n l d false m e gs := ⟨h.base, fun x => (h.edf x).block, h.win, h.len, h.bit⟩

theorem SInv.wake (h : SInv q p n l d false m e gs) : ∃ l' d', woke ⟨q, p, l, d, false, l == 0⟩ n = ⟨q, p, l', d', true, l' == 0⟩ ∧ SInvT q p n l' d' true m e gs := by
  have hb := h.base
  have b1 := hb.vq
  have b2 := hb.vqp
  have b3 := hb.vp
  have b4 := hb.vl
  have b5 := hb.vd
  have b6 := hb.vn
  unfold woke
  dsimp only
  by_cases hs : (l == 0) = false ∧ Stale ⟨q, p, l, d, false, l == 0⟩ n
  · rw [if_pos hs]
    have hs2 : d ≤ n ∨ q * (d - n) < l * p := hs.2
    refine ⟨q, n + p, ?_, ⟨b1, b2, b3, ⟨by omega, by omega⟩, ⟨by omega, by omega⟩, hb.vm, hb.ve, b6⟩, fun x => (h.edf x).wake_new b1 x b3, fun x => (h.win x).wake hs2 b4.1 (by omega), h.len, h.bit⟩
    unfold fill
    have : (q == 0) = false := by simp; omega
    rw [this]
  · rw [if_neg hs]
    refine ⟨l, d, rfl, h.base, fun x => ?_, h.win, h.len, h.bit⟩
    have ha := (h.edf x).fa
    by_cases h0 : l = 0
    · exact ⟨ha, fun _ h1 => absurd h0 h1, (h.edf x).fd, (h.edf x).dp, fun hm => Or.inl ((h.edf x).full hm)⟩
    · have h1 : ¬ Stale ⟨q, p, l, d, false, l == 0⟩ n := fun hh => hs ⟨by simp [h0], hh⟩
      have h2 : ¬ (d ≤ n ∨ q * (d - n) < l * p) := h1
      exact (h.edf x).wake_old b4.1 b1 x b3 (by omega) (by omega)

theorem st_can1 : Can (⟨q, p, l, d, r, l == 0⟩ : Tk) ↔ r = true ∧ l ≠ 0 := by unfold Can; simp
theorem st_can2 : Can (⟨1, 30, m, e, true, m == 0⟩ : Tk) ↔ m ≠ 0 := by unfold Can; simp

theorem Base.next (h : Base q p n l d m e) {l2 m2 : Int} (hl : 0 ≤ l2 ∧ l2 ≤ q) (hm : m2 = 0 ∨ m2 = 1) :
    Base q p (n + 1) (agl q l2 d (n + 1)) (agd p l2 d (n + 1)) (agl 1 m2 e (n + 1)) (agd 30 m2 e (n + 1)) := by
  have b1 := h.vq
  have b2 := h.vqp
  have b5 := h.vd
  have b6 := h.vn
  have b7 := h.ve
  refine ⟨b1, b2, h.vp, ?_, ?_, ?_, ?_, by omega⟩
  · unfold agl; split <;> omega
  · unfold agd; split <;> omega
  · unfold agl; split
    · right; rfl
    · exact hm
  · unfold agd; split <;> omega

theorem bit_snoc {g : Int} (h : ∀ x ∈ gs, 0 ≤ x ∧ x ≤ 1) (hg : 0 ≤ g ∧ g ≤ 1) : ∀ x ∈ gs ++ [g], 0 ≤ x ∧ x ≤ 1 := by
  intro x hx
  rcases List.mem_append.1 hx with hx | hx
  · exact h x hx
  · simp at hx; subst hx; exact hg

/-- A tick. -/
theorem SInvT.tick (h : SInvT q p n l d r m e gs) : ∃ (k : Nat) (l' d' m' e' : Int), pick (st q p l d r m e) = k ∧ De.tick (st q p l d r m e) n = st q p l' d' r m' e' ∧ SInv q p (n + 1) l' d' r m' e' (gs ++ [if k = 1 then 1 else 0]) := by
  have hb := h.base
  have b1 := hb.vq
  have b2 := hb.vqp
  have b3 := hb.vp
  have b4 := hb.vl
  have b5 := hb.vd
  have b6 := hb.vn
  have hlen : n + 1 = ((gs.length + 1 : Nat) : Int) := by have := h.len; omega
  by_cases c1 : r = true ∧ l ≠ 0
  · obtain ⟨rfl, hl0⟩ := c1
    by_cases c2 : m = 0 ∨ d ≤ e
    · have hp : pick (st q p l d true m e) = 1 := two_pick1 (st_can1.2 ⟨rfl, hl0⟩) (c2.imp (fun h x => st_can2.1 x h) id)
      refine ⟨1, agl q (l - 1) d (n + 1), agd p (l - 1) d (n + 1), agl 1 m e (n + 1), agd 30 m e (n + 1), hp, ?_, ?_⟩
      · unfold De.tick
        rw [if_neg (by omega), hp]
        unfold st
        rw [two_upd1, two_past]
        show two (again ⟨q, p, l - 1, d, true, l - 1 == 0⟩ (n + 1)) _ = _
        rw [again_tk _ _ _ _ _ _ (by omega), again_tk _ _ _ _ _ _ (by omega)]
      · rw [if_pos rfl]
        refine ⟨hb.next ⟨by omega, by omega⟩ hb.vm, fun x => (h.edf x).one b1 x b3 hl0 b4.1 b4.2 hb.vm c2, fun x => ?_, by rw [List.length_append, List.length_singleton]; omega, bit_snoc h.bit (by omega)⟩
        have := (h.edf x).fc rfl hl0
        exact (h.win x).tick h.len (by omega) (by omega) (Or.inr ⟨rfl, by omega⟩) (by omega) b4.2 b5.2 (fun _ => by omega)
    · have hm : m = 1 := by have := hb.vm; omega
      subst hm
      have hp : pick (st q p l d true 1 e) = 2 := two_pick2 (st_can2.2 (by omega)) (Or.inr (by show e < d; omega))
      refine ⟨2, agl q l d (n + 1), agd p l d (n + 1), agl 1 0 e (n + 1), agd 30 0 e (n + 1), hp, ?_, ?_⟩
      · unfold De.tick
        rw [if_neg (by omega), hp]
        unfold st
        rw [two_upd2, two_past]
        show two _ (again ⟨1, 30, 0, e, true, (0 : Int) == 0⟩ (n + 1)) = _
        rw [again_tk _ _ _ _ _ _ (by omega), again_tk _ _ _ _ _ _ (by omega)]
      · rw [if_neg (by omega)]
        refine ⟨hb.next b4 (Or.inl rfl), fun x => (h.edf x).two b1 x b3 b4.1 (Or.inr (Or.inr (by omega))), fun x => ?_, by rw [List.length_append, List.length_singleton]; omega, bit_snoc h.bit (by omega)⟩
        have := (h.win x).tick (g := 0) h.len (by omega) (by omega) (Or.inl rfl) (by omega) b4.2 b5.2 (fun h0 => by omega)
        rwa [Int.sub_zero] at this
  · have hno : ¬ Can (⟨q, p, l, d, r, l == 0⟩ : Tk) := fun x => c1 (st_can1.1 x)
    have hr : r = false ∨ l = 0 := by
      cases r with
      | false => exact Or.inl rfl
      | true => right; apply Decidable.byContradiction; intro h0; exact c1 ⟨rfl, h0⟩
    by_cases c2 : m = 0
    · subst c2
      have hp : pick (st q p l d r 0 e) = 0 := two_pick0 hno (fun x => st_can2.1 x rfl)
      refine ⟨0, agl q l d (n + 1), agd p l d (n + 1), agl 1 0 e (n + 1), agd 30 0 e (n + 1), hp, ?_, ?_⟩
      · unfold De.tick
        rw [if_pos hp]
        unfold st
        rw [two_past, again_tk _ _ _ _ _ _ (by omega), again_tk _ _ _ _ _ _ (by omega)]
      · rw [if_neg (by omega)]
        refine ⟨hb.next b4 (Or.inl rfl), fun x => (h.edf x).nobody b1 x b3 b4.1 hr, fun x => ?_, by rw [List.length_append, List.length_singleton]; omega, bit_snoc h.bit (by omega)⟩
        have := (h.win x).tick (g := 0) h.len (by omega) (by omega) (Or.inl rfl) (by omega) b4.2 b5.2 (fun h0 => (h.edf x).fa (by omega))
        rwa [Int.sub_zero] at this
    · have hm : m = 1 := by have := hb.vm; omega
      subst hm
      have hp : pick (st q p l d r 1 e) = 2 := two_pick2 (st_can2.2 (by omega)) (Or.inl hno)
      refine ⟨2, agl q l d (n + 1), agd p l d (n + 1), agl 1 0 e (n + 1), agd 30 0 e (n + 1), hp, ?_, ?_⟩
      · unfold De.tick
        rw [if_neg (by omega), hp]
        unfold st
        rw [two_upd2, two_past]
        show two _ (again ⟨1, 30, 0, e, true, (0 : Int) == 0⟩ (n + 1)) = _
        rw [again_tk _ _ _ _ _ _ (by omega), again_tk _ _ _ _ _ _ (by omega)]
      · rw [if_neg (by omega)]
        refine ⟨hb.next b4 (Or.inl rfl), fun x => (h.edf x).two b1 x b3 b4.1 (hr.imp id Or.inl), fun x => ?_, by rw [List.length_append, List.length_singleton]; omega, bit_snoc h.bit (by omega)⟩
        have := (h.win x).tick (g := 0) h.len (by omega) (by omega) (Or.inl rfl) (by omega) b4.2 b5.2 (fun h0 => (h.edf x).fa (by omega))
        rwa [Int.sub_zero] at this

theorem SInv.sum (h : SInv q p n l d r m e gs) : 0 ≤ from_ gs (gs.length - p.toNat) ∧ from_ gs (gs.length - p.toNat) ≤ 3 * q := by
  have hb := h.base
  have b1 := hb.vq
  have b2 := hb.vqp
  have b4 := hb.vl
  have b5 := hb.vd
  have h1 := from_le h.bit (gs.length - p.toNat)
  refine ⟨h1.1, ?_⟩
  by_cases x : q < p
  · exact (h.win x).sum h.len (by omega) (by omega) b4.1 b5.2
  · omega
end
end Go.Proofs.Ytijpiloljgpnkaa.De
