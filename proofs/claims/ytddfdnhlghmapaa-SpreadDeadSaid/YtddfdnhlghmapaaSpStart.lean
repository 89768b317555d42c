/- Contracts of package spread: isTask, isKind, find, isCpu, all, now, charge, start. -/
import Derived.Test.YtddfdnhlghmapaaSpFill
namespace Go.Proofs.Ytddfdnhlghmapaa.Sp
open Go.ChangeShapes Go.WideShapes Go.ChangeAt Go.RowKit Go.Maps
open Go.Proofs.Ytddfdnhlghmapaa.Vt
set_option linter.unusedVariables false

theorem isTask_any (t : Int) (w : World) : Calls Try.prog 68 #[.int .i64 t] w fun e w' => e = .returned (.bool (isNo t)) ∧ w = w' := by
  by_cases h1 : 1 ≤ t
  · by_cases h2 : t ≤ 16
    · rw [show isNo t = true from decide_eq_true ⟨h1, h2⟩]
      go_enter Try.func68, Try.ntmps68
      go_wp2
      go_ret
      exact ⟨rfl, rfl⟩
    · rw [show isNo t = false from decide_eq_false (fun q => h2 q.2)]
      go_enter Try.func68, Try.ntmps68
      go_wp2
      go_ret
      exact ⟨rfl, rfl⟩
  · rw [show isNo t = false from decide_eq_false (fun q => h1 q.1)]
    go_enter Try.func68, Try.ntmps68
    go_wp2
    go_ret
    exact ⟨rfl, rfl⟩
theorem isKind_any (c v : Int) (w : World) : Calls Try.prog 69 #[.int .i64 c, .int .i64 v] w fun e w' => e = .returned (.bool (kindOk c v)) ∧ w = w' := by
  by_cases h1 : c = 1
  · subst h1
    by_cases h2 : 1 ≤ v
    · by_cases h3 : v ≤ 100
      · rw [show kindOk 1 v = true from decide_eq_true (Or.inl ⟨rfl, h2, h3⟩)]
        go_enter Try.func69, Try.ntmps69
        go_wp2
        go_ret
        exact ⟨rfl, rfl⟩
      · rw [show kindOk 1 v = false from decide_eq_false (by omega)]
        go_enter Try.func69, Try.ntmps69
        go_wp2
        go_ret
        exact ⟨rfl, rfl⟩
    · rw [show kindOk 1 v = false from decide_eq_false (by omega)]
      go_enter Try.func69, Try.ntmps69
      go_wp2
      go_ret
      exact ⟨rfl, rfl⟩
  · by_cases h2 : c = 2
    · subst h2
      by_cases h3 : 0 ≤ v
      · by_cases h4 : v < 8
        · rw [show kindOk 2 v = true from decide_eq_true (Or.inr ⟨rfl, h3, by omega⟩)]
          go_enter Try.func69, Try.ntmps69
          go_wp2
          go_ret
          exact ⟨rfl, rfl⟩
        · rw [show kindOk 2 v = false from decide_eq_false (by omega)]
          go_enter Try.func69, Try.ntmps69
          go_wp2
          go_ret
          exact ⟨rfl, rfl⟩
      · rw [show kindOk 2 v = false from decide_eq_false (by omega)]
        go_enter Try.func69, Try.ntmps69
        go_wp2
        go_ret
        exact ⟨rfl, rfl⟩
    · rw [show kindOk c v = false from decide_eq_false (by omega)]
      have e1 : (c == 1) = false := by simp [h1]
      have e2 : (c == 2) = false := by simp [h2]
      go_enter Try.func69, Try.ntmps69
      go_wp2
      go_ret
      exact ⟨rfl, rfl⟩

theorem run_max2 (x y m : Int) (h : max x y = m) (w : World) (ts : Array TypeId) (t : TypeId) : (Builtin.max_ ts t #[.int .i64 x, .int .i64 y]).run Try.prog w = .ok (.int .i64 m) w := by
  subst h
  have e : (if y > x then y else x) = max x y := by rw [Int.max_def]; split <;> split <;> omega
  simp [Builtin.max_, Builtin.max2, e]

section
variable {w w' : World} {p : Nat} {S : St}
theorem isNo_nat {k : Nat} (h1 : 1 ≤ k) (h2 : k ≤ 16) : isNo (k : Int) = true := decide_eq_true (by omega)
theorem find_yes (h : RunAt w p S) (k : Nat) (h1 : 1 ≤ k) (h2 : k ≤ 16) (hc : (S.T k).c ≠ 0) :
    Calls Try.prog 70 #[.pointer (some ⟨p, 0, none⟩), .int .i64 k] w fun e w' => e = .returned (.pointer (some ⟨p, 5 + k * 13, none⟩)) ∧ w = w' := by
  have cc := h.qc k (by omega)
  have ht := Lib.hid (isTask_any (k : Int) w)
  rw [isNo_nat h1 h2] at ht
  have c0 : ((S.T k).c == 0) = false := by simp [hc]
  have g1 : (k : Int) < 17 := by omega
  clear h hc
  go_enter Try.func70, Try.ntmps70
  go_wp2_with (go_at_call 68; (with_reducible refine ht.out.mono ?_); rintro e w' ⟨rfl, rfl⟩)
  go_ret
  exact ⟨rfl, rfl⟩
theorem find_no (h : RunAt w p S) (t : Int) (hn : ¬ There S t) :
    Calls Try.prog 70 #[.pointer (some ⟨p, 0, none⟩), .int .i64 t] w fun e w' => e = .returned (.pointer none) ∧ w = w' := by
  have ht := Lib.hid (isTask_any t w)
  by_cases hi : 1 ≤ t ∧ t ≤ 16
  · obtain ⟨k, rfl⟩ : ∃ k : Nat, t = k := ⟨t.toNat, by omega⟩
    have hc : (S.T k).c = 0 := Decidable.byContradiction fun q => hn ⟨hi.1, hi.2, by simpa using q⟩
    have cc := h.qc k (by omega)
    rw [hc] at cc
    rw [isNo_nat (by omega) (by omega)] at ht
    have g1 : (k : Int) < 17 := by omega
    clear h hc hn hi
    go_enter Try.func70, Try.ntmps70
    go_wp2_with (go_at_call 68; (with_reducible refine ht.out.mono ?_); rintro e w' ⟨rfl, rfl⟩)
    go_ret
    exact ⟨rfl, rfl⟩
  · rw [show isNo t = false from decide_eq_false hi] at ht
    clear h hn hi
    go_enter Try.func70, Try.ntmps70
    go_wp2_with (go_at_call 68; (with_reducible refine ht.out.mono ?_); rintro e w' ⟨rfl, rfl⟩)
    go_ret
    exact ⟨rfl, rfl⟩

/-- Is there a processor of this number? -/
def isCpu (S : St) (c : Int) : Bool := decide (0 ≤ c ∧ c < (S.n : Nat))
theorem isCpu_any (h : RunAt w p S) (c : Int) :
    Calls Try.prog 72 #[.pointer (some ⟨p, 0, none⟩), .int .i64 c] w fun e w' => e = .returned (.bool (isCpu S c)) ∧ w = w' := by
  have cn := h.hn
  clear h
  by_cases h1 : 0 ≤ c
  · by_cases h2 : c < (S.n : Nat)
    · rw [show isCpu S c = true from decide_eq_true ⟨h1, h2⟩]
      go_enter Try.func72, Try.ntmps72
      go_wp2
      go_ret
      exact ⟨rfl, rfl⟩
    · rw [show isCpu S c = false from decide_eq_false (fun q => h2 q.2)]
      go_enter Try.func72, Try.ntmps72
      go_wp2
      go_ret
      exact ⟨rfl, rfl⟩
  · rw [show isCpu S c = false from decide_eq_false (fun q => h1 q.1)]
    go_enter Try.func72, Try.ntmps72
    go_wp2
    go_ret
    exact ⟨rfl, rfl⟩

theorem all_bd (S : St) (hf : Fine S) : all S < 16 := by
  have h1 := hf.n1
  have h4 := hf.n4
  unfold all
  rcases (show S.n = 1 ∨ S.n = 2 ∨ S.n = 3 ∨ S.n = 4 by omega) with e | e | e | e <;> rw [e] <;> decide
theorem all_any (h : RunAt w p S) (hf : Fine S) :
    Calls Try.prog 98 #[.pointer (some ⟨p, 0, none⟩)] w fun e w' => e = .returned (.int .i64 (all S : Nat)) ∧ w = w' := by
  have cn := h.hn
  unfold all
  have h1 := hf.n1
  have h4 := hf.n4
  clear h hf
  rcases (show S.n = 1 ∨ S.n = 2 ∨ S.n = 3 ∨ S.n = 4 by omega) with e | e | e | e <;> rw [e] at cn ⊢ <;> clear e h1 h4 <;>
  · go_enter Try.func98, Try.ntmps98
    go_wp2
    go_ret
    exact ⟨rfl, rfl⟩

theorem now_any (h : RunAt w p S) (hf : Fine S) (k0 : 0 ≤ S.k) (kB : S.k ≤ 9000000000000000000) :
    Calls Try.prog 79 #[.pointer (some ⟨p, 0, none⟩)] w fun e w' => e = .returned (.int .i64 (now S)) ∧ Only (fun _ => False) w w' := by
  have cn := h.hn
  have ck := h.hk
  unfold now
  have h1 := hf.n1
  have h4 := hf.n4
  clear h hf
  generalize S.k = k at *
  rcases (show S.n = 1 ∨ S.n = 2 ∨ S.n = 3 ∨ S.n = 4 by omega) with e | e | e | e <;> rw [e] at cn ⊢ <;> clear e h1 h4 <;>
  · go_enter Try.func79, Try.ntmps79
    go_wp2_with fail
    go_quiet (fail)
    go_wp2_with fail
    go_ret
    exact ⟨by first | rfl | exact ret_int (Int.ediv_one k).symm, only_drewN (Only.refl _ _) _⟩

theorem Fine.set (h : Fine S) (t : Nat) {x : Tk} (hm : t < 17 → x.m < 16) (hv : t < 17 → (-1000 ≤ x.v ∧ x.v ≤ 1000) ∧ -1000 ≤ x.bv ∧ x.bv ≤ 1000) : Fine { S with T := upd S.T t x } := by
  refine ⟨h.n1, h.n4, h.on, fun j hj => ?_, fun j hj => ?_⟩
  · show (upd S.T t x j).m < 16
    unfold upd; split
    · next e => subst e; exact hm hj
    · exact h.m j hj
  · show (-1000 ≤ (upd S.T t x j).v ∧ (upd S.T t x j).v ≤ 1000) ∧ -1000 ≤ (upd S.T t x j).bv ∧ (upd S.T t x j).bv ≤ 1000
    unfold upd; split
    · next e => subst e; exact hv hj
    · exact h.v j hj
theorem Fine.queue (h : Fine S) (t : Nat) : Fine (queue S t) := by
  have := h.set t (x := { S.T t with s := S.g + 1 }) (fun ht => h.m t ht) (fun ht => h.v t ht)
  exact ⟨this.n1, this.n4, this.on, this.m, this.v⟩
theorem Fine.risen (h : Fine S) (t : Nat) : Fine { S with T := upd S.T t (risen S t) } := by
  refine h.set t (fun ht => ?_) (fun ht => ?_)
  · unfold Sp.risen; split <;> exact h.m t ht
  · unfold Sp.risen; split <;> exact h.v t ht
theorem Fine.clr (h : Fine S) (c : Nat) : Fine (clr S c) := by
  unfold Sp.clr; split
  · exact h
  · exact (h.queue _).set_on (upd_on_le h.on (by omega))
theorem Fine.off (h : Fine S) (t : Nat) : Fine (off S t) := by
  unfold Sp.off; split
  · exact h.clr _
  · exact h

theorem start_any (h : RunAt w p S) (hf : Fine S) (t : Nat) (ht : t < 17) (g0 : 0 ≤ S.g) (g1 : S.g ≤ 9000000000000000000) :
    Calls Try.prog 89 #[.pointer (some ⟨p, 0, none⟩), .pointer (some ⟨p, 5 + t * 13, none⟩)] w (Keep p (start S t) (.tuple #[]) w) := by
  have H := Lib.hid h
  have hl := Lib.hid (fun W (h : RunAt W p S) => least_any h)
  have hq := Lib.hid (fun W (h : RunAt W p { S with T := upd S.T t (risen S t) }) => queue_any h t ht g0 g1)
  have hfl := Lib.hid (fun W (h : RunAt W p (queue { S with T := upd S.T t (risen S t) } t)) => fills h ((hf.risen t).queue t))
  have cc := h.qc t ht
  have ct := h.qt t ht
  have cr := h.qr t ht
  have fz := h.frozen
  by_cases hc : (S.T t).c = 1
  · have ER : Hid (risen S t = { S.T t with t := max (S.T t).t (least S), r := true }) := Lib.hid (by unfold risen; rw [if_pos hc])
    rw [hc] at cc
    have mx := fun w ts ty => run_max2 (S.T t).t (least S) _ rfl w ts ty
    have HRr : Hid (∀ W, RunAt W p { S with T := upd S.T t { S.T t with t := max (S.T t).t (least S) } } → RunAt (W.setCell ⟨p, 5 + t * 13 + 4, none⟩ (.bool true)) p { S with T := upd S.T t (risen S t) }) := Lib.hid (fun W hW => by
      have := hW.set_r t ht true
      simp only [upd_upd, upd_same] at this
      rw [ER.out]; exact this)
    generalize hls : least S = ls at *
    generalize hmm : max (S.T t).t ls = mm at *
    clear h hf hc ER
    go_enter Try.func89, Try.ntmps89
    go_wp2_with fail
    go_region_with (go_at_call 131; (with_reducible refine (hl.out _ (H.out.later (Only.refl _ _).drew)).mono ?_); rintro e w2 ⟨rfl, hO⟩; have HR2 := Lib.hid ((H.out.later (Only.refl (fun _ => False) _).drew).later hO); have HO2 := Lib.hid (only_pp (p := p) (only_p (Only.refl _ w).drew) (only_p hO)); have fz2 := HR2.out.frozen; have ct2 := HR2.out.qt t ht; clear hO)
    all_goals (
      have H3 := Lib.hid (HR2.out.set_t t ht mm)
      have O3 := Lib.hid (only1 (p := p) (5 + t * 13 + 7) (.int .i64 mm) HO2.out)
      clear HR2 HO2 fz2 ct2 fz ct cc cr hl mx
      generalize w2.setCell _ _ = w3 at *
      have cr3 := H3.out.qr t ht
      have fz3 := H3.out.frozen
      go_wp2_with (first
        | (go_at_call 124; (with_reducible refine (hq.out _ (HRr.out _ H3.out)).mono ?_); rintro e w4 ⟨rfl, hR, hO⟩; have H4 := Lib.hid hR; have O4 := Lib.hid (only_pp (only1 _ _ O3.out) hO); clear hR hO)
        | (go_at_call 84; (with_reducible refine (hfl.out _ H4.out).mono ?_); rintro e w5 ⟨rfl, hR, hO⟩; have H5 := Lib.hid hR; have O5 := Lib.hid (only_pp O4.out hO); clear hR hO))
      go_end0
      exact ⟨rfl, H5.out, O5.out⟩)
  · have ER : Hid (risen S t = { S.T t with r := true }) := Lib.hid (by unfold risen; rw [if_neg hc])
    have c0 : ((S.T t).c == 1) = false := by simp [hc]
    have HRr : Hid (∀ W, RunAt W p S → RunAt (W.setCell ⟨p, 5 + t * 13 + 4, none⟩ (.bool true)) p { S with T := upd S.T t (risen S t) }) := Lib.hid (fun W hW => by rw [ER.out]; exact hW.set_r t ht true)
    clear h hf hc ER hl
    go_enter Try.func89, Try.ntmps89
    go_wp2_with (first
      | (go_at_call 124; (with_reducible refine (hq.out _ (HRr.out _ H.out)).mono ?_); rintro e w4 ⟨rfl, hR, hO⟩; have H4 := Lib.hid hR; have O4 := Lib.hid (only_pp (only1 (p := p) _ _ (Only.refl _ _)) hO); clear hR hO)
      | (go_at_call 84; (with_reducible refine (hfl.out _ H4.out).mono ?_); rintro e w5 ⟨rfl, hR, hO⟩; have H5 := Lib.hid hR; have O5 := Lib.hid (only_pp O4.out hO); clear hR hO))
    go_end0
    exact ⟨rfl, H5.out, O5.out⟩
end
end Go.Proofs.Ytddfdnhlghmapaa.Sp
