/- The walk of DeadPlays as far as its cases: what each case must show stands as a proposition of its own. -/
import Derived.Test.YtijpiloljgpnkaaDPlay
import Derived.Deep.CutBlock
import Derived.BigRegion
import Derived.Deep.RegionLaw
namespace Go.Proofs.Ytijpiloljgpnkaa.De
open Go.ChangeShapes Go.WideShapes Go.ChangeAt Go.RowKit Go.Maps
open Go.Proofs.Ytijpiloljgpnkaa.Pt
set_option linter.unusedVariables false

theorem both_zero {w w1 : World} {p : Nat} (hF : DeadAt w1 p noT 0) (hp : w.heap.size ≤ p) (hO : Only (fun _ => False) w w1) :
    Both w.heap.size (w1.alloc (.cells #[.int .i64 0, .slice none 0 0] 31)) p w1.heap.size [] noT 0 0 := by
  refine ⟨hF.later ((Only.refl _ w1).alloc _), ⟨⟨_, heap_alloc_new w1 _, row_nil _ _, (fun g hg => by cases hg)⟩, (fun x hx => by cases hx), ⟨hO.size, (fun x hx => by cases hx)⟩, (fun x hx => by cases hx), List.nodup_nil, List.nodup_nil⟩, ⟨(fun x hx => by cases hx), (fun t _ hc => absurd rfl hc), (fun x hx => by cases hx)⟩, fit_noT, bare_noT, hp, ⟨Int.le_refl _, Int.le_refl _⟩⟩

/-- What is known ere each play. -/
def Ere (B : Nat) (w : World) (p q n : Nat) (s46 : Value) (wr : World) : Prop :=
  ∃ (j : Nat) (L : List (Nat × Nat)) (T : Tks) (m : Int), j ≤ n ∧ s46 = .int .i64 j ∧ Both B wr p q L T m j ∧ Below B w wr

/-- What is known behind the switch. -/
def Mixed (B : Nat) (w : World) (p q j : Nat) (s10 s11 : Value) (wx : World) : Prop :=
  ∃ (e : Int) (L : List (Nat × Nat)) (T : Tks) (m : Int), s10 = .int .i64 e ∧ s11 = .int .i64 e ∧ Both B wx p q L T m ((j : Int) + 1) ∧ Below B w wx

/-- A fact that no step may look at. -/
structure Kept (P : Prop) : Prop where
  out : P
/-- A theorem that is cut into six cases. -/
structure Split (M : Prop) : Type where
  P1 : Prop
  P2 : Prop
  P3 : Prop
  P4 : Prop
  P5 : Prop
  P6 : Prop
  join : Kept P1 → Kept P2 → Kept P3 → Kept P4 → Kept P5 → Kept P6 → M
/-- What DeadPlays must do. -/
def PlaysMain : Prop := ∀ (a : Option Addr) (cap : Nat) (recs : List (List Int)) (w : World) (h : ArgRows w a recs.length cap recs) (hn : recs.length * 24 ≤ 140737488351232),
    Calls Try.prog 3 #[.slice a recs.length cap] w fun e w' => e = .returned (.bool true) ∧ Below w.heap.size w w'

set_option maxRecDepth 100000 in
set_option maxHeartbeats 60000000 in
noncomputable def cut : Split PlaysMain := by
  apply Split.mk
  case join =>
    intro h1 h2 h3 h4 h5 h6 a cap recs w h hn
    obtain ⟨-, hcap, hmx, -, hrow⟩ := h
    have HROW := Lib.hid hrow
    have hcm : cap ≤ 9223372036854775807 := by unfold maxLen at hmx; omega
    clear hrow hmx
    have HA : Hid (upd noT 1 (came 1 2 0) = oneT) := Lib.hid rfl
    have A0 := Lib.hid (fun wx px (hx : DeadAt wx px noT 0) => add_bad hx 1 3 2 (by unfold Good; omega))
    have A1 := Lib.hid (fun wx px (hx : DeadAt wx px noT 0) => add_is hx 1 1 1 2 rfl ⟨by omega, by omega, by omega, by omega, by omega, by omega⟩ rfl (by omega) (by omega))
    have K1 := Lib.hid (fun wx px (hx : DeadAt wx px oneT 0) => tick_is hx one_fit (by omega) (by omega) three_ticks.1 (k := 1) rfl (n' := 1) rfl)
    go_enter Try.func3, Try.ntmps3
    go_upto_region 4 with (first
      | (go_at_call 8; (with_reducible refine (new_any _).mono ?_); rintro e w1 ⟨p0, rfl, hp, hF, hO⟩; have HF0 := Lib.hid hF; have HP0 := Lib.hid hp; have HO0 := Lib.hid hO; clear hF hp hO)
      | (go_at_call 9; (with_reducible refine (A0.out _ _ HF0.out).mono ?_); rintro e w' ⟨rfl, rfl⟩)
      | (go_at_call 9; (with_reducible refine (A1.out _ _ HF0.out).mono ?_); rintro e w2 ⟨rfl, hF, hO⟩; rw [HA.out] at hF; have HF2 := Lib.hid hF; have HO2 := Lib.hid (only_new HO0.out hO HP0.out); clear hF hO)
      | (go_at_call 10; (with_reducible refine (K1.out _ _ HF2.out).mono ?_); rintro e w2' ⟨rfl, hF, hO⟩; have HO2' := Lib.hid (only_new HO2.out hO HP0.out); clear hF hO))
    clear A0 A1 K1 HF0 HF2 HA HP0 HO0 HO2
    go_wp2_with (first
      | (go_at_call 8; (with_reducible refine (new_any _).mono ?_); rintro e w3 ⟨p, rfl, hp, hF, hO⟩; have HB0 := Lib.hid (both_zero hF (Nat.le_trans HO2'.out.size hp) (only_trans HO2'.out hO)); have HBL := Lib.hid (((only_trans HO2'.out hO).alloc (.cells #[.int .i64 0, .slice none 0 0] 31)).below (Nat.le_refl w.heap.size) (fun _ e => e.elim)); clear hF hp hO HO2'))
    obtain ⟨q, hq⟩ : ∃ q, w3.heap.size = q := ⟨_, rfl⟩
    rw [hq] at HB0
    rw [hq]
    clear hq
    go_loopw [46] (fun i wr => Ere w.heap.size w p q recs.length i wr) (fun i _ => recs.length - (intOf i).toNat)
    case atStart => exact ⟨0, _, _, _, by omega, rfl, HB0.out, HBL.out⟩
    case round =>
      clear HB0 HBL
      obtain ⟨j, L, T, n, hj, rfl, hB, hbl⟩ := hrel
      have HB := Lib.hid hB
      have HBL := Lib.hid hbl
      clear hB hbl
      by_cases hjn : j < recs.length
      · obtain ⟨b, off, v, rfl, hbl, hc, hv⟩ := HROW.out j hjn
        have hcx := (HBL.out.cell (p := ⟨b, off + j, none⟩) hbl).trans hc
        have HV := Lib.hid (hv.later HBL.out)
        have KA := Lib.hid (fun (i : Nat) (hi : i ≤ 100) (w' : World) (hb : Below w.heap.size w w') => at_any i hi (hv.later hb))
        have K0 := Lib.hid (fun (w' : World) (hb : Below w.heap.size w w') => at_0 (hv.later hb))
        have K2 := Lib.hid (fun (w' : World) (hb : Below w.heap.size w w') => at_2 (hv.later hb))
        have K3 := Lib.hid (fun (w' : World) (hb : Below w.heap.size w w') => at_3 (hv.later hb))
        have g1 : (j : Int) < recs.length := by omega
        have g2 : (0 : Int) ≤ j := by omega
        have hid1 := hv.wf 1
        have hid2 := hv.wf 2
        have hid3 := hv.wf 3
        generalize recs.getD j [] = xs at *
        clear hc hv KA
        go_upto_region 10 with (first
          | (go_at_call 11; (with_reducible refine (at_1 HV.out).mono ?_); rintro e w' ⟨rfl, rfl⟩))
        have hk := find_known HB.out (nth xs 1)
        have HK0 := Lib.hid hk
        have HV1 := Lib.hid (HV.out.later ((Below.refl wr.heap.size wr).alloc (Nat.le_refl _) (.cells #[.pointer none] 34)))
        clear hk
        go_upto_region 12 with (go_at_call 12; (with_reducible refine HK0.out.mono ?_); rintro e w' ⟨ox, rfl, hkn, rfl⟩; have HKN := Lib.hid hkn; clear hkn)
        have hOa : Only (fun _ => False) wr (wr.alloc (.cells #[.pointer ox] 34)) := (Only.refl _ wr).alloc _
        have HB1 := Lib.hid (HB.out.later hOa)
        have HBL1 := Lib.hid (HBL.out.trans ((Below.refl w.heap.size wr).alloc HBL.out.size (.cells #[.pointer ox] 34)))
        have hX : ∃ V, Boxed w.heap.size wr.heap.size p q (wr.alloc (.cells #[.pointer ox] 34)) L V ox := by
          obtain ⟨V, h1, h2, h3⟩ := HB.out.ref.slice
          refine ⟨V, heap_alloc_new wr _, ?_, h2.later hOa, fun g hg => (h2.block hg).2, HB.out.dead.lt, HB.out.ref.lt, fun x hx => HB.out.ref.tlt hx, HBL.out.size⟩
          rw [← h1]; unfold World.cell?; rw [hOa.block q HB.out.ref.lt (fun e => e)]
        obtain ⟨V, hX⟩ := hX
        have HX := Lib.hid hX
        have HLen := Lib.hid (HB.out.ref.len16 HB.out.same)
        have nb : n ≤ 8000000000000000 := by have := HB.out.time.2; omega
        have NB := Lib.hid nb
        have N0 := Lib.hid HB.out.time.1
        clear hX nb
        clear HV HV1 HK0 hOa hcx HB HBL HROW
        go_upto_block 2 with (go_at_call 11; (with_reducible refine (K0.out _ HBL1.out).mono ?_); rintro e w' ⟨rfl, rfl⟩)
        generalize nth xs 0 = op at *
        generalize nth xs 1 = t at *
        generalize nth xs 2 = qa at *
        generalize nth xs 3 = pa at *
        generalize wr.alloc (.cells #[.pointer ox] 34) = w1 at *
        generalize wr.heap.size = Bx at *
        have HJ1 : Hid ((j : Int) ≤ (j : Int) + 1) := Lib.hid (by omega)
        go_cut [10, 11] (fun s10 s11 wx => Mixed w.heap.size w p q j s10 s11 wx)
        case first =>
          rename_i kA2 hA4 qA kA1 hA3 kA0 hA2 jJ kJ hM
          clear kA2 kA1 kA0
          by_cases o1 : op = 1
          · subst o1
            rename_i Q0 w01 K01
            try clear K01
            try clear w01
            try revert u0
            try revert u1
            try revert u2
            try revert u3
            try revert u4
            try revert u5
            try revert u6
            try revert u7
            try revert u8
            try revert u9
            try revert u10
            try revert u11
            try revert u12
            try revert u13
            try revert u14
            try revert u15
            try revert u16
            try revert u17
            try revert u18
            try revert u19
            try revert u20
            try revert u21
            try revert u22
            try revert u23
            try revert u24
            try revert u25
            try revert u26
            try revert u27
            try revert u28
            try revert u29
            try revert u30
            try revert u31
            try revert u32
            try revert u33
            try revert u34
            try revert u35
            try revert u36
            try revert u37
            try revert u38
            try revert u39
            try revert u40
            try revert u41
            try revert u42
            try revert u43
            try revert u44
            try revert u45
            try revert u46
            try revert u47
            try revert u48
            try revert u49
            try revert u50
            try revert u51
            try revert u52
            try revert u53
            try revert u54
            try revert u55
            try revert u56
            try revert u57
            try revert u58
            try revert u59
            try revert u60
            try revert u61
            try revert u62
            try revert u63
            try revert u64
            try revert u65
            try revert u66
            try revert u67
            try revert u68
            try revert u69
            try revert u70
            try revert u71
            try revert u72
            try revert u73
            try revert u74
            try revert u75
            try revert u76
            try revert u77
            try revert u78
            try revert u79
            try revert u80
            try revert u81
            try revert u82
            try revert u83
            try revert u84
            try revert u85
            try revert u86
            try revert u87
            try revert u88
            try revert u89
            try revert u90
            try revert u91
            try revert u92
            try revert u93
            try revert u94
            try revert u95
            try revert u96
            try revert u97
            try revert u98
            try revert u99
            try revert u100
            try revert u101
            try revert u102
            try revert u103
            try revert u104
            try revert u105
            try revert u106
            try revert u107
            try revert u108
            try revert u109
            try revert u110
            try revert u111
            try revert u112
            try revert u113
            try revert u114
            try revert u115
            try revert u116
            try revert u117
            try revert u118
            try revert u119
            try revert u120
            try revert u121
            try revert u122
            try revert u123
            try revert u124
            try revert u125
            try revert u126
            try revert u127
            try revert u128
            try revert u129
            try revert u130
            try revert u131
            try revert u132
            try revert u133
            try revert u134
            try revert u135
            try revert u136
            try revert u137
            try revert u138
            try revert u139
            try revert u140
            try revert u141
            try revert u142
            try revert u143
            try revert u144
            try revert u145
            try revert u146
            try revert u147
            try revert u148
            try revert u149
            try revert u150
            try revert u151
            try revert u152
            try revert u153
            try revert u154
            try revert u155
            try revert u156
            try revert u157
            try revert u158
            try revert u159
            try revert u160
            try revert u161
            try revert u162
            try revert u163
            try revert u164
            try revert u165
            try revert u166
            try revert u167
            try revert u168
            try revert u169
            try revert u170
            try revert u171
            try revert u172
            try revert u173
            try revert u174
            try revert u175
            try revert u176
            try revert u177
            try revert u178
            try revert u179
            try revert u180
            try revert u181
            try revert u182
            try revert u183
            try revert u184
            try revert u185
            try revert u186
            try revert u187
            try revert u188
            try revert u189
            try revert u190
            try revert u191
            try revert u192
            try revert u193
            try revert u194
            try revert u195
            try revert u196
            try revert u197
            try revert u198
            try revert u199
            try revert u200
            try revert u201
            try revert u202
            try revert u203
            try revert u204
            try revert u205
            try revert u206
            try revert u207
            try revert u208
            try revert u209
            try revert u210
            try revert u211
            try revert u212
            try revert u213
            try revert u214
            try revert u215
            try revert u216
            try revert u217
            try revert u218
            try revert u219
            try revert u220
            try revert u221
            try revert u222
            try revert u223
            try revert u224
            try revert u225
            try revert u226
            try revert u227
            try revert u228
            try revert u229
            try revert u230
            try revert u231
            try revert u232
            try revert u233
            try revert u234
            try revert u235
            try revert u236
            try revert u237
            try revert u238
            try revert u239
            try revert u240
            try revert u241
            try revert u242
            try revert u243
            try revert u244
            try revert u245
            try revert u246
            try revert u247
            try revert u248
            try revert u249
            try revert u250
            try revert u251
            try revert u252
            try revert u253
            try revert u254
            try revert u255
            try revert u256
            try revert u257
            try revert u258
            try revert u259
            try revert u260
            try revert u261
            try revert u262
            try revert u263
            try revert u264
            try revert u265
            try revert u266
            try revert u267
            try revert u268
            try revert u269
            try revert u270
            try revert u271
            try revert u272
            try revert u273
            try revert u274
            try revert u275
            try revert u276
            try revert u277
            try revert u278
            try revert u279
            try revert jJ
            try revert hA2
            try revert Bx
            try revert w1
            try revert pa
            try revert qa
            try revert t
            try revert V
            try revert hA3
            try revert ox
            try revert qA
            try revert hA4
            try revert xs
            try revert v
            try revert off
            try revert b
            try revert n
            try revert T
            try revert L
            try revert j
            try revert wr
            try revert q
            try revert p
            try revert w3
            try revert w2'
            try revert w2
            try revert p0
            try revert w
            try revert recs
            try revert cap
            try revert Q0
            try revert K01
            try revert w01
            exact h1.out
          by_cases o2 : op = 2
          · subst o2
            clear_value hA4
            repeat (rename_i zz; clear zz)
            try revert u0
            try revert u1
            try revert u2
            try revert u3
            try revert u4
            try revert u5
            try revert u6
            try revert u7
            try revert u8
            try revert u9
            try revert u10
            try revert u11
            try revert u12
            try revert u13
            try revert u14
            try revert u15
            try revert u16
            try revert u17
            try revert u18
            try revert u19
            try revert u20
            try revert u21
            try revert u22
            try revert u23
            try revert u24
            try revert u25
            try revert u26
            try revert u27
            try revert u28
            try revert u29
            try revert u30
            try revert u31
            try revert u32
            try revert u33
            try revert u34
            try revert u35
            try revert u36
            try revert u37
            try revert u38
            try revert u39
            try revert u40
            try revert u41
            try revert u42
            try revert u43
            try revert u44
            try revert u45
            try revert u46
            try revert u47
            try revert u48
            try revert u49
            try revert u50
            try revert u51
            try revert u52
            try revert u53
            try revert u54
            try revert u55
            try revert u56
            try revert u57
            try revert u58
            try revert u59
            try revert u60
            try revert u61
            try revert u62
            try revert u63
            try revert u64
            try revert u65
            try revert u66
            try revert u67
            try revert u68
            try revert u69
            try revert u70
            try revert u71
            try revert u72
            try revert u73
            try revert u74
            try revert u75
            try revert u76
            try revert u77
            try revert u78
            try revert u79
            try revert u80
            try revert u81
            try revert u82
            try revert u83
            try revert u84
            try revert u85
            try revert u86
            try revert u87
            try revert u88
            try revert u89
            try revert u90
            try revert u91
            try revert u92
            try revert u93
            try revert u94
            try revert u95
            try revert u96
            try revert u97
            try revert u98
            try revert u99
            try revert u100
            try revert u101
            try revert u102
            try revert u103
            try revert u104
            try revert u105
            try revert u106
            try revert u107
            try revert u108
            try revert u109
            try revert u110
            try revert u111
            try revert u112
            try revert u113
            try revert u114
            try revert u115
            try revert u116
            try revert u117
            try revert u118
            try revert u119
            try revert u120
            try revert u121
            try revert u122
            try revert u123
            try revert u124
            try revert u125
            try revert u126
            try revert u127
            try revert u128
            try revert u129
            try revert u130
            try revert u131
            try revert u132
            try revert u133
            try revert u134
            try revert u135
            try revert u136
            try revert u137
            try revert u138
            try revert u139
            try revert u140
            try revert u141
            try revert u142
            try revert u143
            try revert u144
            try revert u145
            try revert u146
            try revert u147
            try revert u148
            try revert u149
            try revert u150
            try revert u151
            try revert u152
            try revert u153
            try revert u154
            try revert u155
            try revert u156
            try revert u157
            try revert u158
            try revert u159
            try revert u160
            try revert u161
            try revert u162
            try revert u163
            try revert u164
            try revert u165
            try revert u166
            try revert u167
            try revert u168
            try revert u169
            try revert u170
            try revert u171
            try revert u172
            try revert u173
            try revert u174
            try revert u175
            try revert u176
            try revert u177
            try revert u178
            try revert u179
            try revert u180
            try revert u181
            try revert u182
            try revert u183
            try revert u184
            try revert u185
            try revert u186
            try revert u187
            try revert u188
            try revert u189
            try revert u190
            try revert u191
            try revert u192
            try revert u193
            try revert u194
            try revert u195
            try revert u196
            try revert u197
            try revert u198
            try revert u199
            try revert u200
            try revert u201
            try revert u202
            try revert u203
            try revert u204
            try revert u205
            try revert u206
            try revert u207
            try revert u208
            try revert u209
            try revert u210
            try revert u211
            try revert u212
            try revert u213
            try revert u214
            try revert u215
            try revert u216
            try revert u217
            try revert u218
            try revert u219
            try revert u220
            try revert u221
            try revert u222
            try revert u223
            try revert u224
            try revert u225
            try revert u226
            try revert u227
            try revert u228
            try revert u229
            try revert u230
            try revert u231
            try revert u232
            try revert u233
            try revert u234
            try revert u235
            try revert u236
            try revert u237
            try revert u238
            try revert u239
            try revert u240
            try revert u241
            try revert u242
            try revert u243
            try revert u244
            try revert u245
            try revert u246
            try revert u247
            try revert u248
            try revert u249
            try revert u250
            try revert u251
            try revert u252
            try revert u253
            try revert u254
            try revert u255
            try revert u256
            try revert u257
            try revert u258
            try revert u259
            try revert u260
            try revert u261
            try revert u262
            try revert u263
            try revert u264
            try revert u265
            try revert u266
            try revert u267
            try revert u268
            try revert u269
            try revert u270
            try revert u271
            try revert u272
            try revert u273
            try revert u274
            try revert u275
            try revert u276
            try revert u277
            try revert u278
            try revert u279
            try revert jJ
            try revert hA2
            try revert Bx
            try revert w1
            try revert pa
            try revert qa
            try revert t
            try revert V
            try revert hA3
            try revert ox
            try revert qA
            try revert hA4
            try revert xs
            try revert v
            try revert off
            try revert b
            try revert n
            try revert T
            try revert L
            try revert j
            try revert wr
            try revert q
            try revert p
            try revert w3
            try revert w2'
            try revert w2
            try revert p0
            try revert w
            try revert recs
            try revert cap
            exact h2.out
          by_cases o3 : op = 3
          · subst o3
            clear_value hA4
            repeat (rename_i zz; clear zz)
            try revert u0
            try revert u1
            try revert u2
            try revert u3
            try revert u4
            try revert u5
            try revert u6
            try revert u7
            try revert u8
            try revert u9
            try revert u10
            try revert u11
            try revert u12
            try revert u13
            try revert u14
            try revert u15
            try revert u16
            try revert u17
            try revert u18
            try revert u19
            try revert u20
            try revert u21
            try revert u22
            try revert u23
            try revert u24
            try revert u25
            try revert u26
            try revert u27
            try revert u28
            try revert u29
            try revert u30
            try revert u31
            try revert u32
            try revert u33
            try revert u34
            try revert u35
            try revert u36
            try revert u37
            try revert u38
            try revert u39
            try revert u40
            try revert u41
            try revert u42
            try revert u43
            try revert u44
            try revert u45
            try revert u46
            try revert u47
            try revert u48
            try revert u49
            try revert u50
            try revert u51
            try revert u52
            try revert u53
            try revert u54
            try revert u55
            try revert u56
            try revert u57
            try revert u58
            try revert u59
            try revert u60
            try revert u61
            try revert u62
            try revert u63
            try revert u64
            try revert u65
            try revert u66
            try revert u67
            try revert u68
            try revert u69
            try revert u70
            try revert u71
            try revert u72
            try revert u73
            try revert u74
            try revert u75
            try revert u76
            try revert u77
            try revert u78
            try revert u79
            try revert u80
            try revert u81
            try revert u82
            try revert u83
            try revert u84
            try revert u85
            try revert u86
            try revert u87
            try revert u88
            try revert u89
            try revert u90
            try revert u91
            try revert u92
            try revert u93
            try revert u94
            try revert u95
            try revert u96
            try revert u97
            try revert u98
            try revert u99
            try revert u100
            try revert u101
            try revert u102
            try revert u103
            try revert u104
            try revert u105
            try revert u106
            try revert u107
            try revert u108
            try revert u109
            try revert u110
            try revert u111
            try revert u112
            try revert u113
            try revert u114
            try revert u115
            try revert u116
            try revert u117
            try revert u118
            try revert u119
            try revert u120
            try revert u121
            try revert u122
            try revert u123
            try revert u124
            try revert u125
            try revert u126
            try revert u127
            try revert u128
            try revert u129
            try revert u130
            try revert u131
            try revert u132
            try revert u133
            try revert u134
            try revert u135
            try revert u136
            try revert u137
            try revert u138
            try revert u139
            try revert u140
            try revert u141
            try revert u142
            try revert u143
            try revert u144
            try revert u145
            try revert u146
            try revert u147
            try revert u148
            try revert u149
            try revert u150
            try revert u151
            try revert u152
            try revert u153
            try revert u154
            try revert u155
            try revert u156
            try revert u157
            try revert u158
            try revert u159
            try revert u160
            try revert u161
            try revert u162
            try revert u163
            try revert u164
            try revert u165
            try revert u166
            try revert u167
            try revert u168
            try revert u169
            try revert u170
            try revert u171
            try revert u172
            try revert u173
            try revert u174
            try revert u175
            try revert u176
            try revert u177
            try revert u178
            try revert u179
            try revert u180
            try revert u181
            try revert u182
            try revert u183
            try revert u184
            try revert u185
            try revert u186
            try revert u187
            try revert u188
            try revert u189
            try revert u190
            try revert u191
            try revert u192
            try revert u193
            try revert u194
            try revert u195
            try revert u196
            try revert u197
            try revert u198
            try revert u199
            try revert u200
            try revert u201
            try revert u202
            try revert u203
            try revert u204
            try revert u205
            try revert u206
            try revert u207
            try revert u208
            try revert u209
            try revert u210
            try revert u211
            try revert u212
            try revert u213
            try revert u214
            try revert u215
            try revert u216
            try revert u217
            try revert u218
            try revert u219
            try revert u220
            try revert u221
            try revert u222
            try revert u223
            try revert u224
            try revert u225
            try revert u226
            try revert u227
            try revert u228
            try revert u229
            try revert u230
            try revert u231
            try revert u232
            try revert u233
            try revert u234
            try revert u235
            try revert u236
            try revert u237
            try revert u238
            try revert u239
            try revert u240
            try revert u241
            try revert u242
            try revert u243
            try revert u244
            try revert u245
            try revert u246
            try revert u247
            try revert u248
            try revert u249
            try revert u250
            try revert u251
            try revert u252
            try revert u253
            try revert u254
            try revert u255
            try revert u256
            try revert u257
            try revert u258
            try revert u259
            try revert u260
            try revert u261
            try revert u262
            try revert u263
            try revert u264
            try revert u265
            try revert u266
            try revert u267
            try revert u268
            try revert u269
            try revert u270
            try revert u271
            try revert u272
            try revert u273
            try revert u274
            try revert u275
            try revert u276
            try revert u277
            try revert u278
            try revert u279
            try revert jJ
            try revert hA2
            try revert Bx
            try revert w1
            try revert pa
            try revert qa
            try revert t
            try revert V
            try revert hA3
            try revert ox
            try revert qA
            try revert hA4
            try revert xs
            try revert v
            try revert off
            try revert b
            try revert n
            try revert T
            try revert L
            try revert j
            try revert wr
            try revert q
            try revert p
            try revert w3
            try revert w2'
            try revert w2
            try revert p0
            try revert w
            try revert recs
            try revert cap
            exact h3.out
          by_cases o4 : op = 4
          · subst o4
            clear_value hA4
            repeat (rename_i zz; clear zz)
            try revert u0
            try revert u1
            try revert u2
            try revert u3
            try revert u4
            try revert u5
            try revert u6
            try revert u7
            try revert u8
            try revert u9
            try revert u10
            try revert u11
            try revert u12
            try revert u13
            try revert u14
            try revert u15
            try revert u16
            try revert u17
            try revert u18
            try revert u19
            try revert u20
            try revert u21
            try revert u22
            try revert u23
            try revert u24
            try revert u25
            try revert u26
            try revert u27
            try revert u28
            try revert u29
            try revert u30
            try revert u31
            try revert u32
            try revert u33
            try revert u34
            try revert u35
            try revert u36
            try revert u37
            try revert u38
            try revert u39
            try revert u40
            try revert u41
            try revert u42
            try revert u43
            try revert u44
            try revert u45
            try revert u46
            try revert u47
            try revert u48
            try revert u49
            try revert u50
            try revert u51
            try revert u52
            try revert u53
            try revert u54
            try revert u55
            try revert u56
            try revert u57
            try revert u58
            try revert u59
            try revert u60
            try revert u61
            try revert u62
            try revert u63
            try revert u64
            try revert u65
            try revert u66
            try revert u67
            try revert u68
            try revert u69
            try revert u70
            try revert u71
            try revert u72
            try revert u73
            try revert u74
            try revert u75
            try revert u76
            try revert u77
            try revert u78
            try revert u79
            try revert u80
            try revert u81
            try revert u82
            try revert u83
            try revert u84
            try revert u85
            try revert u86
            try revert u87
            try revert u88
            try revert u89
            try revert u90
            try revert u91
            try revert u92
            try revert u93
            try revert u94
            try revert u95
            try revert u96
            try revert u97
            try revert u98
            try revert u99
            try revert u100
            try revert u101
            try revert u102
            try revert u103
            try revert u104
            try revert u105
            try revert u106
            try revert u107
            try revert u108
            try revert u109
            try revert u110
            try revert u111
            try revert u112
            try revert u113
            try revert u114
            try revert u115
            try revert u116
            try revert u117
            try revert u118
            try revert u119
            try revert u120
            try revert u121
            try revert u122
            try revert u123
            try revert u124
            try revert u125
            try revert u126
            try revert u127
            try revert u128
            try revert u129
            try revert u130
            try revert u131
            try revert u132
            try revert u133
            try revert u134
            try revert u135
            try revert u136
            try revert u137
            try revert u138
            try revert u139
            try revert u140
            try revert u141
            try revert u142
            try revert u143
            try revert u144
            try revert u145
            try revert u146
            try revert u147
            try revert u148
            try revert u149
            try revert u150
            try revert u151
            try revert u152
            try revert u153
            try revert u154
            try revert u155
            try revert u156
            try revert u157
            try revert u158
            try revert u159
            try revert u160
            try revert u161
            try revert u162
            try revert u163
            try revert u164
            try revert u165
            try revert u166
            try revert u167
            try revert u168
            try revert u169
            try revert u170
            try revert u171
            try revert u172
            try revert u173
            try revert u174
            try revert u175
            try revert u176
            try revert u177
            try revert u178
            try revert u179
            try revert u180
            try revert u181
            try revert u182
            try revert u183
            try revert u184
            try revert u185
            try revert u186
            try revert u187
            try revert u188
            try revert u189
            try revert u190
            try revert u191
            try revert u192
            try revert u193
            try revert u194
            try revert u195
            try revert u196
            try revert u197
            try revert u198
            try revert u199
            try revert u200
            try revert u201
            try revert u202
            try revert u203
            try revert u204
            try revert u205
            try revert u206
            try revert u207
            try revert u208
            try revert u209
            try revert u210
            try revert u211
            try revert u212
            try revert u213
            try revert u214
            try revert u215
            try revert u216
            try revert u217
            try revert u218
            try revert u219
            try revert u220
            try revert u221
            try revert u222
            try revert u223
            try revert u224
            try revert u225
            try revert u226
            try revert u227
            try revert u228
            try revert u229
            try revert u230
            try revert u231
            try revert u232
            try revert u233
            try revert u234
            try revert u235
            try revert u236
            try revert u237
            try revert u238
            try revert u239
            try revert u240
            try revert u241
            try revert u242
            try revert u243
            try revert u244
            try revert u245
            try revert u246
            try revert u247
            try revert u248
            try revert u249
            try revert u250
            try revert u251
            try revert u252
            try revert u253
            try revert u254
            try revert u255
            try revert u256
            try revert u257
            try revert u258
            try revert u259
            try revert u260
            try revert u261
            try revert u262
            try revert u263
            try revert u264
            try revert u265
            try revert u266
            try revert u267
            try revert u268
            try revert u269
            try revert u270
            try revert u271
            try revert u272
            try revert u273
            try revert u274
            try revert u275
            try revert u276
            try revert u277
            try revert u278
            try revert u279
            try revert jJ
            try revert hA2
            try revert Bx
            try revert w1
            try revert pa
            try revert qa
            try revert t
            try revert V
            try revert hA3
            try revert ox
            try revert qA
            try revert hA4
            try revert xs
            try revert v
            try revert off
            try revert b
            try revert n
            try revert T
            try revert L
            try revert j
            try revert wr
            try revert q
            try revert p
            try revert w3
            try revert w2'
            try revert w2
            try revert p0
            try revert w
            try revert recs
            try revert cap
            exact h4.out
          by_cases o5 : op = 5
          · subst o5
            clear_value hA4
            repeat (rename_i zz; clear zz)
            try revert u0
            try revert u1
            try revert u2
            try revert u3
            try revert u4
            try revert u5
            try revert u6
            try revert u7
            try revert u8
            try revert u9
            try revert u10
            try revert u11
            try revert u12
            try revert u13
            try revert u14
            try revert u15
            try revert u16
            try revert u17
            try revert u18
            try revert u19
            try revert u20
            try revert u21
            try revert u22
            try revert u23
            try revert u24
            try revert u25
            try revert u26
            try revert u27
            try revert u28
            try revert u29
            try revert u30
            try revert u31
            try revert u32
            try revert u33
            try revert u34
            try revert u35
            try revert u36
            try revert u37
            try revert u38
            try revert u39
            try revert u40
            try revert u41
            try revert u42
            try revert u43
            try revert u44
            try revert u45
            try revert u46
            try revert u47
            try revert u48
            try revert u49
            try revert u50
            try revert u51
            try revert u52
            try revert u53
            try revert u54
            try revert u55
            try revert u56
            try revert u57
            try revert u58
            try revert u59
            try revert u60
            try revert u61
            try revert u62
            try revert u63
            try revert u64
            try revert u65
            try revert u66
            try revert u67
            try revert u68
            try revert u69
            try revert u70
            try revert u71
            try revert u72
            try revert u73
            try revert u74
            try revert u75
            try revert u76
            try revert u77
            try revert u78
            try revert u79
            try revert u80
            try revert u81
            try revert u82
            try revert u83
            try revert u84
            try revert u85
            try revert u86
            try revert u87
            try revert u88
            try revert u89
            try revert u90
            try revert u91
            try revert u92
            try revert u93
            try revert u94
            try revert u95
            try revert u96
            try revert u97
            try revert u98
            try revert u99
            try revert u100
            try revert u101
            try revert u102
            try revert u103
            try revert u104
            try revert u105
            try revert u106
            try revert u107
            try revert u108
            try revert u109
            try revert u110
            try revert u111
            try revert u112
            try revert u113
            try revert u114
            try revert u115
            try revert u116
            try revert u117
            try revert u118
            try revert u119
            try revert u120
            try revert u121
            try revert u122
            try revert u123
            try revert u124
            try revert u125
            try revert u126
            try revert u127
            try revert u128
            try revert u129
            try revert u130
            try revert u131
            try revert u132
            try revert u133
            try revert u134
            try revert u135
            try revert u136
            try revert u137
            try revert u138
            try revert u139
            try revert u140
            try revert u141
            try revert u142
            try revert u143
            try revert u144
            try revert u145
            try revert u146
            try revert u147
            try revert u148
            try revert u149
            try revert u150
            try revert u151
            try revert u152
            try revert u153
            try revert u154
            try revert u155
            try revert u156
            try revert u157
            try revert u158
            try revert u159
            try revert u160
            try revert u161
            try revert u162
            try revert u163
            try revert u164
            try revert u165
            try revert u166
            try revert u167
            try revert u168
            try revert u169
            try revert u170
            try revert u171
            try revert u172
            try revert u173
            try revert u174
            try revert u175
            try revert u176
            try revert u177
            try revert u178
            try revert u179
            try revert u180
            try revert u181
            try revert u182
            try revert u183
            try revert u184
            try revert u185
            try revert u186
            try revert u187
            try revert u188
            try revert u189
            try revert u190
            try revert u191
            try revert u192
            try revert u193
            try revert u194
            try revert u195
            try revert u196
            try revert u197
            try revert u198
            try revert u199
            try revert u200
            try revert u201
            try revert u202
            try revert u203
            try revert u204
            try revert u205
            try revert u206
            try revert u207
            try revert u208
            try revert u209
            try revert u210
            try revert u211
            try revert u212
            try revert u213
            try revert u214
            try revert u215
            try revert u216
            try revert u217
            try revert u218
            try revert u219
            try revert u220
            try revert u221
            try revert u222
            try revert u223
            try revert u224
            try revert u225
            try revert u226
            try revert u227
            try revert u228
            try revert u229
            try revert u230
            try revert u231
            try revert u232
            try revert u233
            try revert u234
            try revert u235
            try revert u236
            try revert u237
            try revert u238
            try revert u239
            try revert u240
            try revert u241
            try revert u242
            try revert u243
            try revert u244
            try revert u245
            try revert u246
            try revert u247
            try revert u248
            try revert u249
            try revert u250
            try revert u251
            try revert u252
            try revert u253
            try revert u254
            try revert u255
            try revert u256
            try revert u257
            try revert u258
            try revert u259
            try revert u260
            try revert u261
            try revert u262
            try revert u263
            try revert u264
            try revert u265
            try revert u266
            try revert u267
            try revert u268
            try revert u269
            try revert u270
            try revert u271
            try revert u272
            try revert u273
            try revert u274
            try revert u275
            try revert u276
            try revert u277
            try revert u278
            try revert u279
            try revert jJ
            try revert hA2
            try revert Bx
            try revert w1
            try revert pa
            try revert qa
            try revert t
            try revert V
            try revert hA3
            try revert ox
            try revert qA
            try revert hA4
            try revert xs
            try revert v
            try revert off
            try revert b
            try revert n
            try revert T
            try revert L
            try revert j
            try revert wr
            try revert q
            try revert p
            try revert w3
            try revert w2'
            try revert w2
            try revert p0
            try revert w
            try revert recs
            try revert cap
            exact h5.out
          by_cases o6 : op = 6
          · subst o6
            clear_value hA4
            repeat (rename_i zz; clear zz)
            try revert u0
            try revert u1
            try revert u2
            try revert u3
            try revert u4
            try revert u5
            try revert u6
            try revert u7
            try revert u8
            try revert u9
            try revert u10
            try revert u11
            try revert u12
            try revert u13
            try revert u14
            try revert u15
            try revert u16
            try revert u17
            try revert u18
            try revert u19
            try revert u20
            try revert u21
            try revert u22
            try revert u23
            try revert u24
            try revert u25
            try revert u26
            try revert u27
            try revert u28
            try revert u29
            try revert u30
            try revert u31
            try revert u32
            try revert u33
            try revert u34
            try revert u35
            try revert u36
            try revert u37
            try revert u38
            try revert u39
            try revert u40
            try revert u41
            try revert u42
            try revert u43
            try revert u44
            try revert u45
            try revert u46
            try revert u47
            try revert u48
            try revert u49
            try revert u50
            try revert u51
            try revert u52
            try revert u53
            try revert u54
            try revert u55
            try revert u56
            try revert u57
            try revert u58
            try revert u59
            try revert u60
            try revert u61
            try revert u62
            try revert u63
            try revert u64
            try revert u65
            try revert u66
            try revert u67
            try revert u68
            try revert u69
            try revert u70
            try revert u71
            try revert u72
            try revert u73
            try revert u74
            try revert u75
            try revert u76
            try revert u77
            try revert u78
            try revert u79
            try revert u80
            try revert u81
            try revert u82
            try revert u83
            try revert u84
            try revert u85
            try revert u86
            try revert u87
            try revert u88
            try revert u89
            try revert u90
            try revert u91
            try revert u92
            try revert u93
            try revert u94
            try revert u95
            try revert u96
            try revert u97
            try revert u98
            try revert u99
            try revert u100
            try revert u101
            try revert u102
            try revert u103
            try revert u104
            try revert u105
            try revert u106
            try revert u107
            try revert u108
            try revert u109
            try revert u110
            try revert u111
            try revert u112
            try revert u113
            try revert u114
            try revert u115
            try revert u116
            try revert u117
            try revert u118
            try revert u119
            try revert u120
            try revert u121
            try revert u122
            try revert u123
            try revert u124
            try revert u125
            try revert u126
            try revert u127
            try revert u128
            try revert u129
            try revert u130
            try revert u131
            try revert u132
            try revert u133
            try revert u134
            try revert u135
            try revert u136
            try revert u137
            try revert u138
            try revert u139
            try revert u140
            try revert u141
            try revert u142
            try revert u143
            try revert u144
            try revert u145
            try revert u146
            try revert u147
            try revert u148
            try revert u149
            try revert u150
            try revert u151
            try revert u152
            try revert u153
            try revert u154
            try revert u155
            try revert u156
            try revert u157
            try revert u158
            try revert u159
            try revert u160
            try revert u161
            try revert u162
            try revert u163
            try revert u164
            try revert u165
            try revert u166
            try revert u167
            try revert u168
            try revert u169
            try revert u170
            try revert u171
            try revert u172
            try revert u173
            try revert u174
            try revert u175
            try revert u176
            try revert u177
            try revert u178
            try revert u179
            try revert u180
            try revert u181
            try revert u182
            try revert u183
            try revert u184
            try revert u185
            try revert u186
            try revert u187
            try revert u188
            try revert u189
            try revert u190
            try revert u191
            try revert u192
            try revert u193
            try revert u194
            try revert u195
            try revert u196
            try revert u197
            try revert u198
            try revert u199
            try revert u200
            try revert u201
            try revert u202
            try revert u203
            try revert u204
            try revert u205
            try revert u206
            try revert u207
            try revert u208
            try revert u209
            try revert u210
            try revert u211
            try revert u212
            try revert u213
            try revert u214
            try revert u215
            try revert u216
            try revert u217
            try revert u218
            try revert u219
            try revert u220
            try revert u221
            try revert u222
            try revert u223
            try revert u224
            try revert u225
            try revert u226
            try revert u227
            try revert u228
            try revert u229
            try revert u230
            try revert u231
            try revert u232
            try revert u233
            try revert u234
            try revert u235
            try revert u236
            try revert u237
            try revert u238
            try revert u239
            try revert u240
            try revert u241
            try revert u242
            try revert u243
            try revert u244
            try revert u245
            try revert u246
            try revert u247
            try revert u248
            try revert u249
            try revert u250
            try revert u251
            try revert u252
            try revert u253
            try revert u254
            try revert u255
            try revert u256
            try revert u257
            try revert u258
            try revert u259
            try revert u260
            try revert u261
            try revert u262
            try revert u263
            try revert u264
            try revert u265
            try revert u266
            try revert u267
            try revert u268
            try revert u269
            try revert u270
            try revert u271
            try revert u272
            try revert u273
            try revert u274
            try revert u275
            try revert u276
            try revert u277
            try revert u278
            try revert u279
            try revert jJ
            try revert hA2
            try revert Bx
            try revert w1
            try revert pa
            try revert qa
            try revert t
            try revert V
            try revert hA3
            try revert ox
            try revert qA
            try revert hA4
            try revert xs
            try revert v
            try revert off
            try revert b
            try revert n
            try revert T
            try revert L
            try revert j
            try revert wr
            try revert q
            try revert p
            try revert w3
            try revert w2'
            try revert w2
            try revert p0
            try revert w
            try revert recs
            try revert cap
            exact h6.out
          clear h1 h2 h3 h4 h5 h6
          have e1 : (op == 1) = false := by simp [o1]
          have e2 : (op == 2) = false := by simp [o2]
          have e3 : (op == 3) = false := by simp [o3]
          have e4 : (op == 4) = false := by simp [o4]
          have e5 : (op == 5) = false := by simp [o5]
          have e6 : (op == 6) = false := by simp [o6]
          go_wp2_with fail
          go_meet
          exact ⟨0, L, T, n, rfl, rfl, HB1.out.more HJ1.out, HBL1.out⟩
        case rest =>
          clear h1 h2 h3 h4 h5 h6
          clear HB1 HBL1 HKN HX K0 K2 K3 HLen NB N0
          obtain ⟨e, L2, T2, n2, rfl, rfl, hB2, hbl2⟩ := hcut
          have HB := Lib.hid hB2
          have HBL := Lib.hid hbl2
          clear hB2 hbl2
          as_aux_lemma =>
            have kn := Lib.hid (now_any HB.out.dead)
            have HL := Lib.hid (HB.out.ref.len16 HB.out.same)
            have kx := Lib.hid (fun (wx : World) (hx : RefAt w.heap.size wx q L2 T2 n2) => nextr_any hx HL.out HB.out.same HB.out.fit)
            have dn := HB.out.ref.now
            have C1 := Lib.hid (fun m => (now_any (HB.out.dead.later (only_drewN (Only.refl (fun _ => False) wc) m))).mono (fun e w' h => (⟨h.1, h.2.symm⟩ : e = .returned (.int .i64 n2) ∧ w' = wc.drewN m)))
            have en : (n2 != n2) = false := by simp
            have ee : (e != e) = false := by simp
            go_upto_region 44 with fail
            go_quiet ((go_at_call 22; (with_reducible exact Calls.quiet_of_same (C1.out _))))
            have HB2 := Lib.hid (HB.out.later (only_drewN (Only.refl (fun _ => False) wc) nq))
            have HBL2 := Lib.hid (HBL.out.trans ((only_drewN (Only.refl (fun _ => False) wc) nq).below HBL.out.size (fun _ e => e.elim)))
            clear C1 kn dn HB HBL en ee
            generalize wc.drewN nq = w2 at *
            have kp := Lib.hid (pick_any HB2.out.dead)
            by_cases h0 : pick T2 = 0
            · have HP0 := Lib.hid h0
              rw [pickErr_no h0, h0] at kp
              clear h0
              go_wp2_with (first
                | (go_at_call 23; (with_reducible refine kp.out.mono ?_); rintro e3 w3 ⟨rfl, hO3⟩; have HO3 := Lib.hid hO3; clear hO3)
                | (go_at_call 24; (with_reducible refine (kx.out _ (HB2.out.ref.later HO3.out)).mono ?_); rintro e4 w4 ⟨hcs, hO4⟩; have HO4 := Lib.hid (only_trans HO3.out hO4); obtain rfl : e4 = .returned (.pointer none) := (by rcases hcs with ⟨h, _⟩ | ⟨_, ⟨_, h⟩, _⟩; exact h; exact absurd HP0.out h); clear hcs hO4))
              go_loopw [216] (fun i wr => ∃ z : Nat, z ≤ 18 ∧ i = .int .i64 z ∧ Only (fun _ => False) w2 wr) (fun i _ => 18 - (intOf i).toNat)
              case atStart => exact ⟨0, by omega, rfl, HO4.out⟩
              case round =>
                obtain ⟨z, hz, rfl, hO⟩ := hrel
                have HO5 := Lib.hid hO
                clear hO
                by_cases hlt : z < 18
                · have z1 : (z : Int) < 18 := by omega
                  have HB5 := Lib.hid (HB2.out.later HO5.out)
                  by_cases hT : isTask T2 z
                  · have hTk : 1 ≤ z ∧ z ≤ 16 ∧ (T2 z).p ≠ 0 := ⟨by have := hT.1; omega, by have := hT.2.1; omega, by simpa using hT.2.2⟩
                    obtain ⟨b, hb⟩ := HB5.out.same.all z (by omega) hTk.2.2
                    have ka := Lib.hid (at_yes HB5.out.dead z hTk.1 hTk.2.1 hTk.2.2)
                    have kf := Lib.hid (fun (wx : World) (hO : Only (fun _ => False) wr wx) => findr_yes (HB5.out.ref.later hO) HB5.out.same hb)
                    have HBM := Lib.hid hb
                    clear hb hT hTk
                    have el : ∀ x : Int, (x != x) = false := fun x => by simp
                    have eb : ∀ x : Bool, (x != x) = false := fun x => by simp
                    go_wp2_with (first
                      | (go_at_call 25; (with_reducible refine ka.out.mono ?_); rintro e6 w6 ⟨rfl, hO6⟩; have HO6 := Lib.hid hO6; have HR6 := Lib.hid (HB5.out.ref.later hO6); have dl := HR6.out.tl HBM.out; have dd := HR6.out.td HBM.out; have do_ := HR6.out.to HBM.out; clear hO6)
                      | (go_at_call 12; (with_reducible refine (kf.out _ HO6.out).mono ?_); rintro e7 w7 ⟨rfl, rfl⟩))
                    go_roundw
                    case rel => exact ⟨z + 1, by omega, by go_num, only_trans HO5.out HO6.out⟩
                    case measure => simp [intOf]; omega
                  · have ka := Lib.hid (at_no HB5.out.dead z hT)
                    have kf := Lib.hid (findr_no HB5.out.ref HB5.out.same (HB5.out.same.not_there hT))
                    clear hT
                    go_wp2_with (first
                      | (go_at_call 25; (with_reducible refine ka.out.mono ?_); rintro e6 w6 ⟨rfl, rfl⟩)
                      | (go_at_call 12; (with_reducible refine kf.out.mono ?_); rintro e7 w7 ⟨rfl, rfl⟩))
                    go_roundw
                    case rel => exact ⟨z + 1, by omega, by go_num, HO5.out⟩
                    case measure => simp [intOf]; omega
                · obtain rfl : z = 18 := by omega
                  have HB5 := Lib.hid (HB2.out.later HO5.out)
                  go_wp2_with fail
                  go_roundw
                  case rel => exact ⟨j + 1, L2, T2, n2, by omega, by go_num, ⟨HB5.out.dead, HB5.out.ref, HB5.out.same, HB5.out.fit, HB5.out.bare, HB5.out.new, by have := HB5.out.time; omega⟩, HBL2.out.trans (HO5.out.below HBL2.out.size (fun _ e => e.elim))⟩
                  case measure => simp [intOf]; omega
            · obtain ⟨m0, hm0⟩ : ∃ m0, pick T2 = m0 := ⟨_, rfl⟩
              have HP0 := Lib.hid h0
              have HM0 := Lib.hid hm0
              rw [pickErr_yes h0, hm0] at kp
              have emm : ((m0 : Int) != (m0 : Int)) = false := by simp
              clear h0 hm0
              go_wp2_with (first
                | (go_at_call 23; (with_reducible refine kp.out.mono ?_); rintro e3 w3 ⟨rfl, hO3⟩; have HO3 := Lib.hid hO3; clear hO3)
                | (go_at_call 24; (with_reducible refine (kx.out _ (HB2.out.ref.later HO3.out)).mono ?_); rintro e4 w4 ⟨hcs, hO4⟩; have HO4 := Lib.hid (only_trans HO3.out hO4); obtain ⟨b4, hm4, rfl⟩ : ∃ b4, (b4, pick T2) ∈ L2 ∧ e4 = .returned (pt b4) := (by rcases hcs with ⟨_, h⟩ | ⟨b4, ⟨h, _⟩, h2⟩; exact absurd h HP0.out; exact ⟨b4, h, h2⟩); rw [HM0.out] at hm4; have d4 := (HB2.out.ref.later HO4.out).tn hm4; unfold pt; clear hcs hO4 hm4))
              clear emm
              go_loopw [216] (fun i wr => ∃ z : Nat, z ≤ 18 ∧ i = .int .i64 z ∧ Only (fun _ => False) w2 wr) (fun i _ => 18 - (intOf i).toNat)
              case atStart => exact ⟨0, by omega, rfl, HO4.out⟩
              case round =>
                obtain ⟨z, hz, rfl, hO⟩ := hrel
                have HO5 := Lib.hid hO
                clear hO
                by_cases hlt : z < 18
                · have z1 : (z : Int) < 18 := by omega
                  have HB5 := Lib.hid (HB2.out.later HO5.out)
                  by_cases hT : isTask T2 z
                  · have hTk : 1 ≤ z ∧ z ≤ 16 ∧ (T2 z).p ≠ 0 := ⟨by have := hT.1; omega, by have := hT.2.1; omega, by simpa using hT.2.2⟩
                    obtain ⟨b, hb⟩ := HB5.out.same.all z (by omega) hTk.2.2
                    have ka := Lib.hid (at_yes HB5.out.dead z hTk.1 hTk.2.1 hTk.2.2)
                    have kf := Lib.hid (fun (wx : World) (hO : Only (fun _ => False) wr wx) => findr_yes (HB5.out.ref.later hO) HB5.out.same hb)
                    have HBM := Lib.hid hb
                    clear hb hT hTk
                    have el : ∀ x : Int, (x != x) = false := fun x => by simp
                    have eb : ∀ x : Bool, (x != x) = false := fun x => by simp
                    go_wp2_with (first
                      | (go_at_call 25; (with_reducible refine ka.out.mono ?_); rintro e6 w6 ⟨rfl, hO6⟩; have HO6 := Lib.hid hO6; have HR6 := Lib.hid (HB5.out.ref.later hO6); have dl := HR6.out.tl HBM.out; have dd := HR6.out.td HBM.out; have do_ := HR6.out.to HBM.out; clear hO6)
                      | (go_at_call 12; (with_reducible refine (kf.out _ HO6.out).mono ?_); rintro e7 w7 ⟨rfl, rfl⟩))
                    go_roundw
                    case rel => exact ⟨z + 1, by omega, by go_num, only_trans HO5.out HO6.out⟩
                    case measure => simp [intOf]; omega
                  · have ka := Lib.hid (at_no HB5.out.dead z hT)
                    have kf := Lib.hid (findr_no HB5.out.ref HB5.out.same (HB5.out.same.not_there hT))
                    clear hT
                    go_wp2_with (first
                      | (go_at_call 25; (with_reducible refine ka.out.mono ?_); rintro e6 w6 ⟨rfl, rfl⟩)
                      | (go_at_call 12; (with_reducible refine kf.out.mono ?_); rintro e7 w7 ⟨rfl, rfl⟩))
                    go_roundw
                    case rel => exact ⟨z + 1, by omega, by go_num, HO5.out⟩
                    case measure => simp [intOf]; omega
                · obtain rfl : z = 18 := by omega
                  have HB5 := Lib.hid (HB2.out.later HO5.out)
                  go_wp2_with fail
                  go_roundw
                  case rel => exact ⟨j + 1, L2, T2, n2, by omega, by go_num, ⟨HB5.out.dead, HB5.out.ref, HB5.out.same, HB5.out.fit, HB5.out.bare, HB5.out.new, by have := HB5.out.time; omega⟩, HBL2.out.trans (HO5.out.below HBL2.out.size (fun _ e => e.elim))⟩
                  case measure => simp [intOf]; omega
      · clear h1 h2 h3 h4 h5 h6
        obtain rfl : j = recs.length := by omega
        go_wp2_with fail
        go_ret
        exact ⟨rfl, HBL.out⟩
end Go.Proofs.Ytijpiloljgpnkaa.De
