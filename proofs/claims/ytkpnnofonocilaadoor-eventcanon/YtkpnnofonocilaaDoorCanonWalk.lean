/- The walk of the law EventCanon. -/
import Derived.Test.YtkpnnofonocilaaDoorRw
import Derived.Test.YtkpnnofonocilaaDoorSd
import Derived.Test.YtkpnnofonocilaaDoorAe
namespace Go.Proofs.YtkpnnofonocilaaDoor.eventCanon
open Go.RowKit Go.BigFrame
set_option linter.unusedVariables false
set_option linter.unusedSimpArgs false

theorem eqS_self (L : List Ty) : eqS L L = true := by
  unfold eqS
  refine decide_eq_true ⟨rfl, fun j hj => ⟨by simp, ?_⟩⟩
  unfold eqB
  simp

set_option maxRecDepth 100000 in
set_option maxHeartbeats 8000000 in
theorem walk (s0 : ByteArray) (hs0 : s0.size ≤ 140737488351232) (s1 : ByteArray) (hs1 : s1.size ≤ 140737488351232) (w : World) (K : KwAt w) (E : ErAt w) (P : PwAt w) :
    Calls Tryd.prog 7 #[.string s0, .string s1] w fun en w' => en = .returned (.bool true) ∧ Below w.heap.size w w' := by
  have c := started_any w K E
  go_enter Tryd.func7, Tryd.ntmps7
  go_upto_region 3 with (go_at_call 12; with_reducible refine c.mono ?_; rintro en u ⟨rfl, B⟩)
  clear c
  replace K := K.keep B
  replace E := E.keep B
  replace P := P.keep B
  have c1 := parseSchema_any s0 (by omega) u K
  have HS := scO_sound s0
  have HP := scO_place s0
  generalize scO s0 = z at c1 HS HP
  obtain ⟨L, a, p⟩ := z
  dsimp only at c1 HS HP
  have HS' : Hid (a = 0 → schE L = 0 ∧ p = 0) := HS
  have HP' : Hid (a ≠ 0 → L = [] ∧ 0 ≤ p ∧ p ≤ (s0.size : Int)) := HP
  clear HS HP
  go_upto_region 4 with (go_at_call 9; with_reducible refine c1.mono ?_; rintro en u3 ⟨v, rfl, T, g3⟩; obtain ⟨av, cv, rfl, hTy⟩ := T.own.types)
  have hcv : L.length ≤ cv := by obtain ⟨_, _, hown, _⟩ := T; exact own_cap hown
  have B3 := galloc (gtrans B g3) (.cells #[.slice av L.length cv] 24)
  have q3 := galloc g3 (.cells #[.slice av L.length cv] 24)
  have O := One.new u3 (.slice av L.length cv) 24
  replace hTy := hTy.keep (galloc (Below.refl u3.heap.size u3) (.cells #[.slice av L.length cv] 24))
  replace K := K.keep q3
  replace E := E.keep q3
  replace P := P.keep q3
  generalize u3.alloc (.cells #[.slice av L.length cv] 24) = X at *
  generalize u3.heap.size = b0 at *
  obtain ⟨n, hn⟩ : ∃ n, L.length = n := ⟨_, rfl⟩
  rw [hn] at O hTy hcv ⊢
  have o0 := O.at0
  clear c1 T g3 q3 B
  by_cases ha : a = 0
  · subst ha
    obtain ⟨hz, rfl⟩ := HS'.out rfl
    clear HS' HP'
    have HT := text_back hz
    have hp : (prS L).2 = 0 := by unfold prS; rw [if_pos hz]
    have hts : (prS L).1.size ≤ 4096 := by
      have e1 : (prS L).1 = ⟨(textU L L.length).toArray⟩ := by unfold prS; rw [if_pos hz]
      obtain ⟨q1, q2⟩ := sch_small L hz
      have := textU_len L q2 L.length (Nat.le_refl _)
      rw [e1, size_mk]; omega
    have c1 := printSchema_any av n cv L X hTy hcv K
    rw [hp] at c1
    have c2 := fun (z : World) (ao : Option Addr) (cp : Nat) (h : IsTypes z ao n L) (hc : n ≤ cp) (k : KwAt z) => printSchema_any ao n cp L z h hc k
    simp only [hp] at c2
    generalize (prS L).1 = tx at *
    go_upto_region 7 with (go_at_call 19; with_reducible refine c1.mono ?_; rintro en u1 ⟨rfl, g1⟩)
    have c4 := parseSchema_any tx (by omega) u1 (K.keep g1)
    rw [HT] at c4
    replace c4 : Calls Tryd.prog 9 #[.string tx] u1 fun e w' => ∃ v, e = .returned (.tuple #[.agg #[v], .int .i64 0, .int .i64 0]) ∧ OwnP u1.heap.size w' v L.length L ∧ Below u1.heap.size u1 w' := c4
    rw [hn] at c4
    go_upto_region 8 with (go_at_call 9; with_reducible refine c4.mono ?_; rintro en u2 ⟨v, rfl, T, g2⟩; obtain ⟨at2, ct, rfl, hTt⟩ := T.own.types)
    have hct : n ≤ ct := by obtain ⟨_, _, hown, _⟩ := T; exact own_cap hown
    have G2 := galloc (gtrans g1 g2) (.cells #[.slice at2 n ct] 24)
    have O1 := One.new u2 (.slice at2 n ct) 24
    replace hTt := hTt.keep (galloc (Below.refl u2.heap.size u2) (.cells #[.slice at2 n ct] 24))
    generalize u2.alloc (.cells #[.slice at2 n ct] 24) = Y at *
    generalize u2.heap.size = b1 at *
    have o1 := (O.keep G2).at0
    have o2 := O1.at0
    have c5 := c2 Y at2 ct hTt hct (K.keep G2)
    clear c1 c2 c4 g1 g2 T o0
    go_upto_region 9 with (go_at_call 19; with_reducible refine c5.mono ?_; rintro en u4 ⟨rfl, g4⟩)
    have G4 := gtrans G2 g4
    have o3 := (O.keep G4).at0
    have o4 := (O1.keep g4).at0
    have c6 := checkSchema_any av n cv L u4 (hTy.keep G4) hcv (K.keep G4)
    rw [hz] at c6
    have c7 := fun z (g : Below u4.heap.size u4 z) => sameSchema_any av at2 n n cv ct L L z ((hTy.keep G4).keep g) ((hTt.keep g4).keep g)
    simp only [eqS_self L] at c7
    go_upto_region 12 with (first
      | (go_at_call 15; with_reducible refine c6.mono ?_; rintro en u5 ⟨rfl, g5⟩; have c8 := c7 u5 g5; have r1 := (O.keep (gtrans G4 g5)).at0; have r2 := (O1.keep (gtrans g4 g5)).at0)
      | (go_at_call 11; with_reducible refine c8.mono ?_; rintro en u6 ⟨rfl, g6⟩))
    have G6 := gtrans (gtrans G4 g5) g6
    replace O := O.keep G6
    replace hTy := hTy.keep G6
    replace K := K.keep G6
    replace E := E.keep G6
    replace P := P.keep G6
    replace B3 := gtrans B3 G6
    clear c5 c6 c7 c8 g4 g5 g6 G4 G6 r1 r2 o1 o2 o3 o4 O1 hTt HT hts hp G2
    go_loopw [15] (fun x wr => ∃ k : Nat, k ≤ n ∧ x = .int .i64 k ∧ Below u6.heap.size u6 wr) (fun x _ => n - (intOf x).toNat)
    case atStart => exact ⟨0, Nat.zero_le _, rfl, Below.refl _ _⟩
    case round =>
      obtain ⟨k, hk, rfl, G⟩ := hrel
      have O2 := O.keep G
      have o0 := O2.at0
      by_cases hlt : k < n
      · have hty := type_at hz k (by omega)
        have T2 := hTy.keep G
        obtain ⟨_, _, q4⟩ := T2
        rcases q4 with q4 | ⟨b, off, eb, hb, hcb⟩
        · omega
        subst eb
        obtain ⟨f1, aj, cj, f2, _, _⟩ := hcb k hlt
        have c1 := fun nx : Ext wr => ext_of (n := nx) (typeOf_any (some ⟨b, off, none⟩) n cv L (L.getD k noTy).1 nx.X ((hTy.keep G).keep nx.h))
        rw [hty] at c1
        generalize (L.getD k noTy).1 = nm at c1 f1
        have c1 : ∀ z : Ext wr, Calls Tryd.prog 20 #[.agg #[.slice (some ⟨b, off, none⟩) n cv], .string nm] z.X (fun e' w'' => e' = .returned (.int .i64 (k : Nat)) ∧ ∃ m : Ext wr, w'' = m.X) := c1
        have p0 := fun z : Ext wr => (z.cell _ _ O2.lt).trans o0
        have p2 := fun z : Ext wr => (z.cell _ _ hb).trans f1
        have hne : Nonempty (Ext wr) := ⟨⟨_, Below.refl _ _⟩⟩
        have hkm : (k : Int) < (n : Int) := by omega
        have hn2 : n ≤ 9223372036854775807 := hTy.2.1
        clear hcb hty
        go_upto_region 14 with fail
        refine wp_region_ext (by kernel_rfl) (by kernel_rfl) ?_
        repeat (first
          | go_big_quiet_step (first | (go_at_call 20; with_reducible exact c1 _)))
        refine wpQuiet_nil ?_
        intro _ hw'
        obtain ⟨n1, hw''⟩ := hw'
        subst hw''
        have G1 := gtrans G n1.h
        go_wp2
        go_roundw
        case rel => exact ⟨k + 1, by omega, by go_num, G1⟩
        case measure => simp [intOf]; omega
      · obtain rfl : k = n := by omega
        have c1 := parseEvent_any av k cv L s1 (by omega) wr (hTy.keep G) hcv (K.keep G) (E.keep G)
        have HS := pE_sound L s1 hz
        have HP := pE_place L s1 hz
        generalize pE L s1 = z at c1 HS HP
        obtain ⟨e, c, pl⟩ := z
        dsimp only at c1 HS HP
        have HS' : Hid (c = 0 → evE L e = 0 ∧ e.ok ∧ pl = 0) := HS
        have HP' : Hid (c ≠ 0 → e = zeroE ∧ 0 ≤ pl ∧ pl ≤ (s1.size : Int)) := HP
        clear HS HP
        obtain ⟨t, i, y, a0, a1, a2, a3, a4, a5, a6, a7⟩ := e
        dsimp only [evC] at c1
        go_upto_region 17 with (go_at_call 17; with_reducible refine c1.mono ?_; rintro en u7 ⟨rfl, g7⟩)
        have G7 := galloc (gtrans G g7) (.cells #[.int .i64 t, .int .u64 i, .int .i64 y, .int .i64 a0, .int .i64 a1, .int .i64 a2, .int .i64 a3, .int .i64 a4, .int .i64 a5, .int .i64 a6, .int .i64 a7] 44)
        have E7 : Evt (u7.alloc (.cells #[.int .i64 t, .int .u64 i, .int .i64 y, .int .i64 a0, .int .i64 a1, .int .i64 a2, .int .i64 a3, .int .i64 a4, .int .i64 a5, .int .i64 a6, .int .i64 a7] 44)) u7.heap.size ⟨t, i, y, a0, a1, a2, a3, a4, a5, a6, a7⟩ := Evt.new u7 ⟨t, i, y, a0, a1, a2, a3, a4, a5, a6, a7⟩
        generalize u7.alloc (.cells #[.int .i64 t, .int .u64 i, .int .i64 y, .int .i64 a0, .int .i64 a1, .int .i64 a2, .int .i64 a3, .int .i64 a4, .int .i64 a5, .int .i64 a6, .int .i64 a7] 44) = X7 at *
        generalize u7.heap.size = b7 at *
        replace O := O.keep G7
        replace hTy := hTy.keep G7
        replace K := K.keep G7
        replace E := E.keep G7
        replace P := P.keep G7
        replace B3 := gtrans B3 G7
        clear c1 g7 G G7 o0 O2
        have o0 := O.at0
        by_cases hc : c = 0
        · subst hc
          obtain ⟨ez, ok, _⟩ := HS'.out rfl
          clear HS' HP'
          have hlb := line_back ok ez
          have hp2 : (prE L ⟨t, i, y, a0, a1, a2, a3, a4, a5, a6, a7⟩).2 = 0 := by unfold prE; rw [if_pos ez]
          have hls : (prE L ⟨t, i, y, a0, a1, a2, a3, a4, a5, a6, a7⟩).1.size ≤ 100000 := by
            obtain ⟨z0, z1, z2⟩ := ev_zero L _ ez
            have e1 : (prE L ⟨t, i, y, a0, a1, a2, a3, a4, a5, a6, a7⟩).1 = ⟨(lineU (L.getD y.toNat noTy).1 ⟨t, i, y, a0, a1, a2, a3, a4, a5, a6, a7⟩ (L.getD y.toNat noTy).2.length).toArray⟩ := by unfold prE; rw [if_pos ez]
            have h8 := sch_len L z0 y.toNat (by show y.toNat < _; dsimp only at z1 z2; omega)
            have := lineU_len (L.getD y.toNat noTy).1 ⟨t, i, y, a0, a1, a2, a3, a4, a5, a6, a7⟩ ok (sch_name L z0 y.toNat (by dsimp only at z1 z2; omega)) _ h8
            rw [e1, size_mk]
            omega
          have c1 := printEvent_any av k cv L _ X7 hTy hcv ok K P
          have c3 := fun z (g : Below X7.heap.size X7 z) => checkEvent_any av k cv L ⟨t, i, y, a0, a1, a2, a3, a4, a5, a6, a7⟩ z (hTy.keep g) hcv (K.keep g)
          simp only [ez] at c3
          rw [hp2] at c1
          generalize (prE L ⟨t, i, y, a0, a1, a2, a3, a4, a5, a6, a7⟩).1 = ln at *
          have c2 := fun z (g : Below X7.heap.size X7 z) => parseEvent_any av k cv L ln (by omega) z (hTy.keep g) hcv (K.keep g) (E.keep g)
          simp only [hlb] at c2
          dsimp only [evC] at c1 c2 c3
          obtain ⟨m0, m1, m2, m3, m4, m5, m6, m7, m8, m9, m10⟩ := E7.all
          go_upto_region 20 with (go_at_call 21; with_reducible refine c1.mono ?_; rintro en u8 ⟨rfl, g8⟩)
          have c4 := c2 u8 g8
          have o1 := (O.keep g8).at0
          clear c1 c2 m0 m1 m2 m3 m4 m5 m6 m7 m8 m9 m10
          go_upto_region 21 with (go_at_call 17; with_reducible refine c4.mono ?_; rintro en u9 ⟨rfl, g9⟩)
          have G9 := galloc (gtrans g8 g9) (.cells #[.int .i64 t, .int .u64 i, .int .i64 y, .int .i64 a0, .int .i64 a1, .int .i64 a2, .int .i64 a3, .int .i64 a4, .int .i64 a5, .int .i64 a6, .int .i64 a7] 44)
          have E9 : Evt (u9.alloc (.cells #[.int .i64 t, .int .u64 i, .int .i64 y, .int .i64 a0, .int .i64 a1, .int .i64 a2, .int .i64 a3, .int .i64 a4, .int .i64 a5, .int .i64 a6, .int .i64 a7] 44)) u9.heap.size ⟨t, i, y, a0, a1, a2, a3, a4, a5, a6, a7⟩ := Evt.new u9 ⟨t, i, y, a0, a1, a2, a3, a4, a5, a6, a7⟩
          generalize u9.alloc (.cells #[.int .i64 t, .int .u64 i, .int .i64 y, .int .i64 a0, .int .i64 a1, .int .i64 a2, .int .i64 a3, .int .i64 a4, .int .i64 a5, .int .i64 a6, .int .i64 a7] 44) = X9 at *
          generalize u9.heap.size = b9 at *
          have c5 := c3 X9 G9
          have o2 := (O.keep G9).at0
          obtain ⟨m0, m1, m2, m3, m4, m5, m6, m7, m8, m9, m10⟩ := (E7.keep G9).all
          have ae := arr_eq a0 a1 a2 a3 a4 a5 a6 a7
          clear c3 c4 o0 o1
          go_wp2_with (go_at_call 22; with_reducible refine c5.mono ?_; rintro en u10 ⟨rfl, g10⟩; obtain ⟨l0, l1, l2, l3, l4, l5, l6, l7, l8, l9, l10⟩ := ((E7.keep G9).keep g10).all; obtain ⟨n0, n1, n2, n3, n4, n5, n6, n7, n8, n9, n10⟩ := (E9.keep g10).all)
          go_ret
          exact ⟨rfl, gtrans (gtrans B3 G9) g10⟩
        · have q0 : (c == 0) = false := by simpa using hc
          obtain ⟨he, p0, p1⟩ := HP'.out hc
          have he' := he
          unfold zeroE at he'
          simp only [Ev.mk.injEq] at he'
          obtain ⟨rfl, rfl, rfl, rfl, rfl, rfl, rfl, rfl, rfl, rfl, rfl⟩ := he'
          clear HS' HP' hc he
          have ae := arr_eq 0 0 0 0 0 0 0 0
          obtain ⟨m0, m1, m2, m3, m4, m5, m6, m7, m8, m9, m10⟩ := E7.all
          go_wp2
          go_ret
          exact ⟨by first | rfl | simp [p0, p1], B3⟩
  · have q0 : (a == 0) = false := by simpa using ha
    obtain ⟨hl, p0, p1⟩ := HP'.out ha
    subst hl
    have hn0 : n = 0 := hn.symm
    subst hn0
    clear HS' HP' ha
    go_wp2
    go_ret
    exact ⟨by first | rfl | simp [p0, p1], B3⟩

end Go.Proofs.YtkpnnofonocilaaDoor.eventCanon
