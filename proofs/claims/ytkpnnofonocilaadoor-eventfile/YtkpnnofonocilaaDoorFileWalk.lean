/- The walk of the law EventFile. -/
import Derived.Test.YtkpnnofonocilaaDoorRv
import Derived.Test.YtkpnnofonocilaaDoorSd
import Derived.Test.YtkpnnofonocilaaDoorOpenV
import Derived.Test.YtkpnnofonocilaaDoorAe
namespace Go.Proofs.YtkpnnofonocilaaDoor.eventFile
open Go.RowKit Go.BigFrame
set_option linter.unusedVariables false
set_option linter.unusedSimpArgs false

/-- In a region that only reads: a struct in the middle of a block, loaded whole. -/
theorem wpQuiet_load_mid {P : Program} {ops : Array Oper} {C : World → Prop} {Q : Act → Prop} {o : Oper} {rest : List Oper} {a : Act} (hw : Region.wanted o (yielded ops a.tmps) = true) (ty : TypeId) (x : Operand) (ho : o.op = .load ty x)
    (g k : Nat) (hx : a.eval x = .pointer (some ⟨g, k, none⟩)) (cs : List Value) (d : TypeDesc) (hg : ∀ w, C w → w.rangeAt g k cs)
    (hu : P.underlying ty = some d) (hd : d.isRow = true) (hi : (P.info? ty).map (·.size) = some cs.length)
    (a' : Act) (ha : a.put o.dst (.agg cs.toArray) = a') (h : wpQuiet P ops C Q rest a') : wpQuiet P ops C Q (o :: rest) a := by
  subst ha
  refine wpQuiet_want hw fun K hK => ⟨.agg cs.toArray, fun w hC => ?_, hK _ h⟩
  unfold Oper.quietAt execOp
  simp only [ho, hx, Instr.loadAt, Instr.sureAddr, Sem.run_bind, Sem.run_pure, Result.andThen_ok, run_loadVar_mid w g k ty cs d (hg w hC) hu hd hi]
  exact ⟨rfl, rfl⟩

theorem eqS_self (L : List Ty) : eqS L L = true := by
  unfold eqS
  refine decide_eq_true ⟨rfl, fun j hj => ⟨by simp, ?_⟩⟩
  unfold eqB
  simp

set_option maxRecDepth 100000 in
set_option maxHeartbeats 8000000 in
theorem walk (ao : Option Addr) (n cap : Nat) (L : List Ty) (hnc : n ≤ cap) (eo : Option Addr) (ec : Nat) (es : List Ev) (w : World) (K : KwAt w) (E : ErAt w) (P : PwAt w) (h : IsTypes w ao n L) (hr : n * 40 ≤ 140737488351232) (hrs : ∀ j, (L.getD j noTy).2.length * 16 ≤ 140737488351232) (hec : es.length ≤ ec) (V : IsEvs w eo es) (her : es.length * 88 ≤ 140737488351232) (hek : ∀ k, (es.getD k zeroE).ok) :
    Calls Tryd.prog 8 #[.agg #[.slice ao n cap], .slice eo es.length ec] w fun en w' => en = .returned (.bool true) ∧ Below w.heap.size w w' := by
  have hn := h.2.1
  have B := galloc (Below.refl w.heap.size w) (.cells #[.slice ao n cap] 24)
  have O := One.new w (.slice ao n cap) 24
  obtain ⟨m, hm⟩ : ∃ m, es.length = m := ⟨_, rfl⟩
  rw [hm]
  rw [hm] at hec her
  go_enter Tryd.func8, Tryd.ntmps8
  go_upto_region 1 with fail
  generalize hV : w.alloc (.cells #[.slice ao n cap] 24) = X at B O ⊢
  clear hV
  replace h := h.keep B
  replace K := K.keep B
  replace E := E.keep B
  replace P := P.keep B
  replace V := V.keep B
  have o0 := O.at0
  have c := started_any X K E
  go_upto_region 3 with (go_at_call 12; with_reducible refine c.mono ?_; rintro en u ⟨rfl, g⟩)
  clear c
  replace h := h.keep g
  replace K := K.keep g
  replace E := E.keep g
  replace P := P.keep g
  replace V := V.keep g
  replace B := gtrans B g
  replace O := O.keep g
  replace o0 := O.at0
  clear g
  have c1 := printSchema_any ao n cap L u h hnc K
  have c2 := fun z (g : Below u.heap.size u z) => checkSchema_any ao n cap L z (h.keep g) hnc (K.keep g)
  by_cases h0 : schE L = 0
  · have HT := text_back h0
    have hp : (prS L).2 = 0 := by unfold prS; rw [if_pos h0]
    rw [hp] at c1
    simp only [h0] at c2
    have hts : (prS L).1.size ≤ 4096 := by
      have e1 : (prS L).1 = ⟨(textU L L.length).toArray⟩ := by unfold prS; rw [if_pos h0]
      obtain ⟨q1, q2⟩ := sch_small L h0
      have := textU_len L q2 L.length (Nat.le_refl _)
      rw [e1, size_mk]; omega
    generalize (prS L).1 = tx at *
    go_upto_region 4 with (go_at_call 19; with_reducible refine c1.mono ?_; rintro en u1 ⟨rfl, g1⟩)
    have o1 := (O.keep g1).at0
    have c3 := c2 u1 g1
    go_upto_region 7 with (go_at_call 15; with_reducible refine c3.mono ?_; rintro en u2 ⟨rfl, g2⟩)
    have G2 := gtrans g1 g2
    clear c1 c2 c3 o0 o1
    have c4 := parseSchema_any tx (by omega) u2 (K.keep G2)
    rw [HT] at c4
    replace c4 : Calls Tryd.prog 9 #[.string tx] u2 fun e w' => ∃ v, e = .returned (.tuple #[.agg #[v], .int .i64 0, .int .i64 0]) ∧ OwnP u2.heap.size w' v L.length L ∧ Below u2.heap.size u2 w' := c4
    go_upto_region 8 with (go_at_call 9; with_reducible refine c4.mono ?_; rintro en u3 ⟨v, rfl, T, g3⟩; obtain ⟨av, cv, rfl, hTy⟩ := T.own.types)
    have hL := h.1
    rw [hL] at T hTy
    have hcv : n ≤ cv := by obtain ⟨_, _, hown, _⟩ := T; exact own_cap hown
    have G3 := galloc (gtrans G2 g3) (.cells #[.slice av n cv] 24)
    have O1 := One.new u3 (.slice av n cv) 24
    have q3 := galloc (Below.refl u3.heap.size u3) (.cells #[.slice av n cv] 24)
    replace hTy := hTy.keep q3
    rw [hL]
    generalize u3.alloc (.cells #[.slice av n cv] 24) = X3 at *
    have hb1 := O1.lt
    generalize u3.heap.size = b1 at *
    replace h := h.keep G3
    replace K := K.keep G3
    replace E := E.keep G3
    replace P := P.keep G3
    replace V := V.keep G3
    replace B := gtrans B G3
    replace O := O.keep G3
    clear g1 g2 G2 c4 T q3 g3 G3
    have o0 := O.at0
    have o1 := O1.at0
    have c5 := sameSchema_any ao av n n cap cv L L X3 h hTy
    simp only [eqS_self L] at c5
    go_upto_region 11 with (go_at_call 11; with_reducible refine c5.mono ?_; rintro en u4 ⟨rfl, g4⟩)
    replace h := h.keep g4
    replace hTy := hTy.keep g4
    replace K := K.keep g4
    replace E := E.keep g4
    replace P := P.keep g4
    replace V := V.keep g4
    replace B := gtrans B g4
    replace O := O.keep g4
    replace O1 := O1.keep g4
    clear o0 o1 c5 g4 hp HT hts hr hrs
    go_loopw [11] (fun x wr => ∃ k : Nat, k ≤ m ∧ x = .int .i64 k ∧ Below u4.heap.size u4 wr) (fun x _ => m - (intOf x).toNat)
    case atStart => exact ⟨0, Nat.zero_le _, rfl, Below.refl _ _⟩
    case round =>
      obtain ⟨k, hk, rfl, G⟩ := hrel
      by_cases hlt : k < m
      · obtain ⟨gb, go, eo', hr0, hgb⟩ := V k (by omega)
        subst eo'
        have ok := hek k
        generalize es.getD k zeroE = e at hr0 ok
        have R : wr.rangeAt gb (go + k * 11) (evC e).toList := fun j v hv => (G.cell (p := ⟨gb, _, none⟩) hgb).trans (hr0 j v hv)
        have hgw : gb < wr.heap.size := Nat.lt_of_lt_of_le hgb G.size
        clear hr0
        have O2 := O.keep G
        have o0 := O2.at0
        obtain ⟨a, ha⟩ : ∃ a, evE L e = a := ⟨_, rfl⟩
        have hp2 : (prE L e).2 = a := by unfold prE; split <;> simp_all
        have H0 : Hid (a = 0 → pE L (prE L e).1 = (e, 0, 0) ∧ (prE L e).1.size ≤ 100000) := fun h => by
          subst h
          refine ⟨line_back ok ha, ?_⟩
          obtain ⟨z0, z1, z2⟩ := ev_zero L e ha
          have e1 : (prE L e).1 = ⟨(lineU (L.getD e.typ.toNat noTy).1 e (L.getD e.typ.toNat noTy).2.length).toArray⟩ := by unfold prE; rw [if_pos ha]
          have h8 := sch_len L z0 e.typ.toNat (by omega)
          have := lineU_len (L.getD e.typ.toNat noTy).1 e ok (sch_name L z0 e.typ.toNat (by omega)) _ h8
          rw [e1, size_mk]
          omega
        have H1 : Hid (a ≠ 0 → (prE L e).1 = ⟨#[]⟩) := fun h => by unfold prE; rw [ha, if_neg h]
        have c6 := fun nx : Ext wr => ext_of (n := nx) (printEvent_any ao n cap L e nx.X ((h.keep G).keep nx.h) hnc ok ((K.keep G).keep nx.h) ((P.keep G).keep nx.h))
        have c6 : ∀ z : Ext wr, Calls Tryd.prog 21 #[.agg #[.slice ao n cap], .agg (evC e)] z.X (fun e' w'' => e' = .returned (.tuple #[.string (prE L e).1, .int .i64 (prE L e).2]) ∧ ∃ m : Ext wr, w'' = m.X) := c6
        rw [hp2] at c6
        generalize (prE L e).1 = ln at c6 H0 H1
        have p0 := fun z : Ext wr => (z.cell _ _ O2.lt).trans o0
        have hne : Nonempty (Ext wr) := ⟨⟨_, Below.refl _ _⟩⟩
        have hkm : (k : Int) < (m : Int) := by omega
        go_upto_region 13 with fail
        refine wp_region_ext (by kernel_rfl) (by kernel_rfl) ?_
        repeat (first
          | (refine wpQuiet_load_mid rfl 44 (.tmp 63) rfl gb (go + k * 11) rfl (evC e).toList _ (fun X hX => by obtain ⟨nx, rfl⟩ := hX; exact fun j v hv => (nx.cell _ _ hgw).trans (R j v hv)) Tryd.underlying44 rfl (infoE e) _ rfl ?_; simp only [Act.put, List.setIfInBounds_toArray, List.set_cons_succ, List.set_cons_zero])
          | go_big_quiet_step (first | (go_at_call 21; with_reducible exact c6 _)))
        refine wpQuiet_nil ?_
        intro _ hw'
        obtain ⟨n1, hw''⟩ := hw'
        subst hw''
        have G1 := gtrans G n1.h
        obtain ⟨Y, hY⟩ : ∃ Y, Y = n1.X := ⟨_, rfl⟩
        have GY : Below wr.heap.size wr Y := by rw [hY]; exact n1.h
        rw [← hY] at G1 ⊢
        clear hY n1
        have R1 : Y.rangeAt gb (go + k * 11) (evC e).toList := fun j v hv => (GY.cell (p := ⟨gb, _, none⟩) hgw).trans (R j v hv)
        have hgy : gb < Y.heap.size := Nat.lt_of_lt_of_le hgw GY.size
        clear c6 p0 hne o0 O2 R hgw
        have O2 := O.keep G1
        have o0 := O2.at0
        have c6 := fun nx : Ext Y => ext_of (n := nx) (checkEvent_any ao n cap L e nx.X ((h.keep G1).keep nx.h) hnc ((K.keep G1).keep nx.h))
        rw [ha] at c6
        have c6 : ∀ z : Ext Y, Calls Tryd.prog 22 #[.agg #[.slice ao n cap], .agg (evC e)] z.X (fun e' w'' => e' = .returned (.int .i64 a) ∧ ∃ m : Ext Y, w'' = m.X) := c6
        have p0 := fun z : Ext Y => (z.cell _ _ O2.lt).trans o0
        have hne : Nonempty (Ext Y) := ⟨⟨_, Below.refl _ _⟩⟩
        go_upto_region 14 with fail
        refine wp_region_ext (by kernel_rfl) (by kernel_rfl) ?_
        repeat (first
          | (refine wpQuiet_load_mid rfl 44 (.tmp 72) rfl gb (go + k * 11) rfl (evC e).toList _ (fun X hX => by obtain ⟨nx, rfl⟩ := hX; exact fun j v hv => (nx.cell _ _ hgy).trans (R1 j v hv)) Tryd.underlying44 rfl (infoE e) _ rfl ?_; simp only [Act.put, List.setIfInBounds_toArray, List.set_cons_succ, List.set_cons_zero])
          | go_big_quiet_step (first | (go_at_call 22; with_reducible exact c6 _)))
        refine wpQuiet_nil ?_
        intro _ hw'
        obtain ⟨n1, hw''⟩ := hw'
        subst hw''
        have G2 := gtrans G1 n1.h
        obtain ⟨Z, hZ⟩ : ∃ Z, Z = n1.X := ⟨_, rfl⟩
        have GZ : Below Y.heap.size Y Z := by rw [hZ]; exact n1.h
        rw [← hZ] at G2 ⊢
        clear hZ n1
        have R2 : Z.rangeAt gb (go + k * 11) (evC e).toList := fun j v hv => (GZ.cell (p := ⟨gb, _, none⟩) hgy).trans (R1 j v hv)
        have hgz : gb < Z.heap.size := Nat.lt_of_lt_of_le hgy GZ.size
        clear c6 p0 hne o0 O2 R1 hgy GY GZ hp2 ha
        by_cases ha : a = 0
        · subst ha
          obtain ⟨hb, hls⟩ := H0.out rfl
          have c7 := parseEvent_any av n cv L ln (by omega) Z (hTy.keep G2) hcv (K.keep G2) (E.keep G2)
          rw [hb] at c7
          have O3 := O1.keep G2
          have o1 := O3.at0
          obtain ⟨t, i, y, a0, a1, a2, a3, a4, a5, a6, a7⟩ := e
          dsimp only [evC] at c7 R2
          go_upto_region 20 with (go_at_call 17; with_reducible refine c7.mono ?_; rintro en Z2 ⟨rfl, g2⟩)
          have G4 := galloc (gtrans G2 g2) (.cells #[.int .i64 t, .int .u64 i, .int .i64 y, .int .i64 a0, .int .i64 a1, .int .i64 a2, .int .i64 a3, .int .i64 a4, .int .i64 a5, .int .i64 a6, .int .i64 a7] 44)
          have g4 := galloc g2 (.cells #[.int .i64 t, .int .u64 i, .int .i64 y, .int .i64 a0, .int .i64 a1, .int .i64 a2, .int .i64 a3, .int .i64 a4, .int .i64 a5, .int .i64 a6, .int .i64 a7] 44)
          have E4 : Evt (Z2.alloc (.cells #[.int .i64 t, .int .u64 i, .int .i64 y, .int .i64 a0, .int .i64 a1, .int .i64 a2, .int .i64 a3, .int .i64 a4, .int .i64 a5, .int .i64 a6, .int .i64 a7] 44)) Z2.heap.size ⟨t, i, y, a0, a1, a2, a3, a4, a5, a6, a7⟩ := Evt.new Z2 ⟨t, i, y, a0, a1, a2, a3, a4, a5, a6, a7⟩
          generalize Z2.alloc (.cells #[.int .i64 t, .int .u64 i, .int .i64 y, .int .i64 a0, .int .i64 a1, .int .i64 a2, .int .i64 a3, .int .i64 a4, .int .i64 a5, .int .i64 a6, .int .i64 a7] 44) = X4 at *
          generalize Z2.heap.size = b4 at *
          have hg4 : gb < X4.heap.size := Nat.lt_of_lt_of_le hgz g4.size
          have R3 : X4.rangeAt gb (go + k * 11) [.int .i64 t, .int .u64 i, .int .i64 y, .int .i64 a0, .int .i64 a1, .int .i64 a2, .int .i64 a3, .int .i64 a4, .int .i64 a5, .int .i64 a6, .int .i64 a7] := fun j v hv => (g4.cell (p := ⟨gb, _, none⟩) hgz).trans (R2 j v hv)
          clear c7 o1 O3 g2 R2 g4 hb hls
          have hne : Nonempty (Ext X4) := ⟨⟨_, Below.refl _ _⟩⟩
          refine wp_region_ext (by kernel_rfl) (by kernel_rfl) ?_
          repeat (first
            | (refine wpQuiet_load_mid rfl 44 (.tmp 97) rfl gb (go + k * 11) rfl _ _ (fun X hX => by obtain ⟨nx, rfl⟩ := hX; exact fun j v hv => (nx.cell _ _ hg4).trans (R3 j v hv)) Tryd.underlying44 rfl (infoE ⟨t, i, y, a0, a1, a2, a3, a4, a5, a6, a7⟩) _ rfl ?_; simp only [Act.put, List.setIfInBounds_toArray, List.set_cons_succ, List.set_cons_zero])
            | (refine wpQuiet_load_row rfl 44 (.tmp 14) rfl b4 rfl 44 _ (0, 0) _ (fun X hX => by obtain ⟨nx, rfl⟩ := hX; exact E4.keep nx.h) Tryd.underlying44 rfl (infoE ⟨t, i, y, a0, a1, a2, a3, a4, a5, a6, a7⟩) _ rfl ?_; simp only [Act.put, List.setIfInBounds_toArray, List.set_cons_succ, List.set_cons_zero])
            | (refine wpQuiet_ev_neq rfl (.tmp 94) (.tmp 98) _ rfl t i y a0 a1 a2 a3 a4 a5 a6 a7 rfl rfl _ rfl ?_; simp only [Act.put, List.setIfInBounds_toArray, List.set_cons_succ, List.set_cons_zero])
            | go_big_quiet_step (fail))
          refine wpQuiet_nil ?_
          intro _ hw'
          obtain ⟨n1, hw''⟩ := hw'
          subst hw''
          have G5 := gtrans G4 n1.h
          go_wp2
          go_roundw
          case rel => exact ⟨k + 1, by omega, by go_num, G5⟩
          case measure => simp [intOf]; omega
        · have q0 : (a == 0) = false := by simpa using ha
          have hl := H1.out ha
          subst hl
          clear ha
          go_wp2
          go_roundw
          case rel => exact ⟨k + 1, by omega, by go_num, G2⟩
          case measure => simp [intOf]; omega
      · obtain rfl : k = m := by omega
        go_wp2
        go_ret
        exact ⟨rfl, gtrans B G⟩
  · have q0 : (schE L == 0) = false := by simpa using h0
    have hp : prS L = (⟨#[]⟩, schE L) := by unfold prS; rw [if_neg h0]
    rw [hp] at c1
    generalize schE L = a at *
    clear h0 hp
    go_upto_region 4 with (go_at_call 19; with_reducible refine c1.mono ?_; rintro en u1 ⟨rfl, g1⟩)
    have o1 := (O.keep g1).at0
    have c3 := c2 u1 g1
    go_wp2_with (go_at_call 15; with_reducible refine c3.mono ?_; rintro en u2 ⟨rfl, g2⟩)
    go_ret
    exact ⟨by first | rfl | simp, gtrans B (gtrans g1 g2)⟩

end Go.Proofs.YtkpnnofonocilaaDoor.eventFile
