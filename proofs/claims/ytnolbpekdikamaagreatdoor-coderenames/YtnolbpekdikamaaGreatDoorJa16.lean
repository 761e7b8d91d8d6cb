/- The evaluator's node. And what goes with it: 1 texts in one. -/
import Derived.Test.YtnolbpekdikamaaGreatDoorJa15
namespace Go.Proofs.YtnolbpekdikamaaGreatDoor
open Go.RowKit Go.BigFrame Go.Proofs.YtnolbpekdikamaaGreatDoor.Ev
set_option linter.unusedVariables false
set_option linter.unusedSimpArgs false

/-- The tables that num reads. -/
structure TbA2 (w : World) : Prop where
  t : Tabs w
  n : TabN w
theorem TbA2.keep {w u : World} (h : TbA2 w) (G : Below w.heap.size w u) : TbA2 u := ⟨h.t.keep G, h.n.keep G⟩
theorem TbAt.two {w : World} (h : TbAt w) : TbA2 w := ⟨h.t, h.n⟩
abbrev evlC (sa : Option Addr) (sc : Nat) (L : List Ty) (bi : Nat) (E : Envr) (al : Option Addr) (cl : Nat) (v : Value) : Array Value := #[.slice sa L.length sc, .map (some bi), .slice al E.lists.length cl, .int .i64 E.each, .int .i64 E.at_, v]
/-- An evaluator in memory, with the values so far. -/
structure EvlI (w : World) (pe bi nb : Nat) (sa : Option Addr) (sc : Nat) (L : List Ty) (M : ByteArray → Option Int) (E : Envr) (al : Option Addr) (cl : Nat) (vb N : Nat) (vs : List V2) : Prop where
  blk : Bk w pe (evlC sa sc L bi E al cl (.slice (some ⟨vb, 0, none⟩) N N)) 99
  ty : IsTypes w sa L.length L
  mp : MpAt w bi nb M
  ev : IsEnv w E al cl
  vals : ∀ j, j < N → w.cell? ⟨vb, j * 2, none⟩ = some (.bool (vs.getD j noV2).1) ∧ w.cell? ⟨vb, j * 2 + 1, none⟩ = some (.int .i64 (vs.getD j noV2).2)
theorem EvlI.keep {w u : World} {pe bi nb : Nat} {sa : Option Addr} {sc : Nat} {L : List Ty} {M : ByteArray → Option Int} {E : Envr} {al : Option Addr} {cl : Nat} {vb N : Nat} {vs : List V2} (h : EvlI w pe bi nb sa sc L M E al cl vb N vs) (G : Below w.heap.size w u) : EvlI u pe bi nb sa sc L M E al cl vb N vs :=
  ⟨h.blk.keep G, h.ty.keep G, h.mp.keep G, h.ev.keep G, fun j hj => ⟨(G.cell (p := ⟨_, _, none⟩) (lt_of_cell (h.vals j hj).1)).trans (h.vals j hj).1, (G.cell (p := ⟨_, _, none⟩) (lt_of_cell (h.vals j hj).2)).trans (h.vals j hj).2⟩⟩
set_option maxRecDepth 100000 in
set_option maxHeartbeats 4000000 in
theorem placesOf_any (pe bi : Nat) (sa : Option Addr) (sc : Nat) (L : List Ty) (x : ByteArray) (w : World) (h0 : w.cell? ⟨pe, 0, none⟩ = some (.slice sa L.length sc)) (A : IsTypes w sa L.length L) :
    Calls Tryz.prog 84 #[ptrE pe, .string x] w fun e w' => ∃ be bx, e = .returned (cloF be bx) ∧ CloA w' be bx L x ∧ Below w.heap.size w w' := by
  have B := galloc (galloc (Below.refl w.heap.size w) (.cells #[ptrE pe] 123)) (.cells #[.string x] 9)
  have k0 := (Bk.new w #[ptrE pe] 123).alloc (.cells #[.string x] 9)
  have k1 := Bk.newE (w := w.alloc (.cells #[ptrE pe] 123)) (g := w.heap.size + 1) (by simp) #[.string x] 9
  go_enter Tryz.func84, Tryz.ntmps84
  go_wp2
  go_ret
  exact ⟨_, _, rfl, ⟨pe, sa, sc, cell_of_row _ _ 0 _ _ _ k0, (B.cell (p := ⟨_, _, none⟩) (lt_of_cell h0)).trans h0, cell_of_row _ _ 0 _ _ _ k1, A.keep B⟩, B⟩
set_option maxRecDepth 100000 in
set_option maxHeartbeats 16000000 in
theorem nodeE_any (pe bi nb : Nat) (sa : Option Addr) (sc : Nat) (L : List Ty) (M : ByteArray → Option Int) (E : Envr) (al : Option Addr) (cl vb N : Nat) (vs : List V2) (n : Nd) (w : World) (I : EvlI w pe bi nb sa sc L M E al cl vb N vs) (T : TbA2 w) (hn : n.fit) (hop : 1 ≤ n.op ∧ n.op ≤ 26) (h12 : 12 ≤ n.op → 0 ≤ n.l ∧ n.l < (N : Int)) (h14 : 14 ≤ n.op → 0 ≤ n.r ∧ n.r < (N : Int)) (hvs : fitS vs) (hE : E.ok) (hN : N * 16 ≤ 140737488351232) :
    Calls Tryz.prog 63 #[ptrE pe, .agg (ndA n)] w fun e w' => e = .returned (VA (nodeW L M E vs n)) ∧ Below w.heap.size w w' := by
  have B0 := galloc (galloc (Below.refl w.heap.size w) (.cells (ndA n) 64)) (.cells #[.bool false, .int .i64 0] 51)
  have N0 := (Bk.new w (ndA n) 64).alloc (.cells #[.bool false, .int .i64 0] 51)
  have RV := Two.new (w.alloc (.cells (ndA n) 64)) (.bool false) (.int .i64 0) 51
  rw [show (w.alloc (.cells (ndA n) 64)).heap.size = w.heap.size + 1 by simp] at RV
  have IV := I.keep B0
  have TV := T.keep B0
  have c91 := fun u : World => kLiteral_any n u
  have hcl := fun it => (lstO_ok hE it).2.1
  obtain ⟨⟨xk, xn⟩, hx⟩ : ∃ x, nodeW L M E vs n = x := ⟨_, rfl⟩
  rw [hx]
  have HX : Hid (nodeW L M E vs n = (xk, xn)) := hx
  clear hx I T
  have hnv := hn.v
  clear hn
  obtain ⟨nop, nn, nv, nx, nl, nr⟩ := n
  unfold ndA at *
  dsimp only at *
  go_enter Tryz.func63, Tryz.ntmps63
  go_upto_region 1 with fail
  generalize (w.alloc _).alloc _ = V at *
  obtain ⟨m0, m1, m2, m3, m4, m5⟩ := N0.at6
  obtain ⟨d0, d1, d2, d3, d4, d5⟩ := IV.blk.at6
  have hne0 : Nonempty (Ext V) := ⟨⟨_, Below.refl _ _⟩⟩
  have q0 := fun z : Ext V => (z.cell _ _ (lt_of_cell m0)).trans m0
  have q2 := fun z : Ext V => (z.cell _ _ (lt_of_cell m2)).trans m2
  have q3 := fun z : Ext V => (z.cell _ _ (lt_of_cell m3)).trans m3
  have q4 := fun z : Ext V => (z.cell _ _ (lt_of_cell m4)).trans m4
  have q5 := fun z : Ext V => (z.cell _ _ (lt_of_cell m5)).trans m5
  have p1 := fun z : Ext V => (z.cell _ _ (lt_of_cell d1)).trans d1
  have p2 := fun z : Ext V => (z.cell _ _ (lt_of_cell d2)).trans d2
  have p3 := fun z : Ext V => (z.cell _ _ (lt_of_cell d3)).trans d3
  have p4 := fun z : Ext V => (z.cell _ _ (lt_of_cell d4)).trans d4
  have p5 := fun z : Ext V => (z.cell _ _ (lt_of_cell d5)).trans d5
  have lq := fun z : Ext V => (IV.mp.keep z.h).look1 nv hnv
  by_cases h4 : nop < 4
  · obtain ⟨lt, hlt⟩ : ∃ lt, kLit ⟨nop, nn, nv, nx, nl, nr⟩ = lt := ⟨_, rfl⟩
    rw [hlt] at c91
    have hx2 : ((true, lt) : V2) = (xk, xn) := by have := HX.out; unfold nodeW at this; rwa [if_pos h4, hlt] at this
    obtain ⟨rfl, rfl⟩ := Prod.mk.inj hx2
    clear HX hx2 hlt
    rcases (show nop = 1 ∨ nop = 2 ∨ nop = 3 by omega) with rfl | rfl | rfl
    all_goals
      go_wp2_with (first
        | (go_at_call 71; (with_reducible refine (c91 _).mono ?_); rintro e u1 ⟨rfl, g1⟩; have G1 := gtrans B0 g1; have R1 := RV.keep g1)
        | (go_at_call 26; (with_reducible refine (cknown_any _ _).mono ?_); rintro _ u2 ⟨rfl, g2⟩; have G2 := gtrans G1 g2; obtain ⟨r0, r1⟩ := show _ ∧ _ from ⟨(R1.keep g2).at0, (R1.keep g2).at1⟩; have rf := (R1.keep g2).free))
      refine bodyPost_ret (v := .agg #[.bool true, .int .i64 lt]) (by simp [results, Tryz.results63, go_sem, r0, r1]) rfl ⟨rfl, ?_⟩
      exact gset (gset G2 (by simp) _) (by simp) _
  by_cases h5 : nop = 5
  · subst h5
    have hx2 : ((true, ((lstO E ((M nv).getD 0)).length : Int)) : V2) = (xk, xn) := HX.out
    have cC : ∀ z : Ext V, Calls Tryz.prog 27 #[envA al cl E, .int .i64 ((M nv).getD 0)] z.X (fun e' w'' => e' = .returned (.agg #[.bool xk, .int .i64 xn]) ∧ ∃ m : Ext V, w'' = m.X) := fun z => by
      obtain ⟨e1, e2⟩ := Prod.mk.inj hx2
      rw [← e1, ← e2]
      exact ext_of (count_any E al cl ((M nv).getD 0) z.X (IV.ev.n.keep z.h) (by have := hcl ((M nv).getD 0); omega))
    clear HX hx2
    go_upto_region 7 with fail
    refine wp_region_ext_tail 12 (by kernel_rfl) (by kernel_rfl) ?_
    simp only [List.take_succ_cons, List.take_zero, List.drop_succ_cons, List.drop_zero]
    repeat (first
      | (refine wpQuiet_want rfl fun K hK => ⟨.int .i64 ((M nv).getD 0), fun u hC => by obtain ⟨z, rfl⟩ := hC; exact quiet_look (lq z) rfl rfl rfl, hK _ ?_⟩; simp only [Act.put, List.setIfInBounds_toArray, List.set_cons_succ, List.set_cons_zero])
      | go_big_quiet_step (first | (go_at_call 27; with_reducible exact cC _)))
    refine wpQuiet_nil ?_
    intro _ hw'
    obtain ⟨nz, hw''⟩ := hw'
    subst hw''
    have RX := RV.keep nz.h
    have GX := gtrans B0 nz.h
    obtain ⟨r0, r1⟩ := show _ ∧ _ from ⟨RX.at0, RX.at1⟩
    have rf := RX.free
    generalize nz.X = X at *
    go_wp2
    refine bodyPost_ret (v := .agg #[.bool xk, .int .i64 xn]) (by simp [results, Tryz.results63, go_sem, r0, r1]) rfl ⟨rfl, ?_⟩
    exact gset (gset GX (by simp) _) (by simp) _
  by_cases h11 : nop ≤ 11
  · rcases (show nop = 4 ∨ nop = 6 ∨ nop = 7 ∨ nop = 8 ∨ nop = 9 ∨ nop = 10 ∨ nop = 11 by omega) with rfl | rfl | rfl | rfl | rfl | rfl | rfl
    · replace HX : Hid (menV (fun t => attrI L t nx) 4 E ((M nv).getD 0) = (xk, xn)) := HX.out
      go_upto_region 15 with fail
      refine wp_region_ext_call 17 2 16 (by omega) (by omega) (ptrE pe) _ _ _ rfl rfl rfl rfl rfl rfl (by kernel_rfl) (by kernel_rfl) (fun c a d v w h => by cases d <;> exact h) ?_
      simp only [List.take_succ_cons, List.take_zero, List.drop_succ_cons, List.drop_zero, List.eraseIdx_cons_succ, List.eraseIdx_cons_zero, Act.put, List.setIfInBounds_toArray, List.set_cons_succ, List.set_cons_zero]
      repeat (first
        | (refine wpQuiet_want rfl fun K hK => ⟨.int .i64 ((M nv).getD 0), fun u hC => by obtain ⟨z, rfl⟩ := hC; exact quiet_look (lq z) rfl rfl rfl, hK _ ?_⟩; simp only [Act.put, List.setIfInBounds_toArray, List.set_cons_succ, List.set_cons_zero])
        | go_big_quiet_step (fail))
      refine wpQuiet_nil ?_
      intro X hX
      obtain ⟨nz, rfl⟩ := hX
      have RX := RV.keep nz.h
      have GX := gtrans B0 nz.h
      have IX := IV.keep nz.h
      have hzn := nz.h
      generalize nz.X = X at *
      refine wpOp_call rfl rfl 84 #[ptrE pe, .string nx] (by kernel_rfl) _ (placesOf_any pe bi sa sc L nx X IX.blk.at6.1 IX.ty) ?_
      rintro e Y ⟨be, bx, rfl, CY, gY⟩
      refine ⟨_, rfl, ⟨⟨Y, hzn.trans (gY.mono hzn.size)⟩, rfl⟩, ?_⟩
      have RY := RX.keep gY
      have GY := gtrans GX gY
      have cM := mention_anyE 4 E al cl ((M nv).getD 0) be bx L nx Y CY trivial (IX.keep gY).ev.n hE
      unfold attF at cM
      rw [HX.out] at cM
      simp only [Act.put, List.setIfInBounds_toArray, List.set_cons_succ, List.set_cons_zero]
      go_wp2_with (first
        | (go_at_call 28; (with_reducible refine cM.mono ?_); rintro e Z ⟨rfl, gZ⟩; obtain ⟨r0, r1⟩ := show _ ∧ _ from ⟨(RY.keep gZ).at0, (RY.keep gZ).at1⟩; have rf := (RY.keep gZ).free; have GZ := gtrans GY gZ))
      refine bodyPost_ret (v := .agg #[.bool xk, .int .i64 xn]) (by simp [results, Tryz.results63, go_sem, r0, r1]) rfl ⟨rfl, ?_⟩
      exact gset (gset GZ (by simp) _) (by simp) _
    · replace HX : Hid (menV (fun t => attrI L t nx) 6 E ((M nv).getD 0) = (xk, xn)) := HX.out
      go_upto_region 15 with fail
      refine wp_region_ext_call 17 2 16 (by omega) (by omega) (ptrE pe) _ _ _ rfl rfl rfl rfl rfl rfl (by kernel_rfl) (by kernel_rfl) (fun c a d v w h => by cases d <;> exact h) ?_
      simp only [List.take_succ_cons, List.take_zero, List.drop_succ_cons, List.drop_zero, List.eraseIdx_cons_succ, List.eraseIdx_cons_zero, Act.put, List.setIfInBounds_toArray, List.set_cons_succ, List.set_cons_zero]
      repeat (first
        | (refine wpQuiet_want rfl fun K hK => ⟨.int .i64 ((M nv).getD 0), fun u hC => by obtain ⟨z, rfl⟩ := hC; exact quiet_look (lq z) rfl rfl rfl, hK _ ?_⟩; simp only [Act.put, List.setIfInBounds_toArray, List.set_cons_succ, List.set_cons_zero])
        | go_big_quiet_step (fail))
      refine wpQuiet_nil ?_
      intro X hX
      obtain ⟨nz, rfl⟩ := hX
      have RX := RV.keep nz.h
      have GX := gtrans B0 nz.h
      have IX := IV.keep nz.h
      have hzn := nz.h
      generalize nz.X = X at *
      refine wpOp_call rfl rfl 84 #[ptrE pe, .string nx] (by kernel_rfl) _ (placesOf_any pe bi sa sc L nx X IX.blk.at6.1 IX.ty) ?_
      rintro e Y ⟨be, bx, rfl, CY, gY⟩
      refine ⟨_, rfl, ⟨⟨Y, hzn.trans (gY.mono hzn.size)⟩, rfl⟩, ?_⟩
      have RY := RX.keep gY
      have GY := gtrans GX gY
      have cM := mention_anyE 6 E al cl ((M nv).getD 0) be bx L nx Y CY trivial (IX.keep gY).ev.n hE
      unfold attF at cM
      rw [HX.out] at cM
      simp only [Act.put, List.setIfInBounds_toArray, List.set_cons_succ, List.set_cons_zero]
      go_wp2_with (first
        | (go_at_call 28; (with_reducible refine cM.mono ?_); rintro e Z ⟨rfl, gZ⟩; obtain ⟨r0, r1⟩ := show _ ∧ _ from ⟨(RY.keep gZ).at0, (RY.keep gZ).at1⟩; have rf := (RY.keep gZ).free; have GZ := gtrans GY gZ))
      refine bodyPost_ret (v := .agg #[.bool xk, .int .i64 xn]) (by simp [results, Tryz.results63, go_sem, r0, r1]) rfl ⟨rfl, ?_⟩
      exact gset (gset GZ (by simp) _) (by simp) _
    · replace HX : Hid (menV (fun t => attrI L t nx) 7 E ((M nv).getD 0) = (xk, xn)) := HX.out
      go_upto_region 15 with fail
      refine wp_region_ext_call 17 2 16 (by omega) (by omega) (ptrE pe) _ _ _ rfl rfl rfl rfl rfl rfl (by kernel_rfl) (by kernel_rfl) (fun c a d v w h => by cases d <;> exact h) ?_
      simp only [List.take_succ_cons, List.take_zero, List.drop_succ_cons, List.drop_zero, List.eraseIdx_cons_succ, List.eraseIdx_cons_zero, Act.put, List.setIfInBounds_toArray, List.set_cons_succ, List.set_cons_zero]
      repeat (first
        | (refine wpQuiet_want rfl fun K hK => ⟨.int .i64 ((M nv).getD 0), fun u hC => by obtain ⟨z, rfl⟩ := hC; exact quiet_look (lq z) rfl rfl rfl, hK _ ?_⟩; simp only [Act.put, List.setIfInBounds_toArray, List.set_cons_succ, List.set_cons_zero])
        | go_big_quiet_step (fail))
      refine wpQuiet_nil ?_
      intro X hX
      obtain ⟨nz, rfl⟩ := hX
      have RX := RV.keep nz.h
      have GX := gtrans B0 nz.h
      have IX := IV.keep nz.h
      have hzn := nz.h
      generalize nz.X = X at *
      refine wpOp_call rfl rfl 84 #[ptrE pe, .string nx] (by kernel_rfl) _ (placesOf_any pe bi sa sc L nx X IX.blk.at6.1 IX.ty) ?_
      rintro e Y ⟨be, bx, rfl, CY, gY⟩
      refine ⟨_, rfl, ⟨⟨Y, hzn.trans (gY.mono hzn.size)⟩, rfl⟩, ?_⟩
      have RY := RX.keep gY
      have GY := gtrans GX gY
      have cM := mention_anyE 7 E al cl ((M nv).getD 0) be bx L nx Y CY trivial (IX.keep gY).ev.n hE
      unfold attF at cM
      rw [HX.out] at cM
      simp only [Act.put, List.setIfInBounds_toArray, List.set_cons_succ, List.set_cons_zero]
      go_wp2_with (first
        | (go_at_call 28; (with_reducible refine cM.mono ?_); rintro e Z ⟨rfl, gZ⟩; obtain ⟨r0, r1⟩ := show _ ∧ _ from ⟨(RY.keep gZ).at0, (RY.keep gZ).at1⟩; have rf := (RY.keep gZ).free; have GZ := gtrans GY gZ))
      refine bodyPost_ret (v := .agg #[.bool xk, .int .i64 xn]) (by simp [results, Tryz.results63, go_sem, r0, r1]) rfl ⟨rfl, ?_⟩
      exact gset (gset GZ (by simp) _) (by simp) _
    · replace HX : Hid (menV (fun t => attrI L t nx) 8 E ((M nv).getD 0) = (xk, xn)) := HX.out
      go_upto_region 15 with fail
      refine wp_region_ext_call 17 2 16 (by omega) (by omega) (ptrE pe) _ _ _ rfl rfl rfl rfl rfl rfl (by kernel_rfl) (by kernel_rfl) (fun c a d v w h => by cases d <;> exact h) ?_
      simp only [List.take_succ_cons, List.take_zero, List.drop_succ_cons, List.drop_zero, List.eraseIdx_cons_succ, List.eraseIdx_cons_zero, Act.put, List.setIfInBounds_toArray, List.set_cons_succ, List.set_cons_zero]
      repeat (first
        | (refine wpQuiet_want rfl fun K hK => ⟨.int .i64 ((M nv).getD 0), fun u hC => by obtain ⟨z, rfl⟩ := hC; exact quiet_look (lq z) rfl rfl rfl, hK _ ?_⟩; simp only [Act.put, List.setIfInBounds_toArray, List.set_cons_succ, List.set_cons_zero])
        | go_big_quiet_step (fail))
      refine wpQuiet_nil ?_
      intro X hX
      obtain ⟨nz, rfl⟩ := hX
      have RX := RV.keep nz.h
      have GX := gtrans B0 nz.h
      have IX := IV.keep nz.h
      have hzn := nz.h
      generalize nz.X = X at *
      refine wpOp_call rfl rfl 84 #[ptrE pe, .string nx] (by kernel_rfl) _ (placesOf_any pe bi sa sc L nx X IX.blk.at6.1 IX.ty) ?_
      rintro e Y ⟨be, bx, rfl, CY, gY⟩
      refine ⟨_, rfl, ⟨⟨Y, hzn.trans (gY.mono hzn.size)⟩, rfl⟩, ?_⟩
      have RY := RX.keep gY
      have GY := gtrans GX gY
      have cM := mention_anyE 8 E al cl ((M nv).getD 0) be bx L nx Y CY trivial (IX.keep gY).ev.n hE
      unfold attF at cM
      rw [HX.out] at cM
      simp only [Act.put, List.setIfInBounds_toArray, List.set_cons_succ, List.set_cons_zero]
      go_wp2_with (first
        | (go_at_call 28; (with_reducible refine cM.mono ?_); rintro e Z ⟨rfl, gZ⟩; obtain ⟨r0, r1⟩ := show _ ∧ _ from ⟨(RY.keep gZ).at0, (RY.keep gZ).at1⟩; have rf := (RY.keep gZ).free; have GZ := gtrans GY gZ))
      refine bodyPost_ret (v := .agg #[.bool xk, .int .i64 xn]) (by simp [results, Tryz.results63, go_sem, r0, r1]) rfl ⟨rfl, ?_⟩
      exact gset (gset GZ (by simp) _) (by simp) _
    · replace HX : Hid (menV (fun t => attrI L t nx) 9 E ((M nv).getD 0) = (xk, xn)) := HX.out
      go_upto_region 15 with fail
      refine wp_region_ext_call 17 2 16 (by omega) (by omega) (ptrE pe) _ _ _ rfl rfl rfl rfl rfl rfl (by kernel_rfl) (by kernel_rfl) (fun c a d v w h => by cases d <;> exact h) ?_
      simp only [List.take_succ_cons, List.take_zero, List.drop_succ_cons, List.drop_zero, List.eraseIdx_cons_succ, List.eraseIdx_cons_zero, Act.put, List.setIfInBounds_toArray, List.set_cons_succ, List.set_cons_zero]
      repeat (first
        | (refine wpQuiet_want rfl fun K hK => ⟨.int .i64 ((M nv).getD 0), fun u hC => by obtain ⟨z, rfl⟩ := hC; exact quiet_look (lq z) rfl rfl rfl, hK _ ?_⟩; simp only [Act.put, List.setIfInBounds_toArray, List.set_cons_succ, List.set_cons_zero])
        | go_big_quiet_step (fail))
      refine wpQuiet_nil ?_
      intro X hX
      obtain ⟨nz, rfl⟩ := hX
      have RX := RV.keep nz.h
      have GX := gtrans B0 nz.h
      have IX := IV.keep nz.h
      have hzn := nz.h
      generalize nz.X = X at *
      refine wpOp_call rfl rfl 84 #[ptrE pe, .string nx] (by kernel_rfl) _ (placesOf_any pe bi sa sc L nx X IX.blk.at6.1 IX.ty) ?_
      rintro e Y ⟨be, bx, rfl, CY, gY⟩
      refine ⟨_, rfl, ⟨⟨Y, hzn.trans (gY.mono hzn.size)⟩, rfl⟩, ?_⟩
      have RY := RX.keep gY
      have GY := gtrans GX gY
      have cM := mention_anyE 9 E al cl ((M nv).getD 0) be bx L nx Y CY trivial (IX.keep gY).ev.n hE
      unfold attF at cM
      rw [HX.out] at cM
      simp only [Act.put, List.setIfInBounds_toArray, List.set_cons_succ, List.set_cons_zero]
      go_wp2_with (first
        | (go_at_call 28; (with_reducible refine cM.mono ?_); rintro e Z ⟨rfl, gZ⟩; obtain ⟨r0, r1⟩ := show _ ∧ _ from ⟨(RY.keep gZ).at0, (RY.keep gZ).at1⟩; have rf := (RY.keep gZ).free; have GZ := gtrans GY gZ))
      refine bodyPost_ret (v := .agg #[.bool xk, .int .i64 xn]) (by simp [results, Tryz.results63, go_sem, r0, r1]) rfl ⟨rfl, ?_⟩
      exact gset (gset GZ (by simp) _) (by simp) _
    · replace HX : Hid (menV (fun t => attrI L t nx) 10 E ((M nv).getD 0) = (xk, xn)) := HX.out
      go_upto_region 15 with fail
      refine wp_region_ext_call 17 2 16 (by omega) (by omega) (ptrE pe) _ _ _ rfl rfl rfl rfl rfl rfl (by kernel_rfl) (by kernel_rfl) (fun c a d v w h => by cases d <;> exact h) ?_
      simp only [List.take_succ_cons, List.take_zero, List.drop_succ_cons, List.drop_zero, List.eraseIdx_cons_succ, List.eraseIdx_cons_zero, Act.put, List.setIfInBounds_toArray, List.set_cons_succ, List.set_cons_zero]
      repeat (first
        | (refine wpQuiet_want rfl fun K hK => ⟨.int .i64 ((M nv).getD 0), fun u hC => by obtain ⟨z, rfl⟩ := hC; exact quiet_look (lq z) rfl rfl rfl, hK _ ?_⟩; simp only [Act.put, List.setIfInBounds_toArray, List.set_cons_succ, List.set_cons_zero])
        | go_big_quiet_step (fail))
      refine wpQuiet_nil ?_
      intro X hX
      obtain ⟨nz, rfl⟩ := hX
      have RX := RV.keep nz.h
      have GX := gtrans B0 nz.h
      have IX := IV.keep nz.h
      have hzn := nz.h
      generalize nz.X = X at *
      refine wpOp_call rfl rfl 84 #[ptrE pe, .string nx] (by kernel_rfl) _ (placesOf_any pe bi sa sc L nx X IX.blk.at6.1 IX.ty) ?_
      rintro e Y ⟨be, bx, rfl, CY, gY⟩
      refine ⟨_, rfl, ⟨⟨Y, hzn.trans (gY.mono hzn.size)⟩, rfl⟩, ?_⟩
      have RY := RX.keep gY
      have GY := gtrans GX gY
      have cM := mention_anyE 10 E al cl ((M nv).getD 0) be bx L nx Y CY trivial (IX.keep gY).ev.n hE
      unfold attF at cM
      rw [HX.out] at cM
      simp only [Act.put, List.setIfInBounds_toArray, List.set_cons_succ, List.set_cons_zero]
      go_wp2_with (first
        | (go_at_call 28; (with_reducible refine cM.mono ?_); rintro e Z ⟨rfl, gZ⟩; obtain ⟨r0, r1⟩ := show _ ∧ _ from ⟨(RY.keep gZ).at0, (RY.keep gZ).at1⟩; have rf := (RY.keep gZ).free; have GZ := gtrans GY gZ))
      refine bodyPost_ret (v := .agg #[.bool xk, .int .i64 xn]) (by simp [results, Tryz.results63, go_sem, r0, r1]) rfl ⟨rfl, ?_⟩
      exact gset (gset GZ (by simp) _) (by simp) _
    · replace HX : Hid (menV (fun t => attrI L t nx) 11 E ((M nv).getD 0) = (xk, xn)) := HX.out
      go_upto_region 15 with fail
      refine wp_region_ext_call 17 2 16 (by omega) (by omega) (ptrE pe) _ _ _ rfl rfl rfl rfl rfl rfl (by kernel_rfl) (by kernel_rfl) (fun c a d v w h => by cases d <;> exact h) ?_
      simp only [List.take_succ_cons, List.take_zero, List.drop_succ_cons, List.drop_zero, List.eraseIdx_cons_succ, List.eraseIdx_cons_zero, Act.put, List.setIfInBounds_toArray, List.set_cons_succ, List.set_cons_zero]
      repeat (first
        | (refine wpQuiet_want rfl fun K hK => ⟨.int .i64 ((M nv).getD 0), fun u hC => by obtain ⟨z, rfl⟩ := hC; exact quiet_look (lq z) rfl rfl rfl, hK _ ?_⟩; simp only [Act.put, List.setIfInBounds_toArray, List.set_cons_succ, List.set_cons_zero])
        | go_big_quiet_step (fail))
      refine wpQuiet_nil ?_
      intro X hX
      obtain ⟨nz, rfl⟩ := hX
      have RX := RV.keep nz.h
      have GX := gtrans B0 nz.h
      have IX := IV.keep nz.h
      have hzn := nz.h
      generalize nz.X = X at *
      refine wpOp_call rfl rfl 84 #[ptrE pe, .string nx] (by kernel_rfl) _ (placesOf_any pe bi sa sc L nx X IX.blk.at6.1 IX.ty) ?_
      rintro e Y ⟨be, bx, rfl, CY, gY⟩
      refine ⟨_, rfl, ⟨⟨Y, hzn.trans (gY.mono hzn.size)⟩, rfl⟩, ?_⟩
      have RY := RX.keep gY
      have GY := gtrans GX gY
      have cM := mention_anyE 11 E al cl ((M nv).getD 0) be bx L nx Y CY trivial (IX.keep gY).ev.n hE
      unfold attF at cM
      rw [HX.out] at cM
      simp only [Act.put, List.setIfInBounds_toArray, List.set_cons_succ, List.set_cons_zero]
      go_wp2_with (first
        | (go_at_call 28; (with_reducible refine cM.mono ?_); rintro e Z ⟨rfl, gZ⟩; obtain ⟨r0, r1⟩ := show _ ∧ _ from ⟨(RY.keep gZ).at0, (RY.keep gZ).at1⟩; have rf := (RY.keep gZ).free; have GZ := gtrans GY gZ))
      refine bodyPost_ret (v := .agg #[.bool xk, .int .i64 xn]) (by simp [results, Tryz.results63, go_sem, r0, r1]) rfl ⟨rfl, ?_⟩
      exact gset (gset GZ (by simp) _) (by simp) _
  by_cases h12' : nop = 12
  · subst h12'
    obtain ⟨k, rfl⟩ : ∃ k : Nat, nl = k := ⟨nl.toNat, by have := (h12 (by decide)).1; omega⟩
    have hk : k < N := by have := (h12 (by decide)).2; omega
    have HX2 : negW (vs.getD k noV2) = (xk, xn) := by
      have := HX.out
      unfold nodeW at this
      dsimp only at this
      rwa [if_neg (by decide), if_neg (by decide), if_neg (by decide), if_pos rfl, Int.toNat_natCast] at this
    obtain ⟨v0, v1⟩ := IV.vals k hk
    have hfk := hvs k
    generalize vs.getD k noV2 = av at *
    obtain ⟨ak, an⟩ := av
    dsimp only at v0 v1 hfk
    have cC : ∀ z : Ext V, Calls Tryz.prog 31 #[.agg #[.bool ak, .int .i64 an]] z.X (fun e' w'' => e' = .returned (.agg #[.bool xk, .int .i64 xn]) ∧ ∃ m : Ext V, w'' = m.X) := fun z => by
      have c0 := neg_any ak an z.X hfk
      unfold negW at HX2
      obtain ⟨e1, e2⟩ := Prod.mk.inj HX2
      rw [← e1, ← e2]
      exact ext_of c0
    have p6 := fun z : Ext V => (z.cell _ _ (lt_of_cell v0)).trans v0
    have p7 := fun z : Ext V => (z.cell _ _ (lt_of_cell v1)).trans v1
    have hki : (k : Int) < (N : Int) := by omega
    clear HX2 hfk HX
    go_upto_region 17 with fail
    refine wp_region_ext_tail 9 (by kernel_rfl) (by kernel_rfl) ?_
    simp only [List.take_succ_cons, List.take_zero, List.drop_succ_cons, List.drop_zero]
    repeat (go_big_quiet_step (first | (go_at_call 31; with_reducible exact cC _)))
    refine wpQuiet_nil ?_
    intro _ hw'
    obtain ⟨nz, hw''⟩ := hw'
    subst hw''
    have RX := RV.keep nz.h
    have GX := gtrans B0 nz.h
    obtain ⟨r0, r1⟩ := show _ ∧ _ from ⟨RX.at0, RX.at1⟩
    have rf := RX.free
    generalize nz.X = X at *
    go_wp2
    refine bodyPost_ret (v := .agg #[.bool xk, .int .i64 xn]) (by simp [results, Tryz.results63, go_sem, r0, r1]) rfl ⟨rfl, ?_⟩
    exact gset (gset GX (by simp) _) (by simp) _
  by_cases h13 : nop = 13
  · subst h13
    obtain ⟨k, rfl⟩ : ∃ k : Nat, nl = k := ⟨nl.toNat, by have := (h12 (by decide)).1; omega⟩
    have hk : k < N := by have := (h12 (by decide)).2; omega
    have HX2 : notW (vs.getD k noV2) = (xk, xn) := by
      have := HX.out
      unfold nodeW at this
      dsimp only at this
      rwa [if_neg (by decide), if_neg (by decide), if_neg (by decide), if_neg (by decide), if_pos rfl, Int.toNat_natCast] at this
    obtain ⟨v0, v1⟩ := IV.vals k hk
    have hfk := hvs k
    generalize vs.getD k noV2 = av at *
    obtain ⟨ak, an⟩ := av
    dsimp only at v0 v1 hfk
    have cC : ∀ z : Ext V, Calls Tryz.prog 32 #[.agg #[.bool ak, .int .i64 an]] z.X (fun e' w'' => e' = .returned (.agg #[.bool xk, .int .i64 xn]) ∧ ∃ m : Ext V, w'' = m.X) := fun z => by
      have c0 := not_any ak an z.X (TV.n.keep z.h)
      unfold notW at HX2
      obtain ⟨e1, e2⟩ := Prod.mk.inj HX2
      rw [← e1, ← e2]
      exact ext_of c0
    have p6 := fun z : Ext V => (z.cell _ _ (lt_of_cell v0)).trans v0
    have p7 := fun z : Ext V => (z.cell _ _ (lt_of_cell v1)).trans v1
    have hki : (k : Int) < (N : Int) := by omega
    clear HX2 hfk HX
    go_upto_region 19 with fail
    refine wp_region_ext_tail 9 (by kernel_rfl) (by kernel_rfl) ?_
    simp only [List.take_succ_cons, List.take_zero, List.drop_succ_cons, List.drop_zero]
    repeat (go_big_quiet_step (first | (go_at_call 32; with_reducible exact cC _)))
    refine wpQuiet_nil ?_
    intro _ hw'
    obtain ⟨nz, hw''⟩ := hw'
    subst hw''
    have RX := RV.keep nz.h
    have GX := gtrans B0 nz.h
    obtain ⟨r0, r1⟩ := show _ ∧ _ from ⟨RX.at0, RX.at1⟩
    have rf := RX.free
    generalize nz.X = X at *
    go_wp2
    refine bodyPost_ret (v := .agg #[.bool xk, .int .i64 xn]) (by simp [results, Tryz.results63, go_sem, r0, r1]) rfl ⟨rfl, ?_⟩
    exact gset (gset GX (by simp) _) (by simp) _
  have h14' : 14 ≤ nop := by omega
  obtain ⟨k, rfl⟩ : ∃ k : Nat, nl = k := ⟨nl.toNat, by have := (h12 (by omega)).1; omega⟩
  obtain ⟨j, rfl⟩ : ∃ j : Nat, nr = j := ⟨nr.toNat, by have := (h14 h14').1; omega⟩
  have hk : k < N := by have := (h12 (by omega)).2; omega
  have hj : j < N := by have := (h14 h14').2; omega
  have h3 : ¬ nop < 4 := by omega
  have HX2 : applyV nop (vs.getD k noV2) (vs.getD j noV2) = (xk, xn) := by
    have := HX.out
    unfold nodeW at this
    dsimp only at this
    rwa [if_neg h3, if_neg (by omega), if_neg (by omega), if_neg (by omega), if_neg (by omega), Int.toNat_natCast, Int.toNat_natCast] at this
  obtain ⟨v0, v1⟩ := IV.vals k hk
  obtain ⟨u0, u1⟩ := IV.vals j hj
  have ca := apply_one nop (vs.getD k noV2) (vs.getD j noV2) (hvs k) (hvs j)
  rw [HX2] at ca
  generalize vs.getD k noV2 = av at *
  generalize vs.getD j noV2 = bv at *
  obtain ⟨ak, an⟩ := av
  obtain ⟨bk, bn⟩ := bv
  dsimp only at v0 v1 u0 u1
  have cC : ∀ z : Ext V, Calls Tryz.prog 34 #[.int .i64 nop, VA (ak, an), VA (bk, bn)] z.X (fun e' w'' => e' = .returned (.agg #[.bool xk, .int .i64 xn]) ∧ ∃ m : Ext V, w'' = m.X) := fun z => ext_of (ca z.X (TV.t.keep z.h))
  have p6 := fun z : Ext V => (z.cell _ _ (lt_of_cell v0)).trans v0
  have p7 := fun z : Ext V => (z.cell _ _ (lt_of_cell v1)).trans v1
  have p8 := fun z : Ext V => (z.cell _ _ (lt_of_cell u0)).trans u0
  have p9 := fun z : Ext V => (z.cell _ _ (lt_of_cell u1)).trans u1
  have hki : (k : Int) < (N : Int) := by omega
  have hji : (j : Int) < (N : Int) := by omega
  clear HX2 ca HX
  have n1 : (nop == 1) = false := beq_eq_false_iff_ne.2 (by omega)
  have n2 : (nop == 2) = false := beq_eq_false_iff_ne.2 (by omega)
  have n3 : (nop == 3) = false := beq_eq_false_iff_ne.2 (by omega)
  have n4 : (nop == 4) = false := beq_eq_false_iff_ne.2 (by omega)
  have n5 : (nop == 5) = false := beq_eq_false_iff_ne.2 (by omega)
  have n6 : (nop == 6) = false := beq_eq_false_iff_ne.2 (by omega)
  have n7 : (nop == 7) = false := beq_eq_false_iff_ne.2 (by omega)
  have n8 : (nop == 8) = false := beq_eq_false_iff_ne.2 (by omega)
  have n9 : (nop == 9) = false := beq_eq_false_iff_ne.2 (by omega)
  have n10 : (nop == 10) = false := beq_eq_false_iff_ne.2 (by omega)
  have n11 : (nop == 11) = false := beq_eq_false_iff_ne.2 (by omega)
  have n12 : (nop == 12) = false := beq_eq_false_iff_ne.2 (by omega)
  have n13 : (nop == 13) = false := beq_eq_false_iff_ne.2 (by omega)
  clear h12 h14 h14' hop
  go_upto_region 20 with fail
  refine wp_region_ext_tail 19 (by kernel_rfl) (by kernel_rfl) ?_
  simp only [List.take_succ_cons, List.take_zero, List.drop_succ_cons, List.drop_zero]
  repeat (go_big_quiet_step (first | (go_at_call 34; with_reducible exact cC _)))
  refine wpQuiet_nil ?_
  intro _ hw'
  obtain ⟨nz, hw''⟩ := hw'
  subst hw''
  have RX := RV.keep nz.h
  have GX := gtrans B0 nz.h
  obtain ⟨r0, r1⟩ := show _ ∧ _ from ⟨RX.at0, RX.at1⟩
  have rf := RX.free
  generalize nz.X = X at *
  go_wp2
  refine bodyPost_ret (v := .agg #[.bool xk, .int .i64 xn]) (by simp [results, Tryz.results63, go_sem, r0, r1]) rfl ⟨rfl, ?_⟩
  exact gset (gset GX (by simp) _) (by simp) _

end Go.Proofs.YtnolbpekdikamaaGreatDoor
