/- The document's read and fold, by the schema. And what goes with it: 2 texts in one. -/
import Derived.Test.YtglagbedgjkdbaaGreatDoorJb15
namespace Go.Proofs.YtglagbedgjkdbaaGreatDoor
open Go.RowKit Go.BigFrame Go.Proofs.YtglagbedgjkdbaaGreatDoor.Ev
set_option linter.unusedVariables false
set_option linter.unusedSimpArgs false

/-- The cells of an event's block. -/
theorem ev_blk {w : World} {b : Nat} {ts id typ v0 v1 v2 v3 v4 v5 v6 v7 : Int} {t : TypeId} (h : Bk w b #[.int .i64 ts, .int .u64 id, .int .i64 typ, .int .i64 v0, .int .i64 v1, .int .i64 v2, .int .i64 v3, .int .i64 v4, .int .i64 v5, .int .i64 v6, .int .i64 v7] t) :
    w.cell? ⟨b, 0, none⟩ = some (.int .i64 ts) ∧ w.cell? ⟨b, 2, none⟩ = some (.int .i64 typ) ∧ w.cell? ⟨b, 3, none⟩ = some (.int .i64 v0) ∧ w.cell? ⟨b, 4, none⟩ = some (.int .i64 v1) ∧ w.cell? ⟨b, 5, none⟩ = some (.int .i64 v2) ∧ w.cell? ⟨b, 6, none⟩ = some (.int .i64 v3) ∧ w.cell? ⟨b, 7, none⟩ = some (.int .i64 v4) ∧ w.cell? ⟨b, 8, none⟩ = some (.int .i64 v5) ∧ w.cell? ⟨b, 9, none⟩ = some (.int .i64 v6) ∧ w.cell? ⟨b, 10, none⟩ = some (.int .i64 v7) :=
  ⟨cell_of_row _ _ 0 _ _ _ h, cell_of_row _ _ 2 _ _ _ h, cell_of_row _ _ 3 _ _ _ h, cell_of_row _ _ 4 _ _ _ h, cell_of_row _ _ 5 _ _ _ h, cell_of_row _ _ 6 _ _ _ h, cell_of_row _ _ 7 _ _ _ h, cell_of_row _ _ 8 _ _ _ h, cell_of_row _ _ 9 _ _ _ h, cell_of_row _ _ 10 _ _ _ h⟩
set_option maxRecDepth 100000 in
set_option maxHeartbeats 8000000 in
theorem refRead_any (sa : Option Addr) (sc : Nat) (L : List Ty) (x : ByteArray) (a : Option Addr) (c : Nat) (l : List Ev) (p : Int) (w : World) (A : IsTypes w sa L.length L) (hA : Flat w a (fl evC l)) (hn : l.length * 88 ≤ 140737488351232) :
    Calls Tryz.prog 74 #[.agg #[.slice sa L.length sc], .slice a l.length c, .int .i64 p, .string x] w fun r w' => r = .returned (VA (sayV (fun t => attrI L t x) l p)) ∧ Below w.heap.size w w' := by
  have B := galloc (galloc (Below.refl w.heap.size w) (.cells #[.slice sa L.length sc] 24)) (.cells #[.bool false, .int .i64 0] 51)
  have S0 := (Bk.new w #[.slice sa L.length sc] 24).alloc (.cells #[.bool false, .int .i64 0] 51)
  have R0 := Two.new (w.alloc (.cells #[.slice sa L.length sc] 24)) (.bool false) (.int .i64 0) 51
  rw [show (w.alloc (.cells #[.slice sa L.length sc] 24)).heap.size = w.heap.size + 1 by simp] at R0
  by_cases h0 : p < 0
  · rw [show sayV (fun t => attrI L t x) l p = noV2 from if_pos (.inl h0)]
    go_enter Tryz.func74, Tryz.ntmps74
    go_wp2_with (go_at_call 46; (with_reducible refine (refNothing_any _).mono ?_); rintro _ w1 ⟨rfl, g1⟩; have B2 := gtrans B g1; obtain ⟨r0, r1⟩ := show _ ∧ _ from ⟨(R0.keep g1).at0, (R0.keep g1).at1⟩; have rf := (R0.keep g1).free)
    refine bodyPost_ret (v := .agg #[.bool false, .int .i64 0]) (by simp [results, Tryz.results74, go_sem, r0, r1]) rfl ⟨rfl, ?_⟩
    exact gset (gset B2 (by simp) _) (by simp) _
  by_cases h1 : (l.length : Int) ≤ p
  · rw [show sayV (fun t => attrI L t x) l p = noV2 from if_pos (.inr h1)]
    go_enter Tryz.func74, Tryz.ntmps74
    go_wp2_with (go_at_call 46; (with_reducible refine (refNothing_any _).mono ?_); rintro _ w1 ⟨rfl, g1⟩; have B2 := gtrans B g1; obtain ⟨r0, r1⟩ := show _ ∧ _ from ⟨(R0.keep g1).at0, (R0.keep g1).at1⟩; have rf := (R0.keep g1).free)
    refine bodyPost_ret (v := .agg #[.bool false, .int .i64 0]) (by simp [results, Tryz.results74, go_sem, r0, r1]) rfl ⟨rfl, ?_⟩
    exact gset (gset B2 (by simp) _) (by simp) _
  obtain ⟨k, rfl⟩ : ∃ k : Nat, p = k := ⟨p.toNat, by omega⟩
  have hk : k < l.length := by omega
  have hki : (k : Int) < (l.length : Int) := by omega
  have e1 : sayV (fun t => attrI L t x) l (k : Int) = rdE (fun t => attrI L t x) (l.getD k zeroE) := if_neg (by omega)
  rw [e1]
  obtain ⟨g, o, rfl, hg, hcc⟩ := hA.form (by rw [fl_len evC_sz]; omega)
  have AV := ev_at hcc k hk
  generalize l.getD k zeroE = ev at AV ⊢
  obtain ⟨c0, c1, c2, c3, c4, c5, c6, c7, c8, c9, c10⟩ := AV
  clear hcc hA e1
  have B1 := galloc B (.cells (evC ev) 76)
  have R1 := R0.alloc (.cells (evC ev) 76)
  have S1 := S0.alloc (.cells (evC ev) 76)
  have E1 := Bk.newE (w := (w.alloc (.cells #[.slice sa L.length sc] 24)).alloc (.cells #[.bool false, .int .i64 0] 51)) (g := w.heap.size + 2) (by simp) (evC ev) 76
  unfold evC at B1 R1 S1 E1
  unfold rdE
  obtain ⟨ts, id, typ, v0, v1, v2, v3, v4, v5, v6, v7⟩ := ev
  dsimp only at c0 c1 c2 c3 c4 c5 c6 c7 c8 c9 c10 B1 R1 S1 E1 ⊢
  clear R0 S0 B
  have hpl0 : ∀ V : World, IsTypes V sa L.length L → Calls Tryz.prog 103 #[.agg #[.slice sa L.length sc], .int .i64 typ, .string x] V fun e w' => e = .returned (.int .i64 (attrI L typ x)) ∧ Below V.heap.size V w' := fun V hA => refAttrOf_any sa L.length sc L typ x V hA
  generalize attrI L typ x = pl at *
  obtain ⟨⟨xk, xn⟩, hx⟩ : ∃ y, rdP pl ⟨ts, id, typ, v0, v1, v2, v3, v4, v5, v6, v7⟩ = y := ⟨_, rfl⟩
  rw [hx]
  have HX := show Hid (_ = _) from hx
  clear hx
  go_enter Tryz.func74, Tryz.ntmps74
  go_upto_region 4 with fail
  generalize ((w.alloc _).alloc _).alloc _ = V at *
  have ct := hpl0 V (A.keep B1)
  have s0 : V.cell? ⟨w.heap.size, 0, none⟩ = some (.slice sa L.length sc) := cell_of_row _ _ 0 _ _ _ S1
  obtain ⟨_, e2, _⟩ := ev_blk E1
  clear c0 c1 c2 c3 c4 c5 c6 c7 c8 c9 c10
  go_upto_region 5 with (go_at_call 103; (with_reducible refine ct.mono ?_); rintro _ w1 ⟨rfl, g1⟩)
  have B2 := gtrans B1 g1
  have R2 := R1.keep g1
  obtain ⟨d0, _, d3, d4, d5, d6, d7, d8, d9, d10⟩ := ev_blk (E1.keep g1)
  clear B1 R1 S1 E1 s0 e2 ct A hpl0
  by_cases h2 : pl = -2
  · subst h2
    obtain ⟨rfl, rfl⟩ := Prod.mk.inj (show ((true, ts) : V2) = (xk, xn) from HX.out)
    clear HX
    go_wp2_with (go_at_call 73; (with_reducible refine (refNumber_any _ _).mono ?_); rintro _ w2 ⟨rfl, g2⟩; have B3 := gtrans B2 g2; obtain ⟨r0, r1⟩ := show _ ∧ _ from ⟨(R2.keep g2).at0, (R2.keep g2).at1⟩; have rf := (R2.keep g2).free)
    refine bodyPost_ret (v := .agg #[.bool true, .int .i64 ts]) (by simp [results, Tryz.results74, go_sem, r0, r1]) rfl ⟨rfl, ?_⟩
    exact gset (gset B3 (by simp) _) (by simp) _
  have q2 : (pl == -2) = false := beq_eq_false_iff_ne.2 h2
  by_cases h3 : 0 ≤ pl ∧ pl < 8
  · obtain ⟨j, rfl⟩ : ∃ j : Nat, pl = j := ⟨pl.toNat, by omega⟩
    have hj : j < 8 := by omega
    have e1 : rdP (j : Int) ⟨ts, id, typ, v0, v1, v2, v3, v4, v5, v6, v7⟩ = (true, (⟨ts, id, typ, v0, v1, v2, v3, v4, v5, v6, v7⟩ : Ev).at j) := by unfold rdP; rw [if_neg h2, if_pos h3]; rfl
    have hv := e1.symm.trans HX.out
    clear h2 e1 h3 HX
    rcases (show j = 0 ∨ j = 1 ∨ j = 2 ∨ j = 3 ∨ j = 4 ∨ j = 5 ∨ j = 6 ∨ j = 7 from by omega) with rfl | rfl | rfl | rfl | rfl | rfl | rfl | rfl
    all_goals
      obtain ⟨rfl, rfl⟩ := Prod.mk.inj hv
      go_wp2_with (go_at_call 73; (with_reducible refine (refNumber_any _ _).mono ?_); rintro _ w2 ⟨rfl, g2⟩; have B3 := gtrans B2 g2; obtain ⟨r0, r1⟩ := show _ ∧ _ from ⟨(R2.keep g2).at0, (R2.keep g2).at1⟩; have rf := (R2.keep g2).free)
      refine bodyPost_ret (v := .agg #[.bool true, .int .i64 _]) (by simp [results, Tryz.results74, go_sem, r0, r1]; first | rfl | done) rfl ⟨rfl, ?_⟩
      exact gset (gset B3 (by simp) _) (by simp) _
  · have e1 : rdP pl ⟨ts, id, typ, v0, v1, v2, v3, v4, v5, v6, v7⟩ = noV2 := by unfold rdP; rw [if_neg h2, if_neg h3]
    obtain ⟨rfl, rfl⟩ := Prod.mk.inj (show ((false, 0) : V2) = (xk, xn) from e1.symm.trans HX.out)
    clear HX
    by_cases h4 : 0 ≤ pl
    · have h5 : ¬ pl < 8 := fun h => h3 ⟨h4, h⟩
      clear h2 e1 h3
      go_wp2_with (go_at_call 46; (with_reducible refine (refNothing_any _).mono ?_); rintro _ w2 ⟨rfl, g2⟩; have B3 := gtrans B2 g2; obtain ⟨r0, r1⟩ := show _ ∧ _ from ⟨(R2.keep g2).at0, (R2.keep g2).at1⟩; have rf := (R2.keep g2).free)
      refine bodyPost_ret (v := .agg #[.bool false, .int .i64 0]) (by simp [results, Tryz.results74, go_sem, r0, r1]) rfl ⟨rfl, ?_⟩
      exact gset (gset B3 (by simp) _) (by simp) _
    · clear h2 e1 h3
      go_wp2_with (go_at_call 46; (with_reducible refine (refNothing_any _).mono ?_); rintro _ w2 ⟨rfl, g2⟩; have B3 := gtrans B2 g2; obtain ⟨r0, r1⟩ := show _ ∧ _ from ⟨(R2.keep g2).at0, (R2.keep g2).at1⟩; have rf := (R2.keep g2).free)
      refine bodyPost_ret (v := .agg #[.bool false, .int .i64 0]) (by simp [results, Tryz.results74, go_sem, r0, r1]) rfl ⟨rfl, ?_⟩
      exact gset (gset B3 (by simp) _) (by simp) _
structure FldL (f : Int → Int) (l : List Ev) (w : World) (sv : Value) (v i : Value) (wr : World) : Prop where
  ex : ∃ k : Nat, k ≤ l.length ∧ i = .int .i64 k ∧ (∀ j, j < k → (rdE f (l.getD j zeroE)).1 = true) ∧ wr.ownsRow (w.heap.size + 1 + 1) 2 1 v (numK f l k).length ((numK f l k).map (Value.int .i64)) ∧ Two wr (w.heap.size + 1) (.bool false) (.int .i64 0) 51 ∧ Bk wr w.heap.size #[sv] 24 ∧ Below w.heap.size w wr
set_option maxRecDepth 100000 in
set_option maxHeartbeats 8000000 in
theorem refFoldS_any (sa : Option Addr) (sc : Nat) (L : List Ty) (x : ByteArray) (a : Option Addr) (c : Nat) (l : List Ev) (op : Int) (w : World) (A : IsTypes w sa L.length L) (hA : Flat w a (fl evC l)) (hn : l.length * 88 ≤ 140737488351232) (hE : evsOk l) (hb : l.length ≤ 2147483647) :
    Calls Tryz.prog 75 #[.agg #[.slice sa L.length sc], .slice a l.length c, .int .i64 op, .string x] w fun r w' => r = .returned (VA (gatV (fun t => attrI L t x) op l)) ∧ Below w.heap.size w w' := by
  obtain ⟨i0, ti, tz0, tz1, tz2⟩ := nf_info nf_i64
  have B0 := galloc (galloc (Below.refl w.heap.size w) (.cells #[.slice sa L.length sc] 24)) (.cells #[.bool false, .int .i64 0] 51)
  have S0 := (Bk.new w #[.slice sa L.length sc] 24).alloc (.cells #[.bool false, .int .i64 0] 51)
  have R0 := Two.new (w.alloc (.cells #[.slice sa L.length sc] 24)) (.bool false) (.int .i64 0) 51
  rw [show (w.alloc (.cells #[.slice sa L.length sc] 24)).heap.size = w.heap.size + 1 by simp] at R0
  have cR := fun (u : World) (G : Below w.heap.size w u) (p : Int) => refRead_any sa sc L x a c l p u (A.keep G) (hA.keep G) hn
  generalize hf : (fun t => attrI L t x) = f at *
  generalize hx : gatV f op l = y
  obtain ⟨zk, zn⟩ := y
  have HX := show Hid (_ = _) from hx
  clear hx hf A hA
  go_enter Tryz.func75, Tryz.ntmps75
  go_wp2
  generalize (w.alloc (.cells #[.slice sa L.length sc] 24)).alloc (.cells #[.bool false, .int .i64 0] 51) = Z at *
  go_loopw [9, 10, 11] (fun v i _ wr => FldL f l w (.slice sa L.length sc) v i wr) (fun _ i _ _ => l.length - (intOf i).toNat)
  case atStart => exact ⟨⟨0, Nat.zero_le _, rfl, fun j hj => absurd hj (Nat.not_lt_zero _), World.ownsRow_nil _ _ _ _, R0, S0, B0⟩⟩
  case round =>
    clear R0 B0 S0
    obtain ⟨⟨k, hk, rfl, hall, hown, R, S, G⟩⟩ := hrel
    have zG := G.size
    have zR := R.lt
    have s0 : wr.cell? ⟨w.heap.size, 0, none⟩ = some (.slice sa L.length sc) := cell_of_row _ _ 0 _ _ _ S
    by_cases hlt : k < l.length
    · have hki : (k : Int) < (l.length : Int) := by omega
      have hr := cR wr G (k : Int)
      rw [say_in hlt] at hr
      obtain ⟨⟨xk, xn⟩, hxx⟩ : ∃ x, rdE f (l.getD k zeroE) = x := ⟨_, rfl⟩
      rw [hxx] at hr
      have HXX := show Hid (_ = _) from hxx
      have hnl := numK_len f l k hk
      clear hxx cR
      cases xk
      · obtain ⟨rfl, rfl⟩ : zk = false ∧ zn = 0 := Prod.mk.inj (HX.out.symm.trans (gat_no hlt (by rw [HXX.out])))
        go_wp2_with (first
          | (go_at_call 74; (with_reducible refine hr.mono ?_); rintro _ u1 ⟨rfl, g1⟩; have G2 := gtrans G g1; have T0 := (R.keep g1).alloc (.cells #[.bool false, .int .i64 xn] 51); have t0 := T0.at0; have t1 := T0.at1; have tf := T0.free; have G3 := galloc G2 (.cells #[.bool false, .int .i64 xn] 51))
          | (go_at_call 46; (with_reducible refine (refNothing_any _).mono ?_); rintro _ u2 ⟨rfl, g2⟩; have G4 := gtrans G3 g2; have S1 := T0.keep g2; have r0 := S1.at0; have r1 := S1.at1; have rf := S1.free))
        refine bodyPost_ret (v := .agg #[.bool false, .int .i64 0]) (by simp [results, Tryz.results75, go_sem, r0, r1]) rfl ⟨rfl, ?_⟩
        exact gset (gset G4 (by simp) _) (by simp) _
      · go_wp2_with (first
          | (go_at_call 74; (with_reducible refine hr.mono ?_); rintro _ u1 ⟨rfl, g1⟩; have G2 := gtrans G g1; have Ou := (own_keep hown g1).alloc (.cells #[.bool true, .int .i64 xn] 51))
          | (at_builtin; refine wpList_append_own _ rfl (.tmp 27) (.tmp 30) 144 rfl (w.heap.size + 1 + 1) 2 i0 (.int .i64 0) 1 8 Tryz.underlying144 ti tz0 tz1 tz2 rfl (by decide) _ _ _ rfl (Ou.alloc _) ⟨u1.heap.size + 1, 0, none⟩ 1 1 [.int .i64 xn] rfl rfl (one_newE (by simp) _ _) (fun u hu => by simp at hu; subst hu; rfl) ?c3 ?c4 ?c5 ?_))
        case c3 => unfold maxLen; omega
        case c4 => omega
        case c5 => have := G2.size; simp; omega
        intro v' w1 hown' hgrow _
        have e := numK_succ f l k hlt
        rw [HXX.out] at e
        have hown2 : w1.ownsRow (w.heap.size + 1 + 1) 2 1 v' (numK f l (k + 1)).length ((numK f l (k + 1)).map (Value.int .i64)) := by rw [e]; simpa [hnl] using hown'
        have hne : ∀ j, j < w.heap.size + 1 + 1 → w1.heap[j]? = _ := fun j hj => hgrow.block j (by have := G2.size; simp; omega) (fun e => by have := (Ou.lt _ e.symm).1; omega)
        have R2 : Two w1 (w.heap.size + 1) (.bool false) (.int .i64 0) 51 := (hne (w.heap.size + 1) (by omega)).trans (((R.keep g1).alloc (.cells #[.bool true, .int .i64 xn] 51)).alloc _)
        have S2 : Bk w1 w.heap.size #[.slice sa L.length sc] 24 := (hne w.heap.size (by omega)).trans (((S.keep g1).alloc (.cells #[.bool true, .int .i64 xn] 51)).alloc _)
        have Gw : Below w.heap.size w w1 := (galloc (galloc G2 (.cells #[.bool true, .int .i64 xn] 51)) _).grown hgrow (by have := G2.size; simp; omega) (fun r e => by have := (Ou.lt _ e).1; omega)
        have hall2 : ∀ j, j < k + 1 → (rdE f (l.getD j zeroE)).1 = true := fun j hj => by
          by_cases hjk : j < k
          · exact hall j hjk
          · obtain rfl : j = k := by omega
            rw [HXX.out]
        have fin : FldL f l w (.slice sa L.length sc) v' (.int .i64 ((k : Int) + 1)) w1 := ⟨⟨k + 1, by omega, by go_num, hall2, hown2, R2, S2, Gw⟩⟩
        clear hown' hgrow hown2 R2 Gw hall2 e Ou hown R hall hr S2 S hne
        go_wp2
        go_roundw
        case rel => exact fin
        case measure => simp [intOf]; omega
    · obtain rfl : k = l.length := by omega
      obtain ⟨hzk, hzn⟩ := Prod.mk.inj ((gat_yes hall).symm.trans HX.out)
      have hnl := numK_len f l l.length (Nat.le_refl _)
      obtain ⟨ao, cap, rfl, hrow, _, _⟩ := isRow_own hown (numK_fits hE _ _)
      have hfo := Go.Proofs.YtglagbedgjkdbaaGreatDoor.rf.refFold_any op ao _ cap _ wr hrow (by omega)
      rw [hzk, hzn] at hfo
      generalize (numK f l l.length).length = nn at hfo
      clear hall HX hzk hzn hown hnl cR
      go_wp2_with (first
        | (go_at_call 104; (with_reducible refine hfo.mono ?_); rintro _ u1 ⟨rfl, g1⟩; have G2 := gtrans G g1; have R1 := R.keep g1; obtain ⟨r0, r1⟩ := show _ ∧ _ from ⟨R1.at0, R1.at1⟩; have rf := R1.free))
      refine bodyPost_ret (v := .agg #[.bool zk, .int .i64 zn]) (by simp [results, Tryz.results75, go_sem, r0, r1]) rfl ⟨rfl, ?_⟩
      exact gset (gset G2 (by simp) _) (by simp) _

end Go.Proofs.YtglagbedgjkdbaaGreatDoor
namespace Go.Proofs.YtglagbedgjkdbaaGreatDoor
open Go.RowKit Go.BigFrame
set_option linter.unusedVariables false
set_option linter.unusedSimpArgs false

set_option maxRecDepth 100000 in
set_option maxHeartbeats 4000000 in
theorem mention_any (op : Int) (E : Envr) (al : Option Addr) (cl : Nat) (item : Int) (ac : Option Addr) (cc : Nat) (col : List Int) (w : World) (hf : Flat w ac (fl intC col)) (hl : col.length ≤ 140737488351232) (N : Nst w al evC E.lists) (hE : E.ok) :
    Calls Tryz.prog 51 #[.int .i64 op, envA al cl E, .int .i64 item, plcF ac col.length cc] w fun r w' => r = .returned (VA (menV (plcO col) op E item)) ∧ Below w.heap.size w w' := by
  obtain ⟨a, c, L, hc⟩ := listOf_any E al cl item w N
  obtain ⟨hok, h88, _⟩ := lstO_ok hE item
  have R0 := Two.new (w.alloc (.cells #[.slice al E.lists.length cl, .int .i64 E.each, .int .i64 E.at_] 34)) (.bool false) (.int .i64 0) 51
  have S0 := (Bk.new w #[.slice al E.lists.length cl, .int .i64 E.each, .int .i64 E.at_] 34).alloc (.cells #[.bool false, .int .i64 0] 51)
  rw [show (w.alloc (.cells #[.slice al E.lists.length cl, .int .i64 E.each, .int .i64 E.at_] 34)).heap.size = w.heap.size + 1 by simp] at R0
  have B0 := galloc (galloc (Below.refl w.heap.size w) (.cells #[.slice al E.lists.length cl, .int .i64 E.each, .int .i64 E.at_] 34)) (.cells #[.bool false, .int .i64 0] 51)
  have q4 : ∀ X, Below w.heap.size w X → ∀ p, Calls Tryz.prog 80 #[plcF ac col.length cc, .slice a (lstO E item).length c, .int .i64 p] X fun r w' => r = .returned (VA (sayV (plcO col) (lstO E item) p)) ∧ Below X.heap.size X w' := fun X G p => readAt_any ac cc col a c (lstO E item) p X (hf.keep G) hl (L.fl.keep G) h88
  have q5 : ∀ X, Below w.heap.size w X → Calls Tryz.prog 81 #[plcF ac col.length cc, .int .i64 op, .slice a (lstO E item).length c] X fun r w' => r = .returned (VA (gatV (plcO col) op (lstO E item))) ∧ Below X.heap.size X w' := fun X G => cfold_any ac cc col a c (lstO E item) op X (hf.keep G) hl (L.fl.keep G) h88 hok
  obtain ⟨x, hx⟩ : ∃ x, menV (plcO col) op E item = x := ⟨_, rfl⟩
  have HX := show Hid (_ = _) from hx
  rw [hx]
  clear hx hok L hf
  go_enter Tryz.func51, Tryz.ntmps51
  go_wp2
  have y1 : ∀ z : Ext ((w.alloc (.cells #[.slice al E.lists.length cl, .int .i64 E.each, .int .i64 E.at_] 34)).alloc (.cells #[.bool false, .int .i64 0] 51)), Calls Tryz.prog 79 #[envA al cl E, .int .i64 item] z.X (fun e' w'' => e' = .returned (.slice a (lstO E item).length c) ∧ ∃ m : Ext _, w'' = m.X) := fun z => ext_of (hc z.X (gtrans B0 z.h))
  generalize (lstO E item).length = n at *
  generalize hV : (w.alloc (.cells #[.slice al E.lists.length cl, .int .i64 E.each, .int .i64 E.at_] 34)).alloc (.cells #[.bool false, .int .i64 0] 51) = V at *
  clear hV hc
  obtain ⟨s0, s1, s2⟩ := S0.at3
  have p0 := fun z : Ext V => (z.cell _ _ S0.lt).trans s0
  have p1 := fun z : Ext V => (z.cell _ _ S0.lt).trans s1
  have p2 := fun z : Ext V => (z.cell _ _ S0.lt).trans s2
  have hne : Nonempty (Ext V) := ⟨⟨_, Below.refl _ _⟩⟩
  refine wp_region_ext (by kernel_rfl) (by kernel_rfl) ?_
  repeat (go_big_quiet_step (first | (go_at_call 79; with_reducible exact y1 _)))
  refine wpQuiet_nil ?_
  intro _ hw'
  obtain ⟨nx, hw''⟩ := hw'
  subst hw''
  have BX := gtrans B0 nx.h
  have RX := R0.keep nx.h
  obtain ⟨_, t1, t2⟩ := (S0.keep nx.h).at3
  generalize nx.X = X at *
  cases hg : (item == E.each)
  · have hne : item ≠ E.each := by simpa using hg
    by_cases h4 : op = 4
    · have q0 : (op == 4) = true := by simpa using h4
      have e1 : x = sayV (plcO col) (lstO E item) 0 := by rw [← HX.out]; unfold menV; rw [if_pos h4, if_neg hne]
      obtain ⟨xk, xn⟩ := x
      have hcc := q4 X BX 0
      rw [← e1] at hcc
      clear e1 HX q4 q5
      go_wp2_with (first
        | (go_at_call 80; (with_reducible refine hcc.mono ?_); rintro _ u1 ⟨rfl, g1⟩; have R1 := RX.keep g1; obtain ⟨r0, r1⟩ := show _ ∧ _ from ⟨R1.at0, R1.at1⟩; have rf := R1.free))
      refine bodyPost_ret (v := .agg #[.bool xk, .int .i64 xn]) (by simp [results, Tryz.results51, go_sem, r0, r1]) rfl ⟨rfl, ?_⟩
      exact gset (gset (gtrans BX g1) (by simp) _) (by simp) _
    have q0 : (op == 4) = false := beq_eq_false_iff_ne.2 h4
    by_cases h11 : op = 11
    · have q1 : (op == 11) = true := by simpa using h11
      obtain rfl : x = noV2 := by rw [← HX.out]; unfold menV; rw [if_neg h4, if_pos h11, if_neg hne]
      have r0 := RX.at0
      have r1 := RX.at1
      have rf := RX.free
      clear HX q4 q5
      go_wp2
      refine bodyPost_ret (v := .agg #[.bool false, .int .i64 0]) (by simp [results, Tryz.results51, go_sem, r0, r1]) rfl ⟨rfl, ?_⟩
      first | exact BX | exact gset (gset BX (by simp) _) (by simp) _
    have q1 : (op == 11) = false := beq_eq_false_iff_ne.2 h11
    have e1 : x = gatV (plcO col) op (lstO E item) := by rw [← HX.out]; unfold menV; rw [if_neg h4, if_neg h11]
    obtain ⟨xk, xn⟩ := x
    have hcc := q5 X BX
    rw [← e1] at hcc
    clear e1 HX q4 q5
    go_wp2_with (first
      | (go_at_call 81; (with_reducible refine hcc.mono ?_); rintro _ u1 ⟨rfl, g1⟩; have R1 := RX.keep g1; obtain ⟨r0, r1⟩ := show _ ∧ _ from ⟨R1.at0, R1.at1⟩; have rf := R1.free))
    refine bodyPost_ret (v := .agg #[.bool xk, .int .i64 xn]) (by simp [results, Tryz.results51, go_sem, r0, r1]) rfl ⟨rfl, ?_⟩
    exact gset (gset (gtrans BX g1) (by simp) _) (by simp) _
  · have hne : item = E.each := by simpa using hg
    by_cases h4 : op = 4
    · have q0 : (op == 4) = true := by simpa using h4
      have e1 : x = sayV (plcO col) (lstO E item) E.at_ := by rw [← HX.out]; unfold menV; rw [if_pos h4, if_pos hne]
      obtain ⟨xk, xn⟩ := x
      have hcc := q4 X BX E.at_
      rw [← e1] at hcc
      clear e1 HX q4 q5
      go_wp2_with (first
        | (go_at_call 80; (with_reducible refine hcc.mono ?_); rintro _ u1 ⟨rfl, g1⟩; have R1 := RX.keep g1; obtain ⟨r0, r1⟩ := show _ ∧ _ from ⟨R1.at0, R1.at1⟩; have rf := R1.free))
      refine bodyPost_ret (v := .agg #[.bool xk, .int .i64 xn]) (by simp [results, Tryz.results51, go_sem, r0, r1]) rfl ⟨rfl, ?_⟩
      exact gset (gset (gtrans BX g1) (by simp) _) (by simp) _
    have q0 : (op == 4) = false := beq_eq_false_iff_ne.2 h4
    by_cases h11 : op = 11
    · have q1 : (op == 11) = true := by simpa using h11
      obtain ⟨pv, hpv⟩ : ∃ pv, IntKind.i64.wrap (E.at_ - 1) = pv := ⟨_, rfl⟩
      have e1 : x = sayV (plcO col) (lstO E item) pv := by rw [← HX.out]; unfold menV; rw [if_neg h4, if_pos h11, if_pos hne, hpv]
      obtain ⟨xk, xn⟩ := x
      have hcc := q4 X BX pv
      rw [← e1] at hcc
      clear e1 HX q4 q5
      go_wp2_with (first
        | (go_at_call 80; (with_reducible refine hcc.mono ?_); rintro _ u1 ⟨rfl, g1⟩; have R1 := RX.keep g1; obtain ⟨r0, r1⟩ := show _ ∧ _ from ⟨R1.at0, R1.at1⟩; have rf := R1.free))
      refine bodyPost_ret (v := .agg #[.bool xk, .int .i64 xn]) (by simp [results, Tryz.results51, go_sem, r0, r1]) rfl ⟨rfl, ?_⟩
      exact gset (gset (gtrans BX g1) (by simp) _) (by simp) _
    have q1 : (op == 11) = false := beq_eq_false_iff_ne.2 h11
    have e1 : x = gatV (plcO col) op (lstO E item) := by rw [← HX.out]; unfold menV; rw [if_neg h4, if_neg h11]
    obtain ⟨xk, xn⟩ := x
    have hcc := q5 X BX
    rw [← e1] at hcc
    clear e1 HX q4 q5
    go_wp2_with (first
      | (go_at_call 81; (with_reducible refine hcc.mono ?_); rintro _ u1 ⟨rfl, g1⟩; have R1 := RX.keep g1; obtain ⟨r0, r1⟩ := show _ ∧ _ from ⟨R1.at0, R1.at1⟩; have rf := R1.free))
    refine bodyPost_ret (v := .agg #[.bool xk, .int .i64 xn]) (by simp [results, Tryz.results51, go_sem, r0, r1]) rfl ⟨rfl, ?_⟩
    exact gset (gset (gtrans BX g1) (by simp) _) (by simp) _

end Go.Proofs.YtglagbedgjkdbaaGreatDoor
