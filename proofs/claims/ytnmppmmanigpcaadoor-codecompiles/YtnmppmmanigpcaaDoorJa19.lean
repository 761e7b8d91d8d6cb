/- What Eval reads: places by the schema's attribute. And what goes with it: 2 texts in one. -/
import Derived.Test.YtnmppmmanigpcaaDoorJa18
namespace Go.Proofs.YtnmppmmanigpcaaDoor
open Go.RowKit Go.BigFrame
set_option linter.unusedVariables false
set_option linter.unusedSimpArgs false

abbrev ptrE (b : Nat) : Value := .pointer (some ⟨b, 0, none⟩)
/-- The places of an attribute, by the schema. -/
abbrev cloF (be bx : Nat) : Value := .func (.func 100) #[] #[ptrE be, ptrE bx]
def attF (L : List Ty) (x : ByteArray) : Int → Int := fun t => attrI L t x
structure CloA (w : World) (be bx : Nat) (L : List Ty) (x : ByteArray) : Prop where
  ex : ∃ pe sa sc, w.cell? ⟨be, 0, none⟩ = some (ptrE pe) ∧ w.cell? ⟨pe, 0, none⟩ = some (.slice sa L.length sc) ∧ w.cell? ⟨bx, 0, none⟩ = some (.string x) ∧ IsTypes w sa L.length L
theorem CloA.keep {w u : World} {be bx : Nat} {L : List Ty} {x : ByteArray} (h : CloA w be bx L x) (G : Below w.heap.size w u) : CloA u be bx L x := by
  obtain ⟨pe, sa, sc, h0, h1, h2, A⟩ := h.ex
  exact ⟨pe, sa, sc, (G.cell (p := ⟨_, _, none⟩) (lt_of_cell h0)).trans h0, (G.cell (p := ⟨_, _, none⟩) (lt_of_cell h1)).trans h1, (G.cell (p := ⟨_, _, none⟩) (lt_of_cell h2)).trans h2, A.keep G⟩
set_option maxRecDepth 100000 in
set_option maxHeartbeats 4000000 in
theorem clo_any (be bx : Nat) (L : List Ty) (xx : ByteArray) (typ : Int) (w : World) (h : CloA w be bx L xx) :
    Calls Tryd.prog 100 #[.int .i64 typ, ptrE be, ptrE bx] w fun e w' => e = .returned (.int .i64 (attF L xx typ)) ∧ Below w.heap.size w w' := by
  obtain ⟨pe, sa, sc, h0, h1, h2, A⟩ := h.ex
  have ca : ∀ z : Ext w, Calls Tryd.prog 96 #[.agg #[.slice sa L.length sc], .int .i64 typ, .string xx] z.X (fun e' w'' => e' = .returned (.int .i64 (attF L xx typ)) ∧ ∃ m : Ext w, w'' = m.X) := fun z => ext_of (attrOf_any sa L.length sc L typ xx z.X (A.keep z.h))
  generalize attF L xx typ = r at ca ⊢
  have p0 := fun z : Ext w => (z.cell _ _ (lt_of_cell h0)).trans h0
  have p1 := fun z : Ext w => (z.cell _ _ (lt_of_cell h1)).trans h1
  have p2 := fun z : Ext w => (z.cell _ _ (lt_of_cell h2)).trans h2
  have hne : Nonempty (Ext w) := ⟨⟨_, Below.refl _ _⟩⟩
  go_enter Tryd.func100, Tryd.ntmps100
  go_upto_region 1 with fail
  refine wp_region_ext (by kernel_rfl) (by kernel_rfl) ?_
  repeat (go_big_quiet_step (first | (go_at_call 96; with_reducible exact ca _)))
  refine wpQuiet_nil ?_
  intro _ hw'
  obtain ⟨nx, hw''⟩ := hw'
  subst hw''
  have B := nx.h
  generalize nx.X = X at *
  go_wp2
  go_ret
  exact ⟨rfl, B⟩
theorem bk_ev {w : World} {b : Nat} {e : Ev} {t : TypeId} (h : Bk w b (evC e) t) : w.cell? ⟨b, 0, none⟩ = some (.int .i64 e.ts) ∧ w.cell? ⟨b, 1, none⟩ = some (.int .u64 e.id) ∧ w.cell? ⟨b, 2, none⟩ = some (.int .i64 e.typ) ∧ w.cell? ⟨b, 3, none⟩ = some (.int .i64 e.a0) ∧ w.cell? ⟨b, 4, none⟩ = some (.int .i64 e.a1) ∧ w.cell? ⟨b, 5, none⟩ = some (.int .i64 e.a2) ∧ w.cell? ⟨b, 6, none⟩ = some (.int .i64 e.a3) ∧ w.cell? ⟨b, 7, none⟩ = some (.int .i64 e.a4) ∧ w.cell? ⟨b, 8, none⟩ = some (.int .i64 e.a5) ∧ w.cell? ⟨b, 9, none⟩ = some (.int .i64 e.a6) ∧ w.cell? ⟨b, 10, none⟩ = some (.int .i64 e.a7) :=
  ⟨cell_of_row w b 0 _ _ _ h, cell_of_row w b 1 _ _ _ h, cell_of_row w b 2 _ _ _ h, cell_of_row w b 3 _ _ _ h, cell_of_row w b 4 _ _ _ h, cell_of_row w b 5 _ _ _ h, cell_of_row w b 6 _ _ _ h, cell_of_row w b 7 _ _ _ h, cell_of_row w b 8 _ _ _ h, cell_of_row w b 9 _ _ _ h, cell_of_row w b 10 _ _ _ h⟩

set_option maxRecDepth 100000 in
set_option maxHeartbeats 2000000 in
theorem read_anyE (be bx : Nat) (L : List Ty) (xx : ByteArray) (e : Ev) (w : World) (hf : CloA w be bx L xx) (hl : True) :
    Calls Tryd.prog 87 #[cloF be bx, .agg (evC e)] w fun r w' => r = .returned (VA (rdE (attF L xx) e)) ∧ Below w.heap.size w w' := by
  have B := galloc (galloc (Below.refl w.heap.size w) (.cells (evC e) 86)) (.cells #[.bool false, .int .i64 0] 53)
  have hp := clo_any be bx L xx e.typ _ (hf.keep B)
  have EV := (Bk.new w (evC e) 86).alloc (.cells #[.bool false, .int .i64 0] 53)
  have RV := Two.new (w.alloc (.cells (evC e) 86)) (.bool false) (.int .i64 0) 53
  rw [show (w.alloc (.cells (evC e) 86)).heap.size = w.heap.size + 1 by simp] at RV
  unfold rdE
  generalize attF L xx e.typ = pl at hp ⊢
  by_cases h2 : pl = -2
  · subst h2
    rw [show rdP (-2) e = (true, e.ts) from rfl]
    go_enter Tryd.func87, Tryd.ntmps87
    unfold evC at B hp ⊢
    go_wp2_with (first
      | (go_at_call 100; (with_reducible refine hp.mono ?_); rintro _ w0 ⟨rfl, g0⟩; have B1 := gtrans B g0; obtain ⟨x0, x1, x2, x3, x4, x5, x6, x7, x8, x9, x10⟩ := bk_ev (EV.keep g0); obtain ⟨rr0, rr1⟩ := show _ ∧ _ from ⟨(RV.keep g0).at0, (RV.keep g0).at1⟩; have rrf := (RV.keep g0).free)
      | (go_at_call 38; (with_reducible refine (cknown_any _ _).mono ?_); rintro _ w1 ⟨rfl, g1⟩; have B2 := gtrans B1 g1; obtain ⟨r0, r1⟩ := show _ ∧ _ from ⟨((RV.keep g0).keep g1).at0, ((RV.keep g0).keep g1).at1⟩; have rf := ((RV.keep g0).keep g1).free))
    refine bodyPost_ret (v := .agg #[.bool true, .int .i64 e.ts]) (by simp [results, Tryd.results87, go_sem, r0, r1]) rfl ⟨rfl, ?_⟩
    exact gset (gset B2 (by simp) _) (by simp) _
  have q2 : (pl == -2) = false := beq_eq_false_iff_ne.2 h2
  by_cases h3 : 0 ≤ pl ∧ pl < 8
  · obtain ⟨j, rfl⟩ : ∃ j : Nat, pl = j := ⟨pl.toNat, by omega⟩
    have hj : j < 8 := by omega
    obtain ⟨h30, h31⟩ := h3
    have e1 : rdP (j : Int) e = (true, e.at j) := by unfold rdP; rw [if_neg h2, if_pos ⟨h30, h31⟩]; rfl
    rw [e1]
    clear h2 e1 h30 h31
    rcases (show j = 0 ∨ j = 1 ∨ j = 2 ∨ j = 3 ∨ j = 4 ∨ j = 5 ∨ j = 6 ∨ j = 7 from by omega) with rfl | rfl | rfl | rfl | rfl | rfl | rfl | rfl
    all_goals
      go_enter Tryd.func87, Tryd.ntmps87
      unfold evC at B hp ⊢
      go_wp2_with (first
        | (go_at_call 100; (with_reducible refine hp.mono ?_); rintro _ w0 ⟨rfl, g0⟩; have B1 := gtrans B g0; obtain ⟨x0, x1, x2, x3, x4, x5, x6, x7, x8, x9, x10⟩ := bk_ev (EV.keep g0); obtain ⟨rr0, rr1⟩ := show _ ∧ _ from ⟨(RV.keep g0).at0, (RV.keep g0).at1⟩; have rrf := (RV.keep g0).free)
        | (go_at_call 38; (with_reducible refine (cknown_any _ _).mono ?_); rintro _ w1 ⟨rfl, g1⟩; have B2 := gtrans B1 g1; obtain ⟨r0, r1⟩ := show _ ∧ _ from ⟨((RV.keep g0).keep g1).at0, ((RV.keep g0).keep g1).at1⟩; have rf := ((RV.keep g0).keep g1).free))
      refine bodyPost_ret (v := .agg #[.bool true, .int .i64 _]) (by simp [results, Tryd.results87, go_sem, r0, r1]; first | rfl | done) rfl ⟨rfl, ?_⟩
      exact gset (gset B2 (by simp) _) (by simp) _
  · have e1 : rdP pl e = noV2 := by unfold rdP; rw [if_neg h2, if_neg h3]
    rw [e1]
    by_cases h4 : 0 ≤ pl
    · have h5 : ¬ pl < 8 := fun h => h3 ⟨h4, h⟩
      go_enter Tryd.func87, Tryd.ntmps87
      unfold evC at B hp ⊢
      clear h2 e1 h3
      go_wp2_with (first
        | (go_at_call 100; (with_reducible refine hp.mono ?_); rintro _ w0 ⟨rfl, g0⟩; have B1 := gtrans B g0; obtain ⟨x0, x1, x2, x3, x4, x5, x6, x7, x8, x9, x10⟩ := bk_ev (EV.keep g0); obtain ⟨rr0, rr1⟩ := show _ ∧ _ from ⟨(RV.keep g0).at0, (RV.keep g0).at1⟩; have rrf := (RV.keep g0).free))
      refine bodyPost_ret (v := .agg #[.bool false, .int .i64 0]) (by simp [results, Tryd.results87, go_sem, rr0, rr1]) rfl ⟨rfl, ?_⟩
      first | exact B1 | exact gset (gset B1 (by simp) _) (by simp) _
    · go_enter Tryd.func87, Tryd.ntmps87
      unfold evC at B hp ⊢
      clear h2 e1 h3
      go_wp2_with (first
        | (go_at_call 100; (with_reducible refine hp.mono ?_); rintro _ w0 ⟨rfl, g0⟩; have B1 := gtrans B g0; obtain ⟨x0, x1, x2, x3, x4, x5, x6, x7, x8, x9, x10⟩ := bk_ev (EV.keep g0); obtain ⟨rr0, rr1⟩ := show _ ∧ _ from ⟨(RV.keep g0).at0, (RV.keep g0).at1⟩; have rrf := (RV.keep g0).free))
      refine bodyPost_ret (v := .agg #[.bool false, .int .i64 0]) (by simp [results, Tryd.results87, go_sem, rr0, rr1]) rfl ⟨rfl, ?_⟩
      first | exact B1 | exact gset (gset B1 (by simp) _) (by simp) _

set_option maxRecDepth 100000 in
set_option maxHeartbeats 2000000 in
theorem readAt_anyE (be bx : Nat) (L : List Ty) (xx : ByteArray) (a : Option Addr) (c : Nat) (l : List Ev) (p : Int) (w : World) (hf : CloA w be bx L xx) (hl : True) (hA : Flat w a (fl evC l)) (hn : l.length * 88 ≤ 140737488351232) :
    Calls Tryd.prog 63 #[cloF be bx, .slice a l.length c, .int .i64 p] w fun r w' => r = .returned (VA (sayV (attF L xx) l p)) ∧ Below w.heap.size w w' := by
  have B := galloc (Below.refl w.heap.size w) (.cells #[.bool false, .int .i64 0] 53)
  by_cases h0 : p < 0
  · rw [show sayV (attF L xx) l p = noV2 from if_pos (.inl h0)]
    go_enter Tryd.func63, Tryd.ntmps63
    go_wp2
    exact bodyPost_ret (v := .agg #[.bool false, .int .i64 0]) (by simp [results, Tryd.results63, go_sem]) rfl ⟨rfl, by first | exact B | exact gset (gset B (by simp) _) (by simp) _⟩
  by_cases h1 : (l.length : Int) ≤ p
  · rw [show sayV (attF L xx) l p = noV2 from if_pos (.inr h1)]
    go_enter Tryd.func63, Tryd.ntmps63
    go_wp2
    exact bodyPost_ret (v := .agg #[.bool false, .int .i64 0]) (by simp [results, Tryd.results63, go_sem]) rfl ⟨rfl, by first | exact B | exact gset (gset B (by simp) _) (by simp) _⟩
  obtain ⟨k, rfl⟩ : ∃ k : Nat, p = k := ⟨p.toNat, by omega⟩
  have hk : k < l.length := by omega
  have hki : (k : Int) < (l.length : Int) := by omega
  have e1 : sayV (attF L xx) l (k : Int) = rdE (attF L xx) (l.getD k zeroE) := if_neg (by omega)
  rw [e1]
  obtain ⟨g, o, rfl, hg, hcc⟩ := hA.form (by rw [fl_len evC_sz]; omega)
  have A := ev_at hcc k hk
  generalize l.getD k zeroE = ev at A ⊢
  have hr := read_anyE be bx L xx ev _ (hf.keep B) hl
  obtain ⟨c0, c1, c2, c3, c4, c5, c6, c7, c8, c9, c10⟩ := A
  generalize rdE (attF L xx) ev = x at hr ⊢
  unfold evC at hr
  clear hcc hA e1
  go_enter Tryd.func63, Tryd.ntmps63
  go_wp2_with (first
    | (go_at_call 87; (with_reducible refine hr.mono ?_); rintro _ w1 ⟨rfl, g1⟩; have B2 := gtrans B g1; obtain ⟨hc0, hf0⟩ := bcell g1))
  refine bodyPost_ret (v := VA x) (by simp [results, Tryd.results63, go_sem, hc0]) rfl ⟨rfl, ?_⟩
  exact gset (gset B2 (by simp) _) (by simp) _

set_option maxRecDepth 100000 in
set_option maxHeartbeats 4000000 in
theorem cfold_anyE (be bx : Nat) (L : List Ty) (xx : ByteArray) (a : Option Addr) (c : Nat) (l : List Ev) (op : Int) (w : World) (hf : CloA w be bx L xx) (hl : True) (hA : Flat w a (fl evC l)) (hn : l.length * 88 ≤ 140737488351232) (hE : evsOk l) :
    Calls Tryd.prog 64 #[cloF be bx, .int .i64 op, .slice a l.length c] w fun r w' => r = .returned (VA (gatV (attF L xx) op l)) ∧ Below w.heap.size w w' := by
  obtain ⟨i0, ti, tz0, tz1, tz2⟩ := nf_info nf_i64
  obtain ⟨M, hM, hmk⟩ := run_make_cap (P := Tryd.prog) 140 2 Tryd.underlying140 nf_i64 l.length (by omega) (by omega)
  have B0 := galloc (galloc (Below.refl w.heap.size w) (.cells #[.bool false, .int .i64 0] 53)) (.cells M 2)
  have R0 := (Two.new w (.bool false) (.int .i64 0) 53).alloc (.cells M 2)
  have O0 : ((w.alloc (.cells #[.bool false, .int .i64 0] 53)).alloc (.cells M 2)).ownsRow (w.heap.size + 1) 2 1 (.slice (some ⟨w.heap.size + 1, 0, none⟩) 0 l.length) 0 [] := by
    have := World.ownsRow_made (base := w.heap.size + 1) (e := 2) (size := 1) (w.alloc (.cells #[.bool false, .int .i64 0] 53)) M l.length (by simp) (by unfold maxLen; omega) hM
    simpa using this
  generalize hx : gatV (attF L xx) op l = x
  obtain ⟨zk, zn⟩ := x
  have HX := show Hid (_ = _) from hx
  clear hx
  go_enter Tryd.func64, Tryd.ntmps64
  go_wp2
  generalize (w.alloc (.cells #[.bool false, .int .i64 0] 53)).alloc (.cells M 2) = Z at *
  go_loopw [7, 16] (fun v i wr => FoldL (attF L xx) l w v i wr) (fun _ i _ => l.length - (intOf i).toNat)
  case atStart => exact ⟨⟨0, Nat.zero_le _, rfl, fun j hj => absurd hj (Nat.not_lt_zero _), O0, R0, B0⟩⟩
  case round =>
    clear O0 R0 B0 hmk
    obtain ⟨⟨k, hk, rfl, hall, hown, R, G⟩⟩ := hrel
    have zG := G.size
    have zR := R.lt
    by_cases hlt : k < l.length
    · have hki : (k : Int) < (l.length : Int) := by omega
      obtain ⟨g, o, rfl, hg, hcc⟩ := (hA.keep G).form (by rw [fl_len evC_sz]; omega)
      have A := ev_at hcc k hlt
      obtain ⟨ev, hev⟩ : ∃ ev, l.getD k zeroE = ev := ⟨_, rfl⟩
      rw [hev] at A
      have HEV := show Hid (_ = _) from hev
      have hr := read_anyE be bx L xx ev _ ((hf.keep G).keep (galloc (Below.refl wr.heap.size wr) (.cells (evC ev) 86))) hl
      obtain ⟨⟨xk, xn⟩, hxx⟩ : ∃ x, rdE (attF L xx) ev = x := ⟨_, rfl⟩
      rw [hxx] at hr
      have HXX := show Hid (_ = _) from hxx
      have hnl := numK_len (attF L xx) l k hk
      have ge := galloc (Below.refl wr.heap.size wr) (.cells (evC ev) 86)
      unfold evC at hr ge
      obtain ⟨c0, c1, c2, c3, c4, c5, c6, c7, c8, c9, c10⟩ := A
      clear hcc hxx hev
      cases xk
      · go_wp2_with (first
          | (go_at_call 87; (with_reducible refine hr.mono ?_); rintro _ u1 ⟨rfl, g1⟩; have G1 := gtrans ge g1; have G2 := gtrans G G1; obtain ⟨r0, r1⟩ := show _ ∧ _ from ⟨((R.keep G1).alloc (.cells #[.bool false, .int .i64 xn] 53)).at0, ((R.keep G1).alloc (.cells #[.bool false, .int .i64 xn] 53)).at1⟩; have rf := ((R.keep G1).alloc (.cells #[.bool false, .int .i64 xn] 53)).free))
        obtain ⟨rfl, rfl⟩ : zk = false ∧ zn = 0 := Prod.mk.inj (HX.out.symm.trans (gat_no hlt (by rw [HEV.out, HXX.out])))
        go_wp2
        refine bodyPost_ret (v := .agg #[.bool false, .int .i64 0]) (by simp [results, Tryd.results64, go_sem, r0, r1]) rfl ⟨rfl, ?_⟩
        first | exact galloc G2 _ | exact gset (gset (galloc G2 _) (by simp) _) (by simp) _
      · go_wp2_with (first
          | (go_at_call 87; (with_reducible refine hr.mono ?_); rintro _ u1 ⟨rfl, g1⟩; have G1 := gtrans ge g1; have G2 := gtrans G G1; have Ou := (own_keep hown G1).alloc (.cells #[.bool true, .int .i64 xn] 53))
          | (at_builtin; refine wpList_append_own _ rfl (.tmp 27) (.tmp 30) 140 rfl (w.heap.size + 1) 2 i0 (.int .i64 0) 1 8 Tryd.underlying140 ti tz0 tz1 tz2 rfl (by decide) _ _ _ rfl (Ou.alloc _) ⟨u1.heap.size + 1, 0, none⟩ 1 1 [.int .i64 xn] rfl rfl (one_newE (by simp) _ _) (fun u hu => by simp at hu; subst hu; rfl) ?c3 ?c4 ?c5 ?_))
        case c3 => unfold maxLen; omega
        case c4 => omega
        case c5 => have := G2.size; simp; omega
        intro v' w1 hown' hgrow _
        have e := numK_succ (attF L xx) l k hlt
        rw [HEV.out, HXX.out] at e
        have hown2 : w1.ownsRow (w.heap.size + 1) 2 1 v' (numK (attF L xx) l (k + 1)).length ((numK (attF L xx) l (k + 1)).map (Value.int .i64)) := by rw [e]; simpa [hnl] using hown'
        have q := hgrow.block w.heap.size (by have := G2.size; simp; omega) (fun e => by have := (Ou.lt _ e.symm).1; omega)
        have R2 : Two w1 w.heap.size (.bool false) (.int .i64 0) 53 := q.trans (((R.keep G1).alloc (.cells #[.bool true, .int .i64 xn] 53)).alloc _)
        have Gw : Below w.heap.size w w1 := (galloc (galloc G2 (.cells #[.bool true, .int .i64 xn] 53)) _).grown hgrow (by have := G2.size; simp; omega) (fun r e => by have := (Ou.lt _ e).1; omega)
        have hall2 : ∀ j, j < k + 1 → (rdE (attF L xx) (l.getD j zeroE)).1 = true := fun j hj => by
          by_cases hjk : j < k
          · exact hall j hjk
          · obtain rfl : j = k := by omega
            rw [HEV.out, HXX.out]
        have fin : FoldL (attF L xx) l w v' (.int .i64 ((k : Int) + 1)) w1 := ⟨⟨k + 1, by omega, by go_num, hall2, hown2, R2, Gw⟩⟩
        clear hown' hgrow hown2 R2 Gw hall2 q e Ou hown R hall hr c0 c1 c2 c3 c4 c5 c6 c7 c8 c9 c10
        go_wp2
        go_roundw
        case rel => exact fin
        case measure => simp [intOf]; omega
    · obtain rfl : k = l.length := by omega
      obtain ⟨hzk, hzn⟩ := Prod.mk.inj ((gat_yes hall).symm.trans HX.out)
      have hnl := numK_len (attF L xx) l l.length (Nat.le_refl _)
      obtain ⟨ao, cap, rfl, hrow, _, _⟩ := isRow_own hown (numK_fits hE _ _)
      have hfo := fold_any op ao _ cap _ wr hrow
      rw [hzk, hzn] at hfo
      generalize (numK (attF L xx) l l.length).length = nn at hfo
      clear hall HX hzk hzn hown hnl
      go_wp2_with (first
        | (go_at_call 88; (with_reducible refine hfo.mono ?_); rintro _ u1 ⟨rfl, g1⟩; have G2 := gtrans G g1; have R1 := R.keep g1; obtain ⟨r0, r1⟩ := show _ ∧ _ from ⟨R1.at0, R1.at1⟩; have rf := R1.free))
      refine bodyPost_ret (v := .agg #[.bool zk, .int .i64 zn]) (by simp [results, Tryd.results64, go_sem, r0, r1]) rfl ⟨rfl, ?_⟩
      exact gset (gset G2 (by simp) _) (by simp) _

set_option maxRecDepth 100000 in
set_option maxHeartbeats 4000000 in
theorem mention_anyE (op : Int) (E : Envr) (al : Option Addr) (cl : Nat) (item : Int) (be bx : Nat) (L : List Ty) (xx : ByteArray) (w : World) (hf : CloA w be bx L xx) (hl : True) (N : Nst w al evC E.lists) (hE : E.ok) :
    Calls Tryd.prog 40 #[.int .i64 op, envA al cl E, .int .i64 item, cloF be bx] w fun r w' => r = .returned (VA (menV (attF L xx) op E item)) ∧ Below w.heap.size w w' := by
  obtain ⟨a, c, LS, hc⟩ := listOf_any E al cl item w N
  obtain ⟨hok, h88, _⟩ := lstO_ok hE item
  have R0 := Two.new (w.alloc (.cells #[.slice al E.lists.length cl, .int .i64 E.each, .int .i64 E.at_] 49)) (.bool false) (.int .i64 0) 53
  have S0 := (Bk.new w #[.slice al E.lists.length cl, .int .i64 E.each, .int .i64 E.at_] 49).alloc (.cells #[.bool false, .int .i64 0] 53)
  rw [show (w.alloc (.cells #[.slice al E.lists.length cl, .int .i64 E.each, .int .i64 E.at_] 49)).heap.size = w.heap.size + 1 by simp] at R0
  have B0 := galloc (galloc (Below.refl w.heap.size w) (.cells #[.slice al E.lists.length cl, .int .i64 E.each, .int .i64 E.at_] 49)) (.cells #[.bool false, .int .i64 0] 53)
  have q4 : ∀ X, Below w.heap.size w X → ∀ p, Calls Tryd.prog 63 #[cloF be bx, .slice a (lstO E item).length c, .int .i64 p] X fun r w' => r = .returned (VA (sayV (attF L xx) (lstO E item) p)) ∧ Below X.heap.size X w' := fun X G p => readAt_anyE be bx L xx a c (lstO E item) p X (hf.keep G) hl (LS.fl.keep G) h88
  have q5 : ∀ X, Below w.heap.size w X → Calls Tryd.prog 64 #[cloF be bx, .int .i64 op, .slice a (lstO E item).length c] X fun r w' => r = .returned (VA (gatV (attF L xx) op (lstO E item))) ∧ Below X.heap.size X w' := fun X G => cfold_anyE be bx L xx a c (lstO E item) op X (hf.keep G) hl (LS.fl.keep G) h88 hok
  obtain ⟨x, hx⟩ : ∃ x, menV (attF L xx) op E item = x := ⟨_, rfl⟩
  have HX := show Hid (_ = _) from hx
  rw [hx]
  clear hx hok LS hf
  go_enter Tryd.func40, Tryd.ntmps40
  go_wp2
  have y1 : ∀ z : Ext ((w.alloc (.cells #[.slice al E.lists.length cl, .int .i64 E.each, .int .i64 E.at_] 49)).alloc (.cells #[.bool false, .int .i64 0] 53)), Calls Tryd.prog 62 #[envA al cl E, .int .i64 item] z.X (fun e' w'' => e' = .returned (.slice a (lstO E item).length c) ∧ ∃ m : Ext _, w'' = m.X) := fun z => ext_of (hc z.X (gtrans B0 z.h))
  generalize (lstO E item).length = n at *
  generalize hV : (w.alloc (.cells #[.slice al E.lists.length cl, .int .i64 E.each, .int .i64 E.at_] 49)).alloc (.cells #[.bool false, .int .i64 0] 53) = V at *
  clear hV hc
  obtain ⟨s0, s1, s2⟩ := S0.at3
  have p0 := fun z : Ext V => (z.cell _ _ S0.lt).trans s0
  have p1 := fun z : Ext V => (z.cell _ _ S0.lt).trans s1
  have p2 := fun z : Ext V => (z.cell _ _ S0.lt).trans s2
  have hne : Nonempty (Ext V) := ⟨⟨_, Below.refl _ _⟩⟩
  refine wp_region_ext (by kernel_rfl) (by kernel_rfl) ?_
  repeat (go_big_quiet_step (first | (go_at_call 62; with_reducible exact y1 _)))
  refine wpQuiet_nil ?_
  intro _ hw'
  obtain ⟨nx, hw''⟩ := hw'
  subst hw''
  have BX := gtrans B0 nx.h
  have RX := R0.keep nx.h
  obtain ⟨_, t1, t2⟩ := (S0.keep nx.h).at3
  generalize nx.X = X at *
  cases hg : (item == E.each)
  · have hne : item ≠ E.each := by simpa using hg
    by_cases h4 : op = 4
    · have q0 : (op == 4) = true := by simpa using h4
      have e1 : x = sayV (attF L xx) (lstO E item) 0 := by rw [← HX.out]; unfold menV; rw [if_pos h4, if_neg hne]
      obtain ⟨xk, xn⟩ := x
      have hcc := q4 X BX 0
      rw [← e1] at hcc
      clear e1 HX q4 q5
      go_wp2_with (first
        | (go_at_call 63; (with_reducible refine hcc.mono ?_); rintro _ u1 ⟨rfl, g1⟩; have R1 := RX.keep g1; obtain ⟨r0, r1⟩ := show _ ∧ _ from ⟨R1.at0, R1.at1⟩; have rf := R1.free))
      refine bodyPost_ret (v := .agg #[.bool xk, .int .i64 xn]) (by simp [results, Tryd.results40, go_sem, r0, r1]) rfl ⟨rfl, ?_⟩
      exact gset (gset (gtrans BX g1) (by simp) _) (by simp) _
    have q0 : (op == 4) = false := beq_eq_false_iff_ne.2 h4
    by_cases h11 : op = 11
    · have q1 : (op == 11) = true := by simpa using h11
      obtain rfl : x = noV2 := by rw [← HX.out]; unfold menV; rw [if_neg h4, if_pos h11, if_neg hne]
      have r0 := RX.at0
      have r1 := RX.at1
      have rf := RX.free
      clear HX q4 q5
      go_wp2
      refine bodyPost_ret (v := .agg #[.bool false, .int .i64 0]) (by simp [results, Tryd.results40, go_sem, r0, r1]) rfl ⟨rfl, ?_⟩
      first | exact BX | exact gset (gset BX (by simp) _) (by simp) _
    have q1 : (op == 11) = false := beq_eq_false_iff_ne.2 h11
    have e1 : x = gatV (attF L xx) op (lstO E item) := by rw [← HX.out]; unfold menV; rw [if_neg h4, if_neg h11]
    obtain ⟨xk, xn⟩ := x
    have hcc := q5 X BX
    rw [← e1] at hcc
    clear e1 HX q4 q5
    go_wp2_with (first
      | (go_at_call 64; (with_reducible refine hcc.mono ?_); rintro _ u1 ⟨rfl, g1⟩; have R1 := RX.keep g1; obtain ⟨r0, r1⟩ := show _ ∧ _ from ⟨R1.at0, R1.at1⟩; have rf := R1.free))
    refine bodyPost_ret (v := .agg #[.bool xk, .int .i64 xn]) (by simp [results, Tryd.results40, go_sem, r0, r1]) rfl ⟨rfl, ?_⟩
    exact gset (gset (gtrans BX g1) (by simp) _) (by simp) _
  · have hne : item = E.each := by simpa using hg
    by_cases h4 : op = 4
    · have q0 : (op == 4) = true := by simpa using h4
      have e1 : x = sayV (attF L xx) (lstO E item) E.at_ := by rw [← HX.out]; unfold menV; rw [if_pos h4, if_pos hne]
      obtain ⟨xk, xn⟩ := x
      have hcc := q4 X BX E.at_
      rw [← e1] at hcc
      clear e1 HX q4 q5
      go_wp2_with (first
        | (go_at_call 63; (with_reducible refine hcc.mono ?_); rintro _ u1 ⟨rfl, g1⟩; have R1 := RX.keep g1; obtain ⟨r0, r1⟩ := show _ ∧ _ from ⟨R1.at0, R1.at1⟩; have rf := R1.free))
      refine bodyPost_ret (v := .agg #[.bool xk, .int .i64 xn]) (by simp [results, Tryd.results40, go_sem, r0, r1]) rfl ⟨rfl, ?_⟩
      exact gset (gset (gtrans BX g1) (by simp) _) (by simp) _
    have q0 : (op == 4) = false := beq_eq_false_iff_ne.2 h4
    by_cases h11 : op = 11
    · have q1 : (op == 11) = true := by simpa using h11
      obtain ⟨pv, hpv⟩ : ∃ pv, IntKind.i64.wrap (E.at_ - 1) = pv := ⟨_, rfl⟩
      have e1 : x = sayV (attF L xx) (lstO E item) pv := by rw [← HX.out]; unfold menV; rw [if_neg h4, if_pos h11, if_pos hne, hpv]
      obtain ⟨xk, xn⟩ := x
      have hcc := q4 X BX pv
      rw [← e1] at hcc
      clear e1 HX q4 q5
      go_wp2_with (first
        | (go_at_call 63; (with_reducible refine hcc.mono ?_); rintro _ u1 ⟨rfl, g1⟩; have R1 := RX.keep g1; obtain ⟨r0, r1⟩ := show _ ∧ _ from ⟨R1.at0, R1.at1⟩; have rf := R1.free))
      refine bodyPost_ret (v := .agg #[.bool xk, .int .i64 xn]) (by simp [results, Tryd.results40, go_sem, r0, r1]) rfl ⟨rfl, ?_⟩
      exact gset (gset (gtrans BX g1) (by simp) _) (by simp) _
    have q1 : (op == 11) = false := beq_eq_false_iff_ne.2 h11
    have e1 : x = gatV (attF L xx) op (lstO E item) := by rw [← HX.out]; unfold menV; rw [if_neg h4, if_neg h11]
    obtain ⟨xk, xn⟩ := x
    have hcc := q5 X BX
    rw [← e1] at hcc
    clear e1 HX q4 q5
    go_wp2_with (first
      | (go_at_call 64; (with_reducible refine hcc.mono ?_); rintro _ u1 ⟨rfl, g1⟩; have R1 := RX.keep g1; obtain ⟨r0, r1⟩ := show _ ∧ _ from ⟨R1.at0, R1.at1⟩; have rf := R1.free))
    refine bodyPost_ret (v := .agg #[.bool xk, .int .i64 xn]) (by simp [results, Tryd.results40, go_sem, r0, r1]) rfl ⟨rfl, ?_⟩
    exact gset (gset (gtrans BX g1) (by simp) _) (by simp) _

end Go.Proofs.YtnmppmmanigpcaaDoor
namespace Go.Proofs.YtnmppmmanigpcaaDoor
open Go.RowKit Go.BigFrame Go.Proofs.YtnmppmmanigpcaaDoor.Ev
set_option linter.unusedVariables false
set_option linter.unusedSimpArgs false

/-- The value of a node whose operands have the values done. -/
def nodeW (L : List Ty) (M : ByteArray → Option Int) (E : Envr) (done : List V2) (n : Nd) : V2 :=
  if n.op < 4 then (true, kLit n)
  else if n.op = 5 then (true, ((lstO E ((M n.v).getD 0)).length : Int))
  else if n.op ≤ 11 then menV (fun t => attrI L t n.x) n.op E ((M n.v).getD 0)
  else if n.op = 12 then negW (done.getD n.l.toNat noV2)
  else if n.op = 13 then notW (done.getD n.l.toNat noV2)
  else applyV n.op (done.getD n.l.toNat noV2) (done.getD n.r.toNat noV2)
/-- The values of the first k nodes. -/
def valK (L : List Ty) (M : ByteArray → Option Int) (E : Envr) (ns : List Nd) : Nat → List V2
  | 0 => []
  | k + 1 => valK L M E ns k ++ [nodeW L M E (valK L M E ns k) (ns.getD k noNd)]
/-- The value of the node i. -/
def valA (L : List Ty) (M : ByteArray → Option Int) (E : Envr) (ns : List Nd) (i : Nat) : V2 := nodeW L M E (valK L M E ns i) (ns.getD i noNd)
theorem valK_len (L : List Ty) (M : ByteArray → Option Int) (E : Envr) (ns : List Nd) : ∀ k, (valK L M E ns k).length = k
  | 0 => rfl
  | k + 1 => by unfold valK; rw [List.length_append, valK_len L M E ns k]; rfl
theorem valK_at (L : List Ty) (M : ByteArray → Option Int) (E : Envr) (ns : List Nd) (j : Nat) : ∀ k, j < k → (valK L M E ns k).getD j noV2 = valA L M E ns j
  | 0, h => absurd h (Nat.not_lt_zero _)
  | k + 1, h => by
    unfold valK
    have hl := valK_len L M E ns k
    by_cases e : j = k
    · subst e
      rw [List.getD_eq_getElem?_getD, List.getElem?_append_right (by omega), hl, Nat.sub_self]
      rfl
    · rw [List.getD_eq_getElem?_getD, List.getElem?_append_left (by omega), ← List.getD_eq_getElem?_getD]
      exact valK_at L M E ns j k (by omega)
/-- What a truth can be. -/
def canon (x : V2) : Prop := x = (true, 0) ∨ x = (true, 1) ∨ x = (false, 0)
theorem canon_v (t : Int) (h : t = 0 ∨ t = 1 ∨ t = 2) : canon (vK t, vN t) := by
  rcases h with rfl | rfl | rfl
  · exact .inl rfl
  · exact .inr (.inr rfl)
  · exact .inr (.inl rfl)
theorem canon_bit (b : Bool) : canon (true, bitOf b) := by cases b; exact .inl rfl; exact .inr (.inl rfl)
theorem min_cases (a b : Int) (ha : a = 0 ∨ a = 1 ∨ a = 2) (hb : b = 0 ∨ b = 1 ∨ b = 2) : minI a b = 0 ∨ minI a b = 1 ∨ minI a b = 2 := by unfold minI; split <;> assumption
theorem max_cases (a b : Int) (ha : a = 0 ∨ a = 1 ∨ a = 2) (hb : b = 0 ∨ b = 1 ∨ b = 2) : maxI a b = 0 ∨ maxI a b = 1 ∨ maxI a b = 2 := by unfold maxI; split <;> assumption
theorem canon_cmp (op : Int) (x y : V2) : canon (cmpV op x y) := by
  unfold cmpV
  repeat' split
  all_goals first | exact canon_bit _ | exact .inr (.inr rfl)
theorem canon_apply (op : Int) (x y : V2) (h : 19 ≤ op) : canon (applyV op x y) := by
  unfold applyV
  rw [if_neg (by omega), if_neg (by omega), if_neg (by omega), if_neg (by omega), if_neg (by omega)]
  split
  · exact canon_v _ (min_cases _ _ (rd_cases _ _) (rd_cases _ _))
  split
  · exact canon_v _ (max_cases _ _ (rd_cases _ _) (rd_cases _ _))
  · exact canon_cmp _ _ _
theorem canon_not (x : V2) : canon (notW x) := by
  unfold notW
  exact canon_v _ (by have := rd_cases x.1 x.2; omega)
/-- A truth's value is one. -/
theorem canon_val (L : List Ty) (M : ByteArray → Option Int) (E : Envr) {ns : List Nd} (ht : treeB ns = true) {i : Nat} (hi : i < ns.length) (hk : kTr (ns.getD i noNd).op = true) : canon (valA L M E ns i) := by
  obtain ⟨bs, hb, _⟩ := tree_begs ht
  have w := ws_of hb i hi
  unfold kTr at hk
  have hk := of_decide_eq_true hk
  unfold valA nodeW kLit
  rcases hk with h | h | (h | h | h) | h
  · rw [if_pos (by omega), if_pos h]; exact .inr (.inl rfl)
  · have hf := (leafN_iff _).1 (w.leaf (by omega))
    rw [if_pos (by omega), if_neg (by omega), show (ns.getD i noNd).n = 0 by omega]; exact .inl rfl
  · rw [if_neg (by omega), if_neg (by omega), if_neg (by omega), if_neg (by omega), if_pos h]; exact canon_not _
  · rw [if_neg (by omega), if_neg (by omega), if_neg (by omega), if_neg (by omega), if_neg (by omega)]; exact canon_apply _ _ _ (by omega)
  · rw [if_neg (by omega), if_neg (by omega), if_neg (by omega), if_neg (by omega), if_neg (by omega)]; exact canon_apply _ _ _ (by omega)
  · rw [if_neg (by omega), if_neg (by omega), if_neg (by omega), if_neg (by omega), if_neg (by omega)]; exact canon_apply _ _ _ (by omega)
/-- Where the left side decides, it is the whole. -/
theorem jmp_whole {c : Int} {x : V2} (hc : canon x) (h : c = 25 ∨ c = 26) (hj : jmpB c x = true) (y : V2) : applyV c x y = x := by
  have r := rd_cases y.1 y.2
  rcases hc with rfl | rfl | rfl <;> rcases h with rfl | rfl
  · show (vK (minI 0 (rd y.1 y.2)), vN (minI 0 (rd y.1 y.2))) = _
    have : minI 0 (rd y.1 y.2) = 0 := by unfold minI; split <;> omega
    rw [this]; rfl
  · exact absurd hj (by decide)
  · exact absurd hj (by decide)
  · show (vK (maxI 2 (rd y.1 y.2)), vN (maxI 2 (rd y.1 y.2))) = _
    have : maxI 2 (rd y.1 y.2) = 2 := by unfold maxI; split <;> omega
    rw [this]; rfl
  · exact absurd hj (by decide)
  · exact absurd hj (by decide)
/-! Steps. -/
section
variable {C : List Ins} {cols : List (List Int)} {E : Envr} {p : Nat} {st : List V2}
theorem step_push (hp : p < C.length) (hc : (C.getD p noIn).code = 1) : runW C cols E p st = runW C cols E (p + 1) (st ++ [(true, (C.getD p noIn).n)]) := by
  refine runW_go hp ?_ (Nat.lt_succ_self p)
  unfold stepP
  dsimp only
  rw [hc, if_neg (by simp [ndsI]), if_pos rfl]
theorem step_count (hp : p < C.length) (hc : (C.getD p noIn).code = 4) : runW C cols E p st = runW C cols E (p + 1) (st ++ [(true, ((lstO E (C.getD p noIn).item).length : Int))]) := by
  refine runW_go hp ?_ (Nat.lt_succ_self p)
  unfold stepP
  dsimp only
  rw [hc, if_neg (by simp [ndsI]), if_neg (by decide), if_pos rfl]
theorem step_men (hp : p < C.length) {c : Int} (hc : (C.getD p noIn).code = c) (h1 : 1 < c) (h4 : c ≠ 4) (h9 : c < 10) (j0 : 0 ≤ (C.getD p noIn).col) (j1 : (C.getD p noIn).col < (cols.length : Int)) :
    runW C cols E p st = runW C cols E (p + 1) (st ++ [menV (plcO (cols.getD (C.getD p noIn).col.toNat [])) (opI c) E (C.getD p noIn).item]) := by
  refine runW_go hp ?_ (Nat.lt_succ_self p)
  unfold stepP ndsI
  dsimp only
  rw [hc, if_pos h9, if_neg (by omega), if_neg (by omega), if_neg h4, if_pos h9, if_pos ⟨j0, j1⟩]
theorem top_snoc (x : V2) : topV (st ++ [x]) = x := by unfold topV; simp
theorem set_snoc (x y : V2) : (st ++ [x]).set ((st ++ [x]).length - 1) y = st ++ [y] := by
  rw [List.length_append, List.length_singleton, Nat.add_sub_cancel, List.set_append_right _ _ (Nat.le_refl _), Nat.sub_self]; rfl
theorem step_neg (hp : p < C.length) (hc : (C.getD p noIn).code = 10) (x : V2) : runW C cols E p (st ++ [x]) = runW C cols E (p + 1) (st ++ [negW x]) := by
  refine runW_go hp ?_ (Nat.lt_succ_self p)
  unfold stepP
  dsimp only
  rw [hc, if_neg (by rw [List.length_append]; simp [ndsI]), if_neg (by decide), if_neg (by decide), if_neg (by decide), if_pos rfl, top_snoc, set_snoc]
theorem step_not (hp : p < C.length) (hc : (C.getD p noIn).code = 11) (x : V2) : runW C cols E p (st ++ [x]) = runW C cols E (p + 1) (st ++ [notW x]) := by
  refine runW_go hp ?_ (Nat.lt_succ_self p)
  unfold stepP
  dsimp only
  rw [hc, if_neg (by rw [List.length_append]; simp [ndsI]), if_neg (by decide), if_neg (by decide), if_neg (by decide), if_neg (by decide), if_pos rfl, top_snoc, set_snoc]
theorem step_jump (hp : p < C.length) {c : Int} (hc : (C.getD p noIn).code = c) (h : c = 25 ∨ c = 26) (t : Nat) (ht : (C.getD p noIn).jt = (t : Int)) (h1 : p < t) (h2 : t ≤ C.length) (x : V2) :
    runW C cols E p (st ++ [x]) = if jmpB c x = true then runW C cols E t (st ++ [x]) else runW C cols E (p + 1) (st ++ [x]) := by
  have hs : stepP C cols E p (st ++ [x]) = if jmpB c x = true then some (t, st ++ [x]) else some (p + 1, st ++ [x]) := by
    unfold stepP
    dsimp only
    rw [hc, ht, if_neg (by rw [List.length_append]; rcases h with rfl | rfl <;> simp [ndsI]), if_neg (by omega), if_neg (by omega), if_neg (by omega), if_neg (by omega), if_neg (by omega), if_pos (by omega), if_pos (by omega), top_snoc, Int.toNat_natCast]
  cases hj : jmpB c x with
  | true => rw [if_pos rfl]; rw [hj, if_pos rfl] at hs; exact runW_go hp hs h1
  | false => rw [if_neg (by decide)]; rw [hj, if_neg (by decide)] at hs; exact runW_go hp hs (Nat.lt_succ_self p)
theorem step_apply (hp : p < C.length) {c : Int} (hc : (C.getD p noIn).code = c) (h0 : 12 ≤ c) (h1 : c < 25) (x y : V2) : runW C cols E p (st ++ [x] ++ [y]) = runW C cols E (p + 1) (st ++ [applyV (c + 2) x y]) := by
  refine runW_go hp ?_ (Nat.lt_succ_self p)
  have e1 : sndV (st ++ [x] ++ [y]) = x := by
    unfold sndV
    rw [List.append_assoc, List.getD_eq_getElem?_getD, List.getElem?_append_right (by simp)]
    simp
  have e2 : ((st ++ [x] ++ [y]).set ((st ++ [x] ++ [y]).length - 2) (applyV (c + 2) x y)).take ((st ++ [x] ++ [y]).length - 1) = st ++ [applyV (c + 2) x y] := by
    rw [List.append_assoc]
    have : (st ++ ([x] ++ [y])).length - 2 = st.length := by simp
    rw [this, List.set_append_right _ _ (Nat.le_refl _), Nat.sub_self]
    have : (st ++ ([x] ++ [y])).length - 1 = st.length + 1 := by simp
    rw [this, List.take_append]
    simp
    exact List.take_of_length_le (by omega)
  unfold stepP
  dsimp only
  rw [hc, if_neg (by unfold ndsI; rw [if_neg (by omega), if_neg (by omega)]; simp; omega), if_neg (by omega), if_neg (by omega), if_neg (by omega), if_neg (by omega), if_neg (by omega), if_neg (by omega), top_snoc, e1, e2]
end
/-! Columns. -/
def ColsOk (L : List Ty) (l : List (ByteArray × List Int)) : Prop := ∀ e ∈ l, e.2 = colRow L e.1
theorem colN_some {l : List ByteArray} {s : ByteArray} {i : Int} : ∀ {k : Nat}, colN l k s = some i → ∃ j : Nat, i = (j : Int) ∧ j < k ∧ s = l.getD j eS
  | 0, h => by cases h
  | k + 1, h => by
    unfold colN at h
    by_cases e : s = l.getD k eS
    · rw [if_pos e] at h
      cases h
      exact ⟨k, rfl, by omega, e⟩
    · rw [if_neg e] at h
      obtain ⟨j, e1, e2, e3⟩ := colN_some h
      exact ⟨j, e1, by omega, e3⟩
/-- The column of a name, when the name has been said. -/
theorem col_at {L : List Ty} {s : Cst} (x : ByteArray) (h : ColsOk L s.cols) : ColsOk L (colS L s x).cols ∧ (∃ more, (colS L s x).cols = s.cols ++ more) ∧ ∃ j : Nat, colV s x = (j : Int) ∧ j < (colS L s x).cols.length ∧ ((colS L s x).cols.map Prod.snd).getD j [] = colRow L x := by
  unfold colV colS
  cases hc : colF s.names x with
  | some i =>
    obtain ⟨j, e1, e2, e3⟩ := colN_some hc
    have hj : j < s.cols.length := by unfold Cst.names at e2; simpa using e2
    refine ⟨h, ⟨[], (List.append_nil _).symm⟩, j, e1, hj, ?_⟩
    dsimp only
    have hm := h s.cols[j] (List.getElem_mem hj)
    rw [List.getD_eq_getElem?_getD, List.getElem?_map, List.getElem?_eq_getElem hj]
    show (s.cols[j]).2 = _
    rw [hm, e3]
    unfold Cst.names
    rw [List.getD_eq_getElem?_getD, List.getElem?_map, List.getElem?_eq_getElem hj]
    rfl
  | none =>
    dsimp only
    refine ⟨fun e he => ?_, ⟨_, rfl⟩, s.cols.length, rfl, by simp, ?_⟩
    · rcases List.mem_append.1 he with h1 | h1
      · exact h e h1
      · rw [List.mem_singleton] at h1; subst h1; rfl
    · rw [List.map_append, List.getD_eq_getElem?_getD, List.getElem?_append_right (by simp)]
      simp
theorem plc_row (L : List Ty) (x : ByteArray) : plcO (colRow L x) = fun t => attrI L t x := by
  funext t
  unfold plcO
  rw [colRow_len]
  by_cases h : t < 0 ∨ (L.length : Int) ≤ t
  · rw [if_pos h]
    unfold attrI
    rw [if_neg (by omega)]
  · rw [if_neg h, colRow_at L x (by omega)]
    congr 1
    omega
theorem nod1_cols {L : List Ty} {s : Cst} {n : Nd} (h : ColsOk L s.cols) : ColsOk L (nod1 L s n).cols ∧ (∃ more, (nod1 L s n).cols = s.cols ++ more) ∧ (nod1 L s n).code = s.code ∧ (nod1 L s n).opn = s.opn := by
  unfold nod1
  split
  · obtain ⟨h1, h2, _⟩ := col_at n.x h
    refine ⟨h1, h2, ?_⟩
    unfold colS
    split <;> exact ⟨rfl, rfl⟩
  · exact ⟨h, ⟨[], (List.append_nil _).symm⟩, rfl, rfl⟩
theorem nodS_cols' (L : List Ty) (M : ByteArray → Option Int) (s : Cst) (n : Nd) : (nodS L M s n).cols = (nod1 L s n).cols := by
  unfold nodS landS nod2
  split <;> rfl
theorem treK_cols (L : List Ty) (M : ByteArray → Option Int) (ns : List Nd) : ∀ k, ColsOk L (treK L M ns k).cols
  | 0 => fun e he => by simp [treK] at he
  | k + 1 => by
    have h := treK_cols L M ns k
    unfold treK
    split
    · rw [nodS_cols']; exact (nod1_cols h).1
    · unfold jumpS; dsimp only; rw [nodS_cols']; exact (nod1_cols h).1

end Go.Proofs.YtnmppmmanigpcaaDoor
