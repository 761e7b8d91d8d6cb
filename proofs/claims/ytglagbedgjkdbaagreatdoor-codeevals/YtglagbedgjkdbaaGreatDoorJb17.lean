/- What Eval reads: places by the schema's attribute. And what goes with it: 2 texts in one. -/
import Derived.Test.YtglagbedgjkdbaaGreatDoorJb16
import Derived.WalkMore
import Derived.WalkSmall
namespace Go.Proofs.YtglagbedgjkdbaaGreatDoor
open Go.RowKit Go.BigFrame
set_option linter.unusedVariables false
set_option linter.unusedSimpArgs false

abbrev ptrE (b : Nat) : Value := .pointer (some ⟨b, 0, none⟩)
/-- The places of an attribute, by the schema. -/
abbrev cloF (be bx : Nat) : Value := .func (.func 127) #[] #[ptrE be, ptrE bx]
def attF (L : List Ty) (x : ByteArray) : Int → Int := fun t => attrI L t x
structure CloA (w : World) (be bx : Nat) (L : List Ty) (x : ByteArray) : Prop where
  ex : ∃ pe sa sc, w.cell? ⟨be, 0, none⟩ = some (ptrE pe) ∧ w.cell? ⟨pe, 0, none⟩ = some (.slice sa L.length sc) ∧ w.cell? ⟨bx, 0, none⟩ = some (.string x) ∧ IsTypes w sa L.length L
theorem CloA.keep {w u : World} {be bx : Nat} {L : List Ty} {x : ByteArray} (h : CloA w be bx L x) (G : Below w.heap.size w u) : CloA u be bx L x := by
  obtain ⟨pe, sa, sc, h0, h1, h2, A⟩ := h.ex
  exact ⟨pe, sa, sc, (G.cell (p := ⟨_, _, none⟩) (lt_of_cell h0)).trans h0, (G.cell (p := ⟨_, _, none⟩) (lt_of_cell h1)).trans h1, (G.cell (p := ⟨_, _, none⟩) (lt_of_cell h2)).trans h2, A.keep G⟩
set_option maxRecDepth 100000 in
set_option maxHeartbeats 4000000 in
theorem clo_any (be bx : Nat) (L : List Ty) (xx : ByteArray) (typ : Int) (w : World) (h : CloA w be bx L xx) :
    Calls Tryz.prog 127 #[.int .i64 typ, ptrE be, ptrE bx] w fun e w' => e = .returned (.int .i64 (attF L xx typ)) ∧ Below w.heap.size w w' := by
  obtain ⟨pe, sa, sc, h0, h1, h2, A⟩ := h.ex
  have ca : ∀ z : Ext w, Calls Tryz.prog 126 #[.agg #[.slice sa L.length sc], .int .i64 typ, .string xx] z.X (fun e' w'' => e' = .returned (.int .i64 (attF L xx typ)) ∧ ∃ m : Ext w, w'' = m.X) := fun z => ext_of (attrOf_any sa L.length sc L typ xx z.X (A.keep z.h))
  generalize attF L xx typ = r at ca ⊢
  have p0 := fun z : Ext w => (z.cell _ _ (lt_of_cell h0)).trans h0
  have p1 := fun z : Ext w => (z.cell _ _ (lt_of_cell h1)).trans h1
  have p2 := fun z : Ext w => (z.cell _ _ (lt_of_cell h2)).trans h2
  have hne : Nonempty (Ext w) := ⟨⟨_, Below.refl _ _⟩⟩
  go_enter Tryz.func127, Tryz.ntmps127
  go_upto_region 1 with fail
  refine wp_region_ext (by kernel_rfl) (by kernel_rfl) ?_
  repeat (go_big_quiet_step (first | (go_at_call 126; with_reducible exact ca _)))
  refine wpQuiet_nil ?_
  intro _ hw'
  obtain ⟨nx, hw''⟩ := hw'
  subst hw''
  have B := nx.h
  generalize nx.X = X at *
  go_wp2
  go_ret
  exact ⟨rfl, B⟩
theorem bk_ev {w : World} {b : Nat} {e : Ev} {t : TypeId} (h : Bk w b (evC e) t) : w.cell? ⟨b, 0, none⟩ = some (.int .i64 e.ts) ∧ w.cell? ⟨b, 1, none⟩ = some (.int .u64 e.id) ∧ w.cell? ⟨b, 2, none⟩ = some (.int .i64 e.typ) ∧ w.cell? ⟨b, 3, none⟩ = some (.int .i64 e.a0) ∧ w.cell? ⟨b, 4, none⟩ = some (.int .i64 e.a1) ∧ w.cell? ⟨b, 5, none⟩ = some (.int .i64 e.a2) ∧ w.cell? ⟨b, 6, none⟩ = some (.int .i64 e.a3) ∧ w.cell? ⟨b, 7, none⟩ = some (.int .i64 e.a4) ∧ w.cell? ⟨b, 8, none⟩ = some (.int .i64 e.a5) ∧ w.cell? ⟨b, 9, none⟩ = some (.int .i64 e.a6) ∧ w.cell? ⟨b, 10, none⟩ = some (.int .i64 e.a7) :=
  ⟨cell_of_row w b 0 _ _ _ h, cell_of_row w b 1 _ _ _ h, cell_of_row w b 2 _ _ _ h, cell_of_row w b 3 _ _ _ h, cell_of_row w b 4 _ _ _ h, cell_of_row w b 5 _ _ _ h, cell_of_row w b 6 _ _ _ h, cell_of_row w b 7 _ _ _ h, cell_of_row w b 8 _ _ _ h, cell_of_row w b 9 _ _ _ h, cell_of_row w b 10 _ _ _ h⟩

set_option maxRecDepth 100000 in
set_option maxHeartbeats 2000000 in
theorem read_anyE (be bx : Nat) (L : List Ty) (xx : ByteArray) (e : Ev) (w : World) (hf : CloA w be bx L xx) (hl : True) :
    Calls Tryz.prog 115 #[cloF be bx, .agg (evC e)] w fun r w' => r = .returned (VA (rdE (attF L xx) e)) ∧ Below w.heap.size w w' := by
  have B := galloc (galloc (Below.refl w.heap.size w) (.cells (evC e) 76)) (.cells #[.bool false, .int .i64 0] 51)
  have hp := clo_any be bx L xx e.typ _ (hf.keep B)
  have EV := (Bk.new w (evC e) 76).alloc (.cells #[.bool false, .int .i64 0] 51)
  have RV := Two.new (w.alloc (.cells (evC e) 76)) (.bool false) (.int .i64 0) 51
  rw [show (w.alloc (.cells (evC e) 76)).heap.size = w.heap.size + 1 by simp] at RV
  unfold rdE
  generalize attF L xx e.typ = pl at hp ⊢
  by_cases h2 : pl = -2
  · subst h2
    rw [show rdP (-2) e = (true, e.ts) from rfl]
    go_enter Tryz.func115, Tryz.ntmps115
    unfold evC at B hp ⊢
    go_wp2_with (first
      | (go_at_call 127; (with_reducible refine hp.mono ?_); rintro _ w0 ⟨rfl, g0⟩; have B1 := gtrans B g0; obtain ⟨x0, x1, x2, x3, x4, x5, x6, x7, x8, x9, x10⟩ := bk_ev (EV.keep g0); obtain ⟨rr0, rr1⟩ := show _ ∧ _ from ⟨(RV.keep g0).at0, (RV.keep g0).at1⟩; have rrf := (RV.keep g0).free)
      | (go_at_call 49; (with_reducible refine (cknown_any _ _).mono ?_); rintro _ w1 ⟨rfl, g1⟩; have B2 := gtrans B1 g1; obtain ⟨r0, r1⟩ := show _ ∧ _ from ⟨((RV.keep g0).keep g1).at0, ((RV.keep g0).keep g1).at1⟩; have rf := ((RV.keep g0).keep g1).free))
    refine bodyPost_ret (v := .agg #[.bool true, .int .i64 e.ts]) (by simp [results, Tryz.results115, go_sem, r0, r1]) rfl ⟨rfl, ?_⟩
    exact gset (gset B2 (by simp) _) (by simp) _
  have q2 : (pl == -2) = false := beq_eq_false_iff_ne.2 h2
  by_cases h3 : 0 ≤ pl ∧ pl < 8
  · obtain ⟨j, rfl⟩ : ∃ j : Nat, pl = j := ⟨pl.toNat, by omega⟩
    have hj : j < 8 := by omega
    obtain ⟨h30, h31⟩ := h3
    have e1 : rdP (j : Int) e = (true, e.at j) := by unfold rdP; rw [if_neg h2, if_pos ⟨h30, h31⟩]; rfl
    rw [e1]
    clear h2 e1 h30 h31
    rcases (show j = 0 ∨ j = 1 ∨ j = 2 ∨ j = 3 ∨ j = 4 ∨ j = 5 ∨ j = 6 ∨ j = 7 from by omega) with rfl | rfl | rfl | rfl | rfl | rfl | rfl | rfl
    all_goals
      go_enter Tryz.func115, Tryz.ntmps115
      unfold evC at B hp ⊢
      go_wp2_with (first
        | (go_at_call 127; (with_reducible refine hp.mono ?_); rintro _ w0 ⟨rfl, g0⟩; have B1 := gtrans B g0; obtain ⟨x0, x1, x2, x3, x4, x5, x6, x7, x8, x9, x10⟩ := bk_ev (EV.keep g0); obtain ⟨rr0, rr1⟩ := show _ ∧ _ from ⟨(RV.keep g0).at0, (RV.keep g0).at1⟩; have rrf := (RV.keep g0).free)
        | (go_at_call 49; (with_reducible refine (cknown_any _ _).mono ?_); rintro _ w1 ⟨rfl, g1⟩; have B2 := gtrans B1 g1; obtain ⟨r0, r1⟩ := show _ ∧ _ from ⟨((RV.keep g0).keep g1).at0, ((RV.keep g0).keep g1).at1⟩; have rf := ((RV.keep g0).keep g1).free))
      refine bodyPost_ret (v := .agg #[.bool true, .int .i64 _]) (by simp [results, Tryz.results115, go_sem, r0, r1]; first | rfl | done) rfl ⟨rfl, ?_⟩
      exact gset (gset B2 (by simp) _) (by simp) _
  · have e1 : rdP pl e = noV2 := by unfold rdP; rw [if_neg h2, if_neg h3]
    rw [e1]
    by_cases h4 : 0 ≤ pl
    · have h5 : ¬ pl < 8 := fun h => h3 ⟨h4, h⟩
      go_enter Tryz.func115, Tryz.ntmps115
      unfold evC at B hp ⊢
      clear h2 e1 h3
      go_wp2_with (first
        | (go_at_call 127; (with_reducible refine hp.mono ?_); rintro _ w0 ⟨rfl, g0⟩; have B1 := gtrans B g0; obtain ⟨x0, x1, x2, x3, x4, x5, x6, x7, x8, x9, x10⟩ := bk_ev (EV.keep g0); obtain ⟨rr0, rr1⟩ := show _ ∧ _ from ⟨(RV.keep g0).at0, (RV.keep g0).at1⟩; have rrf := (RV.keep g0).free))
      refine bodyPost_ret (v := .agg #[.bool false, .int .i64 0]) (by simp [results, Tryz.results115, go_sem, rr0, rr1]) rfl ⟨rfl, ?_⟩
      first | exact B1 | exact gset (gset B1 (by simp) _) (by simp) _
    · go_enter Tryz.func115, Tryz.ntmps115
      unfold evC at B hp ⊢
      clear h2 e1 h3
      go_wp2_with (first
        | (go_at_call 127; (with_reducible refine hp.mono ?_); rintro _ w0 ⟨rfl, g0⟩; have B1 := gtrans B g0; obtain ⟨x0, x1, x2, x3, x4, x5, x6, x7, x8, x9, x10⟩ := bk_ev (EV.keep g0); obtain ⟨rr0, rr1⟩ := show _ ∧ _ from ⟨(RV.keep g0).at0, (RV.keep g0).at1⟩; have rrf := (RV.keep g0).free))
      refine bodyPost_ret (v := .agg #[.bool false, .int .i64 0]) (by simp [results, Tryz.results115, go_sem, rr0, rr1]) rfl ⟨rfl, ?_⟩
      first | exact B1 | exact gset (gset B1 (by simp) _) (by simp) _

set_option maxRecDepth 100000 in
set_option maxHeartbeats 2000000 in
theorem readAt_anyE (be bx : Nat) (L : List Ty) (xx : ByteArray) (a : Option Addr) (c : Nat) (l : List Ev) (p : Int) (w : World) (hf : CloA w be bx L xx) (hl : True) (hA : Flat w a (fl evC l)) (hn : l.length * 88 ≤ 140737488351232) :
    Calls Tryz.prog 80 #[cloF be bx, .slice a l.length c, .int .i64 p] w fun r w' => r = .returned (VA (sayV (attF L xx) l p)) ∧ Below w.heap.size w w' := by
  have B := galloc (Below.refl w.heap.size w) (.cells #[.bool false, .int .i64 0] 51)
  by_cases h0 : p < 0
  · rw [show sayV (attF L xx) l p = noV2 from if_pos (.inl h0)]
    go_enter Tryz.func80, Tryz.ntmps80
    go_wp2
    exact bodyPost_ret (v := .agg #[.bool false, .int .i64 0]) (by simp [results, Tryz.results80, go_sem]) rfl ⟨rfl, by first | exact B | exact gset (gset B (by simp) _) (by simp) _⟩
  by_cases h1 : (l.length : Int) ≤ p
  · rw [show sayV (attF L xx) l p = noV2 from if_pos (.inr h1)]
    go_enter Tryz.func80, Tryz.ntmps80
    go_wp2
    exact bodyPost_ret (v := .agg #[.bool false, .int .i64 0]) (by simp [results, Tryz.results80, go_sem]) rfl ⟨rfl, by first | exact B | exact gset (gset B (by simp) _) (by simp) _⟩
  obtain ⟨k, rfl⟩ : ∃ k : Nat, p = k := ⟨p.toNat, by omega⟩
  have hk : k < l.length := by omega
  have hki : (k : Int) < (l.length : Int) := by omega
  have e1 : sayV (attF L xx) l (k : Int) = rdE (attF L xx) (l.getD k zeroE) := if_neg (by omega)
  rw [e1]
  obtain ⟨g, o, rfl, hg, hcc⟩ := hA.form (by rw [fl_len evC_sz]; omega)
  have A := ev_at hcc k hk
  generalize l.getD k zeroE = ev at A ⊢
  have hr := read_anyE be bx L xx ev _ (hf.keep B) hl
  obtain ⟨c0, c1, c2, c3, c4, c5, c6, c7, c8, c9, c10⟩ := A
  generalize rdE (attF L xx) ev = x at hr ⊢
  unfold evC at hr
  clear hcc hA e1
  go_enter Tryz.func80, Tryz.ntmps80
  go_wp2_with (first
    | (go_at_call 115; (with_reducible refine hr.mono ?_); rintro _ w1 ⟨rfl, g1⟩; have B2 := gtrans B g1; obtain ⟨hc0, hf0⟩ := bcell g1))
  refine bodyPost_ret (v := VA x) (by simp [results, Tryz.results80, go_sem, hc0]) rfl ⟨rfl, ?_⟩
  exact gset (gset B2 (by simp) _) (by simp) _

set_option maxRecDepth 100000 in
set_option maxHeartbeats 4000000 in
theorem cfold_anyE (be bx : Nat) (L : List Ty) (xx : ByteArray) (a : Option Addr) (c : Nat) (l : List Ev) (op : Int) (w : World) (hf : CloA w be bx L xx) (hl : True) (hA : Flat w a (fl evC l)) (hn : l.length * 88 ≤ 140737488351232) (hE : evsOk l) :
    Calls Tryz.prog 81 #[cloF be bx, .int .i64 op, .slice a l.length c] w fun r w' => r = .returned (VA (gatV (attF L xx) op l)) ∧ Below w.heap.size w w' := by
  obtain ⟨i0, ti, tz0, tz1, tz2⟩ := nf_info nf_i64
  obtain ⟨M, hM, hmk⟩ := run_make_cap (P := Tryz.prog) 144 2 Tryz.underlying144 nf_i64 l.length (by omega) (by omega)
  have B0 := galloc (galloc (Below.refl w.heap.size w) (.cells #[.bool false, .int .i64 0] 51)) (.cells M 2)
  have R0 := (Two.new w (.bool false) (.int .i64 0) 51).alloc (.cells M 2)
  have O0 : ((w.alloc (.cells #[.bool false, .int .i64 0] 51)).alloc (.cells M 2)).ownsRow (w.heap.size + 1) 2 1 (.slice (some ⟨w.heap.size + 1, 0, none⟩) 0 l.length) 0 [] := by
    have := World.ownsRow_made (base := w.heap.size + 1) (e := 2) (size := 1) (w.alloc (.cells #[.bool false, .int .i64 0] 51)) M l.length (by simp) (by unfold maxLen; omega) hM
    simpa using this
  generalize hx : gatV (attF L xx) op l = x
  obtain ⟨zk, zn⟩ := x
  have HX := show Hid (_ = _) from hx
  clear hx
  go_enter Tryz.func81, Tryz.ntmps81
  go_wp2
  generalize (w.alloc (.cells #[.bool false, .int .i64 0] 51)).alloc (.cells M 2) = Z at *
  go_loopw [7, 16] (fun v i wr => FoldL (attF L xx) l w v i wr) (fun _ i _ => l.length - (intOf i).toNat)
  case atStart => exact ⟨⟨0, Nat.zero_le _, rfl, fun j hj => absurd hj (Nat.not_lt_zero _), O0, R0, B0⟩⟩
  case round =>
    clear O0 R0 B0 hmk
    obtain ⟨⟨k, hk, rfl, hall, hown, R, G⟩⟩ := hrel
    have zG := G.size
    have zR := R.lt
    by_cases hlt : k < l.length
    · have hki : (k : Int) < (l.length : Int) := by omega
      obtain ⟨g, o, rfl, hg, hcc⟩ := (hA.keep G).form (by rw [fl_len evC_sz]; omega)
      have A := ev_at hcc k hlt
      obtain ⟨ev, hev⟩ : ∃ ev, l.getD k zeroE = ev := ⟨_, rfl⟩
      rw [hev] at A
      have HEV := show Hid (_ = _) from hev
      have hr := read_anyE be bx L xx ev _ ((hf.keep G).keep (galloc (Below.refl wr.heap.size wr) (.cells (evC ev) 76))) hl
      obtain ⟨⟨xk, xn⟩, hxx⟩ : ∃ x, rdE (attF L xx) ev = x := ⟨_, rfl⟩
      rw [hxx] at hr
      have HXX := show Hid (_ = _) from hxx
      have hnl := numK_len (attF L xx) l k hk
      have ge := galloc (Below.refl wr.heap.size wr) (.cells (evC ev) 76)
      unfold evC at hr ge
      obtain ⟨c0, c1, c2, c3, c4, c5, c6, c7, c8, c9, c10⟩ := A
      clear hcc hxx hev
      cases xk
      · go_wp2_with (first
          | (go_at_call 115; (with_reducible refine hr.mono ?_); rintro _ u1 ⟨rfl, g1⟩; have G1 := gtrans ge g1; have G2 := gtrans G G1; obtain ⟨r0, r1⟩ := show _ ∧ _ from ⟨((R.keep G1).alloc (.cells #[.bool false, .int .i64 xn] 51)).at0, ((R.keep G1).alloc (.cells #[.bool false, .int .i64 xn] 51)).at1⟩; have rf := ((R.keep G1).alloc (.cells #[.bool false, .int .i64 xn] 51)).free))
        obtain ⟨rfl, rfl⟩ : zk = false ∧ zn = 0 := Prod.mk.inj (HX.out.symm.trans (gat_no hlt (by rw [HEV.out, HXX.out])))
        go_wp2
        refine bodyPost_ret (v := .agg #[.bool false, .int .i64 0]) (by simp [results, Tryz.results81, go_sem, r0, r1]) rfl ⟨rfl, ?_⟩
        first | exact galloc G2 _ | exact gset (gset (galloc G2 _) (by simp) _) (by simp) _
      · go_wp2_with (first
          | (go_at_call 115; (with_reducible refine hr.mono ?_); rintro _ u1 ⟨rfl, g1⟩; have G1 := gtrans ge g1; have G2 := gtrans G G1; have Ou := (own_keep hown G1).alloc (.cells #[.bool true, .int .i64 xn] 51))
          | (at_builtin; refine wpList_append_own _ rfl (.tmp 27) (.tmp 30) 144 rfl (w.heap.size + 1) 2 i0 (.int .i64 0) 1 8 Tryz.underlying144 ti tz0 tz1 tz2 rfl (by decide) _ _ _ rfl (Ou.alloc _) ⟨u1.heap.size + 1, 0, none⟩ 1 1 [.int .i64 xn] rfl rfl (one_newE (by simp) _ _) (fun u hu => by simp at hu; subst hu; rfl) ?c3 ?c4 ?c5 ?_))
        case c3 => unfold maxLen; omega
        case c4 => omega
        case c5 => have := G2.size; simp; omega
        intro v' w1 hown' hgrow _
        have e := numK_succ (attF L xx) l k hlt
        rw [HEV.out, HXX.out] at e
        have hown2 : w1.ownsRow (w.heap.size + 1) 2 1 v' (numK (attF L xx) l (k + 1)).length ((numK (attF L xx) l (k + 1)).map (Value.int .i64)) := by rw [e]; simpa [hnl] using hown'
        have q := hgrow.block w.heap.size (by have := G2.size; simp; omega) (fun e => by have := (Ou.lt _ e.symm).1; omega)
        have R2 : Two w1 w.heap.size (.bool false) (.int .i64 0) 51 := q.trans (((R.keep G1).alloc (.cells #[.bool true, .int .i64 xn] 51)).alloc _)
        have Gw : Below w.heap.size w w1 := (galloc (galloc G2 (.cells #[.bool true, .int .i64 xn] 51)) _).grown hgrow (by have := G2.size; simp; omega) (fun r e => by have := (Ou.lt _ e).1; omega)
        have hall2 : ∀ j, j < k + 1 → (rdE (attF L xx) (l.getD j zeroE)).1 = true := fun j hj => by
          by_cases hjk : j < k
          · exact hall j hjk
          · obtain rfl : j = k := by omega
            rw [HEV.out, HXX.out]
        have fin : FoldL (attF L xx) l w v' (.int .i64 ((k : Int) + 1)) w1 := ⟨⟨k + 1, by omega, by go_num, hall2, hown2, R2, Gw⟩⟩
        clear hown' hgrow hown2 R2 Gw hall2 q e Ou hown R hall hr c0 c1 c2 c3 c4 c5 c6 c7 c8 c9 c10
        go_wp2
        go_roundw
        case rel => exact fin
        case measure => simp [intOf]; omega
    · obtain rfl : k = l.length := by omega
      obtain ⟨hzk, hzn⟩ := Prod.mk.inj ((gat_yes hall).symm.trans HX.out)
      have hnl := numK_len (attF L xx) l l.length (Nat.le_refl _)
      obtain ⟨ao, cap, rfl, hrow, _, _⟩ := isRow_own hown (numK_fits hE _ _)
      have hfo := fold_any op ao _ cap _ wr hrow
      rw [hzk, hzn] at hfo
      generalize (numK (attF L xx) l l.length).length = nn at hfo
      clear hall HX hzk hzn hown hnl
      go_wp2_with (first
        | (go_at_call 116; (with_reducible refine hfo.mono ?_); rintro _ u1 ⟨rfl, g1⟩; have G2 := gtrans G g1; have R1 := R.keep g1; obtain ⟨r0, r1⟩ := show _ ∧ _ from ⟨R1.at0, R1.at1⟩; have rf := R1.free))
      refine bodyPost_ret (v := .agg #[.bool zk, .int .i64 zn]) (by simp [results, Tryz.results81, go_sem, r0, r1]) rfl ⟨rfl, ?_⟩
      exact gset (gset G2 (by simp) _) (by simp) _

set_option maxRecDepth 100000 in
set_option maxHeartbeats 4000000 in
theorem mention_anyE (op : Int) (E : Envr) (al : Option Addr) (cl : Nat) (item : Int) (be bx : Nat) (L : List Ty) (xx : ByteArray) (w : World) (hf : CloA w be bx L xx) (hl : True) (N : Nst w al evC E.lists) (hE : E.ok) :
    Calls Tryz.prog 51 #[.int .i64 op, envA al cl E, .int .i64 item, cloF be bx] w fun r w' => r = .returned (VA (menV (attF L xx) op E item)) ∧ Below w.heap.size w w' := by
  obtain ⟨a, c, LS, hc⟩ := listOf_any E al cl item w N
  obtain ⟨hok, h88, _⟩ := lstO_ok hE item
  have R0 := Two.new (w.alloc (.cells #[.slice al E.lists.length cl, .int .i64 E.each, .int .i64 E.at_] 34)) (.bool false) (.int .i64 0) 51
  have S0 := (Bk.new w #[.slice al E.lists.length cl, .int .i64 E.each, .int .i64 E.at_] 34).alloc (.cells #[.bool false, .int .i64 0] 51)
  rw [show (w.alloc (.cells #[.slice al E.lists.length cl, .int .i64 E.each, .int .i64 E.at_] 34)).heap.size = w.heap.size + 1 by simp] at R0
  have B0 := galloc (galloc (Below.refl w.heap.size w) (.cells #[.slice al E.lists.length cl, .int .i64 E.each, .int .i64 E.at_] 34)) (.cells #[.bool false, .int .i64 0] 51)
  have q4 : ∀ X, Below w.heap.size w X → ∀ p, Calls Tryz.prog 80 #[cloF be bx, .slice a (lstO E item).length c, .int .i64 p] X fun r w' => r = .returned (VA (sayV (attF L xx) (lstO E item) p)) ∧ Below X.heap.size X w' := fun X G p => readAt_anyE be bx L xx a c (lstO E item) p X (hf.keep G) hl (LS.fl.keep G) h88
  have q5 : ∀ X, Below w.heap.size w X → Calls Tryz.prog 81 #[cloF be bx, .int .i64 op, .slice a (lstO E item).length c] X fun r w' => r = .returned (VA (gatV (attF L xx) op (lstO E item))) ∧ Below X.heap.size X w' := fun X G => cfold_anyE be bx L xx a c (lstO E item) op X (hf.keep G) hl (LS.fl.keep G) h88 hok
  obtain ⟨x, hx⟩ : ∃ x, menV (attF L xx) op E item = x := ⟨_, rfl⟩
  have HX := show Hid (_ = _) from hx
  rw [hx]
  clear hx hok LS hf
  go_enter Tryz.func51, Tryz.ntmps51
  go_wp2
  have y1 : ∀ z : Ext ((w.alloc (.cells #[.slice al E.lists.length cl, .int .i64 E.each, .int .i64 E.at_] 34)).alloc (.cells #[.bool false, .int .i64 0] 51)), Calls Tryz.prog 79 #[envA al cl E, .int .i64 item] z.X (fun e' w'' => e' = .returned (.slice a (lstO E item).length c) ∧ ∃ m : Ext _, w'' = m.X) := fun z => ext_of (hc z.X (gtrans B0 z.h))
  generalize (lstO E item).length = n at *
  generalize hV : (w.alloc (.cells #[.slice al E.lists.length cl, .int .i64 E.each, .int .i64 E.at_] 34)).alloc (.cells #[.bool false, .int .i64 0] 51) = V at *
  clear hV hc
  obtain ⟨s0, s1, s2⟩ := S0.at3
  have p0 := fun z : Ext V => (z.cell _ _ S0.lt).trans s0
  have p1 := fun z : Ext V => (z.cell _ _ S0.lt).trans s1
  have p2 := fun z : Ext V => (z.cell _ _ S0.lt).trans s2
  have hne : Nonempty (Ext V) := ⟨⟨_, Below.refl _ _⟩⟩
  refine wp_region_ext (by kernel_rfl) (by kernel_rfl) ?_
  repeat (go_big_quiet_step (first | (go_at_call 79; with_reducible exact y1 _)))
  refine wpQuiet_nil ?_
  intro _ hw'
  obtain ⟨nx, hw''⟩ := hw'
  subst hw''
  have BX := gtrans B0 nx.h
  have RX := R0.keep nx.h
  obtain ⟨_, t1, t2⟩ := (S0.keep nx.h).at3
  generalize nx.X = X at *
  cases hg : (item == E.each)
  · have hne : item ≠ E.each := by simpa using hg
    by_cases h4 : op = 4
    · have q0 : (op == 4) = true := by simpa using h4
      have e1 : x = sayV (attF L xx) (lstO E item) 0 := by rw [← HX.out]; unfold menV; rw [if_pos h4, if_neg hne]
      obtain ⟨xk, xn⟩ := x
      have hcc := q4 X BX 0
      rw [← e1] at hcc
      clear e1 HX q4 q5
      go_wp2_with (first
        | (go_at_call 80; (with_reducible refine hcc.mono ?_); rintro _ u1 ⟨rfl, g1⟩; have R1 := RX.keep g1; obtain ⟨r0, r1⟩ := show _ ∧ _ from ⟨R1.at0, R1.at1⟩; have rf := R1.free))
      refine bodyPost_ret (v := .agg #[.bool xk, .int .i64 xn]) (by simp [results, Tryz.results51, go_sem, r0, r1]) rfl ⟨rfl, ?_⟩
      exact gset (gset (gtrans BX g1) (by simp) _) (by simp) _
    have q0 : (op == 4) = false := beq_eq_false_iff_ne.2 h4
    by_cases h11 : op = 11
    · have q1 : (op == 11) = true := by simpa using h11
      obtain rfl : x = noV2 := by rw [← HX.out]; unfold menV; rw [if_neg h4, if_pos h11, if_neg hne]
      have r0 := RX.at0
      have r1 := RX.at1
      have rf := RX.free
      clear HX q4 q5
      go_wp2
      refine bodyPost_ret (v := .agg #[.bool false, .int .i64 0]) (by simp [results, Tryz.results51, go_sem, r0, r1]) rfl ⟨rfl, ?_⟩
      first | exact BX | exact gset (gset BX (by simp) _) (by simp) _
    have q1 : (op == 11) = false := beq_eq_false_iff_ne.2 h11
    have e1 : x = gatV (attF L xx) op (lstO E item) := by rw [← HX.out]; unfold menV; rw [if_neg h4, if_neg h11]
    obtain ⟨xk, xn⟩ := x
    have hcc := q5 X BX
    rw [← e1] at hcc
    clear e1 HX q4 q5
    go_wp2_with (first
      | (go_at_call 81; (with_reducible refine hcc.mono ?_); rintro _ u1 ⟨rfl, g1⟩; have R1 := RX.keep g1; obtain ⟨r0, r1⟩ := show _ ∧ _ from ⟨R1.at0, R1.at1⟩; have rf := R1.free))
    refine bodyPost_ret (v := .agg #[.bool xk, .int .i64 xn]) (by simp [results, Tryz.results51, go_sem, r0, r1]) rfl ⟨rfl, ?_⟩
    exact gset (gset (gtrans BX g1) (by simp) _) (by simp) _
  · have hne : item = E.each := by simpa using hg
    by_cases h4 : op = 4
    · have q0 : (op == 4) = true := by simpa using h4
      have e1 : x = sayV (attF L xx) (lstO E item) E.at_ := by rw [← HX.out]; unfold menV; rw [if_pos h4, if_pos hne]
      obtain ⟨xk, xn⟩ := x
      have hcc := q4 X BX E.at_
      rw [← e1] at hcc
      clear e1 HX q4 q5
      go_wp2_with (first
        | (go_at_call 80; (with_reducible refine hcc.mono ?_); rintro _ u1 ⟨rfl, g1⟩; have R1 := RX.keep g1; obtain ⟨r0, r1⟩ := show _ ∧ _ from ⟨R1.at0, R1.at1⟩; have rf := R1.free))
      refine bodyPost_ret (v := .agg #[.bool xk, .int .i64 xn]) (by simp [results, Tryz.results51, go_sem, r0, r1]) rfl ⟨rfl, ?_⟩
      exact gset (gset (gtrans BX g1) (by simp) _) (by simp) _
    have q0 : (op == 4) = false := beq_eq_false_iff_ne.2 h4
    by_cases h11 : op = 11
    · have q1 : (op == 11) = true := by simpa using h11
      obtain ⟨pv, hpv⟩ : ∃ pv, IntKind.i64.wrap (E.at_ - 1) = pv := ⟨_, rfl⟩
      have e1 : x = sayV (attF L xx) (lstO E item) pv := by rw [← HX.out]; unfold menV; rw [if_neg h4, if_pos h11, if_pos hne, hpv]
      obtain ⟨xk, xn⟩ := x
      have hcc := q4 X BX pv
      rw [← e1] at hcc
      clear e1 HX q4 q5
      go_wp2_with (first
        | (go_at_call 80; (with_reducible refine hcc.mono ?_); rintro _ u1 ⟨rfl, g1⟩; have R1 := RX.keep g1; obtain ⟨r0, r1⟩ := show _ ∧ _ from ⟨R1.at0, R1.at1⟩; have rf := R1.free))
      refine bodyPost_ret (v := .agg #[.bool xk, .int .i64 xn]) (by simp [results, Tryz.results51, go_sem, r0, r1]) rfl ⟨rfl, ?_⟩
      exact gset (gset (gtrans BX g1) (by simp) _) (by simp) _
    have q1 : (op == 11) = false := beq_eq_false_iff_ne.2 h11
    have e1 : x = gatV (attF L xx) op (lstO E item) := by rw [← HX.out]; unfold menV; rw [if_neg h4, if_neg h11]
    obtain ⟨xk, xn⟩ := x
    have hcc := q5 X BX
    rw [← e1] at hcc
    clear e1 HX q4 q5
    go_wp2_with (first
      | (go_at_call 81; (with_reducible refine hcc.mono ?_); rintro _ u1 ⟨rfl, g1⟩; have R1 := RX.keep g1; obtain ⟨r0, r1⟩ := show _ ∧ _ from ⟨R1.at0, R1.at1⟩; have rf := R1.free))
    refine bodyPost_ret (v := .agg #[.bool xk, .int .i64 xn]) (by simp [results, Tryz.results51, go_sem, r0, r1]) rfl ⟨rfl, ?_⟩
    exact gset (gset (gtrans BX g1) (by simp) _) (by simp) _

end Go.Proofs.YtglagbedgjkdbaaGreatDoor
namespace Go.Proofs.YtglagbedgjkdbaaGreatDoor
open Go.RowKit Go.BigFrame
set_option linter.unusedVariables false
set_option linter.unusedSimpArgs false

structure Prg where
  code : List Ins
  cols : List (List Int)
structure Prg.ok (p : Prg) : Prop where
  n : p.code.length * 40 ≤ 140737488351232
  c : p.cols.length * 24 ≤ 140737488351232
  k : ∀ j, (p.cols.getD j []).length * 8 ≤ 140737488351232
  i : ∀ j, (p.code.getD j noIn).ok
/-- A program in memory. -/
structure IsPr (w : World) (p : Prg) (ai : Option Addr) (ci : Nat) (ac : Option Addr) (cc : Nat) : Prop where
  f : Flat w ai (fl insC p.code)
  si : Sl ai p.code.length ci
  c : Nst w ac intC p.cols
  sc : Sl ac p.cols.length cc
theorem IsPr.keep {w u : World} {p : Prg} {ai : Option Addr} {ci : Nat} {ac : Option Addr} {cc : Nat} (h : IsPr w p ai ci ac cc) (G : Below w.heap.size w u) : IsPr u p ai ci ac cc := ⟨h.f.keep G, h.si, h.c.keep G, h.sc⟩
abbrev prgA (p : Prg) (ai : Option Addr) (ci : Nat) (ac : Option Addr) (cc : Nat) : Value := .agg #[.slice ai p.code.length ci, .slice ac p.cols.length cc]
/-- An environment in memory. -/
structure IsEnv (w : World) (E : Envr) (al : Option Addr) (cl : Nat) : Prop where
  n : Nst w al evC E.lists
  s : Sl al E.lists.length cl
theorem IsEnv.keep {w u : World} {E : Envr} {al : Option Addr} {cl : Nat} (h : IsEnv w E al cl) (G : Below w.heap.size w u) : IsEnv u E al cl := ⟨h.n.keep G, h.s⟩
/-- The tables that num and code read. -/
structure TbAt (w : World) : Prop where
  t : Tabs w
  n : TabN w
  o : OpAt w
theorem TbAt.keep {w u : World} (h : TbAt w) (G : Below w.heap.size w u) : TbAt u := ⟨h.t.keep G, h.n.keep G, h.o.keep G⟩
theorem nf_val : (Tryz.prog.info? 51).map (fun i => (i.zero, i.size, i.bytes)) = some (some (.agg #[.bool false, .int .i64 0]), 2, 16) := by kernel_rfl
def runV (p : Prg) (E : Envr) : V2 × Int := runW p.code p.cols E 0 []

/-- The machine in memory: its stack, the boxes of program and environment, the result. -/
structure Mach (p : Prg) (E : Envr) (w : World) (ai : Option Addr) (ci : Nat) (ac : Option Addr) (cc : Nat) (al : Option Addr) (cl : Nat) (v : Value) (st : List V2) (wr : World) : Prop where
  own : wr.ownsRow (w.heap.size + 3) 51 2 v st.length (fl valC st)
  pb : Bk wr w.heap.size #[.slice ai p.code.length ci, .slice ac p.cols.length cc] 44
  eb : Bk wr (w.heap.size + 1) #[.slice al E.lists.length cl, .int .i64 E.each, .int .i64 E.at_] 34
  rb : Bk wr (w.heap.size + 2) #[.bool false, .int .i64 0] 51
  g : Below w.heap.size w wr
section
variable {p : Prg} {E : Envr} {w : World} {ai : Option Addr} {ci : Nat} {ac : Option Addr} {cc : Nat} {al : Option Addr} {cl : Nat} {v : Value} {st : List V2} {wr : World}
theorem Mach.keep (h : Mach p E w ai ci ac cc al cl v st wr) {u : World} (G : Below wr.heap.size wr u) : Mach p E w ai ci ac cc al cl v st u := ⟨own_keep h.own G, h.pb.keep G, h.eb.keep G, h.rb.keep G, gtrans h.g G⟩
theorem Mach.grown (h : Mach p E w ai ci ac cc al cl v st wr) {u : World} {v' : Value} {st' : List V2} (O : u.ownsRow (w.heap.size + 3) 51 2 v' st'.length (fl valC st')) (hg : wr.grownBy u v.ownBlock) : Mach p E w ai ci ac cc al cl v' st' u := by
  have z := h.rb.lt
  have q := fun (b : Nat) (hb : b < w.heap.size + 3) => hg.block b (by omega) (fun e => by have := (h.own.lt _ e.symm).1; omega)
  exact ⟨O, (q _ (by omega)).trans h.pb, (q _ (by omega)).trans h.eb, (q _ (by omega)).trans h.rb, h.g.grown hg (by have := h.g.size; omega) (fun r e => by have := (h.own.lt _ e).1; omega)⟩
theorem fl_set2 (st : List V2) (j : Nat) (hj : j < st.length) (x : V2) : fl valC (st.set j x) = ((fl valC st).set (j * 2) (.bool x.1)).set (j * 2 + 1) (.int .i64 x.2) := by
  have e1 := fl_set valC_sz noV2 st j 0 (.bool x.1) (x.1, (st.getD j noV2).2) hj (by omega) rfl
  rw [Nat.add_zero] at e1
  rw [e1]
  have e2 := fl_set valC_sz noV2 (st.set j (x.1, (st.getD j noV2).2)) j 1 (.int .i64 x.2) x (by simpa using hj) (by omega) (by
    rw [List.getD_eq_getElem?_getD, List.getElem?_set_self hj]; rfl)
  rw [e2, List.set_set]
theorem Mach.set {g n cap : Nat} (h : Mach p E w ai ci ac cc al cl (.slice (some ⟨g, 0, none⟩) n cap) st wr) (hn : st.length = n) (j : Nat) (hj : j < n) (x : V2) : Mach p E w ai ci ac cc al cl (.slice (some ⟨g, 0, none⟩) n cap) (st.set j x) ((wr.setCell ⟨g, j * 2, none⟩ (.bool x.1)).setCell ⟨g, j * 2 + 1, none⟩ (.int .i64 x.2)) := by
  subst hn
  obtain ⟨o1, g1⟩ := World.ownsRow.stored h.own (j * 2) (.bool x.1)
  obtain ⟨o2, g2⟩ := World.ownsRow.stored o1 (j * 2 + 1) (.int .i64 x.2)
  refine h.grown (by rw [fl_set2 st j hj x, List.length_set]; exact o2) ⟨g2.os.trans g1.os, g2.tape.trans g1.tape, g2.output.trans g1.output, Nat.le_trans g1.size g2.size, fun k hk hne => (g2.block k (Nat.lt_of_lt_of_le hk g1.size) hne).trans (g1.block k hk hne)⟩
theorem Mach.pop {g n cap : Nat} (h : Mach p E w ai ci ac cc al cl (.slice (some ⟨g, 0, none⟩) (n + 1) cap) st wr) (hn : st.length = n + 1) : Mach p E w ai ci ac cc al cl (.slice (some ⟨g, 0, none⟩) n cap) (st.take n) wr := by
  have hl : (st.take n).length = n := by simp; omega
  have O := h.own
  rw [hn, ← List.take_append_drop n st, fl_app] at O
  refine ⟨?_, h.pb, h.eb, h.rb, h.g⟩
  rw [hl]
  exact ownsRow_pop (by rw [fl_len valC_sz, hl]) O
/-- Where the stack lies. -/
theorem Mach.form (h : Mach p E w ai ci ac cc al cl v st wr) (h0 : 0 < st.length) : ∃ g cap, v = .slice (some ⟨g, 0, none⟩) st.length cap ∧ g < wr.heap.size ∧ w.heap.size + 3 ≤ g ∧ st.length ≤ cap ∧ (∀ o, wr.frozen? ⟨g, o, none⟩ = false) ∧ ∀ j, j < st.length → wr.cell? ⟨g, j * 2, none⟩ = some (.bool (st.getD j noV2).1) ∧ wr.cell? ⟨g, j * 2 + 1, none⟩ = some (.int .i64 (st.getD j noV2).2) := by
  obtain ⟨ao, cap, rfl, hc, _, hh⟩ := own_form h.own
  rcases hh with hh | ⟨g, rfl, hg, hb⟩
  · omega
  · refine ⟨g, cap, rfl, hg, hb, hc, fun o => World.ownsRow.frozenAt h.own o, fun j hj => ⟨?_, ?_⟩⟩
    · rw [World.ownsRow.cellAt h.own _ (by omega)]
      have := fl_at valC_sz noV2 st j 0 hj (by omega)
      rw [Nat.add_zero] at this
      rw [this]; rfl
    · rw [World.ownsRow.cellAt h.own _ (by omega), fl_at valC_sz noV2 st j 1 hj (by omega)]
      rfl
theorem cdfEnd : True := trivial
end
theorem two_newE {w : World} {g : Nat} (hg : g = w.heap.size) (x y : Value) (t : TypeId) (j : Nat) (u : Value) (h : [x, y][j]? = some u) : (w.alloc (.cells #[x, y] t)).cell? ((⟨g, 0, none⟩ : Addr).add j) = some u := by
  subst hg
  rw [Go.WideShapes.add_plain, Nat.zero_add, World.cell?_alloc_new]
  simpa using h
/-- The cells of an instruction of a row. -/
structure InAt (w : World) (g o : Nat) (i : Ins) : Prop where
  c0 : w.cell? ⟨g, o, none⟩ = some (.int .i64 i.code)
  c1 : w.cell? ⟨g, o + 1, none⟩ = some (.int .i64 i.item)
  c2 : w.cell? ⟨g, o + 2, none⟩ = some (.int .i64 i.col)
  c3 : w.cell? ⟨g, o + 3, none⟩ = some (.int .i64 i.n)
  c4 : w.cell? ⟨g, o + 4, none⟩ = some (.int .i64 i.jt)
theorem in_at {w : World} {g o : Nat} {l : List Ins} (h : ∀ j u, (fl insC l)[j]? = some u → w.cell? ⟨g, o + j, none⟩ = some u) (k : Nat) (hk : k < l.length) : InAt w g (o + k * 5) (l.getD k noIn) := by
  have key : ∀ j u, j < 5 → (insC (l.getD k noIn)).toList[j]? = some u → w.cell? ⟨g, o + k * 5 + j, none⟩ = some u := fun j u hj hu => by
    rw [Nat.add_assoc]
    exact h _ _ ((fl_at insC_sz noIn l k j hk hj).trans hu)
  exact ⟨key 0 _ (by omega) rfl, key 1 _ (by omega) rfl, key 2 _ (by omega) rfl, key 3 _ (by omega) rfl, key 4 _ (by omega) rfl⟩
theorem stepP_of {code : List Ins} {cols : List (List Int)} {E : Envr} {p : Nat} {st : List V2} {c it co n jt : Int} (h : code.getD p noIn = ⟨c, it, co, n, jt⟩) : stepP code cols E p st =
  if ¬ (0 < c ∧ c < 27 ∧ ndsI c ≤ st.length) then none
  else if c = 1 then some (p + 1, st ++ [(true, n)])
  else if c = 4 then some (p + 1, st ++ [(true, ((lstO E it).length : Int))])
  else if c < 10 then (if 0 ≤ co ∧ co < (cols.length : Int) then some (p + 1, st ++ [menV (plcO (cols.getD co.toNat [])) (opI c) E it]) else none)
  else if c = 10 then some (p + 1, st.set (st.length - 1) (negW (topV st)))
  else if c = 11 then some (p + 1, st.set (st.length - 1) (notW (topV st)))
  else if 25 ≤ c then (if (p : Int) < jt ∧ jt ≤ (code.length : Int) then (if jmpB c (topV st) = true then some (jt.toNat, st) else some (p + 1, st)) else none)
  else some (p + 1, (st.set (st.length - 2) (applyV (c + 2) (sndV st) (topV st))).take (st.length - 1)) := by
  unfold stepP
  rw [h]
structure RunL (p : Prg) (E : Envr) (R : V2 × Int) (w : World) (ai : Option Addr) (ci : Nat) (ac : Option Addr) (cc : Nat) (al : Option Addr) (cl : Nat) (v i : Value) (wr : World) : Prop where
  ex : ∃ (k : Nat) (st : List V2), k ≤ p.code.length ∧ i = .int .i64 k ∧ st.length ≤ k ∧ fitS st ∧ runW p.code p.cols E k st = R ∧ Mach p E w ai ci ac cc al cl v st wr

end Go.Proofs.YtglagbedgjkdbaaGreatDoor
