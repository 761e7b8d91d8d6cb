/- What Eval reads: places by the schema's attribute. And what goes with it: 4 texts in one. -/
import Derived.Test.YtnolbpekdikamaaGreatDoorJa05
import Derived.ChangeArms
import Derived.ChangeSame
import Derived.SizedLaws
import Derived.Lib.SmallJoins
import Derived.WideShapes
import Derived.Deep.RegionLaw
import Derived.Deep.AppendLies
import Derived.ChangeSlices
namespace Go.Proofs.YtnolbpekdikamaaGreatDoor
open Go.RowKit Go.BigFrame
set_option linter.unusedVariables false
set_option linter.unusedSimpArgs false

abbrev ptrE (b : Nat) : Value := .pointer (some ⟨b, 0, none⟩)
/-- The places of an attribute, by the schema. -/
abbrev cloF (be bx : Nat) : Value := .func (.func 96) #[] #[ptrE be, ptrE bx]
def attF (L : List Ty) (x : ByteArray) : Int → Int := fun t => attrI L t x
structure CloA (w : World) (be bx : Nat) (L : List Ty) (x : ByteArray) : Prop where
  ex : ∃ pe sa sc, w.cell? ⟨be, 0, none⟩ = some (ptrE pe) ∧ w.cell? ⟨pe, 0, none⟩ = some (.slice sa L.length sc) ∧ w.cell? ⟨bx, 0, none⟩ = some (.string x) ∧ IsTypes w sa L.length L
theorem CloA.keep {w u : World} {be bx : Nat} {L : List Ty} {x : ByteArray} (h : CloA w be bx L x) (G : Below w.heap.size w u) : CloA u be bx L x := by
  obtain ⟨pe, sa, sc, h0, h1, h2, A⟩ := h.ex
  exact ⟨pe, sa, sc, (G.cell (p := ⟨_, _, none⟩) (lt_of_cell h0)).trans h0, (G.cell (p := ⟨_, _, none⟩) (lt_of_cell h1)).trans h1, (G.cell (p := ⟨_, _, none⟩) (lt_of_cell h2)).trans h2, A.keep G⟩
set_option maxRecDepth 100000 in
set_option maxHeartbeats 4000000 in
theorem clo_any (be bx : Nat) (L : List Ty) (xx : ByteArray) (typ : Int) (w : World) (h : CloA w be bx L xx) :
    Calls Tryz.prog 96 #[.int .i64 typ, ptrE be, ptrE bx] w fun e w' => e = .returned (.int .i64 (attF L xx typ)) ∧ Below w.heap.size w w' := by
  obtain ⟨pe, sa, sc, h0, h1, h2, A⟩ := h.ex
  have ca : ∀ z : Ext w, Calls Tryz.prog 89 #[.agg #[.slice sa L.length sc], .int .i64 typ, .string xx] z.X (fun e' w'' => e' = .returned (.int .i64 (attF L xx typ)) ∧ ∃ m : Ext w, w'' = m.X) := fun z => ext_of (attrOf_any sa L.length sc L typ xx z.X (A.keep z.h))
  generalize attF L xx typ = r at ca ⊢
  have p0 := fun z : Ext w => (z.cell _ _ (lt_of_cell h0)).trans h0
  have p1 := fun z : Ext w => (z.cell _ _ (lt_of_cell h1)).trans h1
  have p2 := fun z : Ext w => (z.cell _ _ (lt_of_cell h2)).trans h2
  have hne : Nonempty (Ext w) := ⟨⟨_, Below.refl _ _⟩⟩
  go_enter Tryz.func96, Tryz.ntmps96
  go_upto_region 1 with fail
  refine wp_region_ext (by kernel_rfl) (by kernel_rfl) ?_
  repeat (go_big_quiet_step (first | (go_at_call 89; with_reducible exact ca _)))
  refine wpQuiet_nil ?_
  intro _ hw'
  obtain ⟨nx, hw''⟩ := hw'
  subst hw''
  have B := nx.h
  generalize nx.X = X at *
  go_wp2
  go_ret
  exact ⟨rfl, B⟩
theorem bk_ev {w : World} {b : Nat} {e : Ev} {t : TypeId} (h : Bk w b (evC e) t) : w.cell? ⟨b, 0, none⟩ = some (.int .i64 e.ts) ∧ w.cell? ⟨b, 1, none⟩ = some (.int .u64 e.id) ∧ w.cell? ⟨b, 2, none⟩ = some (.int .i64 e.typ) ∧ w.cell? ⟨b, 3, none⟩ = some (.int .i64 e.a0) ∧ w.cell? ⟨b, 4, none⟩ = some (.int .i64 e.a1) ∧ w.cell? ⟨b, 5, none⟩ = some (.int .i64 e.a2) ∧ w.cell? ⟨b, 6, none⟩ = some (.int .i64 e.a3) ∧ w.cell? ⟨b, 7, none⟩ = some (.int .i64 e.a4) ∧ w.cell? ⟨b, 8, none⟩ = some (.int .i64 e.a5) ∧ w.cell? ⟨b, 9, none⟩ = some (.int .i64 e.a6) ∧ w.cell? ⟨b, 10, none⟩ = some (.int .i64 e.a7) :=
  ⟨cell_of_row w b 0 _ _ _ h, cell_of_row w b 1 _ _ _ h, cell_of_row w b 2 _ _ _ h, cell_of_row w b 3 _ _ _ h, cell_of_row w b 4 _ _ _ h, cell_of_row w b 5 _ _ _ h, cell_of_row w b 6 _ _ _ h, cell_of_row w b 7 _ _ _ h, cell_of_row w b 8 _ _ _ h, cell_of_row w b 9 _ _ _ h, cell_of_row w b 10 _ _ _ h⟩

set_option maxRecDepth 100000 in
set_option maxHeartbeats 2000000 in
theorem read_anyE (be bx : Nat) (L : List Ty) (xx : ByteArray) (e : Ev) (w : World) (hf : CloA w be bx L xx) (hl : True) :
    Calls Tryz.prog 75 #[cloF be bx, .agg (evC e)] w fun r w' => r = .returned (VA (rdE (attF L xx) e)) ∧ Below w.heap.size w w' := by
  have B := galloc (galloc (Below.refl w.heap.size w) (.cells (evC e) 75)) (.cells #[.bool false, .int .i64 0] 51)
  have hp := clo_any be bx L xx e.typ _ (hf.keep B)
  have EV := (Bk.new w (evC e) 75).alloc (.cells #[.bool false, .int .i64 0] 51)
  have RV := Two.new (w.alloc (.cells (evC e) 75)) (.bool false) (.int .i64 0) 51
  rw [show (w.alloc (.cells (evC e) 75)).heap.size = w.heap.size + 1 by simp] at RV
  unfold rdE
  generalize attF L xx e.typ = pl at hp ⊢
  by_cases h2 : pl = -2
  · subst h2
    rw [show rdP (-2) e = (true, e.ts) from rfl]
    go_enter Tryz.func75, Tryz.ntmps75
    unfold evC at B hp ⊢
    go_wp2_with (first
      | (go_at_call 96; (with_reducible refine hp.mono ?_); rintro _ w0 ⟨rfl, g0⟩; have B1 := gtrans B g0; obtain ⟨x0, x1, x2, x3, x4, x5, x6, x7, x8, x9, x10⟩ := bk_ev (EV.keep g0); obtain ⟨rr0, rr1⟩ := show _ ∧ _ from ⟨(RV.keep g0).at0, (RV.keep g0).at1⟩; have rrf := (RV.keep g0).free)
      | (go_at_call 26; (with_reducible refine (cknown_any _ _).mono ?_); rintro _ w1 ⟨rfl, g1⟩; have B2 := gtrans B1 g1; obtain ⟨r0, r1⟩ := show _ ∧ _ from ⟨((RV.keep g0).keep g1).at0, ((RV.keep g0).keep g1).at1⟩; have rf := ((RV.keep g0).keep g1).free))
    refine bodyPost_ret (v := .agg #[.bool true, .int .i64 e.ts]) (by simp [results, Tryz.results75, go_sem, r0, r1]) rfl ⟨rfl, ?_⟩
    exact gset (gset B2 (by simp) _) (by simp) _
  have q2 : (pl == -2) = false := beq_eq_false_iff_ne.2 h2
  by_cases h3 : 0 ≤ pl ∧ pl < 8
  · obtain ⟨j, rfl⟩ : ∃ j : Nat, pl = j := ⟨pl.toNat, by omega⟩
    have hj : j < 8 := by omega
    obtain ⟨h30, h31⟩ := h3
    have e1 : rdP (j : Int) e = (true, e.at j) := by unfold rdP; rw [if_neg h2, if_pos ⟨h30, h31⟩]; rfl
    rw [e1]
    clear h2 e1 h30 h31
    rcases (show j = 0 ∨ j = 1 ∨ j = 2 ∨ j = 3 ∨ j = 4 ∨ j = 5 ∨ j = 6 ∨ j = 7 from by omega) with rfl | rfl | rfl | rfl | rfl | rfl | rfl | rfl
    all_goals
      go_enter Tryz.func75, Tryz.ntmps75
      unfold evC at B hp ⊢
      go_wp2_with (first
        | (go_at_call 96; (with_reducible refine hp.mono ?_); rintro _ w0 ⟨rfl, g0⟩; have B1 := gtrans B g0; obtain ⟨x0, x1, x2, x3, x4, x5, x6, x7, x8, x9, x10⟩ := bk_ev (EV.keep g0); obtain ⟨rr0, rr1⟩ := show _ ∧ _ from ⟨(RV.keep g0).at0, (RV.keep g0).at1⟩; have rrf := (RV.keep g0).free)
        | (go_at_call 26; (with_reducible refine (cknown_any _ _).mono ?_); rintro _ w1 ⟨rfl, g1⟩; have B2 := gtrans B1 g1; obtain ⟨r0, r1⟩ := show _ ∧ _ from ⟨((RV.keep g0).keep g1).at0, ((RV.keep g0).keep g1).at1⟩; have rf := ((RV.keep g0).keep g1).free))
      refine bodyPost_ret (v := .agg #[.bool true, .int .i64 _]) (by simp [results, Tryz.results75, go_sem, r0, r1]; first | rfl | done) rfl ⟨rfl, ?_⟩
      exact gset (gset B2 (by simp) _) (by simp) _
  · have e1 : rdP pl e = noV2 := by unfold rdP; rw [if_neg h2, if_neg h3]
    rw [e1]
    by_cases h4 : 0 ≤ pl
    · have h5 : ¬ pl < 8 := fun h => h3 ⟨h4, h⟩
      go_enter Tryz.func75, Tryz.ntmps75
      unfold evC at B hp ⊢
      clear h2 e1 h3
      go_wp2_with (first
        | (go_at_call 96; (with_reducible refine hp.mono ?_); rintro _ w0 ⟨rfl, g0⟩; have B1 := gtrans B g0; obtain ⟨x0, x1, x2, x3, x4, x5, x6, x7, x8, x9, x10⟩ := bk_ev (EV.keep g0); obtain ⟨rr0, rr1⟩ := show _ ∧ _ from ⟨(RV.keep g0).at0, (RV.keep g0).at1⟩; have rrf := (RV.keep g0).free))
      refine bodyPost_ret (v := .agg #[.bool false, .int .i64 0]) (by simp [results, Tryz.results75, go_sem, rr0, rr1]) rfl ⟨rfl, ?_⟩
      first | exact B1 | exact gset (gset B1 (by simp) _) (by simp) _
    · go_enter Tryz.func75, Tryz.ntmps75
      unfold evC at B hp ⊢
      clear h2 e1 h3
      go_wp2_with (first
        | (go_at_call 96; (with_reducible refine hp.mono ?_); rintro _ w0 ⟨rfl, g0⟩; have B1 := gtrans B g0; obtain ⟨x0, x1, x2, x3, x4, x5, x6, x7, x8, x9, x10⟩ := bk_ev (EV.keep g0); obtain ⟨rr0, rr1⟩ := show _ ∧ _ from ⟨(RV.keep g0).at0, (RV.keep g0).at1⟩; have rrf := (RV.keep g0).free))
      refine bodyPost_ret (v := .agg #[.bool false, .int .i64 0]) (by simp [results, Tryz.results75, go_sem, rr0, rr1]) rfl ⟨rfl, ?_⟩
      first | exact B1 | exact gset (gset B1 (by simp) _) (by simp) _

set_option maxRecDepth 100000 in
set_option maxHeartbeats 2000000 in
theorem readAt_anyE (be bx : Nat) (L : List Ty) (xx : ByteArray) (a : Option Addr) (c : Nat) (l : List Ev) (p : Int) (w : World) (hf : CloA w be bx L xx) (hl : True) (hA : Flat w a (fl evC l)) (hn : l.length * 88 ≤ 140737488351232) :
    Calls Tryz.prog 50 #[cloF be bx, .slice a l.length c, .int .i64 p] w fun r w' => r = .returned (VA (sayV (attF L xx) l p)) ∧ Below w.heap.size w w' := by
  have B := galloc (Below.refl w.heap.size w) (.cells #[.bool false, .int .i64 0] 51)
  by_cases h0 : p < 0
  · rw [show sayV (attF L xx) l p = noV2 from if_pos (.inl h0)]
    go_enter Tryz.func50, Tryz.ntmps50
    go_wp2
    exact bodyPost_ret (v := .agg #[.bool false, .int .i64 0]) (by simp [results, Tryz.results50, go_sem]) rfl ⟨rfl, by first | exact B | exact gset (gset B (by simp) _) (by simp) _⟩
  by_cases h1 : (l.length : Int) ≤ p
  · rw [show sayV (attF L xx) l p = noV2 from if_pos (.inr h1)]
    go_enter Tryz.func50, Tryz.ntmps50
    go_wp2
    exact bodyPost_ret (v := .agg #[.bool false, .int .i64 0]) (by simp [results, Tryz.results50, go_sem]) rfl ⟨rfl, by first | exact B | exact gset (gset B (by simp) _) (by simp) _⟩
  obtain ⟨k, rfl⟩ : ∃ k : Nat, p = k := ⟨p.toNat, by omega⟩
  have hk : k < l.length := by omega
  have hki : (k : Int) < (l.length : Int) := by omega
  have e1 : sayV (attF L xx) l (k : Int) = rdE (attF L xx) (l.getD k zeroE) := if_neg (by omega)
  rw [e1]
  obtain ⟨g, o, rfl, hg, hcc⟩ := hA.form (by rw [fl_len evC_sz]; omega)
  have A := ev_at hcc k hk
  generalize l.getD k zeroE = ev at A ⊢
  have hr := read_anyE be bx L xx ev _ (hf.keep B) hl
  obtain ⟨c0, c1, c2, c3, c4, c5, c6, c7, c8, c9, c10⟩ := A
  generalize rdE (attF L xx) ev = x at hr ⊢
  unfold evC at hr
  clear hcc hA e1
  go_enter Tryz.func50, Tryz.ntmps50
  go_wp2_with (first
    | (go_at_call 75; (with_reducible refine hr.mono ?_); rintro _ w1 ⟨rfl, g1⟩; have B2 := gtrans B g1; obtain ⟨hc0, hf0⟩ := bcell g1))
  refine bodyPost_ret (v := VA x) (by simp [results, Tryz.results50, go_sem, hc0]) rfl ⟨rfl, ?_⟩
  exact gset (gset B2 (by simp) _) (by simp) _

set_option maxRecDepth 100000 in
set_option maxHeartbeats 4000000 in
theorem cfold_anyE (be bx : Nat) (L : List Ty) (xx : ByteArray) (a : Option Addr) (c : Nat) (l : List Ev) (op : Int) (w : World) (hf : CloA w be bx L xx) (hl : True) (hA : Flat w a (fl evC l)) (hn : l.length * 88 ≤ 140737488351232) (hE : evsOk l) :
    Calls Tryz.prog 51 #[cloF be bx, .int .i64 op, .slice a l.length c] w fun r w' => r = .returned (VA (gatV (attF L xx) op l)) ∧ Below w.heap.size w w' := by
  obtain ⟨i0, ti, tz0, tz1, tz2⟩ := nf_info nf_i64
  obtain ⟨M, hM, hmk⟩ := run_make_cap (P := Tryz.prog) 133 2 Tryz.underlying133 nf_i64 l.length (by omega) (by omega)
  have B0 := galloc (galloc (Below.refl w.heap.size w) (.cells #[.bool false, .int .i64 0] 51)) (.cells M 2)
  have R0 := (Two.new w (.bool false) (.int .i64 0) 51).alloc (.cells M 2)
  have O0 : ((w.alloc (.cells #[.bool false, .int .i64 0] 51)).alloc (.cells M 2)).ownsRow (w.heap.size + 1) 2 1 (.slice (some ⟨w.heap.size + 1, 0, none⟩) 0 l.length) 0 [] := by
    have := World.ownsRow_made (base := w.heap.size + 1) (e := 2) (size := 1) (w.alloc (.cells #[.bool false, .int .i64 0] 51)) M l.length (by simp) (by unfold maxLen; omega) hM
    simpa using this
  generalize hx : gatV (attF L xx) op l = x
  obtain ⟨zk, zn⟩ := x
  have HX := show Hid (_ = _) from hx
  clear hx
  go_enter Tryz.func51, Tryz.ntmps51
  go_wp2
  generalize (w.alloc (.cells #[.bool false, .int .i64 0] 51)).alloc (.cells M 2) = Z at *
  go_loopw [7, 16] (fun v i wr => FoldL (attF L xx) l w v i wr) (fun _ i _ => l.length - (intOf i).toNat)
  case atStart => exact ⟨⟨0, Nat.zero_le _, rfl, fun j hj => absurd hj (Nat.not_lt_zero _), O0, R0, B0⟩⟩
  case round =>
    clear O0 R0 B0 hmk
    obtain ⟨⟨k, hk, rfl, hall, hown, R, G⟩⟩ := hrel
    have zG := G.size
    have zR := R.lt
    by_cases hlt : k < l.length
    · have hki : (k : Int) < (l.length : Int) := by omega
      obtain ⟨g, o, rfl, hg, hcc⟩ := (hA.keep G).form (by rw [fl_len evC_sz]; omega)
      have A := ev_at hcc k hlt
      obtain ⟨ev, hev⟩ : ∃ ev, l.getD k zeroE = ev := ⟨_, rfl⟩
      rw [hev] at A
      have HEV := show Hid (_ = _) from hev
      have hr := read_anyE be bx L xx ev _ ((hf.keep G).keep (galloc (Below.refl wr.heap.size wr) (.cells (evC ev) 75))) hl
      obtain ⟨⟨xk, xn⟩, hxx⟩ : ∃ x, rdE (attF L xx) ev = x := ⟨_, rfl⟩
      rw [hxx] at hr
      have HXX := show Hid (_ = _) from hxx
      have hnl := numK_len (attF L xx) l k hk
      have ge := galloc (Below.refl wr.heap.size wr) (.cells (evC ev) 75)
      unfold evC at hr ge
      obtain ⟨c0, c1, c2, c3, c4, c5, c6, c7, c8, c9, c10⟩ := A
      clear hcc hxx hev
      cases xk
      · go_wp2_with (first
          | (go_at_call 75; (with_reducible refine hr.mono ?_); rintro _ u1 ⟨rfl, g1⟩; have G1 := gtrans ge g1; have G2 := gtrans G G1; obtain ⟨r0, r1⟩ := show _ ∧ _ from ⟨((R.keep G1).alloc (.cells #[.bool false, .int .i64 xn] 51)).at0, ((R.keep G1).alloc (.cells #[.bool false, .int .i64 xn] 51)).at1⟩; have rf := ((R.keep G1).alloc (.cells #[.bool false, .int .i64 xn] 51)).free))
        obtain ⟨rfl, rfl⟩ : zk = false ∧ zn = 0 := Prod.mk.inj (HX.out.symm.trans (gat_no hlt (by rw [HEV.out, HXX.out])))
        go_wp2
        refine bodyPost_ret (v := .agg #[.bool false, .int .i64 0]) (by simp [results, Tryz.results51, go_sem, r0, r1]) rfl ⟨rfl, ?_⟩
        first | exact galloc G2 _ | exact gset (gset (galloc G2 _) (by simp) _) (by simp) _
      · go_wp2_with (first
          | (go_at_call 75; (with_reducible refine hr.mono ?_); rintro _ u1 ⟨rfl, g1⟩; have G1 := gtrans ge g1; have G2 := gtrans G G1; have Ou := (own_keep hown G1).alloc (.cells #[.bool true, .int .i64 xn] 51))
          | (at_builtin; refine wpList_append_own _ rfl (.tmp 27) (.tmp 30) 133 rfl (w.heap.size + 1) 2 i0 (.int .i64 0) 1 8 Tryz.underlying133 ti tz0 tz1 tz2 rfl (by decide) _ _ _ rfl (Ou.alloc _) ⟨u1.heap.size + 1, 0, none⟩ 1 1 [.int .i64 xn] rfl rfl (one_newE (by simp) _ _) (fun u hu => by simp at hu; subst hu; rfl) ?c3 ?c4 ?c5 ?_))
        case c3 => unfold maxLen; omega
        case c4 => omega
        case c5 => have := G2.size; simp; omega
        intro v' w1 hown' hgrow _
        have e := numK_succ (attF L xx) l k hlt
        rw [HEV.out, HXX.out] at e
        have hown2 : w1.ownsRow (w.heap.size + 1) 2 1 v' (numK (attF L xx) l (k + 1)).length ((numK (attF L xx) l (k + 1)).map (Value.int .i64)) := by rw [e]; simpa [hnl] using hown'
        have q := hgrow.block w.heap.size (by have := G2.size; simp; omega) (fun e => by have := (Ou.lt _ e.symm).1; omega)
        have R2 : Two w1 w.heap.size (.bool false) (.int .i64 0) 51 := q.trans (((R.keep G1).alloc (.cells #[.bool true, .int .i64 xn] 51)).alloc _)
        have Gw : Below w.heap.size w w1 := (galloc (galloc G2 (.cells #[.bool true, .int .i64 xn] 51)) _).grown hgrow (by have := G2.size; simp; omega) (fun r e => by have := (Ou.lt _ e).1; omega)
        have hall2 : ∀ j, j < k + 1 → (rdE (attF L xx) (l.getD j zeroE)).1 = true := fun j hj => by
          by_cases hjk : j < k
          · exact hall j hjk
          · obtain rfl : j = k := by omega
            rw [HEV.out, HXX.out]
        have fin : FoldL (attF L xx) l w v' (.int .i64 ((k : Int) + 1)) w1 := ⟨⟨k + 1, by omega, by go_num, hall2, hown2, R2, Gw⟩⟩
        clear hown' hgrow hown2 R2 Gw hall2 q e Ou hown R hall hr c0 c1 c2 c3 c4 c5 c6 c7 c8 c9 c10
        go_wp2
        go_roundw
        case rel => exact fin
        case measure => simp [intOf]; omega
    · obtain rfl : k = l.length := by omega
      obtain ⟨hzk, hzn⟩ := Prod.mk.inj ((gat_yes hall).symm.trans HX.out)
      have hnl := numK_len (attF L xx) l l.length (Nat.le_refl _)
      obtain ⟨ao, cap, rfl, hrow, _, _⟩ := isRow_own hown (numK_fits hE _ _)
      have hfo := fold_any op ao _ cap _ wr hrow
      rw [hzk, hzn] at hfo
      generalize (numK (attF L xx) l l.length).length = nn at hfo
      clear hall HX hzk hzn hown hnl
      go_wp2_with (first
        | (go_at_call 76; (with_reducible refine hfo.mono ?_); rintro _ u1 ⟨rfl, g1⟩; have G2 := gtrans G g1; have R1 := R.keep g1; obtain ⟨r0, r1⟩ := show _ ∧ _ from ⟨R1.at0, R1.at1⟩; have rf := R1.free))
      refine bodyPost_ret (v := .agg #[.bool zk, .int .i64 zn]) (by simp [results, Tryz.results51, go_sem, r0, r1]) rfl ⟨rfl, ?_⟩
      exact gset (gset G2 (by simp) _) (by simp) _

set_option maxRecDepth 100000 in
set_option maxHeartbeats 4000000 in
theorem mention_anyE (op : Int) (E : Envr) (al : Option Addr) (cl : Nat) (item : Int) (be bx : Nat) (L : List Ty) (xx : ByteArray) (w : World) (hf : CloA w be bx L xx) (hl : True) (N : Nst w al evC E.lists) (hE : E.ok) :
    Calls Tryz.prog 28 #[.int .i64 op, envA al cl E, .int .i64 item, cloF be bx] w fun r w' => r = .returned (VA (menV (attF L xx) op E item)) ∧ Below w.heap.size w w' := by
  obtain ⟨a, c, LS, hc⟩ := listOf_any E al cl item w N
  obtain ⟨hok, h88, _⟩ := lstO_ok hE item
  have R0 := Two.new (w.alloc (.cells #[.slice al E.lists.length cl, .int .i64 E.each, .int .i64 E.at_] 34)) (.bool false) (.int .i64 0) 51
  have S0 := (Bk.new w #[.slice al E.lists.length cl, .int .i64 E.each, .int .i64 E.at_] 34).alloc (.cells #[.bool false, .int .i64 0] 51)
  rw [show (w.alloc (.cells #[.slice al E.lists.length cl, .int .i64 E.each, .int .i64 E.at_] 34)).heap.size = w.heap.size + 1 by simp] at R0
  have B0 := galloc (galloc (Below.refl w.heap.size w) (.cells #[.slice al E.lists.length cl, .int .i64 E.each, .int .i64 E.at_] 34)) (.cells #[.bool false, .int .i64 0] 51)
  have q4 : ∀ X, Below w.heap.size w X → ∀ p, Calls Tryz.prog 50 #[cloF be bx, .slice a (lstO E item).length c, .int .i64 p] X fun r w' => r = .returned (VA (sayV (attF L xx) (lstO E item) p)) ∧ Below X.heap.size X w' := fun X G p => readAt_anyE be bx L xx a c (lstO E item) p X (hf.keep G) hl (LS.fl.keep G) h88
  have q5 : ∀ X, Below w.heap.size w X → Calls Tryz.prog 51 #[cloF be bx, .int .i64 op, .slice a (lstO E item).length c] X fun r w' => r = .returned (VA (gatV (attF L xx) op (lstO E item))) ∧ Below X.heap.size X w' := fun X G => cfold_anyE be bx L xx a c (lstO E item) op X (hf.keep G) hl (LS.fl.keep G) h88 hok
  obtain ⟨x, hx⟩ : ∃ x, menV (attF L xx) op E item = x := ⟨_, rfl⟩
  have HX := show Hid (_ = _) from hx
  rw [hx]
  clear hx hok LS hf
  go_enter Tryz.func28, Tryz.ntmps28
  go_wp2
  have y1 : ∀ z : Ext ((w.alloc (.cells #[.slice al E.lists.length cl, .int .i64 E.each, .int .i64 E.at_] 34)).alloc (.cells #[.bool false, .int .i64 0] 51)), Calls Tryz.prog 49 #[envA al cl E, .int .i64 item] z.X (fun e' w'' => e' = .returned (.slice a (lstO E item).length c) ∧ ∃ m : Ext _, w'' = m.X) := fun z => ext_of (hc z.X (gtrans B0 z.h))
  generalize (lstO E item).length = n at *
  generalize hV : (w.alloc (.cells #[.slice al E.lists.length cl, .int .i64 E.each, .int .i64 E.at_] 34)).alloc (.cells #[.bool false, .int .i64 0] 51) = V at *
  clear hV hc
  obtain ⟨s0, s1, s2⟩ := S0.at3
  have p0 := fun z : Ext V => (z.cell _ _ S0.lt).trans s0
  have p1 := fun z : Ext V => (z.cell _ _ S0.lt).trans s1
  have p2 := fun z : Ext V => (z.cell _ _ S0.lt).trans s2
  have hne : Nonempty (Ext V) := ⟨⟨_, Below.refl _ _⟩⟩
  refine wp_region_ext (by kernel_rfl) (by kernel_rfl) ?_
  repeat (go_big_quiet_step (first | (go_at_call 49; with_reducible exact y1 _)))
  refine wpQuiet_nil ?_
  intro _ hw'
  obtain ⟨nx, hw''⟩ := hw'
  subst hw''
  have BX := gtrans B0 nx.h
  have RX := R0.keep nx.h
  obtain ⟨_, t1, t2⟩ := (S0.keep nx.h).at3
  generalize nx.X = X at *
  cases hg : (item == E.each)
  · have hne : item ≠ E.each := by simpa using hg
    by_cases h4 : op = 4
    · have q0 : (op == 4) = true := by simpa using h4
      have e1 : x = sayV (attF L xx) (lstO E item) 0 := by rw [← HX.out]; unfold menV; rw [if_pos h4, if_neg hne]
      obtain ⟨xk, xn⟩ := x
      have hcc := q4 X BX 0
      rw [← e1] at hcc
      clear e1 HX q4 q5
      go_wp2_with (first
        | (go_at_call 50; (with_reducible refine hcc.mono ?_); rintro _ u1 ⟨rfl, g1⟩; have R1 := RX.keep g1; obtain ⟨r0, r1⟩ := show _ ∧ _ from ⟨R1.at0, R1.at1⟩; have rf := R1.free))
      refine bodyPost_ret (v := .agg #[.bool xk, .int .i64 xn]) (by simp [results, Tryz.results28, go_sem, r0, r1]) rfl ⟨rfl, ?_⟩
      exact gset (gset (gtrans BX g1) (by simp) _) (by simp) _
    have q0 : (op == 4) = false := beq_eq_false_iff_ne.2 h4
    by_cases h11 : op = 11
    · have q1 : (op == 11) = true := by simpa using h11
      obtain rfl : x = noV2 := by rw [← HX.out]; unfold menV; rw [if_neg h4, if_pos h11, if_neg hne]
      have r0 := RX.at0
      have r1 := RX.at1
      have rf := RX.free
      clear HX q4 q5
      go_wp2
      refine bodyPost_ret (v := .agg #[.bool false, .int .i64 0]) (by simp [results, Tryz.results28, go_sem, r0, r1]) rfl ⟨rfl, ?_⟩
      first | exact BX | exact gset (gset BX (by simp) _) (by simp) _
    have q1 : (op == 11) = false := beq_eq_false_iff_ne.2 h11
    have e1 : x = gatV (attF L xx) op (lstO E item) := by rw [← HX.out]; unfold menV; rw [if_neg h4, if_neg h11]
    obtain ⟨xk, xn⟩ := x
    have hcc := q5 X BX
    rw [← e1] at hcc
    clear e1 HX q4 q5
    go_wp2_with (first
      | (go_at_call 51; (with_reducible refine hcc.mono ?_); rintro _ u1 ⟨rfl, g1⟩; have R1 := RX.keep g1; obtain ⟨r0, r1⟩ := show _ ∧ _ from ⟨R1.at0, R1.at1⟩; have rf := R1.free))
    refine bodyPost_ret (v := .agg #[.bool xk, .int .i64 xn]) (by simp [results, Tryz.results28, go_sem, r0, r1]) rfl ⟨rfl, ?_⟩
    exact gset (gset (gtrans BX g1) (by simp) _) (by simp) _
  · have hne : item = E.each := by simpa using hg
    by_cases h4 : op = 4
    · have q0 : (op == 4) = true := by simpa using h4
      have e1 : x = sayV (attF L xx) (lstO E item) E.at_ := by rw [← HX.out]; unfold menV; rw [if_pos h4, if_pos hne]
      obtain ⟨xk, xn⟩ := x
      have hcc := q4 X BX E.at_
      rw [← e1] at hcc
      clear e1 HX q4 q5
      go_wp2_with (first
        | (go_at_call 50; (with_reducible refine hcc.mono ?_); rintro _ u1 ⟨rfl, g1⟩; have R1 := RX.keep g1; obtain ⟨r0, r1⟩ := show _ ∧ _ from ⟨R1.at0, R1.at1⟩; have rf := R1.free))
      refine bodyPost_ret (v := .agg #[.bool xk, .int .i64 xn]) (by simp [results, Tryz.results28, go_sem, r0, r1]) rfl ⟨rfl, ?_⟩
      exact gset (gset (gtrans BX g1) (by simp) _) (by simp) _
    have q0 : (op == 4) = false := beq_eq_false_iff_ne.2 h4
    by_cases h11 : op = 11
    · have q1 : (op == 11) = true := by simpa using h11
      obtain ⟨pv, hpv⟩ : ∃ pv, IntKind.i64.wrap (E.at_ - 1) = pv := ⟨_, rfl⟩
      have e1 : x = sayV (attF L xx) (lstO E item) pv := by rw [← HX.out]; unfold menV; rw [if_neg h4, if_pos h11, if_pos hne, hpv]
      obtain ⟨xk, xn⟩ := x
      have hcc := q4 X BX pv
      rw [← e1] at hcc
      clear e1 HX q4 q5
      go_wp2_with (first
        | (go_at_call 50; (with_reducible refine hcc.mono ?_); rintro _ u1 ⟨rfl, g1⟩; have R1 := RX.keep g1; obtain ⟨r0, r1⟩ := show _ ∧ _ from ⟨R1.at0, R1.at1⟩; have rf := R1.free))
      refine bodyPost_ret (v := .agg #[.bool xk, .int .i64 xn]) (by simp [results, Tryz.results28, go_sem, r0, r1]) rfl ⟨rfl, ?_⟩
      exact gset (gset (gtrans BX g1) (by simp) _) (by simp) _
    have q1 : (op == 11) = false := beq_eq_false_iff_ne.2 h11
    have e1 : x = gatV (attF L xx) op (lstO E item) := by rw [← HX.out]; unfold menV; rw [if_neg h4, if_neg h11]
    obtain ⟨xk, xn⟩ := x
    have hcc := q5 X BX
    rw [← e1] at hcc
    clear e1 HX q4 q5
    go_wp2_with (first
      | (go_at_call 51; (with_reducible refine hcc.mono ?_); rintro _ u1 ⟨rfl, g1⟩; have R1 := RX.keep g1; obtain ⟨r0, r1⟩ := show _ ∧ _ from ⟨R1.at0, R1.at1⟩; have rf := R1.free))
    refine bodyPost_ret (v := .agg #[.bool xk, .int .i64 xn]) (by simp [results, Tryz.results28, go_sem, r0, r1]) rfl ⟨rfl, ?_⟩
    exact gset (gset (gtrans BX g1) (by simp) _) (by simp) _

end Go.Proofs.YtnolbpekdikamaaGreatDoor
namespace Go.Proofs.YtnolbpekdikamaaGreatDoor
open Go.ChangeShapes Go.WideShapes Go.ChangeAt Go.RowKit Go.BigFrame
set_option linter.unusedVariables false
set_option linter.unusedSimpArgs false

def fI (n : Int) : Prop := -9223372036854775808 ≤ n ∧ n ≤ 9223372036854775807
/-- A node that may come in. -/
structure Nd.fit (y : Nd) : Prop where
  op : fI y.op
  n : fI y.n
  l : fI y.l
  r : fI y.r
  v : y.v.size ≤ 140737488351232
  x : y.x.size ≤ 140737488351232
theorem noNd_fit : noNd.fit := ⟨⟨by decide, by decide⟩, ⟨by decide, by decide⟩, ⟨by decide, by decide⟩, ⟨by decide, by decide⟩, by decide, by decide⟩
/-- A row of nodes in memory. -/
def IsNds (w : World) (ao : Option Addr) (ns : List Nd) : Prop := ∀ i, i < ns.length → ∃ g o, ao = some ⟨g, o, none⟩ ∧ w.cell? ⟨g, o + i * 6, none⟩ = some (.int .i64 (ns.getD i noNd).op) ∧ w.cell? ⟨g, o + i * 6 + 1, none⟩ = some (.int .i64 (ns.getD i noNd).n) ∧ w.cell? ⟨g, o + i * 6 + 2, none⟩ = some (.string (ns.getD i noNd).v) ∧ w.cell? ⟨g, o + i * 6 + 3, none⟩ = some (.string (ns.getD i noNd).x) ∧ w.cell? ⟨g, o + i * 6 + 4, none⟩ = some (.int .i64 (ns.getD i noNd).l) ∧ w.cell? ⟨g, o + i * 6 + 5, none⟩ = some (.int .i64 (ns.getD i noNd).r)
theorem IsNds.keep {w u : World} {ao : Option Addr} {ns : List Nd} (h : IsNds w ao ns) (G : Below w.heap.size w u) : IsNds u ao ns := fun i hi => by
  obtain ⟨g, o, e, a0, a1, a2, a3, a4, a5⟩ := h i hi
  exact ⟨g, o, e, (G.cell (p := ⟨_, _, none⟩) (lt_of_cell a0)).trans a0, (G.cell (p := ⟨_, _, none⟩) (lt_of_cell a1)).trans a1, (G.cell (p := ⟨_, _, none⟩) (lt_of_cell a2)).trans a2, (G.cell (p := ⟨_, _, none⟩) (lt_of_cell a3)).trans a3, (G.cell (p := ⟨_, _, none⟩) (lt_of_cell a4)).trans a4, (G.cell (p := ⟨_, _, none⟩) (lt_of_cell a5)).trans a5⟩
theorem nd_wf {n : Int} (h : (Lit.int .i64 n).wf = true) : fI n := by
  have h' : (decide (IntKind.min .i64 ≤ n) && decide (n ≤ IntKind.max .i64)) = true := h
  rw [Bool.and_eq_true, decide_eq_true_eq, decide_eq_true_eq] at h'
  have e1 : IntKind.min .i64 = -9223372036854775808 := by decide +kernel
  have e2 : IntKind.max .i64 = 9223372036854775807 := by decide +kernel
  rw [e1, e2] at h'
  exact h'
theorem nd_add (a : Addr) (m j : Nat) : (a.add m).add j = a.add (m + j) := by
  unfold Addr.add
  by_cases hm : m = 0
  · subst hm; simp
  · by_cases hj : j = 0
    · subst hj; simp
    · rw [if_neg hm, if_neg hj, if_neg (by omega)]
      simp [Nat.add_assoc]
theorem bytesNd : Tryz.prog.bytesOf 64 = 64 := by kernel_rfl
theorem cellsNd : Tryz.prog.cellsOf 64 = 6 := by kernel_rfl
theorem nd_weights {H : Type} {P : Program} {e : TypeId} : ∀ {l : List (DataW H)} {d : DataW H}, d ∈ l → ∀ n ∈ d.weights P e, n ∈ DataW.weightsAll P e l
  | d0 :: l, d, hd, n, hn => by
    simp only [DataW.weightsAll, List.mem_append]
    rcases List.mem_cons.1 hd with rfl | hd
    · exact .inl hn
    · exact .inr (nd_weights hd n hn)

section
variable {H : Type} {enc : TypeId × Value → H} {w : World} {spare : Nat → Bool} {held : Bool}

theorem trod_struct6 {P : Program} {base : Nat} {t : TypeId} {f0 f1 f2 f3 f4 f5 : Field} {fuel : Nat} {cs : List Value} {x : DataW H × List MemPlace} (ht : P.underlying t = some (.struct #[f0, f1, f2, f3, f4, f5])) (h : DataW.trod enc P w base spare held fuel t cs = some x) :
    ∃ y0 y1 y2 y3 y4 y5 n, x.1 = .agg [y0.1, y1.1, y2.1, y3.1, y4.1, y5.1] ∧ cs.length = P.cellsOf t ∧ DataW.trod enc P w base spare held n f0.type ((cs.drop f0.offset).take (P.cellsOf f0.type)) = some y0 ∧
      DataW.trod enc P w base spare held n f1.type ((cs.drop f1.offset).take (P.cellsOf f1.type)) = some y1 ∧ DataW.trod enc P w base spare held n f2.type ((cs.drop f2.offset).take (P.cellsOf f2.type)) = some y2 ∧
      DataW.trod enc P w base spare held n f3.type ((cs.drop f3.offset).take (P.cellsOf f3.type)) = some y3 ∧ DataW.trod enc P w base spare held n f4.type ((cs.drop f4.offset).take (P.cellsOf f4.type)) = some y4 ∧
      DataW.trod enc P w base spare held n f5.type ((cs.drop f5.offset).take (P.cellsOf f5.type)) = some y5 := by
  obtain ⟨xs, n, _, rfl, hl, hlen, hf⟩ := DataW.trod_struct ht h
  match xs, hlen with
  | [y0, y1, y2, y3, y4, y5], _ => exact ⟨y0, y1, y2, y3, y4, y5, n, by simp, hl, by simpa using hf 0 f0 rfl, by simpa using hf 1 f1 rfl, by simpa using hf 2 f2 rfl, by simpa using hf 3 f3 rfl, by simpa using hf 4 f4 rfl, by simpa using hf 5 f5 rfl⟩
theorem list6 {α : Type} {cs : List α} (h : cs.length = 6) : ∃ c0 c1 c2 c3 c4 c5, cs = [c0, c1, c2, c3, c4, c5] := by
  match cs, h with
  | [c0, c1, c2, c3, c4, c5], _ => exact ⟨c0, c1, c2, c3, c4, c5, rfl⟩

set_option maxRecDepth 100000 in
theorem open_nds {fuel : Nat} {v : Value} {y : DataW H × List MemPlace} (h : DataW.trod enc Tryz.prog w 0 spare held fuel 28 [v] = some y) (hw : ∀ n ∈ y.1.weights Tryz.prog 28, n ≤ reachBytes) :
    ∃ ao cap ns, v = .slice ao ns.length cap ∧ ns.length ≤ cap ∧ (ao = none → ns.length = 0 ∧ cap = 0) ∧ IsNds w ao ns ∧ ns.length * 64 ≤ 140737488351232 ∧ ∀ k, (ns.getD k noNd).fit := by
  rcases DataW.trod_slice Tryz.underlying28 h with ⟨hcs, _⟩ | ⟨a, len, cap, elems, rest, fu, _, hcs, hx, _, hl, hm, hlen, hel, _, _⟩
  · simp only [List.cons.injEq, and_true] at hcs
    exact ⟨none, 0, [], hcs, Nat.le_refl _, fun _ => ⟨rfl, rfl⟩, fun i hi => by simp at hi, by simp, fun k => by simp; exact noNd_fit⟩
  · simp only [List.cons.injEq, and_true] at hcs
    have hw0 := hw ((elems.map (·.1)).length * 64 + (rest.map (·.1)).length * 64) (by rw [hx]; simp [DataW.weights, Tryz.underlying28, bytesNd, Nat.add_mul])
    have each : ∀ i : Nat, ∃ t : Nd, t.fit ∧ (i < len → w.cell? (a.add (i * 6)) = some (.int .i64 t.op) ∧ w.cell? (a.add (i * 6 + 1)) = some (.int .i64 t.n) ∧ w.cell? (a.add (i * 6 + 2)) = some (.string t.v) ∧ w.cell? (a.add (i * 6 + 3)) = some (.string t.x) ∧ w.cell? (a.add (i * 6 + 4)) = some (.int .i64 t.l) ∧ w.cell? (a.add (i * 6 + 5)) = some (.int .i64 t.r)) := by
      intro i
      by_cases hi : i < len
      · have h1 := hel i hi
        rw [cellsNd, List.getElem?_eq_getElem (by omega), Option.bind_eq_some_iff] at h1
        obtain ⟨cs', h2, h3⟩ := h1
        obtain ⟨_, hcl, hce⟩ := World.cells?_some h2
        obtain ⟨c0, c1, c2, c3, c4, c5, rfl⟩ := list6 hcl
        obtain ⟨y0, y1, y2, y3, y4, y5, m, e1, _, g0, g1, g2, g3, g4, g5⟩ := trod_struct6 Tryz.underlying64 h3
        have g0' : DataW.trod enc Tryz.prog w 0 spare held m 62 [c0] = some y0 := g0
        have g1' : DataW.trod enc Tryz.prog w 0 spare held m 2 [c1] = some y1 := g1
        have g2' : DataW.trod enc Tryz.prog w 0 spare held m 9 [c2] = some y2 := g2
        have g3' : DataW.trod enc Tryz.prog w 0 spare held m 9 [c3] = some y3 := g3
        have g4' : DataW.trod enc Tryz.prog w 0 spare held m 3 [c4] = some y4 := g4
        have g5' : DataW.trod enc Tryz.prog w 0 spare held m 3 [c5] = some y5 := g5
        obtain ⟨n0, e0, _, w0⟩ := DataW.trod_int Tryz.underlying62 g0'
        obtain ⟨n1, e2, _, w1⟩ := DataW.trod_int Tryz.underlying2 g1'
        obtain ⟨s2, e3, q2, _⟩ := DataW.trod_string Tryz.underlying9 g2'
        obtain ⟨s3, e4, q3, _⟩ := DataW.trod_string Tryz.underlying9 g3'
        obtain ⟨n4, e5, _, w4⟩ := DataW.trod_int Tryz.underlying3 g4'
        obtain ⟨n5, e6, _, w5⟩ := DataW.trod_int Tryz.underlying3 g5'
        simp only [List.cons.injEq, and_true] at e0 e2 e3 e4 e5 e6
        subst e0; subst e2; subst e3; subst e4; subst e5; subst e6
        have hmem : (elems[i]'(by omega)).1 ∈ elems.map (·.1) := List.mem_map_of_mem (List.getElem_mem _)
        have hsz : ∀ s : ByteArray, s = s2 ∨ s = s3 → s.size ≤ 140737488351232 := fun s hs => by
          have h5 : s.data.toList.length ≤ reachBytes := by
            refine hw _ ?_
            rw [hx]
            simp only [DataW.weights, Tryz.underlying28, List.mem_cons, List.mem_append]
            refine .inr (.inl (nd_weights hmem _ ?_))
            rw [e1]
            simp only [DataW.weights, Tryz.underlying64, DataW.weightsEach, List.mem_append]
            rcases hs with rfl | rfl
            · simp [DataW.weightsEach, q2, DataW.weights]
            · simp [DataW.weightsEach, q3, DataW.weights]
          have h6 : s.data.toList.length = s.size := Array.length_toList
          unfold reachBytes at h5
          omega
        refine ⟨⟨n0, n1, s2, s3, n4, n5⟩, ⟨nd_wf w0, nd_wf w1, nd_wf w4, nd_wf w5, hsz _ (.inl rfl), hsz _ (.inr rfl)⟩, fun _ => ?_⟩
        have d0 := hce 0 (by omega)
        have d1 := hce 1 (by omega)
        have d2 := hce 2 (by omega)
        have d3 := hce 3 (by omega)
        have d4 := hce 4 (by omega)
        have d5 := hce 5 (by omega)
        rw [nd_add] at d0 d1 d2 d3 d4 d5
        exact ⟨by simpa using d0, by simpa using d1, by simpa using d2, by simpa using d3, by simpa using d4, by simpa using d5⟩
      · exact ⟨noNd, noNd_fit, fun h => absurd h hi⟩
    obtain ⟨f, hf⟩ : ∃ f : Nat → Nd, ∀ i : Nat, (f i).fit ∧ (i < len → w.cell? (a.add (i * 6)) = some (.int .i64 (f i).op) ∧ w.cell? (a.add (i * 6 + 1)) = some (.int .i64 (f i).n) ∧ w.cell? (a.add (i * 6 + 2)) = some (.string (f i).v) ∧ w.cell? (a.add (i * 6 + 3)) = some (.string (f i).x) ∧ w.cell? (a.add (i * 6 + 4)) = some (.int .i64 (f i).l) ∧ w.cell? (a.add (i * 6 + 5)) = some (.int .i64 (f i).r)) := ⟨fun j => Classical.choose (each j), fun j => Classical.choose_spec (each j)⟩
    have hget : ∀ j, j < len → ((List.range len).map f).getD j noNd = f j := fun j hj => by simp [List.getD, hj]
    have hlen2 : ((List.range len).map f).length = len := by simp
    refine ⟨some a, cap, (List.range len).map f, by rw [hlen2]; exact hcs, by rw [hlen2]; exact hl, fun e => (by cases e), fun i hi => ?_, ?_, fun j => ?_⟩
    · rw [hlen2] at hi
      obtain ⟨ab, ao, asp⟩ := a
      cases asp with
      | some s => have := World.cell?_spot ((hf 0).2 (by omega)).1; simp [Addr.add] at this
      | none =>
        obtain ⟨e0, e1, e2, e3, e4, e5⟩ := (hf i).2 hi
        rw [hget i hi]
        rw [add_plain] at e0 e1 e2 e3 e4 e5
        simp only [← Nat.add_assoc] at e1 e2 e3 e4 e5
        exact ⟨ab, ao, rfl, e0, e1, e2, e3, e4, e5⟩
    · rw [hlen2]
      unfold reachBytes at hw0
      simp at hw0
      omega
    · by_cases hj : j < len
      · rw [hget j hj]; exact (hf j).1
      · have : ((List.range len).map f).getD j noNd = noNd := by simp [List.getD, hj]
        rw [this]; exact noNd_fit

end

theorem nds_at (ns : List Nd) : ∀ i, i < ns.length → ∀ j, j < 6 → (ndsV ns)[i * 6 + j]? = (ndA (ns.getD i noNd)).toList[j]? := by
  induction ns with
  | nil => intro i hi; simp at hi
  | cons t r ih =>
    intro i hi j hj
    have e : ndsV (t :: r) = (ndA t).toList ++ ndsV r := rfl
    have hl : (ndA t).toList.length = 6 := rfl
    rw [e]
    cases i with
    | zero =>
      rw [Nat.zero_mul, Nat.zero_add, List.getElem?_append_left (by omega)]
      rfl
    | succ i =>
      rw [List.getElem?_append_right (by omega), hl, show (i + 1) * 6 + j - 6 = i * 6 + j by omega]
      rw [ih i (by simpa using hi) j hj]
      rfl
theorem nds_more (ns : List Nd) (k : Nat) (h : k < ns.length) : ndsV (ns.take k) ++ (ndA (ns.getD k noNd)).toList = ndsV (ns.take (k + 1)) := by
  unfold ndsV
  rw [List.take_add_one]
  simp only [List.flatMap_append, List.getD, List.getElem?_eq_getElem h, Option.getD_some, Option.toList_some, List.flatMap_cons, List.flatMap_nil, List.append_nil]
/-- A row of nodes of one's own is a row of nodes. -/
theorem nds_of_own {w : World} {b : Nat} {ao : Option Addr} {c : Nat} {ns : List Nd} (h : w.ownsRow b 64 6 (.slice ao ns.length c) ns.length (ndsV ns)) : IsNds w ao ns := fun i hi => by
  obtain ⟨ao', c', e, _, _, hg⟩ := own_form h
  simp only [Value.slice.injEq, true_and] at e
  obtain ⟨rfl, rfl⟩ := e
  rcases hg with hg | ⟨g, rfl, _, _⟩
  · omega
  have hc : ∀ j, j < 6 → w.cell? ⟨g, i * 6 + j, none⟩ = (ndA (ns.getD i noNd)).toList[j]? := fun j hj => by
    rw [World.ownsRow.cellAt h (i * 6 + j) (by omega), nds_at ns i hi j hj]
  refine ⟨g, 0, rfl, ?_⟩
  rw [Nat.zero_add]
  exact ⟨hc 0 (by omega), hc 1 (by omega), hc 2 (by omega), hc 3 (by omega), hc 4 (by omega), hc 5 (by omega)⟩

end Go.Proofs.YtnolbpekdikamaaGreatDoor
namespace Go.Proofs.YtnolbpekdikamaaGreatDoor
open Go.ChangeShapes Go.WideShapes Go.ChangeAt Go.RowKit
set_option linter.unusedVariables false
set_option linter.unusedSimpArgs false

/-- A row of numbers in memory. -/
def IsInts (w : World) (ao : Option Addr) (zs : List Int) : Prop := ∀ i, i < zs.length → ∃ g o, ao = some ⟨g, o, none⟩ ∧ w.cell? ⟨g, o + i, none⟩ = some (.int .i64 (zs.getD i 0))
theorem IsInts.keep {w u : World} {ao : Option Addr} {zs : List Int} (h : IsInts w ao zs) (G : Below w.heap.size w u) : IsInts u ao zs := fun i hi => by
  obtain ⟨g, o, e, a0⟩ := h i hi
  exact ⟨g, o, e, (G.cell (p := ⟨_, _, none⟩) (lt_of_cell a0)).trans a0⟩
theorem bytesIn : Tryz.prog.bytesOf 3 = 8 := by kernel_rfl

section
variable {H : Type} {enc : TypeId × Value → H} {w : World} {spare : Nat → Bool} {held : Bool}

theorem open_gaps {fuel : Nat} {v : Value} {y : DataW H × List MemPlace} (h : DataW.trod enc Tryz.prog w 0 spare held fuel 39 [v] = some y) (hw : ∀ n ∈ y.1.weights Tryz.prog 39, n ≤ reachBytes) :
    ∃ ao cap zs, v = .slice ao zs.length cap ∧ zs.length ≤ cap ∧ IsInts w ao zs ∧ zs.length * 8 ≤ 140737488351232 := by
  rcases open_ints Tryz.underlying39 Tryz.underlying3 (by kernel_rfl) h with ⟨hcs, _⟩ | ⟨a, l, c, zs, hcs, _, hl, hm, hz, hx, hcell, _⟩
  · simp only [List.cons.injEq, and_true] at hcs
    exact ⟨none, 0, [], hcs, Nat.le_refl _, fun i hi => by simp at hi, by simp⟩
  · simp only [List.cons.injEq, and_true] at hcs
    have hlz : l ≤ zs.length := by split at hz <;> omega
    have hlen : (zs.take l).length = l := by rw [List.length_take]; omega
    have hw0 := hw ((lits .i64 (zs.take l)).length * 8 + (lits .i64 (zs.drop l)).length * 8) (by rw [hx]; simp [DataW.weights, Tryz.underlying39, bytesIn, Nat.add_mul]; exact .inl rfl)
    refine ⟨some a, c, zs.take l, by rw [hlen]; exact hcs, by rw [hlen]; exact hl, fun i hi => ?_, ?_⟩
    · rw [hlen] at hi
      have h1 := hcell i (by omega)
      obtain ⟨ab, ao, asp⟩ := a
      cases asp with
      | some s => have := World.cell?_spot (hcell 0 (by omega)); simp [Addr.add] at this
      | none =>
        rw [add_plain] at h1
        refine ⟨ab, ao, rfl, ?_⟩
        rw [h1, List.getD_eq_getElem?_getD, List.getD_eq_getElem?_getD, List.getElem?_take, if_pos hi]
    · rw [hlen]
      simp only [lits, List.length_map, List.length_take, List.length_drop, reachBytes] at hw0
      omega

end
end Go.Proofs.YtnolbpekdikamaaGreatDoor
namespace Go.Proofs.YtnolbpekdikamaaGreatDoor
set_option linter.unusedVariables false
set_option linter.unusedSimpArgs false

structure It where
  neg : Bool
  ty : List ByteArray
  v : ByteArray
  lo : Int
  hi : Int
structure Qy where
  items : List It
  mode : Int
  after : Int
  wh : List Nd
  within : Int
  by_ : ByteArray
  ret : List (List Nd)
structure Sps where
  items : List Int
  wh : List Int
  within : Int
  by_ : Int
  ret : List (List Int)

end Go.Proofs.YtnolbpekdikamaaGreatDoor
