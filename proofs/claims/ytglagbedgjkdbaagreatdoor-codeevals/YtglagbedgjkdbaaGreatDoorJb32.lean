/- The law CodeEvals: Eval of every list of nodes in every environment is the document's; what is handed in stays as it is. And what goes with it: 1 texts in one. -/
import Derived.Test.YtglagbedgjkdbaaGreatDoorJb31
import Derived.Deep.CutRange
import Derived.Deep.RegionHeld3
namespace Go.Proofs.YtglagbedgjkdbaaGreatDoor
open Go.RowKit Go.BigFrame Go.Proofs.YtglagbedgjkdbaaGreatDoor.Ev
set_option linter.unusedVariables false
set_option linter.unusedSimpArgs false

/-- An environment of one's own in a local. -/
structure EnvR7 (E : Envr) (X wx : World) (s : Value) : Prop where
  ex : ∃ b a c ws, s = .pointer (some ⟨b, 0, none⟩) ∧ X.heap.size ≤ b ∧ Bk wx b #[.slice a E.lists.length c, .int .i64 E.each, .int .i64 E.at_] 34 ∧ ONst wx X.heap.size 65 76 11 evC (.slice a E.lists.length c) E.lists ws ∧ Below X.heap.size X wx
theorem onst_env7 {w : World} {E : Envr} {b : Nat} {TS T : TypeId} {a : Option Addr} {c : Nat} {ws : List Value} (h : ONst w b TS T 11 evC (.slice a E.lists.length c) E.lists ws) : IsEnv w E a c := ⟨h.nst, own_sl h.own⟩
theorem onst_but7 {β : Type} {w u : World} {b : Nat} {TS T : TypeId} {sz : Nat} {cv : β → Array Value} {v : Value} {l : List (List β)} {ws : List Value} (h : ONst w b TS T sz cv v l ws) {bb : Nat} {cs : Array Value} {t : TypeId} (B : Bk w bb cs t) (h1 : t ≠ TS) (h2 : t ≠ T) (e : But bb w u) : ONst u b TS T sz cv v l ws := h.map fun e' s v n xs he o => own_but o B (by rcases he with rfl | rfl; exact h1; exact h2) e
theorem onst_kt7 {β : Type} {w u : World} {b : Nat} {TS T : TypeId} {sz : Nat} {cv : β → Array Value} {v : Value} {l : List (List β)} {ws : List Value} (h : ONst w b TS T sz cv v l ws) {K : TypeId} (k : KT K w u) (h1 : TS ≠ K) (h2 : T ≠ K) : ONst u b TS T sz cv v l ws := h.map fun e' s v n xs he o => own_kt k o (by rcases he with rfl | rfl; exact h1; exact h2)
theorem val_self (k : Bool) (n : Int) (w : World) : (Op.equalIn 10000 51 (.agg #[.bool k, .int .i64 n]) (.agg #[.bool k, .int .i64 n])).run Tryz.prog w = .ok true w := by
  have u1 := Tryz.underlying4
  have u2 := Tryz.underlying2
  have hS : Tryz.prog.underlying 51 = some (.struct (Tryz.prog.fieldsOf 51)) := by kernel_rfl
  have hp : Tryz.prog.stoodInHeld 51 = false := by kernel_rfl
  rw [show (10000 : Nat) = 9999 + 1 from rfl, run_equalIn_agg w 9999 51 _ _ hS hp]
  simp only [Program.fieldsOf, Tryz.underlying51]
  go_simp
/-- In a region that only reads: a value is held against itself. -/
theorem quiet_eql_val {ops : Array Oper} {C : World → Prop} {Q : Act → Prop} {o : Oper} {rest : List Oper} {a : Act} (hw : Region.wanted o (yielded ops a.tmps) = true) (x y : Operand) (ho : o.op = .binOp .eql 51 x y 51)
    (k : Bool) (n : Int) (hx : a.eval x = .agg #[.bool k, .int .i64 n]) (hy : a.eval y = .agg #[.bool k, .int .i64 n]) (a' : Act) (ha : a.put o.dst (.bool true) = a') (h : wpQuiet Tryz.prog ops C Q rest a') : wpQuiet Tryz.prog ops C Q (o :: rest) a := by
  subst ha
  refine wpQuiet_want hw fun K hK => ⟨.bool true, fun w hC => ?_, hK _ h⟩
  unfold Oper.quietAt execOp
  simp only [ho, hx, hy, Sem.run_bind, Sem.run_pure, run_eqGuard_agg (P := Tryz.prog) w .eql 51 x y #[.bool k, .int .i64 n] #[.bool k, .int .i64 n] (by kernel_rfl), run_eql_struct, val_self, Result.andThen_ok]
  exact ⟨rfl, rfl⟩
/-- The tree ahead of its marks, and the marks. -/
theorem rm_tree {w : World} {ao : Option Addr} {ns : List Nd} (A : IsNds w ao (rmL ns 40)) : IsNds w ao ns := fun i hi => by
  have := A i (by rw [rmL_len]; omega)
  rw [rmL_low ns 40 i hi] at this
  exact this
theorem rm_marks {w : World} {g : Nat} {ns : List Nd} (A : IsNds w (some ⟨g, 0, none⟩) (rmL ns 40)) : IsNds w (some ⟨g, ns.length * 6, none⟩) (((rmL ns 40).drop ns.length).take 40) := by
  have := nds_sub A ns.length 40 (by rw [rmL_len]; omega)
  rw [Nat.zero_add] at this
  exact this
theorem marks_at (ns : List Nd) (j : Nat) (h : j < 40) : (((rmL ns 40).drop ns.length).take 40).getD j noNd = mkd j := by
  rw [List.getD_eq_getElem?_getD, List.getElem?_take, if_pos h, List.getElem?_drop, ← List.getD_eq_getElem?_getD, rmL_high ns 40 j h]
theorem marks_len (ns : List Nd) : (((rmL ns 40).drop ns.length).take 40).length = 40 := by
  rw [List.length_take, List.length_drop, rmL_len]
  omega
theorem rmL_fit {ns : List Nd} (hf : ∀ k, (ns.getD k noNd).fit) (k : Nat) : ((rmL ns 40).getD k noNd).fit := by
  by_cases h : k < ns.length
  · rw [rmL_low ns 40 k h]; exact hf k
  · by_cases h2 : k < ns.length + 40
    · obtain ⟨j, rfl⟩ : ∃ j, k = ns.length + j := ⟨k - ns.length, by omega⟩
      rw [rmL_high ns 40 j (by omega)]
      exact ⟨show fI 0 from ⟨by decide, by decide⟩, show fI 61 from ⟨by decide, by decide⟩, by show fI (j : Int); unfold fI; omega, show fI 0 from ⟨by decide, by decide⟩, by show eS.size ≤ _; decide, by show eS.size ≤ _; decide⟩
    · rw [List.getD_eq_getElem?_getD, List.getElem?_eq_none (by rw [rmL_len]; omega)]
      exact noNd_fit
theorem take_nds {w : World} {ao : Option Addr} {ms : List Nd} (A : IsNds w ao ms) (n : Nat) : IsNds w ao (ms.take n) := fun i hi => by
  have hi2 : i < n ∧ i < ms.length := by simp at hi; omega
  have := A i hi2.2
  rw [List.getD_eq_getElem?_getD, List.getElem?_take, if_pos hi2.1, ← List.getD_eq_getElem?_getD]
  exact this
theorem take_fit {ms : List Nd} (h : ∀ k, (ms.getD k noNd).fit) (n : Nat) : ∀ k, ((ms.take n).getD k noNd).fit := fun k => by
  rw [List.getD_eq_getElem?_getD, List.getElem?_take]
  split
  · rw [← List.getD_eq_getElem?_getD]; exact h k
  · exact noNd_fit
set_option maxRecDepth 100000 in
set_option maxHeartbeats 64000000 in
theorem codeEvals_walk (sa : Option Addr) (sc : Nat) (L : List Ty) (q : Qy) (hq : q.fit) (cs : Array Value) (ai : Option Addr) (ci : Nat) (aw : Option Addr) (cw : Nat) (ar : Option Addr) (cr : Nat) (ns : List Nd) (ao : Option Addr) (cap : Nat) (hno : ao = none → ns.length = 0 ∧ cap = 0) (E : Envr) (al : Option Addr) (cl : Nat) (w : World) (K : KwAt w) (T : TbA2 w) (A : IsTypes w sa L.length L) (AQ : IsQ w q cs ai ci aw cw ar cr) (AN : IsNds w ao ns) (IE : IsEnv w E al cl)
    (hE0 : (∀ k, (E.lists.getD k []).length ≤ 2147483647) → E.ok) (hEn : E.lists.length * 24 ≤ 140737488351232) (hEl : ∀ k, (E.lists.getD k []).length * 88 ≤ 140737488351232) (hf : ∀ k, (ns.getD k noNd).fit) (hr : ns.length * 64 ≤ 140737488351232) (hL : L.length * 40 ≤ 140737488351232) (hLs : ∀ j, (L.getD j noTy).2.length * 16 ≤ 140737488351232) :
    Calls Tryz.prog 4 #[.agg #[.slice sa L.length sc], .agg cs, .slice ao ns.length cap, envA al cl E] w fun e w' => e = .returned (.bool true) ∧ Below w.heap.size w w' := by
  have hcs := AQ.eq
  subst hcs
  have hr1 : ns.length * 64 ≤ 140737488351232 := by omega
  have B1 := galloc (Below.refl w.heap.size w) (.cells #[.slice sa L.length sc] 24)
  have B2 := galloc B1 (.cells #[.slice ai q.items.length ci, .int .i64 q.mode, .int .i64 q.after, .slice aw q.wh.length cw, .int .i64 q.within, .string q.by_, .slice ar q.ret.length cr] 31)
  have B3 := galloc B2 (.cells #[.slice al E.lists.length cl, .int .i64 E.each, .int .i64 E.at_] 34)
  have k1 := ((Bk.new w #[.slice sa L.length sc] 24).alloc (.cells #[.slice ai q.items.length ci, .int .i64 q.mode, .int .i64 q.after, .slice aw q.wh.length cw, .int .i64 q.within, .string q.by_, .slice ar q.ret.length cr] 31)).alloc (.cells #[.slice al E.lists.length cl, .int .i64 E.each, .int .i64 E.at_] 34)
  have k2 := (Bk.newE (w := w.alloc (.cells #[.slice sa L.length sc] 24)) (g := w.heap.size + 1) (by simp) #[.slice ai q.items.length ci, .int .i64 q.mode, .int .i64 q.after, .slice aw q.wh.length cw, .int .i64 q.within, .string q.by_, .slice ar q.ret.length cr] 31).alloc (.cells #[.slice al E.lists.length cl, .int .i64 E.each, .int .i64 E.at_] 34)
  have k3 := Bk.newE (w := (w.alloc (.cells #[.slice sa L.length sc] 24)).alloc (.cells #[.slice ai q.items.length ci, .int .i64 q.mode, .int .i64 q.after, .slice aw q.wh.length cw, .int .i64 q.within, .string q.by_, .slice ar q.ret.length cr] 31)) (g := w.heap.size + 2) (by simp) #[.slice al E.lists.length cl, .int .i64 E.each, .int .i64 E.at_] 34
  go_enter Tryz.func4, Tryz.ntmps4
  go_upto_region 1 with fail
  generalize ((w.alloc _).alloc _).alloc _ = V at *
  obtain ⟨q0, q1, q2, q3, q4, q5, q6⟩ := k2.at7
  obtain ⟨t0, t1, t2⟩ := k3.at3
  have c1 := qBeyond_any q hq _ ai ci aw cw ar cr V (AQ.keep B3)
  have c2 := fun (u : World) (g : Below w.heap.size w u) => beyond_any ns ao cap u (AN.keep g) hr1 hf
  have c3 := beyond7_any E.lists al cl V (IE.n.keep B3) (by omega) (fun k => by have := hEl k; omega)
  go_upto_region 3 with (first
    | (go_at_call 7; (with_reducible refine c3.mono ?_); rintro e u1 ⟨⟨bb, rfl, hbb⟩, rfl⟩; cases bb)
    | (go_at_call 5; (with_reducible refine c1.mono ?_); rintro e u2 ⟨bb, rfl, g2⟩; have G2 := gtrans B3 g2; cases bb)
    | (go_at_call 6; (with_reducible refine (c2 _ G2).mono ?_); rintro e u3 ⟨bb, rfl, g3⟩; have G3 := gtrans G2 g3; cases bb))
  all_goals try (go_ret; (first | exact ⟨rfl, B3⟩ | exact ⟨rfl, G2⟩ | exact ⟨rfl, G3⟩))
  have hE := hE0 (hbb (by first | trivial | rfl))
  have d1 := (k1.keep g2).keep g3
  have d2 := (k2.keep g2).keep g3
  have d3 := (k3.keep g2).keep g3
  clear k1 k2 k3 c1 c2 c3 q0 q1 q2 q3 q4 q5 q6 t0 t1 t2 g2 g3 G2 hbb B1 B2 B3
  -- the twins
  have c0 := d1.one1
  have c4 := twinS7_any sa L.length sc L u3 (A.keep G3) hL hLs
  go_upto_region 4 with (go_at_call 17; (with_reducible refine c4.mono ?_); rintro e u4 ⟨v4, rfl, T4, g4⟩; obtain ⟨s2a, s2c, rfl, I4⟩ := T4.types)
  have g5 := galloc g4 (.cells #[.slice s2a L.length s2c] 24)
  have G5 := gtrans G3 g5
  have S2 := Bk.new u4 #[.slice s2a L.length s2c] 24
  have IS2 := I4.keep (galloc (Below.refl u4.heap.size u4) (.cells #[.slice s2a L.length s2c] 24))
  have e1 := d1.keep g5
  have e2 := d2.keep g5
  have e3 := d3.keep g5
  clear c0 c4 T4 I4 g4 d1 d2 d3 g5 G3
  generalize u4.alloc _ = U5 at *
  generalize u4.heap.size = bs at *
  obtain ⟨q0, q1, q2, q3, q4, q5, q6⟩ := e2.at7
  have c5 := twinQ7_any q hq _ ai ci aw cw ar cr U5 (AQ.keep G5)
  go_upto_region 5 with (go_at_call 18; (with_reducible refine c5.mono ?_); rintro e u6 ⟨ai2, ci2, rfl, I6, g6⟩)
  have h6 := galloc g6 (.cells #[.slice ai2 q.items.length ci2, .int .i64 q.mode, .int .i64 q.after, .slice aw q.wh.length cw, .int .i64 q.within, .string q.by_, .slice ar q.ret.length cr] 31)
  have G6 := gtrans G5 h6
  have Q2 := Bk.new u6 #[.slice ai2 q.items.length ci2, .int .i64 q.mode, .int .i64 q.after, .slice aw q.wh.length cw, .int .i64 q.within, .string q.by_, .slice ar q.ret.length cr] 31
  have IQ2 := I6.keep (galloc (Below.refl u6.heap.size u6) (.cells #[.slice ai2 q.items.length ci2, .int .i64 q.mode, .int .i64 q.after, .slice aw q.wh.length cw, .int .i64 q.within, .string q.by_, .slice ar q.ret.length cr] 31))
  have f1 := e1.keep h6
  have f2 := e2.keep h6
  have f3 := e3.keep h6
  have S3 := S2.keep h6
  have IS3 := IS2.keep h6
  clear q0 q1 q2 q3 q4 q5 q6 c5 I6 g6 e1 e2 e3 S2 IS2 h6 G5
  generalize u6.alloc _ = U6 at *
  generalize u6.heap.size = bq at *
  have c6 := twinN7_any ns ao cap U6 hno (AN.keep G6) hr1
  go_upto_region 6 with (go_at_call 19; (with_reducible refine c6.mono ?_); rintro e X ⟨v7, rfl, O7, g7⟩; obtain ⟨t2a, t2c, rfl, _, _, _⟩ := own_form O7)
  have GX := gtrans G6 g7
  have N2 : IsNds X t2a ns := nds_of_own O7
  have i1 := f1.keep g7
  have i2 := f2.keep g7
  have EX := f3.keep g7
  have S4 := S3.keep g7
  have IS4 := IS3.keep g7
  have Q3 := Q2.keep g7
  have IQ3 := IQ2.keep g7
  clear c6 O7 g7 f1 f2 f3 S3 IS3 Q2 IQ2 G6
  have ctl : ∀ Y, Below X.heap.size X Y → Calls Tryz.prog 20 #[.slice al E.lists.length cl] Y fun e w' => TwR E.lists Y e w' ∧ Below Y.heap.size Y w' := fun Y G => twinLists_any E.lists al cl Y (IE.n.keep (gtrans GX G)) hEn hEl
  have hSn : ∀ Y, Below X.heap.size X Y → Y.cell? ⟨w.heap.size + 2, 0, none⟩ = some (.slice al E.lists.length cl) ∧ Y.cell? ⟨w.heap.size + 2, 1, none⟩ = some (.int .i64 E.each) ∧ Y.cell? ⟨w.heap.size + 2, 2, none⟩ = some (.int .i64 E.at_) := fun Y G => ⟨(EX.keep G).at3.1, (EX.keep G).at3.2.1, (EX.keep G).at3.2.2⟩
  have Gd := (Below.refl X.heap.size X).drew
  have hSd := hSn _ Gd
  have Ga := (galloc (Below.refl X.heap.size X) (.cells #[.slice none 0 0, .int .i64 0, .int .i64 0] 34)).drew
  have hSa := hSn _ Ga
  have ZA : Bk (X.alloc (.cells #[.slice none 0 0, .int .i64 0, .int .i64 0] 34)).drew X.heap.size #[.slice none 0 0, .int .i64 0, .int .i64 0] 34 := Bk.new X #[.slice none 0 0, .int .i64 0, .int .i64 0] 34
  go_upto_region 6 with fail
  go_cut [12] from 33 to 40 (fun s wx => EnvR7 E X wx s)
  case first =>
    go_region_held3 (fun Y : World => Y.cell? ⟨w.heap.size + 2, 0, none⟩ = some (.slice al E.lists.length cl) ∧ Y.cell? ⟨w.heap.size + 2, 1, none⟩ = some (.int .i64 E.each) ∧ Y.cell? ⟨w.heap.size + 2, 2, none⟩ = some (.int .i64 E.at_)) (first | (with_reducible exact hSd) | (with_reducible exact hSa) | (with_reducible exact hSu) | (with_reducible exact hSua) | (with_reducible exact hS9) | go_keep) (first
      | (go_at_call 20; (with_reducible refine (ctl _ Gd).mono ?_); rintro _ u ⟨⟨vt, wt, rfl, NT⟩, gt⟩; obtain ⟨at', ct', rfl, _, _, _⟩ := own_form NT.own; have GU := gtrans Gd gt; have hSu := hSn _ GU; have hSua := hSn _ (galloc GU (.cells #[.slice none 0 0, .int .i64 0, .int .i64 0] 34)); have zu : X.heap.size ≤ u.heap.size := GU.size; have G9 := galloc GU (.cells #[.slice at' E.lists.length ct', .int .i64 E.each, .int .i64 E.at_] 34); have hS9 := hSn _ G9; have Z9 := Bk.new u #[.slice at' E.lists.length ct', .int .i64 E.each, .int .i64 E.at_] 34; have N9 := (NT.keep (galloc (Below.refl u.heap.size u) (.cells #[.slice at' E.lists.length ct', .int .i64 E.each, .int .i64 E.at_] 34))).mono (show X.heap.size ≤ _ from by simp); have fin : EnvR7 E X _ (.pointer (some ⟨u.heap.size, 0, none⟩)) := ⟨⟨u.heap.size, at', ct', wt, rfl, zu, Z9, N9, G9⟩⟩)
      | (go_at_call 20; (with_reducible refine (ctl _ Ga).mono ?_); rintro _ u ⟨⟨vt, wt, rfl, NT⟩, gt⟩; obtain ⟨at', ct', rfl, _, _, _⟩ := own_form NT.own; have GU := gtrans Ga gt; have hSu := hSn _ GU; have ZU := ZA.keep gt; obtain ⟨zu0, zu1, zu2⟩ := ZU.at3; have zuf := ZU.free; have zu : X.heap.size ≤ X.heap.size := Nat.le_refl _; have G9 := gset (gset (gset GU (p := ⟨X.heap.size, 0, none⟩) zu (.slice at' E.lists.length ct')) (p := ⟨X.heap.size, 1, none⟩) zu (.int .i64 E.each)) (p := ⟨X.heap.size, 2, none⟩) zu (.int .i64 E.at_); have hS9 := hSn _ G9; have Z9 := ((ZU.set 0 (.slice at' E.lists.length ct')).set 1 (.int .i64 E.each)).set 2 (.int .i64 E.at_); have N9 := onst_but7 (NT.mono (show X.heap.size ≤ _ from by simp)) ZU (by decide) (by decide) ((((But.refl X.heap.size u).set 0 (.slice at' E.lists.length ct')).set 1 (.int .i64 E.each)).set 2 (.int .i64 E.at_)); have fin : EnvR7 E X _ (.pointer (some ⟨X.heap.size, 0, none⟩)) := ⟨⟨X.heap.size, at', ct', wt, rfl, zu, Z9, N9, G9⟩⟩))
    all_goals
      go_wp2
      go_meet
      case rel => exact fin
  case rest =>
    obtain ⟨⟨b6, a6, c6, w6, rfl, hb6, C6, N6, G6⟩⟩ := hcut
    clear hSn hSd hSa Ga Gd ctl ZA
    have GW := gtrans GX G6
    have i1 := i1.keep G6
    have i2 := i2.keep G6
    have EW := EX.keep G6
    have S4 := S4.keep G6
    have IS4 := IS4.keep G6
    have Q3 := Q3.keep G6
    have IQ3 := IQ3.keep G6
    have N2 := N2.keep G6
    have IE2 := onst_env7 N6
    have NE2 := N6.nst
    clear EX G6 GX N6 hb6
    obtain ⟨WR, rfl⟩ : ∃ WR, WR = wc := ⟨_, rfl⟩
    have ISr := IS4
    have IQr := IQ3
    have c7 := roomy_any ns ao cap WR hno (AN.keep GW) hr
    go_upto_region 8 with (go_at_call 21; (with_reducible refine c7.mono ?_); rintro e U ⟨v8, rfl, O8, g8⟩; obtain ⟨ro, rc, rfl, hrc, _, hh8⟩ := own_form O8)
    obtain ⟨g, rfl, hgw⟩ : ∃ g, ro = some ⟨g, 0, none⟩ ∧ WR.heap.size ≤ g := by
      rcases hh8 with h | ⟨g, h, _, h3⟩
      · omega
      · exact ⟨g, h, h3⟩
    have GU := gtrans GW g8
    have i1 := i1.keep g8
    have i2 := i2.keep g8
    have EU := EW.keep g8
    have S4 := S4.keep g8
    have IS4 := IS4.keep g8
    have Q3 := Q3.keep g8
    have IQ3 := IQ3.keep g8
    have N2 := N2.keep g8
    have C6 := C6.keep g8
    have IE2 := IE2.keep g8
    have NE2 := NE2.keep g8
    have NR : IsNds U (some ⟨g, 0, none⟩) (rmL ns 40) := nds_of_own (b := WR.heap.size) (c := rc) (by rw [rmL_len]; exact O8)
    have gR := g8
    obtain ⟨bw, hbw⟩ : ∃ bw, WR.heap.size = bw := ⟨_, rfl⟩
    have HBW := show Hid (_ = _) from hbw
    have hbU : bw ≤ U.heap.size := by rw [← hbw]; exact g8.size
    have hwb : w.heap.size ≤ bw := by rw [← hbw]; exact GW.size
    rw [hbw] at O8 hgw
    clear hh8 c7 EW GW g8 hbw
    obtain ⟨n, hn⟩ : ∃ n, ns.length = n := ⟨_, rfl⟩
    have HN := show Hid (_ = _) from hn
    have cE := fun (Y : World) (G : Below U.heap.size U Y) => eval_any2 sa sc L q hq _ ai ci aw cw ar cr ns (some ⟨g, 0, none⟩) rc E al cl Y (K.keep (gtrans GU G)) (T.keep (gtrans GU G)) (A.keep (gtrans GU G)) (AQ.keep (gtrans GU G)) ((rm_tree NR).keep G) (IE.keep (gtrans GU G)) hf hr1 hE
    obtain ⟨⟨xk, xn⟩, hx⟩ : ∃ x, evalV L q E ns = x := ⟨_, rfl⟩
    rw [hx, hn] at cE
    unfold VA at cE
    dsimp only at cE
    have hx2 := show Hid (_ = _) from hx
    clear hx
    have hnr : n ≤ rc := by omega
    have hni : (n : Int) ≤ (rc : Int) := by omega
    have hnn : (n : Int) ≤ (n : Int) + 40 := by omega
    rw [hn] at O8 hr hr1 ⊢
    clear hn
    have s0 := i1.one1
    obtain ⟨q0, q1, q2, q3, q4, q5, q6⟩ := i2.at7
    obtain ⟨t0, t1, t2⟩ := EU.at3
    have hne0 : Nonempty (Ext U) := ⟨⟨_, Below.refl _ _⟩⟩
    have ps0 := fun z : Ext U => (z.cell _ _ (lt_of_cell s0)).trans s0
    have pq0 := fun z : Ext U => (z.cell _ _ (lt_of_cell q0)).trans q0
    have pq1 := fun z : Ext U => (z.cell _ _ (lt_of_cell q1)).trans q1
    have pq2 := fun z : Ext U => (z.cell _ _ (lt_of_cell q2)).trans q2
    have pq3 := fun z : Ext U => (z.cell _ _ (lt_of_cell q3)).trans q3
    have pq4 := fun z : Ext U => (z.cell _ _ (lt_of_cell q4)).trans q4
    have pq5 := fun z : Ext U => (z.cell _ _ (lt_of_cell q5)).trans q5
    have pq6 := fun z : Ext U => (z.cell _ _ (lt_of_cell q6)).trans q6
    have pt0 := fun z : Ext U => (z.cell _ _ (lt_of_cell t0)).trans t0
    have pt1 := fun z : Ext U => (z.cell _ _ (lt_of_cell t1)).trans t1
    have pt2 := fun z : Ext U => (z.cell _ _ (lt_of_cell t2)).trans t2
    go_upto_region 8 with fail
    go_cut [14] from 43 to 50 (fun s14 wx => ∃ b, s14 = .pointer (some ⟨b, 0, none⟩) ∧ Bk wx b #[.bool xk, .int .i64 xn] 51 ∧ Below U.heap.size U wx ∧ U.heap.size ≤ b)
    case first =>
      refine wp_region_held (S := fun X => ∃ n : Ext U, X = n.X) (by kernel_rfl) ?_
      have hX0 : Below U.heap.size U { U with drawn := U.drawn + 1 } := (Below.refl _ U).drew
      obtain ⟨X2, hXe⟩ : ∃ X, { U with drawn := U.drawn + 1 } = X := ⟨_, rfl⟩
      have hX : Below U.heap.size U X2 := hXe ▸ hX0
      rw [hXe]
      clear hX0 hXe
      refine anyH_pick (g := 3) [0, 1, 2, 3, 4, 5, 6] (by kernel_rfl) (fun c a d v w h => by cases d <;> exact h) ⟨⟨X2, hX⟩, rfl⟩ rfl (by kernel_rfl) ?_
      simp only [pickL, List.filterMap_cons, List.filterMap_nil, List.getElem?_toArray, List.getElem?_cons_zero, List.getElem?_cons_succ]
      refine (show wpQuiet _ _ _ _ [_, _, _, _, _, _, _] _ from ?_)
      repeat (go_big_quiet_step (fail))
      refine wpQuiet_nil ?_
      refine wpAnyH_all (rs := [7, 8]) (by kernel_rfl) (by decide) ?_
      intro i hi
      simp only [List.mem_cons, List.not_mem_nil, or_false] at hi
      rcases hi with rfl | rfl
      · refine wpOp_callG (some 50) rfl rfl (by kernel_rfl) 16 #[.agg #[.slice sa L.length sc], .agg #[.slice ai q.items.length ci, .int .i64 q.mode, .int .i64 q.after, .slice aw q.wh.length cw, .int .i64 q.within, .string q.by_, .slice ar q.ret.length cr], .slice (some ⟨g, 0, none⟩) n rc, .agg #[.slice al E.lists.length cl, .int .i64 E.each, .int .i64 E.at_]] (by kernel_rfl) _ (cE X2 hX) ?_
        rintro e Z ⟨rfl, gZ⟩
        have hZ := hX.trans (gZ.mono hX.size)
        refine ⟨_, rfl, ⟨⟨Z, hZ⟩, rfl⟩, ?_⟩
        simp only [Act.put, List.setIfInBounds_toArray, List.set_cons_succ, List.set_cons_zero]
        refine wpAnyH_all (rs := [8]) (by kernel_rfl) (by decide) ?_
        intro i hi
        simp only [List.mem_cons, List.not_mem_nil, or_false] at hi
        subst hi
        refine wpOp_val (v := .pointer (some ⟨Z.heap.size, 0, none⟩)) (w' := Z.alloc (.cells #[.bool false, .int .i64 0] 51)) (some 14) rfl rfl rfl (by kernel_rfl) ?_
        have hZ1 := hZ.trans ((galloc (Below.refl Z.heap.size Z) (.cells #[.bool false, .int .i64 0] 51)).mono hZ.size)
        have bZ1 := Bk.new Z #[.bool false, .int .i64 0] 51
        refine ⟨⟨⟨_, hZ1⟩, rfl⟩, ?_⟩
        simp only [Act.put, List.setIfInBounds_toArray, List.set_cons_succ, List.set_cons_zero]
        refine wpAnyH_all (rs := [9]) (by kernel_rfl) (by decide) ?_
        intro i hi
        simp only [List.mem_cons, List.not_mem_nil, or_false] at hi
        subst hi
        have tt : World.there (Z.alloc (.cells #[.bool false, .int .i64 0] 51)) Z.heap.size 0 2 := fun j hj => by
          rcases (show j = 0 ∨ j = 1 by omega) with rfl | rfl
          · exact ⟨by rw [Nat.add_zero, bZ1.at2.1]; rfl, bZ1.free _⟩
          · exact ⟨by rw [Nat.zero_add, bZ1.at2.2]; rfl, bZ1.free _⟩
        have hW2 : Below U.heap.size U (World.setCells (Z.alloc (.cells #[.bool false, .int .i64 0] 51)) Z.heap.size 0 [.bool xk, .int .i64 xn]) := gsetCells hZ1 (show U.heap.size ≤ Z.heap.size from hZ.size) _ _
        have bW2 : Bk (World.setCells (Z.alloc (.cells #[.bool false, .int .i64 0] 51)) Z.heap.size 0 [.bool xk, .int .i64 xn]) Z.heap.size #[.bool xk, .int .i64 xn] 51 := Bk.setCells (cs' := #[.bool xk, .int .i64 xn]) bZ1 rfl
        refine wpOp_store none rfl rfl rfl 51 (.tmp 14) (.tmp 50) rfl Z.heap.size 0 #[.bool xk, .int .i64 xn] rfl rfl tt (by kernel_rfl) (by kernel_rfl) ?_
        refine ⟨⟨⟨_, hW2⟩, rfl⟩, ?_⟩
        simp only [Act.put, List.setIfInBounds_toArray, List.set_cons_succ, List.set_cons_zero]
        refine wpAnyH_done (by kernel_rfl) ?_ _
        try simp only [Exit.then]
        go_step
        go_meet
        case rel => exact ⟨Z.heap.size, rfl, bW2, hW2, hZ.size⟩
      · refine wpOp_val (v := .pointer (some ⟨X2.heap.size, 0, none⟩)) (w' := X2.alloc (.cells #[.bool false, .int .i64 0] 51)) (some 14) rfl rfl rfl (by kernel_rfl) ?_
        have hX1 := hX.trans ((galloc (Below.refl X2.heap.size X2) (.cells #[.bool false, .int .i64 0] 51)).mono hX.size)
        have bX1 := Bk.new X2 #[.bool false, .int .i64 0] 51
        refine ⟨⟨⟨_, hX1⟩, rfl⟩, ?_⟩
        simp only [Act.put, List.setIfInBounds_toArray, List.set_cons_succ, List.set_cons_zero]
        refine wpAnyH_all (rs := [7]) (by kernel_rfl) (by decide) ?_
        intro i hi
        simp only [List.mem_cons, List.not_mem_nil, or_false] at hi
        subst hi
        refine wpOp_callG (some 50) rfl rfl (by kernel_rfl) 16 #[.agg #[.slice sa L.length sc], .agg #[.slice ai q.items.length ci, .int .i64 q.mode, .int .i64 q.after, .slice aw q.wh.length cw, .int .i64 q.within, .string q.by_, .slice ar q.ret.length cr], .slice (some ⟨g, 0, none⟩) n rc, .agg #[.slice al E.lists.length cl, .int .i64 E.each, .int .i64 E.at_]] (by kernel_rfl) _ (cE _ hX1) ?_
        rintro e Z ⟨rfl, gZ⟩
        have hZ := hX1.trans (gZ.mono hX1.size)
        have bZ1 := bX1.keep gZ
        refine ⟨_, rfl, ⟨⟨Z, hZ⟩, rfl⟩, ?_⟩
        simp only [Act.put, List.setIfInBounds_toArray, List.set_cons_succ, List.set_cons_zero]
        refine wpAnyH_all (rs := [9]) (by kernel_rfl) (by decide) ?_
        intro i hi
        simp only [List.mem_cons, List.not_mem_nil, or_false] at hi
        subst hi
        have tt : World.there Z X2.heap.size 0 2 := fun j hj => by
          rcases (show j = 0 ∨ j = 1 by omega) with rfl | rfl
          · exact ⟨by rw [Nat.add_zero, bZ1.at2.1]; rfl, bZ1.free _⟩
          · exact ⟨by rw [Nat.zero_add, bZ1.at2.2]; rfl, bZ1.free _⟩
        have hW2 : Below U.heap.size U (World.setCells Z X2.heap.size 0 [.bool xk, .int .i64 xn]) := gsetCells hZ (show U.heap.size ≤ X2.heap.size from hX.size) _ _
        have bW2 : Bk (World.setCells Z X2.heap.size 0 [.bool xk, .int .i64 xn]) X2.heap.size #[.bool xk, .int .i64 xn] 51 := Bk.setCells (cs' := #[.bool xk, .int .i64 xn]) bZ1 rfl
        refine wpOp_store none rfl rfl rfl 51 (.tmp 14) (.tmp 50) rfl X2.heap.size 0 #[.bool xk, .int .i64 xn] rfl rfl tt (by kernel_rfl) (by kernel_rfl) ?_
        refine ⟨⟨⟨_, hW2⟩, rfl⟩, ?_⟩
        simp only [Act.put, List.setIfInBounds_toArray, List.set_cons_succ, List.set_cons_zero]
        refine wpAnyH_done (by kernel_rfl) ?_ _
        try simp only [Exit.then]
        go_step
        go_meet
        case rel => exact ⟨X2.heap.size, rfl, bW2, hW2, hX.size⟩
    case rest =>
      obtain ⟨bv, rfl, BV, G9, hbv⟩ := hcut
      have GV := gtrans GU G9
      have i1 := i1.keep G9
      have i2 := i2.keep G9
      have EU := EU.keep G9
      have S4 := S4.keep G9
      have IS4 := IS4.keep G9
      have Q3 := Q3.keep G9
      have IQ3 := IQ3.keep G9
      have N2 := N2.keep G9
      have C6 := C6.keep G9
      have IE2 := IE2.keep G9
      have NE2 := NE2.keep G9
      have NR := NR.keep G9
      have O8 := own_keep O8 G9
      have gR := gtrans gR G9
      have hbW : bw ≤ wc.heap.size := Nat.le_trans hbU G9.size
      have hbvw : bw ≤ bv := Nat.le_trans hbU hbv
      clear s0 q0 q1 q2 q3 q4 q5 q6 t0 t1 t2 hne0 ps0 pq0 pq1 pq2 pq3 pq4 pq5 pq6 pt0 pt1 pt2 cE GU G9 hbU hbv
      have y1 : ∀ z : Ext wc, Calls Tryz.prog 22 #[.agg #[.slice s2a L.length s2c], .agg #[.slice ai2 q.items.length ci2, .int .i64 q.mode, .int .i64 q.after, .slice aw q.wh.length cw, .int .i64 q.within, .string q.by_, .slice ar q.ret.length cr], .slice t2a n t2c, .agg #[.slice a6 E.lists.length c6, .int .i64 E.each, .int .i64 E.at_]] z.X (fun e w'' => e = .returned (.agg #[.bool xk, .int .i64 xn]) ∧ ∃ m : Ext wc, w'' = m.X) := fun z => ext_of (by
        have c := refEval_any s2a s2c L q hq _ ai2 ci2 aw cw ar cr ns t2a t2c E a6 c6 z.X (K.keep (gtrans GV z.h)) (IS4.keep z.h) (IQ3.keep z.h) (N2.keep z.h) (IE2.keep z.h) hf (by rw [HN.out]; exact hr1) hE
        rw [hx2.out, HN.out] at c
        exact c)
      have y2 : ∀ z : Ext wc, Calls Tryz.prog 23 #[.agg #[.slice sa L.length sc], .agg #[.slice s2a L.length s2c], .agg #[.slice ai q.items.length ci, .int .i64 q.mode, .int .i64 q.after, .slice aw q.wh.length cw, .int .i64 q.within, .string q.by_, .slice ar q.ret.length cr], .agg #[.slice ai2 q.items.length ci2, .int .i64 q.mode, .int .i64 q.after, .slice aw q.wh.length cw, .int .i64 q.within, .string q.by_, .slice ar q.ret.length cr], .slice (some ⟨g, 0, none⟩) n rc, .slice t2a n t2c] z.X (fun e w'' => e = .returned (.bool true) ∧ ∃ m : Ext wc, w'' = m.X) := fun z => ext_of (by
        have c := sameTexts_true L sa s2a sc s2c q hq _ _ ai ci aw cw ar cr ai2 ci2 aw cw ar cr ns (some ⟨g, 0, none⟩) t2a rc t2c z.X (A.keep (gtrans GV z.h)) (IS4.keep z.h) (AQ.keep (gtrans GV z.h)) (IQ3.keep z.h) (rm_tree (NR.keep z.h)) (N2.keep z.h) (by omega) (by rw [HN.out]; exact hr1)
        rw [HN.out] at c
        exact c)
      have y3 : ∀ (o l c : Nat), o = n * 6 → l = 40 → ∀ z : Ext wc, Calls Tryz.prog 24 #[.slice (some ⟨g, o, none⟩) l c] z.X (fun e w'' => e = .returned (.bool true) ∧ ∃ m : Ext wc, w'' = m.X) := fun o l cc ho hl z => ext_of (by
        have c := spared_true _ (marks_at ns) (marks_len ns) (some ⟨g, ns.length * 6, none⟩) cc z.X (rm_marks (NR.keep z.h))
        rw [HN.out] at c
        rw [ho, hl]
        exact c)
      have y4 : ∀ z : Ext wc, Calls Tryz.prog 25 #[.slice al E.lists.length cl, .slice a6 E.lists.length c6] z.X (fun e w'' => e = .returned (.bool true) ∧ ∃ m : Ext wc, w'' = m.X) := fun z => ext_of (sameLists_true E.lists al a6 cl c6 z.X (IE.n.keep (gtrans GV z.h)) (NE2.keep z.h) (by omega) hEl)
      have s0 := i1.one1
      obtain ⟨q0, q1, q2, q3, q4, q5, q6⟩ := i2.at7
      obtain ⟨t0, t1, t2⟩ := EU.at3
      have a0 := S4.one1
      obtain ⟨x0, x1, x2, x3, x4, x5, x6⟩ := Q3.at7
      obtain ⟨m0, m1, m2⟩ := C6.at3
      obtain ⟨v0, v1⟩ := BV.at2
      have hne0 : Nonempty (Ext wc) := ⟨⟨_, Below.refl _ _⟩⟩
      have ps0 := fun z : Ext wc => (z.cell _ _ (lt_of_cell s0)).trans s0
      have pq0 := fun z : Ext wc => (z.cell _ _ (lt_of_cell q0)).trans q0
      have pq1 := fun z : Ext wc => (z.cell _ _ (lt_of_cell q1)).trans q1
      have pq2 := fun z : Ext wc => (z.cell _ _ (lt_of_cell q2)).trans q2
      have pq3 := fun z : Ext wc => (z.cell _ _ (lt_of_cell q3)).trans q3
      have pq4 := fun z : Ext wc => (z.cell _ _ (lt_of_cell q4)).trans q4
      have pq5 := fun z : Ext wc => (z.cell _ _ (lt_of_cell q5)).trans q5
      have pq6 := fun z : Ext wc => (z.cell _ _ (lt_of_cell q6)).trans q6
      have pt0 := fun z : Ext wc => (z.cell _ _ (lt_of_cell t0)).trans t0
      have pt1 := fun z : Ext wc => (z.cell _ _ (lt_of_cell t1)).trans t1
      have pt2 := fun z : Ext wc => (z.cell _ _ (lt_of_cell t2)).trans t2
      have pa0 := fun z : Ext wc => (z.cell _ _ (lt_of_cell a0)).trans a0
      have px0 := fun z : Ext wc => (z.cell _ _ (lt_of_cell x0)).trans x0
      have px1 := fun z : Ext wc => (z.cell _ _ (lt_of_cell x1)).trans x1
      have px2 := fun z : Ext wc => (z.cell _ _ (lt_of_cell x2)).trans x2
      have px3 := fun z : Ext wc => (z.cell _ _ (lt_of_cell x3)).trans x3
      have px4 := fun z : Ext wc => (z.cell _ _ (lt_of_cell x4)).trans x4
      have px5 := fun z : Ext wc => (z.cell _ _ (lt_of_cell x5)).trans x5
      have px6 := fun z : Ext wc => (z.cell _ _ (lt_of_cell x6)).trans x6
      have pm0 := fun z : Ext wc => (z.cell _ _ (lt_of_cell m0)).trans m0
      have pm1 := fun z : Ext wc => (z.cell _ _ (lt_of_cell m1)).trans m1
      have pm2 := fun z : Ext wc => (z.cell _ _ (lt_of_cell m2)).trans m2
      have pv0 := fun z : Ext wc => (z.cell _ _ (lt_of_cell v0)).trans v0
      have pv1 := fun z : Ext wc => (z.cell _ _ (lt_of_cell v1)).trans v1
      have eqe := val_self xk xn
      have hrcn : ¬ rc = n := by have := HN.out; omega
      go_upto_region 9 with fail
      refine wp_region_ext (by kernel_rfl) (by kernel_rfl) ?_
      repeat (first
        | (refine quiet_neq_same rfl _ _ _ rfl (by kernel_rfl) _ eqe rfl rfl _ rfl ?_; simp only [Act.put, List.setIfInBounds_toArray, List.set_cons_succ, List.set_cons_zero])
        | go_big_quiet_step (first | (go_at_call 22; with_reducible exact y1 _) | (go_at_call 23; with_reducible exact y2 _) | (go_at_call 24; with_reducible exact y3 _ _ _ (by omega) (by omega) _) | (go_at_call 25; with_reducible exact y4 _)))
      refine wpQuiet_nil ?_
      intro _ hw'
      obtain ⟨nz, hw''⟩ := hw'
      subst hw''
      have g9 := nz.h
      generalize nz.X = X9 at *
      have i1 := i1.keep g9
      have i2 := i2.keep g9
      have EU := EU.keep g9
      have S4 := S4.keep g9
      have IS4 := IS4.keep g9
      have Q3 := Q3.keep g9
      have IQ3 := IQ3.keep g9
      have NR := NR.keep g9
      have BV := BV.keep g9
      have O8 := own_keep O8 g9
      have gR := gtrans gR g9
      have GX9 := gtrans GV g9
      have hb9 : bw ≤ X9.heap.size := Nat.le_trans hbW g9.size
      clear s0 q0 q1 q2 q3 q4 q5 q6 t0 t1 t2 a0 x0 x1 x2 x3 x4 x5 x6 m0 m1 m2 v0 v1 hne0 ps0 pq0 pq1 pq2 pq3 pq4 pq5 pq6 pt0 pt1 pt2 pa0 px0 px1 px2 px3 px4 px5 px6 pm0 pm1 pm2 pv0 pv1 y1 y2 y3 y4 g9 GV C6 IE2 NE2 N2 hbW
      have ctl : ∀ Y, Below X9.heap.size X9 Y → Calls Tryz.prog 20 #[.slice al E.lists.length cl] Y fun e w' => TwR E.lists Y e w' ∧ Below Y.heap.size Y w' := fun Y G => twinLists_any E.lists al cl Y (IE.n.keep (gtrans GX9 G)) hEn hEl
      have hSn : ∀ Y, Below X9.heap.size X9 Y → Y.cell? ⟨w.heap.size + 2, 0, none⟩ = some (.slice al E.lists.length cl) ∧ Y.cell? ⟨w.heap.size + 2, 1, none⟩ = some (.int .i64 E.each) ∧ Y.cell? ⟨w.heap.size + 2, 2, none⟩ = some (.int .i64 E.at_) := fun Y G => ⟨(EU.keep G).at3.1, (EU.keep G).at3.2.1, (EU.keep G).at3.2.2⟩
      have Gd := (Below.refl X9.heap.size X9).drew
      have hSd := hSn _ Gd
      have Ga := (galloc (Below.refl X9.heap.size X9) (.cells #[.slice none 0 0, .int .i64 0, .int .i64 0] 34)).drew
      have hSa := hSn _ Ga
      have ZA : Bk (X9.alloc (.cells #[.slice none 0 0, .int .i64 0, .int .i64 0] 34)).drew X9.heap.size #[.slice none 0 0, .int .i64 0, .int .i64 0] 34 := Bk.new X9 #[.slice none 0 0, .int .i64 0, .int .i64 0] 34
      go_upto_region 11 with fail
      go_cut [15] from 87 to 94 (fun s wx => EnvR7 E X9 wx s)
      case first =>
        go_region_held3 (fun Y : World => Y.cell? ⟨w.heap.size + 2, 0, none⟩ = some (.slice al E.lists.length cl) ∧ Y.cell? ⟨w.heap.size + 2, 1, none⟩ = some (.int .i64 E.each) ∧ Y.cell? ⟨w.heap.size + 2, 2, none⟩ = some (.int .i64 E.at_)) (first | (with_reducible exact hSd) | (with_reducible exact hSa) | (with_reducible exact hSu) | (with_reducible exact hSua) | (with_reducible exact hS9) | go_keep) (first
          | (go_at_call 20; (with_reducible refine (ctl _ Gd).mono ?_); rintro _ u ⟨⟨vt, wt, rfl, NT⟩, gt⟩; obtain ⟨at', ct', rfl, _, _, _⟩ := own_form NT.own; have GU := gtrans Gd gt; have hSu := hSn _ GU; have hSua := hSn _ (galloc GU (.cells #[.slice none 0 0, .int .i64 0, .int .i64 0] 34)); have zu : X9.heap.size ≤ u.heap.size := GU.size; have G9 := galloc GU (.cells #[.slice at' E.lists.length ct', .int .i64 E.each, .int .i64 E.at_] 34); have hS9 := hSn _ G9; have Z9 := Bk.new u #[.slice at' E.lists.length ct', .int .i64 E.each, .int .i64 E.at_] 34; have N9 := (NT.keep (galloc (Below.refl u.heap.size u) (.cells #[.slice at' E.lists.length ct', .int .i64 E.each, .int .i64 E.at_] 34))).mono (show X9.heap.size ≤ _ from by simp); have fin : EnvR7 E X9 _ (.pointer (some ⟨u.heap.size, 0, none⟩)) := ⟨⟨u.heap.size, at', ct', wt, rfl, zu, Z9, N9, G9⟩⟩)
          | (go_at_call 20; (with_reducible refine (ctl _ Ga).mono ?_); rintro _ u ⟨⟨vt, wt, rfl, NT⟩, gt⟩; obtain ⟨at', ct', rfl, _, _, _⟩ := own_form NT.own; have GU := gtrans Ga gt; have hSu := hSn _ GU; have ZU := ZA.keep gt; obtain ⟨zu0, zu1, zu2⟩ := ZU.at3; have zuf := ZU.free; have zu : X9.heap.size ≤ X9.heap.size := Nat.le_refl _; have G9 := gset (gset (gset GU (p := ⟨X9.heap.size, 0, none⟩) zu (.slice at' E.lists.length ct')) (p := ⟨X9.heap.size, 1, none⟩) zu (.int .i64 E.each)) (p := ⟨X9.heap.size, 2, none⟩) zu (.int .i64 E.at_); have hS9 := hSn _ G9; have Z9 := ((ZU.set 0 (.slice at' E.lists.length ct')).set 1 (.int .i64 E.each)).set 2 (.int .i64 E.at_); have N9 := onst_but7 (NT.mono (show X9.heap.size ≤ _ from by simp)) ZU (by decide) (by decide) ((((But.refl X9.heap.size u).set 0 (.slice at' E.lists.length ct')).set 1 (.int .i64 E.each)).set 2 (.int .i64 E.at_)); have fin : EnvR7 E X9 _ (.pointer (some ⟨X9.heap.size, 0, none⟩)) := ⟨⟨X9.heap.size, at', ct', wt, rfl, zu, Z9, N9, G9⟩⟩))
        all_goals
          go_wp2
          go_meet
          case rel => exact fin
      case rest =>
        obtain ⟨⟨b15, a15, c15, w15, rfl, hb15, C15, N15, G15⟩⟩ := hcut
        clear hSn hSd hSa Ga Gd ctl ZA
        have i1 := i1.keep G15
        have i2 := i2.keep G15
        have EU := EU.keep G15
        have S4 := S4.keep G15
        have IS4 := IS4.keep G15
        have Q3 := Q3.keep G15
        have IQ3 := IQ3.keep G15
        have NR := NR.keep G15
        have BV := BV.keep G15
        have O8 := own_keep O8 G15
        have gR := gtrans gR G15
        have hz15 := G15.size
        have GV := gtrans GX9 G15
        have hbW : bw ≤ wc.heap.size := Nat.le_trans hb9 G15.size
        have hn15 := Nat.le_trans hb9 hb15
        clear G15 GX9
        have IE5 := onst_env7 N15
        have cE : ∀ z : Ext wc, Calls Tryz.prog 16 #[.agg #[.slice sa L.length sc], .agg #[.slice ai q.items.length ci, .int .i64 q.mode, .int .i64 q.after, .slice aw q.wh.length cw, .int .i64 q.within, .string q.by_, .slice ar q.ret.length cr], .slice (some ⟨g, 0, none⟩) n rc, .agg #[.slice a15 E.lists.length c15, .int .i64 E.each, .int .i64 E.at_]] z.X (fun e w'' => e = .returned (.agg #[.bool xk, .int .i64 xn]) ∧ ∃ m : Ext wc, w'' = m.X) := fun z => ext_of (by
          have c := eval_any2 sa sc L q hq _ ai ci aw cw ar cr ns (some ⟨g, 0, none⟩) rc E a15 c15 z.X (K.keep (gtrans GV z.h)) (T.keep (gtrans GV z.h)) (A.keep (gtrans GV z.h)) (AQ.keep (gtrans GV z.h)) (rm_tree (NR.keep z.h)) (IE5.keep z.h) hf (by rw [HN.out]; exact hr1) hE
          rw [hx2.out, HN.out] at c
          exact c)
        have s0 := i1.one1
        obtain ⟨q0, q1, q2, q3, q4, q5, q6⟩ := i2.at7
        obtain ⟨m0, m1, m2⟩ := C15.at3
        obtain ⟨v0, v1⟩ := BV.at2
        have hne0 : Nonempty (Ext wc) := ⟨⟨_, Below.refl _ _⟩⟩
        have ps0 := fun z : Ext wc => (z.cell _ _ (lt_of_cell s0)).trans s0
        have pq0 := fun z : Ext wc => (z.cell _ _ (lt_of_cell q0)).trans q0
        have pq1 := fun z : Ext wc => (z.cell _ _ (lt_of_cell q1)).trans q1
        have pq2 := fun z : Ext wc => (z.cell _ _ (lt_of_cell q2)).trans q2
        have pq3 := fun z : Ext wc => (z.cell _ _ (lt_of_cell q3)).trans q3
        have pq4 := fun z : Ext wc => (z.cell _ _ (lt_of_cell q4)).trans q4
        have pq5 := fun z : Ext wc => (z.cell _ _ (lt_of_cell q5)).trans q5
        have pq6 := fun z : Ext wc => (z.cell _ _ (lt_of_cell q6)).trans q6
        have pm0 := fun z : Ext wc => (z.cell _ _ (lt_of_cell m0)).trans m0
        have pm1 := fun z : Ext wc => (z.cell _ _ (lt_of_cell m1)).trans m1
        have pm2 := fun z : Ext wc => (z.cell _ _ (lt_of_cell m2)).trans m2
        have pv0 := fun z : Ext wc => (z.cell _ _ (lt_of_cell v0)).trans v0
        have pv1 := fun z : Ext wc => (z.cell _ _ (lt_of_cell v1)).trans v1
        go_upto_region 12 with fail
        refine wp_region_ext (by kernel_rfl) (by kernel_rfl) ?_
        repeat (first
          | (refine quiet_neq_same rfl _ _ _ rfl (by kernel_rfl) _ eqe rfl rfl _ rfl ?_; simp only [Act.put, List.setIfInBounds_toArray, List.set_cons_succ, List.set_cons_zero])
          | go_big_quiet_step (first | (go_at_call 16; with_reducible exact cE _)))
        refine wpQuiet_nil ?_
        intro _ hw'
        obtain ⟨nz, hw''⟩ := hw'
        subst hw''
        have g12 := nz.h
        generalize nz.X = X12 at *
        have i1 := i1.keep g12
        have i2 := i2.keep g12
        have EU := EU.keep g12
        have S4 := S4.keep g12
        have IS4 := IS4.keep g12
        have Q3 := Q3.keep g12
        have IQ3 := IQ3.keep g12
        have C15 := C15.keep g12
        have N15 := N15.keep g12
        have O8 := own_keep O8 g12
        have gR := gtrans gR g12
        have hz15 := Nat.le_trans hz15 g12.size
        have GX := gtrans GV g12
        have hb12 : bw ≤ X12.heap.size := Nat.le_trans hbW g12.size
        clear s0 q0 q1 q2 q3 q4 q5 q6 m0 m1 m2 v0 v1 hne0 ps0 pq0 pq1 pq2 pq3 pq4 pq5 pq6 pm0 pm1 pm2 pv0 pv1 cE g12 GV IE5 BV NR eqe hbW
        -- the copy written over
        have cT := turned_any (rmL ns 40) g bw (n + 40) rc n rc (by omega) (by omega) X12 (by rw [rmL_len, HN.out]) (rmL_fit hf) O8
        go_upto_region 15 with (go_at_call 26; (with_reducible refine cT.mono ?_); rintro _ U ⟨⟨_, rfl⟩, ⟨⟨ms, hml, hmf, OM⟩, kt, low⟩⟩)
        have j1 := bk_kt kt i1 (by decide)
        have j2 := bk_kt kt i2 (by decide)
        have j3 := bk_kt kt EU (by decide)
        have jS := bk_kt kt S4 (by decide)
        have jQ := bk_kt kt Q3 (by decide)
        have jC := bk_kt kt C15 (by decide)
        have jN := onst_kt7 N15 kt (by decide) (by decide)
        have GU := GX.trans (low.mono hwb)
        have GRU : Below WR.heap.size WR U := gR.trans (by rw [HBW.out]; exact low)
        have hzU : X9.heap.size ≤ U.heap.size := Nat.le_trans hz15 low.size
        have cO := otherwise_any E.lists X9.heap.size a15 c15 w15 U jN hE.e (by omega) hEl hzU
        obtain ⟨m0, m1, m2⟩ := jC.at3
        clear cT i1 i2 EU S4 Q3 C15 N15 IS4 IQ3 O8 gR GX kt low hz15 hb12
        go_upto_region 16 with (go_at_call 27; (with_reducible refine cO.mono ?_); rintro _ u ⟨⟨_, rfl⟩, ⟨⟨l', hl1, hl2, hl3, N5, K5, B55⟩⟩⟩)
        have h1 := bk_kt K5 j1 (by decide)
        have h2 := bk_kt K5 j2 (by decide)
        have h3 := bk_kt K5 j3 (by decide)
        have hS := bk_kt K5 jS (by decide)
        have hQ := bk_kt K5 jQ (by decide)
        have hC := bk_kt K5 jC (by decide)
        have OU := own_kt K5 OM (by decide)
        have Gu : Below w.heap.size w u := GU.trans (B55.mono (Nat.le_trans hwb hb9))
        have GRu : Below WR.heap.size WR u := GRU.trans (B55.mono (by rw [HBW.out]; exact hb9))
        have ISu := ISr.keep GRu
        have IQu := IQr.keep GRu
        clear m0 m1 m2 j1 j2 j3 jS jQ jC jN OM GU GRU GRu ISr IQr cO K5 B55 hzU HBW
        have hE' : (⟨l', E.each, E.at_⟩ : Envr).ok := ⟨by show l'.length * 24 ≤ _; rw [hl1]; exact hE.n, fun k => by show (l'.getD k []).length * 88 ≤ _; rw [hl2]; exact hE.l k, hl3, hE.f0, hE.f1, fun k => by show (l'.getD k []).length ≤ _; rw [hl2]; exact hE.b k⟩
        have N5' : ONst u X9.heap.size 65 76 11 evC (.slice a15 l'.length c15) l' w15 := by rw [hl1]; exact N5
        have IE5 := onst_env7 (E := ⟨l', E.each, E.at_⟩) N5'
        have NE5 := N5'.nst
        have NM : IsNds u (some ⟨g, 0, none⟩) ms := nds_of_own (b := bw) (c := rc) (by rw [hml]; exact OU)
        obtain ⟨ns', hns⟩ : ∃ ns', ms.take n = ns' := ⟨_, rfl⟩
        have NT := take_nds NM n
        have hf' := take_fit hmf n
        have hn' : (ms.take n).length = n := by rw [List.length_take, hml]; omega
        rw [hns] at NT hf' hn'
        obtain ⟨⟨yk, yn⟩, hy⟩ : ∃ y, evalV L q ⟨l', E.each, E.at_⟩ ns' = y := ⟨_, rfl⟩
        have hr' : ns'.length * 64 ≤ 140737488351232 := by rw [hn']; omega
        have cA : ∀ (X : World) (G : Below u.heap.size u X), Calls Tryz.prog 16 #[.agg #[.slice sa L.length sc], .agg #[.slice ai q.items.length ci, .int .i64 q.mode, .int .i64 q.after, .slice aw q.wh.length cw, .int .i64 q.within, .string q.by_, .slice ar q.ret.length cr], .slice (some ⟨g, 0, none⟩) n rc, .agg #[.slice a15 E.lists.length c15, .int .i64 E.each, .int .i64 E.at_]] X (fun e w' => e = .returned (.agg #[.bool yk, .int .i64 yn]) ∧ Below X.heap.size X w') := fun X G => by
          have c := eval_any2 sa sc L q hq _ ai ci aw cw ar cr ns' (some ⟨g, 0, none⟩) rc ⟨l', E.each, E.at_⟩ a15 c15 X (K.keep (gtrans Gu G)) (T.keep (gtrans Gu G)) (A.keep (gtrans Gu G)) (AQ.keep (gtrans Gu G)) (NT.keep G) (IE5.keep G) hf' hr' hE'
          rw [hy, hn'] at c
          unfold envA VA at c
          dsimp only at c
          rw [hl1] at c
          exact c
        have cB : ∀ (X : World) (G : Below u.heap.size u X), Calls Tryz.prog 19 #[.slice (some ⟨g, 0, none⟩) n rc] X (fun e w' => ∃ v, e = .returned v ∧ w'.ownsRow X.heap.size 64 6 v n (ndsV ns') ∧ Below X.heap.size X w') := fun X G => by
          have c := twinN7_any ns' (some ⟨g, 0, none⟩) rc X (fun h => by cases h) (NT.keep G) hr'
          rw [hn'] at c
          exact c
        have cC : ∀ (X : World) (G : Below u.heap.size u X), Calls Tryz.prog 20 #[.slice a15 E.lists.length c15] X (fun e w' => TwR l' X e w' ∧ Below X.heap.size X w') := fun X G => by
          have c := twinLists_any l' a15 c15 X (NE5.keep G) (by rw [hl1]; exact hEn) (fun k => by rw [hl2]; exact hEl k)
          rw [hl1] at c
          exact c
        have cD : ∀ (X : World) (G : Below u.heap.size u X) (t3a : Option Addr) (t3c : Nat) (a17 : Option Addr) (c17 : Nat) (N3 : IsNds X t3a ns') (NE : IsEnv X ⟨l', E.each, E.at_⟩ a17 c17), Calls Tryz.prog 22 #[.agg #[.slice s2a L.length s2c], .agg #[.slice ai2 q.items.length ci2, .int .i64 q.mode, .int .i64 q.after, .slice aw q.wh.length cw, .int .i64 q.within, .string q.by_, .slice ar q.ret.length cr], .slice t3a n t3c, .agg #[.slice a17 E.lists.length c17, .int .i64 E.each, .int .i64 E.at_]] X (fun e w' => e = .returned (.agg #[.bool yk, .int .i64 yn]) ∧ Below X.heap.size X w') := fun X G t3a t3c a17 c17 N3 NE => by
          have c := refEval_any s2a s2c L q hq _ ai2 ci2 aw cw ar cr ns' t3a t3c ⟨l', E.each, E.at_⟩ a17 c17 X (K.keep (gtrans Gu G)) (ISu.keep G) (IQu.keep G) N3 NE hf' hr' hE'
          rw [hy, hn'] at c
          unfold envA VA at c
          dsimp only at c
          rw [hl1] at c
          exact c
        have s0 := h1.one1
        obtain ⟨q0, q1, q2, q3, q4, q5, q6⟩ := h2.at7
        obtain ⟨t0, t1, t2⟩ := h3.at3
        have a0 := hS.one1
        obtain ⟨x0, x1, x2, x3, x4, x5, x6⟩ := hQ.at7
        obtain ⟨m0, m1, m2⟩ := hC.at3
        have hne0 : Nonempty (Ext u) := ⟨⟨_, Below.refl _ _⟩⟩
        have ps0 := fun z : Ext u => (z.cell _ _ (lt_of_cell s0)).trans s0
        have pq0 := fun z : Ext u => (z.cell _ _ (lt_of_cell q0)).trans q0
        have pq1 := fun z : Ext u => (z.cell _ _ (lt_of_cell q1)).trans q1
        have pq2 := fun z : Ext u => (z.cell _ _ (lt_of_cell q2)).trans q2
        have pq3 := fun z : Ext u => (z.cell _ _ (lt_of_cell q3)).trans q3
        have pq4 := fun z : Ext u => (z.cell _ _ (lt_of_cell q4)).trans q4
        have pq5 := fun z : Ext u => (z.cell _ _ (lt_of_cell q5)).trans q5
        have pq6 := fun z : Ext u => (z.cell _ _ (lt_of_cell q6)).trans q6
        have pt0 := fun z : Ext u => (z.cell _ _ (lt_of_cell t0)).trans t0
        have pt1 := fun z : Ext u => (z.cell _ _ (lt_of_cell t1)).trans t1
        have pt2 := fun z : Ext u => (z.cell _ _ (lt_of_cell t2)).trans t2
        have pa0 := fun z : Ext u => (z.cell _ _ (lt_of_cell a0)).trans a0
        have px0 := fun z : Ext u => (z.cell _ _ (lt_of_cell x0)).trans x0
        have px1 := fun z : Ext u => (z.cell _ _ (lt_of_cell x1)).trans x1
        have px2 := fun z : Ext u => (z.cell _ _ (lt_of_cell x2)).trans x2
        have px3 := fun z : Ext u => (z.cell _ _ (lt_of_cell x3)).trans x3
        have px4 := fun z : Ext u => (z.cell _ _ (lt_of_cell x4)).trans x4
        have px5 := fun z : Ext u => (z.cell _ _ (lt_of_cell x5)).trans x5
        have px6 := fun z : Ext u => (z.cell _ _ (lt_of_cell x6)).trans x6
        have pm0 := fun z : Ext u => (z.cell _ _ (lt_of_cell m0)).trans m0
        have pm1 := fun z : Ext u => (z.cell _ _ (lt_of_cell m1)).trans m1
        have pm2 := fun z : Ext u => (z.cell _ _ (lt_of_cell m2)).trans m2
        clear h1 h2 h3 hS hQ hC OU N5 N5' NM hml hmf ISu IQu NE5 hns hy
        refine wp_region_held (S := fun X => ∃ n : Ext u, X = n.X) (by kernel_rfl) ?_
        have hX0 : Below u.heap.size u { u with drawn := u.drawn + 1 } := (Below.refl _ u).drew
        obtain ⟨W0, hXe⟩ : ∃ X, { u with drawn := u.drawn + 1 } = X := ⟨_, rfl⟩
        have hW0 : Below u.heap.size u W0 := hXe ▸ hX0
        rw [hXe]
        clear hX0 hXe
        refine anyH_pick (g := 7) [0, 1, 2, 3, 4, 5, 6, 8, 9, 10, 11, 12, 13, 15, 16, 18, 19, 20, 21] (by kernel_rfl) (fun c a d v w h => by cases d <;> exact h) ⟨⟨W0, hW0⟩, rfl⟩ rfl (by kernel_rfl) ?_
        simp only [pickL, List.filterMap_cons, List.filterMap_nil, List.getElem?_toArray, List.getElem?_cons_zero, List.getElem?_cons_succ]
        refine (show wpQuiet _ _ _ _ [_, _, _, _, _, _, _, _, _, _, _, _, _, _, _, _, _, _, _] _ from ?_)
        repeat (go_big_quiet_step (fail))
        refine wpQuiet_nil ?_
        refine wpAnyH_all (rs := [7]) (by kernel_rfl) (by decide) ?_
        intro i hi
        simp only [List.mem_cons, List.not_mem_nil, or_false] at hi
        subst hi
        refine wpOp_callG (some 120) rfl rfl (by kernel_rfl) 16 #[.agg #[.slice sa L.length sc], .agg #[.slice ai q.items.length ci, .int .i64 q.mode, .int .i64 q.after, .slice aw q.wh.length cw, .int .i64 q.within, .string q.by_, .slice ar q.ret.length cr], .slice (some ⟨g, 0, none⟩) n rc, .agg #[.slice a15 E.lists.length c15, .int .i64 E.each, .int .i64 E.at_]] (by kernel_rfl) _ (cA W0 hW0) ?_
        rintro e W1 ⟨rfl, gW1⟩
        have hW1 := hW0.trans (gW1.mono hW0.size)
        refine ⟨_, rfl, ⟨⟨W1, hW1⟩, rfl⟩, ?_⟩
        clear gW1
        simp only [Act.put, List.setIfInBounds_toArray, List.set_cons_succ, List.set_cons_zero]
        refine wpAnyH_all (rs := [14]) (by kernel_rfl) (by decide) ?_
        intro i hi
        simp only [List.mem_cons, List.not_mem_nil, or_false] at hi
        subst hi
        refine wpOp_callG (some 127) rfl rfl (by kernel_rfl) 19 #[.slice (some ⟨g, 0, none⟩) n rc] (by kernel_rfl) _ (cB W1 hW1) ?_
        rintro e W2 ⟨v3, rfl, O3, gW2⟩
        obtain ⟨t3a, t3c, rfl, _, _, _⟩ := own_form O3
        have N3 : IsNds W2 t3a ns' := nds_of_own (b := W1.heap.size) (c := t3c) (by rw [hn']; exact O3)
        clear O3
        have hW2 := hW1.trans (gW2.mono hW1.size)
        refine ⟨_, rfl, ⟨⟨W2, hW2⟩, rfl⟩, ?_⟩
        clear gW2
        simp only [Act.put, List.setIfInBounds_toArray, List.set_cons_succ, List.set_cons_zero]
        refine wpAnyH_all (rs := [17]) (by kernel_rfl) (by decide) ?_
        intro i hi
        simp only [List.mem_cons, List.not_mem_nil, or_false] at hi
        subst hi
        refine wpOp_callG (some 130) rfl rfl (by kernel_rfl) 20 #[.slice a15 E.lists.length c15] (by kernel_rfl) _ (cC W2 hW2) ?_
        rintro e W3 ⟨⟨vt, wt, rfl, NTT⟩, gW3⟩
        obtain ⟨a17, c17, rfl, _, _, _⟩ := own_form NTT.own
        have NE : IsEnv W3 ⟨l', E.each, E.at_⟩ a17 c17 := onst_env7 (E := ⟨l', E.each, E.at_⟩) NTT
        clear NTT
        have N3 := N3.keep gW3
        have hW3 := hW2.trans (gW3.mono hW2.size)
        refine ⟨_, rfl, ⟨⟨W3, hW3⟩, rfl⟩, ?_⟩
        clear gW3
        simp only [Act.put, List.setIfInBounds_toArray, List.set_cons_succ, List.set_cons_zero]
        refine anyH_pick (g := 3) [22] (by kernel_rfl) (fun c a d v w h => by cases d <;> exact h) ⟨⟨W3, hW3⟩, rfl⟩ rfl (by kernel_rfl) ?_
        simp only [pickL, List.filterMap_cons, List.filterMap_nil, List.getElem?_toArray, List.getElem?_cons_zero, List.getElem?_cons_succ]
        refine (show wpQuiet _ _ _ _ [_] _ from ?_)
        repeat (go_big_quiet_step (fail))
        refine wpQuiet_nil ?_
        refine wpAnyH_all (rs := [23]) (by kernel_rfl) (by decide) ?_
        intro i hi
        simp only [List.mem_cons, List.not_mem_nil, or_false] at hi
        subst hi
        refine wpOp_callG (some 136) rfl rfl (by kernel_rfl) 22 #[.agg #[.slice s2a L.length s2c], .agg #[.slice ai2 q.items.length ci2, .int .i64 q.mode, .int .i64 q.after, .slice aw q.wh.length cw, .int .i64 q.within, .string q.by_, .slice ar q.ret.length cr], .slice t3a n t3c, .agg #[.slice a17 E.lists.length c17, .int .i64 E.each, .int .i64 E.at_]] (by kernel_rfl) _ (cD W3 hW3 t3a t3c a17 c17 N3 NE) ?_
        rintro e W4 ⟨rfl, gW4⟩
        have hW4 := hW3.trans (gW4.mono hW3.size)
        refine ⟨_, rfl, ⟨⟨W4, hW4⟩, rfl⟩, ?_⟩
        clear gW4
        simp only [Act.put, List.setIfInBounds_toArray, List.set_cons_succ, List.set_cons_zero]
        refine anyH_pick (g := 0) [24, 25] (by kernel_rfl) (fun c a d v w h => by cases d <;> exact h) ⟨⟨W4, hW4⟩, rfl⟩ rfl (by kernel_rfl) ?_
        simp only [pickL, List.filterMap_cons, List.filterMap_nil, List.getElem?_toArray, List.getElem?_cons_zero, List.getElem?_cons_succ]
        refine (show wpQuiet _ _ _ _ [_, _] _ from ?_)
        repeat (first
          | (refine quiet_eql_val rfl _ _ rfl yk yn rfl rfl _ rfl ?_; simp only [Act.put, List.setIfInBounds_toArray, List.set_cons_succ, List.set_cons_zero])
          | go_big_quiet_step (fail))
        refine wpQuiet_nil ?_
        refine wpAnyH_done (by kernel_rfl) ?_ _
        try simp only [Exit.then]
        go_step
        go_wp2
        go_ret
        exact ⟨rfl, gtrans Gu hW4⟩

end Go.Proofs.YtglagbedgjkdbaaGreatDoor
