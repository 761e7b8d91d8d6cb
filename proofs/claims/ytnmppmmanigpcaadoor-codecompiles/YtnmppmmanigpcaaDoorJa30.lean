/- The law CodeCompiles: Compile of every list of nodes is the document's; what is handed in stays as it is. And what goes with it: 1 texts in one. -/
import Derived.Test.YtnmppmmanigpcaaDoorJa29
import Derived.Deep.CutRange
import Derived.Deep.RegionHeld3
namespace Go.Proofs.YtnmppmmanigpcaaDoor
open Go.RowKit Go.BigFrame Go.Proofs.YtnmppmmanigpcaaDoor.Ev
set_option linter.unusedVariables false
set_option linter.unusedSimpArgs false

/-- The tree ahead of its marks, and the marks. -/
theorem rm_treeC {w : World} {ao : Option Addr} {ns : List Nd} (A : IsNds w ao (rmL ns 40)) : IsNds w ao ns := fun i hi => by
  have := A i (by rw [rmL_len]; omega)
  rw [rmL_low ns 40 i hi] at this
  exact this
theorem rm_marksC {w : World} {g : Nat} {ns : List Nd} (A : IsNds w (some ⟨g, 0, none⟩) (rmL ns 40)) : IsNds w (some ⟨g, ns.length * 6, none⟩) (((rmL ns 40).drop ns.length).take 40) := by
  have := nds_sub A ns.length 40 (by rw [rmL_len]; omega)
  rw [Nat.zero_add] at this
  exact this
theorem marksC_at (ns : List Nd) (j : Nat) (h : j < 40) : (((rmL ns 40).drop ns.length).take 40).getD j noNd = mkd j := by
  rw [List.getD_eq_getElem?_getD, List.getElem?_take, if_pos h, List.getElem?_drop, ← List.getD_eq_getElem?_getD, rmL_high ns 40 j h]
theorem marksC_len (ns : List Nd) : (((rmL ns 40).drop ns.length).take 40).length = 40 := by
  rw [List.length_take, List.length_drop, rmL_len]
  omega
theorem rmLC_fit {ns : List Nd} (hf : ∀ k, (ns.getD k noNd).fit) (k : Nat) : ((rmL ns 40).getD k noNd).fit := by
  by_cases h : k < ns.length
  · rw [rmL_low ns 40 k h]; exact hf k
  · by_cases h2 : k < ns.length + 40
    · obtain ⟨j, rfl⟩ : ∃ j, k = ns.length + j := ⟨k - ns.length, by omega⟩
      rw [rmL_high ns 40 j (by omega)]
      exact ⟨show fI 0 from ⟨by decide, by decide⟩, show fI 61 from ⟨by decide, by decide⟩, by show fI (j : Int); unfold fI; omega, show fI 0 from ⟨by decide, by decide⟩, by show eS.size ≤ _; decide, by show eS.size ≤ _; decide⟩
    · rw [List.getD_eq_getElem?_getD, List.getElem?_eq_none (by rw [rmL_len]; omega)]
      exact noNd_fit
theorem take_ndsC {w : World} {ao : Option Addr} {ms : List Nd} (A : IsNds w ao ms) (n : Nat) : IsNds w ao (ms.take n) := fun i hi => by
  have hi2 : i < n ∧ i < ms.length := by simp at hi; omega
  have := A i hi2.2
  rw [List.getD_eq_getElem?_getD, List.getElem?_take, if_pos hi2.1, ← List.getD_eq_getElem?_getD]
  exact this
theorem take_fitC {ms : List Nd} (h : ∀ k, (ms.getD k noNd).fit) (n : Nat) : ∀ k, ((ms.take n).getD k noNd).fit := fun k => by
  rw [List.getD_eq_getElem?_getD, List.getElem?_take]
  split
  · rw [← List.getD_eq_getElem?_getD]; exact h k
  · exact noNd_fit
/-- A program in a local: its block, and rows of its own. -/
structure PrgL (p : Prg) (U wx : World) (s : Value) : Prop where
  ex : ∃ b bs ai ci ac cc ws, s = .pointer (some ⟨b, 0, none⟩) ∧ Bk wx b #[.slice ai p.code.length ci, .slice ac p.cols.length cc] 40 ∧ PrO p bs ai ci ac cc ws wx ∧ Below U.heap.size U wx ∧ U.heap.size ≤ b
theorem PrO.but {p : Prg} {b : Nat} {ao : Option Addr} {ca : Nat} {av : Option Addr} {cv : Nat} {ws : List Value} {w u : World} (h : PrO p b ao ca av cv ws w) {bb : Nat} {cs : Array Value} (B : Bk w bb cs 40) (e : But bb w u) : PrO p b ao ca av cv ws u := h.map fun _ _ _ _ _ he o => own_but o B (by rcases he with rfl | rfl | rfl <;> decide) e
theorem PrO.kt {p : Prg} {b : Nat} {ao : Option Addr} {ca : Nat} {av : Option Addr} {cv : Nat} {ws : List Value} {w u : World} (h : PrO p b ao ca av cv ws w) (k : KT 63 w u) : PrO p b ao ca av cv ws u := h.map fun _ _ _ _ _ he o => own_kt k o (by rcases he with rfl | rfl | rfl <;> decide)
theorem compile_own (sa : Option Addr) (sc : Nat) (L : List Ty) (q : Qy) (hq : q.fit) (cs : Array Value) (ai : Option Addr) (ci : Nat) (aw : Option Addr) (cw : Nat) (ar : Option Addr) (cr : Nat) (ns : List Nd) (ao : Option Addr) (cap : Nat) (w : World) (K : KwAt w) (A : IsTypes w sa L.length L) (AQ : IsQ w q cs ai ci aw cw ar cr) (AN : IsNds w ao ns)
    (hf : ∀ k, (ns.getD k noNd).fit) (hr : ns.length * 64 ≤ 140737488351232) (hL : L.length * 8 ≤ 140737488351232) :
    Calls Tryd.prog 11 #[.agg #[.slice sa L.length sc], .agg cs, .slice ao ns.length cap] w fun e w' => ∃ ai ci ac cc ws, e = .returned (prgA (cmpG L q ns) ai ci ac cc) ∧ PrO (cmpG L q ns) w.heap.size ai ci ac cc ws w' ∧ Below w.heap.size w w' :=
  (compile_any sa sc L q hq cs ai ci aw cw ar cr ns ao cap w K A AQ AN hf hr hL).mono fun _ _ h => by
    obtain ⟨ai, ci, ac, cc, ws, he, _, G, O, P⟩ := h.pr
    exact ⟨ai, ci, ac, cc, ws, he, ⟨O, P⟩, G⟩
set_option maxRecDepth 100000 in
set_option maxHeartbeats 64000000 in
theorem codeCompiles_walk (sa : Option Addr) (sc : Nat) (L : List Ty) (q : Qy) (hq : q.fit) (cs : Array Value) (ai : Option Addr) (ci : Nat) (aw : Option Addr) (cw : Nat) (ar : Option Addr) (cr : Nat) (ns : List Nd) (ao : Option Addr) (cap : Nat) (hno : ao = none → ns.length = 0 ∧ cap = 0) (w : World) (K : KwAt w) (A : IsTypes w sa L.length L) (AQ : IsQ w q cs ai ci aw cw ar cr) (AN : IsNds w ao ns)
    (hf : ∀ k, (ns.getD k noNd).fit) (hr : ns.length * 64 ≤ 140737488351232) (hL : L.length * 40 ≤ 140737488351232) (hLs : ∀ j, (L.getD j noTy).2.length * 16 ≤ 140737488351232) :
    Calls Tryd.prog 3 #[.agg #[.slice sa L.length sc], .agg cs, .slice ao ns.length cap] w fun e w' => e = .returned (.bool true) ∧ Below w.heap.size w w' := by
  have hcs := AQ.eq
  subst hcs
  have hr1 : ns.length * 64 ≤ 140737488351232 := by omega
  have hL8 : L.length * 8 ≤ 140737488351232 := by omega
  have B1 := galloc (Below.refl w.heap.size w) (.cells #[.slice sa L.length sc] 24)
  have B3 := galloc B1 (.cells #[.slice ai q.items.length ci, .int .i64 q.mode, .int .i64 q.after, .slice aw q.wh.length cw, .int .i64 q.within, .string q.by_, .slice ar q.ret.length cr] 31)
  have k1 := (Bk.new w #[.slice sa L.length sc] 24).alloc (.cells #[.slice ai q.items.length ci, .int .i64 q.mode, .int .i64 q.after, .slice aw q.wh.length cw, .int .i64 q.within, .string q.by_, .slice ar q.ret.length cr] 31)
  have k2 := Bk.newE (w := w.alloc (.cells #[.slice sa L.length sc] 24)) (g := w.heap.size + 1) (by simp) #[.slice ai q.items.length ci, .int .i64 q.mode, .int .i64 q.after, .slice aw q.wh.length cw, .int .i64 q.within, .string q.by_, .slice ar q.ret.length cr] 31
  go_enter Tryd.func3, Tryd.ntmps3
  go_upto_region 1 with fail
  generalize (w.alloc _).alloc _ = V at *
  obtain ⟨q0, q1, q2, q3, q4, q5, q6⟩ := k2.at7
  have c1 := qBeyond_any q hq _ ai ci aw cw ar cr V (AQ.keep B3)
  have c2 := fun (u : World) (g : Below w.heap.size w u) => beyond_any ns ao cap u (AN.keep g) hr1 hf
  go_upto_region 3 with (first
    | (go_at_call 5; (with_reducible refine c1.mono ?_); rintro e u2 ⟨bb, rfl, g2⟩; have G2 := gtrans B3 g2; cases bb)
    | (go_at_call 6; (with_reducible refine (c2 _ G2).mono ?_); rintro e u3 ⟨bb, rfl, g3⟩; have G3 := gtrans G2 g3; cases bb))
  all_goals try (go_ret; (first | exact ⟨rfl, G2⟩ | exact ⟨rfl, G3⟩))
  have d1 := (k1.keep g2).keep g3
  have d2 := (k2.keep g2).keep g3
  clear k1 k2 c1 c2 q0 q1 q2 q3 q4 q5 q6 g2 g3 G2 B1 B3
  -- the twins
  have c0 := d1.one1
  have c4 := twinS7_any sa L.length sc L u3 (A.keep G3) hL hLs
  go_upto_region 4 with (go_at_call 7; (with_reducible refine c4.mono ?_); rintro e u4 ⟨v4, rfl, T4, g4⟩; obtain ⟨s2a, s2c, rfl, I4⟩ := T4.types)
  have g5 := galloc g4 (.cells #[.slice s2a L.length s2c] 24)
  have G5 := gtrans G3 g5
  have S2 := Bk.new u4 #[.slice s2a L.length s2c] 24
  have IS2 := I4.keep (galloc (Below.refl u4.heap.size u4) (.cells #[.slice s2a L.length s2c] 24))
  have e1 := d1.keep g5
  have e2 := d2.keep g5
  clear c0 c4 T4 I4 g4 d1 d2 g5 G3
  generalize u4.alloc _ = U5 at *
  generalize u4.heap.size = bs at *
  obtain ⟨q0, q1, q2, q3, q4, q5, q6⟩ := e2.at7
  have c5 := twinQ7_any q hq _ ai ci aw cw ar cr U5 (AQ.keep G5)
  go_upto_region 5 with (go_at_call 8; (with_reducible refine c5.mono ?_); rintro e u6 ⟨ai2, ci2, rfl, I6, g6⟩)
  have h6 := galloc g6 (.cells #[.slice ai2 q.items.length ci2, .int .i64 q.mode, .int .i64 q.after, .slice aw q.wh.length cw, .int .i64 q.within, .string q.by_, .slice ar q.ret.length cr] 31)
  have G6 := gtrans G5 h6
  have Q2 := Bk.new u6 #[.slice ai2 q.items.length ci2, .int .i64 q.mode, .int .i64 q.after, .slice aw q.wh.length cw, .int .i64 q.within, .string q.by_, .slice ar q.ret.length cr] 31
  have IQ2 := I6.keep (galloc (Below.refl u6.heap.size u6) (.cells #[.slice ai2 q.items.length ci2, .int .i64 q.mode, .int .i64 q.after, .slice aw q.wh.length cw, .int .i64 q.within, .string q.by_, .slice ar q.ret.length cr] 31))
  have f1 := e1.keep h6
  have f2 := e2.keep h6
  have S3 := S2.keep h6
  have IS3 := IS2.keep h6
  clear q0 q1 q2 q3 q4 q5 q6 c5 I6 g6 e1 e2 S2 IS2 h6 G5
  generalize u6.alloc _ = U6 at *
  generalize u6.heap.size = bq at *
  have c6 := twinN7_any ns ao cap U6 hno (AN.keep G6) hr1
  go_upto_region 6 with (go_at_call 9; (with_reducible refine c6.mono ?_); rintro e WR ⟨v7, rfl, O7, g7⟩; obtain ⟨t2a, t2c, rfl, _, _, _⟩ := own_form O7)
  have GW := gtrans G6 g7
  have N2 : IsNds WR t2a ns := nds_of_own O7
  have i1 := f1.keep g7
  have i2 := f2.keep g7
  have S4 := S3.keep g7
  have IS4 := IS3.keep g7
  have Q3 := Q2.keep g7
  have IQ3 := IQ2.keep g7
  clear c6 O7 g7 f1 f2 S3 IS3 Q2 IQ2 G6
  have ISr := IS4
  have IQr := IQ3
  have c7 := roomy_any ns ao cap WR hno (AN.keep GW) hr
  go_upto_region 7 with (go_at_call 10; (with_reducible refine c7.mono ?_); rintro e U ⟨v8, rfl, O8, g8⟩; obtain ⟨ro, rc, rfl, hrc, _, hh8⟩ := own_form O8)
  obtain ⟨g, rfl, hgw⟩ : ∃ g, ro = some ⟨g, 0, none⟩ ∧ WR.heap.size ≤ g := by
    rcases hh8 with h | ⟨g, h, _, h3⟩
    · omega
    · exact ⟨g, h, h3⟩
  have GU := gtrans GW g8
  have i1 := i1.keep g8
  have i2 := i2.keep g8
  have S4 := S4.keep g8
  have IS4 := IS4.keep g8
  have Q3 := Q3.keep g8
  have IQ3 := IQ3.keep g8
  have N2 := N2.keep g8
  have NR : IsNds U (some ⟨g, 0, none⟩) (rmL ns 40) := nds_of_own (b := WR.heap.size) (c := rc) (by rw [rmL_len]; exact O8)
  have gR := g8
  obtain ⟨bw, hbw⟩ : ∃ bw, WR.heap.size = bw := ⟨_, rfl⟩
  have HBW := show Hid (_ = _) from hbw
  have hbU : bw ≤ U.heap.size := by rw [← hbw]; exact g8.size
  have hwb : w.heap.size ≤ bw := by rw [← hbw]; exact GW.size
  rw [hbw] at O8 hgw
  clear hh8 c7 GW g8 hbw
  obtain ⟨n, hn⟩ : ∃ n, ns.length = n := ⟨_, rfl⟩
  have HN := show Hid (_ = _) from hn
  have cE := fun (Y : World) (G : Below U.heap.size U Y) => compile_own sa sc L q hq _ ai ci aw cw ar cr ns (some ⟨g, 0, none⟩) rc Y (K.keep (gtrans GU G)) (A.keep (gtrans GU G)) (AQ.keep (gtrans GU G)) ((rm_treeC NR).keep G) hf hr1 hL8
  have pok := cmpG_ok L q hf hr1 hL8
  obtain ⟨P, hP⟩ : ∃ P, cmpG L q ns = P := ⟨_, rfl⟩
  have HP := show Hid (_ = _) from hP
  rw [hP, hn] at cE
  rw [hP] at pok
  clear hP
  have hnr : n ≤ rc := by omega
  have hni : (n : Int) ≤ (rc : Int) := by omega
  have hnn : (n : Int) ≤ (n : Int) + 40 := by omega
  rw [hn] at O8 hr hr1 ⊢
  clear hn
  have s0 := i1.one1
  obtain ⟨q0, q1, q2, q3, q4, q5, q6⟩ := i2.at7
  have hne0 : Nonempty (Ext U) := ⟨⟨_, Below.refl _ _⟩⟩
  have ps0 := fun z : Ext U => (z.cell _ _ (lt_of_cell s0)).trans s0
  have pq0 := fun z : Ext U => (z.cell _ _ (lt_of_cell q0)).trans q0
  have pq1 := fun z : Ext U => (z.cell _ _ (lt_of_cell q1)).trans q1
  have pq2 := fun z : Ext U => (z.cell _ _ (lt_of_cell q2)).trans q2
  have pq3 := fun z : Ext U => (z.cell _ _ (lt_of_cell q3)).trans q3
  have pq4 := fun z : Ext U => (z.cell _ _ (lt_of_cell q4)).trans q4
  have pq5 := fun z : Ext U => (z.cell _ _ (lt_of_cell q5)).trans q5
  have pq6 := fun z : Ext U => (z.cell _ _ (lt_of_cell q6)).trans q6
  go_upto_region 7 with fail
  go_cut [11] from 28 to 34 (fun s wx => PrgL P U wx s)
  case first =>
    refine wp_region_held (S := fun X => ∃ n : Ext U, X = n.X) (by kernel_rfl) ?_
    have hX0 : Below U.heap.size U { U with drawn := U.drawn + 1 } := (Below.refl _ U).drew
    obtain ⟨X2, hXe⟩ : ∃ X, { U with drawn := U.drawn + 1 } = X := ⟨_, rfl⟩
    have hX : Below U.heap.size U X2 := hXe ▸ hX0
    rw [hXe]
    clear hX0 hXe
    refine anyH_pick (g := 3) [0, 1, 2, 3, 4, 5] (by kernel_rfl) (fun c a d v w h => by cases d <;> exact h) ⟨⟨X2, hX⟩, rfl⟩ rfl (by kernel_rfl) ?_
    simp only [pickL, List.filterMap_cons, List.filterMap_nil, List.getElem?_toArray, List.getElem?_cons_zero, List.getElem?_cons_succ]
    refine (show wpQuiet _ _ _ _ [_, _, _, _, _, _] _ from ?_)
    repeat (go_big_quiet_step (fail))
    refine wpQuiet_nil ?_
    refine wpAnyH_all (rs := [6, 7]) (by kernel_rfl) (by decide) ?_
    intro i hi
    simp only [List.mem_cons, List.not_mem_nil, or_false] at hi
    rcases hi with rfl | rfl
    · refine wpOp_callG (some 34) rfl rfl (by kernel_rfl) 11 #[.agg #[.slice sa L.length sc], .agg #[.slice ai q.items.length ci, .int .i64 q.mode, .int .i64 q.after, .slice aw q.wh.length cw, .int .i64 q.within, .string q.by_, .slice ar q.ret.length cr], .slice (some ⟨g, 0, none⟩) n rc] (by kernel_rfl) _ (cE X2 hX) ?_
      rintro e Z ⟨pai, pci, pac, pcc, pws, rfl, OZ, gZ⟩
      have hZ := hX.trans (gZ.mono hX.size)
      refine ⟨_, rfl, ⟨⟨Z, hZ⟩, rfl⟩, ?_⟩
      simp only [Act.put, List.setIfInBounds_toArray, List.set_cons_succ, List.set_cons_zero]
      refine wpAnyH_all (rs := [7]) (by kernel_rfl) (by decide) ?_
      intro i hi
      simp only [List.mem_cons, List.not_mem_nil, or_false] at hi
      subst hi
      refine wpOp_val (v := .pointer (some ⟨Z.heap.size, 0, none⟩)) (w' := Z.alloc (.cells #[.slice none 0 0, .slice none 0 0] 40)) (some 11) rfl rfl rfl (by kernel_rfl) ?_
      have hZ1 := hZ.trans ((galloc (Below.refl Z.heap.size Z) (.cells #[.slice none 0 0, .slice none 0 0] 40)).mono hZ.size)
      have bZ1 := Bk.new Z #[.slice none 0 0, .slice none 0 0] 40
      refine ⟨⟨⟨_, hZ1⟩, rfl⟩, ?_⟩
      simp only [Act.put, List.setIfInBounds_toArray, List.set_cons_succ, List.set_cons_zero]
      refine wpAnyH_all (rs := [8]) (by kernel_rfl) (by decide) ?_
      intro i hi
      simp only [List.mem_cons, List.not_mem_nil, or_false] at hi
      subst hi
      have tt : World.there (Z.alloc (.cells #[.slice none 0 0, .slice none 0 0] 40)) Z.heap.size 0 2 := fun j hj => by
        rcases (show j = 0 ∨ j = 1 by omega) with rfl | rfl
        · exact ⟨by rw [Nat.add_zero, bZ1.at2.1]; rfl, bZ1.free _⟩
        · exact ⟨by rw [Nat.zero_add, bZ1.at2.2]; rfl, bZ1.free _⟩
      have hW2 : Below U.heap.size U (World.setCells (Z.alloc (.cells #[.slice none 0 0, .slice none 0 0] 40)) Z.heap.size 0 [.slice pai P.code.length pci, .slice pac P.cols.length pcc]) := gsetCells hZ1 (show U.heap.size ≤ Z.heap.size from hZ.size) _ _
      have bW2 : Bk (World.setCells (Z.alloc (.cells #[.slice none 0 0, .slice none 0 0] 40)) Z.heap.size 0 [.slice pai P.code.length pci, .slice pac P.cols.length pcc]) Z.heap.size #[.slice pai P.code.length pci, .slice pac P.cols.length pcc] 40 := Bk.setCells (cs' := #[.slice pai P.code.length pci, .slice pac P.cols.length pcc]) bZ1 rfl
      have oW2 := OZ.keep (gsetCells (galloc (Below.refl Z.heap.size Z) (.cells #[.slice none 0 0, .slice none 0 0] 40)) (show Z.heap.size ≤ Z.heap.size from Nat.le_refl _) [.slice pai P.code.length pci, .slice pac P.cols.length pcc] 0)
      refine wpOp_store none rfl rfl rfl 40 (.tmp 11) (.tmp 34) rfl Z.heap.size 0 #[.slice pai P.code.length pci, .slice pac P.cols.length pcc] rfl rfl tt (by kernel_rfl) (by kernel_rfl) ?_
      refine ⟨⟨⟨_, hW2⟩, rfl⟩, ?_⟩
      simp only [Act.put, List.setIfInBounds_toArray, List.set_cons_succ, List.set_cons_zero]
      refine wpAnyH_done (by kernel_rfl) ?_ _
      try simp only [Exit.then]
      go_step
      go_meet
      case rel => exact ⟨⟨Z.heap.size, _, pai, pci, pac, pcc, pws, rfl, bW2, oW2, hW2, hZ.size⟩⟩
    · refine wpOp_val (v := .pointer (some ⟨X2.heap.size, 0, none⟩)) (w' := X2.alloc (.cells #[.slice none 0 0, .slice none 0 0] 40)) (some 11) rfl rfl rfl (by kernel_rfl) ?_
      have hX1 := hX.trans ((galloc (Below.refl X2.heap.size X2) (.cells #[.slice none 0 0, .slice none 0 0] 40)).mono hX.size)
      have bX1 := Bk.new X2 #[.slice none 0 0, .slice none 0 0] 40
      refine ⟨⟨⟨_, hX1⟩, rfl⟩, ?_⟩
      simp only [Act.put, List.setIfInBounds_toArray, List.set_cons_succ, List.set_cons_zero]
      refine wpAnyH_all (rs := [6]) (by kernel_rfl) (by decide) ?_
      intro i hi
      simp only [List.mem_cons, List.not_mem_nil, or_false] at hi
      subst hi
      refine wpOp_callG (some 34) rfl rfl (by kernel_rfl) 11 #[.agg #[.slice sa L.length sc], .agg #[.slice ai q.items.length ci, .int .i64 q.mode, .int .i64 q.after, .slice aw q.wh.length cw, .int .i64 q.within, .string q.by_, .slice ar q.ret.length cr], .slice (some ⟨g, 0, none⟩) n rc] (by kernel_rfl) _ (cE _ hX1) ?_
      rintro e Z ⟨pai, pci, pac, pcc, pws, rfl, OZ, gZ⟩
      have hZ := hX1.trans (gZ.mono hX1.size)
      have bZ1 := bX1.keep gZ
      refine ⟨_, rfl, ⟨⟨Z, hZ⟩, rfl⟩, ?_⟩
      simp only [Act.put, List.setIfInBounds_toArray, List.set_cons_succ, List.set_cons_zero]
      refine wpAnyH_all (rs := [8]) (by kernel_rfl) (by decide) ?_
      intro i hi
      simp only [List.mem_cons, List.not_mem_nil, or_false] at hi
      subst hi
      have tt : World.there Z X2.heap.size 0 2 := fun j hj => by
        rcases (show j = 0 ∨ j = 1 by omega) with rfl | rfl
        · exact ⟨by rw [Nat.add_zero, bZ1.at2.1]; rfl, bZ1.free _⟩
        · exact ⟨by rw [Nat.zero_add, bZ1.at2.2]; rfl, bZ1.free _⟩
      have hW2 : Below U.heap.size U (World.setCells Z X2.heap.size 0 [.slice pai P.code.length pci, .slice pac P.cols.length pcc]) := gsetCells hZ (show U.heap.size ≤ X2.heap.size from hX.size) _ _
      have bW2 : Bk (World.setCells Z X2.heap.size 0 [.slice pai P.code.length pci, .slice pac P.cols.length pcc]) X2.heap.size #[.slice pai P.code.length pci, .slice pac P.cols.length pcc] 40 := Bk.setCells (cs' := #[.slice pai P.code.length pci, .slice pac P.cols.length pcc]) bZ1 rfl
      have oW2 := OZ.but (u := World.setCells Z X2.heap.size 0 [.slice pai P.code.length pci, .slice pac P.cols.length pcc]) bZ1 (fun k hk => setCells_blk X2.heap.size _ _ Z k hk)
      refine wpOp_store none rfl rfl rfl 40 (.tmp 11) (.tmp 34) rfl X2.heap.size 0 #[.slice pai P.code.length pci, .slice pac P.cols.length pcc] rfl rfl tt (by kernel_rfl) (by kernel_rfl) ?_
      refine ⟨⟨⟨_, hW2⟩, rfl⟩, ?_⟩
      simp only [Act.put, List.setIfInBounds_toArray, List.set_cons_succ, List.set_cons_zero]
      refine wpAnyH_done (by kernel_rfl) ?_ _
      try simp only [Exit.then]
      go_step
      go_meet
      case rel => exact ⟨⟨X2.heap.size, _, pai, pci, pac, pcc, pws, rfl, bW2, oW2, hW2, hX.size⟩⟩
  case rest =>
    obtain ⟨⟨bv, pb, pai, pci, pac, pcc, pws, rfl, BV, OP, G9, hbv⟩⟩ := hcut
    have GV := gtrans GU G9
    have i1 := i1.keep G9
    have i2 := i2.keep G9
    have S4 := S4.keep G9
    have IS4 := IS4.keep G9
    have Q3 := Q3.keep G9
    have IQ3 := IQ3.keep G9
    have N2 := N2.keep G9
    have NR := NR.keep G9
    have O8 := own_keep O8 G9
    have gR := gtrans gR G9
    have hbW : bw ≤ wc.heap.size := Nat.le_trans hbU G9.size
    have hbvw : bw ≤ bv := Nat.le_trans hbU hbv
    clear s0 q0 q1 q2 q3 q4 q5 q6 hne0 ps0 pq0 pq1 pq2 pq3 pq4 pq5 pq6 cE GU G9 hbU hbv
    have y1 := fun (Y : World) (G : Below wc.heap.size wc Y) => refCompile_any L s2a s2c q hq _ ai2 ci2 aw cw ar cr ns hf t2a t2c Y (K.keep (gtrans GV G)) (IS4.keep G) (IQ3.keep G) (N2.keep G) (by rw [HN.out]; exact hr1) hL
    rw [HP.out, HN.out] at y1
    have y2 := fun (Y : World) (G : Below wc.heap.size wc Y) => sameTexts_true L sa s2a sc s2c q hq _ _ ai ci aw cw ar cr ai2 ci2 aw cw ar cr ns (some ⟨g, 0, none⟩) t2a rc t2c Y (A.keep (gtrans GV G)) (IS4.keep G) (AQ.keep (gtrans GV G)) (IQ3.keep G) (rm_treeC (NR.keep G)) (N2.keep G) (by omega) (by rw [HN.out]; exact hr1)
    rw [HN.out] at y2
    have y3 : ∀ (o l c : Nat), o = n * 6 → l = 40 → ∀ (Y : World) (G : Below wc.heap.size wc Y), Calls Tryd.prog 15 #[.slice (some ⟨g, o, none⟩) l c] Y (fun e w'' => e = .returned (.bool true) ∧ Below Y.heap.size Y w'') := fun o l cc ho hl Y G => by
      have c := spared_true _ (marksC_at ns) (marksC_len ns) (some ⟨g, ns.length * 6, none⟩) cc Y (rm_marksC (NR.keep G))
      rw [HN.out] at c
      rw [ho, hl]
      exact c
    have s0 := i1.one1
    obtain ⟨q0, q1, q2, q3, q4, q5, q6⟩ := i2.at7
    have a0 := S4.one1
    obtain ⟨x0, x1, x2, x3, x4, x5, x6⟩ := Q3.at7
    obtain ⟨v0, v1⟩ := BV.at2
    have hne0 : Nonempty (Ext wc) := ⟨⟨_, Below.refl _ _⟩⟩
    have ps0 := fun z : Ext wc => (z.cell _ _ (lt_of_cell s0)).trans s0
    have pq0 := fun z : Ext wc => (z.cell _ _ (lt_of_cell q0)).trans q0
    have pq1 := fun z : Ext wc => (z.cell _ _ (lt_of_cell q1)).trans q1
    have pq2 := fun z : Ext wc => (z.cell _ _ (lt_of_cell q2)).trans q2
    have pq3 := fun z : Ext wc => (z.cell _ _ (lt_of_cell q3)).trans q3
    have pq4 := fun z : Ext wc => (z.cell _ _ (lt_of_cell q4)).trans q4
    have pq5 := fun z : Ext wc => (z.cell _ _ (lt_of_cell q5)).trans q5
    have pq6 := fun z : Ext wc => (z.cell _ _ (lt_of_cell q6)).trans q6
    have pa0 := fun z : Ext wc => (z.cell _ _ (lt_of_cell a0)).trans a0
    have px0 := fun z : Ext wc => (z.cell _ _ (lt_of_cell x0)).trans x0
    have px1 := fun z : Ext wc => (z.cell _ _ (lt_of_cell x1)).trans x1
    have px2 := fun z : Ext wc => (z.cell _ _ (lt_of_cell x2)).trans x2
    have px3 := fun z : Ext wc => (z.cell _ _ (lt_of_cell x3)).trans x3
    have px4 := fun z : Ext wc => (z.cell _ _ (lt_of_cell x4)).trans x4
    have px5 := fun z : Ext wc => (z.cell _ _ (lt_of_cell x5)).trans x5
    have px6 := fun z : Ext wc => (z.cell _ _ (lt_of_cell x6)).trans x6
    have pv0 := fun z : Ext wc => (z.cell _ _ (lt_of_cell v0)).trans v0
    have pv1 := fun z : Ext wc => (z.cell _ _ (lt_of_cell v1)).trans v1
    have hrcn : ¬ rc = n := by have := HN.out; omega
    go_upto_region 8 with fail
    refine wp_region_held (S := fun X => ∃ n : Ext wc, X = n.X) (by kernel_rfl) ?_
    have hX0 : Below wc.heap.size wc { wc with drawn := wc.drawn + 1 } := (Below.refl _ wc).drew
    obtain ⟨X2, hXe⟩ : ∃ X, { wc with drawn := wc.drawn + 1 } = X := ⟨_, rfl⟩
    have hX : Below wc.heap.size wc X2 := hXe ▸ hX0
    rw [hXe]
    clear hX0 hXe
    refine anyH_pick (g := 24) [0, 1, 2, 3] (by kernel_rfl) (fun c a d v w h => by cases d <;> exact h) ⟨⟨X2, hX⟩, rfl⟩ rfl (by kernel_rfl) ?_
    simp only [pickL, List.filterMap_cons, List.filterMap_nil, List.getElem?_toArray, List.getElem?_cons_zero, List.getElem?_cons_succ]
    refine (show wpQuiet _ _ _ _ [_, _, _, _] _ from ?_)
    repeat (go_big_quiet_step (fail))
    refine wpQuiet_nil ?_
    refine wpAnyH_all (rs := [4]) (by kernel_rfl) (by decide) ?_
    intro i hi
    simp only [List.mem_cons, List.not_mem_nil, or_false] at hi
    subst hi
    refine wpOp_callG (some 39) rfl rfl (by kernel_rfl) 13 #[.agg #[.slice s2a L.length s2c], .agg #[.slice ai2 q.items.length ci2, .int .i64 q.mode, .int .i64 q.after, .slice aw q.wh.length cw, .int .i64 q.within, .string q.by_, .slice ar q.ret.length cr], .slice t2a n t2c] (by kernel_rfl) _ (y1 X2 hX) ?_
    rintro e Z ⟨ra, rca, rv, rcv, rfl, PZ, gZ⟩
    have hZ := hX.trans (gZ.mono hX.size)
    refine ⟨_, rfl, ⟨⟨Z, hZ⟩, rfl⟩, ?_⟩
    simp only [Act.put, List.setIfInBounds_toArray, List.set_cons_succ, List.set_cons_zero]
    refine wpAnyH_all (rs := [5]) (by kernel_rfl) (by decide) ?_
    intro i hi
    simp only [List.mem_cons, List.not_mem_nil, or_false] at hi
    subst hi
    refine wpOp_callG (some 40) rfl rfl (by kernel_rfl) 12 #[prgA P pai pci pac pcc, prgA P ra rca rv rcv] (by kernel_rfl) _ (sameProg_true P pok pai pci pac pcc ra rca rv rcv Z (OP.keep hZ).isPr PZ) ?_
    rintro e Y ⟨rfl, gY⟩
    have hY := hZ.trans (gY.mono hZ.size)
    refine ⟨_, rfl, ⟨⟨Y, hY⟩, rfl⟩, ?_⟩
    clear gY gZ PZ
    simp only [Act.put, List.setIfInBounds_toArray, List.set_cons_succ, List.set_cons_zero]
    refine anyH_pick (g := 11) [6, 7, 8, 9, 10, 11, 12, 13, 14, 15, 16] (by kernel_rfl) (fun c a d v w h => by cases d <;> exact h) ⟨⟨Y, hY⟩, rfl⟩ rfl (by kernel_rfl) ?_
    simp only [pickL, List.filterMap_cons, List.filterMap_nil, List.getElem?_toArray, List.getElem?_cons_zero, List.getElem?_cons_succ]
    refine (show wpQuiet _ _ _ _ [_, _, _, _, _, _, _, _, _, _, _] _ from ?_)
    repeat (go_big_quiet_step (fail))
    refine wpQuiet_nil ?_
    refine wpAnyH_all (rs := [17]) (by kernel_rfl) (by decide) ?_
    intro i hi
    simp only [List.mem_cons, List.not_mem_nil, or_false] at hi
    subst hi
    refine wpOp_callG (some 52) rfl rfl (by kernel_rfl) 14 #[.agg #[.slice sa L.length sc], .agg #[.slice s2a L.length s2c], .agg #[.slice ai q.items.length ci, .int .i64 q.mode, .int .i64 q.after, .slice aw q.wh.length cw, .int .i64 q.within, .string q.by_, .slice ar q.ret.length cr], .agg #[.slice ai2 q.items.length ci2, .int .i64 q.mode, .int .i64 q.after, .slice aw q.wh.length cw, .int .i64 q.within, .string q.by_, .slice ar q.ret.length cr], .slice (some ⟨g, 0, none⟩) n rc, .slice t2a n t2c] (by kernel_rfl) _ (y2 Y hY) ?_
    rintro e Y3 ⟨rfl, gY⟩
    have hY3 := hY.trans (gY.mono hY.size)
    refine ⟨_, rfl, ⟨⟨Y3, hY3⟩, rfl⟩, ?_⟩
    clear gY
    simp only [Act.put, List.setIfInBounds_toArray, List.set_cons_succ, List.set_cons_zero]
    refine anyH_pick (g := 3) [18, 19, 20, 21, 22, 23, 24] (by kernel_rfl) (fun c a d v w h => by cases d <;> exact h) ⟨⟨Y3, hY3⟩, rfl⟩ rfl (by kernel_rfl) ?_
    simp only [pickL, List.filterMap_cons, List.filterMap_nil, List.getElem?_toArray, List.getElem?_cons_zero, List.getElem?_cons_succ]
    refine (show wpQuiet _ _ _ _ [_, _, _, _, _, _, _] _ from ?_)
    repeat (go_big_quiet_step (fail))
    refine wpQuiet_nil ?_
    refine wpAnyH_all (rs := [25]) (by kernel_rfl) (by decide) ?_
    intro i hi
    simp only [List.mem_cons, List.not_mem_nil, or_false] at hi
    subst hi
    refine wpOp_callG (some 60) rfl rfl (by kernel_rfl) 15 #[.slice (some ⟨g, n * 6, none⟩) 40 (rc - n)] (by kernel_rfl) _ (y3 _ _ _ rfl rfl Y3 hY3) ?_
    rintro e Y4 ⟨rfl, gY⟩
    have hY4 := hY3.trans (gY.mono hY3.size)
    refine ⟨_, rfl, ⟨⟨Y4, hY4⟩, rfl⟩, ?_⟩
    clear gY
    simp only [Act.put, List.setIfInBounds_toArray, List.set_cons_succ, List.set_cons_zero]
    refine anyH_pick (g := 0) [26, 27] (by kernel_rfl) (fun c a d v w h => by cases d <;> exact h) ⟨⟨Y4, hY4⟩, rfl⟩ rfl (by kernel_rfl) ?_
    simp only [pickL, List.filterMap_cons, List.filterMap_nil, List.getElem?_toArray, List.getElem?_cons_zero, List.getElem?_cons_succ]
    refine (show wpQuiet _ _ _ _ [_, _] _ from ?_)
    repeat (go_big_quiet_step (fail))
    refine wpQuiet_nil ?_
    refine wpAnyH_done (by kernel_rfl) ?_ _
    try simp only [Exit.then]
    go_step
    have GX := gtrans GV hY4
    have i1 := i1.keep hY4
    have i2 := i2.keep hY4
    have S4 := S4.keep hY4
    have Q3 := Q3.keep hY4
    have NR := NR.keep hY4
    have BV := BV.keep hY4
    have OP := OP.keep hY4
    have O8 := own_keep O8 hY4
    have gR := gtrans gR hY4
    have hb9 : bw ≤ Y4.heap.size := Nat.le_trans hbW hY4.size
    clear s0 q0 q1 q2 q3 q4 q5 q6 a0 x0 x1 x2 x3 x4 x5 x6 v0 v1 hne0 ps0 pq0 pq1 pq2 pq3 pq4 pq5 pq6 pa0 px0 px1 px2 px3 px4 px5 px6 pv0 pv1 y1 y2 y3 GV N2 IS4 IQ3 hbW hX hZ hY hY3 hY4
    -- the program's twin
    obtain ⟨v0, v1⟩ := BV.at2
    have cW := twinProg_any P pok pai pci pac pcc Y4 OP.isPr
    go_upto_region 11 with (go_at_call 16; (with_reducible refine cW.mono ?_); rintro e u9 ⟨⟨⟨wa, wca, wv, wcv, wws, rfl, OW⟩⟩, g9⟩)
    have h9 := galloc g9 (.cells #[.slice wa P.code.length wca, .slice wv P.cols.length wcv] 40)
    have GX := gtrans GX h9
    have W2 := Bk.new u9 #[.slice wa P.code.length wca, .slice wv P.cols.length wcv] 40
    have OW := OW.keep (galloc (Below.refl u9.heap.size u9) (.cells #[.slice wa P.code.length wca, .slice wv P.cols.length wcv] 40))
    have i1 := i1.keep h9
    have i2 := i2.keep h9
    have S4 := S4.keep h9
    have Q3 := Q3.keep h9
    have NR := NR.keep h9
    have BV := BV.keep h9
    have OP := OP.keep h9
    have O8 := own_keep O8 h9
    have gR := gtrans gR h9
    have hb9 : bw ≤ (u9.alloc (.cells #[.slice wa P.code.length wca, .slice wv P.cols.length wcv] 40)).heap.size := Nat.le_trans hb9 h9.size
    clear v0 v1 cW g9 h9
    generalize u9.alloc _ = X12 at *
    generalize u9.heap.size = bu at *
    -- the copy written over
    have cT := turned_any (rmL ns 40) g bw (n + 40) rc n rc (by omega) (by omega) X12 (by rw [rmL_len, HN.out]) (rmLC_fit hf) O8
    go_upto_region 12 with (go_at_call 17; (with_reducible refine cT.mono ?_); rintro _ U ⟨⟨_, rfl⟩, ⟨⟨ms, hml, hmf, OM⟩, kt, low⟩⟩)
    have j1 := bk_kt kt i1 (by decide)
    have j2 := bk_kt kt i2 (by decide)
    have jS := bk_kt kt S4 (by decide)
    have jQ := bk_kt kt Q3 (by decide)
    have jV := bk_kt kt BV (by decide)
    have jW := bk_kt kt W2 (by decide)
    have jP := OP.kt kt
    have jT := OW.kt kt
    have GU := GX.trans (low.mono hwb)
    have GRu : Below WR.heap.size WR U := gR.trans (by rw [HBW.out]; exact low)
    have ISu := ISr.keep GRu
    have IQu := IQr.keep GRu
    clear cT i1 i2 S4 Q3 BV W2 OP OW O8 gR GX kt low hb9 GRu ISr IQr HBW NR
    have NM : IsNds U (some ⟨g, 0, none⟩) ms := nds_of_own (b := bw) (c := rc) (by rw [hml]; exact OM)
    obtain ⟨ns', hns⟩ : ∃ ns', ms.take n = ns' := ⟨_, rfl⟩
    have NT := take_ndsC NM n
    have hf' := take_fitC hmf n
    have hn' : (ms.take n).length = n := by rw [List.length_take, hml]; omega
    rw [hns] at NT hf' hn'
    have hr' : ns'.length * 64 ≤ 140737488351232 := by rw [hn']; omega
    have pok' := cmpG_ok L q hf' hr' hL8
    obtain ⟨P', hP'⟩ : ∃ P', cmpG L q ns' = P' := ⟨_, rfl⟩
    have HP' := show Hid (_ = _) from hP'
    have cA := fun (Y : World) (G : Below U.heap.size U Y) => compile_own sa sc L q hq _ ai ci aw cw ar cr ns' (some ⟨g, 0, none⟩) rc Y (K.keep (gtrans GU G)) (A.keep (gtrans GU G)) (AQ.keep (gtrans GU G)) (NT.keep G) hf' hr' hL8
    rw [hP', hn'] at cA
    rw [hP'] at pok'
    clear hP' OM NM hml hmf hns
    have s0 := j1.one1
    obtain ⟨q0, q1, q2, q3, q4, q5, q6⟩ := j2.at7
    have hne0 : Nonempty (Ext U) := ⟨⟨_, Below.refl _ _⟩⟩
    have ps0 := fun z : Ext U => (z.cell _ _ (lt_of_cell s0)).trans s0
    have pq0 := fun z : Ext U => (z.cell _ _ (lt_of_cell q0)).trans q0
    have pq1 := fun z : Ext U => (z.cell _ _ (lt_of_cell q1)).trans q1
    have pq2 := fun z : Ext U => (z.cell _ _ (lt_of_cell q2)).trans q2
    have pq3 := fun z : Ext U => (z.cell _ _ (lt_of_cell q3)).trans q3
    have pq4 := fun z : Ext U => (z.cell _ _ (lt_of_cell q4)).trans q4
    have pq5 := fun z : Ext U => (z.cell _ _ (lt_of_cell q5)).trans q5
    have pq6 := fun z : Ext U => (z.cell _ _ (lt_of_cell q6)).trans q6
    go_upto_region 12 with fail
    go_cut [13] from 70 to 76 (fun s wx => PrgL P' U wx s)
    case first =>
      refine wp_region_held (S := fun X => ∃ n : Ext U, X = n.X) (by kernel_rfl) ?_
      have hX0 : Below U.heap.size U { U with drawn := U.drawn + 1 } := (Below.refl _ U).drew
      obtain ⟨X2, hXe⟩ : ∃ X, { U with drawn := U.drawn + 1 } = X := ⟨_, rfl⟩
      have hX : Below U.heap.size U X2 := hXe ▸ hX0
      rw [hXe]
      clear hX0 hXe
      refine anyH_pick (g := 3) [0, 1, 2, 3, 4, 5] (by kernel_rfl) (fun c a d v w h => by cases d <;> exact h) ⟨⟨X2, hX⟩, rfl⟩ rfl (by kernel_rfl) ?_
      simp only [pickL, List.filterMap_cons, List.filterMap_nil, List.getElem?_toArray, List.getElem?_cons_zero, List.getElem?_cons_succ]
      refine (show wpQuiet _ _ _ _ [_, _, _, _, _, _] _ from ?_)
      repeat (go_big_quiet_step (fail))
      refine wpQuiet_nil ?_
      refine wpAnyH_all (rs := [6, 7]) (by kernel_rfl) (by decide) ?_
      intro i hi
      simp only [List.mem_cons, List.not_mem_nil, or_false] at hi
      rcases hi with rfl | rfl
      · refine wpOp_callG (some 76) rfl rfl (by kernel_rfl) 11 #[.agg #[.slice sa L.length sc], .agg #[.slice ai q.items.length ci, .int .i64 q.mode, .int .i64 q.after, .slice aw q.wh.length cw, .int .i64 q.within, .string q.by_, .slice ar q.ret.length cr], .slice (some ⟨g, 0, none⟩) n rc] (by kernel_rfl) _ (cA X2 hX) ?_
        rintro e Z ⟨pai, pci, pac, pcc, pws, rfl, OZ, gZ⟩
        have hZ := hX.trans (gZ.mono hX.size)
        refine ⟨_, rfl, ⟨⟨Z, hZ⟩, rfl⟩, ?_⟩
        simp only [Act.put, List.setIfInBounds_toArray, List.set_cons_succ, List.set_cons_zero]
        refine wpAnyH_all (rs := [7]) (by kernel_rfl) (by decide) ?_
        intro i hi
        simp only [List.mem_cons, List.not_mem_nil, or_false] at hi
        subst hi
        refine wpOp_val (v := .pointer (some ⟨Z.heap.size, 0, none⟩)) (w' := Z.alloc (.cells #[.slice none 0 0, .slice none 0 0] 40)) (some 13) rfl rfl rfl (by kernel_rfl) ?_
        have hZ1 := hZ.trans ((galloc (Below.refl Z.heap.size Z) (.cells #[.slice none 0 0, .slice none 0 0] 40)).mono hZ.size)
        have bZ1 := Bk.new Z #[.slice none 0 0, .slice none 0 0] 40
        refine ⟨⟨⟨_, hZ1⟩, rfl⟩, ?_⟩
        simp only [Act.put, List.setIfInBounds_toArray, List.set_cons_succ, List.set_cons_zero]
        refine wpAnyH_all (rs := [8]) (by kernel_rfl) (by decide) ?_
        intro i hi
        simp only [List.mem_cons, List.not_mem_nil, or_false] at hi
        subst hi
        have tt : World.there (Z.alloc (.cells #[.slice none 0 0, .slice none 0 0] 40)) Z.heap.size 0 2 := fun j hj => by
          rcases (show j = 0 ∨ j = 1 by omega) with rfl | rfl
          · exact ⟨by rw [Nat.add_zero, bZ1.at2.1]; rfl, bZ1.free _⟩
          · exact ⟨by rw [Nat.zero_add, bZ1.at2.2]; rfl, bZ1.free _⟩
        have hW2 : Below U.heap.size U (World.setCells (Z.alloc (.cells #[.slice none 0 0, .slice none 0 0] 40)) Z.heap.size 0 [.slice pai P'.code.length pci, .slice pac P'.cols.length pcc]) := gsetCells hZ1 (show U.heap.size ≤ Z.heap.size from hZ.size) _ _
        have bW2 : Bk (World.setCells (Z.alloc (.cells #[.slice none 0 0, .slice none 0 0] 40)) Z.heap.size 0 [.slice pai P'.code.length pci, .slice pac P'.cols.length pcc]) Z.heap.size #[.slice pai P'.code.length pci, .slice pac P'.cols.length pcc] 40 := Bk.setCells (cs' := #[.slice pai P'.code.length pci, .slice pac P'.cols.length pcc]) bZ1 rfl
        have oW2 := OZ.keep (gsetCells (galloc (Below.refl Z.heap.size Z) (.cells #[.slice none 0 0, .slice none 0 0] 40)) (show Z.heap.size ≤ Z.heap.size from Nat.le_refl _) [.slice pai P'.code.length pci, .slice pac P'.cols.length pcc] 0)
        refine wpOp_store none rfl rfl rfl 40 (.tmp 13) (.tmp 76) rfl Z.heap.size 0 #[.slice pai P'.code.length pci, .slice pac P'.cols.length pcc] rfl rfl tt (by kernel_rfl) (by kernel_rfl) ?_
        refine ⟨⟨⟨_, hW2⟩, rfl⟩, ?_⟩
        simp only [Act.put, List.setIfInBounds_toArray, List.set_cons_succ, List.set_cons_zero]
        refine wpAnyH_done (by kernel_rfl) ?_ _
        try simp only [Exit.then]
        go_step
        go_meet
        case rel => exact ⟨⟨Z.heap.size, _, pai, pci, pac, pcc, pws, rfl, bW2, oW2, hW2, hZ.size⟩⟩
      · refine wpOp_val (v := .pointer (some ⟨X2.heap.size, 0, none⟩)) (w' := X2.alloc (.cells #[.slice none 0 0, .slice none 0 0] 40)) (some 13) rfl rfl rfl (by kernel_rfl) ?_
        have hX1 := hX.trans ((galloc (Below.refl X2.heap.size X2) (.cells #[.slice none 0 0, .slice none 0 0] 40)).mono hX.size)
        have bX1 := Bk.new X2 #[.slice none 0 0, .slice none 0 0] 40
        refine ⟨⟨⟨_, hX1⟩, rfl⟩, ?_⟩
        simp only [Act.put, List.setIfInBounds_toArray, List.set_cons_succ, List.set_cons_zero]
        refine wpAnyH_all (rs := [6]) (by kernel_rfl) (by decide) ?_
        intro i hi
        simp only [List.mem_cons, List.not_mem_nil, or_false] at hi
        subst hi
        refine wpOp_callG (some 76) rfl rfl (by kernel_rfl) 11 #[.agg #[.slice sa L.length sc], .agg #[.slice ai q.items.length ci, .int .i64 q.mode, .int .i64 q.after, .slice aw q.wh.length cw, .int .i64 q.within, .string q.by_, .slice ar q.ret.length cr], .slice (some ⟨g, 0, none⟩) n rc] (by kernel_rfl) _ (cA _ hX1) ?_
        rintro e Z ⟨pai, pci, pac, pcc, pws, rfl, OZ, gZ⟩
        have hZ := hX1.trans (gZ.mono hX1.size)
        have bZ1 := bX1.keep gZ
        refine ⟨_, rfl, ⟨⟨Z, hZ⟩, rfl⟩, ?_⟩
        simp only [Act.put, List.setIfInBounds_toArray, List.set_cons_succ, List.set_cons_zero]
        refine wpAnyH_all (rs := [8]) (by kernel_rfl) (by decide) ?_
        intro i hi
        simp only [List.mem_cons, List.not_mem_nil, or_false] at hi
        subst hi
        have tt : World.there Z X2.heap.size 0 2 := fun j hj => by
          rcases (show j = 0 ∨ j = 1 by omega) with rfl | rfl
          · exact ⟨by rw [Nat.add_zero, bZ1.at2.1]; rfl, bZ1.free _⟩
          · exact ⟨by rw [Nat.zero_add, bZ1.at2.2]; rfl, bZ1.free _⟩
        have hW2 : Below U.heap.size U (World.setCells Z X2.heap.size 0 [.slice pai P'.code.length pci, .slice pac P'.cols.length pcc]) := gsetCells hZ (show U.heap.size ≤ X2.heap.size from hX.size) _ _
        have bW2 : Bk (World.setCells Z X2.heap.size 0 [.slice pai P'.code.length pci, .slice pac P'.cols.length pcc]) X2.heap.size #[.slice pai P'.code.length pci, .slice pac P'.cols.length pcc] 40 := Bk.setCells (cs' := #[.slice pai P'.code.length pci, .slice pac P'.cols.length pcc]) bZ1 rfl
        have oW2 := OZ.but (u := World.setCells Z X2.heap.size 0 [.slice pai P'.code.length pci, .slice pac P'.cols.length pcc]) bZ1 (fun k hk => setCells_blk X2.heap.size _ _ Z k hk)
        refine wpOp_store none rfl rfl rfl 40 (.tmp 13) (.tmp 76) rfl X2.heap.size 0 #[.slice pai P'.code.length pci, .slice pac P'.cols.length pcc] rfl rfl tt (by kernel_rfl) (by kernel_rfl) ?_
        refine ⟨⟨⟨_, hW2⟩, rfl⟩, ?_⟩
        simp only [Act.put, List.setIfInBounds_toArray, List.set_cons_succ, List.set_cons_zero]
        refine wpAnyH_done (by kernel_rfl) ?_ _
        try simp only [Exit.then]
        go_step
        go_meet
        case rel => exact ⟨⟨X2.heap.size, _, pai, pci, pac, pcc, pws, rfl, bW2, oW2, hW2, hX.size⟩⟩
    case rest =>
      obtain ⟨⟨ba, pb', paa, pca, pav, pcv, pws', rfl, BA, OA, G9, hba⟩⟩ := hcut
      have Gu := gtrans GU G9
      have jS := jS.keep G9
      have jQ := jQ.keep G9
      have jV := jV.keep G9
      have jW := jW.keep G9
      have jP := jP.keep G9
      have jT := jT.keep G9
      have ISu := ISu.keep G9
      have IQu := IQu.keep G9
      have NT := NT.keep G9
      clear s0 q0 q1 q2 q3 q4 q5 q6 hne0 ps0 pq0 pq1 pq2 pq3 pq4 pq5 pq6 cA GU G9 j1 j2 hba
      have cB : ∀ (X : World) (G : Below wc.heap.size wc X), Calls Tryd.prog 9 #[.slice (some ⟨g, 0, none⟩) n rc] X (fun e w' => ∃ v, e = .returned v ∧ w'.ownsRow X.heap.size 63 6 v n (ndsV ns') ∧ Below X.heap.size X w') := fun X G => by
        have c := twinN7_any ns' (some ⟨g, 0, none⟩) rc X (fun h => by cases h) (NT.keep G) hr'
        rw [hn'] at c
        exact c
      have cD := fun (X : World) (G : Below wc.heap.size wc X) (t3a : Option Addr) (t3c : Nat) (N3 : IsNds X t3a ns') => refCompile_any L s2a s2c q hq _ ai2 ci2 aw cw ar cr ns' hf' t3a t3c X (K.keep (gtrans Gu G)) (ISu.keep G) (IQu.keep G) N3 hr' hL
      rw [HP'.out, hn'] at cD
      have a0 := jS.one1
      obtain ⟨x0, x1, x2, x3, x4, x5, x6⟩ := jQ.at7
      obtain ⟨v0, v1⟩ := jV.at2
      obtain ⟨m0, m1⟩ := jW.at2
      obtain ⟨n0, n1⟩ := BA.at2
      have hne0 : Nonempty (Ext wc) := ⟨⟨_, Below.refl _ _⟩⟩
      have pa0 := fun z : Ext wc => (z.cell _ _ (lt_of_cell a0)).trans a0
      have px0 := fun z : Ext wc => (z.cell _ _ (lt_of_cell x0)).trans x0
      have px1 := fun z : Ext wc => (z.cell _ _ (lt_of_cell x1)).trans x1
      have px2 := fun z : Ext wc => (z.cell _ _ (lt_of_cell x2)).trans x2
      have px3 := fun z : Ext wc => (z.cell _ _ (lt_of_cell x3)).trans x3
      have px4 := fun z : Ext wc => (z.cell _ _ (lt_of_cell x4)).trans x4
      have px5 := fun z : Ext wc => (z.cell _ _ (lt_of_cell x5)).trans x5
      have px6 := fun z : Ext wc => (z.cell _ _ (lt_of_cell x6)).trans x6
      have pv0 := fun z : Ext wc => (z.cell _ _ (lt_of_cell v0)).trans v0
      have pv1 := fun z : Ext wc => (z.cell _ _ (lt_of_cell v1)).trans v1
      have pm0 := fun z : Ext wc => (z.cell _ _ (lt_of_cell m0)).trans m0
      have pm1 := fun z : Ext wc => (z.cell _ _ (lt_of_cell m1)).trans m1
      have pn0 := fun z : Ext wc => (z.cell _ _ (lt_of_cell n0)).trans n0
      have pn1 := fun z : Ext wc => (z.cell _ _ (lt_of_cell n1)).trans n1
      go_upto_region 13 with fail
      refine wp_region_held (S := fun X => ∃ n : Ext wc, X = n.X) (by kernel_rfl) ?_
      have hX0 : Below wc.heap.size wc { wc with drawn := wc.drawn + 1 } := (Below.refl _ wc).drew
      obtain ⟨X2, hXe⟩ : ∃ X, { wc with drawn := wc.drawn + 1 } = X := ⟨_, rfl⟩
      have hX : Below wc.heap.size wc X2 := hXe ▸ hX0
      rw [hXe]
      clear hX0 hXe
      refine anyH_pick (g := 9) [0, 1, 2, 3, 4, 5, 6] (by kernel_rfl) (fun c a d v w h => by cases d <;> exact h) ⟨⟨X2, hX⟩, rfl⟩ rfl (by kernel_rfl) ?_
      simp only [pickL, List.filterMap_cons, List.filterMap_nil, List.getElem?_toArray, List.getElem?_cons_zero, List.getElem?_cons_succ]
      refine (show wpQuiet _ _ _ _ [_, _, _, _, _, _, _] _ from ?_)
      repeat (go_big_quiet_step (fail))
      refine wpQuiet_nil ?_
      refine wpAnyH_all (rs := [7]) (by kernel_rfl) (by decide) ?_
      intro i hi
      simp only [List.mem_cons, List.not_mem_nil, or_false] at hi
      subst hi
      refine wpOp_callG (some 84) rfl rfl (by kernel_rfl) 9 #[.slice (some ⟨g, 0, none⟩) n rc] (by kernel_rfl) _ (cB X2 hX) ?_
      rintro e Z ⟨v3, rfl, O3, gZ⟩
      obtain ⟨t3a, t3c, rfl, _, _, _⟩ := own_form O3
      have N3 : IsNds Z t3a ns' := nds_of_own (b := X2.heap.size) (c := t3c) (by rw [hn']; exact O3)
      have hZ := hX.trans (gZ.mono hX.size)
      refine ⟨_, rfl, ⟨⟨Z, hZ⟩, rfl⟩, ?_⟩
      clear O3 gZ
      simp only [Act.put, List.setIfInBounds_toArray, List.set_cons_succ, List.set_cons_zero]
      refine wpAnyH_all (rs := [8]) (by kernel_rfl) (by decide) ?_
      intro i hi
      simp only [List.mem_cons, List.not_mem_nil, or_false] at hi
      subst hi
      refine wpOp_callG (some 85) rfl rfl (by kernel_rfl) 13 #[.agg #[.slice s2a L.length s2c], .agg #[.slice ai2 q.items.length ci2, .int .i64 q.mode, .int .i64 q.after, .slice aw q.wh.length cw, .int .i64 q.within, .string q.by_, .slice ar q.ret.length cr], .slice t3a n t3c] (by kernel_rfl) _ (cD Z hZ t3a t3c N3) ?_
      rintro e Y ⟨ra, rca, rv, rcv, rfl, PZ, gY⟩
      have hY := hZ.trans (gY.mono hZ.size)
      refine ⟨_, rfl, ⟨⟨Y, hY⟩, rfl⟩, ?_⟩
      clear gY
      simp only [Act.put, List.setIfInBounds_toArray, List.set_cons_succ, List.set_cons_zero]
      refine wpAnyH_all (rs := [9]) (by kernel_rfl) (by decide) ?_
      intro i hi
      simp only [List.mem_cons, List.not_mem_nil, or_false] at hi
      subst hi
      refine wpOp_callG (some 86) rfl rfl (by kernel_rfl) 12 #[prgA P' paa pca pav pcv, prgA P' ra rca rv rcv] (by kernel_rfl) _ (sameProg_true P' pok' paa pca pav pcv ra rca rv rcv Y (OA.keep hY).isPr PZ) ?_
      rintro e Y3 ⟨rfl, gY⟩
      have hY3 := hY.trans (gY.mono hY.size)
      refine ⟨_, rfl, ⟨⟨Y3, hY3⟩, rfl⟩, ?_⟩
      clear gY PZ
      simp only [Act.put, List.setIfInBounds_toArray, List.set_cons_succ, List.set_cons_zero]
      refine anyH_pick (g := 3) [10, 11, 12] (by kernel_rfl) (fun c a d v w h => by cases d <;> exact h) ⟨⟨Y3, hY3⟩, rfl⟩ rfl (by kernel_rfl) ?_
      simp only [pickL, List.filterMap_cons, List.filterMap_nil, List.getElem?_toArray, List.getElem?_cons_zero, List.getElem?_cons_succ]
      refine (show wpQuiet _ _ _ _ [_, _, _] _ from ?_)
      repeat (go_big_quiet_step (fail))
      refine wpQuiet_nil ?_
      refine wpAnyH_all (rs := [13]) (by kernel_rfl) (by decide) ?_
      intro i hi
      simp only [List.mem_cons, List.not_mem_nil, or_false] at hi
      subst hi
      refine wpOp_callG (some 90) rfl rfl (by kernel_rfl) 12 #[prgA P pai pci pac pcc, prgA P wa wca wv wcv] (by kernel_rfl) _ (sameProg_true P pok pai pci pac pcc wa wca wv wcv Y3 (jP.keep hY3).isPr (jT.keep hY3).isPr) ?_
      rintro e Y4 ⟨rfl, gY⟩
      have hY4 := hY3.trans (gY.mono hY3.size)
      refine ⟨_, rfl, ⟨⟨Y4, hY4⟩, rfl⟩, ?_⟩
      clear gY
      simp only [Act.put, List.setIfInBounds_toArray, List.set_cons_succ, List.set_cons_zero]
      refine anyH_pick (g := 0) [14, 15] (by kernel_rfl) (fun c a d v w h => by cases d <;> exact h) ⟨⟨Y4, hY4⟩, rfl⟩ rfl (by kernel_rfl) ?_
      simp only [pickL, List.filterMap_cons, List.filterMap_nil, List.getElem?_toArray, List.getElem?_cons_zero, List.getElem?_cons_succ]
      refine (show wpQuiet _ _ _ _ [_, _] _ from ?_)
      repeat (go_big_quiet_step (fail))
      refine wpQuiet_nil ?_
      refine wpAnyH_done (by kernel_rfl) ?_ _
      try simp only [Exit.then]
      go_step
      go_wp2
      go_ret
      exact ⟨rfl, gtrans Gu hY4⟩

end Go.Proofs.YtnmppmmanigpcaaDoor
