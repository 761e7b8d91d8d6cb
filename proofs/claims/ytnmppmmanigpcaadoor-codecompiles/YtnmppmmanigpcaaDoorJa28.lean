/- The document's code: its walk. And what goes with it: 1 texts in one. -/
import Derived.Test.YtnmppmmanigpcaaDoorJa27
namespace Go.Proofs.YtnmppmmanigpcaaDoor
open Go.RowKit Go.BigFrame Go.Proofs.YtnmppmmanigpcaaDoor.Ev
set_option linter.unusedVariables false
set_option linter.unusedSimpArgs false

set_option maxRecDepth 100000 in
set_option maxHeartbeats 8000000 in
theorem refCode_any (L : List Ty) (M : ByteArray → Option Int) (q : Qy) (hq : q.fit) (hM : ∀ v i, M v = some i → itmI q.items v = i) (qs : Array Value) (ai : Option Addr) (ci : Nat) (aw : Option Addr) (cw : Nat) (ar : Option Addr) (cr : Nat) (ns : List Nd) (hf : ∀ k, (ns.getD k noNd).fit) (ht : treeB ns = true) (hrun : runB M ns = true) (lo : Option Addr) (lc : Nat) (ao : Option Addr) (cap : Nat) (w : World) (AQ : IsQ w q qs ai ci aw cw ar cr) (AS : IsSs w lo (nmK L M ns ns.length)) (A : IsNds w ao ns) (hr : ns.length * 64 ≤ 140737488351232) :
    Calls Tryd.prog 28 #[.agg qs, .slice lo (nmK L M ns ns.length).length lc, .slice ao ns.length cap] w fun e w' => ∃ g, e = .returned (.slice (some ⟨g, 0, none⟩) (treK L M ns ns.length).code.length (treK L M ns ns.length).code.length) ∧ w'.ownsRow (w.heap.size + 1) 74 5 (.slice (some ⟨g, 0, none⟩) (treK L M ns ns.length).code.length (treK L M ns ns.length).code.length) (treK L M ns ns.length).code.length (fl insC (treK L M ns ns.length).code) ∧ Below w.heap.size w w' := by
  obtain ⟨he, _⟩ := id AQ
  subst he
  obtain ⟨hb, hpos, h0, K⟩ := tree_bs ht
  obtain ⟨SW, SL⟩ := stand_all (L := L) (M := M) ht hrun
  obtain ⟨C, hC⟩ : ∃ C, (treK L M ns ns.length).code = C := ⟨_, rfl⟩
  rw [hC] at SW SL ⊢
  clear hC
  have hsr := sz_root (L := L) (M := M) h0
  have hNb := (sz_pos (L := L) (M := M) (K (ns.length - 1) (by omega))).2
  have hall := wo_all (L := L) (M := M) hpos
  obtain ⟨N, hN⟩ : ∃ N, posN L M ns (ns.length - 1) + 1 = N := ⟨_, rfl⟩
  rw [hN] at SL hsr hall
  have hN1 : 1 ≤ N := by omega
  rw [hsr] at hNb
  have cz := fun (u : World) (g : Below w.heap.size w u) => refSizes_any L M ns ht ao cap u (A.keep g) hr
  have hcell := fun (u : World) (b : Nat) (ao' : Option Addr) (c' : Nat) (O : u.ownsRow b 3 1 (.slice ao' ns.length c') ns.length (intsV (szL L M ns ns.length))) => ints_cell O (szL_len L M ns ns.length) (j := ns.length - 1) (by omega)
  have hsv := szL_at L M ns (k := ns.length) (j := ns.length - 1) (by omega)
  rw [hsr] at hsv
  have hmk2 := run_make_row' (P := Tryd.prog) 60 3 (.int .i64 0) 8 Tryd.underlying60 nfInt1 rfl .i64 .i64 ns.length (by omega) (by omega)
  rw [SL]
  obtain ⟨n, hn⟩ : ∃ n, ns.length = n := ⟨_, rfl⟩
  obtain ⟨m, hm⟩ : ∃ m, (nmK L M ns ns.length).length = m := ⟨_, rfl⟩
  have HK := show Hid (∀ i, i < ns.length → Kin ns (bsOf ns) i) from K
  have HT := show Hid (treeB ns = true) from ht
  have HR := show Hid (runB M ns = true) from hrun
  have HSW := show Hid _ from SW
  have HSL := show Hid (C.length = N) from SL
  have HALL := show Hid _ from hall
  have H0 := show Hid _ from h0
  have HM := show Hid (∀ v i, M v = some i → itmI q.items v = i) from hM
  rw [hm]
  rw [hn] at hr hpos hNb cz hcell hsv hmk2 ⊢
  have HN := show Hid (ns.length = n) from hn
  have HMm := show Hid ((nmK L M ns ns.length).length = m) from hm
  have i1 : (0 : Int) ≤ (n : Int) - 1 := by omega
  have i2 : (n : Int) - 1 < (n : Int) := by omega
  have i3 : ((n : Int) - 1).toNat = n - 1 := by omega
  have i4 : (n : Int) ≤ 2199023255552 := by omega
  have hN43 : (N : Int) ≤ 8796093022208 := by omega
  have HNN := show Hid (posN L M ns (ns.length - 1) + 1 = N) from hN
  clear hn hm SW SL hall h0 hM ht hrun K hb hsr hN
  have B0 := galloc (Below.refl w.heap.size w) (.cells #[.slice ai q.items.length ci, .int .i64 q.mode, .int .i64 q.after, .slice aw q.wh.length cw, .int .i64 q.within, .string q.by_, .slice ar q.ret.length cr] 31)
  have b0 := Bk.new w #[.slice ai q.items.length ci, .int .i64 q.mode, .int .i64 q.after, .slice aw q.wh.length cw, .int .i64 q.within, .string q.by_, .slice ar q.ret.length cr] 31
  have hV : (w.alloc (.cells #[.slice ai q.items.length ci, .int .i64 q.mode, .int .i64 q.after, .slice aw q.wh.length cw, .int .i64 q.within, .string q.by_, .slice ar q.ret.length cr] 31)).heap.size = w.heap.size + 1 := by simp
  go_enter Tryd.func28, Tryd.ntmps28
  go_upto_region 1 with fail
  generalize w.alloc _ = V at *
  go_upto_region 2 with (go_at_call 57; (with_reducible refine (cz V B0).mono ?_); rintro e u1 ⟨v1, rfl, O1, G1⟩; obtain ⟨as1, cs1, rfl, _, _, _⟩ := own_form O1; obtain ⟨gs, hgs, c0⟩ := hcell _ _ _ _ O1; subst hgs; rw [hsv] at c0)
  have hmk1 := mkInsR u1 N (by omega)
  have B1 := gtrans B0 G1
  have b1 := b0.keep G1
  have hu1 := G1.size
  rw [hV] at hu1 O1
  go_upto_region 3 with fail
  go_upto_region 4 with fail
  obtain ⟨BV, hBV⟩ : ∃ f : Nat → Int, (fun i => ((posN L M ns (bg (bsOf ns) i) : Nat) : Int)) = f := ⟨_, rfl⟩
  have I0 : CdW w gs cs1 u1.heap.size (u1.heap.size + 1) N n C BV (szL L M ns ns.length) #[.slice ai q.items.length ci, .int .i64 q.mode, .int .i64 q.after, .slice aw q.wh.length cw, .int .i64 q.within, .string q.by_, .slice ar q.ret.length cr] (WoK L M ns n) (WbK ns n) ((u1.alloc (.cells (madeCells (insC noIn) (N * 5)) 74)).alloc (.cells (madeCells #[.int .i64 0] n) 3)) := by
    have o1 := own_made (w := u1) (base := w.heap.size + 1) (e := 74) (size := 5) (madeCells (insC noIn) (N * 5)) N hu1 (by omega) (size_madeCells _ _)
    rw [made_ins] at o1
    have o2 := own_made (w := u1.alloc (.cells (madeCells (insC noIn) (N * 5)) 74)) (base := w.heap.size + 1) (e := 3) (size := 1) (madeCells #[.int .i64 0] n) n (by simp; omega) (by omega) (by rw [size_madeCells, Nat.mul_one])
    rw [made_ints, show (u1.alloc (.cells (madeCells (insC noIn) (N * 5)) 74)).heap.size = u1.heap.size + 1 by simp] at o2
    refine ⟨⟨List.replicate N noIn, List.length_replicate, own_keep o1 (galloc (Below.refl _ _) _), fun x hx => ?_⟩, ⟨List.replicate n 0, List.length_replicate, o2, fun i hi => ?_⟩, by rw [HN.out]; exact own_keep O1 (galloc (galloc (Below.refl _ u1) _) _), (b1.alloc _).alloc _, galloc (galloc B1 _) _⟩
    · obtain ⟨i, q1, q2, _⟩ := hx
      rw [HN.out] at q2
      omega
    · rcases hi with hi | ⟨p, q1, q2, _⟩
      · have h0 := H0.out
        rw [show i = ns.length - 1 by omega, ← hBV]
        dsimp only
        rw [h0, pos_zero, List.getD_eq_getElem?_getD, List.getElem?_replicate]
        split <;> rfl
      · rw [HN.out] at q2
        omega
  have HBV : Hid (∀ i, BV i = ((posN L M ns (bg (bsOf ns) i) : Nat) : Int)) := fun i => (congrFun hBV i).symm
  have hgo := lt_of_cell c0
  clear hBV cz hcell hsv hmk1 hmk2 O1 G1 c0 b0 B0 b1 B1 hu1 hV
  generalize (u1.alloc _).alloc _ = W0 at *
  generalize u1.heap.size = go at *
  replace hgo : gs < go := hgo
  have hgs : gs ≠ go + 1 := by omega
  go_wp2
  go_loopw [10, 11, 12, 13] (fun i _ _ _ wr => ∃ k : Nat, k ≤ n ∧ i = .int .i64 ((k : Int) - 1) ∧ CdW w gs cs1 go (go + 1) N n C BV (szL L M ns ns.length) #[.slice ai q.items.length ci, .int .i64 q.mode, .int .i64 q.after, .slice aw q.wh.length cw, .int .i64 q.within, .string q.by_, .slice ar q.ret.length cr] (WoK L M ns k) (WbK ns k) wr) (fun i _ _ _ _ => (intOf i + 1).toNat)
  case atStart => exact ⟨n, Nat.le_refl _, rfl, I0⟩
  case round =>
    obtain ⟨k, hk, rfl, I⟩ := hrel
    cases k with
    | zero =>
      have e0 : ((0 : Nat) : Int) - 1 = -1 := rfl
      rw [e0]
      have fin := I.whole HSL.out HALL.out
      have G := I.low
      have HF := show Hid _ from fin
      clear I I0 fin
      go_wp2
      go_ret
      exact ⟨go, rfl, HF.out, G⟩
    | succ j =>
      have e1 : ((j + 1 : Nat) : Int) - 1 = (j : Int) := by omega
      rw [e1]
      have hj0 : (0 : Int) ≤ (j : Int) := by omega
      have hjn : (j : Int) < (n : Int) := by omega
      have hj : j < ns.length := by rw [HN.out]; omega
      obtain ⟨g, o, rfl, x0, x1, x2, x3, x4, x5⟩ := (A.keep I.low) j hj
      obtain ⟨⟨v, p0, hv⟩, _⟩ := I.bases (i := j) (by omega)
      have hv := hv (wb_has HK.out H0.out hj)
      have HV := show Hid (v = BV j) from hv
      have s0 := I.sizes (by rw [szL_len]; exact HN.out) (i := j) (by omega)
      rw [szL_at L M ns hj] at s0
      have kj := HK.out j hj
      have hm := pos_mono (L := L) (M := M) (ns := ns) kj.le
      have hown : v + szN L M ns j - 1 = ((posN L M ns j : Nat) : Int) := by
        rw [hv, HBV.out j]
        unfold szN
        omega
      have hxN : posN L M ns j < N := by
        have h1 := pos_mono (L := L) (M := M) (ns := ns) (show j ≤ ns.length - 1 by omega)
        have h2 := HNN.out
        omega
      have hs1 := sz_pos (L := L) (M := M) kj
      have hv1 : 0 ≤ v ∧ v ≤ 2 * (j : Int) := by
        have h1 := pos_le (L := L) (M := M) (ns := ns) (bg (bsOf ns) j)
        have h2 := kj.le
        rw [hv, HBV.out j]
        omega
      have hC := HSW.out.own j (Nat.zero_le _) (by omega)
      have hJ := HSW.out.jmp j (Nat.zero_le _) (by omega)
      have hn0 := fun h1 => tree_n HT.out hj h1
      have hone := fun h => sz_one (L := L) (M := M) HK.out hj h
      have htwo := fun h => sz_two (L := L) (M := M) HK.out hj h
      have hlf := fun (h : (ns.getD j noNd).op ≤ 11) => (show (ns.getD j noNd).l = -1 ∧ (ns.getD j noNd).r = -1 from by
        rcases kj.how with ⟨_, _, e3, e4⟩ | ⟨h2, _⟩ | ⟨h2, _⟩
        · exact ⟨e3, e4⟩
        · omega
        · omega)
      have hr1 := fun (h : (ns.getD j noNd).op = 12 ∨ (ns.getD j noNd).op = 13) => (show (ns.getD j noNd).r = -1 from by
        rcases kj.how with ⟨h2, _⟩ | ⟨_, _, _, h2, _⟩ | ⟨h2, _⟩
        · omega
        · exact h2
        · omega)
      have hop := kj.op
      have hsome : kMent (ns.getD j noNd).op = true → (M (ns.getD j noNd).v).isSome = true := fun hm => by
        have hall : runN M ns (ns.getD j noNd) = true := by
          have hrr := HR.out
          unfold runB at hrr
          rw [Bool.and_eq_true, List.all_eq_true] at hrr
          refine hrr.2 _ ?_
          rw [List.getD_eq_getElem?_getD, List.getElem?_eq_getElem hj]
          exact List.getElem_mem hj
        unfold runN at hall
        rw [Bool.and_eq_true, hm] at hall
        simpa using hall.2
      have hfit := hf j
      have cm := fun u => refMentions_any (ns.getD j noNd).op u
      have hne : Nonempty (Ext wr) := ⟨⟨_, Below.refl _ _⟩⟩
      have r0 := fun e : Ext wr => (e.cell _ _ (lt_of_cell p0)).trans p0
      have r1 := fun e : Ext wr => (e.cell _ _ (lt_of_cell s0)).trans s0
      clear hv
      generalize szN L M ns j = s at *
      obtain ⟨y, hy⟩ : ∃ y, ns.getD j noNd = y := ⟨_, rfl⟩
      have HY := show Hid (ns.getD j noNd = y) from hy
      rw [hy] at x0 hC hJ hn0 hone htwo hlf hop cm hr1 hsome hfit
      clear hy
      obtain ⟨yop, yn, yv, yx, yl, yr⟩ := y
      dsimp only at x0 hn0 hone htwo hlf hop cm hr1 hsome
      have hjn2 : j < n := by omega
      have HJL := show Hid (j < ns.length) from hj
      clear I0 hm kj x1 x2 x3 x4 x5 hj
      go_upto_region 8 with fail
      refine wp_region_ext (by kernel_rfl) (by kernel_rfl) ?_
      repeat (go_big_quiet_step (fail))
      refine wpQuiet_nil ?_
      intro _ hw'
      obtain ⟨nz, hw''⟩ := hw'
      subst hw''
      have I1 := I.keep nz.h
      have p1 := (nz.cell _ _ (lt_of_cell p0)).trans p0
      clear r0 r1 hne
      generalize nz.X = X at *
      obtain ⟨_, _, e9, x0', x1, x2, x3, x4, x5⟩ := (A.keep I1.low) j HJL.out
      cases e9
      rw [HY.out] at x0' x1 x2 x3 x4 x5
      dsimp only at x0' x1 x2 x3 x4 x5
      clear x0 p0 s0 I nz
      obtain ⟨⟨yo, c0, c1, c2, c3, c4⟩, hfz⟩ := I1.cells hxN
      have f0 := hfz (posN L M ns j * 5)
      have f1 := hfz (posN L M ns j * 5 + 1)
      have f2 := hfz (posN L M ns j * 5 + 2)
      have f3 := hfz (posN L M ns j * 5 + 3)
      have f4 := hfz (posN L M ns j * 5 + 4)
      have hxi : ((posN L M ns j : Nat) : Int) < (N : Int) := by omega
      have hx0 : (0 : Int) ≤ ((posN L M ns j : Nat) : Int) := by omega
      clear hfz hown hs1 hv1
      by_cases h1 : yop = 1
      · subst h1
        rw [nodI_plain _ rfl] at hC
        have fin := cd_leaf I1 hxN (by rw [HY.out]; rfl) (leaf_no (by rw [HY.out]; exact hlf (by omega))) ⟨1, 0, 0, yn, 0⟩ hC
        have HF := show Hid _ from fin
        generalize posN L M ns j = x at *
        clear I1 fin hC hJ hone htwo hlf hn0 hop cm
        go_wp2
        go_roundw
        case rel => exact ⟨j, by omega, rfl, HF.out⟩
        case measure => simp [intOf] <;> omega
      have e1 : (yop == 1) = false := beq_eq_false_iff_ne.2 h1
      by_cases h2 : yop = 2
      · subst h2
        rw [nodI_plain _ rfl] at hC
        have fin := cd_leaf I1 hxN (by rw [HY.out]; rfl) (leaf_no (by rw [HY.out]; exact hlf (by omega))) ⟨1, 0, 0, 1, 0⟩ hC
        have HF := show Hid _ from fin
        generalize posN L M ns j = x at *
        clear I1 fin hC hJ hone htwo hlf hn0 hop cm
        go_wp2
        go_roundw
        case rel => exact ⟨j, by omega, rfl, HF.out⟩
        case measure => simp [intOf] <;> omega
      have e2 : (yop == 2) = false := beq_eq_false_iff_ne.2 h2
      by_cases h3 : yop = 3
      · subst h3
        rw [nodI_plain _ rfl] at hC
        have fin := cd_leaf I1 hxN (by rw [HY.out]; rfl) (leaf_no (by rw [HY.out]; exact hlf (by omega))) ⟨1, 0, 0, 0, 0⟩ (hC.trans (by rw [show yn = 0 from hn0 (by decide)]; rfl))
        have HF := show Hid _ from fin
        generalize posN L M ns j = x at *
        clear I1 fin hC hJ hone htwo hlf hn0 hop cm
        go_wp2
        go_roundw
        case rel => exact ⟨j, by omega, rfl, HF.out⟩
        case measure => simp [intOf] <;> omega
      have e3 : (yop == 3) = false := beq_eq_false_iff_ne.2 h3
      by_cases hmm : yop ≤ 11
      · have hm : kMent yop = true := decide_eq_true (by omega)
        rw [hm] at cm
        have cM := fun z : Ext X => ext_of (refMention_any q hq _ ai ci aw cw ar cr (nmK L M ns ns.length) (nm_uniq _) (by have := nm_len L M ns ns.length; rw [HN.out] at this ⊢; omega) lo lc ⟨yop, yn, yv, yx, yl, yr⟩ hfit hm z.X (AQ.keep (gtrans I1.low z.h)) (AS.keep (gtrans I1.low z.h)))
        have hmi := nodI_ment (L := L) (M := M) (ns := ns) q HM.out HJL.out (by rw [HY.out]; exact hm) (by rw [HY.out]; exact hsome hm) (by rw [HY.out]; exact hn0 h1)
        rw [HY.out] at hmi
        obtain ⟨ri, hri⟩ : ∃ r, menI q (nmK L M ns ns.length) ⟨yop, yn, yv, yx, yl, yr⟩ = r := ⟨_, rfl⟩
        rw [hri] at hmi cM
        rw [HMm.out] at cM
        have hCr := hC.trans hmi
        have HL := show Hid (yl = -1 ∧ yr = -1) from hlf hmm
        obtain ⟨b0, b1, b2, b3, b4, b5, b6⟩ := I1.qry.at7
        have hne : Nonempty (Ext X) := ⟨⟨_, Below.refl _ _⟩⟩
        have q0 := fun e : Ext X => (e.cell _ _ (lt_of_cell b0)).trans b0
        have q1 := fun e : Ext X => (e.cell _ _ (lt_of_cell b1)).trans b1
        have q2 := fun e : Ext X => (e.cell _ _ (lt_of_cell b2)).trans b2
        have q3 := fun e : Ext X => (e.cell _ _ (lt_of_cell b3)).trans b3
        have q4 := fun e : Ext X => (e.cell _ _ (lt_of_cell b4)).trans b4
        have q5 := fun e : Ext X => (e.cell _ _ (lt_of_cell b5)).trans b5
        have q6 := fun e : Ext X => (e.cell _ _ (lt_of_cell b6)).trans b6
        have k0 := fun e : Ext X => (e.cell _ _ (lt_of_cell x0')).trans x0'
        have k1 := fun e : Ext X => (e.cell _ _ (lt_of_cell x1)).trans x1
        have k2 := fun e : Ext X => (e.cell _ _ (lt_of_cell x2)).trans x2
        have k3 := fun e : Ext X => (e.cell _ _ (lt_of_cell x3)).trans x3
        have k4 := fun e : Ext X => (e.cell _ _ (lt_of_cell x4)).trans x4
        have k5 := fun e : Ext X => (e.cell _ _ (lt_of_cell x5)).trans x5
        have HCR := show Hid _ from hCr
        have HAO : Hid (aoB (⟨yop, yn, yv, yx, yl, yr⟩ : Nd) = false) := decide_eq_false (by show ¬ (yop = 25 ∨ yop = 26); omega)
        clear hri hmi hCr hC hJ hone htwo hlf hn0 hop hr1 hsome hm
        obtain ⟨ri1, ri2, ri3, ri4, ri5⟩ := ri
        unfold ndA insC at cM
        dsimp only at cM
        go_upto_region 23 with (go_at_call 53; (with_reducible refine (cm _).mono ?_); rintro e u ⟨rfl, hu⟩; have hu' := hu.symm; subst hu')
        refine wp_region_ext_tail 10 (by kernel_rfl) (by kernel_rfl) ?_
        simp only [List.take_succ_cons, List.take_zero, List.drop_succ_cons, List.drop_zero]
        repeat (go_big_quiet_step (first | (go_at_call 58; with_reducible exact cM _)))
        refine wpQuiet_nil ?_
        intro _ hw'
        obtain ⟨nx, hw''⟩ := hw'
        subst hw''
        have I2 := I1.keep nx.h
        clear q0 q1 q2 q3 q4 q5 q6 k0 k1 k2 k3 k4 k5 cM cm hne c0 c1 c2 c3 c4 f0 f1 f2 f3 f4 b0 b1 b2 b3 b4 b5 b6
        generalize nx.X = Y at *
        have fin := cd_leaf I2 hxN (by rw [HY.out]; exact HAO.out) (leaf_no (by rw [HY.out]; exact HL.out)) ⟨ri1, ri2, ri3, ri4, ri5⟩ HCR.out
        have HF := show Hid _ from fin
        obtain ⟨⟨yo, c0, c1, c2, c3, c4⟩, hfz⟩ := I2.cells hxN
        have f0 := hfz (posN L M ns j * 5)
        have f1 := hfz (posN L M ns j * 5 + 1)
        have f2 := hfz (posN L M ns j * 5 + 2)
        have f3 := hfz (posN L M ns j * 5 + 3)
        have f4 := hfz (posN L M ns j * 5 + 4)
        clear hfz I1 I2 fin x0' x1 x2 x3 x4 x5 p1 nx
        generalize posN L M ns j = x at *
        go_wp2
        go_roundw
        case rel => exact ⟨j, by omega, rfl, HF.out⟩
        case measure => simp [intOf] <;> omega
      have hmf : kMent yop = false := decide_eq_false (by omega)
      rw [hmf] at cm
      rw [nodI_plain _ hmf] at hC
      have hkl : kLit (⟨yop, yn, yv, yx, yl, yr⟩ : Nd) = 0 := by
        unfold kLit
        rw [if_neg h2]
        exact hn0 h1
      rw [hkl] at hC
      clear hsome hkl hlf
      by_cases h12 : yop = 12 ∨ yop = 13
      · obtain ⟨a, rfl, haj, _, hbg⟩ := hone h12
        have hrr := hr1 h12
        have han : a < n := by omega
        have hai : (a : Int) < (n : Int) := by omega
        have ha0 : (0 : Int) ≤ (a : Int) := by omega
        have hva : v = BV a := by rw [HV.out, HBV.out, HBV.out, hbg]
        clear hone htwo hr1 hJ
        have hkid : ∀ i, Kid ns j i → i = a := fun i hi => by
          unfold Kid at hi
          rw [HY.out] at hi
          dsimp only at hi
          rcases hi with hi | hi
          · omega
          · omega
        have hao : aoB (ns.getD j noNd) = false := by
          rw [HY.out]
          exact decide_eq_false (by show ¬ (yop = 25 ∨ yop = 26); omega)
        have hne : Nonempty (Ext X) := ⟨⟨_, Below.refl _ _⟩⟩
        have r0 := fun e : Ext X => (e.cell _ _ (lt_of_cell p1)).trans p1
        have r1 := fun e : Ext X => (e.cell _ _ (lt_of_cell x4)).trans x4
        have HVA := show Hid _ from hva
        have HKID := show Hid _ from hkid
        have HAO := show Hid _ from hao
        clear hn0 hop hva hkid hao hbg
        rcases h12 with rfl | rfl
        all_goals
          have HC := show Hid _ from hC
          clear hC
          go_upto_region 25 with (go_at_call 53; (with_reducible refine (cm _).mono ?_); rintro e u ⟨rfl, hu⟩; have hu' := hu.symm; subst hu')
          refine wp_region_ext_tail 11 (by kernel_rfl) (by kernel_rfl) ?_
          simp only [List.take_succ_cons, List.take_zero, List.drop_succ_cons, List.drop_zero]
          repeat (go_big_quiet_step (fail))
          refine wpQuiet_nil ?_
          intro _ hw'
          obtain ⟨nx, hw''⟩ := hw'
          subst hw''
          have I2 := I1.keep nx.h
          clear r0 r1 cm hne c0 c1 c2 c3 c4 f0 f1 f2 f3 f4
          generalize nx.X = Y at *
          obtain ⟨⟨va, y0, _⟩, y1⟩ := I2.bases han
          go_upto_region 26 with fail
          have I3 := I2.putB hgs han v HVA.out
          clear I1 I2 y0 y1 x0' x1 x2 x3 x4 x5 p1 nx
          generalize Y.setCell _ _ = Z at *
          have fin := (I3.putO hxN _ HC.out).weak (Wo' := WoK L M ns j) (Wb' := WbK ns j) (fun x h => by
            rcases wo_step h with (h | h) | h
            · exact .inl h
            · exact absurd h.1 (by rw [HAO.out]; decide)
            · exact .inr h) (fun x h => (wb_step h).imp_right (HKID.out x))
          have HF := show Hid _ from fin
          obtain ⟨⟨yo, c0, c1, c2, c3, c4⟩, hfz⟩ := I3.cells hxN
          have f0 := hfz (posN L M ns j * 5)
          have f1 := hfz (posN L M ns j * 5 + 1)
          have f2 := hfz (posN L M ns j * 5 + 2)
          have f3 := hfz (posN L M ns j * 5 + 3)
          have f4 := hfz (posN L M ns j * 5 + 4)
          clear hfz I3 fin
          generalize posN L M ns j = x at *
          go_wp2
          go_roundw
          case rel => exact ⟨j, by omega, rfl, HF.out⟩
          case measure => simp [intOf] <;> omega
      have e12 : (yop == 12) = false := beq_eq_false_iff_ne.2 (by omega)
      have e13 : (yop == 13) = false := beq_eq_false_iff_ne.2 (by omega)
      have h14 : 14 ≤ yop := by omega
      obtain ⟨a, b, rfl, rfl, haj, hbj, hab, hbg, hbb, t1, t2⟩ := htwo h14
      have han : a < n := by omega
      have hbn : b < n := by omega
      have hai : (a : Int) < (n : Int) := by omega
      have ha0 : (0 : Int) ≤ (a : Int) := by omega
      have hbi : (b : Int) < (n : Int) := by omega
      have hb0 : (0 : Int) ≤ (b : Int) := by omega
      have HVA : Hid (v = BV a) := by show v = _; rw [HV.out, HBV.out, HBV.out, hbg]
      have HKID : Hid (∀ i, Kid ns j i → i = a ∨ i = b) := fun i hi => by
        unfold Kid at hi
        rw [HY.out] at hi
        dsimp only at hi
        rcases hi with hi | hi
        · exact .inl (Int.ofNat_inj.1 hi).symm
        · exact .inr (Int.ofNat_inj.1 hi).symm
      have hka := kin_kid HK.out HJL.out (i := a) (by unfold Kid; rw [HY.out]; exact .inl rfl)
      have hsa := sz_pos (L := L) (M := M) (HK.out a (by rw [HN.out]; exact han))
      obtain ⟨za, hza⟩ : ∃ z, szN L M ns a = z := ⟨_, rfl⟩
      have HZA := show Hid (_ = _) from hza
      obtain ⟨p, hp⟩ : ∃ p, posN L M ns a + 1 = p := ⟨_, rfl⟩
      have HP := show Hid (_ = _) from hp
      have hat : v + szN L M ns a = (p : Int) := by
        have h5 := pos_mono (L := L) (M := M) (ns := ns) hka.2.2
        rw [HVA.out, HBV.out]
        unfold szN
        omega
      have sa := I1.sizes (by rw [szL_len]; exact HN.out) (i := a) han
      rw [szL_at L M ns (by rw [HN.out]; exact han)] at sa
      have hv0 : 0 ≤ v ∧ v ≤ 2 * (a : Int) := by
        have h5 := pos_le (L := L) (M := M) (ns := ns) (bg (bsOf ns) a)
        have h6 := (HK.out a (by rw [HN.out]; exact han)).le
        rw [HVA.out, HBV.out]
        omega
      have hne : Nonempty (Ext X) := ⟨⟨_, Below.refl _ _⟩⟩
      have r0 := fun e : Ext X => (e.cell _ _ (lt_of_cell p1)).trans p1
      have r1 := fun e : Ext X => (e.cell _ _ (lt_of_cell x4)).trans x4
      have HC := show Hid _ from hC
      have HHN := show Hid _ from hn0
      clear hone htwo hr1 hn0 hC hka hp
      rw [hza] at hsa hat sa
      clear hza
      go_upto_region 9 with (go_at_call 53; (with_reducible refine (cm _).mono ?_); rintro e u ⟨rfl, hu⟩; have hu' := hu.symm; subst hu')
      refine wp_region_ext_tail 11 (by kernel_rfl) (by kernel_rfl) ?_
      simp only [List.take_succ_cons, List.take_zero, List.drop_succ_cons, List.drop_zero]
      repeat (go_big_quiet_step (fail))
      refine wpQuiet_nil ?_
      intro _ hw'
      obtain ⟨nx, hw''⟩ := hw'
      subst hw''
      have I2 := I1.keep nx.h
      clear r0 r1 cm hne c0 c1 c2 c3 c4 f0 f1 f2 f3 f4
      generalize nx.X = Y at *
      obtain ⟨⟨va, y0, _⟩, y1⟩ := I2.bases han
      go_upto_region 10 with fail
      have I3 := I2.putB hgs han v HVA.out
      clear I1 I2 y0 y1 x0' x1 x2 x3 x4 x5 p1 nx sa
      generalize Y.setCell _ _ = Z at *
      obtain ⟨⟨v2, p2, hv2⟩, _⟩ := I3.bases hjn2
      have hv2 := hv2 (.inl (wb_has HK.out H0.out HJL.out))
      rw [← HV.out] at hv2
      subst hv2
      obtain ⟨_, _, e9, x0, x1, x2, x3, x4, x5⟩ := (A.keep I3.low) j HJL.out
      cases e9
      rw [HY.out] at x0 x1 x2 x3 x4 x5
      dsimp only at x0 x1 x2 x3 x4 x5
      have sa := I3.sizes (by rw [szL_len]; exact HN.out) (i := a) han
      rw [szL_at L M ns (by rw [HN.out]; exact han), HZA.out] at sa
      have r0 := fun e : Ext Z => (e.cell _ _ (lt_of_cell p2)).trans p2
      have r1 := fun e : Ext Z => (e.cell _ _ (lt_of_cell x4)).trans x4
      have r2 := fun e : Ext Z => (e.cell _ _ (lt_of_cell sa)).trans sa
      have hne : Nonempty (Ext Z) := ⟨⟨_, Below.refl _ _⟩⟩

      refine wp_region_ext (by kernel_rfl) (by kernel_rfl) ?_
      repeat (go_big_quiet_step (fail))
      refine wpQuiet_nil ?_
      intro _ hw'
      obtain ⟨nz, hw''⟩ := hw'
      subst hw''
      have I4 := I3.keep nz.h
      clear r0 r1 r2 hne I3 p2 sa x0 x1 x2 x3 x4 x5
      generalize nz.X = U at *
      obtain ⟨_, _, e9, x0, x1, x2, x3, x4, x5⟩ := (A.keep I4.low) j HJL.out
      cases e9
      rw [HY.out] at x0 x1 x2 x3 x4 x5
      dsimp only at x0 x1 x2 x3 x4 x5
      have hJL := kin_kid HK.out HJL.out (i := b) (by unfold Kid; rw [HY.out]; exact .inr rfl)
      have hpb := pos_mono (L := L) (M := M) (ns := ns) (show bg (bsOf ns) b ≤ j by omega)
      by_cases h25 : yop = 25 ∨ yop = 26
      · have hao : aoB (⟨yop, yn, yv, yx, (a : Int), (b : Int)⟩ : Nd) = true := decide_eq_true h25
        have hpN : p < N := by
          have := (t2 hao).2
          have := HP.out
          omega
        have HVB : Hid (((p : Int) + 1) = BV b) := by show _ = _; rw [HBV.out, (t2 hao).2, ← HP.out]; omega
        have HJ : Hid (C.getD p noIn = ⟨yop, 0, 0, 0, ((posN L M ns j : Nat) : Int) + 1⟩) := by show _ = _; rw [← HP.out]; exact hJ hao
        have HAO : Hid (aoB (ns.getD j noNd) = true ∧ (ns.getD j noNd).l = (a : Int)) := by show _ ∧ _; rw [HY.out]; exact ⟨hao, rfl⟩
        have hpi : (p : Int) < (N : Int) := by omega
        have hp0 : (0 : Int) ≤ (p : Int) := by omega
        have hwr : wrap64 (((posN L M ns j : Nat) : Int) + 1) = ((posN L M ns j : Nat) : Int) + 1 := wrap_ok hx0 (Int.le_trans (Int.le_of_lt hxi) hN43)
        clear hao t1 t2 hpb hJL hJ
        obtain ⟨⟨yo, c0, c1, c2, c3, c4⟩, hfz⟩ := I4.cells hpN
        have f0 := hfz (p * 5)
        have f1 := hfz (p * 5 + 1)
        have f2 := hfz (p * 5 + 2)
        have f3 := hfz (p * 5 + 3)
        have f4 := hfz (p * 5 + 4)
        clear hfz
        rcases h25 with rfl | rfl
        · have HC2 := show Hid _ from HC.out
          go_upto_region 12 with fail
          go_upto_region 13 with fail
          rw [hwr]
          have I6 : CdW w gs cs1 go (go + 1) N n C BV (szL L M ns ns.length) #[.slice ai q.items.length ci, .int .i64 q.mode, .int .i64 q.after, .slice aw q.wh.length cw, .int .i64 q.within, .string q.by_, .slice ar q.ret.length cr] (fun z => WoK L M ns (j + 1) z ∨ z = p) (fun z => WbK ns (j + 1) z ∨ z = a) (((((U.setCell ⟨go, p * 5, none⟩ (.int .i64 25)).setCell ⟨go, p * 5 + 1, none⟩ (.int .i64 0)).setCell ⟨go, p * 5 + 2, none⟩ (.int .i64 0)).setCell ⟨go, p * 5 + 3, none⟩ (.int .i64 0)).setCell ⟨go, p * 5 + 4, none⟩ (.int .i64 (((posN L M ns j : Nat) : Int) + 1))) := I4.putO hpN ⟨25, 0, 0, 0, ((posN L M ns j : Nat) : Int) + 1⟩ HJ.out
          clear I4 c0 c1 c2 c3 c4 f0 f1 f2 f3 f4 x0 x1 x2 x3 x4 x5 nz
          generalize ((((U.setCell ⟨go, p * 5, none⟩ (.int .i64 25)).setCell ⟨go, p * 5 + 1, none⟩ (.int .i64 0)).setCell ⟨go, p * 5 + 2, none⟩ (.int .i64 0)).setCell ⟨go, p * 5 + 3, none⟩ (.int .i64 0)).setCell ⟨go, p * 5 + 4, none⟩ (.int .i64 (((posN L M ns j : Nat) : Int) + 1)) = S at *
          obtain ⟨_, _, e9, x0, x1, x2, x3, x4, x5⟩ := (A.keep I6.low) j HJL.out
          cases e9
          rw [HY.out] at x0 x1 x2 x3 x4 x5
          dsimp only at x0 x1 x2 x3 x4 x5
          obtain ⟨⟨vb, y0, _⟩, y1⟩ := I6.bases hbn
          go_upto_region 15 with fail
          have I5 := I6.putB hgs hbn ((p : Int) + 1) HVB.out
          clear I6 y0 y1 x0 x1 x2 x3 x4 x5
          generalize S.setCell _ _ = T at *
          have fin := (I5.putO hxN _ HC2.out).weak (Wo' := WoK L M ns j) (Wb' := WbK ns j) (fun x h => by
            rcases wo_step h with (h | h) | h
            · exact .inl (.inl h)
            · exact .inl (.inr (by rw [h.2, HAO.out.2, Int.toNat_natCast]; exact HP.out))
            · exact .inr h) (fun x h => by
            rcases wb_step h with h | h
            · exact .inl (.inl h)
            · rcases HKID.out x h with h | h
              · exact .inl (.inr h)
              · exact .inr h)
          have HF := show Hid _ from fin
          obtain ⟨⟨yo, c0, c1, c2, c3, c4⟩, hfz⟩ := I5.cells hxN
          have f0 := hfz (posN L M ns j * 5)
          have f1 := hfz (posN L M ns j * 5 + 1)
          have f2 := hfz (posN L M ns j * 5 + 2)
          have f3 := hfz (posN L M ns j * 5 + 3)
          have f4 := hfz (posN L M ns j * 5 + 4)
          clear hfz I5 fin hwr
          generalize posN L M ns j = x at *
          go_wp2
          go_roundw
          case rel => exact ⟨j, by omega, rfl, HF.out⟩
          case measure => simp [intOf] <;> omega
        · have HC2 := show Hid _ from HC.out
          go_upto_region 12 with fail
          go_upto_region 13 with fail
          rw [hwr]
          have I6 : CdW w gs cs1 go (go + 1) N n C BV (szL L M ns ns.length) #[.slice ai q.items.length ci, .int .i64 q.mode, .int .i64 q.after, .slice aw q.wh.length cw, .int .i64 q.within, .string q.by_, .slice ar q.ret.length cr] (fun z => WoK L M ns (j + 1) z ∨ z = p) (fun z => WbK ns (j + 1) z ∨ z = a) (((((U.setCell ⟨go, p * 5, none⟩ (.int .i64 26)).setCell ⟨go, p * 5 + 1, none⟩ (.int .i64 0)).setCell ⟨go, p * 5 + 2, none⟩ (.int .i64 0)).setCell ⟨go, p * 5 + 3, none⟩ (.int .i64 0)).setCell ⟨go, p * 5 + 4, none⟩ (.int .i64 (((posN L M ns j : Nat) : Int) + 1))) := I4.putO hpN ⟨26, 0, 0, 0, ((posN L M ns j : Nat) : Int) + 1⟩ HJ.out
          clear I4 c0 c1 c2 c3 c4 f0 f1 f2 f3 f4 x0 x1 x2 x3 x4 x5 nz
          generalize ((((U.setCell ⟨go, p * 5, none⟩ (.int .i64 26)).setCell ⟨go, p * 5 + 1, none⟩ (.int .i64 0)).setCell ⟨go, p * 5 + 2, none⟩ (.int .i64 0)).setCell ⟨go, p * 5 + 3, none⟩ (.int .i64 0)).setCell ⟨go, p * 5 + 4, none⟩ (.int .i64 (((posN L M ns j : Nat) : Int) + 1)) = S at *
          obtain ⟨_, _, e9, x0, x1, x2, x3, x4, x5⟩ := (A.keep I6.low) j HJL.out
          cases e9
          rw [HY.out] at x0 x1 x2 x3 x4 x5
          dsimp only at x0 x1 x2 x3 x4 x5
          obtain ⟨⟨vb, y0, _⟩, y1⟩ := I6.bases hbn
          go_upto_region 15 with fail
          have I5 := I6.putB hgs hbn ((p : Int) + 1) HVB.out
          clear I6 y0 y1 x0 x1 x2 x3 x4 x5
          generalize S.setCell _ _ = T at *
          have fin := (I5.putO hxN _ HC2.out).weak (Wo' := WoK L M ns j) (Wb' := WbK ns j) (fun x h => by
            rcases wo_step h with (h | h) | h
            · exact .inl (.inl h)
            · exact .inl (.inr (by rw [h.2, HAO.out.2, Int.toNat_natCast]; exact HP.out))
            · exact .inr h) (fun x h => by
            rcases wb_step h with h | h
            · exact .inl (.inl h)
            · rcases HKID.out x h with h | h
              · exact .inl (.inr h)
              · exact .inr h)
          have HF := show Hid _ from fin
          obtain ⟨⟨yo, c0, c1, c2, c3, c4⟩, hfz⟩ := I5.cells hxN
          have f0 := hfz (posN L M ns j * 5)
          have f1 := hfz (posN L M ns j * 5 + 1)
          have f2 := hfz (posN L M ns j * 5 + 2)
          have f3 := hfz (posN L M ns j * 5 + 3)
          have f4 := hfz (posN L M ns j * 5 + 4)
          clear hfz I5 fin hwr
          generalize posN L M ns j = x at *
          go_wp2
          go_roundw
          case rel => exact ⟨j, by omega, rfl, HF.out⟩
          case measure => simp [intOf] <;> omega
      · have hao : aoB (⟨yop, yn, yv, yx, (a : Int), (b : Int)⟩ : Nd) = false := decide_eq_false h25
        have HVB : Hid ((p : Int) = BV b) := by show _ = _; rw [HBV.out, (t1 hao).2, HP.out]
        have e25 : (yop == 25) = false := beq_eq_false_iff_ne.2 (by omega)
        have e26 : (yop == 26) = false := beq_eq_false_iff_ne.2 (by omega)
        have hkc : kCod yop = yop - 14 + 12 := by
          unfold kCod
          rw [if_neg (by omega), if_neg (by omega), if_neg (by omega), if_neg (by omega)]
          omega
        have hC2 := HC.out
        rw [hkc] at hC2
        have HC2 := show Hid _ from hC2
        have HAO : Hid (aoB (ns.getD j noNd) = false) := by show _ = _; rw [HY.out]; exact hao
        clear hC2 hkc hao t1 t2 hpb hJL hJ
        obtain ⟨⟨vb, y0, _⟩, y1⟩ := I4.bases hbn
        go_upto_region 15 with fail
        have I5 := I4.putB hgs hbn (p : Int) HVB.out
        clear I4 y0 y1 x0 x1 x2 x3 x4 x5 nz
        generalize U.setCell _ _ = T at *
        have fin := (I5.putO hxN _ HC2.out).weak (Wo' := WoK L M ns j) (Wb' := WbK ns j) (fun x h => by
          rcases wo_step h with (h | h) | h
          · exact .inl h
          · exact absurd h.1 (by rw [HAO.out]; decide)
          · exact .inr h) (fun x h => by
          rcases wb_step h with h | h
          · exact .inl (.inl h)
          · rcases HKID.out x h with h | h
            · exact .inl (.inr h)
            · exact .inr h)
        have HF := show Hid _ from fin
        obtain ⟨⟨yo, c0, c1, c2, c3, c4⟩, hfz⟩ := I5.cells hxN
        have f0 := hfz (posN L M ns j * 5)
        have f1 := hfz (posN L M ns j * 5 + 1)
        have f2 := hfz (posN L M ns j * 5 + 2)
        have f3 := hfz (posN L M ns j * 5 + 3)
        have f4 := hfz (posN L M ns j * 5 + 4)
        clear hfz I5 fin
        generalize posN L M ns j = x at *
        go_wp2
        go_roundw
        case rel => exact ⟨j, by omega, rfl, HF.out⟩
        case measure => simp [intOf] <;> omega

end Go.Proofs.YtnmppmmanigpcaaDoor
