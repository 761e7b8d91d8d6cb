/- The query and the tree with other variables: the walk. And what goes with it: 1 texts in one. -/
import Derived.Test.YtnolbpekdikamaaGreatDoorJb19
import Derived.Deep.CutRange
namespace Go.Proofs.YtnolbpekdikamaaGreatDoor
open Go.RowKit Go.BigFrame Go.Proofs.YtnolbpekdikamaaGreatDoor.Ev
set_option linter.unusedVariables false
set_option linter.unusedSimpArgs false

structure RenR (q : Qy) (ns : List Nd) (w : World) (e : Ending) (w' : World) : Prop where
  ex : ∃ av cv bv dv, e = .returned (.tuple #[.agg (zQ (.slice av q.items.length cv)), .slice bv ns.length dv]) ∧ IsQ w' (renQ q) (zQ (.slice av q.items.length cv)) av cv none 0 none 0 ∧ IsNds w' bv (ns.map (renN q.items))
  g : Below w.heap.size w w'
/-- The items so far. -/
structure RnI (q : Qy) (U : World) (x : Value) (wr : World) : Prop where
  ex : ∃ (k : Nat) (av : Option Addr) (cv : Nat), k ≤ q.items.length ∧ x = .int .i64 (k : Int) ∧ Bk wr U.heap.size (zQ (.slice av k cv)) 31 ∧ wr.ownsRow U.heap.size 69 5 (.slice av k cv) k (fl riC ((renIs q.items).take k))
  g : Below U.heap.size U wr
/-- The nodes so far. -/
structure RnN (q : Qy) (ns : List Nd) (U : World) (v x : Value) (wr : World) : Prop where
  ex : ∃ (k : Nat) (av : Option Addr) (cv : Nat), k ≤ ns.length ∧ x = .int .i64 (k : Int) ∧ v = .slice av k cv ∧ wr.ownsRow U.heap.size 64 6 (.slice av k cv) k (ndsV ((ns.map (renN q.items)).take k))
  g : Below U.heap.size U wr
theorem nds_take (l : List Nd) (k : Nat) (h : k < l.length) : ndsV (l.take (k + 1)) = ndsV (l.take k) ++ (ndA (l.getD k noNd)).toList := by
  rw [take_snoc l noNd k h]
  unfold ndsV
  rw [List.flatMap_append]
  simp
theorem fl_takeR (l : List It) (k : Nat) (h : k < l.length) : fl riC (l.take (k + 1)) = fl riC (l.take k) ++ (riC (l.getD k noIt)).toList := by
  rw [take_snoc l noIt k h, fl_app]
  simp [fl]
set_option maxRecDepth 100000 in
set_option maxHeartbeats 16000000 in
theorem renamed_any (q : Qy) (hq : q.fit) (cs : Array Value) (ai : Option Addr) (ci : Nat) (aw : Option Addr) (cw : Nat) (ar : Option Addr) (cr : Nat) (ns : List Nd) (ao : Option Addr) (cap : Nat) (w : World) (T : PwAt w) (AQ : IsQ w q cs ai ci aw cw ar cr) (AN : IsNds w ao ns) (hf : ∀ k, (ns.getD k noNd).fit) (hr : ns.length * 64 ≤ 140737488351232) :
    Calls Tryz.prog 15 #[.agg cs, .slice ao ns.length cap] w fun e w' => RenR q ns w e w' := by
  have hcs := AQ.eq
  subst hcs
  have hn := hq.n
  have cI := fun (s : ByteArray) (hs : s.size ≤ 140737488351232) (u : World) (g : Below w.heap.size w u) => lawItemOf_any q hq s hs _ ai ci aw cw ar cr u (AQ.keep g)
  have cT := fun (n : Int) (h0 : -9223372036854775808 ≤ n) (h1 : n ≤ 9223372036854775807) (u : World) (g : Below w.heap.size w u) => itoa_any n h0 h1 u (T.keep g)
  have B1 := galloc (Below.refl w.heap.size w) (.cells #[.slice ai q.items.length ci, .int .i64 q.mode, .int .i64 q.after, .slice aw q.wh.length cw, .int .i64 q.within, .string q.by_, .slice ar q.ret.length cr] 31)
  have B2 := galloc B1 (.cells (zQ (.slice none 0 0)) 31)
  have k1 := (Bk.new w #[.slice ai q.items.length ci, .int .i64 q.mode, .int .i64 q.after, .slice aw q.wh.length cw, .int .i64 q.within, .string q.by_, .slice ar q.ret.length cr] 31).alloc (.cells (zQ (.slice none 0 0)) 31)
  have k2 := Bk.newE (w := w.alloc (.cells #[.slice ai q.items.length ci, .int .i64 q.mode, .int .i64 q.after, .slice aw q.wh.length cw, .int .i64 q.within, .string q.by_, .slice ar q.ret.length cr] 31)) (g := w.heap.size + 1) (by simp) (zQ (.slice none 0 0)) 31
  go_enter Tryz.func15, Tryz.ntmps15
  go_upto_region 1 with fail
  have hU : ((w.alloc (.cells #[.slice ai q.items.length ci, .int .i64 q.mode, .int .i64 q.after, .slice aw q.wh.length cw, .int .i64 q.within, .string q.by_, .slice ar q.ret.length cr] 31)).alloc (.cells (zQ (.slice none 0 0)) 31)).heap.size = w.heap.size + 2 := by simp
  generalize (w.alloc _).alloc _ = U at *
  have R0 : RnI q U (.int .i64 0) (U.alloc (.cells (zQ (.slice none 0 0)) 31)) := ⟨⟨0, none, 0, Nat.zero_le _, rfl, Bk.new U _ _, World.ownsRow_nil _ _ _ _⟩, galloc (Below.refl _ _) _⟩
  go_upto_region 3 with fail
  go_loopw [7] (fun x wr => RnI q U x wr) (fun x _ => q.items.length - (intOf x).toNat)
  case atStart => exact R0
  case round =>
    clear R0
    obtain ⟨⟨k, av, cv, hk, rfl, b6, O⟩, G⟩ := hrel
    rw [hU] at b6
    have GW := gtrans B2 G
    have i1 := k1.keep G
    obtain ⟨q0, q1, q2, q3, q4, q5, q6⟩ := i1.at7
    by_cases hlt : k < q.items.length
    · have hki : (k : Int) < (q.items.length : Int) := by omega
      obtain ⟨g, og, rfl, a2, c2, z0, z1, z2, z3, z4, _, _⟩ := (AQ.its.keep GW) k hlt
      have hst := fl_takeR (renIs q.items) k (by rw [renIs_len]; exact hlt)
      rw [renIs_at _ _ hlt] at hst
      have hsz := (hq.its k).v
      obtain ⟨s, hs⟩ : ∃ s, (q.items.getD k noIt).v = s := ⟨_, rfl⟩
      have hit : renI q.items (q.items.getD k noIt) = ⟨false, [], renV (itmI q.items s), 0, 0⟩ := by unfold renI; rw [hs]
      rw [hs] at z2 hsz
      obtain ⟨r0, r1⟩ := itm_rng q.items (by omega) s
      obtain ⟨z, hz⟩ : ∃ z, itmI q.items s = z := ⟨_, rfl⟩
      rw [hz] at r0 r1 hit
      rw [hit] at hst
      obtain ⟨it, hit2⟩ : ∃ it, (⟨false, [], renV z, 0, 0⟩ : It) = it := ⟨_, rfl⟩
      have hric : riC it = #[.bool false, .slice none 0 0, .string (renV z), .int .i64 0, .int .i64 0] := by rw [← hit2]; rfl
      rw [hit2] at hst
      obtain ⟨p0, _, _, _, _, _, _⟩ := b6.at7
      have HST := show Hid _ from hst
      clear hst hit hit2 hs z0 z1 z3 z4
      have GWU := B2
      obtain ⟨s0, s1, s2, s3, s4, s5, s6⟩ := k1.at7
      have z2u : U.cell? ⟨g, og + k * 5 + 2, none⟩ = some (.string s) := by
        obtain ⟨g', o', e', a2', c2', _, _, y2, _, _, _, _⟩ := (AQ.its.keep B2) k hlt
        cases e'
        have := (G.cell (p := ⟨g, og + k * 5 + 2, none⟩) (lt_of_cell y2)).trans y2
        rw [z2] at this
        rw [y2, ← Option.some.inj this]
      have hne0 : Nonempty (Ext U) := ⟨⟨_, Below.refl _ _⟩⟩
      have pq0 := fun z : Ext U => (z.cell _ _ (lt_of_cell s0)).trans s0
      have pq1 := fun z : Ext U => (z.cell _ _ (lt_of_cell s1)).trans s1
      have pq2 := fun z : Ext U => (z.cell _ _ (lt_of_cell s2)).trans s2
      have pq3 := fun z : Ext U => (z.cell _ _ (lt_of_cell s3)).trans s3
      have pq4 := fun z : Ext U => (z.cell _ _ (lt_of_cell s4)).trans s4
      have pq5 := fun z : Ext U => (z.cell _ _ (lt_of_cell s5)).trans s5
      have pq6 := fun z : Ext U => (z.cell _ _ (lt_of_cell s6)).trans s6
      have pz2 := fun z : Ext U => (z.cell _ _ (lt_of_cell z2u)).trans z2u
      have hbld : ∀ W : World, (Instr.buildSlice 25 1 #[(0, .agg #[.bool false, .slice none 0 0, .string (renV z), .int .i64 0, .int .i64 0])]).run Tryz.prog W = .ok (.slice (some ⟨W.heap.size, 0, none⟩) 1 1) (W.alloc (.cells (riC it) 69)) := fun W => by
        have := bldRi it W
        rw [hric] at this ⊢
        exact this
      have hr1 : k + 1 ≤ 9223372036854775807 := by omega
      have hr2 : ((k + 1) + (k + 1) / 4 + 192) * 64 ≤ 281474976710656 := by omega
      have gub := G.size
      go_upto_region 5 with fail
      refine wp_region_held (S := fun X => ∃ n : Ext U, X = n.X) (by kernel_rfl) ?_
      have hX0 : Below wr.heap.size wr { wr with drawn := wr.drawn + 1 } := (Below.refl _ wr).drew
      obtain ⟨X0, hXe⟩ : ∃ X, { wr with drawn := wr.drawn + 1 } = X := ⟨_, rfl⟩
      have hX0 : Below wr.heap.size wr X0 := hXe ▸ hX0
      rw [hXe]
      clear hXe
      refine anyH_pick (g := 9) [0, 2, 3, 4, 5, 6, 7, 8] (by kernel_rfl) (fun c a d v w h => by cases d <;> exact h) ⟨⟨X0, gtrans G hX0⟩, rfl⟩ rfl (by kernel_rfl) ?_
      simp only [pickL, List.filterMap_cons, List.filterMap_nil, List.getElem?_toArray, List.getElem?_cons_zero, List.getElem?_cons_succ]
      refine (show wpQuiet _ _ _ _ [_, _, _, _, _, _, _, _] _ from ?_)
      repeat (go_big_quiet_step (fail))
      refine wpQuiet_nil ?_
      --X
      refine wpAnyH_all (rs := [1, 9]) (by kernel_rfl) (by decide) ?_
      intro i hi
      simp only [List.mem_cons, List.not_mem_nil, or_false] at hi
      rcases hi with rfl | rfl
      · refine wpOp_val (v := .slice av k cv) (w' := X0) (some 20) rfl rfl rfl (ldI_run (.tmp 19) rfl rfl (b6.keep hX0).at7.1) ?_
        refine ⟨⟨⟨X0, gtrans G hX0⟩, rfl⟩, ?_⟩
        simp only [Act.put, List.setIfInBounds_toArray, List.set_cons_succ, List.set_cons_zero]
        refine wpAnyH_all (rs := [9]) (by kernel_rfl) (by decide) ?_
        intro i hi
        simp only [List.mem_cons, List.not_mem_nil, or_false] at hi
        subst hi
        refine wpOp_callG (some 28) rfl rfl (by kernel_rfl) 37 #[.agg #[.slice (some ⟨g, og, none⟩) q.items.length ci, .int .i64 q.mode, .int .i64 q.after, .slice aw q.wh.length cw, .int .i64 q.within, .string q.by_, .slice ar q.ret.length cr], .string s] (by kernel_rfl) _ (cI s hsz X0 (gtrans GW hX0)) ?_
        rintro e Y2 ⟨rfl, gY2⟩
        rw [hz]
        have hY2 := hX0.trans (gY2.mono hX0.size)
        clear gY2
        refine ⟨_, rfl, ⟨⟨Y2, gtrans G hY2⟩, rfl⟩, ?_⟩
        simp only [Act.put, List.setIfInBounds_toArray, List.set_cons_succ, List.set_cons_zero]
        refine wpAnyH_all (rs := [10]) (by kernel_rfl) (by decide) ?_
        intro i hi
        simp only [List.mem_cons, List.not_mem_nil, or_false] at hi
        subst hi
        refine wpOp_callG (some 29) rfl rfl (by kernel_rfl) 39 #[.int .i64 z] (by kernel_rfl) _ (cT z r0 r1 Y2 (gtrans GW hY2)) ?_
        rintro e Y3 ⟨rfl, gY3⟩
        have hY3 := hY2.trans (gY3.mono hY2.size)
        clear gY3
        refine ⟨_, rfl, ⟨⟨Y3, gtrans G hY3⟩, rfl⟩, ?_⟩
        simp only [Act.put, List.setIfInBounds_toArray, List.set_cons_succ, List.set_cons_zero]
        refine anyH_pick (g := 4) [11, 12] (by kernel_rfl) (fun c a d v w h => by cases d <;> exact h) ⟨⟨Y3, gtrans G hY3⟩, rfl⟩ rfl (by kernel_rfl) ?_
        simp only [pickL, List.filterMap_cons, List.filterMap_nil, List.getElem?_toArray, List.getElem?_cons_zero, List.getElem?_cons_succ]
        refine (show wpQuiet _ _ _ _ [_, _] _ from ?_)
        refine quiet_op rfl (.const (.string ⟨#[118]⟩)) (.tmp 29) rfl rfl rfl (fun w => by simp [eqGuard]) (fun w => catR z r0 r1 w) _ rfl ?_
        simp only [Act.put, List.setIfInBounds_toArray, List.set_cons_succ, List.set_cons_zero]
        refine quiet_build1 rfl (.tmp 30) rfl rfl (fun w => bldR (renV z) w) _ rfl ?_
        simp only [Act.put, List.setIfInBounds_toArray, List.set_cons_succ, List.set_cons_zero]
        refine wpQuiet_nil ?_
        refine wpAnyH_all (rs := [13]) (by kernel_rfl) (by decide) ?_
        intro i hi
        simp only [List.mem_cons, List.not_mem_nil, or_false] at hi
        subst hi
        have bn := Bk.new Y3 (riC it) 69
        have hY40 := galloc hY3 (.cells (riC it) 69)
        refine wpOp_val (v := .slice (some ⟨Y3.heap.size, 0, none⟩) 1 1) (w' := Y3.alloc (.cells (riC it) 69)) (some 32) rfl rfl rfl (bldS_run (hbld Y3)) ?_
        generalize Y3.alloc (.cells (riC it) 69) = Y4 at *
        have hY4 : Below wr.heap.size wr Y4 := hY40
        refine ⟨⟨⟨Y4, gtrans G hY4⟩, rfl⟩, ?_⟩
        simp only [Act.put, List.setIfInBounds_toArray, List.set_cons_succ, List.set_cons_zero]
        refine wpAnyH_all (rs := [14]) (by kernel_rfl) (by decide) ?_
        intro i hi
        simp only [List.mem_cons, List.not_mem_nil, or_false] at hi
        subst hi
        have hnews := World.news_of_block bn
        have OW := own_keep O hY4
        refine wpOp_append_one (some 33) rfl rfl rfl (.tmp 20) (.tmp 32) rfl Tryz.underlying25 nf_item rfl (by decide) (.slice av k cv) U.heap.size k _ rfl OW (Nat.le_trans gub hY4.size) ⟨Y3.heap.size, 0, none⟩ 1 (riC it).toList rfl rfl hnews (ri_ones it) hr1 hr2 ?_
        intro gz cz w6 O6 G6 hg
        have h6 : Below U.heap.size U w6 := (gtrans G hY4).grown G6 (Nat.le_trans gub hY4.size) (fun r e => (OW.lt _ e).1)
        have b7 := bk_far (b6.keep hY4) OW (by decide) G6
        refine ⟨⟨⟨w6, h6⟩, rfl⟩, ?_⟩
        simp only [Act.put, List.setIfInBounds_toArray, List.set_cons_succ, List.set_cons_zero]
        refine anyH_pick (g := 1) [15] (by kernel_rfl) (fun c a d v w h => by cases d <;> exact h) ⟨⟨w6, h6⟩, rfl⟩ rfl (by kernel_rfl) ?_
        simp only [pickL, List.filterMap_cons, List.filterMap_nil, List.getElem?_toArray, List.getElem?_cons_zero, List.getElem?_cons_succ]
        refine (show wpQuiet _ _ _ _ [_] _ from ?_)
        repeat (go_big_quiet_step (fail))
        refine wpQuiet_nil ?_
        refine wpAnyH_all (rs := [16]) (by kernel_rfl) (by decide) ?_
        intro i hi
        simp only [List.mem_cons, List.not_mem_nil, or_false] at hi
        subst hi
        have h7 := gset h6 (p := ⟨w.heap.size + 2, 0, none⟩) (by dsimp only; omega) (.slice (some ⟨gz, 0, none⟩) (k + 1) cz)
        refine wpOp_setS none rfl rfl rfl 25 (.tmp 34) (.tmp 33) rfl (w.heap.size + 2) 0 _ _ _ rfl rfl b7.at7.1 (b7.free 0) (by kernel_rfl) ?_
        refine ⟨⟨⟨_, h7⟩, rfl⟩, ?_⟩
        simp only [Act.put, List.setIfInBounds_toArray, List.set_cons_succ, List.set_cons_zero]
        have O7 := own_but O6 b7 (by decide) ((But.refl (w.heap.size + 2) w6).set 0 (.slice (some ⟨gz, 0, none⟩) (k + 1) cz))
        rw [← HST.out] at O7
        have fin : RnI q U (.int .i64 ((k : Int) + 1)) (w6.setCell ⟨w.heap.size + 2, 0, none⟩ (.slice (some ⟨gz, 0, none⟩) (k + 1) cz)) := ⟨⟨k + 1, some ⟨gz, 0, none⟩, cz, by omega, by go_num, by rw [hU]; exact b7.set 0 _, O7⟩, h7⟩
        clear O7 h7 b7 h6 OW O6 G6 hnews
        refine wpAnyH_done (by kernel_rfl) ?_ _
        try simp only [Exit.then]
        go_step
        go_wp2
        go_roundw
        case rel => exact fin
        case measure => simp [intOf]; omega
      · refine wpOp_callG (some 28) rfl rfl (by kernel_rfl) 37 #[.agg #[.slice (some ⟨g, og, none⟩) q.items.length ci, .int .i64 q.mode, .int .i64 q.after, .slice aw q.wh.length cw, .int .i64 q.within, .string q.by_, .slice ar q.ret.length cr], .string s] (by kernel_rfl) _ (cI s hsz X0 (gtrans GW hX0)) ?_
        rintro e Y5 ⟨rfl, gY5⟩
        rw [hz]
        have hY5 := hX0.trans (gY5.mono hX0.size)
        clear gY5
        refine ⟨_, rfl, ⟨⟨Y5, gtrans G hY5⟩, rfl⟩, ?_⟩
        simp only [Act.put, List.setIfInBounds_toArray, List.set_cons_succ, List.set_cons_zero]
        refine wpAnyH_all (rs := [1, 10]) (by kernel_rfl) (by decide) ?_
        intro i hi
        simp only [List.mem_cons, List.not_mem_nil, or_false] at hi
        rcases hi with rfl | rfl
        · refine wpOp_val (v := .slice av k cv) (w' := Y5) (some 20) rfl rfl rfl (ldI_run (.tmp 19) rfl rfl (b6.keep hY5).at7.1) ?_
          refine ⟨⟨⟨Y5, gtrans G hY5⟩, rfl⟩, ?_⟩
          simp only [Act.put, List.setIfInBounds_toArray, List.set_cons_succ, List.set_cons_zero]
          refine wpAnyH_all (rs := [10]) (by kernel_rfl) (by decide) ?_
          intro i hi
          simp only [List.mem_cons, List.not_mem_nil, or_false] at hi
          subst hi
          refine wpOp_callG (some 29) rfl rfl (by kernel_rfl) 39 #[.int .i64 z] (by kernel_rfl) _ (cT z r0 r1 Y5 (gtrans GW hY5)) ?_
          rintro e Y7 ⟨rfl, gY7⟩
          have hY7 := hY5.trans (gY7.mono hY5.size)
          clear gY7
          refine ⟨_, rfl, ⟨⟨Y7, gtrans G hY7⟩, rfl⟩, ?_⟩
          simp only [Act.put, List.setIfInBounds_toArray, List.set_cons_succ, List.set_cons_zero]
          refine anyH_pick (g := 4) [11, 12] (by kernel_rfl) (fun c a d v w h => by cases d <;> exact h) ⟨⟨Y7, gtrans G hY7⟩, rfl⟩ rfl (by kernel_rfl) ?_
          simp only [pickL, List.filterMap_cons, List.filterMap_nil, List.getElem?_toArray, List.getElem?_cons_zero, List.getElem?_cons_succ]
          refine (show wpQuiet _ _ _ _ [_, _] _ from ?_)
          refine quiet_op rfl (.const (.string ⟨#[118]⟩)) (.tmp 29) rfl rfl rfl (fun w => by simp [eqGuard]) (fun w => catR z r0 r1 w) _ rfl ?_
          simp only [Act.put, List.setIfInBounds_toArray, List.set_cons_succ, List.set_cons_zero]
          refine quiet_build1 rfl (.tmp 30) rfl rfl (fun w => bldR (renV z) w) _ rfl ?_
          simp only [Act.put, List.setIfInBounds_toArray, List.set_cons_succ, List.set_cons_zero]
          refine wpQuiet_nil ?_
          refine wpAnyH_all (rs := [13]) (by kernel_rfl) (by decide) ?_
          intro i hi
          simp only [List.mem_cons, List.not_mem_nil, or_false] at hi
          subst hi
          have bn := Bk.new Y7 (riC it) 69
          have hY80 := galloc hY7 (.cells (riC it) 69)
          refine wpOp_val (v := .slice (some ⟨Y7.heap.size, 0, none⟩) 1 1) (w' := Y7.alloc (.cells (riC it) 69)) (some 32) rfl rfl rfl (bldS_run (hbld Y7)) ?_
          generalize Y7.alloc (.cells (riC it) 69) = Y8 at *
          have hY8 : Below wr.heap.size wr Y8 := hY80
          refine ⟨⟨⟨Y8, gtrans G hY8⟩, rfl⟩, ?_⟩
          simp only [Act.put, List.setIfInBounds_toArray, List.set_cons_succ, List.set_cons_zero]
          refine wpAnyH_all (rs := [14]) (by kernel_rfl) (by decide) ?_
          intro i hi
          simp only [List.mem_cons, List.not_mem_nil, or_false] at hi
          subst hi
          have hnews := World.news_of_block bn
          have OW := own_keep O hY8
          refine wpOp_append_one (some 33) rfl rfl rfl (.tmp 20) (.tmp 32) rfl Tryz.underlying25 nf_item rfl (by decide) (.slice av k cv) U.heap.size k _ rfl OW (Nat.le_trans gub hY8.size) ⟨Y7.heap.size, 0, none⟩ 1 (riC it).toList rfl rfl hnews (ri_ones it) hr1 hr2 ?_
          intro gz cz w6 O6 G6 hg
          have h6 : Below U.heap.size U w6 := (gtrans G hY8).grown G6 (Nat.le_trans gub hY8.size) (fun r e => (OW.lt _ e).1)
          have b7 := bk_far (b6.keep hY8) OW (by decide) G6
          refine ⟨⟨⟨w6, h6⟩, rfl⟩, ?_⟩
          simp only [Act.put, List.setIfInBounds_toArray, List.set_cons_succ, List.set_cons_zero]
          refine anyH_pick (g := 1) [15] (by kernel_rfl) (fun c a d v w h => by cases d <;> exact h) ⟨⟨w6, h6⟩, rfl⟩ rfl (by kernel_rfl) ?_
          simp only [pickL, List.filterMap_cons, List.filterMap_nil, List.getElem?_toArray, List.getElem?_cons_zero, List.getElem?_cons_succ]
          refine (show wpQuiet _ _ _ _ [_] _ from ?_)
          repeat (go_big_quiet_step (fail))
          refine wpQuiet_nil ?_
          refine wpAnyH_all (rs := [16]) (by kernel_rfl) (by decide) ?_
          intro i hi
          simp only [List.mem_cons, List.not_mem_nil, or_false] at hi
          subst hi
          have h7 := gset h6 (p := ⟨w.heap.size + 2, 0, none⟩) (by dsimp only; omega) (.slice (some ⟨gz, 0, none⟩) (k + 1) cz)
          refine wpOp_setS none rfl rfl rfl 25 (.tmp 34) (.tmp 33) rfl (w.heap.size + 2) 0 _ _ _ rfl rfl b7.at7.1 (b7.free 0) (by kernel_rfl) ?_
          refine ⟨⟨⟨_, h7⟩, rfl⟩, ?_⟩
          simp only [Act.put, List.setIfInBounds_toArray, List.set_cons_succ, List.set_cons_zero]
          have O7 := own_but O6 b7 (by decide) ((But.refl (w.heap.size + 2) w6).set 0 (.slice (some ⟨gz, 0, none⟩) (k + 1) cz))
          rw [← HST.out] at O7
          have fin : RnI q U (.int .i64 ((k : Int) + 1)) (w6.setCell ⟨w.heap.size + 2, 0, none⟩ (.slice (some ⟨gz, 0, none⟩) (k + 1) cz)) := ⟨⟨k + 1, some ⟨gz, 0, none⟩, cz, by omega, by go_num, by rw [hU]; exact b7.set 0 _, O7⟩, h7⟩
          clear O7 h7 b7 h6 OW O6 G6 hnews
          refine wpAnyH_done (by kernel_rfl) ?_ _
          try simp only [Exit.then]
          go_step
          go_wp2
          go_roundw
          case rel => exact fin
          case measure => simp [intOf]; omega
        · refine wpOp_callG (some 29) rfl rfl (by kernel_rfl) 39 #[.int .i64 z] (by kernel_rfl) _ (cT z r0 r1 Y5 (gtrans GW hY5)) ?_
          rintro e Y9 ⟨rfl, gY9⟩
          have hY9 := hY5.trans (gY9.mono hY5.size)
          clear gY9
          refine ⟨_, rfl, ⟨⟨Y9, gtrans G hY9⟩, rfl⟩, ?_⟩
          simp only [Act.put, List.setIfInBounds_toArray, List.set_cons_succ, List.set_cons_zero]
          refine anyH_pick (g := 5) [11, 12] (by kernel_rfl) (fun c a d v w h => by cases d <;> exact h) ⟨⟨Y9, gtrans G hY9⟩, rfl⟩ rfl (by kernel_rfl) ?_
          simp only [pickL, List.filterMap_cons, List.filterMap_nil, List.getElem?_toArray, List.getElem?_cons_zero, List.getElem?_cons_succ]
          refine (show wpQuiet _ _ _ _ [_, _] _ from ?_)
          refine quiet_op rfl (.const (.string ⟨#[118]⟩)) (.tmp 29) rfl rfl rfl (fun w => by simp [eqGuard]) (fun w => catR z r0 r1 w) _ rfl ?_
          simp only [Act.put, List.setIfInBounds_toArray, List.set_cons_succ, List.set_cons_zero]
          refine quiet_build1 rfl (.tmp 30) rfl rfl (fun w => bldR (renV z) w) _ rfl ?_
          simp only [Act.put, List.setIfInBounds_toArray, List.set_cons_succ, List.set_cons_zero]
          refine wpQuiet_nil ?_
          refine wpAnyH_all (rs := [1, 13]) (by kernel_rfl) (by decide) ?_
          intro i hi
          simp only [List.mem_cons, List.not_mem_nil, or_false] at hi
          rcases hi with rfl | rfl
          · refine wpOp_val (v := .slice av k cv) (w' := Y9) (some 20) rfl rfl rfl (ldI_run (.tmp 19) rfl rfl (b6.keep hY9).at7.1) ?_
            refine ⟨⟨⟨Y9, gtrans G hY9⟩, rfl⟩, ?_⟩
            simp only [Act.put, List.setIfInBounds_toArray, List.set_cons_succ, List.set_cons_zero]
            refine wpAnyH_all (rs := [13]) (by kernel_rfl) (by decide) ?_
            intro i hi
            simp only [List.mem_cons, List.not_mem_nil, or_false] at hi
            subst hi
            have bn := Bk.new Y9 (riC it) 69
            have hY110 := galloc hY9 (.cells (riC it) 69)
            refine wpOp_val (v := .slice (some ⟨Y9.heap.size, 0, none⟩) 1 1) (w' := Y9.alloc (.cells (riC it) 69)) (some 32) rfl rfl rfl (bldS_run (hbld Y9)) ?_
            generalize Y9.alloc (.cells (riC it) 69) = Y11 at *
            have hY11 : Below wr.heap.size wr Y11 := hY110
            refine ⟨⟨⟨Y11, gtrans G hY11⟩, rfl⟩, ?_⟩
            simp only [Act.put, List.setIfInBounds_toArray, List.set_cons_succ, List.set_cons_zero]
            refine wpAnyH_all (rs := [14]) (by kernel_rfl) (by decide) ?_
            intro i hi
            simp only [List.mem_cons, List.not_mem_nil, or_false] at hi
            subst hi
            have hnews := World.news_of_block bn
            have OW := own_keep O hY11
            refine wpOp_append_one (some 33) rfl rfl rfl (.tmp 20) (.tmp 32) rfl Tryz.underlying25 nf_item rfl (by decide) (.slice av k cv) U.heap.size k _ rfl OW (Nat.le_trans gub hY11.size) ⟨Y9.heap.size, 0, none⟩ 1 (riC it).toList rfl rfl hnews (ri_ones it) hr1 hr2 ?_
            intro gz cz w6 O6 G6 hg
            have h6 : Below U.heap.size U w6 := (gtrans G hY11).grown G6 (Nat.le_trans gub hY11.size) (fun r e => (OW.lt _ e).1)
            have b7 := bk_far (b6.keep hY11) OW (by decide) G6
            refine ⟨⟨⟨w6, h6⟩, rfl⟩, ?_⟩
            simp only [Act.put, List.setIfInBounds_toArray, List.set_cons_succ, List.set_cons_zero]
            refine anyH_pick (g := 1) [15] (by kernel_rfl) (fun c a d v w h => by cases d <;> exact h) ⟨⟨w6, h6⟩, rfl⟩ rfl (by kernel_rfl) ?_
            simp only [pickL, List.filterMap_cons, List.filterMap_nil, List.getElem?_toArray, List.getElem?_cons_zero, List.getElem?_cons_succ]
            refine (show wpQuiet _ _ _ _ [_] _ from ?_)
            repeat (go_big_quiet_step (fail))
            refine wpQuiet_nil ?_
            refine wpAnyH_all (rs := [16]) (by kernel_rfl) (by decide) ?_
            intro i hi
            simp only [List.mem_cons, List.not_mem_nil, or_false] at hi
            subst hi
            have h7 := gset h6 (p := ⟨w.heap.size + 2, 0, none⟩) (by dsimp only; omega) (.slice (some ⟨gz, 0, none⟩) (k + 1) cz)
            refine wpOp_setS none rfl rfl rfl 25 (.tmp 34) (.tmp 33) rfl (w.heap.size + 2) 0 _ _ _ rfl rfl b7.at7.1 (b7.free 0) (by kernel_rfl) ?_
            refine ⟨⟨⟨_, h7⟩, rfl⟩, ?_⟩
            simp only [Act.put, List.setIfInBounds_toArray, List.set_cons_succ, List.set_cons_zero]
            have O7 := own_but O6 b7 (by decide) ((But.refl (w.heap.size + 2) w6).set 0 (.slice (some ⟨gz, 0, none⟩) (k + 1) cz))
            rw [← HST.out] at O7
            have fin : RnI q U (.int .i64 ((k : Int) + 1)) (w6.setCell ⟨w.heap.size + 2, 0, none⟩ (.slice (some ⟨gz, 0, none⟩) (k + 1) cz)) := ⟨⟨k + 1, some ⟨gz, 0, none⟩, cz, by omega, by go_num, by rw [hU]; exact b7.set 0 _, O7⟩, h7⟩
            clear O7 h7 b7 h6 OW O6 G6 hnews
            refine wpAnyH_done (by kernel_rfl) ?_ _
            try simp only [Exit.then]
            go_step
            go_wp2
            go_roundw
            case rel => exact fin
            case measure => simp [intOf]; omega
          · have bn := Bk.new Y9 (riC it) 69
            have hY120 := galloc hY9 (.cells (riC it) 69)
            refine wpOp_val (v := .slice (some ⟨Y9.heap.size, 0, none⟩) 1 1) (w' := Y9.alloc (.cells (riC it) 69)) (some 32) rfl rfl rfl (bldS_run (hbld Y9)) ?_
            generalize Y9.alloc (.cells (riC it) 69) = Y12 at *
            have hY12 : Below wr.heap.size wr Y12 := hY120
            refine ⟨⟨⟨Y12, gtrans G hY12⟩, rfl⟩, ?_⟩
            simp only [Act.put, List.setIfInBounds_toArray, List.set_cons_succ, List.set_cons_zero]
            refine wpAnyH_all (rs := [1]) (by kernel_rfl) (by decide) ?_
            intro i hi
            simp only [List.mem_cons, List.not_mem_nil, or_false] at hi
            subst hi
            refine wpOp_val (v := .slice av k cv) (w' := Y12) (some 20) rfl rfl rfl (ldI_run (.tmp 19) rfl rfl (b6.keep hY12).at7.1) ?_
            refine ⟨⟨⟨Y12, gtrans G hY12⟩, rfl⟩, ?_⟩
            simp only [Act.put, List.setIfInBounds_toArray, List.set_cons_succ, List.set_cons_zero]
            refine wpAnyH_all (rs := [14]) (by kernel_rfl) (by decide) ?_
            intro i hi
            simp only [List.mem_cons, List.not_mem_nil, or_false] at hi
            subst hi
            have hnews := World.news_of_block bn
            have OW := own_keep O hY12
            refine wpOp_append_one (some 33) rfl rfl rfl (.tmp 20) (.tmp 32) rfl Tryz.underlying25 nf_item rfl (by decide) (.slice av k cv) U.heap.size k _ rfl OW (Nat.le_trans gub hY12.size) ⟨Y9.heap.size, 0, none⟩ 1 (riC it).toList rfl rfl hnews (ri_ones it) hr1 hr2 ?_
            intro gz cz w6 O6 G6 hg
            have h6 : Below U.heap.size U w6 := (gtrans G hY12).grown G6 (Nat.le_trans gub hY12.size) (fun r e => (OW.lt _ e).1)
            have b7 := bk_far (b6.keep hY12) OW (by decide) G6
            refine ⟨⟨⟨w6, h6⟩, rfl⟩, ?_⟩
            simp only [Act.put, List.setIfInBounds_toArray, List.set_cons_succ, List.set_cons_zero]
            refine anyH_pick (g := 1) [15] (by kernel_rfl) (fun c a d v w h => by cases d <;> exact h) ⟨⟨w6, h6⟩, rfl⟩ rfl (by kernel_rfl) ?_
            simp only [pickL, List.filterMap_cons, List.filterMap_nil, List.getElem?_toArray, List.getElem?_cons_zero, List.getElem?_cons_succ]
            refine (show wpQuiet _ _ _ _ [_] _ from ?_)
            repeat (go_big_quiet_step (fail))
            refine wpQuiet_nil ?_
            refine wpAnyH_all (rs := [16]) (by kernel_rfl) (by decide) ?_
            intro i hi
            simp only [List.mem_cons, List.not_mem_nil, or_false] at hi
            subst hi
            have h7 := gset h6 (p := ⟨w.heap.size + 2, 0, none⟩) (by dsimp only; omega) (.slice (some ⟨gz, 0, none⟩) (k + 1) cz)
            refine wpOp_setS none rfl rfl rfl 25 (.tmp 34) (.tmp 33) rfl (w.heap.size + 2) 0 _ _ _ rfl rfl b7.at7.1 (b7.free 0) (by kernel_rfl) ?_
            refine ⟨⟨⟨_, h7⟩, rfl⟩, ?_⟩
            simp only [Act.put, List.setIfInBounds_toArray, List.set_cons_succ, List.set_cons_zero]
            have O7 := own_but O6 b7 (by decide) ((But.refl (w.heap.size + 2) w6).set 0 (.slice (some ⟨gz, 0, none⟩) (k + 1) cz))
            rw [← HST.out] at O7
            have fin : RnI q U (.int .i64 ((k : Int) + 1)) (w6.setCell ⟨w.heap.size + 2, 0, none⟩ (.slice (some ⟨gz, 0, none⟩) (k + 1) cz)) := ⟨⟨k + 1, some ⟨gz, 0, none⟩, cz, by omega, by go_num, by rw [hU]; exact b7.set 0 _, O7⟩, h7⟩
            clear O7 h7 b7 h6 OW O6 G6 hnews
            refine wpAnyH_done (by kernel_rfl) ?_ _
            try simp only [Exit.then]
            go_step
            go_wp2
            go_roundw
            case rel => exact fin
            case measure => simp [intOf]; omega
    · have hkn : k = q.items.length := by omega
      subst hkn
      have hki : ¬ ((q.items.length : Int) < (q.items.length : Int)) := by omega
      have i2 := k2.keep G
      obtain ⟨W1, rfl⟩ : ∃ W1, W1 = wr := ⟨_, rfl⟩
      have hzU := G.size
      clear q0 q1 q2 q3 q4 q5 q6
      obtain ⟨q0, q1, q2, q3, q4, q5, q6⟩ := i1.at7
      go_upto_region 8 with fail
      go_loopw [8, 9, 10] (fun v x _ wx => RnN q ns W1 v x wx) (fun _ x _ _ => ns.length - (intOf x).toNat)
      case atStart => exact ⟨⟨0, none, 0, Nat.zero_le _, rfl, rfl, World.ownsRow_nil _ _ _ _⟩, Below.refl _ _⟩
      case round =>
        clear q0 q1 q2 q3 q4 q5 q6
        obtain ⟨⟨j, bv, dv, hj, rfl, rfl, ON⟩, GN⟩ := hrel
        have GA := gtrans GW GN
        by_cases hlt2 : j < ns.length
        · have hji : (j : Int) < (ns.length : Int) := by omega
          obtain ⟨g, og, rfl, x0, x1, x2, x3, x4, x5⟩ := (AN.keep GA) j hlt2
          have hst := nds_take (ns.map (renN q.items)) j (by rw [List.length_map]; exact hlt2)
          rw [ren_getD] at hst
          have hfk := hf j
          have hj1 : j + 1 ≤ 9223372036854775807 := by omega
          have hj2 : ((j + 1) + (j + 1) / 4 + 192) * 64 ≤ 281474976710656 := by omega
          generalize ns.getD j noNd = y at *
          have HSN := show Hid _ from hst
          clear hst
          obtain ⟨nop, nn, nv, nx, nl, nr⟩ := y
          dsimp only at x0 x1 x2 x3 x4 x5
          have g1 := galloc (Below.refl wr.heap.size wr) (.cells #[.int .i64 nop, .int .i64 nn, .string nv, .string nx, .int .i64 nl, .int .i64 nr] 64)
          have N1 := Bk.new wr #[.int .i64 nop, .int .i64 nn, .string nv, .string nx, .int .i64 nl, .int .i64 nr] 64
          have OV := own_keep ON g1
          go_upto_region 11 with fail
          generalize wr.alloc _ = V at *
          obtain ⟨m0, m1, m2, m3, m4, m5⟩ := N1.at6
          have GV := gtrans GN g1
          have hbv := GV.size
          by_cases hv0 : nv = eS
          · have e1 : nv.toList = [] := by rw [hv0, ByteArray.toList_eq]
            have e0 : nv.toList.isEmpty = true := by rw [e1]; rfl
            have hren : renN q.items ⟨nop, nn, nv, nx, nl, nr⟩ = ⟨nop, nn, nv, nx, nl, nr⟩ := by unfold renN; rw [if_pos hv0]
            have HSN : Hid (ndsV ((ns.map (renN q.items)).take (j + 1)) = ndsV ((ns.map (renN q.items)).take j) ++ (ndA ⟨nop, nn, nv, nx, nl, nr⟩).toList) := by have := HSN.out; rw [hren] at this; exact this
            clear e1 hv0 hren
            have hnews := World.news_of_block (Bk.new V (ndA ⟨nop, nn, nv, nx, nl, nr⟩) 64)
            have OWN := OV.alloc (.cells (ndA ⟨nop, nn, nv, nx, nl, nr⟩) 64)
            have GVA := galloc GV (.cells (ndA ⟨nop, nn, nv, nx, nl, nr⟩) 64)
            have hbw := GVA.size
            go_wp2_with (at_builtin; refine wpList_append_one rfl (.tmp 55) (.tmp 57) rfl Tryz.underlying28 nf_nodeR rfl (by decide) (.slice bv j dv) W1.heap.size j _ rfl OWN hbw ⟨V.heap.size, 0, none⟩ 1 (ndA ⟨nop, nn, nv, nx, nl, nr⟩).toList rfl rfl hnews (nd_one _) hj1 hj2 ?_; intro gz cz w6 O6 G6 hg; have h6 := GVA.grown G6 hbw (fun r e => (OWN.lt _ e).1); have fin : RnN q ns W1 (.slice (some ⟨gz, 0, none⟩) (j + 1) cz) (.int .i64 ((j : Int) + 1)) w6 := ⟨⟨j + 1, some ⟨gz, 0, none⟩, cz, by omega, by go_num, rfl, by rw [HSN.out]; exact O6⟩, h6⟩)
            go_wp2
            go_roundw
            case rel => exact fin
            case measure => simp [intOf]; omega
          · have e1 : nv.toList ≠ [] := fun h => hv0 (bytes_eqU.1 (h.trans (by rw [ByteArray.toList_eq])))
            have e0 : nv.toList.isEmpty = false := by cases h : nv.toList with
              | nil => exact absurd h e1
              | cons _ _ => rfl
            have hren : renN q.items ⟨nop, nn, nv, nx, nl, nr⟩ = ⟨nop, nn, renV (itmI q.items nv), nx, nl, nr⟩ := by unfold renN; rw [if_neg hv0]
            have HSN : Hid (ndsV ((ns.map (renN q.items)).take (j + 1)) = ndsV ((ns.map (renN q.items)).take j) ++ (ndA ⟨nop, nn, renV (itmI q.items nv), nx, nl, nr⟩).toList) := by have := HSN.out; rw [hren] at this; exact this
            clear e1 hv0 hren
            have hvz := hfk.v
            dsimp only at hvz
            obtain ⟨r0, r1⟩ := itm_rng q.items (by omega) nv
            obtain ⟨z, hz⟩ : ∃ z, itmI q.items nv = z := ⟨_, rfl⟩
            rw [hz] at r0 r1 HSN
            have hrs := renV_size z r0 r1
            have c1 := cI nv hvz V (gtrans GW GV)
            rw [hz] at c1
            have c2 := fun (u : World) (gg : Below W1.heap.size W1 u) => cT z r0 r1 u (gtrans GW gg)
            have hcs : (⟨#[118]⟩ : ByteArray).size + (⟨(Lib.itoa z).toArray⟩ : ByteArray).size ≤ 9223372036854775807 := by
              unfold renV at hrs
              rw [ByteArray.size_append] at hrs
              omega
            have i3 := (i1.keep GN).keep g1
            obtain ⟨q0, q1, q2, q3, q4, q5, q6⟩ := i3.at7
            clear hz
            go_upto_region 12 with fail
            go_upto_region 13 with (first
              | (go_at_call 37; (with_reducible refine c1.mono ?_); rintro e u1 ⟨rfl, gg1⟩; have GV1 := gtrans GV gg1)
              | (go_at_call 39; (with_reducible refine (c2 _ GV1).mono ?_); rintro e u2 ⟨rfl, gg2⟩; have N3 := (N1.keep gg1).keep gg2; obtain ⟨n0, n1, n2, n3, n4, n5⟩ := N3.at6; have nf := N3.free 2))
            obtain ⟨V5, hV5⟩ : ∃ V5, u2.setCell ⟨wr.heap.size, 2, none⟩ (.string ((⟨#[118]⟩ : ByteArray) ++ ⟨(Lib.itoa z).toArray⟩)) = V5 := ⟨_, rfl⟩
            have N5 : Bk V5 wr.heap.size #[.int .i64 nop, .int .i64 nn, .string (renV z), .string nx, .int .i64 nl, .int .i64 nr] 64 := by rw [← hV5]; exact N3.set 2 _
            have GV2 := gtrans GV1 gg2
            have GV5 : Below W1.heap.size W1 V5 := by rw [← hV5]; exact gset GV2 (p := ⟨wr.heap.size, 2, none⟩) GN.size _
            have O5 : V5.ownsRow W1.heap.size 64 6 (.slice bv j dv) j (ndsV ((ns.map (renN q.items)).take j)) := by
              rw [← hV5]
              exact ownsRow_setCell_other (own_keep (own_keep OV gg1) gg2) (fun e => by have := (ON.lt _ e).2; exact absurd this (Nat.lt_irrefl _)) _
            rw [hV5]
            clear hV5 N3 n0 n1 n2 n3 n4 n5 nf m0 m1 m2 m3 m4 m5 q0 q1 q2 q3 q4 q5 q6 GV2
            obtain ⟨m0, m1, m2, m3, m4, m5⟩ := N5.at6
            have hnews := World.news_of_block (Bk.new V5 (ndA ⟨nop, nn, renV z, nx, nl, nr⟩) 64)
            have OWN := O5.alloc (.cells (ndA ⟨nop, nn, renV z, nx, nl, nr⟩) 64)
            have GVA := galloc GV5 (.cells (ndA ⟨nop, nn, renV z, nx, nl, nr⟩) 64)
            have hbw := GVA.size
            go_wp2_with (at_builtin; refine wpList_append_one rfl (.tmp 55) (.tmp 57) rfl Tryz.underlying28 nf_nodeR rfl (by decide) (.slice bv j dv) W1.heap.size j _ rfl OWN hbw ⟨V5.heap.size, 0, none⟩ 1 (ndA ⟨nop, nn, renV z, nx, nl, nr⟩).toList rfl rfl hnews (nd_one _) hj1 hj2 ?_; intro gz cz w6 O6 G6 hg; have h6 := GVA.grown G6 hbw (fun r e => (OWN.lt _ e).1); have fin : RnN q ns W1 (.slice (some ⟨gz, 0, none⟩) (j + 1) cz) (.int .i64 ((j : Int) + 1)) w6 := ⟨⟨j + 1, some ⟨gz, 0, none⟩, cz, by omega, by go_num, rfl, by rw [HSN.out]; exact O6⟩, h6⟩)
            go_wp2
            go_roundw
            case rel => exact fin
            case measure => simp [intOf]; omega
        · have hjn : j = ns.length := by omega
          subst hjn
          have hji : ¬ ((ns.length : Int) < (ns.length : Int)) := by omega
          have B6 := b6.keep GN
          have R0 := i2.keep GN
          obtain ⟨p0, p1, p2, p3, p4, p5, p6⟩ := B6.at7
          obtain ⟨r0, r1, r2, r3, r4, r5, r6⟩ := R0.at7
          have f0 := R0.free 0
          have f1 := R0.free 1
          have f2 := R0.free 2
          have f3 := R0.free 3
          have f4 := R0.free 4
          have f5 := R0.free 5
          have f6 := R0.free 6
          have RE : Bk (((((((wr.setCell ⟨w.heap.size + 1, 0, none⟩ (.slice av q.items.length cv)).setCell ⟨w.heap.size + 1, 1, none⟩ (.int .i64 0)).setCell ⟨w.heap.size + 1, 2, none⟩ (.int .i64 0)).setCell ⟨w.heap.size + 1, 3, none⟩ (.slice none 0 0)).setCell ⟨w.heap.size + 1, 4, none⟩ (.int .i64 0)).setCell ⟨w.heap.size + 1, 5, none⟩ (.string eS)).setCell ⟨w.heap.size + 1, 6, none⟩ (.slice none 0 0)) (w.heap.size + 1) (zQ (.slice av q.items.length cv)) 31 := ((((((R0.set 0 _).set 1 _).set 2 _).set 3 _).set 4 _).set 5 _).set 6 _
          have hB : But (w.heap.size + 1) wr (((((((wr.setCell ⟨w.heap.size + 1, 0, none⟩ (.slice av q.items.length cv)).setCell ⟨w.heap.size + 1, 1, none⟩ (.int .i64 0)).setCell ⟨w.heap.size + 1, 2, none⟩ (.int .i64 0)).setCell ⟨w.heap.size + 1, 3, none⟩ (.slice none 0 0)).setCell ⟨w.heap.size + 1, 4, none⟩ (.int .i64 0)).setCell ⟨w.heap.size + 1, 5, none⟩ (.string eS)).setCell ⟨w.heap.size + 1, 6, none⟩ (.slice none 0 0)) := (((((((But.refl _ wr).set 0 _).set 1 _).set 2 _).set 3 _).set 4 _).set 5 _).set 6 _
          have lw : w.heap.size ≤ w.heap.size + 1 := Nat.le_succ _
          have GE := gset (gset (gset (gset (gset (gset (gset GA (p := ⟨w.heap.size + 1, 0, none⟩) lw (.slice av q.items.length cv)) (p := ⟨w.heap.size + 1, 1, none⟩) lw (.int .i64 0)) (p := ⟨w.heap.size + 1, 2, none⟩) lw (.int .i64 0)) (p := ⟨w.heap.size + 1, 3, none⟩) lw (.slice none 0 0)) (p := ⟨w.heap.size + 1, 4, none⟩) lw (.int .i64 0)) (p := ⟨w.heap.size + 1, 5, none⟩) lw (.string eS)) (p := ⟨w.heap.size + 1, 6, none⟩) lw (.slice none 0 0)
          have OI := own_but (own_keep O GN) R0 (by decide) hB
          have OM := own_but ON R0 (by decide) hB
          obtain ⟨e0, e1, e2, e3, e4, e5, e6⟩ := RE.at7
          rw [List.take_of_length_le (by rw [renIs_len]; exact Nat.le_refl _)] at OI
          rw [List.take_of_length_le (by rw [List.length_map]; exact Nat.le_refl _)] at OM
          have hl1 : (renIs q.items).length = q.items.length := renIs_len _
          have hl2 : (ns.map (renN q.items)).length = ns.length := List.length_map _
          have HI : IsIts _ av (renIs q.items) := its_of_row (c := cv) (by rw [hl1]; exact OI) (fun i hi => by rw [hl1] at hi; rw [renIs_at _ _ hi]; exact ⟨rfl, rfl, rfl, rfl⟩)
          have HN : IsNds _ bv (ns.map (renN q.items)) := nds_of_own (c := dv) (by rw [hl2]; exact OM)
          have sI := own_sl OI
          have IQ : IsQ (((((((wr.setCell ⟨w.heap.size + 1, 0, none⟩ (.slice av q.items.length cv)).setCell ⟨w.heap.size + 1, 1, none⟩ (.int .i64 0)).setCell ⟨w.heap.size + 1, 2, none⟩ (.int .i64 0)).setCell ⟨w.heap.size + 1, 3, none⟩ (.slice none 0 0)).setCell ⟨w.heap.size + 1, 4, none⟩ (.int .i64 0)).setCell ⟨w.heap.size + 1, 5, none⟩ (.string eS)).setCell ⟨w.heap.size + 1, 6, none⟩ (.slice none 0 0)) (renQ q) (zQ (.slice av q.items.length cv)) av cv none 0 none 0 :=
            ⟨by unfold renQ; rw [hl1]; rfl, HI, fun i hi => absurd hi (Nat.not_lt_zero _), fun i hi => absurd hi (Nat.not_lt_zero _), by show Sl av (renIs q.items).length cv; rw [hl1]; exact sI, ⟨Nat.le_refl _, fun _ => ⟨rfl, rfl⟩⟩, ⟨Nat.le_refl _, fun _ => ⟨rfl, rfl⟩⟩⟩
          clear OI OM HI sI RE hB B6 R0 O ON
          go_wp2
          exact bodyPost_ret (v := .tuple #[.agg (zQ (.slice av q.items.length cv)), .slice bv ns.length dv]) (by simp [results, Tryz.results15, go_sem, e0, e1, e2, e3, e4, e5, e6]) rfl ⟨⟨av, cv, bv, dv, rfl, IQ, HN⟩, GE⟩

end Go.Proofs.YtnolbpekdikamaaGreatDoor
