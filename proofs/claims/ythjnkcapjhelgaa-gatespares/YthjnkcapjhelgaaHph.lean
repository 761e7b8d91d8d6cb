/- Push. -/
import Derived.Test.YthjnkcapjhelgaaHpg
import Derived.Test.YthjnkcapjhelgaaFr
namespace Go.Proofs.Ythjnkcapjhelgaa
open Go.RowKit Go.BigFrame
set_option linter.unusedVariables false
set_option linter.unusedSimpArgs false

theorem evBuild (x : Ev) (t : Nat) (w : World) : (Instr.build 101 #[(0, .agg (evC x)), (1, .int .i64 (t : Int))]).run Try.prog w = .ok (.agg (ldC evC (x, t))) w := by kernel_rfl
theorem build_quiet {P : Program} {o : Oper} {a : Act} {C : World → Prop} {w : World} {v : Value} {T : TypeId} {x y : Operand} {vx vy : Value} (h : (Instr.build T #[(0, vx), (1, vy)]).run P w = .ok v w) (ho : o.op = .build T #[(0, x), (1, y)] := by rfl) (hx : a.eval x = vx := by rfl) (hy : a.eval y = vy := by rfl) : o.quietAt P a C w v := by
  unfold Oper.quietAt execOp
  simp only [ho, List.map_toArray, List.map_cons, List.map_nil, hx, hy, Sem.run_bind, h, Result.andThen_ok, Sem.run_pure]
  exact ⟨rfl, rfl⟩
theorem evBuildS (x : Ev × Nat) (w : World) : (Instr.buildSlice 95 1 #[(0, .agg (ldC evC x))]).run Try.prog w = .ok (.slice (some ⟨w.heap.size, 0, none⟩) 1 1) (w.alloc (.cells (ldC evC x) 101)) := by kernel_rfl
theorem buildS_run {P : Program} {o : Oper} {a : Act} {w w' : World} {v : Value} {T : TypeId} {x : Operand} {vx : Value} (h : (Instr.buildSlice T 1 #[(0, vx)]).run P w = .ok v w') (ho : o.op = .buildSlice T 1 #[(0, x)] := by rfl) (hx : a.eval x = vx := by rfl) : (execOp a.eval o).run P w = .ok (.value v) w' := by
  unfold execOp
  simp only [ho, List.map_toArray, List.map_cons, List.map_nil, hx, Sem.run_bind, h, Result.andThen_ok, Sem.run_pure]
theorem ev_ones (x : Ev × Nat) : ∀ u ∈ (ldC evC x).toList, u.oneCell' = true := fun u hu => (Array.all_eq_true_iff_forall_mem.1 (ev_one x)) u (by simpa using hu)
set_option maxRecDepth 100000 in
set_option maxHeartbeats 2000000 in
theorem evPush0 (p base t : Nat) (v : Value) (h : List (Ev × Nat)) (z : Ev × Nat) (x : Ev) (w : World) (P : Pil 97 101 12 evC w p base v h t) (hl : ((h.length + 1) + (h.length + 1) / 4 + 192) * 96 ≤ 281474976710656) (hbw : base ≤ w.heap.size) (ht : t + 1 ≤ 9223372036854775807) (H : Hp (ahd evLt) z h) :
    Calls Try.prog 44 #[.pointer (some ⟨p, 0, none⟩), .agg (evC x)] w fun e w' => e = .returned (.tuple #[]) ∧ ∃ v' h', Pil 97 101 12 evC w' p base v' h' (t + 1) ∧ h'.Perm (h ++ [(x, t)]) ∧ Hp (ahd evLt) z h' ∧ Gb p v w w' ∧ (∀ g, v'.ownBlock = some g → v.ownBlock = some g ∨ w.heap.size ≤ g) := by
  obtain ⟨ao, cap, rfl, hcap, hmx, _⟩ := own_form P.own
  have B := galloc (Below.refl w.heap.size w) (.cells (evC x) 47)
  have b1 := Bk.new w (evC x) 47
  go_enter Try.func44, Try.ntmps44
  go_upto_region 1 with fail
  generalize w.alloc _ = V at *
  have r1 := b1.range
  have pB := P.blk.keep B
  have c0 := pB.at2.1
  have p0 := fun z : Ext V => (z.cell _ _ pB.lt).trans pB.at2.1
  have p1 := fun z : Ext V => (z.cell _ _ pB.lt).trans pB.at2.2
  have hne0 : Nonempty (Ext V) := ⟨⟨_, Below.refl _ _⟩⟩
  refine wp_region_ext_new 12 0 11 (by omega) (by omega) (.pointer (some ⟨p, 0, none⟩)) _ _ _ rfl rfl rfl rfl rfl rfl (by kernel_rfl) (by kernel_rfl) (fun c a d v w h => by cases d <;> exact h) ?_
  simp only [List.take_succ_cons, List.take_zero, List.drop_succ_cons, List.drop_zero, List.eraseIdx_cons_succ, List.eraseIdx_cons_zero, Act.put, List.setIfInBounds_toArray, List.set_cons_succ, List.set_cons_zero]
  repeat (first
    | (refine wpQuiet_load_mid rfl 47 _ rfl w.heap.size 0 rfl (evC x) _ (fun X hX => by obtain ⟨nx, rfl⟩ := hX; exact rangeAt_keep r1 nx.h) Try.underlying47 rfl infoEv _ rfl ?_; simp only [Act.put, List.setIfInBounds_toArray, List.set_cons_succ, List.set_cons_zero])
    | (refine wpQuiet_want rfl fun K hK => ⟨.agg (ldC evC (x, t)), fun w hC => build_quiet (evBuild x t w), hK _ ?_⟩; simp only [Act.put, List.setIfInBounds_toArray, List.set_cons_succ, List.set_cons_zero])
    | go_big_quiet_step (fail))
  refine wpQuiet_nil ?_
  intro X hX
  obtain ⟨nx, rfl⟩ := hX
  refine ⟨.slice (some ⟨nx.X.heap.size, 0, none⟩) 1 1, nx.X.alloc (.cells (ldC evC (x, t)) 101), buildS_run (evBuildS (x, t) nx.X), ⟨⟨_, galloc nx.h _⟩, rfl⟩, ?_⟩
  have G1 := galloc nx.h (.cells (ldC evC (x, t)) 101)
  have bn := Bk.new nx.X (ldC evC (x, t)) 101
  have hz : nx.X.heap.size ≤ (nx.X.alloc (.cells (ldC evC (x, t)) 101)).heap.size := by simp
  have hnz := nx.h.size
  generalize nx.X.alloc (.cells (ldC evC (x, t)) 101) = Y at *
  generalize nx.X.heap.size = gy at *
  simp only [List.setIfInBounds_toArray, List.set_cons_succ, List.set_cons_zero]
  have G2 := gtrans B G1
  have OY := own_keep P.own G2
  have pY := P.blk.keep G2
  have hbY : base ≤ Y.heap.size := Nat.le_trans hbw G2.size
  have hnews := World.news_of_block bn
  obtain ⟨N, hN⟩ : ∃ N, N = h.length := ⟨_, rfl⟩
  rw [← hN] at OY pY hl
  have HN : Hid (N = h.length) := hN
  have hpb := P.pb
  have OY' : Y.ownsRow base 101 12 (.slice ao h.length cap) h.length (fl (ldC evC) h) := by rw [← HN.out]; exact OY
  have key : ∀ (g c3 : Nat) (w6 : World), w6.ownsRow base 101 12 (.slice (some ⟨g, 0, none⟩) (h.length + 1) c3) (h.length + 1) (fl (ldC evC) h ++ (ldC evC (x, t)).toList) → Y.grownBy w6 (Value.slice ao h.length cap).ownBlock → ((Value.slice ao h.length cap).ownBlock = some g ∨ g = Y.heap.size) →
      Bk w6 p #[.slice ao h.length cap, .int .i64 (t : Int)] 97 ∧ Pil 97 101 12 evC ((w6.setCell ⟨p, 0, none⟩ (.slice (some ⟨g, 0, none⟩) (h.length + 1) c3)).setCell ⟨p, 1, none⟩ (.int .i64 ((t : Int) + 1))) p base (.slice (some ⟨g, 0, none⟩) (h ++ [(x, t)]).length c3) (h ++ [(x, t)]) (t + 1) ∧
      Gb p (.slice ao h.length cap) w ((w6.setCell ⟨p, 0, none⟩ (.slice (some ⟨g, 0, none⟩) (h.length + 1) c3)).setCell ⟨p, 1, none⟩ (.int .i64 ((t : Int) + 1))) ∧ (∀ g', (Value.slice (some ⟨g, 0, none⟩) (h ++ [(x, t)]).length c3).ownBlock = some g' → (Value.slice ao h.length cap).ownBlock = some g' ∨ w.heap.size ≤ g') := by
    intro g c3 w6 O6 G6 hg
    have pY' : Bk Y p #[.slice ao h.length cap, .int .i64 (t : Int)] 97 := P.blk.keep G2
    have p6 := bk_far pY' OY' (by decide) G6
    have hgp : p ≠ g := by
      rcases hg with h1 | h1
      · exact hpb g h1
      · have := pY'.lt; omega
    have elen : (h ++ [(x, t)]).length = h.length + 1 := by simp
    have p8 : Bk ((w6.setCell ⟨p, 0, none⟩ (.slice (some ⟨g, 0, none⟩) (h.length + 1) c3)).setCell ⟨p, 1, none⟩ (.int .i64 ((t : Int) + 1))) p #[.slice (some ⟨g, 0, none⟩) (h ++ [(x, t)]).length c3, .int .i64 ((t + 1 : Nat) : Int)] 97 := by
      rw [elen, show ((t + 1 : Nat) : Int) = (t : Int) + 1 by omega]
      exact (p6.set 0 _).set 1 _
    refine ⟨p6, ⟨p8, ?_, fun g' e => (show g = g' by simpa [Value.ownBlock] using e) ▸ hgp⟩, ⟨G6.os.trans G2.os, G6.tape.trans G2.tape, G6.output.trans G2.output, ?_, fun k h1 h2 h3 => ?_⟩, fun g' e => ?_⟩
    · rw [elen, fl_app]
      refine own_of_block (u := (w6.setCell ⟨p, 0, none⟩ (.slice (some ⟨g, 0, none⟩) (h.length + 1) c3)).setCell ⟨p, 1, none⟩ (.int .i64 ((t : Int) + 1))) (w := w6) (by simpa [fl] using O6) fun k cur hb hh => ?_
      have hkp : k ≠ p := fun e => by rw [e, show w6.heap[p]? = _ from p6] at hh; simp at hh
      exact (Below.heap_setCell _ _ _ k (by show k ≠ p; omega)).trans (Below.heap_setCell _ _ _ k (by show k ≠ p; omega))
    · have : ((w6.setCell ⟨p, 0, none⟩ (.slice (some ⟨g, 0, none⟩) (h.length + 1) c3)).setCell ⟨p, 1, none⟩ (.int .i64 ((t : Int) + 1))).heap.size = w6.heap.size := by simp
      rw [this]
      exact Nat.le_trans G2.size G6.size
    · refine (Below.heap_setCell _ _ _ k (by show k ≠ p; omega)).trans ((Below.heap_setCell _ _ _ k (by show k ≠ p; omega)).trans ?_)
      exact (G6.block k (Nat.lt_of_lt_of_le h1 G2.size) (fun e => h3 e.symm)).trans (G2.block k h1)
    · have e' : g' = g := by simpa [Value.ownBlock] using e.symm
      subst e'
      rcases hg with h1 | h1
      · exact .inl h1
      · have := G2.size; right; omega
  have hl' : ((h.length + 1) + (h.length + 1) / 4 + 192) * 96 ≤ 281474976710656 := by rw [← HN.out]; exact hl
  have UP := up_push H (x, t)
  clear hN OY pY
  go_wp2_with (first
    | (refine wpList_append_one rfl (.tmp 8) (.tmp 15) rfl Try.underlying95 nfLdE rfl (by decide) (.slice ao h.length cap) base h.length _ rfl OY' hbY ⟨gy, 0, none⟩ 1 (ldC evC (x, t)).toList rfl rfl hnews (ev_ones (x, t)) (by omega) hl' ?_; intro g c3 w6 O6 G6 hg; obtain ⟨p6, P8, G8, B8⟩ := key g c3 w6 O6 G6 hg; have y0 := p6.at2.1; have y1 := p6.at2.2; have y2 := p6.free 0; have y3 := p6.free 1; have c5 := evUp p base g c3 h.length (t + 1) (h ++ [(x, t)]) z (by simp) _ P8 (by simp; omega) UP)
    | (go_at_call 50; (with_reducible refine c5.mono ?_); rintro e u ⟨rfl, h', P9, hp9, H9, G9⟩))
  refine bodyPost_end (results_none rfl _ _ _) rfl ⟨rfl, _, h', P9, hp9, H9, G8.trans G9 B8, B8⟩

end Go.Proofs.Ythjnkcapjhelgaa
