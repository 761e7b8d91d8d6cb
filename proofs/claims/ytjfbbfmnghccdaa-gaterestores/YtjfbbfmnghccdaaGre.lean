/- A step of a script on a gate and on the document's (plays). -/
import Derived.Test.YtjfbbfmnghccdaaGrc
import Derived.Test.YtjfbbfmnghccdaaGrd
namespace Go.Proofs.Ytjfbbfmnghccdaa
open Go.RowKit Go.BigFrame Go.Maps
set_option linter.unusedVariables false
set_option linter.unusedSimpArgs false
set_option linter.unusedSectionVars false

theorem ev_not_mod {w : World} {m k : Nat} {s : Gs} {cs : Array Value} {fr : Nat × Nat} (M : Mog w m s) (h : w.heap[k]? = some (.cells cs 29 fr)) : ¬ (k = m) := fun e => by
  obtain ⟨c2, bm⟩ := M.blk
  unfold Bk at bm
  rw [e, bm] at h
  simp only [Option.some.injEq, Obj.cells.injEq] at h
  exact absurd h.2.1 (by decide)
theorem pr_not_mod {w : World} {m k : Nat} {s : Gs} {cs : Array Value} (M : Mog w m s) (h : Bk w k cs 87) : ¬ (k = m) := fun e => by
  obtain ⟨c2, bm⟩ := M.blk
  unfold Bk at bm h
  rw [e, bm] at h
  simp only [Option.some.injEq, Obj.cells.injEq] at h
  exact absurd h.2.1 (by decide)
theorem op_not_mod {w : World} {m k : Nat} {s : Gs} {cs : Array Value} (M : Mog w m s) (h : Bk w k cs 76) : ¬ (k = m) := fun e => by
  obtain ⟨c2, bm⟩ := M.blk
  unfold Bk at bm h
  rw [e, bm] at h
  simp only [Option.some.injEq, Obj.cells.injEq] at h
  exact absurd h.2.1 (by decide)
section
variable (N pb g m t : Nat) (S : Nat → Prop) (s : Gs) (x : Gop) (w : World) (P : Pr N w pb g m S s t) (hN : N ≤ w.heap.size) (ht : 4096 ≤ t) (ht2 : t + 1 ≤ 140737488351232) (xok : x.e.ok)
include P hN ht ht2 xok
set_option maxRecDepth 100000 in
set_option maxHeartbeats 4000000 in
theorem ply0 (k1 : x.kd ≠ 1) (k2 : x.kd ≠ 2) (k3 : x.kd ≠ 3) (k4 : x.kd ≠ 4) (k5 : x.kd ≠ 5) (k6 : x.kd ≠ 6) (k7 : x.kd ≠ 7) : Calls Try.prog 40 #[.pointer (some ⟨pb, 0, none⟩), .agg (gopC x)] w fun e w' => e = .returned (.bool true) ∧ PrP N pb g m S s.cap (t + 1) w w' := by
  have B := galloc (Below.refl w.heap.size w) (.cells (gopC x) 76)
  have b1 := Bk.new w (gopC x) 76
  have PV := P.keep B
  have hNV : N ≤ (w.alloc (.cells (gopC x) 76)).heap.size := Nat.le_trans hN B.size
  generalize hV : w.alloc (.cells (gopC x) 76) = V at *
  have dk : V.cell? ⟨w.heap.size, 0, none⟩ = some (.int .i64 x.kd) := cell_of_row V _ 0 _ _ _ b1
  have hll := P.G.1.len'
  have z0 := PV.blk.at3.1
  have z1 := PV.blk.at3.2.1
  have k1' : (x.kd == 1) = false := beq_eq_false_iff_ne.2 k1
  have k2' : (x.kd == 2) = false := beq_eq_false_iff_ne.2 k2
  have k3' : (x.kd == 3) = false := beq_eq_false_iff_ne.2 k3
  have k4' : (x.kd == 4) = false := beq_eq_false_iff_ne.2 k4
  have k5' : (x.kd == 5) = false := beq_eq_false_iff_ne.2 k5
  have k6' : (x.kd == 6) = false := beq_eq_false_iff_ne.2 k6
  have k7' : (x.kd == 7) = false := beq_eq_false_iff_ne.2 k7
  go_enter Try.func40, Try.ntmps40
  go_wp2
  go_ret
  exact ⟨rfl, PrP.first B ((PrP.of PV (Below.refl _ _)).mono (Nat.le_succ _))⟩
set_option maxRecDepth 100000 in
set_option maxHeartbeats 4000000 in
theorem ply1 (k1 : x.kd = 1) : Calls Try.prog 40 #[.pointer (some ⟨pb, 0, none⟩), .agg (gopC x)] w fun e w' => e = .returned (.bool true) ∧ PrP N pb g m S s.cap (t + 1) w w' := by
  have B := galloc (Below.refl w.heap.size w) (.cells (gopC x) 76)
  have b1 := Bk.new w (gopC x) 76
  have PV := P.keep B
  have hNV : N ≤ (w.alloc (.cells (gopC x) 76)).heap.size := Nat.le_trans hN B.size
  generalize hV : w.alloc (.cells (gopC x) 76) = V at *
  have dk : V.cell? ⟨w.heap.size, 0, none⟩ = some (.int .i64 x.kd) := cell_of_row V _ 0 _ _ _ b1
  have hll := P.G.1.len'
  have z0 := PV.blk.at3.1
  have z1 := PV.blk.at3.2.1
  rw [k1] at dk
  go_enter Try.func40, Try.ntmps40
  go_upto_region 3 with fail
  have hne0 : Nonempty (Ext V) := ⟨⟨_, Below.refl _ _⟩⟩
  have p0 := fun z : Ext V => (z.cell _ _ PV.blk.lt).trans z0
  have r1 := gop_range b1.range
  refine wp_region_ext_tail 6 (by kernel_rfl) (by kernel_rfl) ?_
  simp only [List.take_succ_cons, List.take_zero, List.drop_succ_cons, List.drop_zero]
  repeat (first
    | (refine wpQuiet_load_mid rfl 29 _ rfl w.heap.size 2 rfl (evC x.e) _ (fun X hX => by obtain ⟨nx, rfl⟩ := hX; exact rangeAt_keep r1 nx.h) Try.underlying29 rfl infoEv _ rfl ?_; simp only [Act.put, List.setIfInBounds_toArray, List.set_cons_succ, List.set_cons_zero])
    | go_big_quiet_step (fail))
  refine wpQuiet_nil ?_
  intro _ hw'
  obtain ⟨n1, hw''⟩ := hw'
  subst hw''
  have P1 := PV.keep n1.h
  have b2 := b1.keep n1.h
  have hN1 : N ≤ n1.X.heap.size := Nat.le_trans hNV n1.h.size
  have c1 := push_any g t S s x.e n1.X P1.G xok ht2
  clear p0 hne0
  go_upto_region 4 with (first
    | (go_at_call 25; (with_reducible refine c1.mono ?_); rintro e u2 ⟨rfl, Q2⟩))
  obtain ⟨S2, G2, M2, pb2, F2, V2, lo2⟩ := P1.gate Q2 hN1
  have b3 := F2.loc P1.G b2 (by decide) (by decide) (by decide)
  have r3 := gop_range b3.range
  have hne0 : Nonempty (Ext u2) := ⟨⟨_, Below.refl _ _⟩⟩
  have p1 := fun z : Ext u2 => (z.cell _ _ pb2.lt).trans pb2.at3.2.1
  clear c1
  refine wp_region_ext_tail 6 (by kernel_rfl) (by kernel_rfl) ?_
  simp only [List.take_succ_cons, List.take_zero, List.drop_succ_cons, List.drop_zero]
  repeat (first
    | (refine wpQuiet_load_mid rfl 29 _ rfl w.heap.size 2 rfl (evC x.e) _ (fun X hX => by obtain ⟨nx, rfl⟩ := hX; exact rangeAt_keep r3 nx.h) Try.underlying29 rfl infoEv _ rfl ?_; simp only [Act.put, List.setIfInBounds_toArray, List.set_cons_succ, List.set_cons_zero])
    | go_big_quiet_step (fail))
  refine wpQuiet_nil ?_
  intro _ hw'
  obtain ⟨n2, hw''⟩ := hw'
  subst hw''
  have c2 := refPushM m s x.e n2.X (M2.keep n2.h) P.G.1
  clear p1 hne0
  go_wp2_with (first
    | (go_at_call 63; (with_reducible refine c2.mono ?_); rintro e u3 ⟨rfl, Q3⟩))
  go_ret
  have SP := PrP.both P1 hN1 (G2.keep n2.h) (M2.keep n2.h) (pb2.keep n2.h) (F2.below n2.h) V2 lo2 Q3.mod Q3.frm (Gs.push_cap s x.e)
  exact ⟨by simp, PrP.first (gtrans B n1.h) SP⟩
set_option maxRecDepth 100000 in
set_option maxHeartbeats 4000000 in
theorem ply2 (k2 : x.kd = 2) : Calls Try.prog 40 #[.pointer (some ⟨pb, 0, none⟩), .agg (gopC x)] w fun e w' => e = .returned (.bool true) ∧ PrP N pb g m S s.cap (t + 1) w w' := by
  have B := galloc (Below.refl w.heap.size w) (.cells (gopC x) 76)
  have b1 := Bk.new w (gopC x) 76
  have PV := P.keep B
  have hNV : N ≤ (w.alloc (.cells (gopC x) 76)).heap.size := Nat.le_trans hN B.size
  generalize hV : w.alloc (.cells (gopC x) 76) = V at *
  have dk : V.cell? ⟨w.heap.size, 0, none⟩ = some (.int .i64 x.kd) := cell_of_row V _ 0 _ _ _ b1
  have hll := P.G.1.len'
  have z0 := PV.blk.at3.1
  have z1 := PV.blk.at3.2.1
  rw [k2] at dk
  go_enter Try.func40, Try.ntmps40
  go_upto_region 7 with fail
  have Gd := (Below.refl V.heap.size V).drew
  have P1 := PV.keep Gd
  have b2 := b1.keep Gd
  have hN1 : N ≤ V.drew.heap.size := hNV
  have hll2 := Gs.advL_len P.G.1 x.m
  have c1 := adv_any g t S s x.m V.drew P1.G
  have hS0 : V.drew.cell? ⟨pb, 0, none⟩ = some (.pointer (some ⟨g, 0, none⟩)) ∧ V.drew.cell? ⟨w.heap.size, 13, none⟩ = some (.int .i64 x.m) := ⟨P1.blk.at3.1, cell_of_row V.drew _ 13 _ _ _ b2⟩
  go_region_held3 (fun Y : World => Y.cell? ⟨pb, 0, none⟩ = some (.pointer (some ⟨g, 0, none⟩)) ∧ Y.cell? ⟨w.heap.size, 13, none⟩ = some (.int .i64 x.m)) (first | (with_reducible exact hS0) | (with_reducible exact hS1) | go_keep) (first
    | (go_at_call 28; (with_reducible refine c1.mono ?_); rintro _ u2 ⟨a2, cp2, rfl, Q2⟩; obtain ⟨S2, G2, M2, pb2, F2, V2, lo2⟩ := P1.gate Q2.step hN1; have b3 := F2.loc P1.G b2 (by decide) (by decide) (by decide); have hS1 : u2.cell? ⟨pb, 0, none⟩ = some (.pointer (some ⟨g, 0, none⟩)) ∧ u2.cell? ⟨w.heap.size, 13, none⟩ = some (.int .i64 x.m) := ⟨pb2.at3.1, cell_of_row u2 _ 13 _ _ _ b3⟩))
  all_goals
    have Gd2 := (Below.refl u2.heap.size u2).drew
    have M3 := M2.keep Gd2
    have pb3 := pb2.keep Gd2
    have b4 := b3.keep Gd2
    have c2 := refAdvance m s x.m u2.drew M3 P.G.1
    have hS2 : u2.drew.cell? ⟨pb, 1, none⟩ = some (.pointer (some ⟨m, 0, none⟩)) ∧ u2.drew.cell? ⟨w.heap.size, 13, none⟩ = some (.int .i64 x.m) := ⟨pb3.at3.2.1, cell_of_row u2.drew _ 13 _ _ _ b4⟩
    go_upto_region 8 with fail
    go_region_held3 (fun Y : World => Y.cell? ⟨pb, 1, none⟩ = some (.pointer (some ⟨m, 0, none⟩)) ∧ Y.cell? ⟨w.heap.size, 13, none⟩ = some (.int .i64 x.m)) (first | (with_reducible exact hS2) | (with_reducible exact hS3) | go_keep) (first
      | (go_at_call 64; (with_reducible refine c2.mono ?_); rintro _ u4 ⟨a4, cp4, rfl, Q4⟩; have SP := PrP.both P1 hN1 (G2.keep Gd2) M3 pb3 (F2.below Gd2) V2 lo2 Q4.mod Q4.frm (Gs.adv_cap s x.m); have O4 := own_of_block (own_keep Q2.own Gd2) (fun k cur _ hh => Q4.frm.blk k (lt_of_block hh) (ev_not_mod M3 hh)); have hS3 : u4.cell? ⟨pb, 1, none⟩ = some (.pointer (some ⟨m, 0, none⟩)) ∧ u4.cell? ⟨w.heap.size, 13, none⟩ = some (.int .i64 x.m) := ⟨(Q4.frm.bk pb3 (pr_not_mod M3 pb3)).at3.2.1, cell_of_row u4 _ 13 _ _ _ (Q4.frm.bk b4 (op_not_mod M3 b4))⟩; have c5 := sameEvG_true a2 a4 cp2 cp4 (s.advL x.m) u4 (own_flat O4) Q4.flat (by omega)))
    all_goals
      go_wp2_with (first
        | (go_at_call 29; (with_reducible refine c5.mono ?_); rintro _ u5 ⟨rfl, g5⟩))
      go_ret
      exact ⟨by simp, PrP.first (gtrans B Gd) ((SP.below g5).mono (Nat.le_succ _))⟩
set_option maxRecDepth 100000 in
set_option maxHeartbeats 4000000 in
theorem ply3 (k3 : x.kd = 3) : Calls Try.prog 40 #[.pointer (some ⟨pb, 0, none⟩), .agg (gopC x)] w fun e w' => e = .returned (.bool true) ∧ PrP N pb g m S s.cap (t + 1) w w' := by
  have B := galloc (Below.refl w.heap.size w) (.cells (gopC x) 76)
  have b1 := Bk.new w (gopC x) 76
  have PV := P.keep B
  have hNV : N ≤ (w.alloc (.cells (gopC x) 76)).heap.size := Nat.le_trans hN B.size
  generalize hV : w.alloc (.cells (gopC x) 76) = V at *
  have dk : V.cell? ⟨w.heap.size, 0, none⟩ = some (.int .i64 x.kd) := cell_of_row V _ 0 _ _ _ b1
  have hll := P.G.1.len'
  have z0 := PV.blk.at3.1
  have z1 := PV.blk.at3.2.1
  rw [k3] at dk
  have hll2 := Gs.fluL_len P.G.1
  have c1 := flu_any g t S s V PV.G
  go_enter Try.func40, Try.ntmps40
  go_upto_region 12 with (first
    | (go_at_call 31; (with_reducible refine c1.mono ?_); rintro _ u2 ⟨a2, cp2, rfl, Q2⟩))
  obtain ⟨S2, G2, M2, pb2, F2, V2, lo2⟩ := PV.gate Q2.step hNV
  have y1 := pb2.at3.2.1
  have c2 := refFlush m s u2 M2
  clear c1
  go_upto_region 13 with (first
    | (go_at_call 65; (with_reducible refine c2.mono ?_); rintro _ u4 ⟨a4, cp4, rfl, Q4⟩))
  have SP := PrP.both PV hNV G2 M2 pb2 F2 V2 lo2 Q4.mod Q4.frm (Gs.flu_cap s)
  have O4 := own_of_block Q2.own (fun k cur _ hh => Q4.frm.blk k (lt_of_block hh) (ev_not_mod M2 hh))
  have c5 := sameEvG_true a2 a4 cp2 cp4 s.fluL u4 (own_flat O4) Q4.flat (by omega)
  go_wp2_with (first
    | (go_at_call 29; (with_reducible refine c5.mono ?_); rintro _ u5 ⟨rfl, g5⟩))
  go_ret
  exact ⟨by simp, PrP.first B ((SP.below g5).mono (Nat.le_succ _))⟩
set_option maxRecDepth 100000 in
set_option maxHeartbeats 4000000 in
theorem ply4 (k4 : x.kd = 4) : Calls Try.prog 40 #[.pointer (some ⟨pb, 0, none⟩), .agg (gopC x)] w fun e w' => e = .returned (.bool true) ∧ PrP N pb g m S s.cap (t + 1) w w' := by
  have B := galloc (Below.refl w.heap.size w) (.cells (gopC x) 76)
  have b1 := Bk.new w (gopC x) 76
  have PV := P.keep B
  have hNV : N ≤ (w.alloc (.cells (gopC x) 76)).heap.size := Nat.le_trans hN B.size
  generalize hV : w.alloc (.cells (gopC x) 76) = V at *
  have dk : V.cell? ⟨w.heap.size, 0, none⟩ = some (.int .i64 x.kd) := cell_of_row V _ 0 _ _ _ b1
  have hll := P.G.1.len'
  have z0 := PV.blk.at3.1
  have z1 := PV.blk.at3.2.1
  rw [k4] at dk
  have c1 := mark_any g t S s V PV.G
  have c2 := closed_any g t S s V PV.G
  have c3 := refMark m s V PV.M
  have c4 := refClosed m s V PV.M
  go_enter Try.func40, Try.ntmps40
  go_wp2_with (first
    | (go_at_call 66; (with_reducible refine c1.mono ?_); rintro _ u1 ⟨rfl, hu⟩; have hu' := hu.symm; subst hu')
    | (go_at_call 67; (with_reducible refine c2.mono ?_); rintro _ u1 ⟨rfl, hu⟩; have hu' := hu.symm; subst hu')
    | (go_at_call 68; (with_reducible refine c3.mono ?_); rintro _ u1 ⟨rfl, hu⟩; have hu' := hu.symm; subst hu')
    | (go_at_call 69; (with_reducible refine c4.mono ?_); rintro _ u1 ⟨rfl, hu⟩; have hu' := hu.symm; subst hu'))
  go_ret
  exact ⟨by simp, PrP.first B ((PrP.of PV (Below.refl _ _)).mono (Nat.le_succ _))⟩
set_option maxRecDepth 100000 in
set_option maxHeartbeats 4000000 in
theorem ply5 (k5 : x.kd = 5) : Calls Try.prog 40 #[.pointer (some ⟨pb, 0, none⟩), .agg (gopC x)] w fun e w' => e = .returned (.bool true) ∧ PrP N pb g m S s.cap (t + 1) w w' := by
  have B := galloc (Below.refl w.heap.size w) (.cells (gopC x) 76)
  have b1 := Bk.new w (gopC x) 76
  have PV := P.keep B
  have hNV : N ≤ (w.alloc (.cells (gopC x) 76)).heap.size := Nat.le_trans hN B.size
  generalize hV : w.alloc (.cells (gopC x) 76) = V at *
  have dk : V.cell? ⟨w.heap.size, 0, none⟩ = some (.int .i64 x.kd) := cell_of_row V _ 0 _ _ _ b1
  have hll := P.G.1.len'
  have z0 := PV.blk.at3.1
  have z1 := PV.blk.at3.2.1
  rw [k5] at dk
  obtain ⟨p, d0, cL⟩ := PV.G.pile
  have c1 := cL V (Below.refl _ _)
  have c2 := refLenM m s V PV.M
  clear cL
  go_enter Try.func40, Try.ntmps40
  go_wp2_with (first
    | (go_at_call 30; (with_reducible refine c1.mono ?_); rintro _ u1 ⟨rfl, hu⟩; have hu' := hu.symm; subst hu')
    | (go_at_call 70; (with_reducible refine c2.mono ?_); rintro _ u1 ⟨rfl, hu⟩; have hu' := hu.symm; subst hu'))
  go_ret
  exact ⟨by simp, PrP.first B ((PrP.of PV (Below.refl _ _)).mono (Nat.le_succ _))⟩
set_option maxRecDepth 100000 in
set_option maxHeartbeats 4000000 in
theorem ply6 (k6 : x.kd = 6) : Calls Try.prog 40 #[.pointer (some ⟨pb, 0, none⟩), .agg (gopC x)] w fun e w' => e = .returned (.bool true) ∧ PrP N pb g m S s.cap (t + 1) w w' := by
  have B := galloc (Below.refl w.heap.size w) (.cells (gopC x) 76)
  have b1 := Bk.new w (gopC x) 76
  have PV := P.keep B
  have hNV : N ≤ (w.alloc (.cells (gopC x) 76)).heap.size := Nat.le_trans hN B.size
  generalize hV : w.alloc (.cells (gopC x) 76) = V at *
  have dk : V.cell? ⟨w.heap.size, 0, none⟩ = some (.int .i64 x.kd) := cell_of_row V _ 0 _ _ _ b1
  have hll := P.G.1.len'
  have z0 := PV.blk.at3.1
  have z1 := PV.blk.at3.2.1
  rw [k6] at dk
  have c1 := held_any g t S s V PV.G
  go_enter Try.func40, Try.ntmps40
  go_upto_region 23 with (first
    | (go_at_call 34; (with_reducible refine c1.mono ?_); rintro _ u2 ⟨z2, rfl, O2, g2⟩))
  have P2 := PV.keep g2
  have y1 := P2.blk.at3.2.1
  have c2 := refHeld m s u2 P2.M hll
  clear c1
  go_wp2_with (first
    | (go_at_call 71; (with_reducible refine c2.mono ?_); rintro _ u4 ⟨a4, cp4, rfl, O4, g4⟩; have c5 := sameEvG_true (some ⟨z2, 0, none⟩) a4 s.l.length cp4 s.l u4 (own_flat (own_keep O2 g4)) (own_flat O4) (by omega))
    | (go_at_call 29; (with_reducible refine c5.mono ?_); rintro _ u5 ⟨rfl, g5⟩))
  go_ret
  exact ⟨by simp, PrP.first B ((PrP.of PV (gtrans (gtrans g2 g4) g5)).mono (Nat.le_succ _))⟩
set_option maxRecDepth 100000 in
set_option maxHeartbeats 4000000 in
theorem ply7 (k7 : x.kd = 7) : Calls Try.prog 40 #[.pointer (some ⟨pb, 0, none⟩), .agg (gopC x)] w fun e w' => e = .returned (.bool true) ∧ PrP N pb g m S s.cap (t + 1) w w' := by
  have B := galloc (Below.refl w.heap.size w) (.cells (gopC x) 76)
  have b1 := Bk.new w (gopC x) 76
  have PV := P.keep B
  have hNV : N ≤ (w.alloc (.cells (gopC x) 76)).heap.size := Nat.le_trans hN B.size
  generalize hV : w.alloc (.cells (gopC x) 76) = V at *
  have dk : V.cell? ⟨w.heap.size, 0, none⟩ = some (.int .i64 x.kd) := cell_of_row V _ 0 _ _ _ b1
  have hll := P.G.1.len'
  have z0 := PV.blk.at3.1
  have z1 := PV.blk.at3.2.1
  rw [k7] at dk
  have c1 := restored_any N pb g m t S s V PV hNV ht
  go_enter Try.func40, Try.ntmps40
  go_wp2_with (first
    | (go_at_call 72; (with_reducible refine c1.mono ?_); rintro _ u2 ⟨rfl, Q2⟩))
  go_ret
  exact ⟨by simp, PrP.first B (Q2.mono (Nat.le_succ _))⟩
theorem plays_any : Calls Try.prog 40 #[.pointer (some ⟨pb, 0, none⟩), .agg (gopC x)] w fun e w' => e = .returned (.bool true) ∧ PrP N pb g m S s.cap (t + 1) w w' := by
  by_cases k1 : x.kd = 1
  · exact ply1 N pb g m t S s x w P hN ht ht2 xok k1
  by_cases k2 : x.kd = 2
  · exact ply2 N pb g m t S s x w P hN ht ht2 xok k2
  by_cases k3 : x.kd = 3
  · exact ply3 N pb g m t S s x w P hN ht ht2 xok k3
  by_cases k4 : x.kd = 4
  · exact ply4 N pb g m t S s x w P hN ht ht2 xok k4
  by_cases k5 : x.kd = 5
  · exact ply5 N pb g m t S s x w P hN ht ht2 xok k5
  by_cases k6 : x.kd = 6
  · exact ply6 N pb g m t S s x w P hN ht ht2 xok k6
  by_cases k7 : x.kd = 7
  · exact ply7 N pb g m t S s x w P hN ht ht2 xok k7
  exact ply0 N pb g m t S s x w P hN ht ht2 xok k1 k2 k3 k4 k5 k6 k7
end

end Go.Proofs.Ytjfbbfmnghccdaa
