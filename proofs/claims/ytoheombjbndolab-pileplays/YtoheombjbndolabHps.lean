/- A step of a script, on a pile and on the document's. -/
import Derived.Test.YtoheombjbndolabHpq
import Derived.Test.YtoheombjbndolabHlg
namespace Go.Proofs.Ytoheombjbndolab
open Go.RowKit Go.BigFrame
set_option linter.unusedVariables false
set_option linter.unusedSimpArgs false
set_option linter.unusedSectionVars false

/-- A step's cells. -/
def opC (kd p : Int) (e : Ev) : Array Value := #[.int .i64 kd, .int .i64 p, .int .i64 e.ts, .int .u64 e.id, .int .i64 e.typ, .int .i64 e.a0, .int .i64 e.a1, .int .i64 e.a2, .int .i64 e.a3, .int .i64 e.a4, .int .i64 e.a5, .int .i64 e.a6, .int .i64 e.a7]
theorem opC_range {w : World} {b o : Nat} {kd p : Int} {e : Ev} (h : w.rangeAt b o (opC kd p e).toList) : w.rangeAt b (o + 2) (evC e).toList := fun j v hv => by
  rw [Nat.add_assoc, Nat.add_comm 2 j]
  refine h (j + 2) v ?_
  unfold opC evC at *
  simpa using hv
/-- Of what was there, only the pile, its row and the document's pile have turned. -/
structure Gm (p m : Nat) (v : Value) (w u : World) : Prop where
  os : u.os = w.os
  tape : u.tape = w.tape
  output : u.output = w.output
  size : w.heap.size ≤ u.heap.size
  blk : ∀ k, k < w.heap.size → k ≠ p → k ≠ m → v.ownBlock ≠ some k → u.heap[k]? = w.heap[k]?
theorem Gm.of {p m : Nat} {v : Value} {w u : World} (h : Below w.heap.size w u) : Gm p m v w u := ⟨h.os, h.tape, h.output, h.size, fun k hk _ _ _ => h.block k hk⟩
theorem Gm.gb {p m : Nat} {v : Value} {w u : World} (h : Gb p v w u) : Gm p m v w u := ⟨h.os, h.tape, h.output, h.size, fun k hk h1 _ h3 => h.blk k hk h1 (fun e => h3 e)⟩
theorem Gm.mb {p m : Nat} {v : Value} {w u x : World} (h : Gm p m v w u) (k : Mb m u x) : Gm p m v w x := ⟨k.os.trans h.os, k.tape.trans h.tape, k.output.trans h.output, Nat.le_trans h.size k.size, fun j hj h1 h2 h3 => (k.blk j (Nat.lt_of_lt_of_le hj h.size) h2).trans (h.blk j hj h1 h2 h3)⟩
theorem Gm.below {p m : Nat} {v : Value} {w u x : World} (h : Gm p m v w u) (k : Below u.heap.size u x) : Gm p m v w x := h.mb (Mb.of k)
theorem Gm.first {p m : Nat} {v : Value} {w u x : World} (k : Below w.heap.size w u) (h : Gm p m v u x) : Gm p m v w x := ⟨h.os.trans k.os, h.tape.trans k.tape, h.output.trans k.output, Nat.le_trans k.size h.size, fun j hj h1 h2 h3 => (h.blk j (Nat.lt_of_lt_of_le hj k.size) h1 h2 h3).trans (k.block j hj)⟩
/-- A pile stays where the document's turns. -/
theorem Pa.mb {w u : World} {m p base t : Nat} {v : Value} {L : List (Ev × Nat)} {l : List Ev} (P : evPa w p base v L t) (M : Mo w m l) (k : Mb m w u) : evPa u p base v L t := by
  obtain ⟨_, _, bm, _⟩ := M
  unfold Bk at bm
  refine P.same (k.blk p P.blk.lt fun e => ?_) (fun g e => ?_)
  · subst e
    have hb := P.blk
    unfold Bk at hb
    rw [hb] at bm
    simp only [Option.some.injEq, Obj.cells.injEq] at bm
    exact absurd bm.2.1 (by decide)
  · obtain ⟨xs, R⟩ := P.row
    rcases R.2 with ⟨rfl, _⟩ | ⟨g1, c1, cur1, rfl, _, hh1, _⟩
    · simp [Value.ownBlock] at e
    · have : g1 = g := by simpa [Value.ownBlock] using e
      subst this
      refine k.blk g1 (lt_of_block hh1) fun e => ?_
      subst e
      rw [hh1] at bm
      simp only [Option.some.injEq, Obj.cells.injEq] at bm
      exact absurd bm.2.1 (by decide)
/-- What a step leaves. -/
def StepP (p m base t : Nat) (v : Value) (w : World) (w' : World) : Prop := ∃ v' L' t', evPa w' p base v' L' t' ∧ Mo w' m (L'.map Prod.fst) ∧ L'.length ≤ t' ∧ t' ≤ t + 1 ∧ Gm p m v w w' ∧ (∀ g, v'.ownBlock = some g → v.ownBlock = some g ∨ w.heap.size ≤ g)
theorem StepP.first {p m base t : Nat} {v : Value} {w V w' : World} (B : Below w.heap.size w V) (h : StepP p m base t v V w') : StepP p m base t v w w' := by
  obtain ⟨v', L', t', P, M, h1, h2, G, V⟩ := h
  exact ⟨v', L', t', P, M, h1, h2, Gm.first B G, fun g e => (V g e).imp id fun h => Nat.le_trans B.size h⟩
section
variable (p m base t : Nat) (v : Value) (L : List (Ev × Nat)) (w : World) (P : evPa w p base v L t) (M : Mo w m (L.map Prod.fst)) (hL : L.length ≤ t) (ht : t ≤ 1599289640355) (hbw : base ≤ w.heap.size) (pp : Int) (x : Ev)
include P M hL ht hbw
set_option maxRecDepth 100000 in
set_option maxHeartbeats 2000000 in
theorem step1 : Calls Try.prog 23 #[.pointer (some ⟨p, 0, none⟩), .pointer (some ⟨m, 0, none⟩), .agg (opC 1 pp x)] w fun e w' => e = .returned (.bool true) ∧ StepP p m base t v w w' := by
  have B := galloc (Below.refl w.heap.size w) (.cells (opC 1 pp x) 56)
  have b1 := Bk.new w (opC 1 pp x) 56
  go_enter Try.func23, Try.ntmps23
  go_upto_region 1 with fail
  generalize w.alloc _ = V at *
  have d0 : V.cell? ⟨w.heap.size, 0, none⟩ = some (.int .i64 1) := cell_of_row V _ 0 _ _ _ b1
  have r0 := opC_range b1.range
  have T0 : ∀ y ∈ L, y.2 < t := fun y hy => (P.sorted.2 y hy).elim (fun e => by have := List.length_pos_of_mem hy; omega) id
  have c1 := evPush p base t v L x V (P.keep B) (by omega) (Nat.le_trans hbw B.size) (by omega) (fun e => by subst e; exact List.length_eq_zero_iff.1 (by omega))
  have hlm : (L.map Prod.fst).length = L.length := List.length_map _
  go_upto_region 4 with (first
    | (refine wpList_load_mid rfl 29 _ rfl w.heap.size 2 rfl (evC x).toList _ r0 Try.underlying29 rfl infoEv ?_)
    | (go_at_call 9; (with_reducible refine c1.mono ?_); rintro e u2 ⟨rfl, v2, P2, G2, V2⟩))
  have M2 := (M.keep B).gb (P.keep B) G2
  have b2 := G2.loc (P.keep B) b1 (by decide) (by decide)
  have r2 := opC_range b2.range
  have c2 := refPush m (L.map Prod.fst) x u2 M2 (by rw [hlm]; omega)
  rw [← ins_fst evLt x t L T0] at c2
  go_wp2_with (first
    | (refine wpList_load_mid rfl 29 _ rfl w.heap.size 2 rfl (evC x).toList _ r2 Try.underlying29 rfl infoEv ?_)
    | (go_at_call 40; (with_reducible refine c2.mono ?_); rintro e u3 ⟨rfl, M3, K3⟩))
  go_ret
  exact ⟨rfl, StepP.first B ⟨v2, _, t + 1, P2.mb M2 K3, M3, by rw [ins_len]; omega, Nat.le_refl _, (Gm.gb G2).mb K3, V2⟩⟩
set_option maxRecDepth 100000 in
set_option maxHeartbeats 2000000 in
theorem step4 : Calls Try.prog 23 #[.pointer (some ⟨p, 0, none⟩), .pointer (some ⟨m, 0, none⟩), .agg (opC 4 pp x)] w fun e w' => e = .returned (.bool true) ∧ StepP p m base t v w w' := by
  have B := galloc (Below.refl w.heap.size w) (.cells (opC 4 pp x) 56)
  have b1 := Bk.new w (opC 4 pp x) 56
  go_enter Try.func23, Try.ntmps23
  go_upto_region 1 with fail
  generalize w.alloc _ = V at *
  have d0 : V.cell? ⟨w.heap.size, 0, none⟩ = some (.int .i64 4) := cell_of_row V _ 0 _ _ _ b1
  have c1 := evLenA p base t v L V (P.keep B)
  have c2 := refLen m (L.map Prod.fst) V (M.keep B)
  rw [List.length_map] at c2
  go_wp2_with (first
    | (go_at_call 24; (with_reducible refine c1.mono ?_); rintro e u2 ⟨rfl, hu2⟩; have hu2' := hu2.symm; subst hu2')
    | (go_at_call 25; (with_reducible refine c2.mono ?_); rintro e u3 ⟨rfl, hu3⟩; have hu3' := hu3.symm; subst hu3'))
  go_ret
  exact ⟨rfl, StepP.first B ⟨v, L, t, P.keep B, M.keep B, hL, Nat.le_succ _, Gm.of (Below.refl _ _), fun g e => .inl e⟩⟩
set_option maxRecDepth 100000 in
set_option maxHeartbeats 2000000 in
theorem step5 : Calls Try.prog 23 #[.pointer (some ⟨p, 0, none⟩), .pointer (some ⟨m, 0, none⟩), .agg (opC 5 pp x)] w fun e w' => e = .returned (.bool true) ∧ StepP p m base t v w w' := by
  have B := galloc (Below.refl w.heap.size w) (.cells (opC 5 pp x) 56)
  have b1 := Bk.new w (opC 5 pp x) 56
  have hlm : (L.map Prod.fst).length = L.length := List.length_map _
  go_enter Try.func23, Try.ntmps23
  go_upto_region 1 with fail
  generalize w.alloc _ = V at *
  have d0 : V.cell? ⟨w.heap.size, 0, none⟩ = some (.int .i64 5) := cell_of_row V _ 0 _ _ _ b1
  have c1 := evSorted p base t v L V (P.keep B) (by omega)
  go_upto_region 17 with (first
    | (go_at_call 10; (with_reducible refine c1.mono ?_); rintro e u2 ⟨g2, rfl, O2, G2⟩))
  have c2 := refSorted m (L.map Prod.fst) u2 ((M.keep B).keep G2) (by rw [hlm]; omega)
  rw [hlm] at c2
  go_upto_region 18 with (first
    | (go_at_call 43; (with_reducible refine c2.mono ?_); rintro e u3 ⟨a3, k3, rfl, O3, G3⟩))
  have c3 := sameEvents_true (some ⟨g2, 0, none⟩) a3 L.length k3 (L.map Prod.fst) u3 (own_flat (own_keep O2 G3)) (own_flat O3) (by rw [hlm]; omega)
  rw [hlm] at c3
  go_wp2_with (first
    | (go_at_call 12; (with_reducible refine c3.mono ?_); rintro e u4 ⟨rfl, G4⟩))
  go_ret
  have GF := gtrans (gtrans G2 G3) G4
  exact ⟨rfl, StepP.first B ⟨v, L, t, (P.keep B).keep GF, (M.keep B).keep GF, hL, Nat.le_succ _, Gm.of GF, fun g e => .inl e⟩⟩
set_option maxRecDepth 100000 in
set_option maxHeartbeats 2000000 in
theorem step0 (kd : Int) (h1 : (kd == 1) = false) (h2 : (kd == 2) = false) (h3 : (kd == 3) = false) (h4 : (kd == 4) = false) (h5 : (kd == 5) = false) : Calls Try.prog 23 #[.pointer (some ⟨p, 0, none⟩), .pointer (some ⟨m, 0, none⟩), .agg (opC kd pp x)] w fun e w' => e = .returned (.bool true) ∧ StepP p m base t v w w' := by
  have B := galloc (Below.refl w.heap.size w) (.cells (opC kd pp x) 56)
  have b1 := Bk.new w (opC kd pp x) 56
  go_enter Try.func23, Try.ntmps23
  go_upto_region 1 with fail
  generalize w.alloc _ = V at *
  have d0 : V.cell? ⟨w.heap.size, 0, none⟩ = some (.int .i64 kd) := cell_of_row V _ 0 _ _ _ b1
  go_wp2
  go_ret
  exact ⟨rfl, StepP.first B ⟨v, L, t, P.keep B, M.keep B, hL, Nat.le_succ _, Gm.of (Below.refl _ _), fun g e => .inl e⟩⟩
set_option maxRecDepth 100000 in
set_option maxHeartbeats 2000000 in
theorem step2 : Calls Try.prog 23 #[.pointer (some ⟨p, 0, none⟩), .pointer (some ⟨m, 0, none⟩), .agg (opC 2 pp x)] w fun e w' => e = .returned (.bool true) ∧ StepP p m base t v w w' := by
  have B := galloc (Below.refl w.heap.size w) (.cells (opC 2 pp x) 56)
  have b1 := Bk.new w (opC 2 pp x) 56
  have hlm : (L.map Prod.fst).length = L.length := List.length_map _
  have hhd : (L.map Prod.fst).headD zrEv = (L.headD (zrEv, 0)).1 := by cases L <;> rfl
  have htl : (L.map Prod.fst).tail = L.tail.map Prod.fst := by cases L <;> rfl
  go_enter Try.func23, Try.ntmps23
  go_upto_region 1 with fail
  generalize w.alloc _ = V at *
  have d0 : V.cell? ⟨w.heap.size, 0, none⟩ = some (.int .i64 2) := cell_of_row V _ 0 _ _ _ b1
  have PV := P.keep B
  have MV := M.keep B
  have c1 := evPopA p base t v L V PV (by omega)
  obtain ⟨y, hy⟩ : ∃ y, (L.headD (zrEv, 0)).1 = y := ⟨_, rfl⟩
  obtain ⟨bb, hbb⟩ : ∃ bb, decide (0 < L.length) = bb := ⟨_, rfl⟩
  rw [hy, hbb] at c1
  rw [hy] at hhd
  unfold evTopV at c1
  have sx := ev_one1 y
  have c2 := fun (U : World) (MU : Mo U m (L.map Prod.fst)) => refPop m (L.map Prod.fst) U MU (by rw [hlm]; omega)
  rw [hhd, hlm, hbb, htl] at c2
  unfold evTopV at c2
  clear hhd hlm hy hbb htl
  go_upto_region 7 with (first
    | (go_at_call 13; (with_reducible refine c1.mono ?_); rintro e u2 ⟨rfl, v2, P2, G2, V2⟩; have bz := Bk.new u2 zA9 29; have th := bz.there; have b3 := bz.setCells (cs' := evC y) rfl; have G3 := gsetCells (galloc (Below.refl u2.heap.size u2) (.cells zA9 29)) (Nat.le_refl _) (evC y).toList 0; generalize hX3 : (u2.alloc (.cells zA9 29)).setCells u2.heap.size 0 (evC y).toList = X3 at *)
    | (refine wpList_store_mid rfl 29 _ _ rfl u2.heap.size 0 (evC y) rfl rfl th infoEv sx ?_; rw [hX3]))
  have M3 := (MV.gb PV G2).keep G3
  have P3 := P2.keep G3
  have c3 := c2 X3 M3
  clear bz th c1 c2 hX3
  go_upto_region 8 with (first
    | (go_at_call 41; (with_reducible refine c3.mono ?_); rintro e u4 ⟨rfl, M4, K4⟩; have bz := Bk.new u4 zA9 29; have th := bz.there; have b5 := bz.setCells (cs' := evC y) rfl; have G5 := gsetCells (galloc (Below.refl u4.heap.size u4) (.cells zA9 29)) (Nat.le_refl _) (evC y).toList 0; generalize hX5 : (u4.alloc (.cells zA9 29)).setCells u4.heap.size 0 (evC y).toList = X5 at *)
    | (refine wpList_store_mid rfl 29 _ _ rfl u4.heap.size 0 (evC y) rfl rfl th infoEv sx ?_; rw [hX5]))
  have hmu : m < u2.heap.size := (MV.gb PV G2).lt
  have b3' : Bk u4 u2.heap.size (evC y) 29 := (K4.blk _ b3.lt (by omega)).trans b3
  have r3 := (b3'.keep G5).range
  have r5 := b5.range
  clear bz th c3 hX5
  go_wp2_with (first
    | (refine wpList_load_midw rfl 29 (.tmp 7) rfl u2.heap.size 0 rfl (evC y) _ r3 Try.underlying29 rfl infoEv ?_; refine wpList_load_midw rfl 29 (.tmp 9) rfl u4.heap.size 0 rfl (evC y) _ r5 Try.underlying29 rfl infoEv ?_; refine wpList_eql_samew rfl (.tmp 41) (.tmp 42) 29 rfl evGuard (evC y) (ev_eq y) rfl rfl ?_))
  go_ret
  exact ⟨rfl, StepP.first B ⟨v2, L.tail, t, (P3.mb M3 K4).keep G5, M4.keep G5, by rw [List.length_tail]; omega, Nat.le_succ _, (((Gm.gb G2).below G3).mb K4).below G5, fun g e => .inl (V2 g e)⟩⟩
set_option maxRecDepth 100000 in
set_option maxHeartbeats 2000000 in
theorem step3 : Calls Try.prog 23 #[.pointer (some ⟨p, 0, none⟩), .pointer (some ⟨m, 0, none⟩), .agg (opC 3 pp x)] w fun e w' => e = .returned (.bool true) ∧ StepP p m base t v w w' := by
  have B := galloc (Below.refl w.heap.size w) (.cells (opC 3 pp x) 56)
  have b1 := Bk.new w (opC 3 pp x) 56
  have hlm : (L.map Prod.fst).length = L.length := List.length_map _
  have hhd : (L.map Prod.fst).headD zrEv = (L.headD (zrEv, 0)).1 := by cases L <;> rfl
  have htl : (L.map Prod.fst).tail = L.tail.map Prod.fst := by cases L <;> rfl
  go_enter Try.func23, Try.ntmps23
  go_upto_region 1 with fail
  generalize w.alloc _ = V at *
  have d0 : V.cell? ⟨w.heap.size, 0, none⟩ = some (.int .i64 3) := cell_of_row V _ 0 _ _ _ b1
  have PV := P.keep B
  have MV := M.keep B
  have c1 := evPeekA p base t v L V PV
  obtain ⟨y, hy⟩ : ∃ y, (L.headD (zrEv, 0)).1 = y := ⟨_, rfl⟩
  obtain ⟨bb, hbb⟩ : ∃ bb, decide (0 < L.length) = bb := ⟨_, rfl⟩
  rw [hy, hbb] at c1
  rw [hy] at hhd
  unfold evTopV at c1
  have sx := ev_one1 y
  have c2 := fun (U : World) (MU : Mo U m (L.map Prod.fst)) => refPeek m (L.map Prod.fst) U MU (by rw [hlm]; omega)
  rw [hhd, hlm, hbb] at c2
  unfold evTopV at c2
  clear hhd hlm hy hbb htl
  go_upto_region 11 with (first
    | (go_at_call 30; (with_reducible refine c1.mono ?_); rintro e u2 ⟨rfl, g2⟩; have bz := Bk.new u2 zA9 29; have th := bz.there; have b3 := bz.setCells (cs' := evC y) rfl; have G3 := gsetCells (galloc (Below.refl u2.heap.size u2) (.cells zA9 29)) (Nat.le_refl _) (evC y).toList 0; generalize hX3 : (u2.alloc (.cells zA9 29)).setCells u2.heap.size 0 (evC y).toList = X3 at *)
    | (refine wpList_store_mid rfl 29 _ _ rfl u2.heap.size 0 (evC y) rfl rfl th infoEv sx ?_; rw [hX3]))
  have g3 := gtrans g2 G3
  have M3 := MV.keep g3
  have P3 := PV.keep g3
  have c3 := c2 X3 M3
  clear bz th c1 c2 hX3
  go_upto_region 12 with (first
    | (go_at_call 42; (with_reducible refine c3.mono ?_); rintro e u4 ⟨rfl, g4⟩; have bz := Bk.new u4 zA9 29; have th := bz.there; have b5 := bz.setCells (cs' := evC y) rfl; have G5 := gsetCells (galloc (Below.refl u4.heap.size u4) (.cells zA9 29)) (Nat.le_refl _) (evC y).toList 0; generalize hX5 : (u4.alloc (.cells zA9 29)).setCells u4.heap.size 0 (evC y).toList = X5 at *)
    | (refine wpList_store_mid rfl 29 _ _ rfl u4.heap.size 0 (evC y) rfl rfl th infoEv sx ?_; rw [hX5]))
  have g5 := gtrans g4 G5
  have r3 := (b3.keep g5).range
  have r5 := b5.range
  clear bz th c3 hX5
  go_wp2_with (first
    | (refine wpList_load_midw rfl 29 (.tmp 11) rfl u2.heap.size 0 rfl (evC y) _ r3 Try.underlying29 rfl infoEv ?_; refine wpList_load_midw rfl 29 (.tmp 13) rfl u4.heap.size 0 rfl (evC y) _ r5 Try.underlying29 rfl infoEv ?_; refine wpList_eql_samew rfl (.tmp 61) (.tmp 62) 29 rfl evGuard (evC y) (ev_eq y) rfl rfl ?_))
  go_ret
  have GF := gtrans g3 g5
  exact ⟨rfl, StepP.first B ⟨v, L, t, PV.keep GF, MV.keep GF, hL, Nat.le_succ _, Gm.of GF, fun g e => .inl e⟩⟩
end

end Go.Proofs.Ytoheombjbndolab
