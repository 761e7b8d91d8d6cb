/- The same of names. -/
import Derived.Test.YtoheombjbndolaaHpn
import Derived.Test.YtoheombjbndolaaHpb2N
namespace Go.Proofs.Ytoheombjbndolaa
open Go.RowKit Go.BigFrame
set_option linter.unusedVariables false
set_option linter.unusedSimpArgs false

theorem infoLdN : (Try.prog.info? 66).map (·.size) = some 3 := by kernel_rfl
theorem nm_size (x : Nm) : (nmC x).size = 2 := rfl
theorem nm_one (x : Nm × Nat) : (ldC nmC x).all (·.oneCell') = true := by simp [ldC, nmC, Value.oneCell']
theorem nm_lsize (x : Nm × Nat) : (ldC nmC x).size = 3 := rfl
set_option maxHeartbeats 1000000 in
theorem nmAhead_any (x y : Nm × Nat) (w : World) :
    Calls Try.prog 46 #[.agg (ldC nmC x), .agg (ldC nmC y)] w fun e w' => e = .returned (.bool (ahd nmLt x y)) ∧ Below w.heap.size w w' := by
  have B := galloc (galloc (Below.refl w.heap.size w) (.cells (ldC nmC x) 66)) (.cells (ldC nmC y) 66)
  have b1 := (Bk.new w (ldC nmC x) 66).alloc (.cells (ldC nmC y) 66)
  have b2 := Bk.newE (w := w.alloc (.cells (ldC nmC x) 66)) (g := w.heap.size + 1) (by simp) (ldC nmC y) 66
  go_enter Try.func46, Try.ntmps46
  go_upto_region 1 with fail
  generalize (w.alloc _).alloc _ = V at *
  have t1 : V.cell? ⟨w.heap.size, 2, none⟩ = some (.int .i64 (x.2 : Int)) := cell_of_row V _ 2 _ _ _ b1
  have t2 : V.cell? ⟨w.heap.size + 1, 2, none⟩ = some (.int .i64 (y.2 : Int)) := cell_of_row V _ 2 _ _ _ b2
  have r1 : V.rangeAt w.heap.size 0 (nmC x.1).toList := fun j v hv => b1.range j v (by
    have hj := (List.getElem?_eq_some_iff.1 hv).1
    unfold ldC
    rw [Array.toList_append, List.getElem?_append_left hj]
    exact hv)
  have r2 : V.rangeAt (w.heap.size + 1) 0 (nmC y.1).toList := fun j v hv => b2.range j v (by
    have hj := (List.getElem?_eq_some_iff.1 hv).1
    unfold ldC
    rw [Array.toList_append, List.getElem?_append_left hj]
    exact hv)
  have c1 := nmIs_any x.1 y.1 V
  have c2 := nmIs_any y.1 x.1 V
  go_wp2_with (first
    | (refine wpList_load_mid rfl 44 _ rfl _ 0 rfl (nmC x.1).toList _ r1 Try.underlying44 rfl infoNm ?_)
    | (refine wpList_load_mid rfl 44 _ rfl _ 0 rfl (nmC y.1).toList _ r2 Try.underlying44 rfl infoNm ?_)
    | (go_at_call 51; (with_reducible refine c1.mono ?_); rintro e u ⟨rfl, g1⟩)
    | (go_at_call 51; (with_reducible refine c2.mono ?_); rintro e u ⟨rfl, g1⟩))
  all_goals
    go_ret
    refine ⟨congrArg (fun b => Ending.returned (Value.bool b)) ?_, gtrans B g1⟩
    unfold ahd
    first | rw [if_pos (by assumption)] | rw [if_neg (by omega)]
set_option maxHeartbeats 2000000 in
theorem nmExchange (p base g cap i j t : Nat) (h : List (Nm × Nat)) (z : Nm × Nat) (hi : i < h.length) (hj : j < h.length) (hne : i ≠ j) (w : World) (P : Pil 64 66 3 nmC w p base (.slice (some ⟨g, 0, none⟩) h.length cap) h t) (hl : h.length ≤ 9223372036854775807) :
    Calls Try.prog 47 #[.pointer (some ⟨p, 0, none⟩), .int .i64 (i : Int), .int .i64 (j : Int)] w fun e w' => e = .returned (.tuple #[]) ∧ Pil 64 66 3 nmC w' p base (.slice (some ⟨g, 0, none⟩) h.length cap) (swp z h i j) t ∧ Gb p (.slice (some ⟨g, 0, none⟩) h.length cap) w w' := by
  have p0 := fun z : Ext w => (z.cell _ _ P.blk.lt).trans P.blk.at2.1
  have hne0 : Nonempty (Ext w) := ⟨⟨_, Below.refl _ _⟩⟩
  have ri := own_range (cv := ldC nmC) nm_lsize z P.own i hi
  have rj := own_range (cv := ldC nmC) nm_lsize z P.own j hj
  have HS : Hid (swp z h i j = (h.set i (h.getD j z)).set j (h.getD i z)) := rfl
  generalize h.getD i z = xi at *
  generalize h.getD j z = xj at *
  have q1 : (i : Int) < (h.length : Int) := by omega
  have q2 : (j : Int) < (h.length : Int) := by omega
  go_enter Try.func47, Try.ntmps47
  go_wp2
  refine wp_region_ext_float 24 9 (.int .i64 (j : Int)) _ _ rfl rfl rfl rfl (by kernel_rfl) (by kernel_rfl) (fun _ _ _ _ h => h) ?_
  simp only [List.take_succ_cons, List.take_zero, List.drop_succ_cons, List.drop_zero, List.eraseIdx_cons_succ, List.eraseIdx_cons_zero, Act.put, List.setIfInBounds_toArray, List.set_cons_succ, List.set_cons_zero]
  repeat (first
    | (refine wpQuiet_load_mid rfl 66 _ rfl g (i * 3) rfl (ldC nmC xi) _ (fun X hX => by obtain ⟨nx, rfl⟩ := hX; exact rangeAt_keep ri nx.h) Try.underlying66 rfl infoLdN _ rfl ?_; simp only [Act.put, List.setIfInBounds_toArray, List.set_cons_succ, List.set_cons_zero])
    | (refine wpQuiet_load_mid rfl 66 _ rfl g (j * 3) rfl (ldC nmC xj) _ (fun X hX => by obtain ⟨nx, rfl⟩ := hX; exact rangeAt_keep rj nx.h) Try.underlying66 rfl infoLdN _ rfl ?_; simp only [Act.put, List.setIfInBounds_toArray, List.set_cons_succ, List.set_cons_zero])
    | go_big_quiet_step (fail))
  refine wpQuiet_nil ?_
  intro _ hw'
  obtain ⟨nx, hw''⟩ := hw'
  subst hw''
  have O1 := own_keep P.own nx.h
  have pB := P.blk.keep nx.h
  have gp : p ≠ g := P.pb g rfl
  have O2 := own_put (cv := ldC nmC) nm_lsize O1 i hi xj
  rw [List.length_set] at O2
  have hj2 : j < (h.set i xj).length := by rw [List.length_set]; exact hj
  have O3 : ((nx.X.setCells g (i * 3) (ldC nmC xj).toList).setCells g (j * 3) (ldC nmC xi).toList).ownsRow base 66 3 (.slice (some ⟨g, 0, none⟩) h.length cap) h.length (fl (ldC nmC) ((h.set i xj).set j xi)) := by
    have := own_put (cv := ldC nmC) (l := h.set i xj) nm_lsize (by rw [List.length_set]; exact O2) j hj2 xi
    rw [List.length_set, List.length_set] at this
    exact this
  have t1 := own_there O1 i hi
  have t2 := own_there O2 j hj
  have s1 := nm_one xj
  have s2 := nm_one xi
  generalize hX1 : nx.X.setCells g (i * 3) (ldC nmC xj).toList = X1 at *
  generalize hX2 : X1.setCells g (j * 3) (ldC nmC xi).toList = X2 at *
  go_wp2_with (first
    | (refine wpList_store_mid rfl 66 _ _ rfl g (i * 3) (ldC nmC xj) rfl rfl t1 infoLdN s1 ?_; rw [hX1])
    | (refine wpList_store_mid rfl 66 _ _ rfl g (j * 3) (ldC nmC xi) rfl rfl t2 infoLdN s2 ?_; rw [hX2]))
  refine bodyPost_end (results_none rfl _ _ _) rfl ?_
  have e : swp z h i j = (h.set i xj).set j xi := HS
  rw [e]
  have oth : ∀ k, k ≠ g → X2.heap[k]? = nx.X.heap[k]? := fun k hk => by
    rw [← hX2, setCells_blk g _ _ _ k hk, ← hX1, setCells_blk g _ _ _ k hk]
  have hz : X2.heap.size = nx.X.heap.size := by rw [← hX2, setCells_size, ← hX1, setCells_size]
  refine ⟨rfl, ⟨(oth p (by omega)).trans pB, by rw [List.length_set, List.length_set]; exact O3, P.pb⟩, ?_⟩
  have a1 := setCells_os g (ldC nmC xj).toList (i * 3) nx.X
  have a2 := setCells_os g (ldC nmC xi).toList (j * 3) X1
  rw [hX1] at a1
  rw [hX2] at a2
  exact ⟨a2.1.trans (a1.1.trans nx.h.os), a2.2.1.trans (a1.2.1.trans nx.h.tape), a2.2.2.trans (a1.2.2.trans nx.h.output), by rw [hz]; exact nx.h.size, fun k h1 h2 h3 => (oth k (fun e => h3 (by rw [e]; rfl))).trans (nx.h.block k h1)⟩


end Go.Proofs.Ytoheombjbndolaa
