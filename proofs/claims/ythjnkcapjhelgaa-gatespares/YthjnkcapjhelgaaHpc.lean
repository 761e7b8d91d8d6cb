/- A pile in memory; which of two stands ahead; an exchange. -/
import Derived.Test.YthjnkcapjhelgaaRw0
import Derived.Test.YthjnkcapjhelgaaQt
import Derived.Test.YthjnkcapjhelgaaFq
import Derived.Test.YthjnkcapjhelgaaHpb2
import Derived.Test.YthjnkcapjhelgaaHpr
namespace Go.Proofs.Ythjnkcapjhelgaa
open Go.RowKit Go.BigFrame
set_option linter.unusedVariables false
set_option linter.unusedSimpArgs false

/-- A thing and its turn, as cells. -/
def ldC {β : Type} (cv : β → Array Value) (x : β × Nat) : Array Value := cv x.1 ++ #[.int .i64 (x.2 : Int)]
/-- A pile in memory: its block, its row. -/
structure Pil (TP TL : TypeId) (sz : Nat) {β : Type} (cv : β → Array Value) (w : World) (p base : Nat) (v : Value) (h : List (β × Nat)) (t : Nat) : Prop where
  blk : Bk w p #[v, .int .i64 (t : Int)] TP
  own : w.ownsRow base TL sz v h.length (fl (ldC cv) h)
  pb : ∀ g, v.ownBlock = some g → p ≠ g
/-- What has turned of a world: the pile's block and its row. -/
structure Gb (p : Nat) (v : Value) (w u : World) : Prop where
  os : u.os = w.os
  tape : u.tape = w.tape
  output : u.output = w.output
  size : w.heap.size ≤ u.heap.size
  blk : ∀ k, k < w.heap.size → k ≠ p → v.ownBlock ≠ some k → u.heap[k]? = w.heap[k]?
theorem Gb.of {p : Nat} {v : Value} {w u : World} (h : Below w.heap.size w u) : Gb p v w u := ⟨h.os, h.tape, h.output, h.size, fun k hk _ _ => h.block k hk⟩
theorem Gb.trans {p : Nat} {v v' : Value} {w u x : World} (h : Gb p v w u) (k : Gb p v' u x) (hv : ∀ g, v'.ownBlock = some g → v.ownBlock = some g ∨ w.heap.size ≤ g) : Gb p v w x :=
  ⟨k.os.trans h.os, k.tape.trans h.tape, k.output.trans h.output, Nat.le_trans h.size k.size, fun j h1 h2 h3 => (k.blk j (Nat.lt_of_lt_of_le h1 h.size) h2 (fun e => by
    rcases hv j e with e' | e'
    · exact h3 e'
    · omega)).trans (h.blk j h1 h2 h3)⟩
theorem Gb.trans' {p : Nat} {v : Value} {w u x : World} (h : Gb p v w u) (k : Gb p v u x) : Gb p v w x := h.trans k fun g e => .inl e

theorem infoLdE : (Try.prog.info? 101).map (·.size) = some 12 := by kernel_rfl
theorem ev_size (x : Ev) : (evC x).size = 11 := rfl
theorem ev_one (x : Ev × Nat) : (ldC evC x).all (·.oneCell') = true := by simp [ldC, evC, Value.oneCell']
theorem ev_lsize (x : Ev × Nat) : (ldC evC x).size = 12 := rfl
set_option maxHeartbeats 1000000 in
theorem evAhead_any (x y : Ev × Nat) (w : World) :
    Calls Try.prog 55 #[.agg (ldC evC x), .agg (ldC evC y)] w fun e w' => e = .returned (.bool (ahd evLt x y)) ∧ Below w.heap.size w w' := by
  have B := galloc (galloc (Below.refl w.heap.size w) (.cells (ldC evC x) 101)) (.cells (ldC evC y) 101)
  have b1 := (Bk.new w (ldC evC x) 101).alloc (.cells (ldC evC y) 101)
  have b2 := Bk.newE (w := w.alloc (.cells (ldC evC x) 101)) (g := w.heap.size + 1) (by simp) (ldC evC y) 101
  go_enter Try.func55, Try.ntmps55
  go_upto_region 1 with fail
  generalize (w.alloc _).alloc _ = V at *
  have t1 : V.cell? ⟨w.heap.size, 11, none⟩ = some (.int .i64 (x.2 : Int)) := cell_of_row V _ 11 _ _ _ b1
  have t2 : V.cell? ⟨w.heap.size + 1, 11, none⟩ = some (.int .i64 (y.2 : Int)) := cell_of_row V _ 11 _ _ _ b2
  have r1 : V.rangeAt w.heap.size 0 (evC x.1).toList := fun j v hv => b1.range j v (by
    have hj := (List.getElem?_eq_some_iff.1 hv).1
    unfold ldC
    rw [Array.toList_append, List.getElem?_append_left hj]
    exact hv)
  have r2 : V.rangeAt (w.heap.size + 1) 0 (evC y.1).toList := fun j v hv => b2.range j v (by
    have hj := (List.getElem?_eq_some_iff.1 hv).1
    unfold ldC
    rw [Array.toList_append, List.getElem?_append_left hj]
    exact hv)
  have c1 := evIs_any x.1 y.1 V
  have c2 := evIs_any y.1 x.1 V
  go_wp2_with (first
    | (refine wpList_load_mid rfl 47 _ rfl _ 0 rfl (evC x.1).toList _ r1 Try.underlying47 rfl infoEv ?_)
    | (refine wpList_load_mid rfl 47 _ rfl _ 0 rfl (evC y.1).toList _ r2 Try.underlying47 rfl infoEv ?_)
    | (go_at_call 59; (with_reducible refine c1.mono ?_); rintro e u ⟨rfl, g1⟩)
    | (go_at_call 59; (with_reducible refine c2.mono ?_); rintro e u ⟨rfl, g1⟩))
  all_goals
    go_ret
    refine ⟨congrArg (fun b => Ending.returned (Value.bool b)) ?_, gtrans B g1⟩
    unfold ahd
    first | rw [if_pos (by assumption)] | rw [if_neg (by omega)]
set_option maxHeartbeats 2000000 in
theorem evExchange (p base g cap i j t : Nat) (h : List (Ev × Nat)) (z : Ev × Nat) (hi : i < h.length) (hj : j < h.length) (hne : i ≠ j) (w : World) (P : Pil 97 101 12 evC w p base (.slice (some ⟨g, 0, none⟩) h.length cap) h t) (hl : h.length ≤ 9223372036854775807) :
    Calls Try.prog 56 #[.pointer (some ⟨p, 0, none⟩), .int .i64 (i : Int), .int .i64 (j : Int)] w fun e w' => e = .returned (.tuple #[]) ∧ Pil 97 101 12 evC w' p base (.slice (some ⟨g, 0, none⟩) h.length cap) (swp z h i j) t ∧ Gb p (.slice (some ⟨g, 0, none⟩) h.length cap) w w' := by
  have p0 := fun z : Ext w => (z.cell _ _ P.blk.lt).trans P.blk.at2.1
  have hne0 : Nonempty (Ext w) := ⟨⟨_, Below.refl _ _⟩⟩
  have ri := own_range (cv := ldC evC) ev_lsize z P.own i hi
  have rj := own_range (cv := ldC evC) ev_lsize z P.own j hj
  have HS : Hid (swp z h i j = (h.set i (h.getD j z)).set j (h.getD i z)) := rfl
  generalize h.getD i z = xi at *
  generalize h.getD j z = xj at *
  have q1 : (i : Int) < (h.length : Int) := by omega
  have q2 : (j : Int) < (h.length : Int) := by omega
  go_enter Try.func56, Try.ntmps56
  go_wp2
  refine wp_region_ext_float 24 9 (.int .i64 (j : Int)) _ _ rfl rfl rfl rfl (by kernel_rfl) (by kernel_rfl) (fun _ _ _ _ h => h) ?_
  simp only [List.take_succ_cons, List.take_zero, List.drop_succ_cons, List.drop_zero, List.eraseIdx_cons_succ, List.eraseIdx_cons_zero, Act.put, List.setIfInBounds_toArray, List.set_cons_succ, List.set_cons_zero]
  repeat (first
    | (refine wpQuiet_load_mid rfl 101 _ rfl g (i * 12) rfl (ldC evC xi) _ (fun X hX => by obtain ⟨nx, rfl⟩ := hX; exact rangeAt_keep ri nx.h) Try.underlying101 rfl infoLdE _ rfl ?_; simp only [Act.put, List.setIfInBounds_toArray, List.set_cons_succ, List.set_cons_zero])
    | (refine wpQuiet_load_mid rfl 101 _ rfl g (j * 12) rfl (ldC evC xj) _ (fun X hX => by obtain ⟨nx, rfl⟩ := hX; exact rangeAt_keep rj nx.h) Try.underlying101 rfl infoLdE _ rfl ?_; simp only [Act.put, List.setIfInBounds_toArray, List.set_cons_succ, List.set_cons_zero])
    | go_big_quiet_step (fail))
  refine wpQuiet_nil ?_
  intro _ hw'
  obtain ⟨nx, hw''⟩ := hw'
  subst hw''
  have O1 := own_keep P.own nx.h
  have pB := P.blk.keep nx.h
  have gp : p ≠ g := P.pb g rfl
  have O2 := own_put (cv := ldC evC) ev_lsize O1 i hi xj
  rw [List.length_set] at O2
  have hj2 : j < (h.set i xj).length := by rw [List.length_set]; exact hj
  have O3 : ((nx.X.setCells g (i * 12) (ldC evC xj).toList).setCells g (j * 12) (ldC evC xi).toList).ownsRow base 101 12 (.slice (some ⟨g, 0, none⟩) h.length cap) h.length (fl (ldC evC) ((h.set i xj).set j xi)) := by
    have := own_put (cv := ldC evC) (l := h.set i xj) ev_lsize (by rw [List.length_set]; exact O2) j hj2 xi
    rw [List.length_set, List.length_set] at this
    exact this
  have t1 := own_there O1 i hi
  have t2 := own_there O2 j hj
  have s1 := ev_one xj
  have s2 := ev_one xi
  generalize hX1 : nx.X.setCells g (i * 12) (ldC evC xj).toList = X1 at *
  generalize hX2 : X1.setCells g (j * 12) (ldC evC xi).toList = X2 at *
  go_wp2_with (first
    | (refine wpList_store_mid rfl 101 _ _ rfl g (i * 12) (ldC evC xj) rfl rfl t1 infoLdE s1 ?_; rw [hX1])
    | (refine wpList_store_mid rfl 101 _ _ rfl g (j * 12) (ldC evC xi) rfl rfl t2 infoLdE s2 ?_; rw [hX2]))
  refine bodyPost_end (results_none rfl _ _ _) rfl ?_
  have e : swp z h i j = (h.set i xj).set j xi := HS
  rw [e]
  have oth : ∀ k, k ≠ g → X2.heap[k]? = nx.X.heap[k]? := fun k hk => by
    rw [← hX2, setCells_blk g _ _ _ k hk, ← hX1, setCells_blk g _ _ _ k hk]
  have hz : X2.heap.size = nx.X.heap.size := by rw [← hX2, setCells_size, ← hX1, setCells_size]
  refine ⟨rfl, ⟨(oth p (by omega)).trans pB, by rw [List.length_set, List.length_set]; exact O3, P.pb⟩, ?_⟩
  have a1 := setCells_os g (ldC evC xj).toList (i * 12) nx.X
  have a2 := setCells_os g (ldC evC xi).toList (j * 12) X1
  rw [hX1] at a1
  rw [hX2] at a2
  exact ⟨a2.1.trans (a1.1.trans nx.h.os), a2.2.1.trans (a1.2.1.trans nx.h.tape), a2.2.2.trans (a1.2.2.trans nx.h.output), by rw [hz]; exact nx.h.size, fun k h1 h2 h3 => (oth k (fun e => h3 (by rw [e]; rfl))).trans (nx.h.block k h1)⟩

end Go.Proofs.Ythjnkcapjhelgaa
