/- The order of names and of events, as the program asks it: Before, isBefore. -/
import Derived.Test.YthjnkcapjhelgaaWb
import Derived.Test.YthjnkcapjhelgaaOwn0
import Derived.Test.YthjnkcapjhelgaaEv0
import Derived.Test.YthjnkcapjhelgaaHpa
import Derived.Deep.MidRow
import Derived.Recover
import Derived.Defers
namespace Go.Proofs.Ythjnkcapjhelgaa
open Go.RowKit Go.BigFrame
set_option linter.unusedVariables false
set_option linter.unusedSimpArgs false

def befB (ta ia tb ib : Int) : Bool := decide (ta < tb ∨ ta = tb ∧ ia < ib)
structure Nm where
  ts : Int
  id : Int
def nmC (n : Nm) : Array Value := #[.int .i64 n.ts, .int .u64 n.id]
def nmLt (a b : Nm) : Bool := befB a.ts a.id b.ts b.id
def evLt (a b : Ev) : Bool := befB a.ts a.id b.ts b.id
theorem nmLt_swo : Swo nmLt := by
  refine ⟨fun a b h => ?_, fun a b c h => ?_⟩
  · unfold nmLt befB at *
    simp only [decide_eq_true_eq, decide_eq_false_iff_not] at *
    omega
  · unfold nmLt befB at *
    simp only [decide_eq_true_eq] at *
    omega
theorem evLt_swo : Swo evLt := by
  refine ⟨fun a b h => ?_, fun a b c h => ?_⟩
  · unfold evLt befB at *
    simp only [decide_eq_true_eq, decide_eq_false_iff_not] at *
    omega
  · unfold evLt befB at *
    simp only [decide_eq_true_eq] at *
    omega

set_option maxHeartbeats 400000 in
theorem before_any (ta ia tb ib : Int) (w : World) :
    Calls Try.prog 51 #[.agg #[.int .i64 ta, .int .u64 ia], .agg #[.int .i64 tb, .int .u64 ib]] w fun e w' => e = .returned (.bool (befB ta ia tb ib)) ∧ Below w.heap.size w w' := by
  obtain ⟨v, hv⟩ : ∃ v, befB ta ia tb ib = v := ⟨_, rfl⟩
  rw [hv]
  have HV : Hid (decide (ta < tb ∨ ta = tb ∧ ia < ib) = v) := hv
  clear hv
  go_enter Try.func51, Try.ntmps51
  go_wp2
  all_goals
    have hv : decide (ta < tb ∨ ta = tb ∧ ia < ib) = v := HV
    go_ret
    refine ⟨?_, galloc (galloc (Below.refl _ _) _) _⟩
    subst hv
    refine congrArg (fun b => Ending.returned (Value.bool b)) ?_
    first | exact (decide_eq_true (by omega)).symm | exact (decide_eq_decide.2 (by omega)) | (rw [decide_eq_false (show ¬ ta < tb by omega), decide_eq_false (by omega)])
theorem nmBefore_any (a b : Nm) (w : World) : Calls Try.prog 51 #[.agg (nmC a), .agg (nmC b)] w fun e w' => e = .returned (.bool (nmLt a b)) ∧ Below w.heap.size w w' := before_any a.ts a.id b.ts b.id w

theorem infoNm : (Try.prog.info? 80).map (·.size) = some 2 := by kernel_rfl
theorem infoEv : (Try.prog.info? 47).map (·.size) = some 11 := by kernel_rfl
theorem results_row_tmp {P : Program} {fn : Func} {p q : Tmp} {ty : TypeId} (h : fn.results = #[.cell p ty, .tmp q]) (tmps : Array Value) (w : World) (g : Nat) (t : TypeId) (cs : Array Value) (fr : Nat × Nat) (d : TypeDesc)
    (hp : tmps.getD p undef = .pointer (some ⟨g, 0, none⟩)) (hg : w.heap[g]? = some (.cells cs t fr))
    (hu : P.underlying ty = some d) (hd : (match d with | .struct _ | .array _ _ => true | _ => false) = true) (hi : (P.info? ty).map (·.size) = some cs.size) :
    (results fn tmps).run P w = .ok (.tuple #[.agg cs, tmps.getD q undef]) w := by
  have hp' : tmps[p]?.getD undef = .pointer (some ⟨g, 0, none⟩) := by simpa using hp
  simp [results, h, hp', asAddr, run_loadVar_row w g t ty cs fr d hg hu hd hi]
set_option maxHeartbeats 400000 in
theorem evName_any (x : Ev) (w : World) :
    Calls Try.prog 31 #[.agg (evC x)] w fun e w' => e = .returned (.agg #[.int .i64 x.ts, .int .u64 x.id]) ∧ Below w.heap.size w w' := by
  have B := galloc (galloc (Below.refl w.heap.size w) (.cells (evC x) 47)) (.cells #[.int .i64 x.ts, .int .u64 x.id] 80)
  have hb : ((w.alloc (.cells (evC x) 47)).alloc (.cells #[.int .i64 x.ts, .int .u64 x.id] 80)).heap[w.heap.size + 1]? = some (.cells #[.int .i64 x.ts, .int .u64 x.id] 80 (0, 0)) := by
    have := heap_alloc_new (w.alloc (.cells (evC x) 47)) (.cells #[.int .i64 x.ts, .int .u64 x.id] 80)
    simpa using this
  have HB : Hid _ := hb
  have HG : Hid _ := B
  clear hb B
  unfold evC at *
  go_enter Try.func31, Try.ntmps31
  go_wp2
  exact bodyPost_ret (results_cell_row rfl _ _ (w.heap.size + 1) 80 #[.int .i64 x.ts, .int .u64 x.id] (0, 0) _ rfl HB Try.underlying80 rfl infoNm) rfl ⟨rfl, HG⟩
/-- In a region that only reads: a variable of several cells that is loaded whole. -/
theorem wpQuiet_load_mid {P : Program} {ops : Array Oper} {C : World → Prop} {Q : Act → Prop} {op : Oper} {rest : List Oper} {a : Act} (hw : Region.wanted op (yielded ops a.tmps) = true) (ty : TypeId) (x : Operand) (ho : op.op = .load ty x)
    (b o : Nat) (hx : a.eval x = .pointer (some ⟨b, o, none⟩)) (cs : Array Value) (d : TypeDesc) (hg : ∀ w, C w → w.rangeAt b o cs.toList)
    (hu : P.underlying ty = some d) (hd : d.isRow = true) (hi : (P.info? ty).map (·.size) = some cs.size)
    (a' : Act) (ha : a.put op.dst (.agg cs) = a') (h : wpQuiet P ops C Q rest a') : wpQuiet P ops C Q (op :: rest) a := by
  subst ha
  refine wpQuiet_want hw fun K hK => ⟨.agg cs, fun w hC => ?_, hK _ h⟩
  unfold Oper.quietAt execOp
  have := run_loadVar_mid (P := P) w b o ty cs.toList d (hg w hC) hu hd (by rw [hi]; simp)
  simp only [ho, hx, Instr.loadAt, Instr.sureAddr, Sem.run_bind, Sem.run_pure, Result.andThen_ok, this]
  exact ⟨rfl, rfl⟩
theorem Bk.range {w : World} {b : Nat} {cs : Array Value} {t : TypeId} (h : Bk w b cs t) : w.rangeAt b 0 cs.toList := fun j v hv => by
  rw [Nat.zero_add, cell_of_row w b j _ _ _ h]
  simpa using hv
theorem rangeAt_keep {w u : World} {b o : Nat} {cs : List Value} (h : w.rangeAt b o cs) (G : Below w.heap.size w u) : u.rangeAt b o cs := fun j v hv => by
  have := h j v hv
  exact (G.cell (p := ⟨_, _, none⟩) (lt_of_cell this)).trans this
set_option maxHeartbeats 1000000 in
theorem evBefore_any (x y : Ev) (w : World) :
    Calls Try.prog 45 #[.agg (evC x), .agg (evC y)] w fun e w' => e = .returned (.bool (evLt x y)) ∧ Below w.heap.size w w' := by
  obtain ⟨v, hv⟩ : ∃ v, befB x.ts x.id y.ts y.id = v := ⟨_, rfl⟩
  have c3 := fun u : World => before_any x.ts x.id y.ts y.id u
  unfold evLt
  rw [hv]
  rw [hv] at c3
  clear hv
  have B := galloc (galloc (Below.refl w.heap.size w) (.cells (evC x) 47)) (.cells (evC y) 47)
  have b1 := (Bk.new w (evC x) 47).alloc (.cells (evC y) 47)
  have b2 := Bk.newE (w := w.alloc (.cells (evC x) 47)) (g := w.heap.size + 1) (by simp) (evC y) 47
  go_enter Try.func45, Try.ntmps45
  go_upto_region 1 with fail
  generalize (w.alloc _).alloc _ = V at *
  have c1 : ∀ z : Ext V, Calls Try.prog 31 #[.agg (evC x)] z.X (fun e w'' => e = .returned (.agg #[.int .i64 x.ts, .int .u64 x.id]) ∧ ∃ m : Ext V, w'' = m.X) := fun z => ext_of (evName_any x z.X)
  have c2 : ∀ z : Ext V, Calls Try.prog 31 #[.agg (evC y)] z.X (fun e w'' => e = .returned (.agg #[.int .i64 y.ts, .int .u64 y.id]) ∧ ∃ m : Ext V, w'' = m.X) := fun z => ext_of (evName_any y z.X)
  have c4 : ∀ z : Ext V, Calls Try.prog 51 #[.agg #[.int .i64 x.ts, .int .u64 x.id], .agg #[.int .i64 y.ts, .int .u64 y.id]] z.X (fun e w'' => e = .returned (.bool v) ∧ ∃ m : Ext V, w'' = m.X) := fun z => ext_of (c3 z.X)
  have hne : Nonempty (Ext V) := ⟨⟨_, Below.refl _ _⟩⟩
  refine wp_region_ext (by kernel_rfl) (by kernel_rfl) ?_
  repeat (first
    | (refine wpQuiet_load_mid rfl 47 (.tmp 2) rfl _ 0 rfl (evC x) _ (fun X hX => by obtain ⟨nx, rfl⟩ := hX; exact (b1.keep nx.h).range) Try.underlying47 rfl infoEv _ rfl ?_; simp only [Act.put, List.setIfInBounds_toArray, List.set_cons_succ, List.set_cons_zero])
    | (refine wpQuiet_load_mid rfl 47 (.tmp 3) rfl _ 0 rfl (evC y) _ (fun X hX => by obtain ⟨nx, rfl⟩ := hX; exact (b2.keep nx.h).range) Try.underlying47 rfl infoEv _ rfl ?_; simp only [Act.put, List.setIfInBounds_toArray, List.set_cons_succ, List.set_cons_zero])
    | go_big_quiet_step (first | (go_at_call 31; with_reducible exact c1 _) | (go_at_call 31; with_reducible exact c2 _) | (go_at_call 51; with_reducible exact c4 _)))
  refine wpQuiet_nil ?_
  intro _ hw'
  obtain ⟨nx, hw''⟩ := hw'
  subst hw''
  go_wp2
  go_ret
  exact ⟨rfl, gtrans B nx.h⟩

end Go.Proofs.Ythjnkcapjhelgaa
