/- The compiler in memory: write. And what goes with it: 6 texts in one. -/
import Derived.Test.YtnmppmmanigpcaaDoorJa12
import Derived.BigQuiet
import Derived.Deep.MidRow
import Derived.Deep.RegionHeld3
import Derived.Deep.AppendLies
namespace Go.Proofs.YtnmppmmanigpcaaDoor
open Go.RowKit Go.BigFrame
set_option linter.unusedVariables false
set_option linter.unusedSimpArgs false

/-- Of what was there only blocks of S have turned. -/
structure FrC (S : Nat → Prop) (w u : World) : Prop where
  os : u.os = w.os
  tape : u.tape = w.tape
  output : u.output = w.output
  size : w.heap.size ≤ u.heap.size
  blk : ∀ k, k < w.heap.size → ¬ S k → u.heap[k]? = w.heap[k]?
section
variable {S S' : Nat → Prop} {w u x : World}
theorem FrC.of (h : Below w.heap.size w u) : FrC S w u := ⟨h.os, h.tape, h.output, h.size, fun k hk _ => h.block k hk⟩
theorem FrC.trans (h : FrC S w u) (k : FrC S' u x) (hs : ∀ j, S' j → S j ∨ w.heap.size ≤ j) : FrC S w x :=
  ⟨k.os.trans h.os, k.tape.trans h.tape, k.output.trans h.output, Nat.le_trans h.size k.size, fun j h1 h2 => (k.blk j (Nat.lt_of_lt_of_le h1 h.size) (fun e => by
    rcases hs j e with e' | e'
    · exact h2 e'
    · omega)).trans (h.blk j h1 h2)⟩
theorem FrC.first (k : Below w.heap.size w u) (h : FrC S u x) : FrC S w x := (FrC.of (S := S) k).trans h fun j e => .inl e
theorem FrC.below (h : FrC S w u) (k : Below u.heap.size u x) : FrC S w x := h.trans (S' := S) (FrC.of k) fun j e => .inl e
theorem FrC.toBelow {N : Nat} {w0 : World} (F : FrC S w u) (B : Below N w0 w) (hN : N ≤ w0.heap.size) (hS : ∀ j, S j → N ≤ j) : Below N w0 u :=
  ⟨F.os.trans B.os, F.tape.trans B.tape, F.output.trans B.output, Nat.le_trans B.size F.size, fun k hk => (F.blk k (Nat.lt_of_lt_of_le hk (Nat.le_trans hN B.size)) (fun e => by have := hS k e; omega)).trans (B.block k hk)⟩
end
/-- What a compiler has made so far. -/
structure Cst where
  code : List Ins
  cols : List (ByteArray × List Int)
  opn : List Nat
/-- The number of a name's column among the first k. -/
def colN (l : List ByteArray) : Nat → ByteArray → Option Int
  | 0, _ => none
  | k + 1, s => if s = l.getD k eS then some (k : Int) else colN l k s
def colF (l : List ByteArray) : ByteArray → Option Int := colN l l.length
theorem colN_app (l m : List ByteArray) : ∀ k, k ≤ l.length → ∀ s, colN (l ++ m) k s = colN l k s
  | 0, _, _ => rfl
  | k + 1, h, s => by
    unfold colN
    rw [colN_app l m k (by omega) s, List.getD_eq_getElem?_getD, List.getElem?_append_left (by omega), ← List.getD_eq_getElem?_getD]
theorem colF_snoc (l : List ByteArray) (x s : ByteArray) : colF (l ++ [x]) s = if s = x then some (l.length : Int) else colF l s := by
  unfold colF
  rw [List.length_append, List.length_singleton]
  show (if s = (l ++ [x]).getD l.length eS then some (l.length : Int) else colN (l ++ [x]) l.length s) = _
  rw [colN_app l [x] l.length (Nat.le_refl _), List.getD_eq_getElem?_getD, List.getElem?_append_right (Nat.le_refl _), Nat.sub_self]
  rfl
def opnV (l : List Nat) : List Int := l.map fun n : Nat => (n : Int)
/-- A map of just n entries that the call has made. -/
structure MpX (w : World) (b n : Nat) (M : ByteArray → Option Int) : Prop where
  ex : ∃ D : DataW Unit, w.ownsMap Tryd.prog 9 (plainElem Tryd.prog 3) b n D ∧ (∀ s : ByteArray, s.size ≤ 140737488351232 → Maps.has D (.string s.data.toList) = (M s).isSome ∧ D.atKey (.string s.data.toList) (.lit (.int .i64 0)) = .lit (.int .i64 ((M s).getD 0))) ∧ Maps.size D = n
theorem MpX.at {w : World} {b n : Nat} {M : ByteArray → Option Int} (h : MpX w b n M) : MpAt w b n M := by
  obtain ⟨D, h1, h2, _⟩ := h.ex
  exact ⟨D, h1, h2⟩
theorem MpX.lt {w : World} {b n : Nat} {M : ByteArray → Option Int} (h : MpX w b n M) : b < w.heap.size := h.at.lt
theorem MpX.of_block {w u : World} {b n : Nat} {M : ByteArray → Option Int} (h : MpX w b n M) (e : u.heap[b]? = w.heap[b]?) : MpX u b n M := by
  obtain ⟨D, ⟨es, clock, hb, r⟩, h2⟩ := h.ex
  exact ⟨D, ⟨es, clock, e.trans hb, r⟩, h2⟩
theorem MpX.keep {w u : World} {b n : Nat} {M : ByteArray → Option Int} (h : MpX w b n M) (G : Below w.heap.size w u) : MpX u b n M := h.of_block (G.block b h.lt)
theorem MpX.new (w : World) : MpX (w.alloc (.map #[] 0)) w.heap.size 0 (fun _ => none) :=
  ⟨.map [], World.ownsMap_made w _ _ _, fun s hs => ⟨rfl, rfl⟩, rfl⟩
theorem MpX.notCells {w : World} {b n : Nat} {M : ByteArray → Option Int} (h : MpX w b n M) {cs : Array Value} {t : TypeId} {f : Nat × Nat} : w.heap[b]? ≠ some (Obj.cells cs t f) := fun e => by
  obtain ⟨D, ⟨es, clock, hm, _⟩, _⟩ := h.ex
  rw [hm] at e
  simp at e
/-- Behind a store under a new key. -/
theorem MpX.put {w' : World} {b n : Nat} {M : ByteArray → Option Int} {D : DataW Unit} {w : World} (h0 : w.ownsMap Tryd.prog 9 (plainElem Tryd.prog 3) b n D) (h2 : ∀ s : ByteArray, s.size ≤ 140737488351232 → Maps.has D (.string s.data.toList) = (M s).isSome ∧ D.atKey (.string s.data.toList) (.lit (.int .i64 0)) = .lit (.int .i64 ((M s).getD 0)))
    (hz : Maps.size D = n) (s : ByteArray) (hs : s.size ≤ 140737488351232) (hno : M s = none) (i : Int) (h : w'.ownsMap Tryd.prog 9 (plainElem Tryd.prog 3) b (n + 1) (D.put (.string s.data.toList) (.lit (.int .i64 i)))) : MpX w' b (n + 1) (fun x => if x = s then some i else M x) := by
  obtain ⟨D', e1, e2⟩ := (MpAt.put h0 h2 s i h).ex
  refine ⟨_, h, ?_, ?_⟩
  · intro x hx
    have hm := h0.isMap
    by_cases e : x = s
    · subst e
      rw [if_pos rfl]
      exact ⟨Maps.has_put_same hm (show WideAt.IsKeyLit (.string _) from trivial) _, Maps.atKey_put_same hm (show WideAt.IsKeyLit (.string _) from trivial) _ _⟩
    · have hne : (Lit.string x.data.toList) ≠ (Lit.string s.data.toList) := fun h => e (by
        cases x; cases s
        simp only [Lit.string.injEq] at h
        congr 1
        exact Array.toList_inj.1 h)
      rw [if_neg e]
      obtain ⟨q1, q2⟩ := h2 x hx
      exact ⟨by rw [Maps.has_put_other hne]; exact q1, by rw [Maps.atKey_put_other hne]; exact q2⟩
  · rw [Maps.size_put (h0.tidy (Maps.string_keyed Tryd.underlying9)), (h2 s hs).1, hno, hz]
    rfl
/-- A compiler in memory. -/
structure CmpI (w : World) (p bm base : Nat) (vt vi vc vl vo : Value) (ws : List Value) (s : Cst) : Prop where
  blk : Bk w p #[vt, vi, .map (some bm), vc, vl, vo] 71
  code : w.ownsRow base 74 5 vc s.code.length (fl insC s.code)
  cols : ONst w base 60 3 1 intC vl (s.cols.map Prod.snd) ws
  opn : w.ownsRow base 3 1 vo s.opn.length (fl intC (opnV s.opn))
  map : MpX w bm s.cols.length (colF (s.cols.map Prod.fst))
  far : ∀ (q j : Nat) (x : Value), vo.ownBlock = some q → ws[j]? = some x → x.ownBlock ≠ some q
  bs : base ≤ w.heap.size
  bp : base ≤ p
  bb : base ≤ bm
def fotC (p bm : Nat) (vc vl vo : Value) (k : Nat) : Prop := k = p ∨ k = bm ∨ vc.ownBlock = some k ∨ vl.ownBlock = some k ∨ vo.ownBlock = some k
/-- A compiler at p that has made s; S: its blocks. -/
def Cmp (w : World) (p base : Nat) (S : Nat → Prop) (vt vi : Value) (s : Cst) : Prop := ∃ bm vc vl vo ws, S = fotC p bm vc vl vo ∧ CmpI w p bm base vt vi vc vl vo ws s
/-- One step of it. -/
def CStp (p base : Nat) (S : Nat → Prop) (vt vi : Value) (w u : World) (s : Cst) : Prop := ∃ S', Cmp u p base S' vt vi s ∧ FrC S w u ∧ ∀ k, S' k → S k ∨ w.heap.size ≤ k
theorem CmpI.keep {w u : World} {p bm base : Nat} {vt vi vc vl vo : Value} {ws : List Value} {s : Cst} (h : CmpI w p bm base vt vi vc vl vo ws s) (G : Below w.heap.size w u) : CmpI u p bm base vt vi vc vl vo ws s := ⟨h.blk.keep G, own_keep h.code G, h.cols.keep G, own_keep h.opn G, h.map.keep G, h.far, Nat.le_trans h.bs G.size, h.bp, h.bb⟩
theorem Cmp.keep {w u : World} {p base : Nat} {S : Nat → Prop} {vt vi : Value} {s : Cst} (h : Cmp w p base S vt vi s) (G : Below w.heap.size w u) : Cmp u p base S vt vi s := by
  obtain ⟨bm, vc, vl, vo, ws, e, h⟩ := h
  exact ⟨bm, vc, vl, vo, ws, e, h.keep G⟩
theorem Cmp.lo {w : World} {p base : Nat} {S : Nat → Prop} {vt vi : Value} {s : Cst} (h : Cmp w p base S vt vi s) : ∀ k, S k → base ≤ k := by
  obtain ⟨bm, vc, vl, vo, ws, rfl, h⟩ := h
  rintro k (rfl | rfl | e | e | e)
  · exact h.bp
  · exact h.bb
  · exact (World.ownsRow.lt h.code k e).1
  · exact (World.ownsRow.lt h.cols.own k e).1
  · exact (World.ownsRow.lt h.opn k e).1
theorem infoIn : (Tryd.prog.info? 74).map (·.size) = some 5 := by kernel_rfl
theorem nfIn : (Tryd.prog.info? 74).map (fun i => (i.zero, i.size, i.bytes)) = some (some (.agg (insC noIn)), 5, 40) := by kernel_rfl
theorem bldIn (x : Ins) (w : World) : (Instr.buildSlice 37 1 #[(0, .agg (insC x))]).run Tryd.prog w = .ok (.slice (some ⟨w.heap.size, 0, none⟩) 1 1) (w.alloc (.cells (insC x) 74)) := by kernel_rfl
theorem in_ones (x : Ins) : ∀ u ∈ (insC x).toList, u.oneCell' = true := fun u hu => by
  simp [insC] at hu
  rcases hu with rfl | rfl | rfl | rfl | rfl <;> rfl
theorem bldS_run {P : Program} {o : Oper} {a : Act} {w w' : World} {v : Value} {T : TypeId} {x : Operand} {vx : Value} (h : (Instr.buildSlice T 1 #[(0, vx)]).run P w = .ok v w') (ho : o.op = .buildSlice T 1 #[(0, x)] := by rfl) (hx : a.eval x = vx := by rfl) : (execOp a.eval o).run P w = .ok (.value v) w' := by
  unfold execOp
  simp only [ho, List.map_toArray, List.map_cons, List.map_nil, hx, Sem.run_bind, h, Result.andThen_ok, Sem.run_pure]
/-- Of what a compiler holds, what is of other types stays. -/
theorem CmpI.code' {w u : World} {p bm base : Nat} {vt vi vc vl vo : Value} {ws : List Value} {s : Cst} (h : CmpI w p bm base vt vi vc vl vo ws s) {g c : Nat} {C' : List Ins} (O : u.ownsRow base 74 5 (.slice (some ⟨g, 0, none⟩) C'.length c) C'.length (fl insC C')) (G : w.grownBy u vc.ownBlock) :
    CmpI (u.setCell ⟨p, 3, none⟩ (.slice (some ⟨g, 0, none⟩) C'.length c)) p bm base vt vi (.slice (some ⟨g, 0, none⟩) C'.length c) vl vo ws { s with code := C' } := by
  have pb := bk_far h.blk h.code (by decide) G
  have hp : ∀ k cur, u.heap[k]? = some (.cells cur 74 (0, 0)) ∨ u.heap[k]? = some (.cells cur 60 (0, 0)) ∨ u.heap[k]? = some (.cells cur 3 (0, 0)) → k ≠ p := fun k cur hk e => by
    subst e
    rw [show u.heap[k]? = _ from pb] at hk
    simp at hk
  have set : ∀ {e : TypeId} {sz : Nat} {v : Value} {n : Nat} {xs : List Value}, (e = 74 ∨ e = 60 ∨ e = 3) → u.ownsRow base e sz v n xs → (u.setCell ⟨p, 3, none⟩ (.slice (some ⟨g, 0, none⟩) C'.length c)).ownsRow base e sz v n xs := fun {e sz v n xs} he o => own_of_block o fun k cur _ hh => Below.heap_setCell _ _ _ k (by
    show k ≠ p
    rcases he with rfl | rfl | rfl
    · exact hp k cur (.inl hh)
    · exact hp k cur (.inr (.inl hh))
    · exact hp k cur (.inr (.inr hh)))
  refine ⟨pb.set 3 _, set (.inl rfl) O, (h.cols.map (u := u) fun e s v n xs he o => ty_far h.code o (by rcases he with rfl | rfl <;> decide) G).map fun e s v n xs he o => set (by rcases he with rfl | rfl; exact .inr (.inl rfl); exact .inr (.inr rfl)) o, set (.inr (.inr rfl)) (ty_far h.code h.opn (by decide) G), ?_, h.far, ?_, h.bp, h.bb⟩
  · refine h.map.of_block ((Below.heap_setCell _ _ _ bm ?_).trans (G.block bm h.map.lt ?_))
    · show bm ≠ p
      intro e
      have hb := h.blk
      obtain ⟨D, ⟨es, clock, hm, _⟩, _⟩ := h.map.ex
      unfold Bk at hb
      rw [← e, hm] at hb
      simp at hb
    · intro e
      obtain ⟨D, ⟨es, clock, hm, _⟩, _⟩ := h.map.ex
      rcases h.code.2 with ⟨e2, _⟩ | ⟨g1, c1, cur1, e2, _, hh1, _⟩
      · rw [e2] at e; cases e
      · rw [e2] at e
        have : bm = g1 := by simpa [Value.ownBlock] using e
        rw [this, hh1] at hm
        simp at hm
  · have : (u.setCell ⟨p, 3, none⟩ (.slice (some ⟨g, 0, none⟩) C'.length c)).heap.size = u.heap.size := by simp
    rw [this]
    exact Nat.le_trans h.bs G.size

end Go.Proofs.YtnmppmmanigpcaaDoor
namespace Go.Proofs.YtnmppmmanigpcaaDoor
open Go.RowKit Go.BigFrame
set_option linter.unusedVariables false
set_option linter.unusedSimpArgs false

/-- In a region that only reads: a variable of several cells that is loaded whole. -/
theorem wpQuiet_load_mid {P : Program} {ops : Array Oper} {C : World → Prop} {Q : Act → Prop} {op : Oper} {rest : List Oper} {a : Act} (hw : Region.wanted op (yielded ops a.tmps) = true) (ty : TypeId) (x : Operand) (ho : op.op = .load ty x)
    (b o : Nat) (hx : a.eval x = .pointer (some ⟨b, o, none⟩)) (cs : Array Value) (d : TypeDesc) (hg : ∀ w, C w → w.rangeAt b o cs.toList)
    (hu : P.underlying ty = some d) (hd : d.isRow = true) (hi : (P.info? ty).map (·.size) = some cs.size)
    (a' : Act) (ha : a.put op.dst (.agg cs) = a') (h : wpQuiet P ops C Q rest a') : wpQuiet P ops C Q (op :: rest) a := by
  subst ha
  refine wpQuiet_want hw fun K hK => ⟨.agg cs, fun w hC => ?_, hK _ h⟩
  unfold Oper.quietAt execOp
  have := run_loadVar_mid (P := P) w b o ty cs.toList d (hg w hC) hu hd (by rw [hi]; simp)
  simp only [ho, hx, Instr.loadAt, Instr.sureAddr, Sem.run_bind, Sem.run_pure, Result.andThen_ok, this]
  exact ⟨rfl, rfl⟩
theorem Bk.range {w : World} {b : Nat} {cs : Array Value} {t : TypeId} (h : Bk w b cs t) : w.rangeAt b 0 cs.toList := fun j v hv => by
  rw [Nat.zero_add, cell_of_row w b j _ _ _ h]
  simpa using hv
theorem rangeAt_keep {w u : World} {b o : Nat} {cs : List Value} (h : w.rangeAt b o cs) (G : Below w.heap.size w u) : u.rangeAt b o cs := fun j v hv => by
  have := h j v hv
  exact (G.cell (p := ⟨_, _, none⟩) (lt_of_cell this)).trans this

end Go.Proofs.YtnmppmmanigpcaaDoor
namespace Go.Proofs.YtnmppmmanigpcaaDoor
open Go.RowKit Go.BigFrame
set_option linter.unusedVariables false
set_option linter.unusedSimpArgs false

set_option maxRecDepth 100000 in
set_option maxHeartbeats 2000000 in
theorem write_any (p base : Nat) (S : Nat → Prop) (vt vi : Value) (s : Cst) (x : Ins) (w : World) (C : Cmp w p base S vt vi s) (hl : s.code.length * 40 ≤ 175921860444160) :
    Calls Tryd.prog 81 #[.pointer (some ⟨p, 0, none⟩), .agg (insC x)] w fun e w' => e = .returned (.tuple #[]) ∧ CStp p base S vt vi w w' { s with code := s.code ++ [x] } := by
  obtain ⟨bm, vc, vl, vo, ws, rfl, I⟩ := C
  obtain ⟨ao, cap, rfl, hcap, hmx, _⟩ := own_form I.code
  have B := galloc (Below.refl w.heap.size w) (.cells (insC x) 74)
  have b1 := Bk.new w (insC x) 74
  go_enter Tryd.func81, Tryd.ntmps81
  go_upto_region 1 with fail
  generalize w.alloc _ = V at *
  have r1 := b1.range
  have IV := I.keep B
  obtain ⟨d0, d1, d2, d3, d4, d5⟩ := IV.blk.at6
  have p3 := fun z : Ext V => (z.cell _ _ IV.blk.lt).trans d3
  have hne0 : Nonempty (Ext V) := ⟨⟨_, Below.refl _ _⟩⟩
  refine wp_region_ext_new 8 0 7 (by omega) (by omega) (.pointer (some ⟨p, 0, none⟩)) _ _ _ rfl rfl rfl rfl rfl rfl (by kernel_rfl) (by kernel_rfl) (fun c a d v w h => by cases d <;> exact h) ?_
  simp only [List.take_succ_cons, List.take_zero, List.drop_succ_cons, List.drop_zero, List.eraseIdx_cons_succ, List.eraseIdx_cons_zero, Act.put, List.setIfInBounds_toArray, List.set_cons_succ, List.set_cons_zero]
  repeat (first
    | (refine wpQuiet_load_mid rfl 74 _ rfl w.heap.size 0 rfl (insC x) _ (fun X hX => by obtain ⟨nx, rfl⟩ := hX; exact rangeAt_keep r1 nx.h) Tryd.underlying74 rfl infoIn _ rfl ?_; simp only [Act.put, List.setIfInBounds_toArray, List.set_cons_succ, List.set_cons_zero])
    | go_big_quiet_step (fail))
  refine wpQuiet_nil ?_
  intro X hX
  obtain ⟨nx, rfl⟩ := hX
  refine ⟨.slice (some ⟨nx.X.heap.size, 0, none⟩) 1 1, nx.X.alloc (.cells (insC x) 74), bldS_run (bldIn x nx.X), ⟨⟨_, galloc nx.h _⟩, rfl⟩, ?_⟩
  have G1 := galloc nx.h (.cells (insC x) 74)
  have bn := Bk.new nx.X (insC x) 74
  have hz : nx.X.heap.size ≤ (nx.X.alloc (.cells (insC x) 74)).heap.size := by simp
  generalize nx.X.alloc (.cells (insC x) 74) = Y at *
  generalize nx.X.heap.size = gy at *
  simp only [List.setIfInBounds_toArray, List.set_cons_succ, List.set_cons_zero]
  have G2 := gtrans B G1
  have IY := I.keep G2
  have hnews := World.news_of_block bn
  have hr1 : s.code.length + 1 ≤ 9223372036854775807 := by omega
  have hr2 : ((s.code.length + 1) + (s.code.length + 1) / 4 + 192) * 40 ≤ 281474976710656 := by omega
  have key : ∀ (g c3 : Nat) (w6 : World), w6.ownsRow base 74 5 (.slice (some ⟨g, 0, none⟩) (s.code.length + 1) c3) (s.code.length + 1) (fl insC s.code ++ (insC x).toList) → Y.grownBy w6 (Value.slice ao s.code.length cap).ownBlock → ((Value.slice ao s.code.length cap).ownBlock = some g ∨ g = Y.heap.size) →
      Bk w6 p #[vt, vi, .map (some bm), .slice ao s.code.length cap, vl, vo] 71 ∧ CStp p base (fotC p bm (.slice ao s.code.length cap) vl vo) vt vi w (w6.setCell ⟨p, 3, none⟩ (.slice (some ⟨g, 0, none⟩) (s.code.length + 1) c3)) { s with code := s.code ++ [x] } := by
    intro g c3 w6 O6 G6 hg
    have e1 : fl insC s.code ++ (insC x).toList = fl insC (s.code ++ [x]) := by rw [fl_app]; simp [fl]
    have e2 : (s.code ++ [x]).length = s.code.length + 1 := by simp
    rw [e1, ← e2] at O6
    rw [← e2]
    have p6 := bk_far IY.blk IY.code (by decide) G6
    refine ⟨p6, fotC p bm (.slice (some ⟨g, 0, none⟩) (s.code ++ [x]).length c3) vl vo, ⟨bm, _, vl, vo, ws, rfl, IY.code' O6 G6⟩, ?_, ?_⟩
    · refine ⟨G6.os.trans G2.os, G6.tape.trans G2.tape, G6.output.trans G2.output, ?_, fun k h1 h2 => ?_⟩
      · have : (w6.setCell ⟨p, 3, none⟩ (.slice (some ⟨g, 0, none⟩) (s.code ++ [x]).length c3)).heap.size = w6.heap.size := by simp
        rw [this]
        exact Nat.le_trans G2.size G6.size
      · refine (Below.heap_setCell _ _ _ k (fun e => h2 (.inl e))).trans ((G6.block k (Nat.lt_of_lt_of_le h1 G2.size) (fun e => h2 (.inr (.inr (.inl e.symm))))).trans (G2.block k h1))
    · rintro k (h | h | h | h | h)
      · exact .inl (.inl h)
      · exact .inl (.inr (.inl h))
      · have e' : g = k := by simpa [Value.ownBlock] using h
        subst e'
        rcases hg with h1 | h1
        · exact .inl (.inr (.inr (.inl h1)))
        · right; have := G2.size; omega
      · exact .inl (.inr (.inr (.inr (.inl h))))
      · exact .inl (.inr (.inr (.inr (.inr h))))
  have OY := IY.code
  have hbY := IY.bs
  clear IV I IY d0 d1 d2 d3 d4 d5 p3 hmx hcap
  go_wp2_with (first
    | (refine wpList_append_one rfl (.tmp 9) (.tmp 11) rfl Tryd.underlying37 nfIn rfl (by decide) (.slice ao s.code.length cap) base s.code.length _ rfl OY hbY ⟨gy, 0, none⟩ 1 (insC x).toList rfl rfl hnews (in_ones x) hr1 hr2 ?_; intro g c3 w6 O6 G6 hg; obtain ⟨p6, P8⟩ := key g c3 w6 O6 G6 hg; have y0 := p6.at6; have y3 := p6.free 3))
  refine bodyPost_end (results_none rfl _ _ _) rfl ⟨rfl, P8⟩

end Go.Proofs.YtnmppmmanigpcaaDoor
namespace Go.Proofs.YtnmppmmanigpcaaDoor
open Go.RowKit Go.BigFrame
set_option linter.unusedVariables false
set_option linter.unusedSimpArgs false

/-- A row of rows, row by row. -/
theorem own_of_block2 {w u : World} {base : Nat} {e : TypeId} {size : Nat} {v : Value} {n : Nat} {xs : List Value} (h : w.ownsRow base e size v n xs) (hk : ∀ g, v.ownBlock = some g → u.heap[g]? = w.heap[g]?) : u.ownsRow base e size v n xs := by
  refine ⟨h.1, ?_⟩
  rcases h.2 with h1 | ⟨g, c, cur, h1, h2, h3, h4⟩
  · exact .inl h1
  · exact .inr ⟨g, c, cur, h1, h2, (hk g (by rw [h1]; rfl)).trans h3, h4⟩
theorem ONst.map2 {β : Type} {w u : World} {b : Nat} {TS T : TypeId} {sz : Nat} {cv : β → Array Value} {v : Value} {l : List (List β)} {ws : List Value} (h : ONst w b TS T sz cv v l ws) (f0 : u.ownsRow b TS 1 v l.length ws) (f : ∀ (j : Nat) (x : Value) (n : Nat) (xs : List Value), ws[j]? = some x → w.ownsRow b T sz x n xs → u.ownsRow b T sz x n xs) : ONst u b TS T sz cv v l ws :=
  ⟨h.len, f0, fun j hj => by
    obtain ⟨a, c, h1, h2⟩ := h.inn j hj
    exact ⟨a, c, h1, f j _ _ _ h1 h2⟩, h.apart⟩
theorem nfInt1 : (Tryd.prog.info? 3).map (fun i => (i.zero, i.size, i.bytes)) = some (some (.int .i64 0), 1, 8) := by kernel_rfl
theorem bldI1 (k : Int) (w : World) : (Instr.buildSlice 60 1 #[(0, .int .i64 k)]).run Tryd.prog w = .ok (.slice (some ⟨w.heap.size, 0, none⟩) 1 1) (w.alloc (.cells (intC k) 3)) := by kernel_rfl
theorem int_ones (k : Int) : ∀ u ∈ (intC k).toList, u.oneCell' = true := fun u hu => by
  simp [intC] at hu
  subst hu
  rfl
theorem MpAt.notCells {w : World} {b n : Nat} {M : ByteArray → Option Int} (h : MpAt w b n M) {cs : Array Value} {t : TypeId} {f : Nat × Nat} : w.heap[b]? ≠ some (Obj.cells cs t f) := fun e => by
  obtain ⟨D, ⟨es, clock, hm, _⟩, _⟩ := h.ex
  rw [hm] at e
  simp at e
/-- The places of the open jumps have turned. -/
theorem CmpI.opn' {w u : World} {p bm base : Nat} {vt vi vc vl vo : Value} {ws : List Value} {s : Cst} (h : CmpI w p bm base vt vi vc vl vo ws s) {g c : Nat} {O' : List Nat} (O : u.ownsRow base 3 1 (.slice (some ⟨g, 0, none⟩) O'.length c) O'.length (fl intC (opnV O'))) (G : w.grownBy u vo.ownBlock) (hg : vo.ownBlock = some g ∨ g = w.heap.size) :
    CmpI (u.setCell ⟨p, 5, none⟩ (.slice (some ⟨g, 0, none⟩) O'.length c)) p bm base vt vi vc vl (.slice (some ⟨g, 0, none⟩) O'.length c) ws { s with opn := O' } := by
  have pb := bk_far h.blk h.opn (by decide) G
  have set : ∀ {e : TypeId} {sz : Nat} {v : Value} {n : Nat} {xs : List Value}, 71 ≠ e → u.ownsRow base e sz v n xs → (u.setCell ⟨p, 5, none⟩ (.slice (some ⟨g, 0, none⟩) O'.length c)).ownsRow base e sz v n xs := fun {e sz v n xs} he o => ty_set o pb he 5 _
  refine ⟨pb.set 5 _, set (by decide) (ty_far h.opn h.code (by decide) G), ?_, set (by decide) O, ?_, ?_, ?_, h.bp, h.bb⟩
  · refine h.cols.map2 (set (by decide) (ty_far h.opn h.cols.own (by decide) G)) fun j x n xs hj o => set (by decide) ?_
    exact own_of_block2 o fun q e => G.block q (World.ownsRow.lt o q e).2 fun e2 => h.far q j x e2.symm hj e
  · refine h.map.of_block ((Below.heap_setCell _ _ _ bm ?_).trans (G.block bm h.map.lt ?_))
    · show bm ≠ p
      intro e
      have hb := h.blk
      unfold Bk at hb
      rw [← e] at hb
      exact h.map.notCells hb
    · intro e
      rcases h.opn.2 with ⟨e2, _⟩ | ⟨g1, c1, cur1, e2, _, hh1, _⟩
      · rw [e2] at e; cases e
      · rw [e2] at e
        have : bm = g1 := by simpa [Value.ownBlock] using e
        subst this
        exact h.map.notCells hh1
  · intro q j x e hj
    have e1 : g = q := by simpa [Value.ownBlock] using e
    subst e1
    rcases hg with e2 | e2
    · exact h.far g j x e2 hj
    · intro e3
      have hjl : j < (s.cols.map Prod.snd).length := by
        have := (List.getElem?_eq_some_iff.1 hj).1
        rw [h.cols.len] at this
        exact this
      obtain ⟨a, c2, h1, h2⟩ := h.cols.inn j hjl
      rw [h1] at hj
      cases hj
      have := (World.ownsRow.lt h2 g e3).2
      omega
  · have : (u.setCell ⟨p, 5, none⟩ (.slice (some ⟨g, 0, none⟩) O'.length c)).heap.size = u.heap.size := by simp
    rw [this]
    exact Nat.le_trans h.bs G.size
set_option maxRecDepth 100000 in
set_option maxHeartbeats 2000000 in
theorem jump_any (p base : Nat) (S : Nat → Prop) (vt vi : Value) (s : Cst) (cd : Int) (w : World) (C : Cmp w p base S vt vi s) (hl : s.code.length * 40 ≤ 175921860444160) (ho : s.opn.length ≤ s.code.length) :
    Calls Tryd.prog 51 #[.pointer (some ⟨p, 0, none⟩), .int .i64 cd] w fun e w' => e = .returned (.tuple #[]) ∧ CStp p base S vt vi w w' { s with code := s.code ++ [⟨cd, 0, 0, 0, 0⟩], opn := s.opn ++ [s.code.length] } := by
  obtain ⟨bm, vc, vl, vo, ws, rfl, I⟩ := C
  obtain ⟨ac, cc, rfl, hcc, hmc, _⟩ := own_form I.code
  obtain ⟨ao, cap, rfl, hcap, hmx, _⟩ := own_form I.opn
  obtain ⟨d0, d1, d2, d3, d4, d5⟩ := I.blk.at6
  have p3 := fun z : Ext w => (z.cell _ _ I.blk.lt).trans d3
  have p5 := fun z : Ext w => (z.cell _ _ I.blk.lt).trans d5
  have hne0 : Nonempty (Ext w) := ⟨⟨_, Below.refl _ _⟩⟩
  go_enter Tryd.func51, Tryd.ntmps51
  go_upto_region 0 with fail
  refine wp_region_ext_new 12 0 11 (by omega) (by omega) (.pointer (some ⟨p, 0, none⟩)) _ _ _ rfl rfl rfl rfl rfl rfl (by kernel_rfl) (by kernel_rfl) (fun c a d v w h => by cases d <;> exact h) ?_
  simp only [List.take_succ_cons, List.take_zero, List.drop_succ_cons, List.drop_zero, List.eraseIdx_cons_succ, List.eraseIdx_cons_zero, Act.put, List.setIfInBounds_toArray, List.set_cons_succ, List.set_cons_zero]
  repeat go_big_quiet_step (fail)
  refine wpQuiet_nil ?_
  intro X hX
  obtain ⟨nx, rfl⟩ := hX
  refine ⟨.slice (some ⟨nx.X.heap.size, 0, none⟩) 1 1, nx.X.alloc (.cells (intC (s.code.length : Int)) 3), bldS_run (bldI1 (s.code.length : Int) nx.X), ⟨⟨_, galloc nx.h _⟩, rfl⟩, ?_⟩
  have G2 := galloc nx.h (.cells (intC (s.code.length : Int)) 3)
  have bn := Bk.new nx.X (intC (s.code.length : Int)) 3
  have hz : nx.X.heap.size ≤ (nx.X.alloc (.cells (intC (s.code.length : Int)) 3)).heap.size := by simp
  generalize nx.X.alloc (.cells (intC (s.code.length : Int)) 3) = Y at *
  generalize nx.X.heap.size = gy at *
  simp only [List.setIfInBounds_toArray, List.set_cons_succ, List.set_cons_zero]
  have IY := I.keep G2
  have hnews := World.news_of_block bn
  have hr1 : s.opn.length + 1 ≤ 9223372036854775807 := by omega
  have hr2 : ((s.opn.length + 1) + (s.opn.length + 1) / 4 + 192) * 8 ≤ 281474976710656 := by omega
  have key : ∀ (g c3 : Nat) (w6 : World), w6.ownsRow base 3 1 (.slice (some ⟨g, 0, none⟩) (s.opn.length + 1) c3) (s.opn.length + 1) (fl intC (opnV s.opn) ++ (intC (s.code.length : Int)).toList) → Y.grownBy w6 (Value.slice ao s.opn.length cap).ownBlock → ((Value.slice ao s.opn.length cap).ownBlock = some g ∨ g = Y.heap.size) →
      Bk w6 p #[vt, vi, .map (some bm), .slice ac s.code.length cc, vl, .slice ao s.opn.length cap] 71 ∧ CStp p base (fotC p bm (.slice ac s.code.length cc) vl (.slice ao s.opn.length cap)) vt vi w (w6.setCell ⟨p, 5, none⟩ (.slice (some ⟨g, 0, none⟩) (s.opn.length + 1) c3)) { s with opn := s.opn ++ [s.code.length] } := by
    intro g c3 w6 O6 G6 hg
    have e1 : fl intC (opnV s.opn) ++ (intC (s.code.length : Int)).toList = fl intC (opnV (s.opn ++ [s.code.length])) := by unfold opnV; rw [List.map_append, fl_app]; simp [fl]
    have e2 : (s.opn ++ [s.code.length]).length = s.opn.length + 1 := by simp
    rw [e1, ← e2] at O6
    rw [← e2]
    have p6 := bk_far IY.blk IY.opn (by decide) G6
    refine ⟨p6, fotC p bm (.slice ac s.code.length cc) vl (.slice (some ⟨g, 0, none⟩) (s.opn ++ [s.code.length]).length c3), ⟨bm, _, vl, _, ws, rfl, IY.opn' O6 G6 hg⟩, ?_, ?_⟩
    · refine ⟨G6.os.trans G2.os, G6.tape.trans G2.tape, G6.output.trans G2.output, ?_, fun k h1 h2 => ?_⟩
      · have : (w6.setCell ⟨p, 5, none⟩ (.slice (some ⟨g, 0, none⟩) (s.opn ++ [s.code.length]).length c3)).heap.size = w6.heap.size := by simp
        rw [this]
        exact Nat.le_trans G2.size G6.size
      · refine (Below.heap_setCell _ _ _ k (fun e => h2 (.inl e))).trans ((G6.block k (Nat.lt_of_lt_of_le h1 G2.size) (fun e => h2 (.inr (.inr (.inr (.inr e.symm)))))).trans (G2.block k h1))
    · rintro k (h | h | h | h | h)
      · exact .inl (.inl h)
      · exact .inl (.inr (.inl h))
      · exact .inl (.inr (.inr (.inl h)))
      · exact .inl (.inr (.inr (.inr (.inl h))))
      · have e' : g = k := by simpa [Value.ownBlock] using h
        subst e'
        rcases hg with h1 | h1
        · exact .inl (.inr (.inr (.inr (.inr h1))))
        · right; have := G2.size; omega
  have OY : Y.ownsRow base 3 1 (.slice ao s.opn.length cap) s.opn.length (fl intC (opnV s.opn)) := IY.opn
  have hbY := IY.bs
  clear I IY d0 d1 d2 d3 d4 d5 p3 p5 hmx hcap
  have hwr : ∀ (S' : Nat → Prop) (w7 : World), Cmp w7 p base S' vt vi { s with opn := s.opn ++ [s.code.length] } → Calls Tryd.prog 81 #[.pointer (some ⟨p, 0, none⟩), .agg #[.int .i64 cd, .int .i64 0, .int .i64 0, .int .i64 0, .int .i64 0]] w7 fun e w' => e = .returned (.tuple #[]) ∧ CStp p base S' vt vi w7 w' { s with code := s.code ++ [⟨cd, 0, 0, 0, 0⟩], opn := s.opn ++ [s.code.length] } := fun S' w7 C7 => write_any p base S' vt vi { s with opn := s.opn ++ [s.code.length] } ⟨cd, 0, 0, 0, 0⟩ w7 C7 hl
  go_wp2_with (first
    | (refine wpList_append_one rfl (.tmp 8) (.tmp 15) rfl Tryd.underlying60 nfInt1 rfl (by decide) (.slice ao s.opn.length cap) base s.opn.length _ rfl OY hbY ⟨gy, 0, none⟩ 1 (intC (s.code.length : Int)).toList rfl rfl hnews (int_ones _) hr1 hr2 ?_; intro g c3 w6 O6 G6 hg; obtain ⟨p6, S8, C8, F8, V8⟩ := key g c3 w6 O6 G6 hg; have y0 := p6.at6; have y5 := p6.free 5; have c9 := hwr S8 _ C8)
    | (go_at_call 81; (with_reducible refine c9.mono ?_); rintro e u9 ⟨rfl, S9, C9, F9, V9⟩))
  refine bodyPost_end (results_none rfl _ _ _) rfl ⟨rfl, S9, C9, F8.trans F9 V8, fun k h => ?_⟩
  rcases V9 k h with h1 | h1
  · exact V8 k h1
  · right; have := F8.size; omega

end Go.Proofs.YtnmppmmanigpcaaDoor
namespace Go.Proofs.YtnmppmmanigpcaaDoor
open Go.RowKit Go.BigFrame
set_option linter.unusedVariables false
set_option linter.unusedSimpArgs false

theorem CmpI.code0 {w u : World} {p bm base : Nat} {vt vi vc vl vo : Value} {ws : List Value} {s : Cst} (h : CmpI w p bm base vt vi vc vl vo ws s) {C' : List Ins} (O : u.ownsRow base 74 5 vc C'.length (fl insC C')) (G : w.grownBy u vc.ownBlock) : CmpI u p bm base vt vi vc vl vo ws { s with code := C' } := by
  refine ⟨bk_far h.blk h.code (by decide) G, O, h.cols.map fun e s v n xs he o => ty_far h.code o (by rcases he with rfl | rfl <;> decide) G, ty_far h.code h.opn (by decide) G, h.map.of_block (G.block bm h.map.lt fun e => ?_), h.far, Nat.le_trans h.bs G.size, h.bp, h.bb⟩
  rcases h.code.2 with ⟨e2, _⟩ | ⟨g1, c1, cur1, e2, _, hh1, _⟩
  · rw [e2] at e; cases e
  · rw [e2] at e
    have : bm = g1 := by simpa [Value.ownBlock] using e
    subst this
    exact h.map.notCells hh1
theorem CmpI.opn0 {w : World} {p bm base g n c : Nat} {vt vi vc vl : Value} {ws : List Value} {s : Cst} {O' : List Nat} {k : Nat} (h : CmpI w p bm base vt vi vc vl (.slice (some ⟨g, 0, none⟩) n c) ws s) (e : s.opn = O' ++ [k]) (hn : n = O'.length + 1) :
    CmpI (w.setCell ⟨p, 5, none⟩ (.slice (some ⟨g, 0, none⟩) O'.length c)) p bm base vt vi vc vl (.slice (some ⟨g, 0, none⟩) O'.length c) ws { s with opn := O' } := by
  have O := h.opn
  have hle : s.opn.length = O'.length + 1 := by rw [e]; simp
  rw [e, show (O' ++ [k]).length = O'.length + 1 by simp, hn] at O
  have e1 : fl intC (opnV (O' ++ [k])) = fl intC (opnV O') ++ (intC (k : Int)).toList := by unfold opnV; rw [List.map_append, fl_app]; simp [fl]
  rw [e1] at O
  have O4 := ownsRow_pop (by rw [fl_len intC_sz]; simp [opnV]) O
  have set : ∀ {e : TypeId} {sz : Nat} {v : Value} {n : Nat} {xs : List Value}, 71 ≠ e → w.ownsRow base e sz v n xs → (w.setCell ⟨p, 5, none⟩ (.slice (some ⟨g, 0, none⟩) O'.length c)).ownsRow base e sz v n xs := fun {e sz v n xs} he o => ty_set o h.blk he 5 _
  refine ⟨h.blk.set 5 _, set (by decide) h.code, h.cols.map fun e s v n xs he o => set (by rcases he with rfl | rfl <;> decide) o, set (by decide) O4, ?_, fun q j x e2 hj => h.far q j x e2 hj, ?_, h.bp, h.bb⟩
  · refine h.map.of_block (Below.heap_setCell _ _ _ bm ?_)
    show bm ≠ p
    intro e2
    have hb := h.blk
    unfold Bk at hb
    rw [← e2] at hb
    exact h.map.notCells hb
  · have : (w.setCell ⟨p, 5, none⟩ (.slice (some ⟨g, 0, none⟩) O'.length c)).heap.size = w.heap.size := by simp
    rw [this]
    exact h.bs
def insTo (i : Ins) (to_ : Int) : Ins := ⟨i.code, i.item, i.col, i.n, to_⟩
set_option maxRecDepth 100000 in
set_option maxHeartbeats 2000000 in
theorem land_any (p base : Nat) (S : Nat → Prop) (vt vi : Value) (s : Cst) (O' : List Nat) (k : Nat) (w : World) (C : Cmp w p base S vt vi s) (he : s.opn = O' ++ [k]) (hk : k < s.code.length) :
    Calls Tryd.prog 82 #[.pointer (some ⟨p, 0, none⟩)] w fun e w' => e = .returned (.tuple #[]) ∧ CStp p base S vt vi w w' { s with code := s.code.set k (insTo (s.code.getD k noIn) (s.code.length : Int)), opn := O' } := by
  obtain ⟨C', hC'⟩ : ∃ C', s.code.set k (insTo (s.code.getD k noIn) (s.code.length : Int)) = C' := ⟨_, rfl⟩
  rw [hC']
  have HC : Hid (s.code.set k (insTo (s.code.getD k noIn) (s.code.length : Int)) = C') := hC'
  clear hC'
  obtain ⟨bm, vc, vl, vo, ws, rfl, I⟩ := C
  have hle : s.opn.length = O'.length + 1 := by rw [he]; simp
  obtain ⟨gc, cc, rfl, hbc, hlc⟩ := World.ownsRow.form I.code (by omega)
  obtain ⟨go, co, rfl, hbo, hlo⟩ := World.ownsRow.form I.opn (by omega)
  have hcap := (own_sl I.opn).1
  obtain ⟨d0, d1, d2, d3, d4, d5⟩ := I.blk.at6
  have hko : w.cell? ⟨go, O'.length, none⟩ = some (.int .i64 (k : Int)) := by
    rw [World.ownsRow.cellAt I.opn _ (by omega)]
    have := fl_at intC_sz 0 (opnV s.opn) O'.length 0 (by simp [opnV]; omega) (by omega)
    rw [Nat.mul_one, Nat.add_zero] at this
    rw [this, he]
    unfold opnV
    rw [List.map_append, List.getD_eq_getElem?_getD, List.getElem?_append_right (by simp)]
    simp [intC]
  have HE : Hid (s.opn = O' ++ [k]) := he
  have hm2 : s.opn.length ≤ 9223372036854775807 := by
    rcases own_form I.opn with ⟨_, _, _, _, h, _⟩
    exact h
  generalize hm : s.opn.length = m at *
  have E1 : (m : Int) - 1 = (O'.length : Int) := by omega
  have HM : Hid (m = O'.length + 1) := hle
  have q1 : (O'.length : Int) < (m : Int) := by omega
  have q2 : (k : Int) < (s.code.length : Int) := by omega
  have q3 : (O'.length : Int) ≤ (co : Int) := by omega
  clear hle he
  go_enter Tryd.func82, Tryd.ntmps82
  go_upto_region 1 with fail
  have p3 := fun z : Ext w => (z.cell _ _ I.blk.lt).trans d3
  have p5 := fun z : Ext w => (z.cell _ _ I.blk.lt).trans d5
  have po := fun z : Ext w => (z.cell _ _ hlo).trans hko
  have hne0 : Nonempty (Ext w) := ⟨⟨_, Below.refl _ _⟩⟩
  refine wp_region_ext_tail 20 (by kernel_rfl) (by kernel_rfl) ?_
  simp only [List.take_succ_cons, List.take_zero, List.drop_succ_cons, List.drop_zero]
  repeat go_big_quiet_step (fail)
  refine wpQuiet_nil ?_
  intro _ hw'
  obtain ⟨nx, hw''⟩ := hw'
  subst hw''
  have IX := I.keep nx.h
  obtain ⟨O1, G1⟩ := World.ownsRow.stored IX.code (k * 5 + 4) (.int .i64 (s.code.length : Int))
  have efl : (fl insC s.code).set (k * 5 + 4) (.int .i64 (s.code.length : Int)) = fl insC (s.code.set k (insTo (s.code.getD k noIn) (s.code.length : Int))) := fl_set insC_sz noIn s.code k 4 _ _ hk (by omega) rfl
  rw [efl, HC.out] at O1
  have hln : C'.length = s.code.length := by rw [← HC.out]; exact List.length_set
  have hfz := World.ownsRow.frozenAt IX.code (k * 5 + 4)
  have hcx : nx.X.cell? ⟨gc, k * 5 + 4, none⟩ = some (.int .i64 (s.code.getD k noIn).jt) := by
    rw [World.ownsRow.cellAt IX.code _ (by omega), fl_at insC_sz noIn s.code k 4 hk (by omega)]
    rfl
  have I1 : CmpI (nx.X.setCell ⟨gc, k * 5 + 4, none⟩ (.int .i64 (s.code.length : Int))) p bm base vt vi (.slice (some ⟨gc, 0, none⟩) s.code.length cc) vl (.slice (some ⟨go, 0, none⟩) m co) ws { s with code := C' } := CmpI.code0 IX (by rw [hln]; exact O1) G1
  have I2 := CmpI.opn0 I1 HE.out HM.out
  have y5 := I1.blk.at6.2.2.2.2.2
  have yf := I1.blk.free 5
  have hgp : gc ≠ p := fun e => by
    have hb := I.blk
    obtain ⟨cs, hcs⟩ : ∃ cs, w.heap[gc]? = some (.cells cs 74 (0, 0)) := by
      rcases I.code.2 with ⟨h, _⟩ | ⟨g1, c1, cur1, h, _, hh1, _⟩
      · cases h
      · cases h; exact ⟨_, hh1⟩
    unfold Bk at hb
    rw [← e, hcs] at hb
    simp at hb
  have HI := show Hid _ from I2
  have hz := nx.h
  have hg1 := G1
  clear I I1 I2 IX O1 efl hln d0 d1 d2 d3 d4 d5 p3 p5 po hko G1
  go_wp2
  refine bodyPost_end (results_none rfl _ _ _) rfl ⟨rfl, _, ⟨bm, _, _, _, ws, rfl, HI⟩, ?_, ?_⟩
  · refine ⟨hg1.os.trans hz.os, hg1.tape.trans hz.tape, hg1.output.trans hz.output, ?_, fun q h1 h2 => ?_⟩
    · have := hz.size
      simp
      exact this
    · refine (Below.heap_setCell _ _ _ q (fun e => h2 (.inl e))).trans ((Below.heap_setCell _ _ _ q (fun e => h2 (.inr (.inr (.inl (by rw [e]; rfl)))))).trans (hz.block q h1))
  · rintro q (h | h | h | h | h)
    · exact .inl (.inl h)
    · exact .inl (.inr (.inl h))
    · exact .inl (.inr (.inr (.inl h)))
    · exact .inl (.inr (.inr (.inr (.inl h))))
    · exact .inl (.inr (.inr (.inr (.inr h))))

end Go.Proofs.YtnmppmmanigpcaaDoor
namespace Go.Proofs.YtnmppmmanigpcaaDoor
open Go.RowKit Go.BigFrame
set_option linter.unusedVariables false
set_option linter.unusedSimpArgs false

theorem getD_snoc {α : Type} (l : List α) (x z : α) (j : Nat) : (l ++ [x]).getD j z = if j < l.length then l.getD j z else if j = l.length then x else z := by
  rw [List.getD_eq_getElem?_getD, List.getD_eq_getElem?_getD]
  split
  · rename_i h; rw [List.getElem?_append_left h]
  · rename_i h
    rw [List.getElem?_append_right (by omega)]
    split
    · rename_i e; rw [e, Nat.sub_self]; rfl
    · rw [List.getElem?_eq_none (by simp; omega)]; rfl
theorem take_snoc {α : Type} (l : List α) (z : α) (k : Nat) (h : k < l.length) : l.take (k + 1) = l.take k ++ [l.getD k z] := by
  rw [List.take_add_one, List.getElem?_eq_getElem h, List.getD_eq_getElem?_getD, List.getElem?_eq_getElem h]
  rfl
theorem ONst.nil {β : Type} (w : World) (b : Nat) (TS T : TypeId) (sz : Nat) (cv : β → Array Value) : ONst w b TS T sz cv (.slice none 0 0) [] [] := ⟨rfl, World.ownsRow_nil _ _ _ _, fun j hj => absurd hj (Nat.not_lt_zero _), fun i j x y g h => by simp at h⟩
theorem ONst.snoc {β : Type} {w u : World} {b : Nat} {TS T : TypeId} {sz : Nat} {cv : β → Array Value} {v v' : Value} {l : List (List β)} {ws : List Value} (N : ONst w b TS T sz cv v l ws) (x : List β) (a : Option Addr) (c zz : Nat) (hy : u.ownsRow b T sz (.slice a x.length c) x.length (fl cv x)) (keep : ∀ (s : Nat) (v : Value) (n : Nat) (xs : List Value), w.ownsRow b T s v n xs → u.ownsRow b T s v n xs) (hap : ∀ g, (Value.slice a x.length c).ownBlock = some g → zz ≤ g) (hz : w.heap.size ≤ zz) (own' : u.ownsRow b TS 1 v' (l.length + 1) (ws ++ [.slice a x.length c])) :
    ONst u b TS T sz cv v' (l ++ [x]) (ws ++ [.slice a x.length c]) := by
  have hold : ∀ j x g, j < l.length → ws[j]? = some x → x.ownBlock = some g → g < w.heap.size := fun j x g hj hx hg => by
    obtain ⟨a', c', e, O⟩ := N.inn j hj
    rw [hx] at e
    cases e
    exact (O.lt g hg).2
  refine ⟨by simp [N.len], by simpa using own', fun j hj => ?_, fun i j y z g hi hj' hy' hz' => ?_⟩
  · rw [getD_snoc]
    by_cases e : j < l.length
    · rw [if_pos e]
      obtain ⟨a', c', e1, O⟩ := N.inn j e
      exact ⟨a', c', by rw [List.getElem?_append_left (by rw [N.len]; exact e)]; exact e1, keep _ _ _ _ O⟩
    · have e2 : j = l.length := by simp at hj; omega
      rw [if_neg e, if_pos e2]
      exact ⟨a, c, by rw [List.getElem?_append_right (by rw [N.len]; omega), e2, N.len, Nat.sub_self]; rfl, hy⟩
  · have hi2 := (List.getElem?_eq_some_iff.1 hi).1
    have hj2 := (List.getElem?_eq_some_iff.1 hj').1
    simp only [List.length_append, List.length_cons, List.length_nil, N.len] at hi2 hj2
    by_cases ei : i < l.length
    · rw [List.getElem?_append_left (by rw [N.len]; exact ei)] at hi
      by_cases ej : j < l.length
      · rw [List.getElem?_append_left (by rw [N.len]; exact ej)] at hj'
        exact N.apart i j y z g hi hj' hy' hz'
      · have : j = l.length := by omega
        rw [List.getElem?_append_right (by rw [N.len]; omega), this, N.len, Nat.sub_self] at hj'
        simp at hj'
        subst hj'
        have h1 := hold i y g ei hi hy'
        have h2 := hap g hz'
        omega
    · have ei2 : i = l.length := by omega
      by_cases ej : j < l.length
      · rw [List.getElem?_append_left (by rw [N.len]; exact ej)] at hj'
        rw [List.getElem?_append_right (by rw [N.len]; omega), ei2, N.len, Nat.sub_self] at hi
        simp at hi
        subst hi
        have h1 := hold j z g ej hj' hz'
        have h2 := hap g hy'
        omega
      · omega
theorem nf_ev : (Tryd.prog.info? 86).map (fun i => (i.zero, i.size, i.bytes)) = some (some (.agg (evC zeroE)), 11, 88) := by kernel_rfl
theorem nf_evs : (Tryd.prog.info? 80).map (fun i => (i.zero, i.size, i.bytes)) = some (some (.slice none 0 0), 1, 24) := by kernel_rfl
theorem evC_one (e : Ev) : ∀ u ∈ (evC e).toList, u.oneCell' = true := fun u hu => by simp [evC] at hu; rcases hu with rfl | rfl | rfl | rfl | rfl | rfl | rfl | rfl | rfl | rfl | rfl <;> rfl
theorem intC_one (z : Int) : ∀ u ∈ (intC z).toList, u.oneCell' = true := fun u hu => by simp [intC] at hu; rcases hu with rfl; rfl
theorem insC_one (i : Ins) : ∀ u ∈ (insC i).toList, u.oneCell' = true := fun u hu => by simp [insC] at hu; rcases hu with rfl | rfl | rfl | rfl | rfl <;> rfl
theorem one_newE2 {w : World} {g : Nat} (hg : g = w.heap.size) (x : Value) (t : TypeId) (j : Nat) (u : Value) (h : [x][j]? = some u) : (w.alloc (.cells #[x] t)).cell? ((⟨g, 0, none⟩ : Addr).add j) = some u := one_newE hg x t j u h
theorem nbk {w : World} {base : Nat} {e : TypeId} {s : Nat} {v : Value} {n : Nat} {xs : List Value} (h : w.ownsRow base e s v n xs) : v.ownBlock = none ∨ v.ownBlock ≠ some w.heap.size := by
  cases hb : v.ownBlock with
  | none => exact .inl rfl
  | some g => exact .inr (fun e => by cases e; have := (h.lt _ hb).2; omega)
structure TwR (l : List (List Ev)) (w : World) (e : Ending) (w' : World) : Prop where
  ex : ∃ v ws, e = .returned v ∧ ONst w' w.heap.size 80 86 11 evC v l ws
structure TwL (l : List (List Ev)) (w : World) (v i : Value) (wr : World) : Prop where
  ex : ∃ (k : Nat) (ws : List Value), k ≤ l.length ∧ i = .int .i64 k ∧ ONst wr w.heap.size 80 86 11 evC v (l.take k) ws ∧ Below w.heap.size w wr

end Go.Proofs.YtnmppmmanigpcaaDoor
