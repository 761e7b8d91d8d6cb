/- Compile. And what goes with it: 4 texts in one. -/
import Derived.Test.YtglagbedgjkdbaaGreatDoorJb24
import Derived.OrdersHeld
import Derived.Deep.MidRow
import Derived.Deep.CutRange
namespace Go.Proofs.YtglagbedgjkdbaaGreatDoor
open Go.RowKit Go.BigFrame Go.Proofs.YtglagbedgjkdbaaGreatDoor.Ev
set_option linter.unusedVariables false
set_option linter.unusedSimpArgs false

/-- What Compile comes to. -/
def cmpS (L : List Ty) (q : Qy) (ns : List Nd) : Cst := if runB (itemF q.items q.items.length) ns = true then treK L (itemF q.items q.items.length) ns ns.length else ⟨[], [], []⟩
/-- What Compile answers: rows of its own. -/
structure CmpP (w : World) (s : Cst) (e : Ending) (w' : World) : Prop where
  ex : ∃ ai ci ac cc ws, e = .returned (.agg #[.slice ai s.code.length ci, .slice ac s.cols.length cc]) ∧ w'.ownsRow w.heap.size 100 5 (.slice ai s.code.length ci) s.code.length (fl insC s.code) ∧
    ONst w' w.heap.size 46 3 1 intC (.slice ac s.cols.length cc) (s.cols.map Prod.snd) ws ∧ Below w.heap.size w w'
theorem Bk.one1 {w : World} {b : Nat} {c0 : Value} {t : TypeId} (h : Bk w b #[c0] t) : w.cell? ⟨b, 0, none⟩ = some c0 := cell_of_row w b 0 _ _ _ h
theorem infoPg : (Tryz.prog.info? 44).map (·.size) = some 2 := by kernel_rfl
set_option maxRecDepth 100000 in
set_option maxHeartbeats 4000000 in
theorem compile_any (sa : Option Addr) (sc : Nat) (L : List Ty) (q : Qy) (hq : q.fit) (cs : Array Value) (ai : Option Addr) (ci : Nat) (aw : Option Addr) (cw : Nat) (ar : Option Addr) (cr : Nat) (ns : List Nd) (ao : Option Addr) (cap : Nat) (w : World) (K : KwAt w) (A : IsTypes w sa L.length L) (AQ : IsQ w q cs ai ci aw cw ar cr) (AN : IsNds w ao ns)
    (hf : ∀ k, (ns.getD k noNd).fit) (hr : ns.length * 64 ≤ 140737488351232) (hL : L.length * 8 ≤ 140737488351232) :
    Calls Tryz.prog 12 #[.agg #[.slice sa L.length sc], .agg cs, .slice ao ns.length cap] w fun e w' => CmpP w (cmpS L q ns) e w' := by
  have hcs := AQ.eq
  obtain ⟨r, hr0⟩ : ∃ r, cmpS L q ns = r := ⟨_, rfl⟩
  rw [hr0]
  have HR : Hid ((if runB (itemF q.items q.items.length) ns = true then treK L (itemF q.items q.items.length) ns ns.length else ⟨[], [], []⟩) = r) := hr0
  clear hr0
  have B1 := galloc (Below.refl w.heap.size w) (.cells #[.slice sa L.length sc] 24)
  have B2 := galloc B1 (.cells cs 31)
  have B3 := galloc B2 (.cells #[.slice none 0 0, .slice none 0 0] 44)
  have k1 := ((Bk.new w #[.slice sa L.length sc] 24).alloc (.cells cs 31)).alloc (.cells #[.slice none 0 0, .slice none 0 0] 44)
  have k2 := (Bk.newE (w := w.alloc (.cells #[.slice sa L.length sc] 24)) (g := w.heap.size + 1) (by simp) cs 31).alloc (.cells #[.slice none 0 0, .slice none 0 0] 44)
  have k3 := Bk.newE (w := (w.alloc (.cells #[.slice sa L.length sc] 24)).alloc (.cells cs 31)) (g := w.heap.size + 2) (by simp) #[.slice none 0 0, .slice none 0 0] 44
  subst hcs
  go_enter Tryz.func12, Tryz.ntmps12
  go_upto_region 1 with fail
  generalize ((w.alloc _).alloc _).alloc _ = V at *
  obtain ⟨q0, q1, q2, q3, q4, q5, q6⟩ := k2.at7
  have c31 := cItemsOf_any q hq _ ai ci aw cw ar cr V (AQ.keep B3)
  go_upto_region 2 with (first
    | (go_at_call 35; (with_reducible refine c31.mono ?_); rintro e X1 ⟨bi, rfl, hbi, MI, g1⟩))
  have c32 := isRunnable_any ns ao cap bi q.items.length (itemF q.items q.items.length) X1 (K.keep (gtrans B3 g1)) (AN.keep (gtrans B3 g1)) MI hr hf
  obtain ⟨rb, hrb⟩ : ∃ rb, runB (itemF q.items q.items.length) ns = rb := ⟨_, rfl⟩
  have HB : Hid (runB (itemF q.items q.items.length) ns = rb) := hrb
  rw [hrb] at c32
  clear hrb
  cases rb with
  | false =>
    have hr0 : r = ⟨[], [], []⟩ := by have := HR.out; rw [HB.out] at this; exact this.symm
    subst hr0
    go_upto_region 3 with (first
      | (go_at_call 36; (with_reducible refine c32.mono ?_); rintro e X2 ⟨rfl, g2⟩))
    have k5 := (k3.keep g1).keep g2
    have kf := k5.free
    obtain ⟨e0, e1⟩ := k5.at2
    have B5 := gtrans (gtrans B3 g1) g2
    have k6 := (k5.set 0 (.slice none 0 0)).set 1 (.slice none 0 0)
    have HK := show Hid _ from k6
    have B6 := gset (gset B5 (p := ⟨w.heap.size + 2, 0, none⟩) (show _ ≤ w.heap.size + 2 by omega) (.slice none 0 0)) (p := ⟨w.heap.size + 2, 1, none⟩) (show _ ≤ w.heap.size + 2 by omega) (.slice none 0 0)
    clear k6
    go_wp2
    refine bodyPost_ret (results_cell_row rfl _ _ (w.heap.size + 2) 44 #[.slice none 0 0, .slice none 0 0] (0, 0) _ rfl HK.out Tryz.underlying44 rfl infoPg) rfl ?_
    exact ⟨none, 0, none, 0, [], rfl, World.ownsRow_nil _ _ _ _, ONst.nil _ _ _ _ _ _, B6⟩
  | true =>
    have hr0 : r = treK L (itemF q.items q.items.length) ns ns.length := by have := HR.out; rw [HB.out] at this; exact this.symm
    subst hr0
    have htr : treeB ns = true := by
      have := HB.out
      unfold runB at this
      rw [Bool.and_eq_true] at this
      exact this.1
    go_upto_region 4 with (first
      | (go_at_call 36; (with_reducible refine c32.mono ?_); rintro e X2 ⟨rfl, g2⟩))
    have B5 := gtrans (gtrans B3 g1) g2
    have y0 := ((k1.keep g1).keep g2).one1
    -- the compiler is made
    have hmm : ∀ u : World, (Instr.makeMap 82 none).run Tryz.prog u = .ok (.map (some u.heap.size)) (u.alloc (.map #[] 0)) := fun u => run_makeMap _ u
    have AX : IsTypes X2 sa L.length L := A.keep B5
    have NX : IsNds X2 ao ns := AN.keep B5
    have MX : MpAt X2 bi q.items.length (itemF q.items q.items.length) := MI.keep g2
    have k5 := (k3.keep g1).keep g2
    have zk := k5.lt
    have MP1 := (MpX.new X2).keep (galloc (Below.refl _ _) (.cells #[.slice sa L.length sc, .map (some bi), .map (some X2.heap.size), .slice none 0 0, .slice none 0 0, .slice none 0 0] 86))
    have K1 := Bk.newE (w := X2.alloc (.map #[] 0)) (g := X2.heap.size + 1) (by simp) #[.slice sa L.length sc, .map (some bi), .map (some X2.heap.size), .slice none 0 0, .slice none 0 0, .slice none 0 0] 86
    have G3 := galloc (galloc (Below.refl X2.heap.size X2) (.map #[] 0)) (.cells #[.slice sa L.length sc, .map (some bi), .map (some X2.heap.size), .slice none 0 0, .slice none 0 0, .slice none 0 0] 86)
    go_upto_region 5 with fail
    generalize (X2.alloc (.map #[] 0)).alloc _ = Y at *
    have CI : Cmp Y (X2.heap.size + 1) X2.heap.size (fotC (X2.heap.size + 1) X2.heap.size (.slice none 0 0) (.slice none 0 0) (.slice none 0 0)) (.slice sa L.length sc) (.map (some bi)) ⟨[], [], []⟩ :=
      ⟨X2.heap.size, .slice none 0 0, .slice none 0 0, .slice none 0 0, [], rfl, ⟨K1, World.ownsRow_nil _ _ _ _, ONst.nil _ _ _ _ _ _, World.ownsRow_nil _ _ _ _, MP1, (fun _ _ _ h => by cases h), G3.size, by omega, Nat.le_refl _⟩⟩
    have ct := tree_any (X2.heap.size + 1) X2.heap.size bi q.items.length _ sa sc L (itemF q.items q.items.length) ns ao cap Y CI X2 AX MX NX (Nat.le_refl _) G3 htr hf hr hL
    have hlo := CI.lo
    have kY := k5.keep G3
    have BY := gtrans B5 G3
    obtain ⟨s, hs⟩ : ∃ s, treK L (itemF q.items q.items.length) ns ns.length = s := ⟨_, rfl⟩
    rw [hs] at ct
    have HS : Hid (treK L (itemF q.items q.items.length) ns ns.length = s) := hs
    clear hs
    go_upto_region 6 with (first
      | (go_at_call 37; (with_reducible refine ct.mono ?_); rintro e u ⟨rfl, S', C', F', V'⟩))
    have nS : ¬ fotC (X2.heap.size + 1) X2.heap.size (.slice none 0 0) (.slice none 0 0) (.slice none 0 0) (w.heap.size + 2) := fun h => by have := hlo _ h; omega
    have ku := F'.bk kY nS
    have Bu : Below w.heap.size w u := F'.toBelow BY (Nat.le_refl _) (fun j h => by have := hlo j h; have := B5.size; omega)
    obtain ⟨bm, vc, vl, vo, ws, rfl, I⟩ := C'
    obtain ⟨ac', cc', e0, _⟩ := own_form I.code
    obtain ⟨al', cl', e1, _⟩ := own_form I.cols.own
    have hml : (s.cols.map Prod.snd).length = s.cols.length := by simp
    rw [hml] at e1
    subst e0 e1
    have d3 := I.blk.at6.2.2.2.1
    have d4 := I.blk.at6.2.2.2.2.1
    have kf := ku.free
    have B6 := gset (gset Bu (p := ⟨w.heap.size + 2, 0, none⟩) (show _ ≤ w.heap.size + 2 by omega) (.slice ac' s.code.length cc')) (p := ⟨w.heap.size + 2, 1, none⟩) (show _ ≤ w.heap.size + 2 by omega) (.slice al' s.cols.length cl')
    have ku1 := ku.set 0 (.slice ac' s.code.length cc')
    have O1 := ty_set (ty_set I.code ku (by decide) 0 (.slice ac' s.code.length cc')) ku1 (by decide) 1 (.slice al' s.cols.length cl')
    have P1 := (I.cols.map (u := u.setCell ⟨w.heap.size + 2, 0, none⟩ (.slice ac' s.code.length cc')) fun e s1 v n xs he o => ty_set o ku (by rcases he with rfl | rfl <;> decide) 0 _).map (u := (u.setCell ⟨w.heap.size + 2, 0, none⟩ (.slice ac' s.code.length cc')).setCell ⟨w.heap.size + 2, 1, none⟩ (.slice al' s.cols.length cl')) fun e s1 v n xs he o => ty_set o ku1 (by rcases he with rfl | rfl <;> decide) 1 _
    have HK := show Hid _ from ku1.set 1 (.slice al' s.cols.length cl')
    have HO := show Hid _ from O1
    have HP := show Hid _ from P1
    obtain ⟨f0, f1⟩ := ku.at2
    clear O1 P1 ku1 ct
    go_wp2
    refine bodyPost_ret (results_cell_row rfl _ _ (w.heap.size + 2) 44 #[.slice ac' s.code.length cc', .slice al' s.cols.length cl'] (0, 0) _ rfl HK.out Tryz.underlying44 rfl infoPg) rfl ?_
    have hs2 := HS.out
    subst hs2
    exact ⟨ac', cc', al', cl', ws, rfl, World.ownsRow.mono HO.out B5.size, HP.out.mono B5.size, B6⟩

end Go.Proofs.YtglagbedgjkdbaaGreatDoor
namespace Go.Proofs.YtglagbedgjkdbaaGreatDoor
open Go.RowKit Go.BigFrame Go.Proofs.YtglagbedgjkdbaaGreatDoor.Ev
set_option linter.unusedVariables false
set_option linter.unusedSimpArgs false

/-- What Eval comes to. -/
def evalV (L : List Ty) (q : Qy) (E : Envr) (ns : List Nd) : V2 := if runB (itemF q.items q.items.length) ns = true then valA L (itemF q.items q.items.length) E ns (ns.length - 1) else noV2
set_option maxRecDepth 100000 in
set_option maxHeartbeats 4000000 in
theorem eval_any2 (sa : Option Addr) (sc : Nat) (L : List Ty) (q : Qy) (hq : q.fit) (cs : Array Value) (ai : Option Addr) (ci : Nat) (aw : Option Addr) (cw : Nat) (ar : Option Addr) (cr : Nat) (ns : List Nd) (ao : Option Addr) (cap : Nat) (E : Envr) (al : Option Addr) (cl : Nat) (w : World) (K : KwAt w) (T : TbA2 w) (A : IsTypes w sa L.length L) (AQ : IsQ w q cs ai ci aw cw ar cr) (AN : IsNds w ao ns) (IE : IsEnv w E al cl)
    (hf : ∀ k, (ns.getD k noNd).fit) (hr : ns.length * 64 ≤ 140737488351232) (hE : E.ok) :
    Calls Tryz.prog 16 #[.agg #[.slice sa L.length sc], .agg cs, .slice ao ns.length cap, envA al cl E] w fun e w' => e = .returned (VA (evalV L q E ns)) ∧ Below w.heap.size w w' := by
  have hcs := AQ.eq
  obtain ⟨⟨xk, xn⟩, hx⟩ : ∃ x, evalV L q E ns = x := ⟨_, rfl⟩
  rw [hx]
  have HR : Hid ((if runB (itemF q.items q.items.length) ns = true then valA L (itemF q.items q.items.length) E ns (ns.length - 1) else noV2) = (xk, xn)) := hx
  clear hx
  have B1 := galloc (Below.refl w.heap.size w) (.cells #[.slice sa L.length sc] 24)
  have B2 := galloc B1 (.cells cs 31)
  have B3 := galloc B2 (.cells #[.slice al E.lists.length cl, .int .i64 E.each, .int .i64 E.at_] 34)
  have B4 := galloc B3 (.cells #[.bool false, .int .i64 0] 51)
  have k1 := (((Bk.new w #[.slice sa L.length sc] 24).alloc (.cells cs 31)).alloc (.cells #[.slice al E.lists.length cl, .int .i64 E.each, .int .i64 E.at_] 34)).alloc (.cells #[.bool false, .int .i64 0] 51)
  have k2 := ((Bk.newE (w := w.alloc (.cells #[.slice sa L.length sc] 24)) (g := w.heap.size + 1) (by simp) cs 31).alloc (.cells #[.slice al E.lists.length cl, .int .i64 E.each, .int .i64 E.at_] 34)).alloc (.cells #[.bool false, .int .i64 0] 51)
  have k3 := (Bk.newE (w := (w.alloc (.cells #[.slice sa L.length sc] 24)).alloc (.cells cs 31)) (g := w.heap.size + 2) (by simp) #[.slice al E.lists.length cl, .int .i64 E.each, .int .i64 E.at_] 34).alloc (.cells #[.bool false, .int .i64 0] 51)
  have k4 := Bk.newE (w := ((w.alloc (.cells #[.slice sa L.length sc] 24)).alloc (.cells cs 31)).alloc (.cells #[.slice al E.lists.length cl, .int .i64 E.each, .int .i64 E.at_] 34)) (g := w.heap.size + 3) (by simp) #[.bool false, .int .i64 0] 51
  subst hcs
  go_enter Tryz.func16, Tryz.ntmps16
  go_upto_region 1 with fail
  generalize (((w.alloc _).alloc _).alloc _).alloc _ = V at *
  obtain ⟨q0, q1, q2, q3, q4, q5, q6⟩ := k2.at7
  have c31 := cItemsOf_any q hq _ ai ci aw cw ar cr V (AQ.keep B4)
  go_upto_region 2 with (first
    | (go_at_call 35; (with_reducible refine c31.mono ?_); rintro e X1 ⟨bi, rfl, hbi, MI, g1⟩))
  have c32 := isRunnable_any ns ao cap bi q.items.length (itemF q.items q.items.length) X1 (K.keep (gtrans B4 g1)) (AN.keep (gtrans B4 g1)) MI hr hf
  obtain ⟨rb, hrb⟩ : ∃ rb, runB (itemF q.items q.items.length) ns = rb := ⟨_, rfl⟩
  have HB : Hid (runB (itemF q.items q.items.length) ns = rb) := hrb
  rw [hrb] at c32
  clear hrb
  cases rb with
  | false =>
    have hx0 : noV2 = (xk, xn) := by have := HR.out; rwa [HB.out, if_neg (by decide)] at this
    obtain ⟨rfl, rfl⟩ := Prod.mk.inj hx0
    go_upto_region 3 with (first
      | (go_at_call 36; (with_reducible refine c32.mono ?_); rintro e X2 ⟨rfl, g2⟩))
    have k5 := (k4.keep g1).keep g2
    have kf := k5.free
    obtain ⟨e0, e1⟩ := k5.at2
    have B5 := gtrans (gtrans B4 g1) g2
    go_wp2
    refine bodyPost_ret (v := .agg #[.bool false, .int .i64 0]) (by simp [results, Tryz.results16, go_sem, e0, e1]) rfl ⟨rfl, ?_⟩
    first | exact B5 | exact gset (gset B5 (by simp; omega) _) (by simp; omega) _
  | true =>
    have hv : valA L (itemF q.items q.items.length) E ns (ns.length - 1) = (xk, xn) := by have := HR.out; rwa [HB.out, if_pos rfl] at this
    have htr : treeB ns = true := by
      have := HB.out
      unfold runB at this
      rw [Bool.and_eq_true] at this
      exact this.1
    go_upto_region 4 with (first
      | (go_at_call 36; (with_reducible refine c32.mono ?_); rintro e X2 ⟨rfl, g2⟩))
    have B5 := gtrans (gtrans B4 g1) g2
    have y0 := ((k1.keep g1).keep g2).one1
    obtain ⟨y1, y2, y3⟩ := ((k3.keep g1).keep g2).at3
    have k5 := (k4.keep g1).keep g2
    have zk := k5.lt
    have K1 := Bk.new X2 (evlC sa sc L bi E al cl (.slice none 0 0)) 94
    have G3 := galloc (Below.refl X2.heap.size X2) (.cells (evlC sa sc L bi E al cl (.slice none 0 0)) 94)
    go_upto_region 5 with fail
    generalize X2.alloc _ = Y at *
    have ct := treeE_any X2.heap.size bi q.items.length sa sc L (itemF q.items q.items.length) E al cl ns ao cap (.slice none 0 0) Y K1 X2 (A.keep B5) (MI.keep g2) (IE.keep B5) (AN.keep B5) (T.keep B5) (Nat.le_refl _) G3 htr hf hr hE
    rw [hv] at ct
    have kY := k5.keep G3
    have BY := gtrans B5 G3
    clear hv HR
    go_wp2_with (first
      | (go_at_call 44; (with_reducible refine ct.mono ?_); rintro e u ⟨rfl, gu⟩; have ku := k5.keep gu; obtain ⟨e0, e1⟩ := ku.at2; have kf := ku.free; have Bu := gtrans B5 gu))
    refine bodyPost_ret (v := .agg #[.bool xk, .int .i64 xn]) (by simp [results, Tryz.results16, go_sem, e0, e1]) rfl ⟨rfl, ?_⟩
    exact gset (gset Bu (by simp; omega) _) (by simp; omega) _
theorem eval_any (sa : Option Addr) (sc : Nat) (L : List Ty) (q : Qy) (hq : q.fit) (cs : Array Value) (ai : Option Addr) (ci : Nat) (aw : Option Addr) (cw : Nat) (ar : Option Addr) (cr : Nat) (ns : List Nd) (ao : Option Addr) (cap : Nat) (E : Envr) (al : Option Addr) (cl : Nat) (w : World) (K : KwAt w) (T : TbAt w) (A : IsTypes w sa L.length L) (AQ : IsQ w q cs ai ci aw cw ar cr) (AN : IsNds w ao ns) (IE : IsEnv w E al cl)
    (hf : ∀ k, (ns.getD k noNd).fit) (hr : ns.length * 64 ≤ 140737488351232) (hE : E.ok) :
    Calls Tryz.prog 16 #[.agg #[.slice sa L.length sc], .agg cs, .slice ao ns.length cap, envA al cl E] w fun e w' => e = .returned (VA (evalV L q E ns)) ∧ Below w.heap.size w w' :=
  eval_any2 sa sc L q hq cs ai ci aw cw ar cr ns ao cap E al cl w K T.two A AQ AN IE hf hr hE

end Go.Proofs.YtglagbedgjkdbaaGreatDoor
namespace Go.Proofs.YtglagbedgjkdbaaGreatDoor
open Go.RowKit
set_option linter.unusedVariables false
set_option linter.unusedSimpArgs false

/-- Operations that yield a value and call nothing. -/
def plainH : Op → Bool
  | .lookup .. | .assign _ | .pick .. | .binOp .. | .unOp .. | .extract .. | .slice .. => true
  | o => plainB o
theorem plainH_value {P : Program} {o : Oper} {ρ : Operand → Value} {w w' : World} {r : Next} (h : plainH o.op = true) (hr : (execOp ρ o).run P w = .ok r w') : ∃ v, r = .value v := by
  have key : ∀ s : Sem Value, (do let x ← s; pure (Next.value x) : Sem Next).run P w = .ok r w' → ∃ v, r = .value v := fun s h => by
    rw [Sem.run_bind] at h
    cases hs : s.run P w with
    | ok x u => rw [hs] at h; simp at h; exact ⟨x, h.1.symm⟩
    | halt x u => rw [hs] at h; simp at h
  unfold plainH at h
  split at h
  · rename_i e
    unfold execOp at hr
    rw [e] at hr
    exact key _ hr
  · rename_i e
    unfold execOp at hr
    rw [e] at hr
    simp at hr
    exact ⟨_, hr.1.symm⟩
  · rename_i e
    unfold execOp at hr
    rw [e] at hr
    obtain ⟨x, u, _, h2⟩ := run_bind_ok hr
    simp at h2
    exact ⟨_, h2.1.symm⟩
  · rename_i e
    unfold execOp at hr
    rw [e] at hr
    exact key _ hr
  · rename_i e
    unfold execOp at hr
    rw [e] at hr
    exact key _ hr
  · rename_i e
    unfold execOp at hr
    rw [e] at hr
    exact key _ hr
  · rename_i e
    unfold execOp at hr
    rw [e] at hr
    first | exact key _ hr | (simp at hr; obtain ⟨x, u, _, h2⟩ := run_bind_ok hr; simp at h2; exact ⟨_, h2.1.symm⟩)
  · exact plain_value h hr
section
variable {P : Program} {ops : Array Oper} {md : Region.Mode} {S : World → Prop} {Q : Exit → Act → World → Prop}
theorem yieldsIf_ofH {o : Oper} {v : Value} {a : Act} (h : plainH o.op = true) (hy : YieldsIn P ops S o v a) : YieldsIf P ops S o v a := by
  rcases hy with ⟨hw, hv⟩ | ⟨hw, rfl⟩
  · refine .inl ⟨hw, fun w hS => ?_⟩
    have h1 := hv w hS
    unfold Oper.quietAt at h1
    cases hr : (execOp a.eval o).run P w with
    | ok r w' =>
      obtain ⟨u, rfl⟩ := plainH_value h hr
      rw [hr] at h1
      obtain ⟨rfl, rfl⟩ := h1
      rfl
    | halt x w' => rw [hr] at h1; exact h1.elim
  · exact .inr ⟨hw, rfl⟩
def lexH (md : Region.Mode) (ops : Array Oper) : List Nat → Array Bool → Bool
  | [], _ => true
  | k :: ks, listed => (Region.ready md ops listed).contains k && Region.free md ops listed k && (match ops[k]? with | some o => plainH o.op | none => false) && lexH md ops ks (listed.setIfInBounds k true)
def setAll : List Nat → Array Bool → Array Bool
  | [], listed => listed
  | k :: ks, listed => setAll ks (listed.setIfInBounds k true)
def pickL (ops : Array Oper) (ks : List Nat) : List Oper := ks.filterMap fun k => ops[k]?
/-- What only reads is taken first. -/
theorem anyH_lex (hsel : Region.noSelect ops = true) (hQ : ∀ c (a : Act) (d : Option Tmp) (v : Value) (w : World), Q (.panic c) (a.put d v) w → Q (.panic c) a w) {g : Nat} :
    ∀ (ks : List Nat) (l : List Oper) (listed : Array Bool) (a : Act) (w : World), S w → l.map some = ks.map (fun k => ops[k]?) → lexH md ops ks listed = true →
    wpQuiet P ops S (fun a' => wpAnyH P md ops Q S g (setAll ks listed) a' w) l a → wpAnyH P md ops Q S (ks.length + g) listed a w
  | [], l, listed, a, w, hS, hl, hB, h => by
    have : l = [] := by simpa using hl
    subst this
    rw [List.length_nil, Nat.zero_add]
    exact h
  | k :: ks, [], listed, a, w, hS, hl, hB, h => by simp at hl
  | k :: ks, o :: l, listed, a, w, hS, hl, hB, h => by
    simp only [List.map_cons, List.cons.injEq] at hl
    have h0 : ops[k]? = some o := hl.1.symm
    simp only [lexH, Bool.and_eq_true, h0] at hB
    obtain ⟨⟨⟨hr, hf⟩, hp⟩, hB'⟩ := hB
    have hst : qOp P ops S k (wpQuiet P ops S (fun a' => wpAnyH P md ops Q S g (setAll ks (listed.setIfInBounds k true)) a' w) l) a := by unfold qOp; simp only [h0]; exact h
    obtain ⟨v, hy, hK⟩ := yieldsIn_of_qOp h0 hst
    rw [show (k :: ks).length + g = (ks.length + g) + 1 by simp; omega]
    exact wpAnyH_take h0 hsel hf hr (fun c a w h => hQ c a _ _ w h) (yieldsIf_ofH hp hy) hS (anyH_lex hsel hQ ks l _ _ w hS hl.2 hB' hK)
theorem anyH_pick {g : Nat} (ks : List Nat) {listed : Array Bool} {a : Act} {w : World} (hsel : Region.noSelect ops = true) (hQ : ∀ c (a : Act) (d : Option Tmp) (v : Value) (w : World), Q (.panic c) (a.put d v) w → Q (.panic c) a w) (hS : S w) (hl : (pickL ops ks).map some = ks.map (fun k => ops[k]?)) (hB : lexH md ops ks listed = true)
    (h : wpQuiet P ops S (fun a' => wpAnyH P md ops Q S g (setAll ks listed) a' w) (pickL ops ks) a) : wpAnyH P md ops Q S (ks.length + g) listed a w := anyH_lex hsel hQ ks _ _ _ _ hS hl hB h
/-- One that makes memory or writes: its own step. -/
theorem wpOp_val {b : Nat} {ob : Oper} {a : Act} {w w' : World} {K : Act → World → Prop} {v : Value} (d : Option Tmp) (hob : ops[b]? = some ob) (hd : ob.dst = d) (hgd : ob.guard = none) (hrun : (execOp a.eval ob).run P w = .ok (.value v) w') (h : K (a.put d v) w') : wpOp P ops Q b K a w := by
  subst hd
  unfold wpOp
  have hwd : Region.wanted ob (yielded ops a.tmps) = true := by simp [Region.wanted, hgd]
  simp only [hob, hwd, if_true]
  refine .inl ?_
  unfold Oper.wp
  rw [hrun, Oper.upon_value]
  exact h
theorem wpOp_skip {b : Nat} {ob : Oper} {a : Act} {w w' : World} {K : Act → World → Prop} (d : Option Tmp) (hob : ops[b]? = some ob) (hd : ob.dst = d) (hgd : ob.guard = none) (hrun : (execOp a.eval ob).run P w = .ok .skip w') (h : K (a.put d undef) w') : wpOp P ops Q b K a w := by
  subst hd
  unfold wpOp
  have hwd : Region.wanted ob (yielded ops a.tmps) = true := by simp [Region.wanted, hgd]
  simp only [hob, hwd, if_true]
  refine .inl ?_
  unfold Oper.wp
  rw [hrun, Oper.upon_skip]
  exact h
theorem wpOp_callG {b : Nat} {ob : Oper} {a : Act} {w : World} {K : Act → World → Prop} (d : Option Tmp) (hob : ops[b]? = some ob) (hd : ob.dst = d) (hwd : Region.wanted ob (yielded ops a.tmps) = true) (f : FuncId) (args : Array Value) (hrun : (execOp a.eval ob).run P w = .ok (.enter f args) w) (R : Ending → World → Prop) (hc : Calls P f args w R) (h : ∀ e w', R e w' → ∃ v, e = .returned v ∧ K (a.put d v) w') : wpOp P ops Q b K a w := by
  subst hd
  unfold wpOp
  simp only [hob, hwd, if_true]
  refine .inl ?_
  unfold Oper.wp
  rw [hrun, Oper.upon_enter]
  refine hc.mono fun e w' hR => ?_
  obtain ⟨v, rfl, hh⟩ := h e w' hR
  exact hh
theorem wpOp_store {b : Nat} {ob : Oper} {a : Act} {w : World} {K : Act → World → Prop} (d : Option Tmp) (hob : ops[b]? = some ob) (hd : ob.dst = d) (hgd : ob.guard = none) (ty : TypeId) (x y : Operand) (ho : ob.op = .store ty x y) (g o : Nat) (cells : Array Value) (hx : a.eval x = .pointer (some ⟨g, o, none⟩)) (hy : a.eval y = .agg cells)
    (ht : w.there g o cells.size) (hi : (P.info? ty).map (·.size) = some cells.size) (h1 : cells.all (·.oneCell') = true) (h : K (a.put d undef) (w.setCells g o cells.toList)) : wpOp P ops Q b K a w := by
  subst hd
  unfold wpOp
  have hwd : Region.wanted ob (yielded ops a.tmps) = true := by simp [Region.wanted, hgd]
  simp only [hob, hwd, if_true]
  exact .inl (wp_store_mid ty x y ho g o cells hx hy ht hi h1 h)
end

end Go.Proofs.YtglagbedgjkdbaaGreatDoor
namespace Go.Proofs.YtglagbedgjkdbaaGreatDoor
open Go.RowKit Go.BigFrame Go.Proofs.YtglagbedgjkdbaaGreatDoor.Ev
set_option linter.unusedVariables false
set_option linter.unusedSimpArgs false

/-- Five blocks made one behind the other. -/
theorem alloc5 (w : World) (c0 c1 c2 c3 c4 : Array Value) (t0 t1 t2 t3 t4 : TypeId) {V : World} (h : ((((w.alloc (.cells c0 t0)).alloc (.cells c1 t1)).alloc (.cells c2 t2)).alloc (.cells c3 t3)).alloc (.cells c4 t4) = V) :
    Bk V w.heap.size c0 t0 ∧ Bk V (w.heap.size + 1) c1 t1 ∧ Bk V (w.heap.size + 2) c2 t2 ∧ Bk V (w.heap.size + 3) c3 t3 ∧ Bk V (w.heap.size + 4) c4 t4 ∧ Below w.heap.size w V := by
  subst h
  refine ⟨((((Bk.new w c0 t0).alloc _).alloc _).alloc _).alloc _, (((Bk.newE (by simp) c1 t1).alloc _).alloc _).alloc _, ((Bk.newE (by simp) c2 t2).alloc _).alloc _, (Bk.newE (by simp) c3 t3).alloc _, Bk.newE (by simp) c4 t4, ?_⟩
  exact galloc (galloc (galloc (galloc (galloc (Below.refl w.heap.size w) _) _) _) _) _
theorem alloc4 (w : World) (c0 c1 c2 c3 : Array Value) (t0 t1 t2 t3 : TypeId) {V : World} (h : (((w.alloc (.cells c0 t0)).alloc (.cells c1 t1)).alloc (.cells c2 t2)).alloc (.cells c3 t3) = V) :
    Bk V w.heap.size c0 t0 ∧ Bk V (w.heap.size + 1) c1 t1 ∧ Bk V (w.heap.size + 2) c2 t2 ∧ Bk V (w.heap.size + 3) c3 t3 ∧ Below w.heap.size w V := by
  subst h
  refine ⟨(((Bk.new w c0 t0).alloc _).alloc _).alloc _, ((Bk.newE (by simp) c1 t1).alloc _).alloc _, (Bk.newE (by simp) c2 t2).alloc _, Bk.newE (by simp) c3 t3, ?_⟩
  exact galloc (galloc (galloc (galloc (Below.refl w.heap.size w) _) _) _) _
/-- A value that is there already, at an operand's place. -/
def DnAt (w : World) (da : Option Addr) (vs : List V2) (z : Int) : Prop := ∃ g j : Nat, da = some ⟨g, 0, none⟩ ∧ z = (j : Int) ∧ j < vs.length ∧ w.cell? ⟨g, j * 2, none⟩ = some (.bool (vs.getD j noV2).1) ∧ w.cell? ⟨g, j * 2 + 1, none⟩ = some (.int .i64 (vs.getD j noV2).2)
theorem DnAt.keep {w u : World} {da : Option Addr} {vs : List V2} {z : Int} (h : DnAt w da vs z) (G : Below w.heap.size w u) : DnAt u da vs z := by
  obtain ⟨g, j, h1, h2, h3, h4, h5⟩ := h
  exact ⟨g, j, h1, h2, h3, (G.cell (p := ⟨_, _, none⟩) (lt_of_cell h4)).trans h4, (G.cell (p := ⟨_, _, none⟩) (lt_of_cell h5)).trans h5⟩
set_option maxRecDepth 100000 in
set_option maxHeartbeats 16000000 in
theorem refValue_any (sa : Option Addr) (sc : Nat) (L : List Ty) (q : Qy) (hq : q.fit) (cs : Array Value) (ai : Option Addr) (ci : Nat) (aw : Option Addr) (cw : Nat) (ar : Option Addr) (cr : Nat) (n : Nd) (da : Option Addr) (dc : Nat) (vs : List V2) (E : Envr) (al : Option Addr) (cl : Nat) (w : World) (A : IsTypes w sa L.length L) (AQ : IsQ w q cs ai ci aw cw ar cr) (IE : IsEnv w E al cl) (hE : E.ok) (hn : n.fit) (hop : 1 ≤ n.op ∧ n.op ≤ 26) (h3 : n.op = 3 → n.n = 0) (hm : kMent n.op = true → (itemF q.items q.items.length n.v).isSome = true)
    (h12 : 12 ≤ n.op → DnAt w da vs n.l) (h14 : 14 ≤ n.op → DnAt w da vs n.r) (hvs : fitS vs) :
    Calls Tryz.prog 47 #[.agg #[.slice sa L.length sc], .agg cs, .agg (ndA n), .slice da vs.length dc, envA al cl E] w fun e w' => e = .returned (VA (nodeW L (itemF q.items q.items.length) E vs n)) ∧ Below w.heap.size w w' := by
  obtain ⟨he, _⟩ := id AQ
  subst he
  obtain ⟨V, hV⟩ : ∃ V, ((((w.alloc (.cells #[.slice sa L.length sc] 24)).alloc (.cells #[.slice ai q.items.length ci, .int .i64 q.mode, .int .i64 q.after, .slice aw q.wh.length cw, .int .i64 q.within, .string q.by_, .slice ar q.ret.length cr] 31)).alloc (.cells (ndA n) 64)).alloc (.cells #[.slice al E.lists.length cl, .int .i64 E.each, .int .i64 E.at_] 34)).alloc (.cells #[.bool false, .int .i64 0] 51) = V := ⟨_, rfl⟩
  obtain ⟨b0, b1, b2, b3, b4, BV⟩ := alloc5 w _ _ _ _ _ _ _ _ _ _ hV
  have cI := refItemOf7_any q hq n.v hn.v _ ai ci aw cw ar cr V (AQ.keep BV)
  obtain ⟨M, hM⟩ : ∃ M, itemF q.items q.items.length = M := ⟨_, rfl⟩
  unfold itmI at cI
  rw [hM] at cI hm ⊢
  obtain ⟨iv, hiv⟩ : ∃ iv, (M n.v).getD (-1) = iv := ⟨_, rfl⟩
  rw [hiv] at cI
  have hit : kMent n.op = true → (M n.v).getD 0 = iv := fun h => by
    have := hm h
    rw [← hiv]
    cases hh : M n.v with
    | none => rw [hh] at this; cases this
    | some i => rfl
  obtain ⟨la, lc, LL, cL⟩ := refList_any E al cl iv w IE.n
  obtain ⟨hok1, hok2, hok3⟩ := lstO_ok hE iv
  have HIT := show Hid (_ → _) from hit
  have cRd := fun (u : World) (g : Below w.heap.size w u) (p : Int) => refRead_any sa sc L n.x la lc (lstO E iv) p u (A.keep g) (LL.fl.keep g) hok2
  have cFo := fun (u : World) (g : Below w.heap.size w u) (op : Int) => refFoldS_any sa sc L n.x la lc (lstO E iv) op u (A.keep g) (LL.fl.keep g) hok2 hok1 hok3
  have hD1 := fun (u : World) (g : Below w.heap.size w u) (h : 12 ≤ n.op) => (h12 h).keep g
  have hD2 := fun (u : World) (g : Below w.heap.size w u) (h : 14 ≤ n.op) => (h14 h).keep g
  obtain ⟨⟨xk, xn⟩, hx⟩ : ∃ x, nodeW L M E vs n = x := ⟨_, rfl⟩
  rw [hx]
  have HX : Hid (nodeW L M E vs n = (xk, xn)) := hx
  obtain ⟨ln, hln⟩ : ∃ m, (lstO E iv).length = m := ⟨_, rfl⟩
  have HLN := show Hid (_ = _) from hln
  rw [hln] at cRd cFo cL
  have h3' := show Hid (_ → _) from h3
  clear hx hiv hM hit h12 h14 hm hn LL IE A AQ hln hok1 hok2 hok3 h3
  obtain ⟨nop, nn, nv, nx, nl, nr⟩ := n
  unfold ndA at *
  dsimp only at *
  go_enter Tryz.func47, Tryz.ntmps47
  go_upto_region 1 with fail
  clear hV
  obtain ⟨q0, q1, q2, q3, q4, q5, q6⟩ := b1.at7
  obtain ⟨m0, m1, m2, m3, m4, m5⟩ := b2.at6
  go_upto_region 3 with (go_at_call 70; (with_reducible refine cI.mono ?_); rintro e u1 ⟨rfl, g1⟩)
  clear q0 q1 q2 q3 q4 q5 q6 m0 m1 m2 m3 m4 m5 cI
  have G1 := gtrans BV g1
  obtain ⟨e0, e1, e2⟩ := (b3.keep g1).at3
  have cL1 := cL u1 G1
  go_upto_region 4 with (go_at_call 72; (with_reducible refine cL1.mono ?_); rintro e u2 ⟨rfl, g2⟩)
  have G2 := gtrans G1 g2
  have s0 := ((b0.keep g1).keep g2).one1
  obtain ⟨m0, m1, m2, m3, m4, m5⟩ := ((b2.keep g1).keep g2).at6
  have d3 := (b3.keep g1).keep g2
  have d4 : Two u2 (w.heap.size + 4) (.bool false) (.int .i64 0) 51 := (b4.keep g1).keep g2
  clear e0 e1 e2 cL cL1 b0 b1 b2 b3 b4 g1 g2 G1 BV
  obtain ⟨e0, e1, e2⟩ := d3.at3
  have cRd := cRd u2 G2
  have cFo := cFo u2 G2
  have hD1 := hD1 u2 G2
  have hD2 := hD2 u2 G2
  by_cases h1 : nop = 1
  · subst h1
    have hv : ((true, nn) : V2) = (xk, xn) := HX.out
    obtain ⟨rfl, rfl⟩ := Prod.mk.inj hv
    have cc := refNumber_any nn u2
    clear HX hv cRd cFo hD1 hD2
    go_wp2_with (go_at_call 73; (with_reducible refine cc.mono ?_); rintro _ Z ⟨rfl, gZ⟩; have GZ := gtrans G2 gZ; obtain ⟨r0, r1⟩ := show _ ∧ _ from ⟨(d4.keep gZ).at0, (d4.keep gZ).at1⟩; have rf := (d4.keep gZ).free)
    refine bodyPost_ret (v := .agg #[.bool true, .int .i64 nn]) (by simp [results, Tryz.results47, go_sem, r0, r1]) rfl ⟨rfl, ?_⟩
    exact gset (gset GZ (by simp; omega) _) (by simp; omega) _
  by_cases h2 : nop = 2
  · subst h2
    have hv : ((true, 1) : V2) = (xk, xn) := HX.out
    obtain ⟨rfl, rfl⟩ := Prod.mk.inj hv
    have cc := refNumber_any 1 u2
    clear HX hv cRd cFo hD1 hD2
    go_wp2_with (go_at_call 73; (with_reducible refine cc.mono ?_); rintro _ Z ⟨rfl, gZ⟩; have GZ := gtrans G2 gZ; obtain ⟨r0, r1⟩ := show _ ∧ _ from ⟨(d4.keep gZ).at0, (d4.keep gZ).at1⟩; have rf := (d4.keep gZ).free)
    refine bodyPost_ret (v := .agg #[.bool true, .int .i64 1]) (by simp [results, Tryz.results47, go_sem, r0, r1]) rfl ⟨rfl, ?_⟩
    exact gset (gset GZ (by simp; omega) _) (by simp; omega) _
  by_cases h3 : nop = 3
  · subst h3
    have hv : ((true, nn) : V2) = (xk, xn) := HX.out
    have hz : nn = 0 := h3'.out rfl
    subst hz
    obtain ⟨rfl, rfl⟩ := Prod.mk.inj hv
    have cc := refNumber_any 0 u2
    clear HX hv cRd cFo hD1 hD2
    go_wp2_with (go_at_call 73; (with_reducible refine cc.mono ?_); rintro _ Z ⟨rfl, gZ⟩; have GZ := gtrans G2 gZ; obtain ⟨r0, r1⟩ := show _ ∧ _ from ⟨(d4.keep gZ).at0, (d4.keep gZ).at1⟩; have rf := (d4.keep gZ).free)
    refine bodyPost_ret (v := .agg #[.bool true, .int .i64 0]) (by simp [results, Tryz.results47, go_sem, r0, r1]) rfl ⟨rfl, ?_⟩
    exact gset (gset GZ (by simp; omega) _) (by simp; omega) _
  by_cases h5 : nop = 5
  · subst h5
    have hi := HIT.out (by decide)
    have hv : ((true, (ln : Int)) : V2) = (xk, xn) := by
      have h : ((true, ((lstO E ((M nv).getD 0)).length : Int)) : V2) = (xk, xn) := HX.out
      rw [hi, HLN.out] at h
      exact h
    obtain ⟨rfl, rfl⟩ := Prod.mk.inj hv
    have cc := refNumber_any (ln : Int) u2
    clear HX hv cRd cFo hD1 hD2 hi
    go_wp2_with (go_at_call 73; (with_reducible refine cc.mono ?_); rintro _ Z ⟨rfl, gZ⟩; have GZ := gtrans G2 gZ; obtain ⟨r0, r1⟩ := show _ ∧ _ from ⟨(d4.keep gZ).at0, (d4.keep gZ).at1⟩; have rf := (d4.keep gZ).free)
    refine bodyPost_ret (v := .agg #[.bool true, .int .i64 (ln : Int)]) (by simp [results, Tryz.results47, go_sem, r0, r1]) rfl ⟨rfl, ?_⟩
    exact gset (gset GZ (by simp; omega) _) (by simp; omega) _
  by_cases h4 : nop = 4
  · subst h4
    have hi := HIT.out (by decide)
    have hv : sayV (fun t => attrI L t nx) (lstO E iv) (if iv = E.each then E.at_ else 0) = (xk, xn) := by
      have h : menV (fun t => attrI L t nx) 4 E ((M nv).getD 0) = (xk, xn) := HX.out
      rw [hi] at h
      exact h
    by_cases he : iv = E.each
    · rw [if_pos he] at hv
      have cc := cRd E.at_
      rw [hv] at cc
      unfold VA at cc
      dsimp only at cc
      have hee : (iv == E.each) = true := beq_iff_eq.2 he
      clear HX hv cRd cFo hD1 hD2 hi he
      go_wp2_with (go_at_call 74; (with_reducible refine cc.mono ?_); rintro _ Z ⟨rfl, gZ⟩; have GZ := gtrans G2 gZ; obtain ⟨r0, r1⟩ := show _ ∧ _ from ⟨(d4.keep gZ).at0, (d4.keep gZ).at1⟩; have rf := (d4.keep gZ).free)
      refine bodyPost_ret (v := .agg #[.bool xk, .int .i64 xn]) (by simp [results, Tryz.results47, go_sem, r0, r1]) rfl ⟨rfl, ?_⟩
      exact gset (gset GZ (by simp; omega) _) (by simp; omega) _
    · rw [if_neg he] at hv
      have cc := cRd 0
      rw [hv] at cc
      unfold VA at cc
      dsimp only at cc
      have hee : (iv == E.each) = false := beq_eq_false_iff_ne.2 he
      clear HX hv cRd cFo hD1 hD2 hi
      go_wp2_with (go_at_call 74; (with_reducible refine cc.mono ?_); rintro _ Z ⟨rfl, gZ⟩; have GZ := gtrans G2 gZ; obtain ⟨r0, r1⟩ := show _ ∧ _ from ⟨(d4.keep gZ).at0, (d4.keep gZ).at1⟩; have rf := (d4.keep gZ).free)
      refine bodyPost_ret (v := .agg #[.bool xk, .int .i64 xn]) (by simp [results, Tryz.results47, go_sem, r0, r1]) rfl ⟨rfl, ?_⟩
      exact gset (gset GZ (by simp; omega) _) (by simp; omega) _
  by_cases h11 : nop = 11
  · subst h11
    have hi := HIT.out (by decide)
    have hv : (if iv = E.each then sayV (fun t => attrI L t nx) (lstO E iv) (IntKind.i64.wrap (E.at_ - 1)) else noV2) = (xk, xn) := by
      have h : menV (fun t => attrI L t nx) 11 E ((M nv).getD 0) = (xk, xn) := HX.out
      rw [hi] at h
      exact h
    by_cases he : iv = E.each
    · rw [if_pos he] at hv
      have cc := cRd (IntKind.i64.wrap (E.at_ - 1))
      rw [hv] at cc
      unfold VA at cc
      dsimp only at cc
      have hee : (iv == E.each) = true := beq_iff_eq.2 he
      clear HX hv cRd cFo hD1 hD2 hi he
      obtain ⟨pv, hpv⟩ : ∃ pv, IntKind.i64.wrap (E.at_ - 1) = pv := ⟨_, rfl⟩
      rw [hpv] at cc
      go_wp2_with (go_at_call 74; (with_reducible refine cc.mono ?_); rintro _ Z ⟨rfl, gZ⟩; have GZ := gtrans G2 gZ; obtain ⟨r0, r1⟩ := show _ ∧ _ from ⟨(d4.keep gZ).at0, (d4.keep gZ).at1⟩; have rf := (d4.keep gZ).free)
      refine bodyPost_ret (v := .agg #[.bool xk, .int .i64 xn]) (by simp [results, Tryz.results47, go_sem, r0, r1]) rfl ⟨rfl, ?_⟩
      exact gset (gset GZ (by simp; omega) _) (by simp; omega) _
    · rw [if_neg he] at hv
      obtain ⟨rfl, rfl⟩ := Prod.mk.inj (show ((false, 0) : V2) = (xk, xn) from hv)
      have cc := refNothing_any u2
      have hee : (iv == E.each) = false := beq_eq_false_iff_ne.2 he
      clear HX hv cRd cFo hD1 hD2 hi
      go_wp2_with (go_at_call 46; (with_reducible refine cc.mono ?_); rintro _ Z ⟨rfl, gZ⟩; have GZ := gtrans G2 gZ; obtain ⟨r0, r1⟩ := show _ ∧ _ from ⟨(d4.keep gZ).at0, (d4.keep gZ).at1⟩; have rf := (d4.keep gZ).free)
      refine bodyPost_ret (v := .agg #[.bool false, .int .i64 0]) (by simp [results, Tryz.results47, go_sem, r0, r1]) rfl ⟨rfl, ?_⟩
      exact gset (gset GZ (by simp; omega) _) (by simp; omega) _
  by_cases h610 : 6 ≤ nop ∧ nop ≤ 10
  · obtain ⟨h6, h10⟩ := h610
    have hi := HIT.out (show kMent nop = true from decide_eq_true (by omega))
    have hv : gatV (fun t => attrI L t nx) nop (lstO E iv) = (xk, xn) := by
      have h := HX.out
      unfold nodeW at h
      dsimp only at h
      rw [if_neg (by omega), if_neg h5, if_pos (by omega), hi] at h
      unfold menV at h
      rw [if_neg h4, if_neg h11] at h
      exact h
    have cc := cFo nop
    rw [hv] at cc
    unfold VA at cc
    dsimp only at cc
    have e1' : (nop == 1) = false := beq_eq_false_iff_ne.2 (by omega)
    have e2' : (nop == 2) = false := beq_eq_false_iff_ne.2 (by omega)
    have e3' : (nop == 3) = false := beq_eq_false_iff_ne.2 (by omega)
    have e4' : (nop == 4) = false := beq_eq_false_iff_ne.2 (by omega)
    have e11' : (nop == 11) = false := beq_eq_false_iff_ne.2 (by omega)
    have e5' : (nop == 5) = false := beq_eq_false_iff_ne.2 (by omega)
    clear HX hv cRd cFo hD1 hD2 hi
    go_wp2_with (go_at_call 75; (with_reducible refine cc.mono ?_); rintro _ Z ⟨rfl, gZ⟩; have GZ := gtrans G2 gZ; obtain ⟨r0, r1⟩ := show _ ∧ _ from ⟨(d4.keep gZ).at0, (d4.keep gZ).at1⟩; have rf := (d4.keep gZ).free)
    refine bodyPost_ret (v := .agg #[.bool xk, .int .i64 xn]) (by simp [results, Tryz.results47, go_sem, r0, r1]) rfl ⟨rfl, ?_⟩
    exact gset (gset GZ (by simp; omega) _) (by simp; omega) _
  have hge : 12 ≤ nop := by omega
  obtain ⟨g, j, rfl, rfl, hj, y0, y1⟩ := hD1 hge
  have hji : (j : Int) < (vs.length : Int) := by omega
  have hfj := hvs j
  by_cases h12 : nop = 12
  · subst h12
    have hv : negW (vs.getD j noV2) = (xk, xn) := by
      have h : negW (vs.getD (j : Int).toNat noV2) = (xk, xn) := HX.out
      rw [Int.toNat_natCast] at h
      exact h
    generalize vs.getD j noV2 = dv at *
    obtain ⟨dk, dn⟩ := dv
    have cc := refNeg_any dk dn u2 hfj
    obtain ⟨hv1, hv2⟩ := Prod.mk.inj (show ((opK true dk (0 - dn), opN true dk (0 - dn)) : V2) = (xk, xn) from hv)
    rw [hv1, hv2] at cc
    clear hv1 hv2
    dsimp only at y0 y1
    generalize vs.length = vl at *
    clear HX hv cRd cFo hD1 hD2 hvs hfj
    go_wp2_with (go_at_call 76; (with_reducible refine cc.mono ?_); rintro _ Z ⟨rfl, gZ⟩; have GZ := gtrans G2 gZ; obtain ⟨r0, r1⟩ := show _ ∧ _ from ⟨(d4.keep gZ).at0, (d4.keep gZ).at1⟩; have rf := (d4.keep gZ).free)
    refine bodyPost_ret (v := .agg #[.bool xk, .int .i64 xn]) (by simp [results, Tryz.results47, go_sem, r0, r1]) rfl ⟨rfl, ?_⟩
    exact gset (gset GZ (by simp; omega) _) (by simp; omega) _
  by_cases h13 : nop = 13
  · subst h13
    have hv : notW (vs.getD j noV2) = (xk, xn) := by
      have h : notW (vs.getD (j : Int).toNat noV2) = (xk, xn) := HX.out
      rw [Int.toNat_natCast] at h
      exact h
    generalize vs.getD j noV2 = dv at *
    obtain ⟨dk, dn⟩ := dv
    have cc := refNot_any dk dn u2
    obtain ⟨hv1, hv2⟩ := Prod.mk.inj (show ((vK (2 - rd dk dn), vN (2 - rd dk dn)) : V2) = (xk, xn) from hv)
    rw [hv1, hv2] at cc
    clear hv1 hv2
    dsimp only at y0 y1
    generalize vs.length = vl at *
    clear HX hv cRd cFo hD1 hD2 hvs hfj
    go_wp2_with (go_at_call 77; (with_reducible refine cc.mono ?_); rintro _ Z ⟨rfl, gZ⟩; have GZ := gtrans G2 gZ; obtain ⟨r0, r1⟩ := show _ ∧ _ from ⟨(d4.keep gZ).at0, (d4.keep gZ).at1⟩; have rf := (d4.keep gZ).free)
    refine bodyPost_ret (v := .agg #[.bool xk, .int .i64 xn]) (by simp [results, Tryz.results47, go_sem, r0, r1]) rfl ⟨rfl, ?_⟩
    exact gset (gset GZ (by simp; omega) _) (by simp; omega) _
  obtain ⟨g2, j2, e2', rfl, hj2, z0, z1⟩ := hD2 (by omega)
  cases e2'
  have hji2 : (j2 : Int) < (vs.length : Int) := by omega
  have hfj2 := hvs j2
  have hv : applyV nop (vs.getD j noV2) (vs.getD j2 noV2) = (xk, xn) := by
    have h := HX.out
    unfold nodeW at h
    dsimp only at h
    rw [if_neg (by omega), if_neg h5, if_neg (by omega), if_neg h12, if_neg h13, Int.toNat_natCast, Int.toNat_natCast] at h
    exact h
  generalize vs.getD j noV2 = dv at *
  generalize vs.getD j2 noV2 = dw at *
  have cc := (apply_is nop dv dw hfj hfj2).2
  rw [hv] at cc
  obtain ⟨dk, dn⟩ := dv
  obtain ⟨tk, tn⟩ := dw
  unfold VA at cc
  dsimp only at cc y0 y1 z0 z1
  have e1' : (nop == 1) = false := beq_eq_false_iff_ne.2 (by omega)
  have e2' : (nop == 2) = false := beq_eq_false_iff_ne.2 (by omega)
  have e3' : (nop == 3) = false := beq_eq_false_iff_ne.2 (by omega)
  have e4' : (nop == 4) = false := beq_eq_false_iff_ne.2 (by omega)
  have e11' : (nop == 11) = false := beq_eq_false_iff_ne.2 (by omega)
  have e5' : (nop == 5) = false := beq_eq_false_iff_ne.2 (by omega)
  have e12' : (nop == 12) = false := beq_eq_false_iff_ne.2 (by omega)
  have e13' : (nop == 13) = false := beq_eq_false_iff_ne.2 (by omega)
  have h10 : ¬ nop ≤ 10 := by omega
  generalize vs.length = vl at *
  clear HX hv cRd cFo hD1 hD2 hvs hfj hfj2
  have hne0 : Nonempty (Ext u2) := ⟨⟨_, Below.refl _ _⟩⟩
  have p0 := fun z : Ext u2 => (z.cell _ _ (lt_of_cell y0)).trans y0
  have p1 := fun z : Ext u2 => (z.cell _ _ (lt_of_cell y1)).trans y1
  have p2 := fun z : Ext u2 => (z.cell _ _ (lt_of_cell z0)).trans z0
  have p3 := fun z : Ext u2 => (z.cell _ _ (lt_of_cell z1)).trans z1
  have o0 := fun z : Ext u2 => (z.cell _ _ (lt_of_cell m0)).trans m0
  have o4 := fun z : Ext u2 => (z.cell _ _ (lt_of_cell m4)).trans m4
  have o5 := fun z : Ext u2 => (z.cell _ _ (lt_of_cell m5)).trans m5
  have cA : ∀ z : Ext u2, Calls Tryz.prog 78 #[.int .i64 nop, .agg #[.bool dk, .int .i64 dn], .agg #[.bool tk, .int .i64 tn]] z.X (fun e' w'' => e' = .returned (.agg #[.bool xk, .int .i64 xn]) ∧ ∃ m : Ext u2, w'' = m.X) := fun z => ext_of (cc z.X)
  go_upto_region 26 with fail
  refine wp_region_ext_tail 13 (by kernel_rfl) (by kernel_rfl) ?_
  simp only [List.take_succ_cons, List.take_zero, List.drop_succ_cons, List.drop_zero]
  repeat (go_big_quiet_step (first | (go_at_call 78; with_reducible exact cA _)))
  refine wpQuiet_nil ?_
  intro _ hw'
  obtain ⟨nz, hw''⟩ := hw'
  subst hw''
  have gZ := nz.h
  generalize nz.X = Z at *
  have GZ := gtrans G2 gZ
  obtain ⟨r0, r1⟩ := show _ ∧ _ from ⟨(d4.keep gZ).at0, (d4.keep gZ).at1⟩
  have rf := (d4.keep gZ).free
  go_wp2
  refine bodyPost_ret (v := .agg #[.bool xk, .int .i64 xn]) (by simp [results, Tryz.results47, go_sem, r0, r1]) rfl ⟨rfl, ?_⟩
  exact gset (gset GZ (by simp; omega) _) (by simp; omega) _

end Go.Proofs.YtglagbedgjkdbaaGreatDoor
