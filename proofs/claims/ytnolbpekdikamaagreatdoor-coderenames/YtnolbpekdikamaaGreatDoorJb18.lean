/- Compile. And what goes with it: 4 texts in one. -/
import Derived.Test.YtnolbpekdikamaaGreatDoorJa17
import Derived.Deep.CutRange
namespace Go.Proofs.YtnolbpekdikamaaGreatDoor
open Go.RowKit Go.BigFrame Go.Proofs.YtnolbpekdikamaaGreatDoor.Ev
set_option linter.unusedVariables false
set_option linter.unusedSimpArgs false

/-- What Compile comes to. -/
def cmpS (L : List Ty) (q : Qy) (ns : List Nd) : Cst := if runB (itemF q.items q.items.length) ns = true then treK L (itemF q.items q.items.length) ns ns.length else ⟨[], [], []⟩
/-- What Compile answers: rows of its own. -/
structure CmpP (w : World) (s : Cst) (e : Ending) (w' : World) : Prop where
  ex : ∃ ai ci ac cc ws, e = .returned (.agg #[.slice ai s.code.length ci, .slice ac s.cols.length cc]) ∧ w'.ownsRow w.heap.size 87 5 (.slice ai s.code.length ci) s.code.length (fl insC s.code) ∧
    ONst w' w.heap.size 39 3 1 intC (.slice ac s.cols.length cc) (s.cols.map Prod.snd) ws ∧ Below w.heap.size w w'
theorem Bk.one1 {w : World} {b : Nat} {c0 : Value} {t : TypeId} (h : Bk w b #[c0] t) : w.cell? ⟨b, 0, none⟩ = some c0 := cell_of_row w b 0 _ _ _ h
theorem infoPg : (Tryz.prog.info? 48).map (·.size) = some 2 := by kernel_rfl
set_option maxRecDepth 100000 in
set_option maxHeartbeats 4000000 in
theorem compile_any (sa : Option Addr) (sc : Nat) (L : List Ty) (q : Qy) (hq : q.fit) (cs : Array Value) (ai : Option Addr) (ci : Nat) (aw : Option Addr) (cw : Nat) (ar : Option Addr) (cr : Nat) (ns : List Nd) (ao : Option Addr) (cap : Nat) (w : World) (K : KwAt w) (A : IsTypes w sa L.length L) (AQ : IsQ w q cs ai ci aw cw ar cr) (AN : IsNds w ao ns)
    (hf : ∀ k, (ns.getD k noNd).fit) (hr : ns.length * 64 ≤ 140737488351232) (hL : L.length * 8 ≤ 140737488351232) :
    Calls Tryz.prog 11 #[.agg #[.slice sa L.length sc], .agg cs, .slice ao ns.length cap] w fun e w' => CmpP w (cmpS L q ns) e w' := by
  have hcs := AQ.eq
  obtain ⟨r, hr0⟩ : ∃ r, cmpS L q ns = r := ⟨_, rfl⟩
  rw [hr0]
  have HR : Hid ((if runB (itemF q.items q.items.length) ns = true then treK L (itemF q.items q.items.length) ns ns.length else ⟨[], [], []⟩) = r) := hr0
  clear hr0
  have B1 := galloc (Below.refl w.heap.size w) (.cells #[.slice sa L.length sc] 24)
  have B2 := galloc B1 (.cells cs 31)
  have B3 := galloc B2 (.cells #[.slice none 0 0, .slice none 0 0] 48)
  have k1 := ((Bk.new w #[.slice sa L.length sc] 24).alloc (.cells cs 31)).alloc (.cells #[.slice none 0 0, .slice none 0 0] 48)
  have k2 := (Bk.newE (w := w.alloc (.cells #[.slice sa L.length sc] 24)) (g := w.heap.size + 1) (by simp) cs 31).alloc (.cells #[.slice none 0 0, .slice none 0 0] 48)
  have k3 := Bk.newE (w := (w.alloc (.cells #[.slice sa L.length sc] 24)).alloc (.cells cs 31)) (g := w.heap.size + 2) (by simp) #[.slice none 0 0, .slice none 0 0] 48
  subst hcs
  go_enter Tryz.func11, Tryz.ntmps11
  go_upto_region 1 with fail
  generalize ((w.alloc _).alloc _).alloc _ = V at *
  obtain ⟨q0, q1, q2, q3, q4, q5, q6⟩ := k2.at7
  have c31 := cItemsOf_any q hq _ ai ci aw cw ar cr V (AQ.keep B3)
  go_upto_region 2 with (first
    | (go_at_call 22; (with_reducible refine c31.mono ?_); rintro e X1 ⟨bi, rfl, hbi, MI, g1⟩))
  have c32 := isRunnable_any ns ao cap bi q.items.length (itemF q.items q.items.length) X1 (K.keep (gtrans B3 g1)) (AN.keep (gtrans B3 g1)) MI hr hf
  obtain ⟨rb, hrb⟩ : ∃ rb, runB (itemF q.items q.items.length) ns = rb := ⟨_, rfl⟩
  have HB : Hid (runB (itemF q.items q.items.length) ns = rb) := hrb
  rw [hrb] at c32
  clear hrb
  cases rb with
  | false =>
    have hr0 : r = ⟨[], [], []⟩ := by have := HR.out; rw [HB.out] at this; exact this.symm
    subst hr0
    go_upto_region 3 with (first
      | (go_at_call 23; (with_reducible refine c32.mono ?_); rintro e X2 ⟨rfl, g2⟩))
    have k5 := (k3.keep g1).keep g2
    have kf := k5.free
    obtain ⟨e0, e1⟩ := k5.at2
    have B5 := gtrans (gtrans B3 g1) g2
    have k6 := (k5.set 0 (.slice none 0 0)).set 1 (.slice none 0 0)
    have HK := show Hid _ from k6
    have B6 := gset (gset B5 (p := ⟨w.heap.size + 2, 0, none⟩) (show _ ≤ w.heap.size + 2 by omega) (.slice none 0 0)) (p := ⟨w.heap.size + 2, 1, none⟩) (show _ ≤ w.heap.size + 2 by omega) (.slice none 0 0)
    clear k6
    go_wp2
    refine bodyPost_ret (results_cell_row rfl _ _ (w.heap.size + 2) 48 #[.slice none 0 0, .slice none 0 0] (0, 0) _ rfl HK.out Tryz.underlying48 rfl infoPg) rfl ?_
    exact ⟨none, 0, none, 0, [], rfl, World.ownsRow_nil _ _ _ _, ONst.nil _ _ _ _ _ _, B6⟩
  | true =>
    have hr0 : r = treK L (itemF q.items q.items.length) ns ns.length := by have := HR.out; rw [HB.out] at this; exact this.symm
    subst hr0
    have htr : treeB ns = true := by
      have := HB.out
      unfold runB at this
      rw [Bool.and_eq_true] at this
      exact this.1
    go_upto_region 4 with (first
      | (go_at_call 23; (with_reducible refine c32.mono ?_); rintro e X2 ⟨rfl, g2⟩))
    have B5 := gtrans (gtrans B3 g1) g2
    have y0 := ((k1.keep g1).keep g2).one1
    -- the compiler is made
    have hmm : ∀ u : World, (Instr.makeMap 78 none).run Tryz.prog u = .ok (.map (some u.heap.size)) (u.alloc (.map #[] 0)) := fun u => run_makeMap _ u
    have AX : IsTypes X2 sa L.length L := A.keep B5
    have NX : IsNds X2 ao ns := AN.keep B5
    have MX : MpAt X2 bi q.items.length (itemF q.items q.items.length) := MI.keep g2
    have k5 := (k3.keep g1).keep g2
    have zk := k5.lt
    have MP1 := (MpX.new X2).keep (galloc (Below.refl _ _) (.cells #[.slice sa L.length sc, .map (some bi), .map (some X2.heap.size), .slice none 0 0, .slice none 0 0, .slice none 0 0] 82))
    have K1 := Bk.newE (w := X2.alloc (.map #[] 0)) (g := X2.heap.size + 1) (by simp) #[.slice sa L.length sc, .map (some bi), .map (some X2.heap.size), .slice none 0 0, .slice none 0 0, .slice none 0 0] 82
    have G3 := galloc (galloc (Below.refl X2.heap.size X2) (.map #[] 0)) (.cells #[.slice sa L.length sc, .map (some bi), .map (some X2.heap.size), .slice none 0 0, .slice none 0 0, .slice none 0 0] 82)
    go_upto_region 5 with fail
    generalize (X2.alloc (.map #[] 0)).alloc _ = Y at *
    have CI : Cmp Y (X2.heap.size + 1) X2.heap.size (fotC (X2.heap.size + 1) X2.heap.size (.slice none 0 0) (.slice none 0 0) (.slice none 0 0)) (.slice sa L.length sc) (.map (some bi)) ⟨[], [], []⟩ :=
      ⟨X2.heap.size, .slice none 0 0, .slice none 0 0, .slice none 0 0, [], rfl, ⟨K1, World.ownsRow_nil _ _ _ _, ONst.nil _ _ _ _ _ _, World.ownsRow_nil _ _ _ _, MP1, (fun _ _ _ h => by cases h), G3.size, by omega, Nat.le_refl _⟩⟩
    have ct := tree_any (X2.heap.size + 1) X2.heap.size bi q.items.length _ sa sc L (itemF q.items q.items.length) ns ao cap Y CI X2 AX MX NX (Nat.le_refl _) G3 htr hf hr hL
    have hlo := CI.lo
    have kY := k5.keep G3
    have BY := gtrans B5 G3
    obtain ⟨s, hs⟩ : ∃ s, treK L (itemF q.items q.items.length) ns ns.length = s := ⟨_, rfl⟩
    rw [hs] at ct
    have HS : Hid (treK L (itemF q.items q.items.length) ns ns.length = s) := hs
    clear hs
    go_upto_region 6 with (first
      | (go_at_call 24; (with_reducible refine ct.mono ?_); rintro e u ⟨rfl, S', C', F', V'⟩))
    have nS : ¬ fotC (X2.heap.size + 1) X2.heap.size (.slice none 0 0) (.slice none 0 0) (.slice none 0 0) (w.heap.size + 2) := fun h => by have := hlo _ h; omega
    have ku := F'.bk kY nS
    have Bu : Below w.heap.size w u := F'.toBelow BY (Nat.le_refl _) (fun j h => by have := hlo j h; have := B5.size; omega)
    obtain ⟨bm, vc, vl, vo, ws, rfl, I⟩ := C'
    obtain ⟨ac', cc', e0, _⟩ := own_form I.code
    obtain ⟨al', cl', e1, _⟩ := own_form I.cols.own
    have hml : (s.cols.map Prod.snd).length = s.cols.length := by simp
    rw [hml] at e1
    subst e0 e1
    have d3 := I.blk.at6.2.2.2.1
    have d4 := I.blk.at6.2.2.2.2.1
    have kf := ku.free
    have B6 := gset (gset Bu (p := ⟨w.heap.size + 2, 0, none⟩) (show _ ≤ w.heap.size + 2 by omega) (.slice ac' s.code.length cc')) (p := ⟨w.heap.size + 2, 1, none⟩) (show _ ≤ w.heap.size + 2 by omega) (.slice al' s.cols.length cl')
    have ku1 := ku.set 0 (.slice ac' s.code.length cc')
    have O1 := ty_set (ty_set I.code ku (by decide) 0 (.slice ac' s.code.length cc')) ku1 (by decide) 1 (.slice al' s.cols.length cl')
    have P1 := (I.cols.map (u := u.setCell ⟨w.heap.size + 2, 0, none⟩ (.slice ac' s.code.length cc')) fun e s1 v n xs he o => ty_set o ku (by rcases he with rfl | rfl <;> decide) 0 _).map (u := (u.setCell ⟨w.heap.size + 2, 0, none⟩ (.slice ac' s.code.length cc')).setCell ⟨w.heap.size + 2, 1, none⟩ (.slice al' s.cols.length cl')) fun e s1 v n xs he o => ty_set o ku1 (by rcases he with rfl | rfl <;> decide) 1 _
    have HK := show Hid _ from ku1.set 1 (.slice al' s.cols.length cl')
    have HO := show Hid _ from O1
    have HP := show Hid _ from P1
    obtain ⟨f0, f1⟩ := ku.at2
    clear O1 P1 ku1 ct
    go_wp2
    refine bodyPost_ret (results_cell_row rfl _ _ (w.heap.size + 2) 48 #[.slice ac' s.code.length cc', .slice al' s.cols.length cl'] (0, 0) _ rfl HK.out Tryz.underlying48 rfl infoPg) rfl ?_
    have hs2 := HS.out
    subst hs2
    exact ⟨ac', cc', al', cl', ws, rfl, World.ownsRow.mono HO.out B5.size, HP.out.mono B5.size, B6⟩

end Go.Proofs.YtnolbpekdikamaaGreatDoor
namespace Go.Proofs.YtnolbpekdikamaaGreatDoor
open Go.RowKit Go.BigFrame Go.Proofs.YtnolbpekdikamaaGreatDoor.Ev
set_option linter.unusedVariables false
set_option linter.unusedSimpArgs false

/-- What Eval comes to. -/
def evalV (L : List Ty) (q : Qy) (E : Envr) (ns : List Nd) : V2 := if runB (itemF q.items q.items.length) ns = true then valA L (itemF q.items q.items.length) E ns (ns.length - 1) else noV2
set_option maxRecDepth 100000 in
set_option maxHeartbeats 4000000 in
theorem eval_any2 (sa : Option Addr) (sc : Nat) (L : List Ty) (q : Qy) (hq : q.fit) (cs : Array Value) (ai : Option Addr) (ci : Nat) (aw : Option Addr) (cw : Nat) (ar : Option Addr) (cr : Nat) (ns : List Nd) (ao : Option Addr) (cap : Nat) (E : Envr) (al : Option Addr) (cl : Nat) (w : World) (K : KwAt w) (T : TbA2 w) (A : IsTypes w sa L.length L) (AQ : IsQ w q cs ai ci aw cw ar cr) (AN : IsNds w ao ns) (IE : IsEnv w E al cl)
    (hf : ∀ k, (ns.getD k noNd).fit) (hr : ns.length * 64 ≤ 140737488351232) (hE : E.ok) :
    Calls Tryz.prog 13 #[.agg #[.slice sa L.length sc], .agg cs, .slice ao ns.length cap, envA al cl E] w fun e w' => e = .returned (VA (evalV L q E ns)) ∧ Below w.heap.size w w' := by
  have hcs := AQ.eq
  obtain ⟨⟨xk, xn⟩, hx⟩ : ∃ x, evalV L q E ns = x := ⟨_, rfl⟩
  rw [hx]
  have HR : Hid ((if runB (itemF q.items q.items.length) ns = true then valA L (itemF q.items q.items.length) E ns (ns.length - 1) else noV2) = (xk, xn)) := hx
  clear hx
  have B1 := galloc (Below.refl w.heap.size w) (.cells #[.slice sa L.length sc] 24)
  have B2 := galloc B1 (.cells cs 31)
  have B3 := galloc B2 (.cells #[.slice al E.lists.length cl, .int .i64 E.each, .int .i64 E.at_] 34)
  have B4 := galloc B3 (.cells #[.bool false, .int .i64 0] 51)
  have k1 := (((Bk.new w #[.slice sa L.length sc] 24).alloc (.cells cs 31)).alloc (.cells #[.slice al E.lists.length cl, .int .i64 E.each, .int .i64 E.at_] 34)).alloc (.cells #[.bool false, .int .i64 0] 51)
  have k2 := ((Bk.newE (w := w.alloc (.cells #[.slice sa L.length sc] 24)) (g := w.heap.size + 1) (by simp) cs 31).alloc (.cells #[.slice al E.lists.length cl, .int .i64 E.each, .int .i64 E.at_] 34)).alloc (.cells #[.bool false, .int .i64 0] 51)
  have k3 := (Bk.newE (w := (w.alloc (.cells #[.slice sa L.length sc] 24)).alloc (.cells cs 31)) (g := w.heap.size + 2) (by simp) #[.slice al E.lists.length cl, .int .i64 E.each, .int .i64 E.at_] 34).alloc (.cells #[.bool false, .int .i64 0] 51)
  have k4 := Bk.newE (w := ((w.alloc (.cells #[.slice sa L.length sc] 24)).alloc (.cells cs 31)).alloc (.cells #[.slice al E.lists.length cl, .int .i64 E.each, .int .i64 E.at_] 34)) (g := w.heap.size + 3) (by simp) #[.bool false, .int .i64 0] 51
  subst hcs
  go_enter Tryz.func13, Tryz.ntmps13
  go_upto_region 1 with fail
  generalize (((w.alloc _).alloc _).alloc _).alloc _ = V at *
  obtain ⟨q0, q1, q2, q3, q4, q5, q6⟩ := k2.at7
  have c31 := cItemsOf_any q hq _ ai ci aw cw ar cr V (AQ.keep B4)
  go_upto_region 2 with (first
    | (go_at_call 22; (with_reducible refine c31.mono ?_); rintro e X1 ⟨bi, rfl, hbi, MI, g1⟩))
  have c32 := isRunnable_any ns ao cap bi q.items.length (itemF q.items q.items.length) X1 (K.keep (gtrans B4 g1)) (AN.keep (gtrans B4 g1)) MI hr hf
  obtain ⟨rb, hrb⟩ : ∃ rb, runB (itemF q.items q.items.length) ns = rb := ⟨_, rfl⟩
  have HB : Hid (runB (itemF q.items q.items.length) ns = rb) := hrb
  rw [hrb] at c32
  clear hrb
  cases rb with
  | false =>
    have hx0 : noV2 = (xk, xn) := by have := HR.out; rwa [HB.out, if_neg (by decide)] at this
    obtain ⟨rfl, rfl⟩ := Prod.mk.inj hx0
    go_upto_region 3 with (first
      | (go_at_call 23; (with_reducible refine c32.mono ?_); rintro e X2 ⟨rfl, g2⟩))
    have k5 := (k4.keep g1).keep g2
    have kf := k5.free
    obtain ⟨e0, e1⟩ := k5.at2
    have B5 := gtrans (gtrans B4 g1) g2
    go_wp2
    refine bodyPost_ret (v := .agg #[.bool false, .int .i64 0]) (by simp [results, Tryz.results13, go_sem, e0, e1]) rfl ⟨rfl, ?_⟩
    first | exact B5 | exact gset (gset B5 (by simp; omega) _) (by simp; omega) _
  | true =>
    have hv : valA L (itemF q.items q.items.length) E ns (ns.length - 1) = (xk, xn) := by have := HR.out; rwa [HB.out, if_pos rfl] at this
    have htr : treeB ns = true := by
      have := HB.out
      unfold runB at this
      rw [Bool.and_eq_true] at this
      exact this.1
    go_upto_region 4 with (first
      | (go_at_call 23; (with_reducible refine c32.mono ?_); rintro e X2 ⟨rfl, g2⟩))
    have B5 := gtrans (gtrans B4 g1) g2
    have y0 := ((k1.keep g1).keep g2).one1
    obtain ⟨y1, y2, y3⟩ := ((k3.keep g1).keep g2).at3
    have k5 := (k4.keep g1).keep g2
    have zk := k5.lt
    have K1 := Bk.new X2 (evlC sa sc L bi E al cl (.slice none 0 0)) 99
    have G3 := galloc (Below.refl X2.heap.size X2) (.cells (evlC sa sc L bi E al cl (.slice none 0 0)) 99)
    go_upto_region 5 with fail
    generalize X2.alloc _ = Y at *
    have ct := treeE_any X2.heap.size bi q.items.length sa sc L (itemF q.items q.items.length) E al cl ns ao cap (.slice none 0 0) Y K1 X2 (A.keep B5) (MI.keep g2) (IE.keep B5) (AN.keep B5) (T.keep B5) (Nat.le_refl _) G3 htr hf hr hE
    rw [hv] at ct
    have kY := k5.keep G3
    have BY := gtrans B5 G3
    clear hv HR
    go_wp2_with (first
      | (go_at_call 35; (with_reducible refine ct.mono ?_); rintro e u ⟨rfl, gu⟩; have ku := k5.keep gu; obtain ⟨e0, e1⟩ := ku.at2; have kf := ku.free; have Bu := gtrans B5 gu))
    refine bodyPost_ret (v := .agg #[.bool xk, .int .i64 xn]) (by simp [results, Tryz.results13, go_sem, e0, e1]) rfl ⟨rfl, ?_⟩
    exact gset (gset Bu (by simp; omega) _) (by simp; omega) _
theorem eval_any (sa : Option Addr) (sc : Nat) (L : List Ty) (q : Qy) (hq : q.fit) (cs : Array Value) (ai : Option Addr) (ci : Nat) (aw : Option Addr) (cw : Nat) (ar : Option Addr) (cr : Nat) (ns : List Nd) (ao : Option Addr) (cap : Nat) (E : Envr) (al : Option Addr) (cl : Nat) (w : World) (K : KwAt w) (T : TbAt w) (A : IsTypes w sa L.length L) (AQ : IsQ w q cs ai ci aw cw ar cr) (AN : IsNds w ao ns) (IE : IsEnv w E al cl)
    (hf : ∀ k, (ns.getD k noNd).fit) (hr : ns.length * 64 ≤ 140737488351232) (hE : E.ok) :
    Calls Tryz.prog 13 #[.agg #[.slice sa L.length sc], .agg cs, .slice ao ns.length cap, envA al cl E] w fun e w' => e = .returned (VA (evalV L q E ns)) ∧ Below w.heap.size w w' :=
  eval_any2 sa sc L q hq cs ai ci aw cw ar cr ns ao cap E al cl w K T.two A AQ AN IE hf hr hE

end Go.Proofs.YtnolbpekdikamaaGreatDoor
namespace Go.Proofs.YtnolbpekdikamaaGreatDoor
open Go.RowKit Go.BigFrame Go.Proofs.YtnolbpekdikamaaGreatDoor.Ev
set_option linter.unusedVariables false
set_option linter.unusedSimpArgs false

def cmpG (L : List Ty) (q : Qy) (ns : List Nd) : Prg := ⟨(cmpS L q ns).code, (cmpS L q ns).cols.map Prod.snd⟩
theorem insTo_ok {x : Ins} (h : x.ok) {n : Nat} (hn : n ≤ 9223372036854775807) : (insTo x (n : Int)).ok := ⟨h.n, (fits_iff _).2 (by show (-9223372036854775808 : Int) ≤ ((n : Nat) : Int) ∧ ((n : Nat) : Int) ≤ 9223372036854775807; omega)⟩
theorem nodI_ok (M : ByteArray → Option Int) (s : Cst) {n : Nd} (hn : n.fit) : (nodI M s n).ok := ⟨by
  show fitsB (kLit n) = true
  unfold kLit
  split
  · decide
  · exact fI_fits hn.n, by show fitsB 0 = true; decide⟩
theorem treK_ok (L : List Ty) (M : ByteArray → Option Int) {ns : List Nd} (hf : ∀ k, (ns.getD k noNd).fit) : ∀ k, k ≤ 2000000000000000000 → ∀ x ∈ (treK L M ns k).code, x.ok
  | 0, _ => fun x hx => by simp [treK] at hx
  | k + 1, hk => by
    have ih := treK_ok L M hf k (by omega)
    have hlen := (treK_in L M ns k).2
    have h2 : ∀ x ∈ (nod2 L M (treK L M ns k) (ns.getD k noNd)).code, x.ok := fun x hx => by
      have hc : (nod1 L (treK L M ns k) (ns.getD k noNd)).code = (treK L M ns k).code := (nod1_cols (treK_cols L M ns k)).2.2.1
      unfold nod2 at hx
      dsimp only at hx
      rw [hc] at hx
      rcases List.mem_append.1 hx with h | h
      · exact ih x h
      · rw [List.mem_singleton] at h; subst h; exact nodI_ok M _ (hf k)
    have hl2 := (nod2_code L M (treK L M ns k) (ns.getD k noNd)).1
    have h3 : ∀ x ∈ (nodS L M (treK L M ns k) (ns.getD k noNd)).code, x.ok := fun x hx => by
      unfold nodS at hx
      split at hx
      · unfold landS at hx
        dsimp only at hx
        rcases List.mem_or_eq_of_mem_set hx with h | h
        · exact h2 x h
        · subst h
          refine insTo_ok ?_ (by omega)
          rw [List.getD_eq_getElem?_getD]
          cases e : (nod2 L M (treK L M ns k) (ns.getD k noNd)).code[lastN (nod2 L M (treK L M ns k) (ns.getD k noNd)).opn]? with
          | none => exact ⟨by decide, by decide⟩
          | some y => exact h2 y (List.mem_of_getElem? e)
      · exact h2 x hx
    rw [treK_succ]
    split
    · exact h3
    · intro x hx
      unfold jumpS at hx
      dsimp only at hx
      rcases List.mem_append.1 hx with h | h
      · exact h3 x h
      · rw [List.mem_singleton] at h; subst h; exact ⟨by show fitsB 0 = true; decide, by show fitsB 0 = true; decide⟩
theorem getD_ok {l : List Ins} (h : ∀ x ∈ l, x.ok) (j : Nat) : (l.getD j noIn).ok := by
  rw [List.getD_eq_getElem?_getD]
  cases e : l[j]? with
  | none => exact ⟨by decide, by decide⟩
  | some y => exact h y (List.mem_of_getElem? e)
def envZ : Envr := ⟨[], 0, 0⟩
theorem cmpG_ok (L : List Ty) (q : Qy) {ns : List Nd} (hf : ∀ k, (ns.getD k noNd).fit) (hr : ns.length * 64 ≤ 140737488351232) (hL : L.length * 8 ≤ 140737488351232) : (cmpG L q ns).ok := by
  unfold cmpG cmpS
  cases h : runB (itemF q.items q.items.length) ns with
  | false =>
    rw [if_neg (by decide)]
    exact ⟨by simp, by simp, fun j => by simp, fun j => by simp; exact ⟨by decide, by decide⟩⟩
  | true =>
    rw [if_pos rfl]
    have hlen := (run_tree L (itemF q.items q.items.length) envZ h).2.1
    have hc := (treK_len L (itemF q.items q.items.length) ns ns.length).1
    have hcols := treK_cols L (itemF q.items q.items.length) ns ns.length
    refine ⟨by show (treK L _ ns ns.length).code.length * 40 ≤ _; omega, by rw [List.length_map]; omega, fun j => ?_, getD_ok (treK_ok L _ hf ns.length (by omega))⟩
    show (((treK L _ ns ns.length).cols.map Prod.snd).getD j []).length * 8 ≤ _
    rw [List.getD_eq_getElem?_getD, List.getElem?_map]
    cases e : (treK L (itemF q.items q.items.length) ns ns.length).cols[j]? with
    | none => simp
    | some y =>
      have := hcols y (List.mem_of_getElem? e)
      show y.2.length * 8 ≤ _
      rw [this, colRow_len]
      exact hL
theorem cmpG_run (L : List Ty) (q : Qy) (E : Envr) {ns : List Nd} (h : runB (itemF q.items q.items.length) ns = true) : 0 < (cmpG L q ns).code.length ∧ runV (cmpG L q ns) E = (evalV L q E ns, 0) := by
  obtain ⟨h1, _, h2⟩ := run_tree L (itemF q.items q.items.length) E h
  unfold runV cmpG cmpS evalV
  rw [if_pos h, if_pos h]
  exact ⟨h1, h2⟩
theorem cmpG_not (L : List Ty) (q : Qy) (E : Envr) {ns : List Nd} (h : runB (itemF q.items q.items.length) ns = false) : cmpG L q ns = ⟨[], []⟩ ∧ evalV L q E ns = noV2 := by
  unfold cmpG cmpS evalV
  rw [h, if_neg (by decide), if_neg (by decide)]
  exact ⟨rfl, rfl⟩
theorem CmpP.pr {w : World} {L : List Ty} {q : Qy} {ns : List Nd} {e : Ending} {w' : World} (h : CmpP w (cmpS L q ns) e w') : ∃ ai ci ac cc ws, e = .returned (prgA (cmpG L q ns) ai ci ac cc) ∧ IsPr w' (cmpG L q ns) ai ci ac cc ∧ Below w.heap.size w w' ∧ w'.ownsRow w.heap.size 87 5 (.slice ai (cmpG L q ns).code.length ci) (cmpG L q ns).code.length (fl insC (cmpG L q ns).code) ∧
    ONst w' w.heap.size 39 3 1 intC (.slice ac (cmpG L q ns).cols.length cc) (cmpG L q ns).cols ws := by
  obtain ⟨ai, ci, ac, cc, ws, rfl, O, P, G⟩ := h.ex
  have hml : (cmpG L q ns).cols.length = (cmpS L q ns).cols.length := by unfold cmpG; simp
  rw [← hml] at P
  refine ⟨ai, ci, ac, cc, ws, by rw [← hml]; rfl, ⟨own_flat O, own_sl O, P.nst, own_sl P.own⟩, G, O, P⟩
end Go.Proofs.YtnolbpekdikamaaGreatDoor
namespace Go.Proofs.YtnolbpekdikamaaGreatDoor
open Go.RowKit Go.BigFrame Go.Proofs.YtnolbpekdikamaaGreatDoor.Ev
set_option linter.unusedVariables false
set_option linter.unusedSimpArgs false

theorem bytes_eqU {a b : ByteArray} : a.toList = b.toList ↔ a = b := by
  rw [ByteArray.toList_eq, ByteArray.toList_eq, Array.toList_inj]
  exact ⟨fun h => ByteArray.ext h, fun h => by rw [h]⟩
/-- The number of a variable's item; -1: none. -/
def itmI (l : List It) (s : ByteArray) : Int := (itemF l l.length s).getD (-1)
theorem itemF_some {l : List It} : ∀ {k : Nat} {s : ByteArray} {i : Int}, itemF l k s = some i → 0 ≤ i ∧ i < (k : Int) ∧ s = (l.getD i.toNat noIt).v ∧ ∀ j : Nat, (j : Int) < i → s ≠ (l.getD j noIt).v
  | 0, s, i, h => by cases h
  | k + 1, s, i, h => by
    unfold itemF at h
    cases hk : itemF l k s with
    | some j =>
      rw [hk] at h
      cases h
      obtain ⟨h1, h2, h3, h4⟩ := itemF_some hk
      exact ⟨h1, by omega, h3, h4⟩
    | none =>
      rw [hk] at h
      simp only at h
      split at h
      · rename_i e
        cases h
        refine ⟨by omega, by omega, by rw [Int.toNat_natCast]; exact e, fun j hj => ?_⟩
        exact itemF_none hk j (by omega)
      · cases h
where
  itemF_none {l : List It} : ∀ {k : Nat} {s : ByteArray}, itemF l k s = none → ∀ j, j < k → s ≠ (l.getD j noIt).v
  | 0, s, _, j, hj => by omega
  | k + 1, s, h, j, hj => by
    unfold itemF at h
    cases hk : itemF l k s with
    | some i => rw [hk] at h; cases h
    | none =>
      rw [hk] at h
      simp only at h
      split at h
      · cases h
      · rename_i e
        by_cases ej : j = k
        · subst ej; exact e
        · exact itemF_none hk j (by omega)
set_option maxRecDepth 100000 in
set_option maxHeartbeats 8000000 in
theorem lawItemOf_any (q : Qy) (hq : q.fit) (s : ByteArray) (hs : s.size ≤ 140737488351232) (cs : Array Value) (ai : Option Addr) (ci : Nat) (aw : Option Addr) (cw : Nat) (ar : Option Addr) (cr : Nat) (w : World) (A : IsQ w q cs ai ci aw cw ar cr) :
    Calls Tryz.prog 37 #[.agg cs, .string s] w fun e w' => e = .returned (.int .i64 (itmI q.items s)) ∧ Below w.heap.size w w' := by
  obtain ⟨he, Ai, _, _, si, _, _⟩ := A
  subst he
  have hnn := hq.n
  have B0 := galloc (Below.refl w.heap.size w) (.cells #[.slice ai q.items.length ci, .int .i64 q.mode, .int .i64 q.after, .slice aw q.wh.length cw, .int .i64 q.within, .string q.by_, .slice ar q.ret.length cr] 31)
  have S0 := Bk.new w #[.slice ai q.items.length ci, .int .i64 q.mode, .int .i64 q.after, .slice aw q.wh.length cw, .int .i64 q.within, .string q.by_, .slice ar q.ret.length cr] 31
  go_enter Tryz.func37, Tryz.ntmps37
  go_wp2
  generalize w.alloc (.cells #[.slice ai q.items.length ci, .int .i64 q.mode, .int .i64 q.after, .slice aw q.wh.length cw, .int .i64 q.within, .string q.by_, .slice ar q.ret.length cr] 31) = V at *
  go_loopw [5] (fun x wr => ∃ k : Nat, k ≤ q.items.length ∧ x = .int .i64 k ∧ itemF q.items k s = none ∧ Below V.heap.size V wr) (fun x _ => q.items.length - (intOf x).toNat)
  case atStart => exact ⟨0, Nat.zero_le _, rfl, rfl, Below.refl _ _⟩
  case round =>
    obtain ⟨k, hk, rfl, hF, G⟩ := hrel
    obtain ⟨s0, _⟩ := (S0.keep G).at7
    by_cases hlt : k < q.items.length
    · have hki : (k : Int) < (q.items.length : Int) := by omega
      obtain ⟨g, o, e1, a, c, x0, x1, x2, x3, x4, I, sl⟩ := (Ai.keep (gtrans B0 G)) k hlt
      rw [e1] at s0
      have hstep : itemF q.items (k + 1) s = if s = (q.items.getD k noIt).v then some (k : Int) else none := by
        show (match itemF q.items k s with | some i => some i | none => _) = _
        rw [hF]
      have hvz := (hq.its k).v
      have hmono : itemF q.items (k + 1) s = some (k : Int) → itmI q.items s = (k : Int) := fun h => by
        have go : ∀ m, k + 1 ≤ m → itemF q.items m s = some (k : Int) := by
          intro m hm
          induction m with
          | zero => omega
          | succ m ih =>
            by_cases e : m = k
            · subst e; exact h
            · show (match itemF q.items m s with | some i => some i | none => _) = _
              rw [ih (by omega)]
        unfold itmI
        rw [go _ (by omega)]
        rfl
      generalize (q.items.getD k noIt).v = iv at *
      by_cases e : s = iv
      · rw [if_pos e] at hstep
        have hI := show Hid (_ = _) from hmono hstep
        subst e
        clear hF hstep hmono x0 x1 x3 x4
        go_wp2
        go_ret
        exact ⟨by rw [hI.out]; rfl, gtrans B0 G⟩
      · rw [if_neg e] at hstep
        have ne1 : s.toList ≠ iv.toList := fun h => e (bytes_eqU.1 h)
        have ne2 : iv.toList ≠ s.toList := fun h => e (bytes_eqU.1 h.symm)
        have nb1 : (s.toList == iv.toList) = false := beq_eq_false_iff_ne.2 ne1
        have nb2 : (iv.toList == s.toList) = false := beq_eq_false_iff_ne.2 ne2
        have hS := show Hid (_ = _) from hstep
        clear hF hstep hmono x0 x1 x3 x4
        go_wp2
        go_roundw
        case rel => exact ⟨k + 1, by omega, by go_num, hS.out, by first | exact G | exact G.drew⟩
        case measure => simp [intOf]; omega
    · have hkn : k = q.items.length := by omega
      subst hkn
      have hI : Hid (itmI q.items s = -1) := by show _ = _; unfold itmI; rw [hF]; rfl
      clear hF
      go_wp2
      go_ret
      exact ⟨by rw [hI.out]; rfl, gtrans B0 G⟩

def ltB (op : Int) : Bool := decide (op = 2 ∨ op = 3 ∨ op = 13 ∨ 19 ≤ op)
set_option maxHeartbeats 1000000 in
theorem lawTruth_any (op : Int) (w : World) : Calls Tryz.prog 38 #[.int .i64 op] w fun e w' => e = .returned (.bool (ltB op)) ∧ w' = w := by
  by_cases h2 : op = 2
  · subst h2
    go_enter Tryz.func38, Tryz.ntmps38
    go_wp2
    go_ret
    exact ⟨rfl, rfl⟩
  have e2 : (op == 2) = false := beq_eq_false_iff_ne.2 h2
  by_cases h3 : op = 3
  · subst h3
    go_enter Tryz.func38, Tryz.ntmps38
    go_wp2
    go_ret
    exact ⟨rfl, rfl⟩
  have e3 : (op == 3) = false := beq_eq_false_iff_ne.2 h3
  by_cases h13 : op = 13
  · subst h13
    go_enter Tryz.func38, Tryz.ntmps38
    go_wp2
    go_ret
    exact ⟨rfl, rfl⟩
  have e13 : (op == 13) = false := beq_eq_false_iff_ne.2 h13
  by_cases h19 : 19 ≤ op
  · have hv : ltB op = true := decide_eq_true (.inr (.inr (.inr h19)))
    rw [hv]
    clear hv
    go_enter Tryz.func38, Tryz.ntmps38
    go_wp2
    go_ret
    exact ⟨rfl, rfl⟩
  · have hv : ltB op = false := decide_eq_false (by omega)
    rw [hv]
    clear hv
    go_enter Tryz.func38, Tryz.ntmps38
    go_wp2
    go_ret
    exact ⟨rfl, rfl⟩
theorem ltB_tr {op : Int} (h : 1 ≤ op ∧ op ≤ 26) : ltB op = kTr op := by
  unfold ltB kTr
  exact decide_eq_decide.2 (by omega)
/-- A node of a well shaped tree names a variable just if it is a mention. -/
theorem tree_var {ns : List Nd} (ht : treeB ns = true) {i : Nat} (hi : i < ns.length) : ((ns.getD i noNd).v = eS) ↔ kMent (ns.getD i noNd).op = false := by
  obtain ⟨bs, hb, _⟩ := tree_begs ht
  obtain ⟨_, h2⟩ := begs_at ns [] bs hb
  have h3 := h2 i hi
  have hne : ∀ {s : ByteArray}, nameB s = true → s ≠ eS := fun {s} h e => by
    subst e
    exact absurd h (by decide)
  have hm : kMent (ns.getD i noNd).op = false ↔ ¬ (4 ≤ (ns.getD i noNd).op ∧ (ns.getD i noNd).op ≤ 11) := decide_eq_false_iff_not
  rw [hm]
  by_cases hf : leafN (ns.getD i noNd) = true
  · have hx := (leafN_iff _).1 hf
    constructor
    · intro hv
      rcases hx with ⟨_, _, h⟩
      rcases h with h | h | h | h
      · omega
      · omega
      · exact absurd hv (hne h.2.2.1)
      · exact absurd hv (hne h.2.2.1)
    · intro hn
      rcases hx with ⟨_, _, h⟩
      rcases h with h | h | h | h
      · exact h.2.2.1
      · exact h.2.2.1
      · exact absurd h.1 (by omega)
      · exact absurd h.1 (by omega)
  · unfold nodeO at h3
    rw [if_neg hf] at h3
    have hbare : bareN (ns.getD i noNd) = true ∧ 12 ≤ (ns.getD i noNd).op := by
      split at h3
      · split at h3
        · rename_i h1 h4; exact ⟨h4.1, by omega⟩
        · cases h3
      · split at h3
        · split at h3
          · rename_i h1 h4 h5; exact ⟨h5.1, by omega⟩
          · cases h3
        · cases h3
    have hb2 := of_decide_eq_true hbare.1
    exact ⟨fun _ => by omega, fun _ => hb2.2.1⟩

set_option maxRecDepth 100000 in
set_option maxHeartbeats 16000000 in
theorem runnable_any (q : Qy) (hq : q.fit) (ns : List Nd) (ao : Option Addr) (cap : Nat) (cs : Array Value) (ai : Option Addr) (ci : Nat) (aw : Option Addr) (cw : Nat) (ar : Option Addr) (cr : Nat) (w : World) (K : KwAt w) (AQ : IsQ w q cs ai ci aw cw ar cr) (AN : IsNds w ao ns) (hr : ns.length * 64 ≤ 140737488351232) (hf : ∀ k, (ns.getD k noNd).fit) :
    Calls Tryz.prog 14 #[.agg cs, .slice ao ns.length cap] w fun e w' => e = .returned (.bool (runB (itemF q.items q.items.length) ns)) ∧ Below w.heap.size w w' := by
  obtain ⟨he, _⟩ := id AQ
  subst he
  have B0 := galloc (Below.refl w.heap.size w) (.cells #[.slice ai q.items.length ci, .int .i64 q.mode, .int .i64 q.after, .slice aw q.wh.length cw, .int .i64 q.within, .string q.by_, .slice ar q.ret.length cr] 31)
  have Q0 := Bk.new w #[.slice ai q.items.length ci, .int .i64 q.mode, .int .i64 q.after, .slice aw q.wh.length cw, .int .i64 q.within, .string q.by_, .slice ar q.ret.length cr] 31
  have hM : itemF q.items q.items.length = itemF q.items q.items.length := rfl
  obtain ⟨M, hMM⟩ : ∃ M, itemF q.items q.items.length = M := ⟨_, rfl⟩
  have cI := fun (s : ByteArray) (hs : s.size ≤ 140737488351232) (u : World) (G : Below w.heap.size w u) => lawItemOf_any q hq s hs _ ai ci aw cw ar cr u (AQ.keep G)
  unfold itmI at cI
  rw [hMM] at cI
  rw [hMM]
  have hM0 : ∀ s i, M s = some i → 0 ≤ i := fun s i h => by rw [← hMM] at h; exact (itemF_some h).1
  clear hM hMM
  have c1 := shTree_any ns ao cap _ (K.keep B0) (AN.keep B0) hr hf
  cases ht : treeB ns with
  | false =>
    have hv : runB M ns = false := by unfold runB; rw [ht]; rfl
    rw [hv]
    rw [ht] at c1
    clear hv ht
    go_enter Tryz.func14, Tryz.ntmps14
    go_wp2_with (first | (go_at_call 36; (with_reducible refine c1.mono ?_); rintro e u ⟨rfl, g1⟩))
    go_ret
    exact ⟨rfl, gtrans B0 g1⟩
  | true =>
    rw [ht] at c1
    have HT : Hid (treeB ns = true) := ht
    clear ht
    obtain ⟨v, hv⟩ : ∃ v, runB M ns = v := ⟨_, rfl⟩
    rw [hv]
    have HV : Hid (runB M ns = v) := hv
    clear hv
    go_enter Tryz.func14, Tryz.ntmps14
    go_upto_region 5 with (first | (go_at_call 36; (with_reducible refine c1.mono ?_); rintro e u ⟨rfl, g1⟩))
    have Qu := Q0.keep g1
    have Gu := gtrans B0 g1
    have Nu := AN.keep Gu
    clear c1
    obtain ⟨n, hn⟩ : ∃ n, ns.length = n := ⟨_, rfl⟩
    rw [hn] at hr ⊢
    go_loopw [6, 7, 8] (fun x _ _ wr => ∃ k : Nat, k ≤ n ∧ x = .int .i64 (k : Int) ∧ runK M ns k ∧ Below u.heap.size u wr) (fun x _ _ _ => n - (intOf x).toNat)
    case atStart => exact ⟨0, Nat.zero_le _, rfl, fun i hi => absurd hi (Nat.not_lt_zero _), Below.refl _ _⟩
    case round =>
      obtain ⟨k, hk, rfl, hK, G⟩ := hrel
      by_cases hlt : k < n
      · have hkn : k < ns.length := by omega
        have hki : (k : Int) < (n : Int) := by omega
        obtain ⟨hA, hB, ho1, ho2⟩ := tree_bnd HT.out hkn
        have hvar := tree_var HT.out hkn
        obtain ⟨g, o, rfl, x0, x1, x2, x3, x4, x5⟩ := (Nu.keep G) k hkn
        have G1 := galloc G (.cells (ndA (ns.getD k noNd)) 64)
        have N1 := Bk.new wr (ndA (ns.getD k noNd)) 64
        have Q1 := (Qu.keep G).alloc (.cells (ndA (ns.getD k noNd)) 64)
        have hfk := hf k
        have Nw := Nu.keep G1
        -- the operands' own operators
        have hop : ∀ z : Int, 0 ≤ z → z < (k : Int) → ∃ j : Nat, z = (j : Int) ∧ ltB (ns.getD z.toNat noNd).op = kTr (ns.getD z.toNat noNd).op ∧ (wr.alloc (.cells (ndA (ns.getD k noNd)) 64)).cell? ⟨g, o + j * 6, none⟩ = some (.int .i64 (ns.getD z.toNat noNd).op) := fun z h1 h2 => by
          obtain ⟨j, rfl⟩ : ∃ j : Nat, z = (j : Int) := ⟨z.toNat, by omega⟩
          obtain ⟨g', o', e', y0, _⟩ := Nw j (by omega)
          cases e'
          rw [Int.toNat_natCast]
          exact ⟨j, rfl, ltB_tr (by have := tree_bnd HT.out (show j < ns.length by omega); exact this.2.2), y0⟩
        have HN : Hid (runN M ns (ns.getD k noNd) = (kFit ns (ns.getD k noNd) && (!kMent (ns.getD k noNd).op || (M (ns.getD k noNd).v).isSome))) := rfl
        have hgo : runN M ns (ns.getD k noNd) = true → runK M ns (k + 1) := fun h i hi => by
          by_cases e : i = k
          · subst e; exact h
          · exact hK i (by omega)
        have hno : runN M ns (ns.getD k noNd) = false → v = false := fun h => by
          have := run_not hkn h
          rw [HV.out] at this
          exact this
        have HG := show Hid (_ → _) from hgo
        have HO := show Hid (_ → _) from hno
        have hjo : (decide ((ns.getD k noNd).op = 13 ∨ 25 ≤ (ns.getD k noNd).op)) = kJoin (ns.getD k noNd).op := by
          unfold kJoin
          exact decide_eq_decide.2 (by omega)
        unfold kFit kKid at HN
        generalize ns.getD k noNd = y at *
        obtain ⟨yop, yn, yv, yx, yl, yr⟩ := y
        unfold ndA at *
        dsimp only at *
        have nA : ¬ (k : Int) ≤ yl := by omega
        have nB : ¬ (k : Int) ≤ yr := by omega
        have hvz := hfk.v
        dsimp only at hvz
        have cIk := cI yv hvz _ (gtrans Gu G1)
        clear cI hf hgo hno
        go_upto_region 8 with fail
        generalize wr.alloc _ = V at *
        obtain ⟨m0, m1, m2, m3, m4, m5⟩ := N1.at6
        obtain ⟨t0, t1, t2, t3, t4, t5, t6⟩ := Q1.at7
        go_upto_region 10 with fail
        go_cut [42] from 33 to 42 (fun s wx => ((s = .bool true ∧ v = false) ∨ (s = .bool false ∧ (kMent yop = true → (M yv).isSome = true))) ∧ Below V.heap.size V wx)
        case first =>
          by_cases hv0 : yv = eS
          · have nm : kMent yop = false := hvar.1 hv0
            have e1 : yv.toList = [] := by rw [hv0, ByteArray.toList_eq]
            have e0 : yv.toList.isEmpty = true := by rw [e1]; rfl
            clear cIk e1 hv0
            go_wp2
            go_meet
            case rel => exact ⟨.inr ⟨rfl, (fun h => by rw [nm] at h; cases h)⟩, Below.refl _ _⟩
          · have nm : kMent yop = true := by
              cases h : kMent yop with
              | true => rfl
              | false => exact absurd (hvar.2 h) hv0
            have e1 : yv.toList ≠ [] := fun h => hv0 (bytes_eqU.1 (h.trans (by rw [ByteArray.toList_eq])))
            have e0 : yv.toList.isEmpty = false := by cases h : yv.toList with
              | nil => exact absurd h e1
              | cons _ _ => rfl
            cases hMv : M yv with
            | none =>
              rw [hMv] at cIk
              have hvf : v = false := HO.out (by rw [HN.out, nm, hMv]; exact Bool.and_false _)
              have HVF := show Hid _ from hvf
              have q1 : ((none : Option Int).getD (-1)) < 0 := by decide
              clear hMv hvf
              go_wp2_with (first | (go_at_call 37; (with_reducible refine cIk.mono ?_); rintro e u2 ⟨rfl, g2⟩))
              go_meet
              case rel => exact ⟨.inl ⟨rfl, HVF.out⟩, g2⟩
            | some i =>
              rw [hMv] at cIk
              have hi0 := hM0 yv i hMv
              have HMv : Hid ((M yv).isSome = true) := by show (M yv).isSome = true; rw [hMv]; rfl
              have q1 : ¬ ((some i : Option Int).getD (-1)) < 0 := by show ¬ i < 0; omega
              generalize (some i : Option Int).getD (-1) = z at cIk q1
              clear hMv
              go_wp2_with (first | (go_at_call 37; (with_reducible refine cIk.mono ?_); rintro e u2 ⟨rfl, g2⟩))
              go_meet
              case rel => exact ⟨.inr ⟨by simp [q1], fun _ => HMv.out⟩, g2⟩
        case rest =>
          obtain ⟨hms, G2⟩ := hcut
          have N2 := N1.keep G2
          have GG := gtrans (gtrans Gu G1) G2
          rcases hms with ⟨rfl, hvf⟩ | ⟨rfl, hms⟩
          · subst hvf
            go_wp2
            go_ret
            exact ⟨rfl, GG⟩
          obtain ⟨m0, m1, m2, m3, m4, m5⟩ := N2.at6
          go_upto_region 12 with fail
          go_cut [8] from 43 to 50 (fun s wx => s = .bool (kJoin yop) ∧ wx = wc)
          case first =>
            by_cases h13 : yop = 13
            · have h13' : (yop == 13) = true := beq_iff_eq.2 h13
              have hd : kJoin yop = true := hjo.symm.trans (decide_eq_true (.inl h13))
              clear h13
              go_wp2
              go_meet
              case rel => exact ⟨by rw [hd], rfl⟩
            have e13 : (yop == 13) = false := beq_eq_false_iff_ne.2 h13
            by_cases h25 : 25 ≤ yop
            · have hd : kJoin yop = true := hjo.symm.trans (decide_eq_true (.inr h25))
              go_wp2
              go_meet
              case rel => exact ⟨by rw [hd], rfl⟩
            · have hd : kJoin yop = false := hjo.symm.trans (decide_eq_false (by omega))
              go_wp2
              go_meet
              case rel => exact ⟨by rw [hd], rfl⟩
          case rest =>
            obtain ⟨rfl, hwx⟩ := hcut
            have hwx' := hwx.symm
            subst hwx'
            clear hwx

            obtain ⟨byl, hbyl⟩ : ∃ b, (decide (0 ≤ yl) && (kTr (ns.getD yl.toNat noNd).op != kJoin yop)) = b := ⟨_, rfl⟩
            have HByl : Hid ((decide (0 ≤ yl) && (kTr (ns.getD yl.toNat noNd).op != kJoin yop)) = byl) := hbyl
            clear hbyl
            obtain ⟨m0, m1, m2, m3, m4, m5⟩ := N2.at6
            go_upto_region 13 with fail
            go_cut [64] from 51 to 64 (fun s wx => s = .bool byl ∧ wx = wc)
            case first =>
              have hby := HByl.out
              by_cases h0 : 0 ≤ yl
              · obtain ⟨j, rfl, e1, e2⟩ := hop yl h0 (by omega)
                rw [decide_eq_true h0, Bool.true_and] at hby
                have ct := lawTruth_any (ns.getD (j : Int).toNat noNd).op wc
                have e3 := (G2.cell (p := ⟨_, _, none⟩) (lt_of_cell e2)).trans e2
                generalize (ns.getD (j : Int).toNat noNd).op = zop at *
                clear e2
                go_wp2_with (first | (go_at_call 38; (with_reducible refine ct.mono ?_); rintro e u2 ⟨rfl, hu⟩; have hu' := hu.symm; subst hu'))
                go_meet
                case rel => exact ⟨by rw [← hby]; rfl, rfl⟩
              · rw [decide_eq_false h0, Bool.false_and] at hby
                subst hby
                go_wp2
                go_meet
                case rel => exact ⟨rfl, rfl⟩
            case rest =>
              obtain ⟨rfl, hwx⟩ := hcut
              have hwx' := hwx.symm
              subst hwx'
              clear hwx
              cases byl with
              | true =>
                have hvf : v = false := HO.out (by rw [HN.out, HByl.out]; rfl)
                subst hvf
                go_wp2
                go_ret
                exact ⟨rfl, GG⟩
              | false =>
              obtain ⟨byr, hbyr⟩ : ∃ b, (decide (0 ≤ yr) && (kTr (ns.getD yr.toNat noNd).op != kJoin yop)) = b := ⟨_, rfl⟩
              have HByr : Hid ((decide (0 ≤ yr) && (kTr (ns.getD yr.toNat noNd).op != kJoin yop)) = byr) := hbyr
              clear hbyr
              obtain ⟨m0, m1, m2, m3, m4, m5⟩ := N2.at6
              go_upto_region 15 with fail
              go_cut [78] from 65 to 78 (fun s wx => s = .bool byr ∧ wx = wc)
              case first =>
                have hby := HByr.out
                by_cases h0 : 0 ≤ yr
                · obtain ⟨j, rfl, e1, e2⟩ := hop yr h0 (by omega)
                  rw [decide_eq_true h0, Bool.true_and] at hby
                  have ct := lawTruth_any (ns.getD (j : Int).toNat noNd).op wc
                  have e3 := (G2.cell (p := ⟨_, _, none⟩) (lt_of_cell e2)).trans e2
                  generalize (ns.getD (j : Int).toNat noNd).op = zop at *
                  clear e2
                  go_wp2_with (first | (go_at_call 38; (with_reducible refine ct.mono ?_); rintro e u2 ⟨rfl, hu⟩; have hu' := hu.symm; subst hu'))
                  go_meet
                  case rel => exact ⟨by rw [← hby]; rfl, rfl⟩
                · rw [decide_eq_false h0, Bool.false_and] at hby
                  subst hby
                  go_wp2
                  go_meet
                  case rel => exact ⟨rfl, rfl⟩
              case rest =>
                obtain ⟨rfl, hwx⟩ := hcut
                have hwx' := hwx.symm
                subst hwx'
                clear hwx
                cases byr with
                | true =>
                  have hvf : v = false := HO.out (by rw [HN.out, HByl.out, HByr.out]; rfl)
                  subst hvf
                  go_wp2
                  go_ret
                  exact ⟨rfl, GG⟩
                | false =>
                  have hrun : runN M ns ⟨yop, yn, yv, yx, yl, yr⟩ = true := by
                    rw [HN.out, HByl.out, HByr.out]
                    cases hm : kMent yop with
                    | false => rfl
                    | true => rw [hms hm]; rfl
                  have hnext := HG.out hrun
                  have HX := show Hid _ from hnext
                  have GU := gtrans G1 G2
                  clear hrun hnext
                  go_wp2
                  go_roundw
                  case rel => exact ⟨k + 1, by omega, by go_num, HX.out, GU⟩
                  case measure => simp [intOf]; omega
      · obtain rfl : k = n := by omega
        have hv : v = true := HV.out.symm.trans (run_all HT.out (by rw [hn]; exact hK))
        subst hv
        have hp0 : 0 < k := by
          obtain ⟨_, _, hp⟩ := tree_begs HT.out
          omega
        have hpos : (0 : Int) < (k : Int) := by omega
        clear hlt
        go_wp2
        go_ret
        exact ⟨rfl, gtrans Gu G⟩

end Go.Proofs.YtnolbpekdikamaaGreatDoor
