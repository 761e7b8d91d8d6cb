/- Compile. And what goes with it: 7 texts in one. -/
import Derived.Test.YtnolbpekdikamaaGreatDoorJa17
import Derived.Laws.OwnMore
import Derived.Deep.Onto
import Derived.Test.YtnolbpekdikamaaGreatDoorRows
import Derived.Shelf.Lays2
import Derived.Shelf.Strings.OnBuilder
namespace Go.Proofs.YtnolbpekdikamaaGreatDoor
open Go.RowKit Go.BigFrame Go.Proofs.YtnolbpekdikamaaGreatDoor.Ev
set_option linter.unusedVariables false
set_option linter.unusedSimpArgs false

/-- What Compile comes to. -/
def cmpS (L : List Ty) (q : Qy) (ns : List Nd) : Cst := if runB (itemF q.items q.items.length) ns = true then treK L (itemF q.items q.items.length) ns ns.length else ⟨[], [], []⟩
/-- What Compile answers: rows of its own. -/
structure CmpP (w : World) (s : Cst) (e : Ending) (w' : World) : Prop where
  ex : ∃ ai ci ac cc ws, e = .returned (.agg #[.slice ai s.code.length ci, .slice ac s.cols.length cc]) ∧ w'.ownsRow w.heap.size 87 5 (.slice ai s.code.length ci) s.code.length (fl insC s.code) ∧
    ONst w' w.heap.size 39 3 1 intC (.slice ac s.cols.length cc) (s.cols.map Prod.snd) ws ∧ Below w.heap.size w w'
theorem Bk.one1 {w : World} {b : Nat} {c0 : Value} {t : TypeId} (h : Bk w b #[c0] t) : w.cell? ⟨b, 0, none⟩ = some c0 := cell_of_row w b 0 _ _ _ h
theorem infoPg : (Tryz.prog.info? 48).map (·.size) = some 2 := by kernel_rfl
set_option maxRecDepth 100000 in
set_option maxHeartbeats 4000000 in
theorem compile_any (sa : Option Addr) (sc : Nat) (L : List Ty) (q : Qy) (hq : q.fit) (cs : Array Value) (ai : Option Addr) (ci : Nat) (aw : Option Addr) (cw : Nat) (ar : Option Addr) (cr : Nat) (ns : List Nd) (ao : Option Addr) (cap : Nat) (w : World) (K : KwAt w) (A : IsTypes w sa L.length L) (AQ : IsQ w q cs ai ci aw cw ar cr) (AN : IsNds w ao ns)
    (hf : ∀ k, (ns.getD k noNd).fit) (hr : ns.length * 64 ≤ 140737488351232) (hL : L.length * 8 ≤ 140737488351232) :
    Calls Tryz.prog 11 #[.agg #[.slice sa L.length sc], .agg cs, .slice ao ns.length cap] w fun e w' => CmpP w (cmpS L q ns) e w' := by
  have hcs := AQ.eq
  obtain ⟨r, hr0⟩ : ∃ r, cmpS L q ns = r := ⟨_, rfl⟩
  rw [hr0]
  have HR : Hid ((if runB (itemF q.items q.items.length) ns = true then treK L (itemF q.items q.items.length) ns ns.length else ⟨[], [], []⟩) = r) := hr0
  clear hr0
  have B1 := galloc (Below.refl w.heap.size w) (.cells #[.slice sa L.length sc] 24)
  have B2 := galloc B1 (.cells cs 31)
  have B3 := galloc B2 (.cells #[.slice none 0 0, .slice none 0 0] 48)
  have k1 := ((Bk.new w #[.slice sa L.length sc] 24).alloc (.cells cs 31)).alloc (.cells #[.slice none 0 0, .slice none 0 0] 48)
  have k2 := (Bk.newE (w := w.alloc (.cells #[.slice sa L.length sc] 24)) (g := w.heap.size + 1) (by simp) cs 31).alloc (.cells #[.slice none 0 0, .slice none 0 0] 48)
  have k3 := Bk.newE (w := (w.alloc (.cells #[.slice sa L.length sc] 24)).alloc (.cells cs 31)) (g := w.heap.size + 2) (by simp) #[.slice none 0 0, .slice none 0 0] 48
  subst hcs
  go_enter Tryz.func11, Tryz.ntmps11
  go_upto_region 1 with fail
  generalize ((w.alloc _).alloc _).alloc _ = V at *
  obtain ⟨q0, q1, q2, q3, q4, q5, q6⟩ := k2.at7
  have c31 := cItemsOf_any q hq _ ai ci aw cw ar cr V (AQ.keep B3)
  go_upto_region 2 with (first
    | (go_at_call 22; (with_reducible refine c31.mono ?_); rintro e X1 ⟨bi, rfl, hbi, MI, g1⟩))
  have c32 := isRunnable_any ns ao cap bi q.items.length (itemF q.items q.items.length) X1 (K.keep (gtrans B3 g1)) (AN.keep (gtrans B3 g1)) MI hr hf
  obtain ⟨rb, hrb⟩ : ∃ rb, runB (itemF q.items q.items.length) ns = rb := ⟨_, rfl⟩
  have HB : Hid (runB (itemF q.items q.items.length) ns = rb) := hrb
  rw [hrb] at c32
  clear hrb
  cases rb with
  | false =>
    have hr0 : r = ⟨[], [], []⟩ := by have := HR.out; rw [HB.out] at this; exact this.symm
    subst hr0
    go_upto_region 3 with (first
      | (go_at_call 23; (with_reducible refine c32.mono ?_); rintro e X2 ⟨rfl, g2⟩))
    have k5 := (k3.keep g1).keep g2
    have kf := k5.free
    obtain ⟨e0, e1⟩ := k5.at2
    have B5 := gtrans (gtrans B3 g1) g2
    have k6 := (k5.set 0 (.slice none 0 0)).set 1 (.slice none 0 0)
    have HK := show Hid _ from k6
    have B6 := gset (gset B5 (p := ⟨w.heap.size + 2, 0, none⟩) (show _ ≤ w.heap.size + 2 by omega) (.slice none 0 0)) (p := ⟨w.heap.size + 2, 1, none⟩) (show _ ≤ w.heap.size + 2 by omega) (.slice none 0 0)
    clear k6
    go_wp2
    refine bodyPost_ret (results_cell_row rfl _ _ (w.heap.size + 2) 48 #[.slice none 0 0, .slice none 0 0] (0, 0) _ rfl HK.out Tryz.underlying48 rfl infoPg) rfl ?_
    exact ⟨none, 0, none, 0, [], rfl, World.ownsRow_nil _ _ _ _, ONst.nil _ _ _ _ _ _, B6⟩
  | true =>
    have hr0 : r = treK L (itemF q.items q.items.length) ns ns.length := by have := HR.out; rw [HB.out] at this; exact this.symm
    subst hr0
    have htr : treeB ns = true := by
      have := HB.out
      unfold runB at this
      rw [Bool.and_eq_true] at this
      exact this.1
    go_upto_region 4 with (first
      | (go_at_call 23; (with_reducible refine c32.mono ?_); rintro e X2 ⟨rfl, g2⟩))
    have B5 := gtrans (gtrans B3 g1) g2
    have y0 := ((k1.keep g1).keep g2).one1
    -- the compiler is made
    have hmm : ∀ u : World, (Instr.makeMap 78 none).run Tryz.prog u = .ok (.map (some u.heap.size)) (u.alloc (.map #[] 0)) := fun u => run_makeMap _ u
    have AX : IsTypes X2 sa L.length L := A.keep B5
    have NX : IsNds X2 ao ns := AN.keep B5
    have MX : MpAt X2 bi q.items.length (itemF q.items q.items.length) := MI.keep g2
    have k5 := (k3.keep g1).keep g2
    have zk := k5.lt
    have MP1 := (MpX.new X2).keep (galloc (Below.refl _ _) (.cells #[.slice sa L.length sc, .map (some bi), .map (some X2.heap.size), .slice none 0 0, .slice none 0 0, .slice none 0 0] 82))
    have K1 := Bk.newE (w := X2.alloc (.map #[] 0)) (g := X2.heap.size + 1) (by simp) #[.slice sa L.length sc, .map (some bi), .map (some X2.heap.size), .slice none 0 0, .slice none 0 0, .slice none 0 0] 82
    have G3 := galloc (galloc (Below.refl X2.heap.size X2) (.map #[] 0)) (.cells #[.slice sa L.length sc, .map (some bi), .map (some X2.heap.size), .slice none 0 0, .slice none 0 0, .slice none 0 0] 82)
    go_upto_region 5 with fail
    generalize (X2.alloc (.map #[] 0)).alloc _ = Y at *
    have CI : Cmp Y (X2.heap.size + 1) X2.heap.size (fotC (X2.heap.size + 1) X2.heap.size (.slice none 0 0) (.slice none 0 0) (.slice none 0 0)) (.slice sa L.length sc) (.map (some bi)) ⟨[], [], []⟩ :=
      ⟨X2.heap.size, .slice none 0 0, .slice none 0 0, .slice none 0 0, [], rfl, ⟨K1, World.ownsRow_nil _ _ _ _, ONst.nil _ _ _ _ _ _, World.ownsRow_nil _ _ _ _, MP1, (fun _ _ _ h => by cases h), G3.size, by omega, Nat.le_refl _⟩⟩
    have ct := tree_any (X2.heap.size + 1) X2.heap.size bi q.items.length _ sa sc L (itemF q.items q.items.length) ns ao cap Y CI X2 AX MX NX (Nat.le_refl _) G3 htr hf hr hL
    have hlo := CI.lo
    have kY := k5.keep G3
    have BY := gtrans B5 G3
    obtain ⟨s, hs⟩ : ∃ s, treK L (itemF q.items q.items.length) ns ns.length = s := ⟨_, rfl⟩
    rw [hs] at ct
    have HS : Hid (treK L (itemF q.items q.items.length) ns ns.length = s) := hs
    clear hs
    go_upto_region 6 with (first
      | (go_at_call 24; (with_reducible refine ct.mono ?_); rintro e u ⟨rfl, S', C', F', V'⟩))
    have nS : ¬ fotC (X2.heap.size + 1) X2.heap.size (.slice none 0 0) (.slice none 0 0) (.slice none 0 0) (w.heap.size + 2) := fun h => by have := hlo _ h; omega
    have ku := F'.bk kY nS
    have Bu : Below w.heap.size w u := F'.toBelow BY (Nat.le_refl _) (fun j h => by have := hlo j h; have := B5.size; omega)
    obtain ⟨bm, vc, vl, vo, ws, rfl, I⟩ := C'
    obtain ⟨ac', cc', e0, _⟩ := own_form I.code
    obtain ⟨al', cl', e1, _⟩ := own_form I.cols.own
    have hml : (s.cols.map Prod.snd).length = s.cols.length := by simp
    rw [hml] at e1
    subst e0 e1
    have d3 := I.blk.at6.2.2.2.1
    have d4 := I.blk.at6.2.2.2.2.1
    have kf := ku.free
    have B6 := gset (gset Bu (p := ⟨w.heap.size + 2, 0, none⟩) (show _ ≤ w.heap.size + 2 by omega) (.slice ac' s.code.length cc')) (p := ⟨w.heap.size + 2, 1, none⟩) (show _ ≤ w.heap.size + 2 by omega) (.slice al' s.cols.length cl')
    have ku1 := ku.set 0 (.slice ac' s.code.length cc')
    have O1 := ty_set (ty_set I.code ku (by decide) 0 (.slice ac' s.code.length cc')) ku1 (by decide) 1 (.slice al' s.cols.length cl')
    have P1 := (I.cols.map (u := u.setCell ⟨w.heap.size + 2, 0, none⟩ (.slice ac' s.code.length cc')) fun e s1 v n xs he o => ty_set o ku (by rcases he with rfl | rfl <;> decide) 0 _).map (u := (u.setCell ⟨w.heap.size + 2, 0, none⟩ (.slice ac' s.code.length cc')).setCell ⟨w.heap.size + 2, 1, none⟩ (.slice al' s.cols.length cl')) fun e s1 v n xs he o => ty_set o ku1 (by rcases he with rfl | rfl <;> decide) 1 _
    have HK := show Hid _ from ku1.set 1 (.slice al' s.cols.length cl')
    have HO := show Hid _ from O1
    have HP := show Hid _ from P1
    obtain ⟨f0, f1⟩ := ku.at2
    clear O1 P1 ku1 ct
    go_wp2
    refine bodyPost_ret (results_cell_row rfl _ _ (w.heap.size + 2) 48 #[.slice ac' s.code.length cc', .slice al' s.cols.length cl'] (0, 0) _ rfl HK.out Tryz.underlying48 rfl infoPg) rfl ?_
    have hs2 := HS.out
    subst hs2
    exact ⟨ac', cc', al', cl', ws, rfl, World.ownsRow.mono HO.out B5.size, HP.out.mono B5.size, B6⟩

end Go.Proofs.YtnolbpekdikamaaGreatDoor
namespace Go.Proofs.YtnolbpekdikamaaGreatDoor
open Go.RowKit Go.BigFrame Go.Proofs.YtnolbpekdikamaaGreatDoor.Ev
set_option linter.unusedVariables false
set_option linter.unusedSimpArgs false

/-- What Eval comes to. -/
def evalV (L : List Ty) (q : Qy) (E : Envr) (ns : List Nd) : V2 := if runB (itemF q.items q.items.length) ns = true then valA L (itemF q.items q.items.length) E ns (ns.length - 1) else noV2
set_option maxRecDepth 100000 in
set_option maxHeartbeats 4000000 in
theorem eval_any2 (sa : Option Addr) (sc : Nat) (L : List Ty) (q : Qy) (hq : q.fit) (cs : Array Value) (ai : Option Addr) (ci : Nat) (aw : Option Addr) (cw : Nat) (ar : Option Addr) (cr : Nat) (ns : List Nd) (ao : Option Addr) (cap : Nat) (E : Envr) (al : Option Addr) (cl : Nat) (w : World) (K : KwAt w) (T : TbA2 w) (A : IsTypes w sa L.length L) (AQ : IsQ w q cs ai ci aw cw ar cr) (AN : IsNds w ao ns) (IE : IsEnv w E al cl)
    (hf : ∀ k, (ns.getD k noNd).fit) (hr : ns.length * 64 ≤ 140737488351232) (hE : E.ok) :
    Calls Tryz.prog 13 #[.agg #[.slice sa L.length sc], .agg cs, .slice ao ns.length cap, envA al cl E] w fun e w' => e = .returned (VA (evalV L q E ns)) ∧ Below w.heap.size w w' := by
  have hcs := AQ.eq
  obtain ⟨⟨xk, xn⟩, hx⟩ : ∃ x, evalV L q E ns = x := ⟨_, rfl⟩
  rw [hx]
  have HR : Hid ((if runB (itemF q.items q.items.length) ns = true then valA L (itemF q.items q.items.length) E ns (ns.length - 1) else noV2) = (xk, xn)) := hx
  clear hx
  have B1 := galloc (Below.refl w.heap.size w) (.cells #[.slice sa L.length sc] 24)
  have B2 := galloc B1 (.cells cs 31)
  have B3 := galloc B2 (.cells #[.slice al E.lists.length cl, .int .i64 E.each, .int .i64 E.at_] 34)
  have B4 := galloc B3 (.cells #[.bool false, .int .i64 0] 51)
  have k1 := (((Bk.new w #[.slice sa L.length sc] 24).alloc (.cells cs 31)).alloc (.cells #[.slice al E.lists.length cl, .int .i64 E.each, .int .i64 E.at_] 34)).alloc (.cells #[.bool false, .int .i64 0] 51)
  have k2 := ((Bk.newE (w := w.alloc (.cells #[.slice sa L.length sc] 24)) (g := w.heap.size + 1) (by simp) cs 31).alloc (.cells #[.slice al E.lists.length cl, .int .i64 E.each, .int .i64 E.at_] 34)).alloc (.cells #[.bool false, .int .i64 0] 51)
  have k3 := (Bk.newE (w := (w.alloc (.cells #[.slice sa L.length sc] 24)).alloc (.cells cs 31)) (g := w.heap.size + 2) (by simp) #[.slice al E.lists.length cl, .int .i64 E.each, .int .i64 E.at_] 34).alloc (.cells #[.bool false, .int .i64 0] 51)
  have k4 := Bk.newE (w := ((w.alloc (.cells #[.slice sa L.length sc] 24)).alloc (.cells cs 31)).alloc (.cells #[.slice al E.lists.length cl, .int .i64 E.each, .int .i64 E.at_] 34)) (g := w.heap.size + 3) (by simp) #[.bool false, .int .i64 0] 51
  subst hcs
  go_enter Tryz.func13, Tryz.ntmps13
  go_upto_region 1 with fail
  generalize (((w.alloc _).alloc _).alloc _).alloc _ = V at *
  obtain ⟨q0, q1, q2, q3, q4, q5, q6⟩ := k2.at7
  have c31 := cItemsOf_any q hq _ ai ci aw cw ar cr V (AQ.keep B4)
  go_upto_region 2 with (first
    | (go_at_call 22; (with_reducible refine c31.mono ?_); rintro e X1 ⟨bi, rfl, hbi, MI, g1⟩))
  have c32 := isRunnable_any ns ao cap bi q.items.length (itemF q.items q.items.length) X1 (K.keep (gtrans B4 g1)) (AN.keep (gtrans B4 g1)) MI hr hf
  obtain ⟨rb, hrb⟩ : ∃ rb, runB (itemF q.items q.items.length) ns = rb := ⟨_, rfl⟩
  have HB : Hid (runB (itemF q.items q.items.length) ns = rb) := hrb
  rw [hrb] at c32
  clear hrb
  cases rb with
  | false =>
    have hx0 : noV2 = (xk, xn) := by have := HR.out; rwa [HB.out, if_neg (by decide)] at this
    obtain ⟨rfl, rfl⟩ := Prod.mk.inj hx0
    go_upto_region 3 with (first
      | (go_at_call 23; (with_reducible refine c32.mono ?_); rintro e X2 ⟨rfl, g2⟩))
    have k5 := (k4.keep g1).keep g2
    have kf := k5.free
    obtain ⟨e0, e1⟩ := k5.at2
    have B5 := gtrans (gtrans B4 g1) g2
    go_wp2
    refine bodyPost_ret (v := .agg #[.bool false, .int .i64 0]) (by simp [results, Tryz.results13, go_sem, e0, e1]) rfl ⟨rfl, ?_⟩
    first | exact B5 | exact gset (gset B5 (by simp; omega) _) (by simp; omega) _
  | true =>
    have hv : valA L (itemF q.items q.items.length) E ns (ns.length - 1) = (xk, xn) := by have := HR.out; rwa [HB.out, if_pos rfl] at this
    have htr : treeB ns = true := by
      have := HB.out
      unfold runB at this
      rw [Bool.and_eq_true] at this
      exact this.1
    go_upto_region 4 with (first
      | (go_at_call 23; (with_reducible refine c32.mono ?_); rintro e X2 ⟨rfl, g2⟩))
    have B5 := gtrans (gtrans B4 g1) g2
    have y0 := ((k1.keep g1).keep g2).one1
    obtain ⟨y1, y2, y3⟩ := ((k3.keep g1).keep g2).at3
    have k5 := (k4.keep g1).keep g2
    have zk := k5.lt
    have K1 := Bk.new X2 (evlC sa sc L bi E al cl (.slice none 0 0)) 99
    have G3 := galloc (Below.refl X2.heap.size X2) (.cells (evlC sa sc L bi E al cl (.slice none 0 0)) 99)
    go_upto_region 5 with fail
    generalize X2.alloc _ = Y at *
    have ct := treeE_any X2.heap.size bi q.items.length sa sc L (itemF q.items q.items.length) E al cl ns ao cap (.slice none 0 0) Y K1 X2 (A.keep B5) (MI.keep g2) (IE.keep B5) (AN.keep B5) (T.keep B5) (Nat.le_refl _) G3 htr hf hr hE
    rw [hv] at ct
    have kY := k5.keep G3
    have BY := gtrans B5 G3
    clear hv HR
    go_wp2_with (first
      | (go_at_call 35; (with_reducible refine ct.mono ?_); rintro e u ⟨rfl, gu⟩; have ku := k5.keep gu; obtain ⟨e0, e1⟩ := ku.at2; have kf := ku.free; have Bu := gtrans B5 gu))
    refine bodyPost_ret (v := .agg #[.bool xk, .int .i64 xn]) (by simp [results, Tryz.results13, go_sem, e0, e1]) rfl ⟨rfl, ?_⟩
    exact gset (gset Bu (by simp; omega) _) (by simp; omega) _
theorem eval_any (sa : Option Addr) (sc : Nat) (L : List Ty) (q : Qy) (hq : q.fit) (cs : Array Value) (ai : Option Addr) (ci : Nat) (aw : Option Addr) (cw : Nat) (ar : Option Addr) (cr : Nat) (ns : List Nd) (ao : Option Addr) (cap : Nat) (E : Envr) (al : Option Addr) (cl : Nat) (w : World) (K : KwAt w) (T : TbAt w) (A : IsTypes w sa L.length L) (AQ : IsQ w q cs ai ci aw cw ar cr) (AN : IsNds w ao ns) (IE : IsEnv w E al cl)
    (hf : ∀ k, (ns.getD k noNd).fit) (hr : ns.length * 64 ≤ 140737488351232) (hE : E.ok) :
    Calls Tryz.prog 13 #[.agg #[.slice sa L.length sc], .agg cs, .slice ao ns.length cap, envA al cl E] w fun e w' => e = .returned (VA (evalV L q E ns)) ∧ Below w.heap.size w w' :=
  eval_any2 sa sc L q hq cs ai ci aw cw ar cr ns ao cap E al cl w K T.two A AQ AN IE hf hr hE

end Go.Proofs.YtnolbpekdikamaaGreatDoor
namespace Go.Proofs.YtnolbpekdikamaaGreatDoor
open Go.RowKit Go.BigFrame Go.Proofs.YtnolbpekdikamaaGreatDoor.Ev
set_option linter.unusedVariables false
set_option linter.unusedSimpArgs false

def cmpG (L : List Ty) (q : Qy) (ns : List Nd) : Prg := ⟨(cmpS L q ns).code, (cmpS L q ns).cols.map Prod.snd⟩
theorem insTo_ok {x : Ins} (h : x.ok) {n : Nat} (hn : n ≤ 9223372036854775807) : (insTo x (n : Int)).ok := ⟨h.n, (fits_iff _).2 (by show (-9223372036854775808 : Int) ≤ ((n : Nat) : Int) ∧ ((n : Nat) : Int) ≤ 9223372036854775807; omega)⟩
theorem nodI_ok (M : ByteArray → Option Int) (s : Cst) {n : Nd} (hn : n.fit) : (nodI M s n).ok := ⟨by
  show fitsB (kLit n) = true
  unfold kLit
  split
  · decide
  · exact fI_fits hn.n, by show fitsB 0 = true; decide⟩
theorem treK_ok (L : List Ty) (M : ByteArray → Option Int) {ns : List Nd} (hf : ∀ k, (ns.getD k noNd).fit) : ∀ k, k ≤ 2000000000000000000 → ∀ x ∈ (treK L M ns k).code, x.ok
  | 0, _ => fun x hx => by simp [treK] at hx
  | k + 1, hk => by
    have ih := treK_ok L M hf k (by omega)
    have hlen := (treK_in L M ns k).2
    have h2 : ∀ x ∈ (nod2 L M (treK L M ns k) (ns.getD k noNd)).code, x.ok := fun x hx => by
      have hc : (nod1 L (treK L M ns k) (ns.getD k noNd)).code = (treK L M ns k).code := (nod1_cols (treK_cols L M ns k)).2.2.1
      unfold nod2 at hx
      dsimp only at hx
      rw [hc] at hx
      rcases List.mem_append.1 hx with h | h
      · exact ih x h
      · rw [List.mem_singleton] at h; subst h; exact nodI_ok M _ (hf k)
    have hl2 := (nod2_code L M (treK L M ns k) (ns.getD k noNd)).1
    have h3 : ∀ x ∈ (nodS L M (treK L M ns k) (ns.getD k noNd)).code, x.ok := fun x hx => by
      unfold nodS at hx
      split at hx
      · unfold landS at hx
        dsimp only at hx
        rcases List.mem_or_eq_of_mem_set hx with h | h
        · exact h2 x h
        · subst h
          refine insTo_ok ?_ (by omega)
          rw [List.getD_eq_getElem?_getD]
          cases e : (nod2 L M (treK L M ns k) (ns.getD k noNd)).code[lastN (nod2 L M (treK L M ns k) (ns.getD k noNd)).opn]? with
          | none => exact ⟨by decide, by decide⟩
          | some y => exact h2 y (List.mem_of_getElem? e)
      · exact h2 x hx
    rw [treK_succ]
    split
    · exact h3
    · intro x hx
      unfold jumpS at hx
      dsimp only at hx
      rcases List.mem_append.1 hx with h | h
      · exact h3 x h
      · rw [List.mem_singleton] at h; subst h; exact ⟨by show fitsB 0 = true; decide, by show fitsB 0 = true; decide⟩
theorem getD_ok {l : List Ins} (h : ∀ x ∈ l, x.ok) (j : Nat) : (l.getD j noIn).ok := by
  rw [List.getD_eq_getElem?_getD]
  cases e : l[j]? with
  | none => exact ⟨by decide, by decide⟩
  | some y => exact h y (List.mem_of_getElem? e)
def envZ : Envr := ⟨[], 0, 0⟩
theorem cmpG_ok (L : List Ty) (q : Qy) {ns : List Nd} (hf : ∀ k, (ns.getD k noNd).fit) (hr : ns.length * 64 ≤ 140737488351232) (hL : L.length * 8 ≤ 140737488351232) : (cmpG L q ns).ok := by
  unfold cmpG cmpS
  cases h : runB (itemF q.items q.items.length) ns with
  | false =>
    rw [if_neg (by decide)]
    exact ⟨by simp, by simp, fun j => by simp, fun j => by simp; exact ⟨by decide, by decide⟩⟩
  | true =>
    rw [if_pos rfl]
    have hlen := (run_tree L (itemF q.items q.items.length) envZ h).2.1
    have hc := (treK_len L (itemF q.items q.items.length) ns ns.length).1
    have hcols := treK_cols L (itemF q.items q.items.length) ns ns.length
    refine ⟨by show (treK L _ ns ns.length).code.length * 40 ≤ _; omega, by rw [List.length_map]; omega, fun j => ?_, getD_ok (treK_ok L _ hf ns.length (by omega))⟩
    show (((treK L _ ns ns.length).cols.map Prod.snd).getD j []).length * 8 ≤ _
    rw [List.getD_eq_getElem?_getD, List.getElem?_map]
    cases e : (treK L (itemF q.items q.items.length) ns ns.length).cols[j]? with
    | none => simp
    | some y =>
      have := hcols y (List.mem_of_getElem? e)
      show y.2.length * 8 ≤ _
      rw [this, colRow_len]
      exact hL
theorem cmpG_run (L : List Ty) (q : Qy) (E : Envr) {ns : List Nd} (h : runB (itemF q.items q.items.length) ns = true) : 0 < (cmpG L q ns).code.length ∧ runV (cmpG L q ns) E = (evalV L q E ns, 0) := by
  obtain ⟨h1, _, h2⟩ := run_tree L (itemF q.items q.items.length) E h
  unfold runV cmpG cmpS evalV
  rw [if_pos h, if_pos h]
  exact ⟨h1, h2⟩
theorem cmpG_not (L : List Ty) (q : Qy) (E : Envr) {ns : List Nd} (h : runB (itemF q.items q.items.length) ns = false) : cmpG L q ns = ⟨[], []⟩ ∧ evalV L q E ns = noV2 := by
  unfold cmpG cmpS evalV
  rw [h, if_neg (by decide), if_neg (by decide)]
  exact ⟨rfl, rfl⟩
theorem CmpP.pr {w : World} {L : List Ty} {q : Qy} {ns : List Nd} {e : Ending} {w' : World} (h : CmpP w (cmpS L q ns) e w') : ∃ ai ci ac cc ws, e = .returned (prgA (cmpG L q ns) ai ci ac cc) ∧ IsPr w' (cmpG L q ns) ai ci ac cc ∧ Below w.heap.size w w' ∧ w'.ownsRow w.heap.size 87 5 (.slice ai (cmpG L q ns).code.length ci) (cmpG L q ns).code.length (fl insC (cmpG L q ns).code) ∧
    ONst w' w.heap.size 39 3 1 intC (.slice ac (cmpG L q ns).cols.length cc) (cmpG L q ns).cols ws := by
  obtain ⟨ai, ci, ac, cc, ws, rfl, O, P, G⟩ := h.ex
  have hml : (cmpG L q ns).cols.length = (cmpS L q ns).cols.length := by unfold cmpG; simp
  rw [← hml] at P
  refine ⟨ai, ci, ac, cc, ws, by rw [← hml]; rfl, ⟨own_flat O, own_sl O, P.nst, own_sl P.own⟩, G, O, P⟩
end Go.Proofs.YtnolbpekdikamaaGreatDoor
namespace Go.Proofs.YtnolbpekdikamaaGreatDoor
open Go.RowKit Go.BigFrame
set_option linter.unusedVariables false
set_option linter.unusedSimpArgs false

def entI (zs : List Int) (i : Int) : Int := if i < 0 ∨ (zs.length : Int) ≤ i then 0 else zs.getD i.toNat 0
def entR (l : List (List Int)) (i : Int) : List Int := if i < 0 ∨ (l.length : Int) ≤ i then [] else l.getD i.toNat []
theorem Blk4 (w : World) (a b c d : Value) (t : TypeId) : (w.alloc (.cells #[a, b, c, d] t)).cell? ⟨w.heap.size, 2, none⟩ = some c ∧ (w.alloc (.cells #[a, b, c, d] t)).cell? ⟨w.heap.size, 3, none⟩ = some d := ⟨by simp, by simp⟩
/-- A flaw: its code, part, index, sub. -/
structure Fw where
  code : Int
  part : Int
  ix : Int
  sub : Int
structure Fw.fit (f : Fw) : Prop where
  code : fI f.code
  part : fI f.part
  ix : fI f.ix
  sub : fI f.sub
def fwA (f : Fw) : Array Value := #[.int .i64 f.code, .int .i64 f.part, .int .i64 f.ix, .int .i64 f.sub]
def plaO (s : Sps) (f : Fw) : Int :=
  if f.part = 1 then entI s.items f.ix else if f.part = 2 then s.within else if f.part = 3 then s.by_ else if f.part = 4 then entI s.wh f.ix else if f.part = 5 then entI (entR s.ret f.ix) f.sub else 0
theorem entR_small {s : Sps} (hs : s.fit) (i : Int) : (entR s.ret i).length * 8 ≤ 140737488351232 := by
  unfold entR
  split
  · simp
  · exact hs.ret _
end Go.Proofs.YtnolbpekdikamaaGreatDoor
namespace Go.Proofs.YtnolbpekdikamaaGreatDoor
open Go.RowKit Go.BigFrame
set_option linter.unusedVariables false
set_option linter.unusedSimpArgs false

theorem nf_int : (Tryz.prog.info? 3).map (fun i => (i.zero, i.size, i.bytes)) = some (some (.int .i64 0), 1, 8) := by kernel_rfl
theorem ints_at (zs : List Int) (j : Nat) (u : Value) (h : (intsV zs)[j]? = some u) : j < zs.length ∧ u = .int .i64 (zs.getD j 0) := by
  have hj := (List.getElem?_eq_some_iff.1 h).1
  rw [show (intsV zs).length = zs.length by simp [intsV]] at hj
  refine ⟨hj, ?_⟩
  unfold intsV at h
  rw [List.getElem?_map, List.getElem?_eq_getElem hj] at h
  simp only [Option.map_some, Option.some.injEq] at h
  rw [← h, List.getD_eq_getElem?_getD, List.getElem?_eq_getElem hj]
  rfl
/-- append of a whole row of numbers onto a row of one's own. -/
theorem wpList_append_ints {w : World} {ops : Array Oper} {rest : List Oper} {o : Oper} {a : Act} {Q : Exit → Act → World → Prop} (hgd : o.guard = none) (s x : Operand)
    (ho : o.op = .call { callee := .builtin .append, args := #[s, x], argTypes := #[39, 39] }) (v : Value) (base n : Nat) (xs : List Value) (hs : a.eval s = v) (O : w.ownsRow base 3 1 v n xs) (hb : base ≤ w.heap.size)
    (ao : Option Addr) (cap : Nat) (ts : List Int) (hx : a.eval x = .slice ao ts.length cap) (hsl : Sl ao ts.length cap) (A : IsInts w ao ts) (hl : (n + ts.length) * 8 ≤ 140737488351232)
    (h : ∀ v' w', w'.ownsRow base 3 1 v' (n + ts.length) (xs ++ intsV ts) → w.grownBy w' v.ownBlock → wpList Tryz.prog ops Q rest (a.put o.dst v') w') : wpList Tryz.prog ops Q (o :: rest) a w := by
  obtain ⟨i3, ti, tz0, tz1, tz2⟩ := nf_info nf_int
  have hlen : (intsV ts).length = ts.length := by simp [intsV]
  cases ao with
  | none =>
    obtain ⟨h0, rfl⟩ := hsl.2 rfl
    refine wpList_plain hgd fun K hK' => ?_
    have hrun := run_append_owned_none (P := Tryz.prog) w base 39 o.type 3 i3 1 Tryz.underlying39 ti v n xs O
    have hts : ts = [] := List.length_eq_zero_iff.1 h0
    subst hts
    replace hx : a.eval x = .slice none 0 0 := hx
    unfold Oper.wp
    simp [execOp, ho, resolve, invoke, builtin, hs, hx, hrun, Result.andThen]
    refine hK' _ _ (h _ _ ?_ (World.grownBy.refl _ _))
    rw [show intsV [] = [] from rfl, List.append_nil]
    exact O
  | some ad =>
    refine wpList_append_own (w := w) hgd s x 39 ho base 3 i3 (.int .i64 0) 1 8 Tryz.underlying39 ti tz0 tz1 tz2 rfl (by decide) v n xs hs O ad ts.length cap (intsV ts) hx (by rw [hlen, Nat.mul_one]) (fun j u hj => ?_) (fun u hu => ?_) (by unfold maxLen; omega) (by omega) hb (fun v' w' h1 h2 _ => h v' w' h1 h2)
    · obtain ⟨hj2, rfl⟩ := ints_at ts j u hj
      obtain ⟨g, off, e, c0⟩ := A j hj2
      cases e
      rw [Go.WideShapes.add_plain]
      exact c0
    · unfold intsV at hu
      obtain ⟨z, _, rfl⟩ := List.mem_map.1 hu
      rfl
/-- A local of five cells. -/
def Fv (w : World) (b : Nat) (c0 c1 c2 c3 c4 : Value) (t : TypeId) : Prop := w.heap[b]? = some (.cells #[c0, c1, c2, c3, c4] t (0, 0))
section
variable {w u : World} {b : Nat} {c0 c1 c2 c3 c4 : Value} {t : TypeId}
theorem Fv.lt (h : Fv w b c0 c1 c2 c3 c4 t) : b < w.heap.size := lt_of_block h
theorem Fv.at (h : Fv w b c0 c1 c2 c3 c4 t) : w.cell? ⟨b, 0, none⟩ = some c0 ∧ w.cell? ⟨b, 1, none⟩ = some c1 ∧ w.cell? ⟨b, 2, none⟩ = some c2 ∧ w.cell? ⟨b, 3, none⟩ = some c3 ∧ w.cell? ⟨b, 4, none⟩ = some c4 := ⟨cell_of_row w b 0 _ _ _ h, cell_of_row w b 1 _ _ _ h, cell_of_row w b 2 _ _ _ h, cell_of_row w b 3 _ _ _ h, cell_of_row w b 4 _ _ _ h⟩
theorem Fv.free (h : Fv w b c0 c1 c2 c3 c4 t) (o : Nat) : w.frozen? ⟨b, o, none⟩ = false := by unfold Fv at h; simp [World.frozen?, h]
theorem Fv.new (w : World) (c0 c1 c2 c3 c4 : Value) (t : TypeId) : Fv (w.alloc (.cells #[c0, c1, c2, c3, c4] t)) w.heap.size c0 c1 c2 c3 c4 t := by
  show (w.heap.push _)[w.heap.size]? = _
  simp
theorem Fv.keep (h : Fv w b c0 c1 c2 c3 c4 t) (G : Below w.heap.size w u) : Fv u b c0 c1 c2 c3 c4 t := (G.block b h.lt).trans h
theorem Fv.alloc (h : Fv w b c0 c1 c2 c3 c4 t) (o : Obj) : Fv (w.alloc o) b c0 c1 c2 c3 c4 t := (Below.heap_alloc w o b h.lt).trans h
theorem Fv.other (h : Fv w b c0 c1 c2 c3 c4 t) {b' : Nat} (hne : b' ≠ b) (o : Nat) (v : Value) : Fv (w.setCell ⟨b', o, none⟩ v) b c0 c1 c2 c3 c4 t := by
  unfold Fv at h ⊢
  rw [← h]
  show (w.heap.modify b' _)[b]? = _
  rw [Array.getElem?_modify, if_neg hne]
theorem Fv.go (w : World) (cs : Array Value) (o : Nat) (a : Value) (h : w.heap[b]? = some (.cells cs t (0, 0))) : (w.setCell ⟨b, o, none⟩ a).heap[b]? = some (.cells (cs.setIfInBounds o a) t (0, 0)) := by
  have hlt := lt_of_block h
  have h' : w.heap[b] = .cells cs t (0, 0) := by simpa [Array.getElem?_eq_getElem hlt] using h
  show (w.heap.modify b _)[b]? = _
  rw [Array.getElem?_eq_getElem (by simpa using hlt), Array.getElem_modify_self, h']
  rfl
theorem Fv.set0 (h : Fv w b c0 c1 c2 c3 c4 t) (v : Value) : Fv (w.setCell ⟨b, 0, none⟩ v) b v c1 c2 c3 c4 t := Fv.go w _ 0 v h
theorem Fv.set1 (h : Fv w b c0 c1 c2 c3 c4 t) (v : Value) : Fv (w.setCell ⟨b, 1, none⟩ v) b c0 v c2 c3 c4 t := Fv.go w _ 1 v h
theorem Fv.set2 (h : Fv w b c0 c1 c2 c3 c4 t) (v : Value) : Fv (w.setCell ⟨b, 2, none⟩ v) b c0 c1 v c3 c4 t := Fv.go w _ 2 v h
theorem Fv.set3 (h : Fv w b c0 c1 c2 c3 c4 t) (v : Value) : Fv (w.setCell ⟨b, 3, none⟩ v) b c0 c1 c2 v c4 t := Fv.go w _ 3 v h
theorem Fv.set4 (h : Fv w b c0 c1 c2 c3 c4 t) (v : Value) : Fv (w.setCell ⟨b, 4, none⟩ v) b c0 c1 c2 c3 v t := Fv.go w _ 4 v h
end
theorem own_ints {w : World} {b : Nat} {ao : Option Addr} {c : Nat} {zs : List Int} (h : w.ownsRow b 3 1 (.slice ao zs.length c) zs.length (intsV zs)) : IsInts w ao zs := fun i hi => by
  rcases h.2 with ⟨h1, h2⟩ | ⟨g, c', cur, h1, _, _, _, _⟩
  · omega
  · cases h1
    refine ⟨g, 0, rfl, ?_⟩
    rw [Nat.zero_add, World.ownsRow.cellAt h i (by omega)]
    simp [intsV, List.getD, List.getElem?_eq_getElem hi]
/-- A row of rows of numbers of one's own. -/
theorem own_iss {w : World} {b b' : Nat} {ao : Option Addr} {c : Nat} {l : List (List Int)} {vs : List Value} (hl : vs.length = l.length) (h : w.ownsRow b 39 1 (.slice ao l.length c) l.length vs) (hin : ∀ j, j < l.length → ∃ a c', vs[j]? = some (.slice a (l.getD j []).length c') ∧ w.ownsRow b' 3 1 (.slice a (l.getD j []).length c') (l.getD j []).length (intsV (l.getD j []))) : IsIss w ao l := fun i hi => by
  obtain ⟨a, c', e, O⟩ := hin i hi
  rcases h.2 with ⟨h1, h2⟩ | ⟨g, c2, cur, h1, _, _, _, _⟩
  · omega
  · cases h1
    refine ⟨g, 0, a, c', rfl, ?_, own_ints O, own_sl O⟩
    rw [Nat.zero_add, World.ownsRow.cellAt h i (by omega)]
    exact e
theorem nf_ints : (Tryz.prog.info? 39).map (fun i => (i.zero, i.size, i.bytes)) = some (some (.slice none 0 0), 1, 24) := by kernel_rfl
end Go.Proofs.YtnolbpekdikamaaGreatDoor
namespace Go.Proofs.YtnolbpekdikamaaGreatDoor.Cm
open Go.Shelf
set_option linter.unusedVariables false

def rnF : Nat → Nat
  | 0 => 0
  | 1 => 1
  | 2 => 2
  | 20 => 67
  | 31 => 110
  | 37 => 127
  | 40 => 136
  | 41 => 137
  | 42 => 138
  | 43 => 139
  | 44 => 140
  | 45 => 141
  | 46 => 142
  | 47 => 143
  | 48 => 144
  | 49 => 145
  | 50 => 146
  | 51 => 147
  | 52 => 148
  | 53 => 149
  | 54 => 150
  | 55 => 153
  | _ => 0
def rnT : Nat → Nat
  | 0 => 0
  | 1 => 1
  | 2 => 2
  | 3 => 3
  | 4 => 4
  | 5 => 5
  | 6 => 6
  | 7 => 7
  | 8 => 8
  | 9 => 9
  | 10 => 10
  | 11 => 11
  | 12 => 12
  | 13 => 13
  | 14 => 14
  | 15 => 15
  | 16 => 16
  | 17 => 17
  | 18 => 18
  | 19 => 19
  | 20 => 20
  | 21 => 21
  | 22 => 39
  | 23 => 106
  | 24 => 65
  | 33 => 105
  | 40 => 148
  | 41 => 167
  | 42 => 178
  | 43 => 174
  | 44 => 144
  | 45 => 126
  | 46 => 210
  | 47 => 211
  | 48 => 212
  | 49 => 213
  | 50 => 214
  | 51 => 215
  | 52 => 216
  | 53 => 171
  | 54 => 217
  | 55 => 218
  | 56 => 219
  | 57 => 220
  | 58 => 221
  | 59 => 222
  | 60 => 223
  | 61 => 224
  | 62 => 226
  | _ => 0
def rnG : Nat → Nat
  | _ => 0
def rn : Ren := ⟨rnF, rnT, rnG⟩
set_option maxRecDepth 100000 in
theorem lays_n20 : Lays2.n20 Tryz.prog rn where
  mixed := by kernel_rfl
  f20 := Tryz.func67.trans (congrArg some (by kernel_rfl))
  t0 := by kernel_rfl
  a0 := fun w => by kernel_rfl
  z0 := fun w => by kernel_rfl
  v0 := fun w => by kernel_rfl
  t3 := by kernel_rfl
  a3 := fun w => by kernel_rfl
  z3 := fun w => by kernel_rfl
  v3 := fun w => by kernel_rfl
  t4 := by kernel_rfl
  a4 := fun w => by kernel_rfl
  z4 := fun w => by kernel_rfl
  v4 := fun w => by kernel_rfl
  t22 := by kernel_rfl
  a22 := fun w => by kernel_rfl
  z22 := fun w => by kernel_rfl
  v22 := fun w => by kernel_rfl
  i3 := by kernel_rfl

end Go.Proofs.YtnolbpekdikamaaGreatDoor.Cm
namespace Go.Proofs.YtnolbpekdikamaaGreatDoor.So
open Go.Shelf
set_option linter.unusedVariables false

def rnF : Nat → Nat
  | 0 => 0
  | 1 => 1
  | 2 => 2
  | 125 => 88
  | 128 => 113
  | 129 => 114
  | 164 => 117
  | 171 => 39
  | 189 => 66
  | 197 => 128
  | 215 => 127
  | 216 => 110
  | 239 => 129
  | 243 => 65
  | 246 => 86
  | 257 => 87
  | 260 => 133
  | 264 => 95
  | 274 => 134
  | 275 => 135
  | 283 => 100
  | 284 => 101
  | 285 => 102
  | 286 => 103
  | 294 => 104
  | 295 => 105
  | 296 => 106
  | 297 => 107
  | 298 => 108
  | 299 => 109
  | 300 => 111
  | 301 => 112
  | 317 => 118
  | 318 => 119
  | 319 => 120
  | 320 => 121
  | 328 => 122
  | 329 => 123
  | 330 => 124
  | 331 => 125
  | 332 => 126
  | 337 => 130
  | 338 => 131
  | 343 => 132
  | 347 => 136
  | 348 => 137
  | 349 => 138
  | 350 => 139
  | 351 => 140
  | 352 => 141
  | 353 => 142
  | 354 => 143
  | 355 => 144
  | 356 => 145
  | 357 => 146
  | 358 => 147
  | 359 => 148
  | 360 => 149
  | 361 => 150
  | 366 => 153
  | 367 => 170
  | _ => 0
def rnT : Nat → Nat
  | 0 => 0
  | 1 => 1
  | 2 => 2
  | 3 => 3
  | 4 => 4
  | 5 => 5
  | 6 => 6
  | 7 => 7
  | 8 => 8
  | 9 => 9
  | 10 => 10
  | 11 => 11
  | 12 => 12
  | 13 => 13
  | 14 => 14
  | 15 => 15
  | 16 => 16
  | 17 => 17
  | 18 => 18
  | 19 => 19
  | 20 => 20
  | 21 => 21
  | 22 => 174
  | 28 => 39
  | 29 => 44
  | 31 => 65
  | 35 => 126
  | 37 => 159
  | 40 => 155
  | 46 => 148
  | 47 => 147
  | 49 => 191
  | 51 => 171
  | 52 => 170
  | 53 => 73
  | 54 => 157
  | 80 => 210
  | 81 => 216
  | 83 => 103
  | 84 => 145
  | 103 => 130
  | 104 => 144
  | 105 => 185
  | 106 => 186
  | 107 => 187
  | 111 => 178
  | 112 => 167
  | 114 => 93
  | 119 => 202
  | 127 => 220
  | 131 => 105
  | 134 => 146
  | 137 => 203
  | 138 => 204
  | 139 => 205
  | 148 => 152
  | 149 => 154
  | 156 => 192
  | 157 => 193
  | 158 => 194
  | 159 => 195
  | 160 => 196
  | 161 => 197
  | 162 => 198
  | 163 => 199
  | 164 => 226
  | 171 => 156
  | 172 => 158
  | 173 => 160
  | 174 => 161
  | 181 => 162
  | 182 => 163
  | 183 => 164
  | 184 => 165
  | 185 => 166
  | 186 => 168
  | 187 => 169
  | 205 => 206
  | 206 => 207
  | 207 => 208
  | 208 => 209
  | 211 => 175
  | 212 => 176
  | 213 => 177
  | 218 => 179
  | 219 => 180
  | 220 => 181
  | 221 => 182
  | 222 => 183
  | 223 => 184
  | 228 => 188
  | 229 => 189
  | 230 => 190
  | 232 => 200
  | 233 => 201
  | 238 => 211
  | 239 => 212
  | 240 => 213
  | 241 => 214
  | 242 => 215
  | 243 => 217
  | 244 => 218
  | 245 => 219
  | 246 => 221
  | 247 => 222
  | 248 => 223
  | 249 => 224
  | _ => 0
def rnG : Nat → Nat
  | 3 => 11
  | 4 => 12
  | 11 => 6
  | 12 => 7
  | 13 => 8
  | 17 => 5
  | 18 => 9
  | 19 => 10
  | _ => 0
def rn : Ren := ⟨rnF, rnT, rnG⟩
set_option maxRecDepth 100000 in
theorem lays_n189 : Lays.n189 Tryz.prog rn where
  mixed := by kernel_rfl
  f125 := Tryz.func88.trans (congrArg some (by kernel_rfl))
  f128 := Tryz.func113.trans (congrArg some (by kernel_rfl))
  f129 := Tryz.func114.trans (congrArg some (by kernel_rfl))
  f189 := Tryz.func66.trans (congrArg some (by kernel_rfl))
  f215 := Tryz.func127.trans (congrArg some (by kernel_rfl))
  f216 := Tryz.func110.trans (congrArg some (by kernel_rfl))
  f257 := Tryz.func87.trans (congrArg some (by kernel_rfl))
  f294 := Tryz.func104.trans (congrArg some (by kernel_rfl))
  f295 := Tryz.func105.trans (congrArg some (by kernel_rfl))
  f296 := Tryz.func106.trans (congrArg some (by kernel_rfl))
  f297 := Tryz.func107.trans (congrArg some (by kernel_rfl))
  f298 := Tryz.func108.trans (congrArg some (by kernel_rfl))
  f299 := Tryz.func109.trans (congrArg some (by kernel_rfl))
  f300 := Tryz.func111.trans (congrArg some (by kernel_rfl))
  f301 := Tryz.func112.trans (congrArg some (by kernel_rfl))
  f328 := Tryz.func122.trans (congrArg some (by kernel_rfl))
  f329 := Tryz.func123.trans (congrArg some (by kernel_rfl))
  f330 := Tryz.func124.trans (congrArg some (by kernel_rfl))
  f331 := Tryz.func125.trans (congrArg some (by kernel_rfl))
  f332 := Tryz.func126.trans (congrArg some (by kernel_rfl))
  f343 := Tryz.func132.trans (congrArg some (by kernel_rfl))
  t0 := by kernel_rfl
  a0 := fun w => by kernel_rfl
  z0 := fun w => by kernel_rfl
  v0 := fun w => by kernel_rfl
  t3 := by kernel_rfl
  a3 := fun w => by kernel_rfl
  z3 := fun w => by kernel_rfl
  v3 := fun w => by kernel_rfl
  t4 := by kernel_rfl
  a4 := fun w => by kernel_rfl
  z4 := fun w => by kernel_rfl
  v4 := fun w => by kernel_rfl
  t5 := by kernel_rfl
  a5 := fun w => by kernel_rfl
  z5 := fun w => by kernel_rfl
  v5 := fun w => by kernel_rfl
  t9 := by kernel_rfl
  a9 := fun w => by kernel_rfl
  z9 := fun w => by kernel_rfl
  v9 := fun w => by kernel_rfl
  t28 := by kernel_rfl
  a28 := fun w => by kernel_rfl
  z28 := fun w => by kernel_rfl
  v28 := fun w => by kernel_rfl
  t46 := by kernel_rfl
  a46 := fun w => by kernel_rfl
  z46 := fun w => by kernel_rfl
  v46 := fun w => by kernel_rfl
  t51 := by kernel_rfl
  a51 := fun w => by kernel_rfl
  z51 := fun w => by kernel_rfl
  v51 := fun w => by kernel_rfl
  t53 := by kernel_rfl
  a53 := fun w => by kernel_rfl
  z53 := fun w => by kernel_rfl
  v53 := fun w => by kernel_rfl
  t131 := by kernel_rfl
  a131 := fun w => by kernel_rfl
  z131 := fun w => by kernel_rfl
  v131 := fun w => by kernel_rfl
  t182 := by kernel_rfl
  a182 := fun w => by kernel_rfl
  z182 := fun w => by kernel_rfl
  v182 := fun w => by kernel_rfl
  t183 := by kernel_rfl
  a183 := fun w => by kernel_rfl
  z183 := fun w => by kernel_rfl
  v183 := fun w => by kernel_rfl
  t218 := by kernel_rfl
  a218 := fun w => by kernel_rfl
  z218 := fun w => by kernel_rfl
  v218 := fun w => by kernel_rfl
  t222 := by kernel_rfl
  a222 := fun w => by kernel_rfl
  z222 := fun w => by kernel_rfl
  v222 := fun w => by kernel_rfl
  t228 := by kernel_rfl
  a228 := fun w => by kernel_rfl
  z228 := fun w => by kernel_rfl
  v228 := fun w => by kernel_rfl
  t229 := by kernel_rfl
  a229 := fun w => by kernel_rfl
  z229 := fun w => by kernel_rfl
  v229 := fun w => by kernel_rfl

end Go.Proofs.YtnolbpekdikamaaGreatDoor.So
