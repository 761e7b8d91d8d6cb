/- The law CodeComposes, where the joined tree is not too long. And what goes with it: 2 texts in one. -/
import Derived.Test.YtbcomgfdbanjlaaDoorJb23
import Derived.Deep.CutRange
import Derived.ChangeArms
import Derived.ChangeSame
import Derived.SliceStrings
import Derived.SizedLaws
namespace Go.Proofs.YtbcomgfdbanjlaaDoor
open Go.RowKit Go.BigFrame Go.Proofs.YtbcomgfdbanjlaaDoor.Ev
set_option linter.unusedVariables false
set_option linter.unusedSimpArgs false

theorem wrap_fI (z : Int) : fI (wrap64 z) := by
  unfold wrap64
  exact ⟨by omega, by omega⟩
theorem jW_fI (n : Nat) {z : Int} (h : fI z) : fI (jW n z) := by
  unfold jW
  split
  · exact wrap_fI _
  · exact h
theorem joinL_fit {op : Int} (ho : fI op) {a b : List Nd} (ha : ∀ k, (a.getD k noNd).fit) (hb : ∀ k, (b.getD k noNd).fit) (hl : a.length + b.length ≤ 4611686018427387904) : ∀ k, ((joinL op a b).getD k noNd).fit := by
  have key : ∀ l : List Nd, (∀ x ∈ l, x.fit) → ∀ k, (l.getD k noNd).fit := fun l h k => by
    rw [List.getD_eq_getElem?_getD]
    cases e : l[k]? with
    | none => exact noNd_fit
    | some y => exact h y (List.mem_of_getElem? e)
  have mem : ∀ l : List Nd, (∀ k, (l.getD k noNd).fit) → ∀ x ∈ l, x.fit := fun l h x hx => by
    obtain ⟨i, hi, rfl⟩ := List.getElem_of_mem hx
    have := h i
    rw [List.getD_eq_getElem?_getD, List.getElem?_eq_getElem hi] at this
    exact this
  refine key _ fun x hx => ?_
  have z0 : fI 0 := ⟨by decide, by decide⟩
  have m1 : fI (-1) := ⟨by decide, by decide⟩
  have hE : (joinE op a b).fit := by
    unfold joinE
    split
    · exact ⟨ho, z0, ⟨by dsimp only; omega, by dsimp only; omega⟩, m1, eS_small, eS_small⟩
    · exact ⟨ho, z0, ⟨by dsimp only; omega, by dsimp only; omega⟩, ⟨by dsimp only; omega, by dsimp only; omega⟩, eS_small, eS_small⟩
  unfold joinL at hx
  rcases List.mem_append.1 hx with h | h
  · split at h
    · exact mem a ha x h
    · rcases List.mem_append.1 h with h | h
      · exact mem a ha x h
      · obtain ⟨y, hy, rfl⟩ := List.mem_map.1 h
        have := mem b hb y hy
        exact ⟨this.op, this.n, jW_fI _ this.l, jW_fI _ this.r, this.v, this.x⟩
  · rw [List.mem_singleton] at h
    rw [h]
    exact hE
theorem joinL_len (op : Int) (a b : List Nd) : (joinL op a b).length ≤ a.length + b.length + 1 := by
  unfold joinL
  split
  · rw [List.length_append, List.length_singleton]; omega
  · rw [List.length_append, List.length_append, List.length_map, List.length_singleton]; omega
theorem lastT_eq {a : List Nd} (h : 0 < a.length) : lastT a = kTr (lastOp a) := by
  have e : ∀ op, trB op = kTr op := fun op => by
    unfold trB kTr
    exact decide_eq_decide.2 (by omega)
  unfold lastT lastOp
  rw [decide_eq_true h, Bool.true_and, e]
/-- What the joined tree comes to, for Eval. -/
theorem eval_join (L : List Ty) (q : Qy) (E : Envr) {op : Int} {a b : List Nd} (ha : runB (itemF q.items q.items.length) a = true) (hb : runB (itemF q.items q.items.length) b = true) (h1 : 12 ≤ op) (h2 : op ≤ 26) (hl : a.length + b.length ≤ 4611686018427387904) :
    evalV L q E (joinL op a b) = if fitJ op a b = true then (if op = 12 then negW (evalV L q E a) else if op = 13 then notW (evalV L q E a) else applyV op (evalV L q E a) (evalV L q E b)) else noV2 := by
  have ta := (run_split ha).1
  have tb := (run_split hb).1
  rw [joinL_U tb hl]
  unfold evalV
  rw [run_join ha hb h1 h2, if_pos ha, if_pos hb, valA_join L _ E ta tb h1 h2]

/-- The kinds, as the law asks. -/
theorem fitJ_eq {op : Int} {a b : List Nd} (ha : 0 < a.length) (hb : 0 < b.length) (h1 : 12 ≤ op) (h2 : op ≤ 26) : fitJ op a b = ((lastT a == decide (op = 13 ∨ 25 ≤ op)) && (decide (op < 14) || (lastT b == decide (25 ≤ op)))) := by
  unfold fitJ
  rw [lastT_eq ha, lastT_eq hb]
  have e1 : kJoin op = decide (op = 13 ∨ 25 ≤ op) := by unfold kJoin; exact decide_eq_decide.2 (by omega)
  rw [e1]
  by_cases h : op < 14
  · rw [decide_eq_true h]; rfl
  · have e2 : decide (op = 13 ∨ 25 ≤ op) = decide (25 ≤ op) := decide_eq_decide.2 (by omega)
    rw [decide_eq_false h, e2]
theorem evalV_fits (L : List Ty) (q : Qy) {E : Envr} (hE : E.ok) {ns : List Nd} (hf : ∀ k, (ns.getD k noNd).fit) : fitsB (evalV L q E ns).2 = true := by
  unfold evalV
  split
  · exact nodeW_fits L _ hE (hf _)
  · decide
set_option maxRecDepth 100000 in
set_option maxHeartbeats 16000000 in
theorem codeComposes_walk (sa : Option Addr) (sc : Nat) (L : List Ty) (q : Qy) (hq : q.fit) (cs : Array Value) (ai : Option Addr) (ci : Nat) (aw : Option Addr) (cw : Nat) (ar : Option Addr) (cr : Nat) (op : Int) (ho : fI op) (a b : List Nd) (ao : Option Addr) (ca : Nat) (bo : Option Addr) (cb : Nat) (hno : ao = none → a.length = 0 ∧ ca = 0) (E : Envr) (al : Option Addr) (cl : Nat) (w : World) (K : KwAt w) (T : TbAt w) (A : IsTypes w sa L.length L) (AQ : IsQ w q cs ai ci aw cw ar cr) (NA : IsNds w ao a) (NB : IsNds w bo b) (IE : IsEnv w E al cl)
    (hE0 : (∀ k, (E.lists.getD k []).length ≤ 2147483647) → E.ok) (hEn : E.lists.length * 24 ≤ 140737488351232) (hEl : ∀ k, (E.lists.getD k []).length * 88 ≤ 140737488351232) (fa : ∀ k, (a.getD k noNd).fit) (fb : ∀ k, (b.getD k noNd).fit) (hab : (a.length + b.length + 1) * 64 ≤ 140737488351232) (hL : L.length * 8 ≤ 140737488351232) :
    Calls Tryd.prog 5 #[.agg #[.slice sa L.length sc], .agg cs, .int .i64 op, .slice ao a.length ca, .slice bo b.length cb, envA al cl E] w fun e w' => e = .returned (.bool true) ∧ Below w.heap.size w w' := by
  have hcs := AQ.eq
  subst hcs
  have hra : a.length * 64 ≤ 140737488351232 := by omega
  have hrb : b.length * 64 ≤ 140737488351232 := by omega
  have hjl : (joinL op a b).length * 64 ≤ 140737488351232 := by have := joinL_len op a b; omega
  have hbig : a.length + b.length ≤ 4611686018427387904 := by omega
  have fj := joinL_fit ho fa fb hbig
  have B1 := galloc (Below.refl w.heap.size w) (.cells #[.slice sa L.length sc] 24)
  have B2 := galloc B1 (.cells #[.slice ai q.items.length ci, .int .i64 q.mode, .int .i64 q.after, .slice aw q.wh.length cw, .int .i64 q.within, .string q.by_, .slice ar q.ret.length cr] 31)
  have B3 := galloc B2 (.cells #[.slice al E.lists.length cl, .int .i64 E.each, .int .i64 E.at_] 49)
  have k1 := ((Bk.new w #[.slice sa L.length sc] 24).alloc (.cells #[.slice ai q.items.length ci, .int .i64 q.mode, .int .i64 q.after, .slice aw q.wh.length cw, .int .i64 q.within, .string q.by_, .slice ar q.ret.length cr] 31)).alloc (.cells #[.slice al E.lists.length cl, .int .i64 E.each, .int .i64 E.at_] 49)
  have k2 := (Bk.newE (w := w.alloc (.cells #[.slice sa L.length sc] 24)) (g := w.heap.size + 1) (by simp) #[.slice ai q.items.length ci, .int .i64 q.mode, .int .i64 q.after, .slice aw q.wh.length cw, .int .i64 q.within, .string q.by_, .slice ar q.ret.length cr] 31).alloc (.cells #[.slice al E.lists.length cl, .int .i64 E.each, .int .i64 E.at_] 49)
  have k3 := Bk.newE (w := (w.alloc (.cells #[.slice sa L.length sc] 24)).alloc (.cells #[.slice ai q.items.length ci, .int .i64 q.mode, .int .i64 q.after, .slice aw q.wh.length cw, .int .i64 q.within, .string q.by_, .slice ar q.ret.length cr] 31)) (g := w.heap.size + 2) (by simp) #[.slice al E.lists.length cl, .int .i64 E.each, .int .i64 E.at_] 49
  go_enter Tryd.func5, Tryd.ntmps5
  go_upto_region 1 with fail
  generalize ((w.alloc _).alloc _).alloc _ = V at *
  obtain ⟨q0, q1, q2, q3, q4, q5, q6⟩ := k2.at7
  have c1 := qBeyond_any q hq _ ai ci aw cw ar cr V (AQ.keep B3)
  have cj := fun (u : World) (g : Below w.heap.size w u) => joined_any op a b ao ca bo cb u hno (NA.keep g) (NB.keep g) hab
  obtain ⟨J, hJ⟩ : ∃ J, joinL op a b = J := ⟨_, rfl⟩
  have HJ := show Hid (_ = _) from hJ
  rw [hJ] at cj hjl fj
  obtain ⟨jn, hjn⟩ : ∃ n, J.length = n := ⟨_, rfl⟩
  clear hJ
  have c2 := fun (u : World) (vo : Option Addr) (vc : Nat) (g : IsNds u vo J) => beyond_any J vo vc u g hjl fj
  rw [hjn] at cj c2
  have c3 := fun (u : World) (g : Below w.heap.size w u) => beyond7_any E.lists al cl u (IE.n.keep g) (by omega) (fun k => by have := hEl k; omega)
  have nd9 : ∀ (u : World) (bb : Nat) (vo : Option Addr) (vc : Nat), u.ownsRow bb 72 6 (.slice vo jn vc) jn (ndsV J) → IsNds u vo J := fun u bb vo vc O => by
    rw [← hjn] at O
    exact nds_of_own O
  go_upto_region 3 with (first
    | (go_at_call 7; (with_reducible refine c1.mono ?_); rintro e u1 ⟨bb, rfl, g1⟩; have G1 := gtrans B3 g1; have Q3 := k3.keep g1; obtain ⟨t0, t1, t2⟩ := Q3.at3; have cj1 := cj _ G1; cases bb)
    | (go_at_call 25; (with_reducible refine cj1.mono ?_); rintro e u2 ⟨v2, rfl, O2, g2⟩; obtain ⟨vo, vc, rfl, _, _, _⟩ := own_form O2; have G2 := gtrans G1 g2; have c22 := c2 u2 vo vc (nd9 _ _ _ _ O2))
    | (go_at_call 8; (with_reducible refine c22.mono ?_); rintro e u3 ⟨bb, rfl, g3⟩; have G3 := gtrans G2 g3; have P3 := (Q3.keep g2).keep g3; obtain ⟨s0, s1, s2⟩ := P3.at3; cases bb)
    | (go_at_call 20; (with_reducible refine (c3 _ G3).mono ?_); rintro e u4 ⟨⟨bb, rfl, hbb⟩, rfl⟩; cases bb))
  all_goals try (go_ret; (first | exact ⟨rfl, G1⟩ | exact ⟨rfl, G3⟩))
  have hE := hE0 (hbb (by first | trivial | rfl))
  have cw9 := awake_any _ (K.keep G3) (T.keep G3)
  go_upto_region 5 with (first
    | (go_at_call 21; (with_reducible refine cw9.mono ?_); rintro e u5 ⟨rfl, g5⟩))
  have G5 := gtrans G3 g5
  have j1 := (((k1.keep g1).keep g2).keep g3).keep g5
  have j2 := (((k2.keep g1).keep g2).keep g3).keep g5
  have j3 := (((k3.keep g1).keep g2).keep g3).keep g5
  -- behind awake
  have K5 := K.keep G5
  have T5 := T.keep G5
  have A5 := A.keep G5
  have Q5 := AQ.keep G5
  have NA5 := NA.keep G5
  have NB5 := NB.keep G5
  have I5 := IE.keep G5
  have cj5 := fun (u : World) (g : Below u5.heap.size u5 u) => cj u (gtrans G5 g)
  have cNa := fun (u : World) (g : Below u5.heap.size u5 u) => runnable_any q hq a ao ca _ ai ci aw cw ar cr u (K5.keep g) (Q5.keep g) (NA5.keep g) hra fa
  have cNb := fun (u : World) (g : Below u5.heap.size u5 u) => runnable_any q hq b bo cb _ ai ci aw cw ar cr u (K5.keep g) (Q5.keep g) (NB5.keep g) hrb fb
  have cTa := fun (u : World) (g : Below u5.heap.size u5 u) => IsTruth_any a ao ca u (NA5.keep g) hra
  have cTb := fun (u : World) (g : Below u5.heap.size u5 u) => IsTruth_any b bo cb u (NB5.keep g) hrb
  have cEa := fun (u : World) (g : Below u5.heap.size u5 u) => eval_any sa sc L q hq _ ai ci aw cw ar cr a ao ca E al cl u (K5.keep g) (T5.keep g) (A5.keep g) (Q5.keep g) (NA5.keep g) (I5.keep g) fa hra hE
  have cEb := fun (u : World) (g : Below u5.heap.size u5 u) => eval_any sa sc L q hq _ ai ci aw cw ar cr b bo cb E al cl u (K5.keep g) (T5.keep g) (A5.keep g) (Q5.keep g) (NB5.keep g) (I5.keep g) fb hrb hE
  have cEj := fun (u : World) (g : Below u5.heap.size u5 u) (vo : Option Addr) (vc : Nat) (N : IsNds u vo J) => eval_any sa sc L q hq _ ai ci aw cw ar cr J vo vc E al cl u (K5.keep g) (T5.keep g) (A5.keep g) (Q5.keep g) N (I5.keep g) fj hjl hE
  rw [hjn] at cEj
  have ea := evalV_fits L q hE fa
  have eb := evalV_fits L q hE fb
  have HEJ : Hid (runB (itemF q.items q.items.length) a = true → runB (itemF q.items q.items.length) b = true → 12 ≤ op → op ≤ 26 → evalV L q E J = if fitJ op a b = true then (if op = 12 then negW (evalV L q E a) else if op = 13 then notW (evalV L q E a) else applyV op (evalV L q E a) (evalV L q E b)) else noV2) := fun h1 h2 h3 h4 => by
    rw [← HJ.out]
    exact eval_join L q E h1 h2 h3 h4 hbig
  have HFT : Hid (runB (itemF q.items q.items.length) a = true → runB (itemF q.items q.items.length) b = true → 12 ≤ op → op ≤ 26 → fitJ op a b = ((lastT a == decide (op = 13 ∨ 25 ≤ op)) && (decide (op < 14) || (lastT b == decide (25 ≤ op))))) := fun h1 h2 h3 h4 => by
    obtain ⟨_, _, _, pa, _⟩ := tree_beg0 (run_split h1).1
    obtain ⟨_, _, _, pb, _⟩ := tree_beg0 (run_split h2).1
    exact fitJ_eq pa pb h3 h4
  obtain ⟨⟨xk, xn⟩, hxj⟩ : ∃ x, evalV L q E J = x := ⟨_, rfl⟩
  obtain ⟨⟨ak, an⟩, hxa⟩ : ∃ x, evalV L q E a = x := ⟨_, rfl⟩
  obtain ⟨⟨bk, bn⟩, hxb⟩ : ∃ x, evalV L q E b = x := ⟨_, rfl⟩
  rw [hxj] at cEj HEJ
  rw [hxa] at cEa HEJ ea
  rw [hxb] at cEb HEJ eb
  obtain ⟨fj9, hfj⟩ : ∃ x, fitJ op a b = x := ⟨_, rfl⟩
  rw [hfj] at HEJ HFT
  obtain ⟨ra, hra9⟩ : ∃ x, runB (itemF q.items q.items.length) a = x := ⟨_, rfl⟩
  obtain ⟨rb, hrb9⟩ : ∃ x, runB (itemF q.items q.items.length) b = x := ⟨_, rfl⟩
  rw [hra9] at cNa HEJ HFT
  rw [hrb9] at cNb HEJ HFT
  obtain ⟨ta, hta⟩ : ∃ x, lastT a = x := ⟨_, rfl⟩
  obtain ⟨tb, htb⟩ : ∃ x, lastT b = x := ⟨_, rfl⟩
  rw [hta] at cTa HFT
  rw [htb] at cTb HFT
  clear k1 k2 k3 g1 g2 g3 g5 G1 G2 G3 c1 c2 c22 c3 cw9 q0 q1 q2 q3 q4 q5 q6 t0 t1 t2 s0 s1 s2 Q3 P3 hbb B1 B2 B3 A AQ IE K T cj cj1 O2 NA NB hxj hxa hxb hfj hra9 hrb9 hta htb HJ
  obtain ⟨q0, q1, q2, q3, q4, q5, q6⟩ := j2.at7
  by_cases hlo : op < 12
  · go_wp2
    go_ret
    exact ⟨rfl, G5⟩
  by_cases hhi : 26 < op
  · go_wp2
    go_ret
    exact ⟨rfl, G5⟩
  have cNa5 := cNa u5 (Below.refl _ _)
  cases ra with
  | false =>
    go_wp2_with (first
      | (go_at_call 23; (with_reducible refine cNa5.mono ?_); rintro e u6 ⟨rfl, g6⟩))
    go_ret
    exact ⟨rfl, gtrans G5 g6⟩
  | true =>
  cases rb with
  | false =>
    go_wp2_with (first
      | (go_at_call 23; (with_reducible refine cNa5.mono ?_); rintro e u6 ⟨rfl, g6⟩; have cNb6 := cNb u6 g6; have z2 := j2.keep g6; obtain ⟨y0, y1, y2, y3, y4, y5, y6⟩ := z2.at7)
      | (go_at_call 23; (with_reducible refine cNb6.mono ?_); rintro e u7 ⟨rfl, g7⟩))
    go_ret
    exact ⟨rfl, gtrans (gtrans G5 g6) g7⟩
  | true =>
  go_upto_region 8 with (first
    | (go_at_call 23; (with_reducible refine cNa5.mono ?_); rintro e u6 ⟨rfl, g6⟩; have cNb6 := cNb u6 g6; have z2 := j2.keep g6; obtain ⟨y0, y1, y2, y3, y4, y5, y6⟩ := z2.at7)
    | (go_at_call 23; (with_reducible refine cNb6.mono ?_); rintro e u7 ⟨rfl, g7⟩; have cj7 := cj5 u7 (gtrans g6 g7))
    | (go_at_call 25; (with_reducible refine cj7.mono ?_); rintro e u8 ⟨v8, rfl, O8, g8⟩; obtain ⟨vo, vc, rfl, _, _, _⟩ := own_form O8))
  have G8 := gtrans (gtrans g6 g7) g8
  have N8 := nd9 _ _ _ _ O8
  have a1 := j1.keep G8
  have a2 := j2.keep G8
  have a3 := j3.keep G8
  clear q0 q1 q2 q3 q4 q5 q6 y0 y1 y2 y3 y4 y5 y6 z2 cNa cNb cNa5 cNb6 cj5 cj7 g6 g7 g8 O8
  have c0 := a1.one1
  obtain ⟨q0, q1, q2, q3, q4, q5, q6⟩ := a2.at7
  obtain ⟨t0, t1, t2⟩ := a3.at3
  have cEj := cEj u8 G8 vo vc N8
  go_upto_region 9 with (first
    | (go_at_call 22; (with_reducible refine cEj.mono ?_); rintro e vj ⟨rfl, hj⟩))
  have Hj := galloc hj (.cells #[.bool xk, .int .i64 xn] 53)
  have Vj := Bk.new vj #[.bool xk, .int .i64 xn] 53
  have b1 := a1.keep Hj
  have b2 := a2.keep Hj
  have b3 := a3.keep Hj
  have G9 := gtrans G8 Hj
  clear c0 q0 q1 q2 q3 q4 q5 q6 t0 t1 t2 cEj hj
  generalize vj.alloc _ = U9 at *
  have c0 := b1.one1
  obtain ⟨q0, q1, q2, q3, q4, q5, q6⟩ := b2.at7
  obtain ⟨t0, t1, t2⟩ := b3.at3
  have cEa := cEa U9 G9
  go_upto_region 10 with (first
    | (go_at_call 22; (with_reducible refine cEa.mono ?_); rintro e va ⟨rfl, ha⟩))
  have Ha := galloc ha (.cells #[.bool ak, .int .i64 an] 53)
  have Va := Bk.new va #[.bool ak, .int .i64 an] 53
  have d1 := b1.keep Ha
  have d2 := b2.keep Ha
  have d3 := b3.keep Ha
  have Vj2 := Vj.keep Ha
  have G10 := gtrans G9 Ha
  clear c0 q0 q1 q2 q3 q4 q5 q6 t0 t1 t2 cEa ha Vj
  generalize va.alloc _ = U10 at *
  have c0 := d1.one1
  obtain ⟨q0, q1, q2, q3, q4, q5, q6⟩ := d2.at7
  obtain ⟨t0, t1, t2⟩ := d3.at3
  have cEb := cEb U10 G10
  go_upto_region 11 with (first
    | (go_at_call 22; (with_reducible refine cEb.mono ?_); rintro e vb ⟨rfl, hb⟩))
  have Hb := galloc hb (.cells #[.bool bk, .int .i64 bn] 53)
  have Vb := Bk.new vb #[.bool bk, .int .i64 bn] 53
  have Vj3 := Vj2.keep Hb
  have Va3 := Va.keep Hb
  have G11 := gtrans G10 Hb
  clear c0 q0 q1 q2 q3 q4 q5 q6 t0 t1 t2 hb Vj2 Va
  generalize vb.alloc _ = U11 at *
  have cTa11 := cTa U11 G11
  have h12 : 12 ≤ op := by omega
  have h26 : op ≤ 26 := by omega
  have hfit := HFT.out (by first | trivial | rfl) (by first | trivial | rfl) h12 h26
  have HF2 := show Hid (_ = _) from hfit
  clear hfit
  go_cut [17] from 71 to 90 (fun s wx => s = .bool fj9 ∧ Below U11.heap.size U11 wx)
  case first =>
    by_cases h14 : op < 14
    · have hd : decide (op < 14) = true := decide_eq_true h14
      rcases (show op = 12 ∨ op = 13 by omega) with rfl | rfl
      all_goals
        cases ta
        all_goals
          have hf9 := HF2.out
          simp at hf9
          subst hf9
          go_wp2_with (first
            | (go_at_call 26; (with_reducible refine cTa11.mono ?_); rintro e m1 ⟨rfl, n1⟩))
          go_meet
          case rel => exact ⟨rfl, n1⟩
    · have e13 : (op == 13) = false := beq_eq_false_iff_ne.2 (by omega)
      by_cases h25 : 25 ≤ op
      · cases ta
        all_goals
          have hf9 := HF2.out
          have hd1 : decide (op = 13 ∨ 25 ≤ op) = true := decide_eq_true (.inr h25)
          have hd2 : decide (op < 14) = false := decide_eq_false h14
          have hd3 : decide (25 ≤ op) = true := decide_eq_true h25
          rw [hd1, hd2, hd3] at hf9
          cases tb
          all_goals
            replace hf9 := hf9.trans rfl
            subst hf9
            go_wp2_with (first
              | (go_at_call 26; (with_reducible refine cTa11.mono ?_); rintro e m1 ⟨rfl, n1⟩; have cTb12 := cTb m1 (gtrans G11 n1))
              | (go_at_call 26; (with_reducible refine cTb12.mono ?_); rintro e m2 ⟨rfl, n2⟩; have n12 := gtrans n1 n2))
            go_meet
            case rel => first | exact ⟨rfl, n12⟩ | exact ⟨rfl, n1⟩
      · cases ta
        all_goals
          have hf9 := HF2.out
          have hd1 : decide (op = 13 ∨ 25 ≤ op) = false := decide_eq_false (by omega)
          have hd2 : decide (op < 14) = false := decide_eq_false h14
          have hd3 : decide (25 ≤ op) = false := decide_eq_false h25
          rw [hd1, hd2, hd3] at hf9
          cases tb
          all_goals
            replace hf9 := hf9.trans rfl
            subst hf9
            go_wp2_with (first
              | (go_at_call 26; (with_reducible refine cTa11.mono ?_); rintro e m1 ⟨rfl, n1⟩; have cTb12 := cTb m1 (gtrans G11 n1))
              | (go_at_call 26; (with_reducible refine cTb12.mono ?_); rintro e m2 ⟨rfl, n2⟩; have n12 := gtrans n1 n2))
            go_meet
            case rel => first | exact ⟨rfl, n12⟩ | exact ⟨rfl, n1⟩
  case rest =>
    obtain ⟨rfl, GW⟩ := hcut
    have GG := gtrans (gtrans G5 G11) GW
    obtain ⟨x0, x1⟩ := (Vj3.keep GW).at2
    obtain ⟨y0, y1⟩ := (Va3.keep GW).at2
    obtain ⟨z0, z1⟩ := (Vb.keep GW).at2
    have TW := T5.keep (gtrans G11 GW)
    have hE9 := HEJ.out (by first | trivial | rfl) (by first | trivial | rfl) h12 h26
    cases fj9 with
    | false =>
      have hv : ((xk, xn) : V2) = noV2 := by simpa using hE9
      obtain ⟨rfl, rfl⟩ := Prod.mk.inj hv
      clear hE9 hv
      go_wp2
      go_ret
      exact ⟨rfl, GG⟩
    | true =>
      have hne0 : Nonempty (Ext wc) := ⟨⟨_, Below.refl _ _⟩⟩
      have p0 := fun z : Ext wc => (z.cell _ _ (lt_of_cell x0)).trans x0
      have p1 := fun z : Ext wc => (z.cell _ _ (lt_of_cell x1)).trans x1
      have p2 := fun z : Ext wc => (z.cell _ _ (lt_of_cell y0)).trans y0
      have p3 := fun z : Ext wc => (z.cell _ _ (lt_of_cell y1)).trans y1
      have p4 := fun z : Ext wc => (z.cell _ _ (lt_of_cell z0)).trans z0
      have p5 := fun z : Ext wc => (z.cell _ _ (lt_of_cell z1)).trans z1
      clear HEJ HFT HF2 cTa cTb cEb cTa11
      by_cases e12 : op = 12
      · subst e12
        have hv : ((xk, xn) : V2) = negW (ak, an) := by simpa using hE9
        have cC : ∀ z : Ext wc, Calls Tryd.prog 27 #[.agg #[.bool ak, .int .i64 an]] z.X (fun e' w'' => e' = .returned (.agg #[.bool xk, .int .i64 xn]) ∧ ∃ m : Ext wc, w'' = m.X) := fun z => by
          have c0 := neg_any ak an z.X ea
          unfold negW at hv
          obtain ⟨e1, e2⟩ := Prod.mk.inj hv
          rw [e1, e2]
          exact ext_of c0
        clear hv hE9
        go_upto_region 16 with fail
        refine wp_region_ext (by kernel_rfl) (by kernel_rfl) ?_
        repeat (go_big_quiet_step (first | (go_at_call 27; with_reducible exact cC _)))
        refine wpQuiet_nil ?_
        intro _ hw'
        obtain ⟨nz, hw''⟩ := hw'
        subst hw''
        have GZ := gtrans GG nz.h
        generalize nz.X = Z at *
        clear p0 p1 p2 p3 p4 p5 cC
        go_wp2
        go_ret
        exact ⟨rfl, GZ⟩
      by_cases e13 : op = 13
      · subst e13
        have hv : ((xk, xn) : V2) = notW (ak, an) := by simpa using hE9
        have cC : ∀ z : Ext wc, Calls Tryd.prog 28 #[.agg #[.bool ak, .int .i64 an]] z.X (fun e' w'' => e' = .returned (.agg #[.bool xk, .int .i64 xn]) ∧ ∃ m : Ext wc, w'' = m.X) := fun z => by
          have c0 := not_any ak an z.X (TW.n.keep z.h)
          unfold notW at hv
          obtain ⟨e1, e2⟩ := Prod.mk.inj hv
          rw [e1, e2]
          exact ext_of c0
        clear hv hE9
        go_upto_region 18 with fail
        refine wp_region_ext (by kernel_rfl) (by kernel_rfl) ?_
        repeat (go_big_quiet_step (first | (go_at_call 28; with_reducible exact cC _)))
        refine wpQuiet_nil ?_
        intro _ hw'
        obtain ⟨nz, hw''⟩ := hw'
        subst hw''
        have GZ := gtrans GG nz.h
        generalize nz.X = Z at *
        clear p0 p1 p2 p3 p4 p5 cC
        go_wp2
        go_ret
        exact ⟨rfl, GZ⟩
      have hv : ((xk, xn) : V2) = applyV op (ak, an) (bk, bn) := by
        rw [if_pos rfl, if_neg e12, if_neg e13] at hE9
        exact hE9
      have ca := apply_one op (ak, an) (bk, bn) ea eb
      rw [← hv] at ca
      have cC : ∀ z : Ext wc, Calls Tryd.prog 29 #[.int .i64 op, .agg #[.bool ak, .int .i64 an], .agg #[.bool bk, .int .i64 bn]] z.X (fun e' w'' => e' = .returned (.agg #[.bool xk, .int .i64 xn]) ∧ ∃ m : Ext wc, w'' = m.X) := fun z => ext_of (ca z.X (TW.t.keep z.h))
      have f12 : (op == 12) = false := beq_eq_false_iff_ne.2 e12
      have f13 : (op == 13) = false := beq_eq_false_iff_ne.2 e13
      clear hv hE9 ca
      go_upto_region 19 with fail
      refine wp_region_ext (by kernel_rfl) (by kernel_rfl) ?_
      repeat (go_big_quiet_step (first | (go_at_call 29; with_reducible exact cC _)))
      refine wpQuiet_nil ?_
      intro _ hw'
      obtain ⟨nz, hw''⟩ := hw'
      subst hw''
      have GZ := gtrans GG nz.h
      generalize nz.X = Z at *
      clear p0 p1 p2 p3 p4 p5 cC
      go_wp2
      go_ret
      exact ⟨rfl, GZ⟩

end Go.Proofs.YtbcomgfdbanjlaaDoor
namespace Go.Proofs.YtbcomgfdbanjlaaDoor
open Go.ChangeShapes Go.WideShapes Go.ChangeAt Go.RowKit Go.BigFrame
set_option linter.unusedVariables false
set_option linter.unusedSimpArgs false

theorem weightsAll_mem {H : Type} {P : Program} {e : TypeId} : ∀ {l : List (DataW H)} {d : DataW H}, d ∈ l → ∀ n ∈ d.weights P e, n ∈ DataW.weightsAll P e l
  | d0 :: l, d, hd, n, hn => by
    simp only [DataW.weightsAll, List.mem_append]
    rcases List.mem_cons.1 hd with rfl | hd
    · exact .inl hn
    · exact .inr (weightsAll_mem hd n hn)
theorem spot_none {w : World} {a : Addr} {v : Value} (h : w.cell? a = some v) : ∃ b off, a = ⟨b, off, none⟩ := by
  obtain ⟨b, off, spot⟩ := a
  have : spot = none := by simpa using World.cell?_spot h
  subst this
  exact ⟨b, off, rfl⟩
theorem add_add (a : Addr) (m j : Nat) : (a.add m).add j = a.add (m + j) := by
  unfold Addr.add
  by_cases hm : m = 0
  · subst hm; simp
  · by_cases hj : j = 0
    · subst hj; simp
    · rw [if_neg hm, if_neg hj, if_neg (by omega)]
      simp [Nat.add_assoc]
theorem bytesS : Tryd.prog.bytesOf 9 = 16 := by kernel_rfl
theorem bytesT : Tryd.prog.bytesOf 75 = 40 := by kernel_rfl
theorem cellsT : Tryd.prog.cellsOf 75 = 2 := by kernel_rfl
theorem cellsS : Tryd.prog.cellsOf 9 = 1 := by kernel_rfl
theorem cellsL : Tryd.prog.cellsOf 73 = 1 := by kernel_rfl

section
variable {H : Type} {enc : TypeId × Value → H} {w : World} {spare : Nat → Bool} {held : Bool}

theorem open_attrs {fuel : Nat} {v : Value} {y : DataW H × List MemPlace} (h : DataW.trod enc Tryd.prog w 0 spare held fuel 73 [v] = some y) (hw : ∀ n ∈ y.1.weights Tryd.prog 73, n ≤ reachBytes) :
    ∃ ao cap ss, v = .slice ao ss.length cap ∧ ss.length ≤ cap ∧ IsStrs w ao ss.length ss ∧ ss.length * 16 ≤ 140737488351232 := by
  rcases open_strings Tryd.underlying73 Tryd.underlying9 cellsS h with ⟨hcs, _⟩ | ⟨a, len, cap, ss, hcs, _, hl, hm, hlen, hx, hcell, _⟩
  · simp only [List.cons.injEq, and_true] at hcs
    exact ⟨none, 0, [], hcs, by simp, ⟨rfl, by simp, .inl rfl⟩, by simp⟩
  · simp only [List.cons.injEq, and_true] at hcs
    have hge : len ≤ ss.length := by split at hlen <;> omega
    have htl : (ss.take len).length = len := by simp; omega
    refine ⟨some a, cap, ss.take len, by rw [htl]; exact hcs, by omega, ⟨rfl, by unfold maxLen at hm; omega, ?_⟩, ?_⟩
    · rw [htl]
      rcases Nat.eq_zero_or_pos len with h0 | h0
      · exact .inl h0
      obtain ⟨b, off, e⟩ := spot_none (hcell 0 (by omega))
      obtain ⟨ab, ao, asp⟩ := a
      simp only [Addr.add] at e
      refine .inr ⟨ab, ao, ?_, ?_, ?_⟩
      · cases asp with
        | none => rfl
        | some s => have := World.cell?_spot (hcell 0 (by omega)); simp [Addr.add] at this
      · have h5 := lt_of_cell (hcell 0 (by omega))
        cases asp with
        | none => rw [add_plain] at h5; exact h5
        | some s => have := World.cell?_spot (hcell 0 (by omega)); simp [Addr.add] at this
      · intro j hj
        have := hcell j (by omega)
        cases asp with
        | none => rw [add_plain] at this; rw [this]; simp [List.getD, hj]
        | some s => have := World.cell?_spot (hcell 0 (by omega)); simp [Addr.add] at this
    · have := hw ((strs (ss.take len) : List (DataW H)).length * 16 + (strs (ss.drop len) : List (DataW H)).length * 16) (by rw [hx]; simp [DataW.weights, Tryd.underlying73, bytesS, Nat.add_mul])
      unfold reachBytes at this
      simp [strs] at this ⊢
      omega

set_option maxRecDepth 100000 in
theorem open_types {fuel : Nat} {v : Value} {y : DataW H × List MemPlace} (h : DataW.trod enc Tryd.prog w 0 spare held fuel 22 [v] = some y) (hw : ∀ n ∈ y.1.weights Tryd.prog 22, n ≤ reachBytes) :
    ∃ ao n cap L, v = .slice ao n cap ∧ n ≤ cap ∧ IsTypes w ao n L ∧ n * 40 ≤ 140737488351232 ∧ ∀ j, (L.getD j noTy).2.length * 16 ≤ 140737488351232 := by
  rcases DataW.trod_slice Tryd.underlying22 h with ⟨hcs, _⟩ | ⟨a, len, cap, elems, rest, fu, _, hcs, hx, _, hl, hm, hlen, hel, _, _⟩
  · simp only [List.cons.injEq, and_true] at hcs
    exact ⟨none, 0, 0, [], hcs, by simp, ⟨rfl, by simp, .inl rfl⟩, by simp, fun j => by simp [noTy]⟩
  · simp only [List.cons.injEq, and_true] at hcs
    have hw0 := hw ((elems.map (·.1)).length * 40 + (rest.map (·.1)).length * 40) (by rw [hx]; simp [DataW.weights, Tryd.underlying22, bytesT, Nat.add_mul])
    have each : ∀ i, i < len → ∃ t : Ty, w.cell? (a.add (i * 2)) = some (.string t.1) ∧ ∃ aj cj, w.cell? (a.add (i * 2 + 1)) = some (.slice aj t.2.length cj) ∧ t.2.length ≤ cj ∧ IsStrs w aj t.2.length t.2 ∧ t.2.length * 16 ≤ 140737488351232 := by
      intro i hi
      have h1 := hel i hi
      rw [cellsT, List.getElem?_eq_getElem (by omega), Option.bind_eq_some_iff] at h1
      obtain ⟨cs', h2, h3⟩ := h1
      obtain ⟨_, hcl, hce⟩ := World.cells?_some h2
      obtain ⟨y0, y1, m, e1, _, g0, g1⟩ := trod_struct2 Tryd.underlying75 h3
      obtain ⟨c0, c1, rfl⟩ : ∃ c0 c1, cs' = [c0, c1] := by
        match cs', hcl with
        | [c0, c1], _ => exact ⟨c0, c1, rfl⟩
      have g0' : DataW.trod enc Tryd.prog w 0 spare held m 9 [c0] = some y0 := g0
      have g1' : DataW.trod enc Tryd.prog w 0 spare held m 73 [c1] = some y1 := g1
      obtain ⟨s, e2, _, _⟩ := DataW.trod_string Tryd.underlying9 g0'
      simp only [List.cons.injEq, and_true] at e2
      subst e2
      have hmem : (elems[i]'(by omega)).1 ∈ elems.map (·.1) := List.mem_map_of_mem (List.getElem_mem _)
      have hw1 : ∀ n ∈ y1.1.weights Tryd.prog 73, n ≤ reachBytes := fun n hn => by
        refine hw n ?_
        rw [hx]
        simp only [DataW.weights, Tryd.underlying22, List.mem_cons, List.mem_append]
        refine .inr (.inl (weightsAll_mem hmem n ?_))
        rw [e1]
        simp only [DataW.weights, Tryd.underlying75, DataW.weightsEach, List.mem_append]
        simp [DataW.weightsEach, hn]
      obtain ⟨aj, cj, ss, e3, e6, e4, e5⟩ := open_attrs g1' hw1
      subst e3
      have k0 := hce 0 (by omega)
      have k1 := hce 1 (by omega)
      have ad : ∀ j, (a.add (i * 2)).add j = a.add (i * 2 + j) := fun j => add_add a _ j
      rw [ad] at k0 k1
      exact ⟨(s, ss), by simpa using k0, aj, cj, by simpa using k1, e6, e4, e5⟩
    have each' : ∀ i : Nat, ∃ t : Ty, i < len → w.cell? (a.add (i * 2)) = some (.string t.1) ∧ ∃ aj cj, w.cell? (a.add (i * 2 + 1)) = some (.slice aj t.2.length cj) ∧ t.2.length ≤ cj ∧ IsStrs w aj t.2.length t.2 ∧ t.2.length * 16 ≤ 140737488351232 := fun i => by
      by_cases hi : i < len
      · obtain ⟨t, ht⟩ := each i hi; exact ⟨t, fun _ => ht⟩
      · exact ⟨noTy, fun h => absurd h hi⟩
    obtain ⟨f, hf⟩ : ∃ f : Nat → Ty, ∀ i, i < len → w.cell? (a.add (i * 2)) = some (.string (f i).1) ∧ ∃ aj cj, w.cell? (a.add (i * 2 + 1)) = some (.slice aj (f i).2.length cj) ∧ (f i).2.length ≤ cj ∧ IsStrs w aj (f i).2.length (f i).2 ∧ (f i).2.length * 16 ≤ 140737488351232 := ⟨fun j => Classical.choose (each' j), fun j hj => Classical.choose_spec (each' j) hj⟩
    have hget : ∀ j, j < len → ((List.range len).map f).getD j noTy = f j := fun j hj => by simp [List.getD, hj]
    refine ⟨some a, len, cap, (List.range len).map f, hcs, hl, ⟨by simp, by unfold maxLen at hm; omega, ?_⟩, ?_, fun j => ?_⟩
    · rcases Nat.eq_zero_or_pos len with h0 | h0
      · exact .inl h0
      obtain ⟨ab, ao, asp⟩ := a
      cases asp with
      | some s => have := World.cell?_spot (hf 0 h0).1; simp [Addr.add] at this
      | none =>
        refine .inr ⟨ab, ao, rfl, ?_, fun j hj => ?_⟩
        · have h5 := lt_of_cell (hf 0 h0).1
          rw [add_plain] at h5
          exact h5
        · obtain ⟨e1, aj, cj, e2, e6, e3, _⟩ := hf j hj
          rw [hget j hj]
          rw [add_plain] at e1 e2
          exact ⟨e1, aj, cj, by rw [Nat.add_assoc]; exact e2, e6, e3⟩
    · unfold reachBytes at hw0
      simp at hw0
      omega
    · by_cases hj : j < len
      · rw [hget j hj]
        obtain ⟨_, aj, cj, _, _, _, e⟩ := hf j hj
        exact e
      · have : ((List.range len).map f).getD j noTy = noTy := by simp [List.getD, hj]
        rw [this]; decide

end

end Go.Proofs.YtbcomgfdbanjlaaDoor
