/- The law CodeAgrees: the compiled program runs as the tree means. And what goes with it: 3 texts in one. -/
import Derived.Test.YtbcomgfdbanjlaaDoorJa22
import Derived.Deep.OwnRows
namespace Go.Proofs.YtbcomgfdbanjlaaDoor
open Go.RowKit Go.BigFrame Go.Proofs.YtbcomgfdbanjlaaDoor.Ev
set_option linter.unusedVariables false
set_option linter.unusedSimpArgs false

set_option maxRecDepth 100000 in
set_option maxHeartbeats 16000000 in
theorem codeAgrees_walk (sa : Option Addr) (sc : Nat) (L : List Ty) (q : Qy) (hq : q.fit) (cs : Array Value) (ai : Option Addr) (ci : Nat) (aw : Option Addr) (cw : Nat) (ar : Option Addr) (cr : Nat) (ns : List Nd) (ao : Option Addr) (cap : Nat) (E : Envr) (al : Option Addr) (cl : Nat) (w : World) (K : KwAt w) (T : TbAt w) (A : IsTypes w sa L.length L) (AQ : IsQ w q cs ai ci aw cw ar cr) (AN : IsNds w ao ns) (IE : IsEnv w E al cl)
    (hE0 : (∀ k, (E.lists.getD k []).length ≤ 2147483647) → E.ok) (hEn : E.lists.length * 24 ≤ 140737488351232) (hEl : ∀ k, (E.lists.getD k []).length * 88 ≤ 140737488351232) (hf : ∀ k, (ns.getD k noNd).fit) (hr : ns.length * 64 ≤ 140737488351232) (hL : L.length * 8 ≤ 140737488351232) :
    Calls Tryd.prog 4 #[.agg #[.slice sa L.length sc], .agg cs, .slice ao ns.length cap, envA al cl E] w fun e w' => e = .returned (.bool true) ∧ Below w.heap.size w w' := by
  have hcs := AQ.eq
  subst hcs
  have B1 := galloc (Below.refl w.heap.size w) (.cells #[.slice sa L.length sc] 24)
  have B2 := galloc B1 (.cells #[.slice ai q.items.length ci, .int .i64 q.mode, .int .i64 q.after, .slice aw q.wh.length cw, .int .i64 q.within, .string q.by_, .slice ar q.ret.length cr] 31)
  have B3 := galloc B2 (.cells #[.slice al E.lists.length cl, .int .i64 E.each, .int .i64 E.at_] 49)
  have k1 := ((Bk.new w #[.slice sa L.length sc] 24).alloc (.cells #[.slice ai q.items.length ci, .int .i64 q.mode, .int .i64 q.after, .slice aw q.wh.length cw, .int .i64 q.within, .string q.by_, .slice ar q.ret.length cr] 31)).alloc (.cells #[.slice al E.lists.length cl, .int .i64 E.each, .int .i64 E.at_] 49)
  have k2 := (Bk.newE (w := w.alloc (.cells #[.slice sa L.length sc] 24)) (g := w.heap.size + 1) (by simp) #[.slice ai q.items.length ci, .int .i64 q.mode, .int .i64 q.after, .slice aw q.wh.length cw, .int .i64 q.within, .string q.by_, .slice ar q.ret.length cr] 31).alloc (.cells #[.slice al E.lists.length cl, .int .i64 E.each, .int .i64 E.at_] 49)
  have k3 := Bk.newE (w := (w.alloc (.cells #[.slice sa L.length sc] 24)).alloc (.cells #[.slice ai q.items.length ci, .int .i64 q.mode, .int .i64 q.after, .slice aw q.wh.length cw, .int .i64 q.within, .string q.by_, .slice ar q.ret.length cr] 31)) (g := w.heap.size + 2) (by simp) #[.slice al E.lists.length cl, .int .i64 E.each, .int .i64 E.at_] 49
  go_enter Tryd.func4, Tryd.ntmps4
  go_upto_region 1 with fail
  generalize ((w.alloc _).alloc _).alloc _ = V at *
  obtain ⟨q0, q1, q2, q3, q4, q5, q6⟩ := k2.at7
  have c1 := qBeyond_any q hq _ ai ci aw cw ar cr V (AQ.keep B3)
  have c2 := fun (u : World) (g : Below w.heap.size w u) => beyond_any ns ao cap u (AN.keep g) hr hf
  have c3 := fun (u : World) (g : Below w.heap.size w u) => beyond7_any E.lists al cl u (IE.n.keep g) (by omega) (fun k => by have := hEl k; omega)
  go_upto_region 3 with (first
    | (go_at_call 7; (with_reducible refine c1.mono ?_); rintro e u1 ⟨bb, rfl, g1⟩; have G1 := gtrans B3 g1; have Q3 := k3.keep g1; obtain ⟨t0, t1, t2⟩ := Q3.at3; cases bb)
    | (go_at_call 8; (with_reducible refine (c2 _ G1).mono ?_); rintro e u2 ⟨bb, rfl, g2⟩; have G2 := gtrans G1 g2; have P3 := Q3.keep g2; obtain ⟨s0, s1, s2⟩ := P3.at3; cases bb)
    | (go_at_call 20; (with_reducible refine (c3 _ G2).mono ?_); rintro e u3 ⟨⟨bb, rfl, hbb⟩, rfl⟩; cases bb))
  all_goals try (go_ret; (first | exact ⟨rfl, G1⟩ | exact ⟨rfl, G2⟩))
  have hE := hE0 (hbb (by first | trivial | rfl))
  have ca := awake_any _ (K.keep G2) (T.keep G2)
  go_upto_region 5 with (first
    | (go_at_call 21; (with_reducible refine ca.mono ?_); rintro e u4 ⟨rfl, g4⟩))
  have G4 := gtrans G2 g4
  have j1 := ((k1.keep g1).keep g2).keep g4
  have j2 := ((k2.keep g1).keep g2).keep g4
  have j3 := ((k3.keep g1).keep g2).keep g4
  have A4 := A.keep G4
  have Q4 := AQ.keep G4
  have N4 := AN.keep G4
  have I4 := IE.keep G4
  have K4 := K.keep G4
  have T4 := T.keep G4
  have cC := Calls.mono (compile_any sa sc L q hq _ ai ci aw cw ar cr ns ao cap u4 K4 A4 Q4 N4 hf hr hL) fun e w' h => h.pr
  have cE := fun (u : World) (g : Below u4.heap.size u4 u) => eval_any sa sc L q hq _ ai ci aw cw ar cr ns ao cap E al cl u (K4.keep g) (T4.keep g) (A4.keep g) (Q4.keep g) (N4.keep g) (I4.keep g) hf hr hE
  have cN := fun (u : World) (g : Below u4.heap.size u4 u) => runnable_any q hq ns ao cap _ ai ci aw cw ar cr u (K4.keep g) (Q4.keep g) (N4.keep g) hr hf
  clear k1 k2 k3 g1 g2 g4 G1 G2 c1 c2 c3 ca q0 q1 q2 q3 q4 q5 q6 t0 t1 t2 s0 s1 s2 Q3 P3 hbb B1 B2 B3 A AQ AN IE K T
  have c0 := j1.one1
  obtain ⟨q0, q1, q2, q3, q4, q5, q6⟩ := j2.at7
  obtain ⟨t0, t1, t2⟩ := j3.at3
  obtain ⟨rb, hrb⟩ : ∃ rb, runB (itemF q.items q.items.length) ns = rb := ⟨_, rfl⟩
  have HB : Hid (runB (itemF q.items q.items.length) ns = rb) := hrb
  rw [hrb] at cN
  clear hrb
  obtain ⟨n, hn⟩ : ∃ n, (cmpG L q ns).code.length = n := ⟨_, rfl⟩
  obtain ⟨m, hm⟩ : ∃ m, (cmpG L q ns).cols.length = m := ⟨_, rfl⟩
  obtain ⟨⟨xk, xn⟩, hx⟩ : ∃ x, evalV L q E ns = x := ⟨_, rfl⟩
  have hok := cmpG_ok L q hf hr hL
  have cR := fun (pi : Option Addr) (pci : Nat) (pc : Option Addr) (pcc : Nat) (u : World) (IP : IsPr u (cmpG L q ns) pi pci pc pcc) (g : Below u4.heap.size u4 u) => run_any (cmpG L q ns) hok E hE pi pci pc pcc al cl u IP (I4.keep g) (T4.keep g)
  have hT : rb = true → 0 < n ∧ runV (cmpG L q ns) E = ((xk, xn), 0) := fun h => by
    have := cmpG_run L q E (HB.out.trans h)
    rw [hn, hx] at this
    exact this
  have hF : rb = false → n = 0 ∧ m = 0 ∧ xk = false ∧ xn = 0 := fun h => by
    obtain ⟨e1, e2⟩ := cmpG_not L q E (HB.out.trans h)
    rw [hx] at e2
    obtain ⟨e3, e4⟩ := Prod.mk.inj e2
    rw [e1] at hn hm
    exact ⟨hn.symm, hm.symm, e3, e4⟩
  unfold prgA at cC cR
  rw [hx] at cE
  generalize cmpG L q ns = G at *
  rw [hn, hm] at cC cR
  have hTT := show Hid _ from hT
  have hFF := show Hid _ from hF
  clear hT hF hx
  go_upto_region 6 with (first
    | (go_at_call 13; (with_reducible refine cC.mono ?_); rintro e u5 ⟨pi, pci, pc, pcc, ws, rfl, IP, g5, _, _⟩))
  have h5 := galloc g5 (.cells #[.slice pi n pci, .slice pc m pcc] 40)
  have PB := Bk.new u5 #[.slice pi n pci, .slice pc m pcc] 40
  have IP5 := IP.keep (galloc (Below.refl u5.heap.size u5) (.cells #[.slice pi n pci, .slice pc m pcc] 40))
  have i1 := j1.keep h5
  have i2 := j2.keep h5
  have i3 := j3.keep h5
  clear c0 q0 q1 q2 q3 q4 q5 q6 t0 t1 t2 cC IP g5
  generalize u5.alloc _ = U5 at *
  have c0 := i1.one1
  obtain ⟨q0, q1, q2, q3, q4, q5, q6⟩ := i2.at7
  obtain ⟨t0, t1, t2⟩ := i3.at3
  have cE5 := cE U5 h5
  go_upto_region 7 with (first
    | (go_at_call 22; (with_reducible refine cE5.mono ?_); rintro e u6 ⟨rfl, g6⟩))
  have h6 := galloc g6 (.cells #[.bool xk, .int .i64 xn] 53)
  have VB := Bk.new u6 #[.bool xk, .int .i64 xn] 53
  have PB6 := PB.keep h6
  have IP6 := IP5.keep h6
  have l1 := i1.keep h6
  have l2 := i2.keep h6
  have l3 := i3.keep h6
  have H6 := gtrans h5 h6
  clear c0 q0 q1 q2 q3 q4 q5 q6 t0 t1 t2 cE cE5 PB IP5 g6
  generalize u6.alloc _ = U6 at *
  obtain ⟨q0, q1, q2, q3, q4, q5, q6⟩ := l2.at7
  have cN6 := cN U6 H6
  cases rb with
  | false =>
    obtain ⟨rfl, rfl, rfl, rfl⟩ := hFF.out rfl
    go_upto_region 8 with (first
      | (go_at_call 23; (with_reducible refine cN6.mono ?_); rintro e u7 ⟨rfl, g7⟩))
    obtain ⟨d0, d1⟩ := (PB6.keep g7).at2
    obtain ⟨v0, v1⟩ := (VB.keep g7).at2
    have GG := gtrans (gtrans G4 H6) g7
    go_wp2
    go_ret
    exact ⟨rfl, GG⟩
  | true =>
    obtain ⟨hpos, hrun⟩ := hTT.out rfl
    have hpi : (0 : Int) < (n : Int) := by omega
    go_upto_region 9 with (first
      | (go_at_call 23; (with_reducible refine cN6.mono ?_); rintro e u7 ⟨rfl, g7⟩))
    obtain ⟨d0, d1⟩ := (PB6.keep g7).at2
    have V7 := VB.keep g7
    have P7 := PB6.keep g7
    have H7 := gtrans H6 g7
    obtain ⟨t0, t1, t2⟩ := (l3.keep g7).at3
    have cR7 := cR pi pci pc pcc u7 (IP6.keep g7) H7
    rw [hrun] at cR7
    clear hrun cR
    go_upto_region 10 with (first
      | (go_at_call 24; (with_reducible refine cR7.mono ?_); rintro e u8 ⟨rfl, g8⟩))
    have GG := gtrans (gtrans G4 H7) (galloc g8 (.cells #[.bool xk, .int .i64 xn] 53))
    obtain ⟨v0, v1⟩ := (V7.keep (galloc g8 (.cells #[.bool xk, .int .i64 xn] 53))).at2
    obtain ⟨e0, e1⟩ := (P7.keep (galloc g8 (.cells #[.bool xk, .int .i64 xn] 53))).at2
    obtain ⟨x0, x1⟩ := (Bk.new u8 #[.bool xk, .int .i64 xn] 53).at2
    clear d0 d1
    generalize u8.alloc _ = U8 at *
    go_wp2
    go_ret
    exact ⟨rfl, GG⟩

end Go.Proofs.YtbcomgfdbanjlaaDoor
namespace Go.Proofs.YtbcomgfdbanjlaaDoor
open Go.RowKit Go.BigFrame Go.Proofs.YtbcomgfdbanjlaaDoor.Ev
set_option linter.unusedVariables false
set_option linter.unusedSimpArgs false

def upI (n : Nat) (z : Int) : Int := if 0 ≤ z then z + (n : Int) else z
def upN (n : Nat) (x : Nd) : Nd := ⟨x.op, x.n, x.v, x.x, upI n x.l, upI n x.r⟩
theorem upI_neg {n : Nat} {z : Int} : upI n z = -1 ↔ z = -1 := by unfold upI; split <;> omega
theorem leaf_up (n : Nat) (x : Nd) : leafN (upN n x) = leafN x := by
  unfold leafN upN
  exact decide_eq_decide.2 (by dsimp only; rw [upI_neg, upI_neg])
theorem bare_up (n : Nat) (x : Nd) : bareN (upN n x) = bareN x := rfl
theorem getD_app2 (pre bs : List Int) (n i : Nat) (hp : pre.length = n) (hi : i < bs.length) : (pre ++ bs.map (· + (n : Int))).getD (n + i) 0 = bs.getD i 0 + (n : Int) := by
  rw [List.getD_eq_getElem?_getD, List.getElem?_append_right (by omega), hp, Nat.add_sub_cancel_left, List.getElem?_map, List.getD_eq_getElem?_getD, List.getElem?_eq_getElem hi]
  rfl
theorem nodeO_up {n : Nat} {x : Nd} {bs pre : List Int} (hp : pre.length = n) (hB : Bgs bs) {c : Int} (h : nodeO x bs = some c) : nodeO (upN n x) (pre ++ bs.map (· + (n : Int))) = some (c + (n : Int)) := by
  have hlen : (pre ++ bs.map (· + (n : Int))).length = n + bs.length := by simp [hp]
  unfold nodeO at h ⊢
  rw [leaf_up, hlen]
  by_cases hf : leafN x = true
  · rw [if_pos hf] at h ⊢
    cases h
    congr 1
    omega
  rw [if_neg hf] at h ⊢
  show (if x.op = 12 ∨ x.op = 13 then _ else _) = _
  by_cases h1 : x.op = 12 ∨ x.op = 13
  · rw [if_pos h1] at h ⊢
    split at h
    · rename_i hc
      obtain ⟨c1, c2, c3, c4⟩ := hc
      have hpos : 0 < bs.length := List.length_pos_iff.2 c2
      cases h
      rw [if_pos ⟨c1, (fun e => by have := congrArg List.length e; rw [hlen, List.length_nil] at this; omega), (by show upI n x.l = _; unfold upI; rw [if_pos (by omega)]; omega), (by show upI n x.r = _; rw [upI_neg]; exact c4)⟩, show n + bs.length - 1 = n + (bs.length - 1) by omega, getD_app2 pre bs n _ hp (by omega)]
    · cases h
  rw [if_neg h1] at h ⊢
  show (if 14 ≤ x.op ∧ x.op ≤ 26 then _ else _) = _
  split at h
  · rename_i h2
    rw [if_pos h2]
    split at h
    · rename_i hc
      obtain ⟨c1, c2, c3, c4, c5⟩ := hc
      have hpos : 0 < bs.length := List.length_pos_iff.2 c2
      have hb := hB (bs.length - 1) (by omega)
      cases h
      have e1 : (pre ++ bs.map (· + (n : Int))).getD (n + bs.length - 1) 0 = bs.getD (bs.length - 1) 0 + (n : Int) := by rw [show n + bs.length - 1 = n + (bs.length - 1) by omega, getD_app2 pre bs n _ hp (by omega)]
      rw [e1]
      rw [if_pos ⟨c1, (fun e => by have := congrArg List.length e; rw [hlen, List.length_nil] at this; omega), (by show upI n x.r = _; unfold upI; rw [if_pos (by omega)]; omega), (by omega), (by show upI n x.l = _; unfold upI; rw [if_pos (by omega)]; omega)⟩, show (bs.getD (bs.length - 1) 0 + (n : Int) - 1).toNat = n + (bs.getD (bs.length - 1) 0 - 1).toNat by omega, getD_app2 pre bs n _ hp (by omega)]
    · cases h
  · cases h
theorem begsO_up {n : Nat} : ∀ (b : List Nd) (pre bs cs : List Int), pre.length = n → Bgs bs → begsO b bs = some cs → begsO (b.map (upN n)) (pre ++ bs.map (· + (n : Int))) = some (pre ++ cs.map (· + (n : Int)))
  | [], pre, bs, cs, hp, hB, h => by
    simp [begsO] at h
    subst h
    rfl
  | x :: t, pre, bs, cs, hp, hB, h => by
    unfold begsO at h
    cases hn : nodeO x bs with
    | none => rw [hn] at h; cases h
    | some c =>
      rw [hn] at h
      show (match nodeO (upN n x) (pre ++ bs.map (· + (n : Int))) with | some b => begsO (t.map (upN n)) (pre ++ bs.map (· + (n : Int)) ++ [b]) | none => none) = _
      rw [nodeO_up hp hB hn]
      have := begsO_up t pre (bs ++ [c]) cs hp (hB.more hn) h
      rw [List.map_append] at this
      show begsO (t.map (upN n)) (pre ++ bs.map (· + (n : Int)) ++ [c + (n : Int)]) = _
      rw [List.append_assoc]
      exact this
theorem begsO_cat : ∀ (a b : List Nd) (pre : List Int), begsO (a ++ b) pre = (begsO a pre).bind (begsO b)
  | [], b, pre => rfl
  | x :: t, b, pre => by
    show (match nodeO x pre with | some c => begsO (t ++ b) (pre ++ [c]) | none => none) = _
    rw [show begsO (x :: t) pre = (match nodeO x pre with | some c => begsO t (pre ++ [c]) | none => none) from rfl]
    cases nodeO x pre with
    | none => rfl
    | some c => exact begsO_cat t b _
/-- A tree's begins, and the root's. -/
theorem tree_beg0 {a : List Nd} (h : treeB a = true) : ∃ bs, begsO a [] = some bs ∧ bs.length = a.length ∧ 0 < a.length ∧ bs.getD (a.length - 1) 0 = 0 := by
  unfold treeB at h
  cases hb : begsO a [] with
  | none => rw [hb] at h; cases h
  | some bs =>
    rw [hb] at h
    have := of_decide_eq_true h
    have hl := begsO_len a [] bs hb
    exact ⟨bs, rfl, by simpa using hl, this.1, this.2⟩
theorem map_jN {n : Nat} {b : List Nd} (hb : treeB b = true) (hl : n + b.length ≤ 4611686018427387904) : b.map (jN n) = b.map (upN n) := by
  apply List.map_congr_left
  intro x hx
  obtain ⟨i, hi, rfl⟩ := List.getElem_of_mem hx
  obtain ⟨h1, h2, _⟩ := tree_bnd hb hi
  rw [List.getD_eq_getElem?_getD, List.getElem?_eq_getElem hi] at h1 h2
  dsimp only [Option.getD_some] at h1 h2
  have key : ∀ z : Int, z < (i : Int) → jW n z = upI n z := fun z hz => by
    unfold jW upI wrap64
    split
    · omega
    · rfl
  unfold jN upN
  rw [key _ h1, key _ h2]
def joinU (op : Int) (a b : List Nd) : List Nd := (if op = 12 ∨ op = 13 then a else a ++ b.map (upN a.length)) ++ [joinE op a b]
theorem joinL_U {op : Int} {a b : List Nd} (hb : treeB b = true) (hl : a.length + b.length ≤ 4611686018427387904) : joinL op a b = joinU op a b := by
  unfold joinL joinU
  rw [map_jN hb hl]
theorem tree_join {op : Int} {a b : List Nd} (ha : treeB a = true) (hb : treeB b = true) (h1 : 12 ≤ op) (h2 : op ≤ 26) : treeB (joinU op a b) = true := by
  obtain ⟨az, ea, la, pa, ra⟩ := tree_beg0 ha
  obtain ⟨bs, eb, lb, pb, rb⟩ := tree_beg0 hb
  unfold joinU
  by_cases hu : op = 12 ∨ op = 13
  · rw [if_pos hu]
    have hE : joinE op a b = ⟨op, 0, eS, eS, (a.length : Int) - 1, -1⟩ := by unfold joinE; rw [if_pos hu]
    have hn : nodeO (joinE op a b) az = some 0 := by
      rw [hE]
      unfold nodeO
      rw [if_neg (by unfold leafN; intro h; have := of_decide_eq_true h; dsimp only at this; omega), if_pos hu, if_pos ⟨rfl, (fun e => by rw [e, List.length_nil] at la; omega), (by dsimp only; rw [la]), rfl⟩, la, ra]
    have hbe : begsO (a ++ [joinE op a b]) [] = some (az ++ [0]) := by
      rw [begsO_cat, ea]
      show (match nodeO (joinE op a b) az with | some c => some (az ++ [c]) | none => none) = _
      rw [hn]
    unfold treeB
    rw [hbe]
    refine decide_eq_true ⟨by simp, ?_⟩
    rw [List.length_append, List.length_singleton, Nat.add_sub_cancel, List.getD_eq_getElem?_getD, List.getElem?_append_right (by omega), la, Nat.sub_self]
    rfl
  · rw [if_neg hu]
    have hE : joinE op a b = ⟨op, 0, eS, eS, (a.length : Int) - 1, (a.length : Int) + (b.length : Int) - 1⟩ := by unfold joinE; rw [if_neg hu]
    have hup := begsO_up (n := a.length) b az [] bs la Bgs.nil eb
    rw [List.map_nil, List.append_nil] at hup
    have hlen : (az ++ bs.map (· + (a.length : Int))).length = a.length + b.length := by simp [la, lb]
    have hlast : (az ++ bs.map (· + (a.length : Int))).getD (a.length + b.length - 1) 0 = (a.length : Int) := by
      rw [show a.length + b.length - 1 = a.length + (b.length - 1) by omega, getD_app2 az bs a.length _ la (by omega), rb]
      omega
    have hn : nodeO (joinE op a b) (az ++ bs.map (· + (a.length : Int))) = some 0 := by
      rw [hE]
      unfold nodeO
      rw [if_neg (by unfold leafN; intro h; have := of_decide_eq_true h; dsimp only at this; omega), if_neg hu, if_pos (show 14 ≤ op ∧ op ≤ 26 by omega), hlen, hlast, if_pos ⟨rfl, (fun e => by have := congrArg List.length e; rw [hlen, List.length_nil] at this; omega), (by dsimp only; omega), (by omega), rfl⟩, show ((a.length : Int) - 1).toNat = a.length - 1 by omega, List.getD_eq_getElem?_getD, List.getElem?_append_left (by omega), ← List.getD_eq_getElem?_getD, ra]
    have hbe : begsO (a ++ b.map (upN a.length) ++ [joinE op a b]) [] = some (az ++ bs.map (· + (a.length : Int)) ++ [0]) := by
      rw [begsO_cat, begsO_cat, ea]
      show ((begsO (b.map (upN a.length)) az).bind fun pre => match nodeO (joinE op a b) pre with | some c => some (pre ++ [c]) | none => none) = _
      rw [hup]
      show (match nodeO (joinE op a b) (az ++ bs.map (· + (a.length : Int))) with | some c => some (az ++ bs.map (· + (a.length : Int)) ++ [c]) | none => none) = _
      rw [hn]
    unfold treeB
    rw [hbe]
    refine decide_eq_true ⟨by simp; omega, ?_⟩
    rw [show (a ++ b.map (upN a.length) ++ [joinE op a b]).length - 1 = a.length + b.length by simp, List.getD_eq_getElem?_getD, List.getElem?_append_right (by omega), hlen, Nat.sub_self]
    rfl

/-! What stands where in the joined list. -/
theorem getD_pre2 {β : Type} (a c : List β) (z : β) {k : Nat} (h : k < a.length) : (a ++ c).getD k z = a.getD k z := by
  rw [List.getD_eq_getElem?_getD, List.getElem?_append_left h, ← List.getD_eq_getElem?_getD]
theorem getD_suf2 {β : Type} (a c : List β) (z : β) (k : Nat) : (a ++ c).getD (a.length + k) z = c.getD k z := by
  rw [List.getD_eq_getElem?_getD, List.getElem?_append_right (by omega), Nat.add_sub_cancel_left, ← List.getD_eq_getElem?_getD]
theorem getD_up (n : Nat) (b : List Nd) (k : Nat) (h : k < b.length) : (b.map (upN n)).getD k noNd = upN n (b.getD k noNd) := by
  rw [List.getD_eq_getElem?_getD, List.getElem?_map, List.getD_eq_getElem?_getD, List.getElem?_eq_getElem h]
  rfl
/-- The values of a list hang on its nodes alone, from the first on. -/
theorem valK_pre (L : List Ty) (M : ByteArray → Option Int) (E : Envr) (a c : List Nd) : ∀ k, k ≤ a.length → valK L M E (a ++ c) k = valK L M E a k
  | 0, _ => rfl
  | k + 1, h => by
    unfold valK
    rw [valK_pre L M E a c k (by omega), getD_pre2 a c noNd (by omega)]
theorem nodeW_up (L : List Ty) (M : ByteArray → Option Int) (E : Envr) (da db : List V2) (x : Nd) (hl : 12 ≤ x.op → 0 ≤ x.l) (hr : 14 ≤ x.op → 0 ≤ x.r) : nodeW L M E (da ++ db) (upN da.length x) = nodeW L M E db x := by
  have key : ∀ z : Int, 0 ≤ z → (da ++ db).getD (upI da.length z).toNat noV2 = db.getD z.toNat noV2 := fun z hz => by
    unfold upI
    rw [if_pos hz, show (z + (da.length : Int)).toNat = da.length + z.toNat by omega, getD_suf2]
  unfold nodeW
  show (if x.op < 4 then _ else _) = _
  split
  · rfl
  show (if x.op = 5 then _ else _) = _
  split
  · rfl
  show (if x.op ≤ 11 then _ else _) = _
  split
  · rfl
  show (if x.op = 12 then negW ((da ++ db).getD (upI da.length x.l).toNat noV2) else if x.op = 13 then notW ((da ++ db).getD (upI da.length x.l).toNat noV2) else applyV x.op ((da ++ db).getD (upI da.length x.l).toNat noV2) ((da ++ db).getD (upI da.length x.r).toNat noV2)) = _
  rw [key _ (hl (by omega))]
  split
  · rfl
  split
  · rfl
  · rw [key _ (hr (by omega))]
theorem tree_ops {b : List Nd} (hb : treeB b = true) {i : Nat} (hi : i < b.length) : (12 ≤ (b.getD i noNd).op → 0 ≤ (b.getD i noNd).l) ∧ (14 ≤ (b.getD i noNd).op → 0 ≤ (b.getD i noNd).r) := by
  obtain ⟨bs, hbe, _⟩ := tree_begs hb
  have k := kin_of hbe i hi
  rcases k.how with ⟨h1, _⟩ | ⟨h1, e0, e1, _⟩ | ⟨h1, e0, e1, e2, e3, _⟩
  · exact ⟨fun h => by omega, fun h => by omega⟩
  · exact ⟨fun h => by omega, fun h => by omega⟩
  · exact ⟨fun h => by omega, fun h => by omega⟩
theorem valK_suf (L : List Ty) (M : ByteArray → Option Int) (E : Envr) (a b c : List Nd) (hb : treeB b = true) : ∀ k, k ≤ b.length → valK L M E (a ++ b.map (upN a.length) ++ c) (a.length + k) = valK L M E a a.length ++ valK L M E b k
  | 0, _ => by
    show valK L M E (a ++ b.map (upN a.length) ++ c) a.length = valK L M E a a.length ++ []
    rw [List.append_nil, List.append_assoc, valK_pre L M E a _ a.length (Nat.le_refl _)]
  | k + 1, h => by
    have ih := valK_suf L M E a b c hb k (by omega)
    show valK L M E (a ++ b.map (upN a.length) ++ c) (a.length + k) ++ [nodeW L M E (valK L M E (a ++ b.map (upN a.length) ++ c) (a.length + k)) ((a ++ b.map (upN a.length) ++ c).getD (a.length + k) noNd)] = _
    rw [ih, List.append_assoc a, getD_suf2, getD_pre2 _ c noNd (by rw [List.length_map]; omega), getD_up _ b k (by omega)]
    have hl := valK_len L M E a a.length
    have ho := tree_ops hb (show k < b.length by omega)
    have := nodeW_up L M E (valK L M E a a.length) (valK L M E b k) (b.getD k noNd) ho.1 ho.2
    rw [hl] at this
    rw [this, List.append_assoc]
    rfl
theorem joinU_len (op : Int) (a b : List Nd) : (joinU op a b).length = (if op = 12 ∨ op = 13 then a.length else a.length + b.length) + 1 := by
  unfold joinU
  split
  · simp
  · simp; omega
/-- What the joined tree comes to. -/
theorem valA_join (L : List Ty) (M : ByteArray → Option Int) (E : Envr) {op : Int} {a b : List Nd} (ha : treeB a = true) (hb : treeB b = true) (h1 : 12 ≤ op) (h2 : op ≤ 26) :
    valA L M E (joinU op a b) ((joinU op a b).length - 1) = if op = 12 then negW (valA L M E a (a.length - 1)) else if op = 13 then notW (valA L M E a (a.length - 1)) else applyV op (valA L M E a (a.length - 1)) (valA L M E b (b.length - 1)) := by
  obtain ⟨_, _, _, pa, _⟩ := tree_beg0 ha
  obtain ⟨_, _, _, pb, _⟩ := tree_beg0 hb
  have hA : (valK L M E a a.length).getD (a.length - 1) noV2 = valA L M E a (a.length - 1) := valK_at L M E a _ _ (by omega)
  rw [joinU_len]
  by_cases hu : op = 12 ∨ op = 13
  · have hJ : joinU op a b = a ++ [⟨op, 0, eS, eS, (a.length : Int) - 1, -1⟩] := by unfold joinU joinE; rw [if_pos hu, if_pos hu]
    rw [if_pos hu, Nat.add_sub_cancel, hJ]
    show nodeW L M E (valK L M E (a ++ _) a.length) ((a ++ _).getD a.length noNd) = _
    rw [valK_pre L M E a _ a.length (Nat.le_refl _), show a.length = a.length + 0 from rfl, getD_suf2]
    show nodeW L M E (valK L M E a (a.length + 0)) ⟨op, 0, eS, eS, ((a.length + 0 : Nat) : Int) - 1, -1⟩ = _
    rw [Nat.add_zero]
    unfold nodeW
    dsimp only
    rw [if_neg (by omega), if_neg (by omega), if_neg (by omega), show ((a.length : Int) - 1).toNat = a.length - 1 by omega, hA]
    rcases hu with rfl | rfl
    · rfl
    · rfl
  · have hJ : joinU op a b = a ++ b.map (upN a.length) ++ [⟨op, 0, eS, eS, (a.length : Int) - 1, (a.length : Int) + (b.length : Int) - 1⟩] := by unfold joinU joinE; rw [if_neg hu, if_neg hu]
    rw [if_neg hu, Nat.add_sub_cancel, hJ]
    show nodeW L M E (valK L M E (a ++ b.map (upN a.length) ++ _) (a.length + b.length)) ((a ++ b.map (upN a.length) ++ _).getD (a.length + b.length) noNd) = _
    have hg : (a ++ b.map (upN a.length) ++ [(⟨op, 0, eS, eS, (a.length : Int) - 1, (a.length : Int) + (b.length : Int) - 1⟩ : Nd)]).getD (a.length + b.length) noNd = ⟨op, 0, eS, eS, (a.length : Int) - 1, (a.length : Int) + (b.length : Int) - 1⟩ := by
      have := getD_suf2 (a ++ b.map (upN a.length)) [(⟨op, 0, eS, eS, (a.length : Int) - 1, (a.length : Int) + (b.length : Int) - 1⟩ : Nd)] noNd 0
      rw [List.length_append, List.length_map, Nat.add_zero] at this
      exact this
    rw [valK_suf L M E a b _ hb b.length (Nat.le_refl _), hg]
    have hB : (valK L M E b b.length).getD (b.length - 1) noV2 = valA L M E b (b.length - 1) := valK_at L M E b _ _ (by omega)
    have hl := valK_len L M E a a.length
    have e1 : (valK L M E a a.length ++ valK L M E b b.length).getD (a.length - 1) noV2 = valA L M E a (a.length - 1) := by rw [getD_pre2 _ _ _ (by omega), hA]
    have e2 : (valK L M E a a.length ++ valK L M E b b.length).getD (a.length + b.length - 1) noV2 = valA L M E b (b.length - 1) := by
      have := getD_suf2 (valK L M E a a.length) (valK L M E b b.length) noV2 (b.length - 1)
      rw [hl, hB] at this
      rw [show a.length + b.length - 1 = a.length + (b.length - 1) by omega, this]
    unfold nodeW
    dsimp only
    rw [if_neg (by omega), if_neg (by omega), if_neg (by omega), if_neg (by omega), if_neg (by omega), if_neg (by omega), if_neg (by omega), show ((a.length : Int) - 1).toNat = a.length - 1 by omega, show ((a.length : Int) + (b.length : Int) - 1).toNat = a.length + b.length - 1 by omega, e1, e2]

/-! Is it runnable? -/
theorem kKid_pre {a c : List Nd} {op k : Int} (h : k < (a.length : Int)) : kKid (a ++ c) op k = kKid a op k := by
  unfold kKid
  by_cases h0 : 0 ≤ k
  · rw [getD_pre2 a c noNd (by omega)]
  · rw [decide_eq_false h0, Bool.false_and, Bool.false_and]
theorem runN_pre {M : ByteArray → Option Int} {a c : List Nd} {x : Nd} (hl : x.l < (a.length : Int)) (hr : x.r < (a.length : Int)) : runN M (a ++ c) x = runN M a x := by
  unfold runN kFit
  rw [kKid_pre hl, kKid_pre hr]
theorem kKid_up {a b c : List Nd} {op k : Int} (h : k < (b.length : Int)) : kKid (a ++ b.map (upN a.length) ++ c) op (upI a.length k) = kKid b op k := by
  unfold kKid
  by_cases h0 : 0 ≤ k
  · have e : upI a.length k = k + (a.length : Int) := if_pos h0
    rw [e, show (k + (a.length : Int)).toNat = a.length + k.toNat by omega, List.append_assoc, getD_suf2, getD_pre2 _ c noNd (by rw [List.length_map]; omega), getD_up _ b _ (by omega), decide_eq_true h0, decide_eq_true (show 0 ≤ k + (a.length : Int) by omega)]
    rfl
  · have e : upI a.length k = k := if_neg h0
    rw [e, decide_eq_false h0, Bool.false_and, Bool.false_and]
theorem runN_up {M : ByteArray → Option Int} {a b c : List Nd} {x : Nd} (hl : x.l < (b.length : Int)) (hr : x.r < (b.length : Int)) : runN M (a ++ b.map (upN a.length) ++ c) (upN a.length x) = runN M b x := by
  unfold runN kFit
  show ((if kKid _ x.op (upI a.length x.l) = true then false else if kKid _ x.op (upI a.length x.r) = true then false else true) && _) = _
  rw [kKid_up hl, kKid_up hr]
  rfl
theorem run_split {M : ByteArray → Option Int} {t : List Nd} (h : runB M t = true) : treeB t = true ∧ ∀ i, i < t.length → runN M t (t.getD i noNd) = true := by
  unfold runB at h
  rw [Bool.and_eq_true, List.all_eq_true] at h
  exact ⟨h.1, fun i hi => h.2 _ (by rw [List.getD_eq_getElem?_getD, List.getElem?_eq_getElem hi]; exact List.getElem_mem hi)⟩
def lastOp (a : List Nd) : Int := (a.getD (a.length - 1) noNd).op
/-- Do the kinds fit? -/
def fitJ (op : Int) (a b : List Nd) : Bool := (kTr (lastOp a) == kJoin op) && (decide (op < 14) || (kTr (lastOp b) == kJoin op))
theorem all_pre {M : ByteArray → Option Int} {a c : List Nd} (ha : runB M a = true) : a.all (runN M (a ++ c)) = true := by
  obtain ⟨ht, h⟩ := run_split ha
  rw [List.all_eq_true]
  intro x hx
  obtain ⟨i, hi, rfl⟩ := List.getElem_of_mem hx
  have h1 := h i hi
  have h2 := tree_bnd ht hi
  rw [List.getD_eq_getElem?_getD, List.getElem?_eq_getElem hi] at h1 h2
  dsimp only [Option.getD_some] at h1 h2
  rw [runN_pre (by omega) (by omega)]
  exact h1
theorem all_up {M : ByteArray → Option Int} {a b c : List Nd} (hb : runB M b = true) : (b.map (upN a.length)).all (runN M (a ++ b.map (upN a.length) ++ c)) = true := by
  obtain ⟨ht, h⟩ := run_split hb
  rw [List.all_eq_true]
  intro y hy
  obtain ⟨x, hx, rfl⟩ := List.mem_map.1 hy
  obtain ⟨i, hi, rfl⟩ := List.getElem_of_mem hx
  have h1 := h i hi
  have h2 := tree_bnd ht hi
  rw [List.getD_eq_getElem?_getD, List.getElem?_eq_getElem hi] at h1 h2
  dsimp only [Option.getD_some] at h1 h2
  rw [runN_up (by omega) (by omega)]
  exact h1
theorem run_join {M : ByteArray → Option Int} {op : Int} {a b : List Nd} (ha : runB M a = true) (hb : runB M b = true) (h1 : 12 ≤ op) (h2 : op ≤ 26) : runB M (joinU op a b) = fitJ op a b := by
  have ta := (run_split ha).1
  have tb := (run_split hb).1
  obtain ⟨_, _, _, pa, _⟩ := tree_beg0 ta
  obtain ⟨_, _, _, pb, _⟩ := tree_beg0 tb
  have hm : kMent op = false := decide_eq_false (by omega)
  unfold runB
  rw [tree_join ta tb h1 h2, Bool.true_and]
  by_cases hu : op = 12 ∨ op = 13
  · have hJ : joinU op a b = a ++ [⟨op, 0, eS, eS, (a.length : Int) - 1, -1⟩] := by unfold joinU joinE; rw [if_pos hu, if_pos hu]
    rw [hJ, List.all_append, all_pre ha, Bool.true_and]
    show (runN M _ _ && true) = _
    rw [Bool.and_true]
    unfold runN kFit fitJ
    dsimp only
    have e1 : kKid (a ++ [(⟨op, 0, eS, eS, (a.length : Int) - 1, -1⟩ : Nd)]) op ((a.length : Int) - 1) = (kTr (lastOp a) != kJoin op) := by
      rw [kKid_pre (by omega)]
      unfold kKid lastOp
      rw [decide_eq_true (by omega), Bool.true_and, show ((a.length : Int) - 1).toNat = a.length - 1 by omega]
    have e2 : kKid (a ++ [(⟨op, 0, eS, eS, (a.length : Int) - 1, -1⟩ : Nd)]) op (-1) = false := rfl
    rw [e1, e2, hm, decide_eq_true (show op < 14 by omega)]
    cases kTr (lastOp a) <;> cases kJoin op <;> rfl
  · have hJ : joinU op a b = a ++ b.map (upN a.length) ++ [⟨op, 0, eS, eS, (a.length : Int) - 1, (a.length : Int) + (b.length : Int) - 1⟩] := by unfold joinU joinE; rw [if_neg hu, if_neg hu]
    rw [hJ, List.all_append, List.all_append, all_up hb, Bool.and_true, List.append_assoc, all_pre ha, Bool.true_and, ← List.append_assoc]
    show (runN M _ _ && true) = _
    rw [Bool.and_true]
    unfold runN kFit fitJ
    dsimp only
    have e1 : kKid (a ++ b.map (upN a.length) ++ [(⟨op, 0, eS, eS, (a.length : Int) - 1, (a.length : Int) + (b.length : Int) - 1⟩ : Nd)]) op ((a.length : Int) - 1) = (kTr (lastOp a) != kJoin op) := by
      rw [List.append_assoc, kKid_pre (by omega)]
      unfold kKid lastOp
      rw [decide_eq_true (by omega), Bool.true_and, show ((a.length : Int) - 1).toNat = a.length - 1 by omega]
    have e2 : kKid (a ++ b.map (upN a.length) ++ [(⟨op, 0, eS, eS, (a.length : Int) - 1, (a.length : Int) + (b.length : Int) - 1⟩ : Nd)]) op ((a.length : Int) + (b.length : Int) - 1) = (kTr (lastOp b) != kJoin op) := by
      have e3 : (a.length : Int) + (b.length : Int) - 1 = upI a.length ((b.length : Int) - 1) := by unfold upI; rw [if_pos (by omega)]; omega
      rw [e3, kKid_up (by omega)]
      unfold kKid lastOp
      rw [decide_eq_true (by omega), Bool.true_and, show ((b.length : Int) - 1).toNat = b.length - 1 by omega]
    rw [e1, e2, hm, decide_eq_false (show ¬ op < 14 by omega)]
    cases kTr (lastOp a) <;> cases kTr (lastOp b) <;> cases kJoin op <;> rfl

end Go.Proofs.YtbcomgfdbanjlaaDoor
namespace Go.Proofs.YtbcomgfdbanjlaaDoor
open Go.RowKit Go.BigFrame Go.Proofs.YtbcomgfdbanjlaaDoor.Ev
set_option linter.unusedVariables false
set_option linter.unusedSimpArgs false

def trB (op : Int) : Bool := decide (op = 2 ∨ op = 3 ∨ op = 13 ∨ (19 ≤ op ∧ op ≤ 26))
def jnB (op : Int) : Bool := decide (op = 13 ∨ op = 25 ∨ op = 26)
theorem op_cases (op : Int) : op = 2 ∨ op = 3 ∨ op = 13 ∨ op = 25 ∨ op = 26 ∨ ((op ≠ 2 ∧ op ≠ 3 ∧ op ≠ 13 ∧ op ≠ 25 ∧ op ≠ 26) ∧ ((19 ≤ op ∧ op ≤ 24) ∨ op < 19 ∨ 26 < op)) := by omega

set_option maxRecDepth 100000 in
set_option maxHeartbeats 4000000 in
theorem joins_any (op : Int) (w : World) : Calls Tryd.prog 80 #[.int .i64 op] w fun e w' => e = .returned (.bool (jnB op)) ∧ w = w' := by
  obtain ⟨v, hv⟩ : ∃ v, jnB op = v := ⟨_, rfl⟩
  rw [hv]
  skip
  rcases op_cases op with rfl | rfl | rfl | rfl | rfl | ⟨⟨n1, n2, n3, n4, n5⟩, hc⟩
  iterate 5
    · cases hv
      go_enter Tryd.func80, Tryd.ntmps80
      go_wp2
      go_ret
      exact ⟨rfl, rfl⟩
  have b1 : (op == 2) = false := beq_eq_false_iff_ne.2 n1
  have b2 : (op == 3) = false := beq_eq_false_iff_ne.2 n2
  have b3 : (op == 13) = false := beq_eq_false_iff_ne.2 n3
  have b4 : (op == 25) = false := beq_eq_false_iff_ne.2 n4
  have b5 : (op == 26) = false := beq_eq_false_iff_ne.2 n5
  have hv' : decide (op = 2 ∨ op = 3 ∨ op = 13 ∨ (19 ≤ op ∧ op ≤ 26)) = decide (19 ≤ op ∧ op ≤ 24) := decide_eq_decide.2 (by omega)
  have hj : jnB op = false := decide_eq_false (by omega)
  rcases hc with ⟨h1, h2⟩ | h1 | h1
  · have d1 : decide (19 ≤ op) = true := decide_eq_true h1
    have d2 : decide (op ≤ 24) = true := decide_eq_true h2
    have d3 : decide (op ≤ 26) = true := decide_eq_true (by omega)
    obtain rfl : false = v := by rw [← hv]; first | exact hj.symm | exact (hv'.trans (decide_eq_true ⟨h1, h2⟩)).symm
    clear hv hv'
    try rw [hj] at cJ
    go_enter Tryd.func80, Tryd.ntmps80
    go_wp2
    go_ret
    exact ⟨rfl, rfl⟩
  · have d1 : decide (19 ≤ op) = false := decide_eq_false (by omega)
    obtain rfl : false = v := by rw [← hv]; first | exact hj.symm | exact (hv'.trans (decide_eq_false (by omega))).symm
    clear hv hv'
    try rw [hj] at cJ
    go_enter Tryd.func80, Tryd.ntmps80
    go_wp2
    go_ret
    exact ⟨rfl, rfl⟩
  · have d1 : decide (19 ≤ op) = true := decide_eq_true (by omega)
    have d2 : decide (op ≤ 24) = false := decide_eq_false (by omega)
    have d3 : decide (op ≤ 26) = false := decide_eq_false (by omega)
    obtain rfl : false = v := by rw [← hv]; first | exact hj.symm | exact (hv'.trans (decide_eq_false (by omega))).symm
    clear hv hv'
    try rw [hj] at cJ
    go_enter Tryd.func80, Tryd.ntmps80
    go_wp2
    go_ret
    exact ⟨rfl, rfl⟩

set_option maxRecDepth 100000 in
set_option maxHeartbeats 4000000 in
theorem isTruth_any (op : Int) (w : World) : Calls Tryd.prog 51 #[.int .i64 op] w fun e w' => e = .returned (.bool (trB op)) ∧ w = w' := by
  obtain ⟨v, hv⟩ : ∃ v, trB op = v := ⟨_, rfl⟩
  rw [hv]
  have cJ := joins_any op
  rcases op_cases op with rfl | rfl | rfl | rfl | rfl | ⟨⟨n1, n2, n3, n4, n5⟩, hc⟩
  iterate 5
    · cases hv
      go_enter Tryd.func51, Tryd.ntmps51
      go_wp2_with (go_at_call 80; (with_reducible refine (cJ _).mono ?_); rintro e u ⟨rfl, rfl⟩)
      go_ret
      exact ⟨rfl, rfl⟩
  have b1 : (op == 2) = false := beq_eq_false_iff_ne.2 n1
  have b2 : (op == 3) = false := beq_eq_false_iff_ne.2 n2
  have b3 : (op == 13) = false := beq_eq_false_iff_ne.2 n3
  have b4 : (op == 25) = false := beq_eq_false_iff_ne.2 n4
  have b5 : (op == 26) = false := beq_eq_false_iff_ne.2 n5
  have hv' : decide (op = 2 ∨ op = 3 ∨ op = 13 ∨ (19 ≤ op ∧ op ≤ 26)) = decide (19 ≤ op ∧ op ≤ 24) := decide_eq_decide.2 (by omega)
  have hj : jnB op = false := decide_eq_false (by omega)
  rcases hc with ⟨h1, h2⟩ | h1 | h1
  · have d1 : decide (19 ≤ op) = true := decide_eq_true h1
    have d2 : decide (op ≤ 24) = true := decide_eq_true h2
    have d3 : decide (op ≤ 26) = true := decide_eq_true (by omega)
    obtain rfl : true = v := by rw [← hv]; first | exact hj.symm | exact (hv'.trans (decide_eq_true ⟨h1, h2⟩)).symm
    clear hv hv'
    try rw [hj] at cJ
    go_enter Tryd.func51, Tryd.ntmps51
    go_wp2_with (go_at_call 80; (with_reducible refine (cJ _).mono ?_); rintro e u ⟨rfl, rfl⟩)
    go_ret
    exact ⟨rfl, rfl⟩
  · have d1 : decide (19 ≤ op) = false := decide_eq_false (by omega)
    obtain rfl : false = v := by rw [← hv]; first | exact hj.symm | exact (hv'.trans (decide_eq_false (by omega))).symm
    clear hv hv'
    try rw [hj] at cJ
    go_enter Tryd.func51, Tryd.ntmps51
    go_wp2_with (go_at_call 80; (with_reducible refine (cJ _).mono ?_); rintro e u ⟨rfl, rfl⟩)
    go_ret
    exact ⟨rfl, rfl⟩
  · have d1 : decide (19 ≤ op) = true := decide_eq_true (by omega)
    have d2 : decide (op ≤ 24) = false := decide_eq_false (by omega)
    have d3 : decide (op ≤ 26) = false := decide_eq_false (by omega)
    obtain rfl : false = v := by rw [← hv]; first | exact hj.symm | exact (hv'.trans (decide_eq_false (by omega))).symm
    clear hv hv'
    try rw [hj] at cJ
    go_enter Tryd.func51, Tryd.ntmps51
    go_wp2_with (go_at_call 80; (with_reducible refine (cJ _).mono ?_); rintro e u ⟨rfl, rfl⟩)
    go_ret
    exact ⟨rfl, rfl⟩

/-- Is the last node a truth? -/
def lastT (ns : List Nd) : Bool := decide (0 < ns.length) && trB (ns.getD (ns.length - 1) noNd).op

set_option maxRecDepth 100000 in
set_option maxHeartbeats 4000000 in
theorem IsTruth_any (ns : List Nd) (ao : Option Addr) (cap : Nat) (w : World) (A : IsNds w ao ns) (hr : ns.length * 64 ≤ 140737488351232) :
    Calls Tryd.prog 26 #[.slice ao ns.length cap] w fun e w' => e = .returned (.bool (lastT ns)) ∧ Below w.heap.size w w' := by
  obtain ⟨n, hn⟩ : ∃ n, ns.length = n := ⟨_, rfl⟩
  rw [hn] at hr ⊢
  by_cases h0 : n = 0
  · have hf : lastT ns = false := by unfold lastT; rw [hn, h0]; rfl
    rw [hf]
    subst h0
    go_enter Tryd.func26, Tryd.ntmps26
    go_wp2
    go_ret
    exact ⟨rfl, Below.refl _ _⟩
  obtain ⟨j, hj⟩ : ∃ j, n = j + 1 := ⟨n - 1, by omega⟩
  have hT : lastT ns = trB (ns.getD j noNd).op := by unfold lastT; rw [hn, hj]; simp
  rw [hT]
  obtain ⟨g, o, rfl, x0, _⟩ := A j (by omega)
  have cT := isTruth_any (ns.getD j noNd).op
  generalize trB (ns.getD j noNd).op = v at *
  generalize (ns.getD j noNd).op = op at *
  have hji : (n : Int) - 1 = (j : Int) := by omega
  have hjn : (j : Int) < (n : Int) := by omega
  have hi0 : (0 : Int) < (n : Int) := by omega
  have hb0 : ((n : Int) == 0) = false := beq_eq_false_iff_ne.2 (by omega)
  clear hj h0 hT
  go_enter Tryd.func26, Tryd.ntmps26
  go_wp2_with (go_at_call 51; (with_reducible refine (cT _).mono ?_); rintro e u ⟨rfl, rfl⟩)
  go_ret
  exact ⟨rfl, by first | exact Below.refl _ _ | exact (Below.refl _ _).drew⟩

/-- The left operand begins where the node does. -/
theorem kin_left {ns : List Nd} {bs : List Int} (K : ∀ i, i < ns.length → Kin ns bs i) (k : Nat) (hk : k < ns.length) : ((ns.getD k noNd).l = -1 ∧ bg bs k = k) ∨ ∃ m : Nat, m < k ∧ (ns.getD k noNd).l = (m : Int) ∧ bg bs m = bg bs k := by
  rcases (K k hk).how with ⟨_, e, e1, _⟩ | ⟨_, e0, e1, _, e⟩ | ⟨_, e0, e1, _, e3, e⟩
  · exact .inl ⟨e1, e⟩
  · exact .inr ⟨k - 1, by omega, e1, e.symm⟩
  · have := (K (k - 1) (by omega)).le
    exact .inr ⟨_, by omega, e3, e.symm⟩
/-- Is it a place of a well shaped tree? -/
def plB (ns : List Nd) (root : Int) : Bool := decide (0 ≤ root ∧ root < (ns.length : Int)) && treeB ns
/-- Where the subtrees of a tree begin; none: it is no tree. -/
def bsOf (ns : List Nd) : List Int := (begsO ns []).getD []
theorem tree_bs {ns : List Nd} (h : treeB ns = true) : begsO ns [] = some (bsOf ns) ∧ 0 < ns.length ∧ bg (bsOf ns) (ns.length - 1) = 0 ∧ ∀ i, i < ns.length → Kin ns (bsOf ns) i := by
  unfold treeB at h
  cases hb : begsO ns [] with
  | none => rw [hb] at h; cases h
  | some bs =>
    rw [hb] at h
    have h2 := of_decide_eq_true h
    have e : bsOf ns = bs := by unfold bsOf; rw [hb]; rfl
    rw [e]
    exact ⟨rfl, h2.1, by unfold bg; rw [h2.2]; rfl, kin_of hb⟩
/-- The size of a subtree. -/
def sizeO (ns : List Nd) (root : Int) : Int := if plB ns root = true then root - (bg (bsOf ns) root.toNat : Int) + 1 else 0
end Go.Proofs.YtbcomgfdbanjlaaDoor
