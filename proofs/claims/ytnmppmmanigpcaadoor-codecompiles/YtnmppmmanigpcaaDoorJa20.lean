/- A region that draws its order: it reads, calls once what makes new memory (some of the reads may follow), and behind all of that goes a chain that may write. And what goes with it: 3 texts in one. -/
import Derived.Test.YtnmppmmanigpcaaDoorJa19
namespace Go.Proofs.YtnmppmmanigpcaaDoor
open Go.RowKit
set_option linter.unusedVariables false
set_option linter.unusedSimpArgs false

/-- Operations that yield a value and call nothing; look-ups too. -/
def plainC : Op → Bool
  | .lookup .. => true
  | o => plainB o
theorem plainC_value {P : Program} {o : Oper} {ρ : Operand → Value} {w w' : World} {r : Next} (h : plainC o.op = true) (hr : (execOp ρ o).run P w = .ok r w') : ∃ v, r = .value v := by
  have key : ∀ s : Sem Value, (do let x ← s; pure (Next.value x) : Sem Next).run P w = .ok r w' → ∃ v, r = .value v := fun s h => by
    rw [Sem.run_bind] at h
    cases hs : s.run P w with
    | ok x u => rw [hs] at h; simp at h; exact ⟨x, h.1.symm⟩
    | halt x u => rw [hs] at h; simp at h
  unfold plainC at h
  split at h
  · rename_i e
    unfold execOp at hr
    rw [e] at hr
    exact key _ hr
  · exact plain_value h hr
section
variable {P : Program} {ops : Array Oper} {md : Region.Mode} {S : World → Prop} {Q : Exit → Act → World → Prop}
theorem yieldsIf_ofC {o : Oper} {v : Value} {a : Act} (h : plainC o.op = true) (hy : YieldsIn P ops S o v a) : YieldsIf P ops S o v a := by
  rcases hy with ⟨hw, hv⟩ | ⟨hw, rfl⟩
  · refine .inl ⟨hw, fun w hS => ?_⟩
    have h1 := hv w hS
    unfold Oper.quietAt at h1
    cases hr : (execOp a.eval o).run P w with
    | ok r w' =>
      obtain ⟨u, rfl⟩ := plainC_value h hr
      rw [hr] at h1
      obtain ⟨rfl, rfl⟩ := h1
      rfl
    | halt x w' => rw [hr] at h1; exact h1.elim
  · exact .inr ⟨hw, rfl⟩
/-- The one call, by its contract. -/
theorem wpOp_call {b : Nat} {ob : Oper} {a : Act} {w : World} {K : Act → World → Prop} (hob : ops[b]? = some ob) (hgd : ob.guard = none) (f : FuncId) (args : Array Value) (hrun : (execOp a.eval ob).run P w = .ok (.enter f args) w) (R : Ending → World → Prop) (hc : Calls P f args w R) (h : ∀ e w', R e w' → ∃ v, e = .returned v ∧ K (a.put ob.dst v) w') : wpOp P ops Q b K a w := by
  unfold wpOp
  have hwd : Region.wanted ob (yielded ops a.tmps) = true := by simp [Region.wanted, hgd]
  simp only [hob, hwd, if_true]
  refine .inl ?_
  unfold Oper.wp
  rw [hrun, Oper.upon_enter]
  refine hc.mono fun e w' hR => ?_
  obtain ⟨v, rfl, hh⟩ := h e w' hR
  exact hh
def lexC (md : Region.Mode) (ops : Array Oper) (g n b : Nat) : List Nat → Array Bool → Bool
  | [], listed => decide (Region.ready md ops listed = [b]) && Region.seqB md ops g n (listed.setIfInBounds b true)
  | k :: ks, listed => decide (k < n) && (Region.ready md ops listed).contains k && Region.free md ops listed k && (match ops[k]? with | some o => plainC o.op | none => false) && lexC md ops g n b ks (listed.setIfInBounds k true)
theorem headS_lexC {n f g b : Nat} {ob : Oper} {tl : List Oper} (hb : ops[b]? = some ob) (hbn : b < n) (hgd : ob.guard = none) (hQ : ∀ c (a : Act) (d : Option Tmp) (v : Value) (w : World), Q (.panic c) (a.put d v) w → Q (.panic c) a w) (hsel : Region.noSelect ops = true) (hs : sinkF md ops n f = true) (hc : Region.chainB md ops n = true) (hn : n < ops.size) :
    ∀ (ks : List Nat) (l : List Oper) (listed : Array Bool) (a : Act) (w : World), S w → l.map some = ks.map (fun k => ops[k]?) → HeadInv md ops n listed → listed.getD f false = true →
    lexC md ops g n b ks listed = true → wpQuiet P ops S (fun a' => ∀ X, S X → wpOp P ops Q b (fun a2 X' => S X' ∧ wpList P ops Q tl a2 X') a' X) l a →
    headS P md ops Q S n (fun listed' a' w' => Region.seqB md ops g n listed' = true ∧ wpList P ops Q tl a' w') (ks.length + 1) listed a w
  | [], l, listed, a, w, hS, hl, inv, hfl, hB, h => by
    have : l = [] := by simpa using hl
    subst this
    simp only [lexC, Bool.and_eq_true, decide_eq_true_eq] at hB
    refine ⟨by rw [hB.1]; simp, fun i hi => ?_⟩
    rw [hB.1] at hi
    obtain rfl : i = b := by simpa using hi
    exact ⟨hbn, wpOp_mono (fun a2 w2 h2 => ⟨h2.1, hB.2, h2.2⟩) (h w hS)⟩
  | k :: ks, [], listed, a, w, hS, hl, inv, hfl, hB, h => by simp at hl
  | k :: ks, o :: l, listed, a, w, hS, hl, inv, hfl, hB, h => by
    simp only [List.map_cons, List.cons.injEq] at hl
    have h0 : ops[k]? = some o := hl.1.symm
    simp only [lexC, Bool.and_eq_true, decide_eq_true_eq, h0] at hB
    obtain ⟨⟨⟨⟨hkn, hr⟩, hf⟩, hp⟩, hB'⟩ := hB
    have hr' : k ∈ Region.ready md ops listed := by simpa using hr
    have hst : qOp P ops S k (wpQuiet P ops S (fun a' => ∀ X, S X → wpOp P ops Q b (fun a2 X' => S X' ∧ wpList P ops Q tl a2 X') a' X) l) a := by unfold qOp; simp only [h0]; exact h
    obtain ⟨v, hy, hK⟩ := yieldsIn_of_qOp h0 hst
    exact headS_first h0 (Region.noSelect_spec hsel) (fun c a w h => hQ c a _ _ w h) hs hc hn hkn (fun listed' a' w' hL => seqB_ready hL.1) (ks.length + 1) listed a w inv hfl (Region.free_spec h0 hf) hr' (yieldsIf_ofC hp hy) hS
      (headS_lexC hb hbn hgd hQ hsel hs hc hn ks l _ _ w hS hl.2 (inv.set hr' hkn) (getD_set_true hfl) hB' hK)
def floatC (md : Region.Mode) (ops : Array Oper) (n f b : Nat) : Bool :=
  Region.noSelect ops && decide (n < ops.size) && decide (f < n) && sinkF md ops n f && Region.chainB md ops n && (Region.ready md ops (Array.replicate ops.size false)).contains f && Region.free md ops (Array.replicate ops.size false) f && lexC md ops (ops.size - n) n b (((List.range n).eraseIdx b).eraseIdx f) ((Array.replicate ops.size false).setIfInBounds f true)
theorem wp_region_held_call {id : Nat} {a : Act} {w : World} {l : List Oper} (n f b : Nat) (hfb : f < b) (hbn : b < n) (vf : Value) (o ob : Oper) (x : Operand) (ho : l[f]? = some o) (hop : o.op = .move x) (hv : a.eval x = vf) (hgf : o.guard = none) (hob : l[b]? = some ob) (hgd : ob.guard = none) (hm : P.follows .mixedOrders = true) (hB : floatC .any l.toArray n f b = true) (hQ : ∀ c (a : Act) (d : Option Tmp) (v : Value) (w : World), Q (.panic c) (a.put d v) w → Q (.panic c) a w) (hS : S { w with drawn := w.drawn + 1 })
    (h : wpQuiet P l.toArray S (fun a' => ∀ X, S X → wpOp P l.toArray Q b (fun a2 X' => S X' ∧ wpList P l.toArray Q (l.drop n) a2 X') a' X) (((l.take n).eraseIdx b).eraseIdx f) (a.put o.dst vf)) : (Code.region id l.toArray true).wp P Q a w := by
  subst hv
  simp only [floatC, Bool.and_eq_true, decide_eq_true_eq] at hB
  obtain ⟨⟨⟨⟨⟨⟨⟨hsel, hn⟩, hfn⟩, hs⟩, hc⟩, hr0⟩, hf0⟩, hlex⟩ := hB
  have hn' : n < l.length := by simpa using hn
  have hdl : (l.drop n).length = l.toArray.size - n := by simp
  have inv0 : HeadInv .any l.toArray n (Array.replicate l.toArray.size false) :=
    ⟨by simp, fun j oj _ hl => (by rw [getD_replicate_false] at hl; cases hl), fun t _ ht => getD_in (by simpa using ht) (getD_replicate_false _ _)⟩
  have ho' : l.toArray[f]? = some o := by simpa using ho
  have hob' : l.toArray[b]? = some ob := by simpa using hob
  have hr' : f ∈ Region.ready .any l.toArray (Array.replicate l.toArray.size false) := by simpa using hr0
  have inv1 := inv0.set hr' hfn
  have hfl : ((Array.replicate l.toArray.size false).setIfInBounds f true).getD f false = true := by
    have : f < l.length := by omega
    simp [this]
  have hks : (((List.range n).eraseIdx b).eraseIdx f).length = n - 2 := by
    have e1 : ((List.range n).eraseIdx b).length = n - 1 := by rw [List.length_eraseIdx_of_lt (by simpa using hbn)]; simp
    rw [List.length_eraseIdx_of_lt (by omega), e1]
    omega
  have H := headS_lexC (P := P) (S := S) (Q := Q) (md := .any) (f := f) (g := l.toArray.size - n) (tl := l.drop n) hob' hbn hgd hQ hsel hs hc hn (((List.range n).eraseIdx b).eraseIdx f) (((l.take n).eraseIdx b).eraseIdx f) _ (a.put o.dst (a.eval x)) _ hS (by
    have em : ∀ {α γ : Type} (g : α → γ) (m : List α) (k : Nat), (m.eraseIdx k).map g = (m.map g).eraseIdx k := fun g m k => by simp [List.eraseIdx_eq_take_drop_succ]
    rw [em, em, em, em]
    congr 2
    apply List.ext_getElem?
    intro j
    by_cases hj : j < n
    · have hjl : j < l.length := by omega
      simp [hj, hjl]
    · have : ¬ j < min n l.length := by omega
      simp [hj, List.getElem?_take]) inv1 hfl hlex h
  refine wp_region_any hm ?_
  have h2 := any_of_headS (g := l.toArray.size - n) (fun listed a' w' hL => by
    have := wpAny_of_seq (md := .any) (Q' := Q) (l.drop n) n listed a' w' (fun j => by simp [List.getElem?_drop]) (by rw [hdl]; exact hL.1) hL.2
    rwa [hdl] at this) _ _ _ _ H
  rw [hks] at h2
  have e : n - 2 + 1 + (l.toArray.size - n) + 1 = l.toArray.size := by omega
  suffices hh : wpAny P .any l.toArray Q (n - 2 + 1 + (l.toArray.size - n) + 1) (Array.replicate l.toArray.size false) a { w with drawn := w.drawn + 1 } by rw [e] at hh; exact hh
  refine wpAny_take ho' hsel hf0 hr0 (fun c a w h => hQ c a _ _ w h) ?_ h2
  refine .inl ⟨by simp [Region.wanted, hgf], fun w => ?_⟩
  simp [execOp, hop]
end
theorem wp_region_ext_call {P : Program} {Q : Exit → Act → World → Prop} {id : Nat} {a : Act} {w : World} {l : List Oper} (n f b : Nat) (hfb : f < b) (hbn : b < n) (vf : Value) (o ob : Oper) (x : Operand) (ho : l[f]? = some o) (hop : o.op = .move x) (hv : a.eval x = vf) (hgf : o.guard = none) (hob : l[b]? = some ob) (hgd : ob.guard = none) (hm : P.follows .mixedOrders = true) (hB : floatC .any l.toArray n f b = true) (hQ : ∀ c (a : Act) (d : Option Tmp) (v : Value) (w : World), Q (.panic c) (a.put d v) w → Q (.panic c) a w)
    (h : wpQuiet P l.toArray (fun X => ∃ n : Ext w, X = n.X) (fun a' => ∀ X, (∃ n : Ext w, X = n.X) → wpOp P l.toArray Q b (fun a2 X' => (∃ n : Ext w, X' = n.X) ∧ wpList P l.toArray Q (l.drop n) a2 X') a' X) (((l.take n).eraseIdx b).eraseIdx f) (a.put o.dst vf)) : (Code.region id l.toArray true).wp P Q a w :=
  wp_region_held_call (S := fun X => ∃ n : Ext w, X = n.X) n f b hfb hbn vf o ob x ho hop hv hgf hob hgd hm hB hQ ⟨⟨_, (Below.refl _ w).drew⟩, rfl⟩ h

end Go.Proofs.YtnmppmmanigpcaaDoor
namespace Go.Proofs.YtnmppmmanigpcaaDoor
open Go.RowKit
set_option linter.unusedVariables false
set_option linter.unusedSimpArgs false

/-! The program's alone. -/
theorem compare_one (op : Int) (x y : V2) : ∀ w, Calls Tryd.prog 75 #[.int .i64 op, VA x, VA y] w (fun e w' => e = .returned (VA (cmpV op x y)) ∧ Below w.heap.size w w') := by
  obtain ⟨ka, a⟩ := x
  obtain ⟨kb, b⟩ := y
  unfold cmpV
  cases h : (ka && kb)
  · rw [if_pos rfl]
    exact fun w => cmp_no op ka kb a b w h
  · rw [if_neg (by decide)]
    simp only [Bool.and_eq_true] at h
    obtain ⟨rfl, rfl⟩ := h
    by_cases h19 : op = 19
    · subst h19; exact fun w => cmp19 a b w
    rw [if_neg h19]
    by_cases h20 : op = 20
    · subst h20; exact fun w => cmp20 a b w
    rw [if_neg h20]
    by_cases h21 : op = 21
    · subst h21; exact fun w => cmp21 a b w
    rw [if_neg h21]
    by_cases h22 : op = 22
    · subst h22; exact fun w => cmp22 a b w
    rw [if_neg h22]
    by_cases h23 : op = 23
    · subst h23; exact fun w => cmp23 a b w
    rw [if_neg h23]
    by_cases h24 : op = 24
    · subst h24; exact fun w => cmp24 a b w
    rw [if_neg h24]
    exact fun w => cmp_else op a b w (by simpa using h19) (by simpa using h20) (by simpa using h21) (by simpa using h22) (by simpa using h23) (by simpa using h24)

theorem apply_one (op : Int) (x y : V2) (b0 : fitsB x.2 = true) (b1 : fitsB y.2 = true) : ∀ w, Tabs w → Calls Tryd.prog 46 #[.int .i64 op, VA x, VA y] w (fun e w' => e = .returned (VA (applyV op x y)) ∧ Below w.heap.size w w') := by
  obtain ⟨ka, a⟩ := x
  obtain ⟨kb, b⟩ := y
  unfold applyV
  by_cases h14 : op = 14
  · subst h14; exact fun w _ => apply14 (fun w => add_any ka kb a b w b0 b1) w
  rw [if_neg h14]
  by_cases h15 : op = 15
  · subst h15; exact fun w _ => apply15 (fun w => sub_any ka kb a b w b0 b1) w
  rw [if_neg h15]
  by_cases h16 : op = 16
  · subst h16; exact fun w _ => apply16 (fun w => mul_any ka kb a b w b0 b1) w
  rw [if_neg h16]
  by_cases h17 : op = 17
  · subst h17; exact fun w _ => apply17 (fun w => div_any ka kb a b w b0) w
  rw [if_neg h17]
  by_cases h18 : op = 18
  · subst h18; exact fun w _ => apply18 (fun w => mod_any ka kb a b w b0) w
  rw [if_neg h18]
  by_cases h25 : op = 25
  · subst h25; exact fun w T => apply25 (fun w T => and_any ka kb a b w T) w T
  rw [if_neg h25]
  by_cases h26 : op = 26
  · subst h26; exact fun w T => apply26 (fun w T => or_any ka kb a b w T) w T
  rw [if_neg h26]
  have c := compare_one op (ka, a) (kb, b)
  exact fun w _ => apply_else c (by simpa using h14) (by simpa using h15) (by simpa using h16) (by simpa using h17) (by simpa using h18) (by simpa using h25) (by simpa using h26) w

end Go.Proofs.YtnmppmmanigpcaaDoor
namespace Go.Proofs.YtnmppmmanigpcaaDoor
open Go.RowKit Go.BigFrame Go.Proofs.YtnmppmmanigpcaaDoor.Ev
set_option linter.unusedVariables false
set_option linter.unusedSimpArgs false

/-- The tables that num reads. -/
structure TbA2 (w : World) : Prop where
  t : Tabs w
  n : TabN w
theorem TbA2.keep {w u : World} (h : TbA2 w) (G : Below w.heap.size w u) : TbA2 u := ⟨h.t.keep G, h.n.keep G⟩
theorem TbAt.two {w : World} (h : TbAt w) : TbA2 w := ⟨h.t, h.n⟩
abbrev evlC (sa : Option Addr) (sc : Nat) (L : List Ty) (bi : Nat) (E : Envr) (al : Option Addr) (cl : Nat) (v : Value) : Array Value := #[.slice sa L.length sc, .map (some bi), .slice al E.lists.length cl, .int .i64 E.each, .int .i64 E.at_, v]
/-- An evaluator in memory, with the values so far. -/
structure EvlI (w : World) (pe bi nb : Nat) (sa : Option Addr) (sc : Nat) (L : List Ty) (M : ByteArray → Option Int) (E : Envr) (al : Option Addr) (cl : Nat) (vb N : Nat) (vs : List V2) : Prop where
  blk : Bk w pe (evlC sa sc L bi E al cl (.slice (some ⟨vb, 0, none⟩) N N)) 90
  ty : IsTypes w sa L.length L
  mp : MpAt w bi nb M
  ev : IsEnv w E al cl
  vals : ∀ j, j < N → w.cell? ⟨vb, j * 2, none⟩ = some (.bool (vs.getD j noV2).1) ∧ w.cell? ⟨vb, j * 2 + 1, none⟩ = some (.int .i64 (vs.getD j noV2).2)
theorem EvlI.keep {w u : World} {pe bi nb : Nat} {sa : Option Addr} {sc : Nat} {L : List Ty} {M : ByteArray → Option Int} {E : Envr} {al : Option Addr} {cl : Nat} {vb N : Nat} {vs : List V2} (h : EvlI w pe bi nb sa sc L M E al cl vb N vs) (G : Below w.heap.size w u) : EvlI u pe bi nb sa sc L M E al cl vb N vs :=
  ⟨h.blk.keep G, h.ty.keep G, h.mp.keep G, h.ev.keep G, fun j hj => ⟨(G.cell (p := ⟨_, _, none⟩) (lt_of_cell (h.vals j hj).1)).trans (h.vals j hj).1, (G.cell (p := ⟨_, _, none⟩) (lt_of_cell (h.vals j hj).2)).trans (h.vals j hj).2⟩⟩
set_option maxRecDepth 100000 in
set_option maxHeartbeats 4000000 in
theorem placesOf_any (pe bi : Nat) (sa : Option Addr) (sc : Nat) (L : List Ty) (x : ByteArray) (w : World) (h0 : w.cell? ⟨pe, 0, none⟩ = some (.slice sa L.length sc)) (A : IsTypes w sa L.length L) :
    Calls Tryd.prog 85 #[ptrE pe, .string x] w fun e w' => ∃ be bx, e = .returned (cloF be bx) ∧ CloA w' be bx L x ∧ Below w.heap.size w w' := by
  have B := galloc (galloc (Below.refl w.heap.size w) (.cells #[ptrE pe] 117)) (.cells #[.string x] 9)
  have k0 := (Bk.new w #[ptrE pe] 117).alloc (.cells #[.string x] 9)
  have k1 := Bk.newE (w := w.alloc (.cells #[ptrE pe] 117)) (g := w.heap.size + 1) (by simp) #[.string x] 9
  go_enter Tryd.func85, Tryd.ntmps85
  go_wp2
  go_ret
  exact ⟨_, _, rfl, ⟨pe, sa, sc, cell_of_row _ _ 0 _ _ _ k0, (B.cell (p := ⟨_, _, none⟩) (lt_of_cell h0)).trans h0, cell_of_row _ _ 0 _ _ _ k1, A.keep B⟩, B⟩
set_option maxRecDepth 100000 in
set_option maxHeartbeats 16000000 in
theorem nodeE_any (pe bi nb : Nat) (sa : Option Addr) (sc : Nat) (L : List Ty) (M : ByteArray → Option Int) (E : Envr) (al : Option Addr) (cl vb N : Nat) (vs : List V2) (n : Nd) (w : World) (I : EvlI w pe bi nb sa sc L M E al cl vb N vs) (T : TbA2 w) (hn : n.fit) (hop : 1 ≤ n.op ∧ n.op ≤ 26) (h12 : 12 ≤ n.op → 0 ≤ n.l ∧ n.l < (N : Int)) (h14 : 14 ≤ n.op → 0 ≤ n.r ∧ n.r < (N : Int)) (hvs : fitS vs) (hE : E.ok) (hN : N * 16 ≤ 140737488351232) :
    Calls Tryd.prog 60 #[ptrE pe, .agg (ndA n)] w fun e w' => e = .returned (VA (nodeW L M E vs n)) ∧ Below w.heap.size w w' := by
  have B0 := galloc (galloc (Below.refl w.heap.size w) (.cells (ndA n) 63)) (.cells #[.bool false, .int .i64 0] 53)
  have N0 := (Bk.new w (ndA n) 63).alloc (.cells #[.bool false, .int .i64 0] 53)
  have RV := Two.new (w.alloc (.cells (ndA n) 63)) (.bool false) (.int .i64 0) 53
  rw [show (w.alloc (.cells (ndA n) 63)).heap.size = w.heap.size + 1 by simp] at RV
  have IV := I.keep B0
  have TV := T.keep B0
  have c91 := fun u : World => kLiteral_any n u
  have hcl := fun it => (lstO_ok hE it).2.1
  obtain ⟨⟨xk, xn⟩, hx⟩ : ∃ x, nodeW L M E vs n = x := ⟨_, rfl⟩
  rw [hx]
  have HX : Hid (nodeW L M E vs n = (xk, xn)) := hx
  clear hx I T
  have hnv := hn.v
  clear hn
  obtain ⟨nop, nn, nv, nx, nl, nr⟩ := n
  unfold ndA at *
  dsimp only at *
  go_enter Tryd.func60, Tryd.ntmps60
  go_upto_region 1 with fail
  generalize (w.alloc _).alloc _ = V at *
  obtain ⟨m0, m1, m2, m3, m4, m5⟩ := N0.at6
  obtain ⟨d0, d1, d2, d3, d4, d5⟩ := IV.blk.at6
  have hne0 : Nonempty (Ext V) := ⟨⟨_, Below.refl _ _⟩⟩
  have q0 := fun z : Ext V => (z.cell _ _ (lt_of_cell m0)).trans m0
  have q2 := fun z : Ext V => (z.cell _ _ (lt_of_cell m2)).trans m2
  have q3 := fun z : Ext V => (z.cell _ _ (lt_of_cell m3)).trans m3
  have q4 := fun z : Ext V => (z.cell _ _ (lt_of_cell m4)).trans m4
  have q5 := fun z : Ext V => (z.cell _ _ (lt_of_cell m5)).trans m5
  have p1 := fun z : Ext V => (z.cell _ _ (lt_of_cell d1)).trans d1
  have p2 := fun z : Ext V => (z.cell _ _ (lt_of_cell d2)).trans d2
  have p3 := fun z : Ext V => (z.cell _ _ (lt_of_cell d3)).trans d3
  have p4 := fun z : Ext V => (z.cell _ _ (lt_of_cell d4)).trans d4
  have p5 := fun z : Ext V => (z.cell _ _ (lt_of_cell d5)).trans d5
  have lq := fun z : Ext V => (IV.mp.keep z.h).look1 nv hnv
  by_cases h4 : nop < 4
  · obtain ⟨lt, hlt⟩ : ∃ lt, kLit ⟨nop, nn, nv, nx, nl, nr⟩ = lt := ⟨_, rfl⟩
    rw [hlt] at c91
    have hx2 : ((true, lt) : V2) = (xk, xn) := by have := HX.out; unfold nodeW at this; rwa [if_pos h4, hlt] at this
    obtain ⟨rfl, rfl⟩ := Prod.mk.inj hx2
    clear HX hx2 hlt
    rcases (show nop = 1 ∨ nop = 2 ∨ nop = 3 by omega) with rfl | rfl | rfl
    all_goals
      go_wp2_with (first
        | (go_at_call 79; (with_reducible refine (c91 _).mono ?_); rintro e u1 ⟨rfl, g1⟩; have G1 := gtrans B0 g1; have R1 := RV.keep g1)
        | (go_at_call 38; (with_reducible refine (cknown_any _ _).mono ?_); rintro _ u2 ⟨rfl, g2⟩; have G2 := gtrans G1 g2; obtain ⟨r0, r1⟩ := show _ ∧ _ from ⟨(R1.keep g2).at0, (R1.keep g2).at1⟩; have rf := (R1.keep g2).free))
      refine bodyPost_ret (v := .agg #[.bool true, .int .i64 lt]) (by simp [results, Tryd.results60, go_sem, r0, r1]) rfl ⟨rfl, ?_⟩
      exact gset (gset G2 (by simp) _) (by simp) _
  by_cases h5 : nop = 5
  · subst h5
    have hx2 : ((true, ((lstO E ((M nv).getD 0)).length : Int)) : V2) = (xk, xn) := HX.out
    have cC : ∀ z : Ext V, Calls Tryd.prog 39 #[envA al cl E, .int .i64 ((M nv).getD 0)] z.X (fun e' w'' => e' = .returned (.agg #[.bool xk, .int .i64 xn]) ∧ ∃ m : Ext V, w'' = m.X) := fun z => by
      obtain ⟨e1, e2⟩ := Prod.mk.inj hx2
      rw [← e1, ← e2]
      exact ext_of (count_any E al cl ((M nv).getD 0) z.X (IV.ev.n.keep z.h) (by have := hcl ((M nv).getD 0); omega))
    clear HX hx2
    go_upto_region 7 with fail
    refine wp_region_ext_tail 12 (by kernel_rfl) (by kernel_rfl) ?_
    simp only [List.take_succ_cons, List.take_zero, List.drop_succ_cons, List.drop_zero]
    repeat (first
      | (refine wpQuiet_want rfl fun K hK => ⟨.int .i64 ((M nv).getD 0), fun u hC => by obtain ⟨z, rfl⟩ := hC; exact quiet_look (lq z) rfl rfl rfl, hK _ ?_⟩; simp only [Act.put, List.setIfInBounds_toArray, List.set_cons_succ, List.set_cons_zero])
      | go_big_quiet_step (first | (go_at_call 39; with_reducible exact cC _)))
    refine wpQuiet_nil ?_
    intro _ hw'
    obtain ⟨nz, hw''⟩ := hw'
    subst hw''
    have RX := RV.keep nz.h
    have GX := gtrans B0 nz.h
    obtain ⟨r0, r1⟩ := show _ ∧ _ from ⟨RX.at0, RX.at1⟩
    have rf := RX.free
    generalize nz.X = X at *
    go_wp2
    refine bodyPost_ret (v := .agg #[.bool xk, .int .i64 xn]) (by simp [results, Tryd.results60, go_sem, r0, r1]) rfl ⟨rfl, ?_⟩
    exact gset (gset GX (by simp) _) (by simp) _
  by_cases h11 : nop ≤ 11
  · rcases (show nop = 4 ∨ nop = 6 ∨ nop = 7 ∨ nop = 8 ∨ nop = 9 ∨ nop = 10 ∨ nop = 11 by omega) with rfl | rfl | rfl | rfl | rfl | rfl | rfl
    · replace HX : Hid (menV (fun t => attrI L t nx) 4 E ((M nv).getD 0) = (xk, xn)) := HX.out
      go_upto_region 15 with fail
      refine wp_region_ext_call 17 2 16 (by omega) (by omega) (ptrE pe) _ _ _ rfl rfl rfl rfl rfl rfl (by kernel_rfl) (by kernel_rfl) (fun c a d v w h => by cases d <;> exact h) ?_
      simp only [List.take_succ_cons, List.take_zero, List.drop_succ_cons, List.drop_zero, List.eraseIdx_cons_succ, List.eraseIdx_cons_zero, Act.put, List.setIfInBounds_toArray, List.set_cons_succ, List.set_cons_zero]
      repeat (first
        | (refine wpQuiet_want rfl fun K hK => ⟨.int .i64 ((M nv).getD 0), fun u hC => by obtain ⟨z, rfl⟩ := hC; exact quiet_look (lq z) rfl rfl rfl, hK _ ?_⟩; simp only [Act.put, List.setIfInBounds_toArray, List.set_cons_succ, List.set_cons_zero])
        | go_big_quiet_step (fail))
      refine wpQuiet_nil ?_
      intro X hX
      obtain ⟨nz, rfl⟩ := hX
      have RX := RV.keep nz.h
      have GX := gtrans B0 nz.h
      have IX := IV.keep nz.h
      have hzn := nz.h
      generalize nz.X = X at *
      refine wpOp_call rfl rfl 85 #[ptrE pe, .string nx] (by kernel_rfl) _ (placesOf_any pe bi sa sc L nx X IX.blk.at6.1 IX.ty) ?_
      rintro e Y ⟨be, bx, rfl, CY, gY⟩
      refine ⟨_, rfl, ⟨⟨Y, hzn.trans (gY.mono hzn.size)⟩, rfl⟩, ?_⟩
      have RY := RX.keep gY
      have GY := gtrans GX gY
      have cM := mention_anyE 4 E al cl ((M nv).getD 0) be bx L nx Y CY trivial (IX.keep gY).ev.n hE
      unfold attF at cM
      rw [HX.out] at cM
      simp only [Act.put, List.setIfInBounds_toArray, List.set_cons_succ, List.set_cons_zero]
      go_wp2_with (first
        | (go_at_call 40; (with_reducible refine cM.mono ?_); rintro e Z ⟨rfl, gZ⟩; obtain ⟨r0, r1⟩ := show _ ∧ _ from ⟨(RY.keep gZ).at0, (RY.keep gZ).at1⟩; have rf := (RY.keep gZ).free; have GZ := gtrans GY gZ))
      refine bodyPost_ret (v := .agg #[.bool xk, .int .i64 xn]) (by simp [results, Tryd.results60, go_sem, r0, r1]) rfl ⟨rfl, ?_⟩
      exact gset (gset GZ (by simp) _) (by simp) _
    · replace HX : Hid (menV (fun t => attrI L t nx) 6 E ((M nv).getD 0) = (xk, xn)) := HX.out
      go_upto_region 15 with fail
      refine wp_region_ext_call 17 2 16 (by omega) (by omega) (ptrE pe) _ _ _ rfl rfl rfl rfl rfl rfl (by kernel_rfl) (by kernel_rfl) (fun c a d v w h => by cases d <;> exact h) ?_
      simp only [List.take_succ_cons, List.take_zero, List.drop_succ_cons, List.drop_zero, List.eraseIdx_cons_succ, List.eraseIdx_cons_zero, Act.put, List.setIfInBounds_toArray, List.set_cons_succ, List.set_cons_zero]
      repeat (first
        | (refine wpQuiet_want rfl fun K hK => ⟨.int .i64 ((M nv).getD 0), fun u hC => by obtain ⟨z, rfl⟩ := hC; exact quiet_look (lq z) rfl rfl rfl, hK _ ?_⟩; simp only [Act.put, List.setIfInBounds_toArray, List.set_cons_succ, List.set_cons_zero])
        | go_big_quiet_step (fail))
      refine wpQuiet_nil ?_
      intro X hX
      obtain ⟨nz, rfl⟩ := hX
      have RX := RV.keep nz.h
      have GX := gtrans B0 nz.h
      have IX := IV.keep nz.h
      have hzn := nz.h
      generalize nz.X = X at *
      refine wpOp_call rfl rfl 85 #[ptrE pe, .string nx] (by kernel_rfl) _ (placesOf_any pe bi sa sc L nx X IX.blk.at6.1 IX.ty) ?_
      rintro e Y ⟨be, bx, rfl, CY, gY⟩
      refine ⟨_, rfl, ⟨⟨Y, hzn.trans (gY.mono hzn.size)⟩, rfl⟩, ?_⟩
      have RY := RX.keep gY
      have GY := gtrans GX gY
      have cM := mention_anyE 6 E al cl ((M nv).getD 0) be bx L nx Y CY trivial (IX.keep gY).ev.n hE
      unfold attF at cM
      rw [HX.out] at cM
      simp only [Act.put, List.setIfInBounds_toArray, List.set_cons_succ, List.set_cons_zero]
      go_wp2_with (first
        | (go_at_call 40; (with_reducible refine cM.mono ?_); rintro e Z ⟨rfl, gZ⟩; obtain ⟨r0, r1⟩ := show _ ∧ _ from ⟨(RY.keep gZ).at0, (RY.keep gZ).at1⟩; have rf := (RY.keep gZ).free; have GZ := gtrans GY gZ))
      refine bodyPost_ret (v := .agg #[.bool xk, .int .i64 xn]) (by simp [results, Tryd.results60, go_sem, r0, r1]) rfl ⟨rfl, ?_⟩
      exact gset (gset GZ (by simp) _) (by simp) _
    · replace HX : Hid (menV (fun t => attrI L t nx) 7 E ((M nv).getD 0) = (xk, xn)) := HX.out
      go_upto_region 15 with fail
      refine wp_region_ext_call 17 2 16 (by omega) (by omega) (ptrE pe) _ _ _ rfl rfl rfl rfl rfl rfl (by kernel_rfl) (by kernel_rfl) (fun c a d v w h => by cases d <;> exact h) ?_
      simp only [List.take_succ_cons, List.take_zero, List.drop_succ_cons, List.drop_zero, List.eraseIdx_cons_succ, List.eraseIdx_cons_zero, Act.put, List.setIfInBounds_toArray, List.set_cons_succ, List.set_cons_zero]
      repeat (first
        | (refine wpQuiet_want rfl fun K hK => ⟨.int .i64 ((M nv).getD 0), fun u hC => by obtain ⟨z, rfl⟩ := hC; exact quiet_look (lq z) rfl rfl rfl, hK _ ?_⟩; simp only [Act.put, List.setIfInBounds_toArray, List.set_cons_succ, List.set_cons_zero])
        | go_big_quiet_step (fail))
      refine wpQuiet_nil ?_
      intro X hX
      obtain ⟨nz, rfl⟩ := hX
      have RX := RV.keep nz.h
      have GX := gtrans B0 nz.h
      have IX := IV.keep nz.h
      have hzn := nz.h
      generalize nz.X = X at *
      refine wpOp_call rfl rfl 85 #[ptrE pe, .string nx] (by kernel_rfl) _ (placesOf_any pe bi sa sc L nx X IX.blk.at6.1 IX.ty) ?_
      rintro e Y ⟨be, bx, rfl, CY, gY⟩
      refine ⟨_, rfl, ⟨⟨Y, hzn.trans (gY.mono hzn.size)⟩, rfl⟩, ?_⟩
      have RY := RX.keep gY
      have GY := gtrans GX gY
      have cM := mention_anyE 7 E al cl ((M nv).getD 0) be bx L nx Y CY trivial (IX.keep gY).ev.n hE
      unfold attF at cM
      rw [HX.out] at cM
      simp only [Act.put, List.setIfInBounds_toArray, List.set_cons_succ, List.set_cons_zero]
      go_wp2_with (first
        | (go_at_call 40; (with_reducible refine cM.mono ?_); rintro e Z ⟨rfl, gZ⟩; obtain ⟨r0, r1⟩ := show _ ∧ _ from ⟨(RY.keep gZ).at0, (RY.keep gZ).at1⟩; have rf := (RY.keep gZ).free; have GZ := gtrans GY gZ))
      refine bodyPost_ret (v := .agg #[.bool xk, .int .i64 xn]) (by simp [results, Tryd.results60, go_sem, r0, r1]) rfl ⟨rfl, ?_⟩
      exact gset (gset GZ (by simp) _) (by simp) _
    · replace HX : Hid (menV (fun t => attrI L t nx) 8 E ((M nv).getD 0) = (xk, xn)) := HX.out
      go_upto_region 15 with fail
      refine wp_region_ext_call 17 2 16 (by omega) (by omega) (ptrE pe) _ _ _ rfl rfl rfl rfl rfl rfl (by kernel_rfl) (by kernel_rfl) (fun c a d v w h => by cases d <;> exact h) ?_
      simp only [List.take_succ_cons, List.take_zero, List.drop_succ_cons, List.drop_zero, List.eraseIdx_cons_succ, List.eraseIdx_cons_zero, Act.put, List.setIfInBounds_toArray, List.set_cons_succ, List.set_cons_zero]
      repeat (first
        | (refine wpQuiet_want rfl fun K hK => ⟨.int .i64 ((M nv).getD 0), fun u hC => by obtain ⟨z, rfl⟩ := hC; exact quiet_look (lq z) rfl rfl rfl, hK _ ?_⟩; simp only [Act.put, List.setIfInBounds_toArray, List.set_cons_succ, List.set_cons_zero])
        | go_big_quiet_step (fail))
      refine wpQuiet_nil ?_
      intro X hX
      obtain ⟨nz, rfl⟩ := hX
      have RX := RV.keep nz.h
      have GX := gtrans B0 nz.h
      have IX := IV.keep nz.h
      have hzn := nz.h
      generalize nz.X = X at *
      refine wpOp_call rfl rfl 85 #[ptrE pe, .string nx] (by kernel_rfl) _ (placesOf_any pe bi sa sc L nx X IX.blk.at6.1 IX.ty) ?_
      rintro e Y ⟨be, bx, rfl, CY, gY⟩
      refine ⟨_, rfl, ⟨⟨Y, hzn.trans (gY.mono hzn.size)⟩, rfl⟩, ?_⟩
      have RY := RX.keep gY
      have GY := gtrans GX gY
      have cM := mention_anyE 8 E al cl ((M nv).getD 0) be bx L nx Y CY trivial (IX.keep gY).ev.n hE
      unfold attF at cM
      rw [HX.out] at cM
      simp only [Act.put, List.setIfInBounds_toArray, List.set_cons_succ, List.set_cons_zero]
      go_wp2_with (first
        | (go_at_call 40; (with_reducible refine cM.mono ?_); rintro e Z ⟨rfl, gZ⟩; obtain ⟨r0, r1⟩ := show _ ∧ _ from ⟨(RY.keep gZ).at0, (RY.keep gZ).at1⟩; have rf := (RY.keep gZ).free; have GZ := gtrans GY gZ))
      refine bodyPost_ret (v := .agg #[.bool xk, .int .i64 xn]) (by simp [results, Tryd.results60, go_sem, r0, r1]) rfl ⟨rfl, ?_⟩
      exact gset (gset GZ (by simp) _) (by simp) _
    · replace HX : Hid (menV (fun t => attrI L t nx) 9 E ((M nv).getD 0) = (xk, xn)) := HX.out
      go_upto_region 15 with fail
      refine wp_region_ext_call 17 2 16 (by omega) (by omega) (ptrE pe) _ _ _ rfl rfl rfl rfl rfl rfl (by kernel_rfl) (by kernel_rfl) (fun c a d v w h => by cases d <;> exact h) ?_
      simp only [List.take_succ_cons, List.take_zero, List.drop_succ_cons, List.drop_zero, List.eraseIdx_cons_succ, List.eraseIdx_cons_zero, Act.put, List.setIfInBounds_toArray, List.set_cons_succ, List.set_cons_zero]
      repeat (first
        | (refine wpQuiet_want rfl fun K hK => ⟨.int .i64 ((M nv).getD 0), fun u hC => by obtain ⟨z, rfl⟩ := hC; exact quiet_look (lq z) rfl rfl rfl, hK _ ?_⟩; simp only [Act.put, List.setIfInBounds_toArray, List.set_cons_succ, List.set_cons_zero])
        | go_big_quiet_step (fail))
      refine wpQuiet_nil ?_
      intro X hX
      obtain ⟨nz, rfl⟩ := hX
      have RX := RV.keep nz.h
      have GX := gtrans B0 nz.h
      have IX := IV.keep nz.h
      have hzn := nz.h
      generalize nz.X = X at *
      refine wpOp_call rfl rfl 85 #[ptrE pe, .string nx] (by kernel_rfl) _ (placesOf_any pe bi sa sc L nx X IX.blk.at6.1 IX.ty) ?_
      rintro e Y ⟨be, bx, rfl, CY, gY⟩
      refine ⟨_, rfl, ⟨⟨Y, hzn.trans (gY.mono hzn.size)⟩, rfl⟩, ?_⟩
      have RY := RX.keep gY
      have GY := gtrans GX gY
      have cM := mention_anyE 9 E al cl ((M nv).getD 0) be bx L nx Y CY trivial (IX.keep gY).ev.n hE
      unfold attF at cM
      rw [HX.out] at cM
      simp only [Act.put, List.setIfInBounds_toArray, List.set_cons_succ, List.set_cons_zero]
      go_wp2_with (first
        | (go_at_call 40; (with_reducible refine cM.mono ?_); rintro e Z ⟨rfl, gZ⟩; obtain ⟨r0, r1⟩ := show _ ∧ _ from ⟨(RY.keep gZ).at0, (RY.keep gZ).at1⟩; have rf := (RY.keep gZ).free; have GZ := gtrans GY gZ))
      refine bodyPost_ret (v := .agg #[.bool xk, .int .i64 xn]) (by simp [results, Tryd.results60, go_sem, r0, r1]) rfl ⟨rfl, ?_⟩
      exact gset (gset GZ (by simp) _) (by simp) _
    · replace HX : Hid (menV (fun t => attrI L t nx) 10 E ((M nv).getD 0) = (xk, xn)) := HX.out
      go_upto_region 15 with fail
      refine wp_region_ext_call 17 2 16 (by omega) (by omega) (ptrE pe) _ _ _ rfl rfl rfl rfl rfl rfl (by kernel_rfl) (by kernel_rfl) (fun c a d v w h => by cases d <;> exact h) ?_
      simp only [List.take_succ_cons, List.take_zero, List.drop_succ_cons, List.drop_zero, List.eraseIdx_cons_succ, List.eraseIdx_cons_zero, Act.put, List.setIfInBounds_toArray, List.set_cons_succ, List.set_cons_zero]
      repeat (first
        | (refine wpQuiet_want rfl fun K hK => ⟨.int .i64 ((M nv).getD 0), fun u hC => by obtain ⟨z, rfl⟩ := hC; exact quiet_look (lq z) rfl rfl rfl, hK _ ?_⟩; simp only [Act.put, List.setIfInBounds_toArray, List.set_cons_succ, List.set_cons_zero])
        | go_big_quiet_step (fail))
      refine wpQuiet_nil ?_
      intro X hX
      obtain ⟨nz, rfl⟩ := hX
      have RX := RV.keep nz.h
      have GX := gtrans B0 nz.h
      have IX := IV.keep nz.h
      have hzn := nz.h
      generalize nz.X = X at *
      refine wpOp_call rfl rfl 85 #[ptrE pe, .string nx] (by kernel_rfl) _ (placesOf_any pe bi sa sc L nx X IX.blk.at6.1 IX.ty) ?_
      rintro e Y ⟨be, bx, rfl, CY, gY⟩
      refine ⟨_, rfl, ⟨⟨Y, hzn.trans (gY.mono hzn.size)⟩, rfl⟩, ?_⟩
      have RY := RX.keep gY
      have GY := gtrans GX gY
      have cM := mention_anyE 10 E al cl ((M nv).getD 0) be bx L nx Y CY trivial (IX.keep gY).ev.n hE
      unfold attF at cM
      rw [HX.out] at cM
      simp only [Act.put, List.setIfInBounds_toArray, List.set_cons_succ, List.set_cons_zero]
      go_wp2_with (first
        | (go_at_call 40; (with_reducible refine cM.mono ?_); rintro e Z ⟨rfl, gZ⟩; obtain ⟨r0, r1⟩ := show _ ∧ _ from ⟨(RY.keep gZ).at0, (RY.keep gZ).at1⟩; have rf := (RY.keep gZ).free; have GZ := gtrans GY gZ))
      refine bodyPost_ret (v := .agg #[.bool xk, .int .i64 xn]) (by simp [results, Tryd.results60, go_sem, r0, r1]) rfl ⟨rfl, ?_⟩
      exact gset (gset GZ (by simp) _) (by simp) _
    · replace HX : Hid (menV (fun t => attrI L t nx) 11 E ((M nv).getD 0) = (xk, xn)) := HX.out
      go_upto_region 15 with fail
      refine wp_region_ext_call 17 2 16 (by omega) (by omega) (ptrE pe) _ _ _ rfl rfl rfl rfl rfl rfl (by kernel_rfl) (by kernel_rfl) (fun c a d v w h => by cases d <;> exact h) ?_
      simp only [List.take_succ_cons, List.take_zero, List.drop_succ_cons, List.drop_zero, List.eraseIdx_cons_succ, List.eraseIdx_cons_zero, Act.put, List.setIfInBounds_toArray, List.set_cons_succ, List.set_cons_zero]
      repeat (first
        | (refine wpQuiet_want rfl fun K hK => ⟨.int .i64 ((M nv).getD 0), fun u hC => by obtain ⟨z, rfl⟩ := hC; exact quiet_look (lq z) rfl rfl rfl, hK _ ?_⟩; simp only [Act.put, List.setIfInBounds_toArray, List.set_cons_succ, List.set_cons_zero])
        | go_big_quiet_step (fail))
      refine wpQuiet_nil ?_
      intro X hX
      obtain ⟨nz, rfl⟩ := hX
      have RX := RV.keep nz.h
      have GX := gtrans B0 nz.h
      have IX := IV.keep nz.h
      have hzn := nz.h
      generalize nz.X = X at *
      refine wpOp_call rfl rfl 85 #[ptrE pe, .string nx] (by kernel_rfl) _ (placesOf_any pe bi sa sc L nx X IX.blk.at6.1 IX.ty) ?_
      rintro e Y ⟨be, bx, rfl, CY, gY⟩
      refine ⟨_, rfl, ⟨⟨Y, hzn.trans (gY.mono hzn.size)⟩, rfl⟩, ?_⟩
      have RY := RX.keep gY
      have GY := gtrans GX gY
      have cM := mention_anyE 11 E al cl ((M nv).getD 0) be bx L nx Y CY trivial (IX.keep gY).ev.n hE
      unfold attF at cM
      rw [HX.out] at cM
      simp only [Act.put, List.setIfInBounds_toArray, List.set_cons_succ, List.set_cons_zero]
      go_wp2_with (first
        | (go_at_call 40; (with_reducible refine cM.mono ?_); rintro e Z ⟨rfl, gZ⟩; obtain ⟨r0, r1⟩ := show _ ∧ _ from ⟨(RY.keep gZ).at0, (RY.keep gZ).at1⟩; have rf := (RY.keep gZ).free; have GZ := gtrans GY gZ))
      refine bodyPost_ret (v := .agg #[.bool xk, .int .i64 xn]) (by simp [results, Tryd.results60, go_sem, r0, r1]) rfl ⟨rfl, ?_⟩
      exact gset (gset GZ (by simp) _) (by simp) _
  by_cases h12' : nop = 12
  · subst h12'
    obtain ⟨k, rfl⟩ : ∃ k : Nat, nl = k := ⟨nl.toNat, by have := (h12 (by decide)).1; omega⟩
    have hk : k < N := by have := (h12 (by decide)).2; omega
    have HX2 : negW (vs.getD k noV2) = (xk, xn) := by
      have := HX.out
      unfold nodeW at this
      dsimp only at this
      rwa [if_neg (by decide), if_neg (by decide), if_neg (by decide), if_pos rfl, Int.toNat_natCast] at this
    obtain ⟨v0, v1⟩ := IV.vals k hk
    have hfk := hvs k
    generalize vs.getD k noV2 = av at *
    obtain ⟨ak, an⟩ := av
    dsimp only at v0 v1 hfk
    have cC : ∀ z : Ext V, Calls Tryd.prog 43 #[.agg #[.bool ak, .int .i64 an]] z.X (fun e' w'' => e' = .returned (.agg #[.bool xk, .int .i64 xn]) ∧ ∃ m : Ext V, w'' = m.X) := fun z => by
      have c0 := neg_any ak an z.X hfk
      unfold negW at HX2
      obtain ⟨e1, e2⟩ := Prod.mk.inj HX2
      rw [← e1, ← e2]
      exact ext_of c0
    have p6 := fun z : Ext V => (z.cell _ _ (lt_of_cell v0)).trans v0
    have p7 := fun z : Ext V => (z.cell _ _ (lt_of_cell v1)).trans v1
    have hki : (k : Int) < (N : Int) := by omega
    clear HX2 hfk HX
    go_upto_region 17 with fail
    refine wp_region_ext_tail 9 (by kernel_rfl) (by kernel_rfl) ?_
    simp only [List.take_succ_cons, List.take_zero, List.drop_succ_cons, List.drop_zero]
    repeat (go_big_quiet_step (first | (go_at_call 43; with_reducible exact cC _)))
    refine wpQuiet_nil ?_
    intro _ hw'
    obtain ⟨nz, hw''⟩ := hw'
    subst hw''
    have RX := RV.keep nz.h
    have GX := gtrans B0 nz.h
    obtain ⟨r0, r1⟩ := show _ ∧ _ from ⟨RX.at0, RX.at1⟩
    have rf := RX.free
    generalize nz.X = X at *
    go_wp2
    refine bodyPost_ret (v := .agg #[.bool xk, .int .i64 xn]) (by simp [results, Tryd.results60, go_sem, r0, r1]) rfl ⟨rfl, ?_⟩
    exact gset (gset GX (by simp) _) (by simp) _
  by_cases h13 : nop = 13
  · subst h13
    obtain ⟨k, rfl⟩ : ∃ k : Nat, nl = k := ⟨nl.toNat, by have := (h12 (by decide)).1; omega⟩
    have hk : k < N := by have := (h12 (by decide)).2; omega
    have HX2 : notW (vs.getD k noV2) = (xk, xn) := by
      have := HX.out
      unfold nodeW at this
      dsimp only at this
      rwa [if_neg (by decide), if_neg (by decide), if_neg (by decide), if_neg (by decide), if_pos rfl, Int.toNat_natCast] at this
    obtain ⟨v0, v1⟩ := IV.vals k hk
    have hfk := hvs k
    generalize vs.getD k noV2 = av at *
    obtain ⟨ak, an⟩ := av
    dsimp only at v0 v1 hfk
    have cC : ∀ z : Ext V, Calls Tryd.prog 44 #[.agg #[.bool ak, .int .i64 an]] z.X (fun e' w'' => e' = .returned (.agg #[.bool xk, .int .i64 xn]) ∧ ∃ m : Ext V, w'' = m.X) := fun z => by
      have c0 := not_any ak an z.X (TV.n.keep z.h)
      unfold notW at HX2
      obtain ⟨e1, e2⟩ := Prod.mk.inj HX2
      rw [← e1, ← e2]
      exact ext_of c0
    have p6 := fun z : Ext V => (z.cell _ _ (lt_of_cell v0)).trans v0
    have p7 := fun z : Ext V => (z.cell _ _ (lt_of_cell v1)).trans v1
    have hki : (k : Int) < (N : Int) := by omega
    clear HX2 hfk HX
    go_upto_region 19 with fail
    refine wp_region_ext_tail 9 (by kernel_rfl) (by kernel_rfl) ?_
    simp only [List.take_succ_cons, List.take_zero, List.drop_succ_cons, List.drop_zero]
    repeat (go_big_quiet_step (first | (go_at_call 44; with_reducible exact cC _)))
    refine wpQuiet_nil ?_
    intro _ hw'
    obtain ⟨nz, hw''⟩ := hw'
    subst hw''
    have RX := RV.keep nz.h
    have GX := gtrans B0 nz.h
    obtain ⟨r0, r1⟩ := show _ ∧ _ from ⟨RX.at0, RX.at1⟩
    have rf := RX.free
    generalize nz.X = X at *
    go_wp2
    refine bodyPost_ret (v := .agg #[.bool xk, .int .i64 xn]) (by simp [results, Tryd.results60, go_sem, r0, r1]) rfl ⟨rfl, ?_⟩
    exact gset (gset GX (by simp) _) (by simp) _
  have h14' : 14 ≤ nop := by omega
  obtain ⟨k, rfl⟩ : ∃ k : Nat, nl = k := ⟨nl.toNat, by have := (h12 (by omega)).1; omega⟩
  obtain ⟨j, rfl⟩ : ∃ j : Nat, nr = j := ⟨nr.toNat, by have := (h14 h14').1; omega⟩
  have hk : k < N := by have := (h12 (by omega)).2; omega
  have hj : j < N := by have := (h14 h14').2; omega
  have h3 : ¬ nop < 4 := by omega
  have HX2 : applyV nop (vs.getD k noV2) (vs.getD j noV2) = (xk, xn) := by
    have := HX.out
    unfold nodeW at this
    dsimp only at this
    rwa [if_neg h3, if_neg (by omega), if_neg (by omega), if_neg (by omega), if_neg (by omega), Int.toNat_natCast, Int.toNat_natCast] at this
  obtain ⟨v0, v1⟩ := IV.vals k hk
  obtain ⟨u0, u1⟩ := IV.vals j hj
  have ca := apply_one nop (vs.getD k noV2) (vs.getD j noV2) (hvs k) (hvs j)
  rw [HX2] at ca
  generalize vs.getD k noV2 = av at *
  generalize vs.getD j noV2 = bv at *
  obtain ⟨ak, an⟩ := av
  obtain ⟨bk, bn⟩ := bv
  dsimp only at v0 v1 u0 u1
  have cC : ∀ z : Ext V, Calls Tryd.prog 46 #[.int .i64 nop, VA (ak, an), VA (bk, bn)] z.X (fun e' w'' => e' = .returned (.agg #[.bool xk, .int .i64 xn]) ∧ ∃ m : Ext V, w'' = m.X) := fun z => ext_of (ca z.X (TV.t.keep z.h))
  have p6 := fun z : Ext V => (z.cell _ _ (lt_of_cell v0)).trans v0
  have p7 := fun z : Ext V => (z.cell _ _ (lt_of_cell v1)).trans v1
  have p8 := fun z : Ext V => (z.cell _ _ (lt_of_cell u0)).trans u0
  have p9 := fun z : Ext V => (z.cell _ _ (lt_of_cell u1)).trans u1
  have hki : (k : Int) < (N : Int) := by omega
  have hji : (j : Int) < (N : Int) := by omega
  clear HX2 ca HX
  have n1 : (nop == 1) = false := beq_eq_false_iff_ne.2 (by omega)
  have n2 : (nop == 2) = false := beq_eq_false_iff_ne.2 (by omega)
  have n3 : (nop == 3) = false := beq_eq_false_iff_ne.2 (by omega)
  have n4 : (nop == 4) = false := beq_eq_false_iff_ne.2 (by omega)
  have n5 : (nop == 5) = false := beq_eq_false_iff_ne.2 (by omega)
  have n6 : (nop == 6) = false := beq_eq_false_iff_ne.2 (by omega)
  have n7 : (nop == 7) = false := beq_eq_false_iff_ne.2 (by omega)
  have n8 : (nop == 8) = false := beq_eq_false_iff_ne.2 (by omega)
  have n9 : (nop == 9) = false := beq_eq_false_iff_ne.2 (by omega)
  have n10 : (nop == 10) = false := beq_eq_false_iff_ne.2 (by omega)
  have n11 : (nop == 11) = false := beq_eq_false_iff_ne.2 (by omega)
  have n12 : (nop == 12) = false := beq_eq_false_iff_ne.2 (by omega)
  have n13 : (nop == 13) = false := beq_eq_false_iff_ne.2 (by omega)
  clear h12 h14 h14' hop
  go_upto_region 20 with fail
  refine wp_region_ext_tail 19 (by kernel_rfl) (by kernel_rfl) ?_
  simp only [List.take_succ_cons, List.take_zero, List.drop_succ_cons, List.drop_zero]
  repeat (go_big_quiet_step (first | (go_at_call 46; with_reducible exact cC _)))
  refine wpQuiet_nil ?_
  intro _ hw'
  obtain ⟨nz, hw''⟩ := hw'
  subst hw''
  have RX := RV.keep nz.h
  have GX := gtrans B0 nz.h
  obtain ⟨r0, r1⟩ := show _ ∧ _ from ⟨RX.at0, RX.at1⟩
  have rf := RX.free
  generalize nz.X = X at *
  go_wp2
  refine bodyPost_ret (v := .agg #[.bool xk, .int .i64 xn]) (by simp [results, Tryd.results60, go_sem, r0, r1]) rfl ⟨rfl, ?_⟩
  exact gset (gset GX (by simp) _) (by simp) _

end Go.Proofs.YtnmppmmanigpcaaDoor
