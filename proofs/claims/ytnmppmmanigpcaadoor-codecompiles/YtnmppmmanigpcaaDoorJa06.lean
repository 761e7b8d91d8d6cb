/- An aggregate by a column: what places' fold comes to. And what goes with it: 5 texts in one. -/
import Derived.Test.YtnmppmmanigpcaaDoorJa05
import Derived.StillTail
import Derived.WalkMore
import Derived.WalkSmall
import Derived.ChangeKeysEq
namespace Go.Proofs.YtnmppmmanigpcaaDoor
open Go.RowKit Go.BigFrame
set_option linter.unusedVariables false
set_option linter.unusedSimpArgs false

theorem nf_i64 : (Tryd.prog.info? 2).map (fun i => (i.zero, i.size, i.bytes)) = some (some (.int .i64 0), 1, 8) := by kernel_rfl
def numK (f : Int → Int) (l : List Ev) (k : Nat) : List Int := (l.take k).map fun e => (rdE f e).2
theorem numK_len (f : Int → Int) (l : List Ev) (k : Nat) (h : k ≤ l.length) : (numK f l k).length = k := by unfold numK; simp; omega
theorem numK_succ (f : Int → Int) (l : List Ev) (k : Nat) (h : k < l.length) : numK f l (k + 1) = numK f l k ++ [(rdE f (l.getD k zeroE)).2] := by
  unfold numK
  rw [List.take_add_one, List.getElem?_eq_getElem h]
  simp only [Option.toList, List.map_append, List.map_cons, List.map_nil, List.getD_eq_getElem?_getD, List.getElem?_eq_getElem h, Option.getD_some]
theorem numK_fits {l : List Ev} (h : evsOk l) (f : Int → Int) (k j : Nat) : fitsB ((numK f l k).getD j 0) = true := by
  unfold numK
  refine map_fits (l := l.take k) (fun i => ?_) f j
  rw [List.getD_eq_getElem?_getD, List.getElem?_take]
  have := h i
  rw [List.getD_eq_getElem?_getD] at this
  split
  · exact this
  · exact zeroE_ok
theorem gat_yes {f : Int → Int} {op : Int} {l : List Ev} (h : ∀ j, j < l.length → (rdE f (l.getD j zeroE)).1 = true) : gatV f op l = fdV op (numK f l l.length) := by
  unfold gatV numK
  rw [if_pos, List.take_length]
  rw [List.all_eq_true]
  intro e he
  obtain ⟨j, hj, rfl⟩ := List.getElem_of_mem he
  have := h j hj
  rwa [List.getD_eq_getElem?_getD, List.getElem?_eq_getElem hj] at this
theorem gat_no {f : Int → Int} {op : Int} {l : List Ev} {j : Nat} (hj : j < l.length) (h : (rdE f (l.getD j zeroE)).1 = false) : gatV f op l = noV2 := by
  unfold gatV
  rw [if_neg]
  intro ha
  rw [List.all_eq_true] at ha
  have := ha _ (List.getElem_mem hj)
  rw [List.getD_eq_getElem?_getD, List.getElem?_eq_getElem hj] at h
  simp at h
  rw [h] at this
  cases this
theorem one_newE {w : World} {g : Nat} (hg : g = w.heap.size) (x : Value) (t : TypeId) (j : Nat) (u : Value) (h : [x][j]? = some u) : (w.alloc (.cells #[x] t)).cell? ((⟨g, 0, none⟩ : Addr).add j) = some u := by
  subst hg
  rw [Go.WideShapes.add_plain, Nat.zero_add, World.cell?_alloc_new]
  simpa using h
structure FoldL (f : Int → Int) (l : List Ev) (w : World) (v i : Value) (wr : World) : Prop where
  ex : ∃ k : Nat, k ≤ l.length ∧ i = .int .i64 k ∧ (∀ j, j < k → (rdE f (l.getD j zeroE)).1 = true) ∧ wr.ownsRow (w.heap.size + 1) 2 1 v (numK f l k).length ((numK f l k).map (Value.int .i64)) ∧ Two wr w.heap.size (.bool false) (.int .i64 0) 53 ∧ Below w.heap.size w wr

set_option maxRecDepth 100000 in
set_option maxHeartbeats 4000000 in
theorem cfold_any (ac : Option Addr) (cc : Nat) (col : List Int) (a : Option Addr) (c : Nat) (l : List Ev) (op : Int) (w : World) (hf : Flat w ac (fl intC col)) (hl : col.length ≤ 140737488351232) (hA : Flat w a (fl evC l)) (hn : l.length * 88 ≤ 140737488351232) (hE : evsOk l) :
    Calls Tryd.prog 64 #[plcF ac col.length cc, .int .i64 op, .slice a l.length c] w fun r w' => r = .returned (VA (gatV (plcO col) op l)) ∧ Below w.heap.size w w' := by
  obtain ⟨i0, ti, tz0, tz1, tz2⟩ := nf_info nf_i64
  obtain ⟨M, hM, hmk⟩ := run_make_cap (P := Tryd.prog) 140 2 Tryd.underlying140 nf_i64 l.length (by omega) (by omega)
  have B0 := galloc (galloc (Below.refl w.heap.size w) (.cells #[.bool false, .int .i64 0] 53)) (.cells M 2)
  have R0 := (Two.new w (.bool false) (.int .i64 0) 53).alloc (.cells M 2)
  have O0 : ((w.alloc (.cells #[.bool false, .int .i64 0] 53)).alloc (.cells M 2)).ownsRow (w.heap.size + 1) 2 1 (.slice (some ⟨w.heap.size + 1, 0, none⟩) 0 l.length) 0 [] := by
    have := World.ownsRow_made (base := w.heap.size + 1) (e := 2) (size := 1) (w.alloc (.cells #[.bool false, .int .i64 0] 53)) M l.length (by simp) (by unfold maxLen; omega) hM
    simpa using this
  generalize hx : gatV (plcO col) op l = x
  obtain ⟨zk, zn⟩ := x
  have HX := show Hid (_ = _) from hx
  clear hx
  go_enter Tryd.func64, Tryd.ntmps64
  go_wp2
  generalize (w.alloc (.cells #[.bool false, .int .i64 0] 53)).alloc (.cells M 2) = Z at *
  go_loopw [7, 16] (fun v i wr => FoldL (plcO col) l w v i wr) (fun _ i _ => l.length - (intOf i).toNat)
  case atStart => exact ⟨⟨0, Nat.zero_le _, rfl, fun j hj => absurd hj (Nat.not_lt_zero _), O0, R0, B0⟩⟩
  case round =>
    clear O0 R0 B0 hmk
    obtain ⟨⟨k, hk, rfl, hall, hown, R, G⟩⟩ := hrel
    have zG := G.size
    have zR := R.lt
    by_cases hlt : k < l.length
    · have hki : (k : Int) < (l.length : Int) := by omega
      obtain ⟨g, o, rfl, hg, hcc⟩ := (hA.keep G).form (by rw [fl_len evC_sz]; omega)
      have A := ev_at hcc k hlt
      obtain ⟨ev, hev⟩ : ∃ ev, l.getD k zeroE = ev := ⟨_, rfl⟩
      rw [hev] at A
      have HEV := show Hid (_ = _) from hev
      have hr := read_any' ac cc col ev _ ((hf.keep G).keep (galloc (Below.refl wr.heap.size wr) (.cells (evC ev) 86))) hl
      obtain ⟨⟨xk, xn⟩, hxx⟩ : ∃ x, rdE (plcO col) ev = x := ⟨_, rfl⟩
      rw [hxx] at hr
      have HXX := show Hid (_ = _) from hxx
      have hnl := numK_len (plcO col) l k hk
      have ge := galloc (Below.refl wr.heap.size wr) (.cells (evC ev) 86)
      unfold evC at hr ge
      obtain ⟨c0, c1, c2, c3, c4, c5, c6, c7, c8, c9, c10⟩ := A
      clear hcc hxx hev
      cases xk
      · go_wp2_with (first
          | (go_at_call 87; (with_reducible refine hr.mono ?_); rintro _ u1 ⟨rfl, g1⟩; have G1 := gtrans ge g1; have G2 := gtrans G G1; obtain ⟨r0, r1⟩ := show _ ∧ _ from ⟨((R.keep G1).alloc (.cells #[.bool false, .int .i64 xn] 53)).at0, ((R.keep G1).alloc (.cells #[.bool false, .int .i64 xn] 53)).at1⟩; have rf := ((R.keep G1).alloc (.cells #[.bool false, .int .i64 xn] 53)).free))
        obtain ⟨rfl, rfl⟩ : zk = false ∧ zn = 0 := Prod.mk.inj (HX.out.symm.trans (gat_no hlt (by rw [HEV.out, HXX.out])))
        go_wp2
        refine bodyPost_ret (v := .agg #[.bool false, .int .i64 0]) (by simp [results, Tryd.results64, go_sem, r0, r1]) rfl ⟨rfl, ?_⟩
        first | exact galloc G2 _ | exact gset (gset (galloc G2 _) (by simp) _) (by simp) _
      · go_wp2_with (first
          | (go_at_call 87; (with_reducible refine hr.mono ?_); rintro _ u1 ⟨rfl, g1⟩; have G1 := gtrans ge g1; have G2 := gtrans G G1; have Ou := (own_keep hown G1).alloc (.cells #[.bool true, .int .i64 xn] 53))
          | (at_builtin; refine wpList_append_own _ rfl (.tmp 27) (.tmp 30) 140 rfl (w.heap.size + 1) 2 i0 (.int .i64 0) 1 8 Tryd.underlying140 ti tz0 tz1 tz2 rfl (by decide) _ _ _ rfl (Ou.alloc _) ⟨u1.heap.size + 1, 0, none⟩ 1 1 [.int .i64 xn] rfl rfl (one_newE (by simp) _ _) (fun u hu => by simp at hu; subst hu; rfl) ?c3 ?c4 ?c5 ?_))
        case c3 => unfold maxLen; omega
        case c4 => omega
        case c5 => have := G2.size; simp; omega
        intro v' w1 hown' hgrow _
        have e := numK_succ (plcO col) l k hlt
        rw [HEV.out, HXX.out] at e
        have hown2 : w1.ownsRow (w.heap.size + 1) 2 1 v' (numK (plcO col) l (k + 1)).length ((numK (plcO col) l (k + 1)).map (Value.int .i64)) := by rw [e]; simpa [hnl] using hown'
        have q := hgrow.block w.heap.size (by have := G2.size; simp; omega) (fun e => by have := (Ou.lt _ e.symm).1; omega)
        have R2 : Two w1 w.heap.size (.bool false) (.int .i64 0) 53 := q.trans (((R.keep G1).alloc (.cells #[.bool true, .int .i64 xn] 53)).alloc _)
        have Gw : Below w.heap.size w w1 := (galloc (galloc G2 (.cells #[.bool true, .int .i64 xn] 53)) _).grown hgrow (by have := G2.size; simp; omega) (fun r e => by have := (Ou.lt _ e).1; omega)
        have hall2 : ∀ j, j < k + 1 → (rdE (plcO col) (l.getD j zeroE)).1 = true := fun j hj => by
          by_cases hjk : j < k
          · exact hall j hjk
          · obtain rfl : j = k := by omega
            rw [HEV.out, HXX.out]
        have fin : FoldL (plcO col) l w v' (.int .i64 ((k : Int) + 1)) w1 := ⟨⟨k + 1, by omega, by go_num, hall2, hown2, R2, Gw⟩⟩
        clear hown' hgrow hown2 R2 Gw hall2 q e Ou hown R hall hr c0 c1 c2 c3 c4 c5 c6 c7 c8 c9 c10
        go_wp2
        go_roundw
        case rel => exact fin
        case measure => simp [intOf]; omega
    · obtain rfl : k = l.length := by omega
      obtain ⟨hzk, hzn⟩ := Prod.mk.inj ((gat_yes hall).symm.trans HX.out)
      have hnl := numK_len (plcO col) l l.length (Nat.le_refl _)
      obtain ⟨ao, cap, rfl, hrow, _, _⟩ := isRow_own hown (numK_fits hE _ _)
      have hfo := fold_any op ao _ cap _ wr hrow
      rw [hzk, hzn] at hfo
      generalize (numK (plcO col) l l.length).length = nn at hfo
      clear hall HX hzk hzn hown hnl
      go_wp2_with (first
        | (go_at_call 88; (with_reducible refine hfo.mono ?_); rintro _ u1 ⟨rfl, g1⟩; have G2 := gtrans G g1; have R1 := R.keep g1; obtain ⟨r0, r1⟩ := show _ ∧ _ from ⟨R1.at0, R1.at1⟩; have rf := R1.free))
      refine bodyPost_ret (v := .agg #[.bool zk, .int .i64 zn]) (by simp [results, Tryd.results64, go_sem, r0, r1]) rfl ⟨rfl, ?_⟩
      exact gset (gset G2 (by simp) _) (by simp) _

end Go.Proofs.YtnmppmmanigpcaaDoor
namespace Go.Proofs.YtnmppmmanigpcaaDoor
open Go.RowKit
set_option linter.unusedVariables false

section
variable {P : Program} {ops : Array Oper} {md : Region.Mode} {C : World → Prop}

/-- Whatever is picked of the first n operations, f of them; then L. -/
def headQ (P : Program) (md : Region.Mode) (ops : Array Oper) (C : World → Prop) (n : Nat) (L : Array Bool → Act → Prop) : Nat → Array Bool → Act → Prop
  | 0, listed, a => L listed a
  | f + 1, listed, a => Region.ready md ops listed ≠ [] ∧ ∀ i ∈ Region.ready md ops listed, i < n ∧ qOp P ops C i (headQ P md ops C n L f (listed.setIfInBounds i true)) a

theorem any_of_headQ {n g : Nat} {L : Array Bool → Act → Prop} {Q' : Exit → Act → World → Prop} (hL : ∀ listed a w, C w → L listed a → wpAny P md ops Q' g listed a w) :
    ∀ (f : Nat) (listed : Array Bool) (a : Act) (w : World), C w → headQ P md ops C n L f listed a → wpAny P md ops Q' (f + g) listed a w
  | 0, listed, a, w, hw, h => by rw [Nat.zero_add]; exact hL _ _ _ hw h
  | f + 1, listed, a, w, hw, h => by
    rw [show f + 1 + g = (f + g) + 1 by omega]
    exact ⟨fun h0 => absurd h0 h.1, fun i hi => wpOp_of_qOp hw (fun a' w' hw' h' => any_of_headQ hL f _ a' w' hw' h') (h.2 i hi).2⟩

theorem headQ_first {n i : Nat} {oi : Oper} {v : Value} {L : Array Bool → Act → Prop} (hi : ops[i]? = some oi) (hsel : ∀ (j : Nat) (o : Oper) cs b, ops[j]? = some o → o.op ≠ .select cs b)
    (hs : Region.sinkB md ops n = true) (hc : Region.chainB md ops n = true) (hn : n < ops.size) (hin : i < n)
    (hdone : ∀ listed a, L listed a → ∀ j ∈ Region.ready md ops listed, n ≤ j) (f : Nat) :
    ∀ (listed : Array Bool) (a : Act), HeadInv md ops n listed →
      (∀ j oj, ops[j]? = some oj → j ≠ i → listed.getD j true = false → (∀ e ∈ oj.after, Region.binds md e = true → e.on ≠ i) → oi.apart ops oj = true) →
      i ∈ Region.ready md ops listed → YieldsIn P ops C oi v a →
      headQ P md ops C n L f (listed.setIfInBounds i true) (a.put oi.dst v) → headQ P md ops C n L (f + 1) listed a := by
  induction f with
  | zero =>
    intro listed a inv _ hr hy H
    refine ⟨fun h => (by rw [h] at hr; cases hr), fun j hj => ?_⟩
    have hjn : j < n := Nat.lt_of_not_le fun h => tail_waits hs hc hn inv _ i rfl hin (mem_ready.1 hr).1 j h hj
    refine ⟨hjn, ?_⟩
    by_cases hji : j = i
    · subst hji; exact hy.qOp hi H
    · have := hdone _ _ H j (ready_mono hj hji); omega
  | succ f ih =>
    intro listed a inv hfree hr hy H
    have hun := (mem_ready.1 hr).1
    refine ⟨fun h => (by rw [h] at hr; cases hr), fun j hj => ?_⟩
    have hjn : j < n := Nat.lt_of_not_le fun h => tail_waits hs hc hn inv _ i rfl hin hun j h hj
    refine ⟨hjn, ?_⟩
    by_cases hji : j = i
    · subst hji; exact hy.qOp hi H
    obtain ⟨hjun, oj, hoj, hall⟩ := mem_ready.1 hj
    have hnot : ∀ e ∈ oj.after, Region.binds md e = true → e.on ≠ i := fun e he hb heq => by
      have h1 := hall e he hb
      rw [heq, getD_both hun] at h1
      cases h1
    have h2 := qOp_put hoj (hfree j oj hoj hji hjun hnot) (fun cs b => hsel i oi cs b hi) (fun cs b => hsel j oj cs b hoj) hy (H.2 j (ready_mono hj hji)).2
    refine qOp_mono (fun a' h3 => ih (listed.setIfInBounds j true) a' (inv.set hj hjn) (fun k ok hk hki hu hno => hfree k ok hk hki ?_ hno) (ready_mono hr (Ne.symm hji)) h3.1 ?_) h2
    · by_cases hjk : j = k
      · subst hjk; exact hjun
      · rwa [getD_set_ne true hjk] at hu
    · rw [Array.setIfInBounds_comm _ _ hji]
      exact h3.2

theorem headQ_lex {n g : Nat} {Lq : Act → Prop} (hsel : Region.noSelect ops = true) (hs : Region.sinkB md ops n = true) (hc : Region.chainB md ops n = true) (hn : n < ops.size) :
    ∀ (l : List Oper) (k : Nat) (listed : Array Bool) (a : Act), (∀ j, j < l.length → l[j]? = ops[k + j]?) → k + l.length = n → HeadInv md ops n listed →
    Region.lexHead md ops g l.length k listed = true → wpQuiet P ops C Lq l a →
    headQ P md ops C n (fun listed' a' => Region.seqB md ops g n listed' = true ∧ Lq a') l.length listed a
  | [], k, listed, a, _, hk, _, hB, h => by
    obtain rfl : k = n := by simpa using hk
    exact ⟨by simpa [Region.lexHead] using hB, h⟩
  | o :: l, k, listed, a, hl, hk, inv, hB, h => by
    have h0 : ops[k]? = some o := by simpa using (hl 0 (by simp)).symm
    simp only [List.length_cons, Region.lexHead, Bool.and_eq_true] at hB
    obtain ⟨⟨hr, hf⟩, hB'⟩ := hB
    simp only [List.length_cons] at hk
    have hkn : k < n := by omega
    have hr' : k ∈ Region.ready md ops listed := by simpa using hr
    have hst : qOp P ops C k (wpQuiet P ops C Lq l) a := by unfold qOp; simp only [h0]; exact h
    obtain ⟨v, hy, hK⟩ := yieldsIn_of_qOp h0 hst
    exact headQ_first h0 (Region.noSelect_spec hsel) hs hc hn hkn (fun listed' a' hL => seqB_ready hL.1) l.length listed a inv (Region.free_spec h0 hf) hr' hy
      (headQ_lex hsel hs hc hn l (k + 1) _ _ (fun j hj => by have := hl (j + 1) (by simp; omega); simpa [Nat.add_assoc, Nat.add_comm 1 j] using this) (by omega) (inv.set hr' hkn) hB' hK)

theorem wp_region_quiet_tail {id : Nat} {Q : Exit → Act → World → Prop} {a : Act} {w : World} {l : List Oper} (n : Nat) (hm : P.follows .mixedOrders = true) (hB : Region.lexTailB .any l.toArray n = true) (hC : C { w with drawn := w.drawn + 1 })
    (h : wpQuiet P l.toArray C (fun a' => ∀ X, C X → wpList P l.toArray Q (l.drop n) a' X) (l.take n) a) : (Code.region id l.toArray true).wp P Q a w := by
  simp only [Region.lexTailB, Bool.and_eq_true, decide_eq_true_eq] at hB
  obtain ⟨⟨⟨⟨hsel, hn⟩, hs⟩, hc⟩, hlex⟩ := hB
  have hn' : n < l.length := by simpa using hn
  have htl : (l.take n).length = n := by simp; omega
  have hdl : (l.drop n).length = l.toArray.size - n := by simp
  have inv0 : HeadInv .any l.toArray n (Array.replicate l.toArray.size false) :=
    ⟨by simp, fun j oj _ hl => (by rw [getD_replicate_false] at hl; cases hl), fun t _ ht => getD_in (by simpa using ht) (getD_replicate_false _ _)⟩
  have H := headQ_lex (md := .any) (g := l.toArray.size - n) hsel hs hc hn (l.take n) 0 _ a (fun j hj => by
    have hj' : j < n := by rw [htl] at hj; exact hj
    simp [hj']) (by simpa using htl) inv0 (by rw [htl]; exact hlex) h
  refine wp_region_any hm ?_
  have := any_of_headQ (Q' := Q) (g := l.toArray.size - n) (fun listed a' w' hw' hL => by
    have := wpAny_of_seq (md := .any) (Q' := Q) (l.drop n) n listed a' w' (fun j => by simp [List.getElem?_drop]) (by rw [hdl]; exact hL.1) (hL.2 w' hw')
    rwa [hdl] at this) _ _ _ _ hC H
  rw [htl, show n + (l.toArray.size - n) = l.toArray.size by omega] at this
  exact this
end

theorem wp_region_ext_tail {P : Program} {id : Nat} {Q : Exit → Act → World → Prop} {a : Act} {w : World} {l : List Oper} (n : Nat) (hm : P.follows .mixedOrders = true) (hB : Region.lexTailB .any l.toArray n = true)
    (h : wpQuiet P l.toArray (fun X => ∃ n : Ext w, X = n.X) (fun a' => ∀ X, (∃ n : Ext w, X = n.X) → wpList P l.toArray Q (l.drop n) a' X) (l.take n) a) : (Code.region id l.toArray true).wp P Q a w :=
  wp_region_quiet_tail (C := fun X => ∃ n : Ext w, X = n.X) n hm hB ⟨⟨_, (Below.refl _ w).drew⟩, rfl⟩ h

end Go.Proofs.YtnmppmmanigpcaaDoor
namespace Go.Proofs.YtnmppmmanigpcaaDoor
open Go.RowKit Go.BigFrame
set_option linter.unusedVariables false
set_option linter.unusedSimpArgs false

set_option maxRecDepth 100000 in
set_option maxHeartbeats 4000000 in
theorem mention_any (op : Int) (E : Envr) (al : Option Addr) (cl : Nat) (item : Int) (ac : Option Addr) (cc : Nat) (col : List Int) (w : World) (hf : Flat w ac (fl intC col)) (hl : col.length ≤ 140737488351232) (N : Nst w al evC E.lists) (hE : E.ok) :
    Calls Tryd.prog 40 #[.int .i64 op, envA al cl E, .int .i64 item, plcF ac col.length cc] w fun r w' => r = .returned (VA (menV (plcO col) op E item)) ∧ Below w.heap.size w w' := by
  obtain ⟨a, c, L, hc⟩ := listOf_any E al cl item w N
  obtain ⟨hok, h88, _⟩ := lstO_ok hE item
  have R0 := Two.new (w.alloc (.cells #[.slice al E.lists.length cl, .int .i64 E.each, .int .i64 E.at_] 49)) (.bool false) (.int .i64 0) 53
  have S0 := (Bk.new w #[.slice al E.lists.length cl, .int .i64 E.each, .int .i64 E.at_] 49).alloc (.cells #[.bool false, .int .i64 0] 53)
  rw [show (w.alloc (.cells #[.slice al E.lists.length cl, .int .i64 E.each, .int .i64 E.at_] 49)).heap.size = w.heap.size + 1 by simp] at R0
  have B0 := galloc (galloc (Below.refl w.heap.size w) (.cells #[.slice al E.lists.length cl, .int .i64 E.each, .int .i64 E.at_] 49)) (.cells #[.bool false, .int .i64 0] 53)
  have q4 : ∀ X, Below w.heap.size w X → ∀ p, Calls Tryd.prog 63 #[plcF ac col.length cc, .slice a (lstO E item).length c, .int .i64 p] X fun r w' => r = .returned (VA (sayV (plcO col) (lstO E item) p)) ∧ Below X.heap.size X w' := fun X G p => readAt_any ac cc col a c (lstO E item) p X (hf.keep G) hl (L.fl.keep G) h88
  have q5 : ∀ X, Below w.heap.size w X → Calls Tryd.prog 64 #[plcF ac col.length cc, .int .i64 op, .slice a (lstO E item).length c] X fun r w' => r = .returned (VA (gatV (plcO col) op (lstO E item))) ∧ Below X.heap.size X w' := fun X G => cfold_any ac cc col a c (lstO E item) op X (hf.keep G) hl (L.fl.keep G) h88 hok
  obtain ⟨x, hx⟩ : ∃ x, menV (plcO col) op E item = x := ⟨_, rfl⟩
  have HX := show Hid (_ = _) from hx
  rw [hx]
  clear hx hok L hf
  go_enter Tryd.func40, Tryd.ntmps40
  go_wp2
  have y1 : ∀ z : Ext ((w.alloc (.cells #[.slice al E.lists.length cl, .int .i64 E.each, .int .i64 E.at_] 49)).alloc (.cells #[.bool false, .int .i64 0] 53)), Calls Tryd.prog 62 #[envA al cl E, .int .i64 item] z.X (fun e' w'' => e' = .returned (.slice a (lstO E item).length c) ∧ ∃ m : Ext _, w'' = m.X) := fun z => ext_of (hc z.X (gtrans B0 z.h))
  generalize (lstO E item).length = n at *
  generalize hV : (w.alloc (.cells #[.slice al E.lists.length cl, .int .i64 E.each, .int .i64 E.at_] 49)).alloc (.cells #[.bool false, .int .i64 0] 53) = V at *
  clear hV hc
  obtain ⟨s0, s1, s2⟩ := S0.at3
  have p0 := fun z : Ext V => (z.cell _ _ S0.lt).trans s0
  have p1 := fun z : Ext V => (z.cell _ _ S0.lt).trans s1
  have p2 := fun z : Ext V => (z.cell _ _ S0.lt).trans s2
  have hne : Nonempty (Ext V) := ⟨⟨_, Below.refl _ _⟩⟩
  refine wp_region_ext (by kernel_rfl) (by kernel_rfl) ?_
  repeat (go_big_quiet_step (first | (go_at_call 62; with_reducible exact y1 _)))
  refine wpQuiet_nil ?_
  intro _ hw'
  obtain ⟨nx, hw''⟩ := hw'
  subst hw''
  have BX := gtrans B0 nx.h
  have RX := R0.keep nx.h
  obtain ⟨_, t1, t2⟩ := (S0.keep nx.h).at3
  generalize nx.X = X at *
  cases hg : (item == E.each)
  · have hne : item ≠ E.each := by simpa using hg
    by_cases h4 : op = 4
    · have q0 : (op == 4) = true := by simpa using h4
      have e1 : x = sayV (plcO col) (lstO E item) 0 := by rw [← HX.out]; unfold menV; rw [if_pos h4, if_neg hne]
      obtain ⟨xk, xn⟩ := x
      have hcc := q4 X BX 0
      rw [← e1] at hcc
      clear e1 HX q4 q5
      go_wp2_with (first
        | (go_at_call 63; (with_reducible refine hcc.mono ?_); rintro _ u1 ⟨rfl, g1⟩; have R1 := RX.keep g1; obtain ⟨r0, r1⟩ := show _ ∧ _ from ⟨R1.at0, R1.at1⟩; have rf := R1.free))
      refine bodyPost_ret (v := .agg #[.bool xk, .int .i64 xn]) (by simp [results, Tryd.results40, go_sem, r0, r1]) rfl ⟨rfl, ?_⟩
      exact gset (gset (gtrans BX g1) (by simp) _) (by simp) _
    have q0 : (op == 4) = false := beq_eq_false_iff_ne.2 h4
    by_cases h11 : op = 11
    · have q1 : (op == 11) = true := by simpa using h11
      obtain rfl : x = noV2 := by rw [← HX.out]; unfold menV; rw [if_neg h4, if_pos h11, if_neg hne]
      have r0 := RX.at0
      have r1 := RX.at1
      have rf := RX.free
      clear HX q4 q5
      go_wp2
      refine bodyPost_ret (v := .agg #[.bool false, .int .i64 0]) (by simp [results, Tryd.results40, go_sem, r0, r1]) rfl ⟨rfl, ?_⟩
      first | exact BX | exact gset (gset BX (by simp) _) (by simp) _
    have q1 : (op == 11) = false := beq_eq_false_iff_ne.2 h11
    have e1 : x = gatV (plcO col) op (lstO E item) := by rw [← HX.out]; unfold menV; rw [if_neg h4, if_neg h11]
    obtain ⟨xk, xn⟩ := x
    have hcc := q5 X BX
    rw [← e1] at hcc
    clear e1 HX q4 q5
    go_wp2_with (first
      | (go_at_call 64; (with_reducible refine hcc.mono ?_); rintro _ u1 ⟨rfl, g1⟩; have R1 := RX.keep g1; obtain ⟨r0, r1⟩ := show _ ∧ _ from ⟨R1.at0, R1.at1⟩; have rf := R1.free))
    refine bodyPost_ret (v := .agg #[.bool xk, .int .i64 xn]) (by simp [results, Tryd.results40, go_sem, r0, r1]) rfl ⟨rfl, ?_⟩
    exact gset (gset (gtrans BX g1) (by simp) _) (by simp) _
  · have hne : item = E.each := by simpa using hg
    by_cases h4 : op = 4
    · have q0 : (op == 4) = true := by simpa using h4
      have e1 : x = sayV (plcO col) (lstO E item) E.at_ := by rw [← HX.out]; unfold menV; rw [if_pos h4, if_pos hne]
      obtain ⟨xk, xn⟩ := x
      have hcc := q4 X BX E.at_
      rw [← e1] at hcc
      clear e1 HX q4 q5
      go_wp2_with (first
        | (go_at_call 63; (with_reducible refine hcc.mono ?_); rintro _ u1 ⟨rfl, g1⟩; have R1 := RX.keep g1; obtain ⟨r0, r1⟩ := show _ ∧ _ from ⟨R1.at0, R1.at1⟩; have rf := R1.free))
      refine bodyPost_ret (v := .agg #[.bool xk, .int .i64 xn]) (by simp [results, Tryd.results40, go_sem, r0, r1]) rfl ⟨rfl, ?_⟩
      exact gset (gset (gtrans BX g1) (by simp) _) (by simp) _
    have q0 : (op == 4) = false := beq_eq_false_iff_ne.2 h4
    by_cases h11 : op = 11
    · have q1 : (op == 11) = true := by simpa using h11
      obtain ⟨pv, hpv⟩ : ∃ pv, IntKind.i64.wrap (E.at_ - 1) = pv := ⟨_, rfl⟩
      have e1 : x = sayV (plcO col) (lstO E item) pv := by rw [← HX.out]; unfold menV; rw [if_neg h4, if_pos h11, if_pos hne, hpv]
      obtain ⟨xk, xn⟩ := x
      have hcc := q4 X BX pv
      rw [← e1] at hcc
      clear e1 HX q4 q5
      go_wp2_with (first
        | (go_at_call 63; (with_reducible refine hcc.mono ?_); rintro _ u1 ⟨rfl, g1⟩; have R1 := RX.keep g1; obtain ⟨r0, r1⟩ := show _ ∧ _ from ⟨R1.at0, R1.at1⟩; have rf := R1.free))
      refine bodyPost_ret (v := .agg #[.bool xk, .int .i64 xn]) (by simp [results, Tryd.results40, go_sem, r0, r1]) rfl ⟨rfl, ?_⟩
      exact gset (gset (gtrans BX g1) (by simp) _) (by simp) _
    have q1 : (op == 11) = false := beq_eq_false_iff_ne.2 h11
    have e1 : x = gatV (plcO col) op (lstO E item) := by rw [← HX.out]; unfold menV; rw [if_neg h4, if_neg h11]
    obtain ⟨xk, xn⟩ := x
    have hcc := q5 X BX
    rw [← e1] at hcc
    clear e1 HX q4 q5
    go_wp2_with (first
      | (go_at_call 64; (with_reducible refine hcc.mono ?_); rintro _ u1 ⟨rfl, g1⟩; have R1 := RX.keep g1; obtain ⟨r0, r1⟩ := show _ ∧ _ from ⟨R1.at0, R1.at1⟩; have rf := R1.free))
    refine bodyPost_ret (v := .agg #[.bool xk, .int .i64 xn]) (by simp [results, Tryd.results40, go_sem, r0, r1]) rfl ⟨rfl, ?_⟩
    exact gset (gset (gtrans BX g1) (by simp) _) (by simp) _

end Go.Proofs.YtnmppmmanigpcaaDoor
namespace Go.Proofs.YtnmppmmanigpcaaDoor
open Go.RowKit Go.BigFrame
set_option linter.unusedVariables false
set_option linter.unusedSimpArgs false

structure Prg where
  code : List Ins
  cols : List (List Int)
structure Prg.ok (p : Prg) : Prop where
  n : p.code.length * 40 ≤ 140737488351232
  c : p.cols.length * 24 ≤ 140737488351232
  k : ∀ j, (p.cols.getD j []).length * 8 ≤ 140737488351232
  i : ∀ j, (p.code.getD j noIn).ok
/-- A program in memory. -/
structure IsPr (w : World) (p : Prg) (ai : Option Addr) (ci : Nat) (ac : Option Addr) (cc : Nat) : Prop where
  f : Flat w ai (fl insC p.code)
  si : Sl ai p.code.length ci
  c : Nst w ac intC p.cols
  sc : Sl ac p.cols.length cc
theorem IsPr.keep {w u : World} {p : Prg} {ai : Option Addr} {ci : Nat} {ac : Option Addr} {cc : Nat} (h : IsPr w p ai ci ac cc) (G : Below w.heap.size w u) : IsPr u p ai ci ac cc := ⟨h.f.keep G, h.si, h.c.keep G, h.sc⟩
abbrev prgA (p : Prg) (ai : Option Addr) (ci : Nat) (ac : Option Addr) (cc : Nat) : Value := .agg #[.slice ai p.code.length ci, .slice ac p.cols.length cc]
/-- An environment in memory. -/
structure IsEnv (w : World) (E : Envr) (al : Option Addr) (cl : Nat) : Prop where
  n : Nst w al evC E.lists
  s : Sl al E.lists.length cl
theorem IsEnv.keep {w u : World} {E : Envr} {al : Option Addr} {cl : Nat} (h : IsEnv w E al cl) (G : Below w.heap.size w u) : IsEnv u E al cl := ⟨h.n.keep G, h.s⟩
/-- The tables that num and code read. -/
structure TbAt (w : World) : Prop where
  t : Tabs w
  n : TabN w
  o : OpAt w
theorem TbAt.keep {w u : World} (h : TbAt w) (G : Below w.heap.size w u) : TbAt u := ⟨h.t.keep G, h.n.keep G, h.o.keep G⟩
theorem nf_val : (Tryd.prog.info? 53).map (fun i => (i.zero, i.size, i.bytes)) = some (some (.agg #[.bool false, .int .i64 0]), 2, 16) := by kernel_rfl
def runV (p : Prg) (E : Envr) : V2 × Int := runW p.code p.cols E 0 []

/-- The machine in memory: its stack, the boxes of program and environment, the result. -/
structure Mach (p : Prg) (E : Envr) (w : World) (ai : Option Addr) (ci : Nat) (ac : Option Addr) (cc : Nat) (al : Option Addr) (cl : Nat) (v : Value) (st : List V2) (wr : World) : Prop where
  own : wr.ownsRow (w.heap.size + 3) 53 2 v st.length (fl valC st)
  pb : Bk wr w.heap.size #[.slice ai p.code.length ci, .slice ac p.cols.length cc] 40
  eb : Bk wr (w.heap.size + 1) #[.slice al E.lists.length cl, .int .i64 E.each, .int .i64 E.at_] 49
  rb : Bk wr (w.heap.size + 2) #[.bool false, .int .i64 0] 53
  g : Below w.heap.size w wr
section
variable {p : Prg} {E : Envr} {w : World} {ai : Option Addr} {ci : Nat} {ac : Option Addr} {cc : Nat} {al : Option Addr} {cl : Nat} {v : Value} {st : List V2} {wr : World}
theorem Mach.keep (h : Mach p E w ai ci ac cc al cl v st wr) {u : World} (G : Below wr.heap.size wr u) : Mach p E w ai ci ac cc al cl v st u := ⟨own_keep h.own G, h.pb.keep G, h.eb.keep G, h.rb.keep G, gtrans h.g G⟩
theorem Mach.grown (h : Mach p E w ai ci ac cc al cl v st wr) {u : World} {v' : Value} {st' : List V2} (O : u.ownsRow (w.heap.size + 3) 53 2 v' st'.length (fl valC st')) (hg : wr.grownBy u v.ownBlock) : Mach p E w ai ci ac cc al cl v' st' u := by
  have z := h.rb.lt
  have q := fun (b : Nat) (hb : b < w.heap.size + 3) => hg.block b (by omega) (fun e => by have := (h.own.lt _ e.symm).1; omega)
  exact ⟨O, (q _ (by omega)).trans h.pb, (q _ (by omega)).trans h.eb, (q _ (by omega)).trans h.rb, h.g.grown hg (by have := h.g.size; omega) (fun r e => by have := (h.own.lt _ e).1; omega)⟩
theorem fl_set2 (st : List V2) (j : Nat) (hj : j < st.length) (x : V2) : fl valC (st.set j x) = ((fl valC st).set (j * 2) (.bool x.1)).set (j * 2 + 1) (.int .i64 x.2) := by
  have e1 := fl_set valC_sz noV2 st j 0 (.bool x.1) (x.1, (st.getD j noV2).2) hj (by omega) rfl
  rw [Nat.add_zero] at e1
  rw [e1]
  have e2 := fl_set valC_sz noV2 (st.set j (x.1, (st.getD j noV2).2)) j 1 (.int .i64 x.2) x (by simpa using hj) (by omega) (by
    rw [List.getD_eq_getElem?_getD, List.getElem?_set_self hj]; rfl)
  rw [e2, List.set_set]
theorem Mach.set {g n cap : Nat} (h : Mach p E w ai ci ac cc al cl (.slice (some ⟨g, 0, none⟩) n cap) st wr) (hn : st.length = n) (j : Nat) (hj : j < n) (x : V2) : Mach p E w ai ci ac cc al cl (.slice (some ⟨g, 0, none⟩) n cap) (st.set j x) ((wr.setCell ⟨g, j * 2, none⟩ (.bool x.1)).setCell ⟨g, j * 2 + 1, none⟩ (.int .i64 x.2)) := by
  subst hn
  obtain ⟨o1, g1⟩ := World.ownsRow.stored h.own (j * 2) (.bool x.1)
  obtain ⟨o2, g2⟩ := World.ownsRow.stored o1 (j * 2 + 1) (.int .i64 x.2)
  refine h.grown (by rw [fl_set2 st j hj x, List.length_set]; exact o2) ⟨g2.os.trans g1.os, g2.tape.trans g1.tape, g2.output.trans g1.output, Nat.le_trans g1.size g2.size, fun k hk hne => (g2.block k (Nat.lt_of_lt_of_le hk g1.size) hne).trans (g1.block k hk hne)⟩
theorem Mach.pop {g n cap : Nat} (h : Mach p E w ai ci ac cc al cl (.slice (some ⟨g, 0, none⟩) (n + 1) cap) st wr) (hn : st.length = n + 1) : Mach p E w ai ci ac cc al cl (.slice (some ⟨g, 0, none⟩) n cap) (st.take n) wr := by
  have hl : (st.take n).length = n := by simp; omega
  have O := h.own
  rw [hn, ← List.take_append_drop n st, fl_app] at O
  refine ⟨?_, h.pb, h.eb, h.rb, h.g⟩
  rw [hl]
  exact ownsRow_pop (by rw [fl_len valC_sz, hl]) O
/-- Where the stack lies. -/
theorem Mach.form (h : Mach p E w ai ci ac cc al cl v st wr) (h0 : 0 < st.length) : ∃ g cap, v = .slice (some ⟨g, 0, none⟩) st.length cap ∧ g < wr.heap.size ∧ w.heap.size + 3 ≤ g ∧ st.length ≤ cap ∧ (∀ o, wr.frozen? ⟨g, o, none⟩ = false) ∧ ∀ j, j < st.length → wr.cell? ⟨g, j * 2, none⟩ = some (.bool (st.getD j noV2).1) ∧ wr.cell? ⟨g, j * 2 + 1, none⟩ = some (.int .i64 (st.getD j noV2).2) := by
  obtain ⟨ao, cap, rfl, hc, _, hh⟩ := own_form h.own
  rcases hh with hh | ⟨g, rfl, hg, hb⟩
  · omega
  · refine ⟨g, cap, rfl, hg, hb, hc, fun o => World.ownsRow.frozenAt h.own o, fun j hj => ⟨?_, ?_⟩⟩
    · rw [World.ownsRow.cellAt h.own _ (by omega)]
      have := fl_at valC_sz noV2 st j 0 hj (by omega)
      rw [Nat.add_zero] at this
      rw [this]; rfl
    · rw [World.ownsRow.cellAt h.own _ (by omega), fl_at valC_sz noV2 st j 1 hj (by omega)]
      rfl
theorem cdfEnd : True := trivial
end
theorem two_newE {w : World} {g : Nat} (hg : g = w.heap.size) (x y : Value) (t : TypeId) (j : Nat) (u : Value) (h : [x, y][j]? = some u) : (w.alloc (.cells #[x, y] t)).cell? ((⟨g, 0, none⟩ : Addr).add j) = some u := by
  subst hg
  rw [Go.WideShapes.add_plain, Nat.zero_add, World.cell?_alloc_new]
  simpa using h
/-- The cells of an instruction of a row. -/
structure InAt (w : World) (g o : Nat) (i : Ins) : Prop where
  c0 : w.cell? ⟨g, o, none⟩ = some (.int .i64 i.code)
  c1 : w.cell? ⟨g, o + 1, none⟩ = some (.int .i64 i.item)
  c2 : w.cell? ⟨g, o + 2, none⟩ = some (.int .i64 i.col)
  c3 : w.cell? ⟨g, o + 3, none⟩ = some (.int .i64 i.n)
  c4 : w.cell? ⟨g, o + 4, none⟩ = some (.int .i64 i.jt)
theorem in_at {w : World} {g o : Nat} {l : List Ins} (h : ∀ j u, (fl insC l)[j]? = some u → w.cell? ⟨g, o + j, none⟩ = some u) (k : Nat) (hk : k < l.length) : InAt w g (o + k * 5) (l.getD k noIn) := by
  have key : ∀ j u, j < 5 → (insC (l.getD k noIn)).toList[j]? = some u → w.cell? ⟨g, o + k * 5 + j, none⟩ = some u := fun j u hj hu => by
    rw [Nat.add_assoc]
    exact h _ _ ((fl_at insC_sz noIn l k j hk hj).trans hu)
  exact ⟨key 0 _ (by omega) rfl, key 1 _ (by omega) rfl, key 2 _ (by omega) rfl, key 3 _ (by omega) rfl, key 4 _ (by omega) rfl⟩
theorem stepP_of {code : List Ins} {cols : List (List Int)} {E : Envr} {p : Nat} {st : List V2} {c it co n jt : Int} (h : code.getD p noIn = ⟨c, it, co, n, jt⟩) : stepP code cols E p st =
  if ¬ (0 < c ∧ c < 27 ∧ ndsI c ≤ st.length) then none
  else if c = 1 then some (p + 1, st ++ [(true, n)])
  else if c = 4 then some (p + 1, st ++ [(true, ((lstO E it).length : Int))])
  else if c < 10 then (if 0 ≤ co ∧ co < (cols.length : Int) then some (p + 1, st ++ [menV (plcO (cols.getD co.toNat [])) (opI c) E it]) else none)
  else if c = 10 then some (p + 1, st.set (st.length - 1) (negW (topV st)))
  else if c = 11 then some (p + 1, st.set (st.length - 1) (notW (topV st)))
  else if 25 ≤ c then (if (p : Int) < jt ∧ jt ≤ (code.length : Int) then (if jmpB c (topV st) = true then some (jt.toNat, st) else some (p + 1, st)) else none)
  else some (p + 1, (st.set (st.length - 2) (applyV (c + 2) (sndV st) (topV st))).take (st.length - 1)) := by
  unfold stepP
  rw [h]
structure RunL (p : Prg) (E : Envr) (R : V2 × Int) (w : World) (ai : Option Addr) (ci : Nat) (ac : Option Addr) (cc : Nat) (al : Option Addr) (cl : Nat) (v i : Value) (wr : World) : Prop where
  ex : ∃ (k : Nat) (st : List V2), k ≤ p.code.length ∧ i = .int .i64 k ∧ st.length ≤ k ∧ fitS st ∧ runW p.code p.cols E k st = R ∧ Mach p E w ai ci ac cc al cl v st wr

end Go.Proofs.YtnmppmmanigpcaaDoor
namespace Go.Proofs.YtnmppmmanigpcaaDoor
open Go.RowKit Go.BigFrame
set_option linter.unusedVariables false
set_option linter.unusedSimpArgs false

theorem cells2 : Tryd.prog.cellsOf 2 = 1 := by kernel_rfl
theorem plain2 : Tryd.prog.plainKey 2 = true := by kernel_rfl
theorem arr_eq (a0 a1 a2 a3 a4 a5 a6 a7 : Int) (u : World) : (Op.equalIn 9999 83 (.agg #[.int .i64 a0, .int .i64 a1, .int .i64 a2, .int .i64 a3, .int .i64 a4, .int .i64 a5, .int .i64 a6, .int .i64 a7]) (.agg #[.int .i64 a0, .int .i64 a1, .int .i64 a2, .int .i64 a3, .int .i64 a4, .int .i64 a5, .int .i64 a6, .int .i64 a7])).run Tryd.prog u = .ok true u := by
  obtain ⟨i0, hi⟩ : ∃ i, Tryd.prog.info? 2 = some i := by
    cases h : Tryd.prog.info? 2 with
    | none => exact absurd h (by have : (Tryd.prog.info? 2).isSome = true := by kernel_rfl
                                 intro h2; rw [h2] at this; cases this)
    | some i => exact ⟨i, rfl⟩
  have one : ∀ (j : Nat) (x : Int), (#[.int .i64 a0, .int .i64 a1, .int .i64 a2, .int .i64 a3, .int .i64 a4, .int .i64 a5, .int .i64 a6, .int .i64 a7] : Array Value)[j]? = some (.int .i64 x) → (part 2 #[.int .i64 a0, .int .i64 a1, .int .i64 a2, .int .i64 a3, .int .i64 a4, .int .i64 a5, .int .i64 a6, .int .i64 a7] j).run Tryd.prog u = .ok (.int .i64 x) u := fun j x h => run_part_plain u plain2 h
  have e0 := one 0 a0 rfl
  have e1 := one 1 a1 rfl
  have e2 := one 2 a2 rfl
  have e3 := one 3 a3 rfl
  have e4 := one 4 a4 rfl
  have e5 := one 5 a5 rfl
  have e6 := one 6 a6 rfl
  have e7 := one 7 a7 rfl
  have eq : ∀ x : Int, (Op.equalIn 9998 2 (.int .i64 x) (.int .i64 x)).run Tryd.prog u = .ok true u := fun x => by
    rw [run_equalIn_int u 9997 2 .i64 .i64 x x Tryd.underlying2]
    simp
  rw [show (9999 : Nat) = 9998 + 1 from rfl, run_equalIn_array u 9998 _ _ Tryd.underlying83 hi, cells2]
  rw [show List.range 8 = [0, 1, 2, 3, 4, 5, 6, 7] from rfl]
  simp only [Op.eqItems, Sem.run_bind, Nat.zero_mul, Nat.mul_one, e0, e1, e2, e3, e4, e5, e6, e7, Result.andThen_ok, eq, Bool.not_true, Bool.false_eq_true, if_false, Sem.run_pure]
theorem ev_eq (e : Ev) (w : World) : (Op.equalIn 10000 86 (.agg (evC e)) (.agg (evC e))).run Tryd.prog w = .ok true w := by
  obtain ⟨ts, id, typ, a0, a1, a2, a3, a4, a5, a6, a7⟩ := e
  have u1 := Tryd.underlying84
  have u2 := Tryd.underlying2
  have u4 := Tryd.underlying3
  have u5 := Tryd.underlying83
  have ae := arr_eq a0 a1 a2 a3 a4 a5 a6 a7
  have hS : Tryd.prog.underlying 86 = some (.struct (Tryd.prog.fieldsOf 86)) := by kernel_rfl
  have hp : Tryd.prog.stoodInHeld 86 = false := by kernel_rfl
  rw [show (10000 : Nat) = 9999 + 1 from rfl, run_equalIn_agg w 9999 86 _ _ hS hp]
  simp only [Program.fieldsOf, Tryd.underlying86, evC]
  go_simp
theorem in_eq (i : Ins) (w : World) : (Op.equalIn 10000 74 (.agg (insC i)) (.agg (insC i))).run Tryd.prog w = .ok true w := by
  obtain ⟨c, it, co, n, tz⟩ := i
  have u1 := Tryd.underlying72
  have u2 := Tryd.underlying2
  have u4 := Tryd.underlying3
  have hS : Tryd.prog.underlying 74 = some (.struct (Tryd.prog.fieldsOf 74)) := by kernel_rfl
  have hp : Tryd.prog.stoodInHeld 74 = false := by kernel_rfl
  rw [show (10000 : Nat) = 9999 + 1 from rfl, run_equalIn_agg w 9999 74 _ _ hS hp]
  simp only [Program.fieldsOf, Tryd.underlying74, insC]
  go_simp
/-- In a region that only reads: a struct is held against one of the same cells. -/
theorem quiet_neq_same {ops : Array Oper} {C : World → Prop} {Q : Act → Prop} {o : Oper} {rest : List Oper} {a : Act} (hw : Region.wanted o (yielded ops a.tmps) = true) (x y : Operand) (T : TypeId) (ho : o.op = .binOp .neq T x y T) (hg : Tryd.prog.eqGuardType Tryd.prog.depth T = false)
    (cs : Array Value) (heq : ∀ w, (Op.equalIn 10000 T (.agg cs) (.agg cs)).run Tryd.prog w = .ok true w) (hx : a.eval x = .agg cs) (hy : a.eval y = .agg cs) (a' : Act) (ha : a.put o.dst (.bool false) = a') (h : wpQuiet Tryd.prog ops C Q rest a') : wpQuiet Tryd.prog ops C Q (o :: rest) a := by
  subst ha
  refine wpQuiet_want hw fun K hK => ⟨.bool false, fun w hC => ?_, hK _ h⟩
  unfold Oper.quietAt execOp
  simp only [ho, hx, hy, Sem.run_bind, Sem.run_pure, run_eqGuard_agg (P := Tryd.prog) w .neq T x y cs cs hg, run_neq_struct, heq, Result.andThen_ok]
  exact ⟨rfl, rfl⟩

def BeyR (l : List (List Ev)) (e : Ending) : Prop := ∃ b, e = .returned (.bool b) ∧ (b = false → ∀ k, (l.getD k []).length ≤ 2147483647)
set_option maxHeartbeats 2000000 in
theorem beyond7_any (l : List (List Ev)) (ao : Option Addr) (cap : Nat) (w : World) (A : Nst w ao evC l) (hl : l.length ≤ 140737488351232) (hn : ∀ k, (l.getD k []).length ≤ 140737488351232) :
    Calls Tryd.prog 18 #[.slice ao l.length cap] w fun e w' => BeyR l e ∧ w = w' := by
  go_enter Tryd.func18, Tryd.ntmps18
  go_wp2
  go_loopw [3, 4] (fun s i wr => ∃ (k m : Nat), k ≤ l.length ∧ s = .int .i64 m ∧ i = .int .i64 k ∧ m ≤ 2147483647 ∧ (∀ j, j < k → (l.getD j []).length ≤ 2147483647) ∧ wr = w) (fun _ i _ => l.length - (intOf i).toNat)
  case atStart => exact ⟨0, 0, Nat.zero_le _, rfl, rfl, by omega, fun j hj => absurd hj (Nat.not_lt_zero _), rfl⟩
  case round =>
    obtain ⟨k, m, hk, rfl, rfl, hm, hall, rfl⟩ := hrel
    by_cases hlt : k < l.length
    · obtain ⟨g, o, a, c, rfl, a0, _, _⟩ := A k hlt
      have hki : (k : Int) < (l.length : Int) := by omega
      have hnk := hn k
      have HAL := show Hid _ from hall
      obtain ⟨x, hx⟩ : ∃ x, (l.getD k []).length = x := ⟨_, rfl⟩
      rw [hx] at a0 hnk
      have HX := show Hid (_ = _) from hx
      clear hx hall A hn
      by_cases hg : (2147483647 : Int) - (m : Int) < (x : Int)
      · go_wp2
        go_ret
        exact ⟨⟨true, rfl, fun h => by cases h⟩, rfl⟩
      · have h3 : m + x ≤ 2147483647 := by omega
        go_wp2
        go_roundw
        case rel =>
          exact ⟨k + 1, m + x, by omega, by go_num, by go_num, h3, fun j hj => by
            by_cases e : j < k
            · exact HAL.out j e
            · obtain rfl : j = k := by omega
              rw [HX.out]; omega, by first | trivial | rfl⟩
        case measure => simp [intOf]; omega
    · obtain rfl : k = l.length := by omega
      have hnk : ¬ ((l.length : Int) < (l.length : Int)) := by omega
      have HAL := show Hid _ from hall
      clear hall
      go_wp2
      go_ret
      refine ⟨⟨false, rfl, fun _ j => ?_⟩, rfl⟩
      by_cases e : j < l.length
      · exact HAL.out j e
      · rw [List.getD_eq_getElem?_getD, List.getElem?_eq_none (by omega)]; simp

end Go.Proofs.YtnmppmmanigpcaaDoor
