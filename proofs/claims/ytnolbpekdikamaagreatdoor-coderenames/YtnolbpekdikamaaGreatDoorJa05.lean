/- An aggregate by a column: what places' fold comes to. And what goes with it: 5 texts in one. -/
import Derived.Test.YtnolbpekdikamaaGreatDoorJa04
import Derived.StillTail
import Derived.Deep.Cut
import Derived.Deep.QuietTactic
import Derived.BigQuiet
namespace Go.Proofs.YtnolbpekdikamaaGreatDoor
open Go.RowKit Go.BigFrame
set_option linter.unusedVariables false
set_option linter.unusedSimpArgs false

theorem nf_i64 : (Tryz.prog.info? 2).map (fun i => (i.zero, i.size, i.bytes)) = some (some (.int .i64 0), 1, 8) := by kernel_rfl
def numK (f : Int → Int) (l : List Ev) (k : Nat) : List Int := (l.take k).map fun e => (rdE f e).2
theorem numK_len (f : Int → Int) (l : List Ev) (k : Nat) (h : k ≤ l.length) : (numK f l k).length = k := by unfold numK; simp; omega
theorem numK_succ (f : Int → Int) (l : List Ev) (k : Nat) (h : k < l.length) : numK f l (k + 1) = numK f l k ++ [(rdE f (l.getD k zeroE)).2] := by
  unfold numK
  rw [List.take_add_one, List.getElem?_eq_getElem h]
  simp only [Option.toList, List.map_append, List.map_cons, List.map_nil, List.getD_eq_getElem?_getD, List.getElem?_eq_getElem h, Option.getD_some]
theorem numK_fits {l : List Ev} (h : evsOk l) (f : Int → Int) (k j : Nat) : fitsB ((numK f l k).getD j 0) = true := by
  unfold numK
  refine map_fits (l := l.take k) (fun i => ?_) f j
  rw [List.getD_eq_getElem?_getD, List.getElem?_take]
  have := h i
  rw [List.getD_eq_getElem?_getD] at this
  split
  · exact this
  · exact zeroE_ok
theorem gat_yes {f : Int → Int} {op : Int} {l : List Ev} (h : ∀ j, j < l.length → (rdE f (l.getD j zeroE)).1 = true) : gatV f op l = fdV op (numK f l l.length) := by
  unfold gatV numK
  rw [if_pos, List.take_length]
  rw [List.all_eq_true]
  intro e he
  obtain ⟨j, hj, rfl⟩ := List.getElem_of_mem he
  have := h j hj
  rwa [List.getD_eq_getElem?_getD, List.getElem?_eq_getElem hj] at this
theorem gat_no {f : Int → Int} {op : Int} {l : List Ev} {j : Nat} (hj : j < l.length) (h : (rdE f (l.getD j zeroE)).1 = false) : gatV f op l = noV2 := by
  unfold gatV
  rw [if_neg]
  intro ha
  rw [List.all_eq_true] at ha
  have := ha _ (List.getElem_mem hj)
  rw [List.getD_eq_getElem?_getD, List.getElem?_eq_getElem hj] at h
  simp at h
  rw [h] at this
  cases this
theorem one_newE {w : World} {g : Nat} (hg : g = w.heap.size) (x : Value) (t : TypeId) (j : Nat) (u : Value) (h : [x][j]? = some u) : (w.alloc (.cells #[x] t)).cell? ((⟨g, 0, none⟩ : Addr).add j) = some u := by
  subst hg
  rw [Go.WideShapes.add_plain, Nat.zero_add, World.cell?_alloc_new]
  simpa using h
structure FoldL (f : Int → Int) (l : List Ev) (w : World) (v i : Value) (wr : World) : Prop where
  ex : ∃ k : Nat, k ≤ l.length ∧ i = .int .i64 k ∧ (∀ j, j < k → (rdE f (l.getD j zeroE)).1 = true) ∧ wr.ownsRow (w.heap.size + 1) 2 1 v (numK f l k).length ((numK f l k).map (Value.int .i64)) ∧ Two wr w.heap.size (.bool false) (.int .i64 0) 51 ∧ Below w.heap.size w wr

set_option maxRecDepth 100000 in
set_option maxHeartbeats 4000000 in
theorem cfold_any (ac : Option Addr) (cc : Nat) (col : List Int) (a : Option Addr) (c : Nat) (l : List Ev) (op : Int) (w : World) (hf : Flat w ac (fl intC col)) (hl : col.length ≤ 140737488351232) (hA : Flat w a (fl evC l)) (hn : l.length * 88 ≤ 140737488351232) (hE : evsOk l) :
    Calls Tryz.prog 51 #[plcF ac col.length cc, .int .i64 op, .slice a l.length c] w fun r w' => r = .returned (VA (gatV (plcO col) op l)) ∧ Below w.heap.size w w' := by
  obtain ⟨i0, ti, tz0, tz1, tz2⟩ := nf_info nf_i64
  obtain ⟨M, hM, hmk⟩ := run_make_cap (P := Tryz.prog) 133 2 Tryz.underlying133 nf_i64 l.length (by omega) (by omega)
  have B0 := galloc (galloc (Below.refl w.heap.size w) (.cells #[.bool false, .int .i64 0] 51)) (.cells M 2)
  have R0 := (Two.new w (.bool false) (.int .i64 0) 51).alloc (.cells M 2)
  have O0 : ((w.alloc (.cells #[.bool false, .int .i64 0] 51)).alloc (.cells M 2)).ownsRow (w.heap.size + 1) 2 1 (.slice (some ⟨w.heap.size + 1, 0, none⟩) 0 l.length) 0 [] := by
    have := World.ownsRow_made (base := w.heap.size + 1) (e := 2) (size := 1) (w.alloc (.cells #[.bool false, .int .i64 0] 51)) M l.length (by simp) (by unfold maxLen; omega) hM
    simpa using this
  generalize hx : gatV (plcO col) op l = x
  obtain ⟨zk, zn⟩ := x
  have HX := show Hid (_ = _) from hx
  clear hx
  go_enter Tryz.func51, Tryz.ntmps51
  go_wp2
  generalize (w.alloc (.cells #[.bool false, .int .i64 0] 51)).alloc (.cells M 2) = Z at *
  go_loopw [7, 16] (fun v i wr => FoldL (plcO col) l w v i wr) (fun _ i _ => l.length - (intOf i).toNat)
  case atStart => exact ⟨⟨0, Nat.zero_le _, rfl, fun j hj => absurd hj (Nat.not_lt_zero _), O0, R0, B0⟩⟩
  case round =>
    clear O0 R0 B0 hmk
    obtain ⟨⟨k, hk, rfl, hall, hown, R, G⟩⟩ := hrel
    have zG := G.size
    have zR := R.lt
    by_cases hlt : k < l.length
    · have hki : (k : Int) < (l.length : Int) := by omega
      obtain ⟨g, o, rfl, hg, hcc⟩ := (hA.keep G).form (by rw [fl_len evC_sz]; omega)
      have A := ev_at hcc k hlt
      obtain ⟨ev, hev⟩ : ∃ ev, l.getD k zeroE = ev := ⟨_, rfl⟩
      rw [hev] at A
      have HEV := show Hid (_ = _) from hev
      have hr := read_any' ac cc col ev _ ((hf.keep G).keep (galloc (Below.refl wr.heap.size wr) (.cells (evC ev) 75))) hl
      obtain ⟨⟨xk, xn⟩, hxx⟩ : ∃ x, rdE (plcO col) ev = x := ⟨_, rfl⟩
      rw [hxx] at hr
      have HXX := show Hid (_ = _) from hxx
      have hnl := numK_len (plcO col) l k hk
      have ge := galloc (Below.refl wr.heap.size wr) (.cells (evC ev) 75)
      unfold evC at hr ge
      obtain ⟨c0, c1, c2, c3, c4, c5, c6, c7, c8, c9, c10⟩ := A
      clear hcc hxx hev
      cases xk
      · go_wp2_with (first
          | (go_at_call 75; (with_reducible refine hr.mono ?_); rintro _ u1 ⟨rfl, g1⟩; have G1 := gtrans ge g1; have G2 := gtrans G G1; obtain ⟨r0, r1⟩ := show _ ∧ _ from ⟨((R.keep G1).alloc (.cells #[.bool false, .int .i64 xn] 51)).at0, ((R.keep G1).alloc (.cells #[.bool false, .int .i64 xn] 51)).at1⟩; have rf := ((R.keep G1).alloc (.cells #[.bool false, .int .i64 xn] 51)).free))
        obtain ⟨rfl, rfl⟩ : zk = false ∧ zn = 0 := Prod.mk.inj (HX.out.symm.trans (gat_no hlt (by rw [HEV.out, HXX.out])))
        go_wp2
        refine bodyPost_ret (v := .agg #[.bool false, .int .i64 0]) (by simp [results, Tryz.results51, go_sem, r0, r1]) rfl ⟨rfl, ?_⟩
        first | exact galloc G2 _ | exact gset (gset (galloc G2 _) (by simp) _) (by simp) _
      · go_wp2_with (first
          | (go_at_call 75; (with_reducible refine hr.mono ?_); rintro _ u1 ⟨rfl, g1⟩; have G1 := gtrans ge g1; have G2 := gtrans G G1; have Ou := (own_keep hown G1).alloc (.cells #[.bool true, .int .i64 xn] 51))
          | (at_builtin; refine wpList_append_own _ rfl (.tmp 27) (.tmp 30) 133 rfl (w.heap.size + 1) 2 i0 (.int .i64 0) 1 8 Tryz.underlying133 ti tz0 tz1 tz2 rfl (by decide) _ _ _ rfl (Ou.alloc _) ⟨u1.heap.size + 1, 0, none⟩ 1 1 [.int .i64 xn] rfl rfl (one_newE (by simp) _ _) (fun u hu => by simp at hu; subst hu; rfl) ?c3 ?c4 ?c5 ?_))
        case c3 => unfold maxLen; omega
        case c4 => omega
        case c5 => have := G2.size; simp; omega
        intro v' w1 hown' hgrow _
        have e := numK_succ (plcO col) l k hlt
        rw [HEV.out, HXX.out] at e
        have hown2 : w1.ownsRow (w.heap.size + 1) 2 1 v' (numK (plcO col) l (k + 1)).length ((numK (plcO col) l (k + 1)).map (Value.int .i64)) := by rw [e]; simpa [hnl] using hown'
        have q := hgrow.block w.heap.size (by have := G2.size; simp; omega) (fun e => by have := (Ou.lt _ e.symm).1; omega)
        have R2 : Two w1 w.heap.size (.bool false) (.int .i64 0) 51 := q.trans (((R.keep G1).alloc (.cells #[.bool true, .int .i64 xn] 51)).alloc _)
        have Gw : Below w.heap.size w w1 := (galloc (galloc G2 (.cells #[.bool true, .int .i64 xn] 51)) _).grown hgrow (by have := G2.size; simp; omega) (fun r e => by have := (Ou.lt _ e).1; omega)
        have hall2 : ∀ j, j < k + 1 → (rdE (plcO col) (l.getD j zeroE)).1 = true := fun j hj => by
          by_cases hjk : j < k
          · exact hall j hjk
          · obtain rfl : j = k := by omega
            rw [HEV.out, HXX.out]
        have fin : FoldL (plcO col) l w v' (.int .i64 ((k : Int) + 1)) w1 := ⟨⟨k + 1, by omega, by go_num, hall2, hown2, R2, Gw⟩⟩
        clear hown' hgrow hown2 R2 Gw hall2 q e Ou hown R hall hr c0 c1 c2 c3 c4 c5 c6 c7 c8 c9 c10
        go_wp2
        go_roundw
        case rel => exact fin
        case measure => simp [intOf]; omega
    · obtain rfl : k = l.length := by omega
      obtain ⟨hzk, hzn⟩ := Prod.mk.inj ((gat_yes hall).symm.trans HX.out)
      have hnl := numK_len (plcO col) l l.length (Nat.le_refl _)
      obtain ⟨ao, cap, rfl, hrow, _, _⟩ := isRow_own hown (numK_fits hE _ _)
      have hfo := fold_any op ao _ cap _ wr hrow
      rw [hzk, hzn] at hfo
      generalize (numK (plcO col) l l.length).length = nn at hfo
      clear hall HX hzk hzn hown hnl
      go_wp2_with (first
        | (go_at_call 76; (with_reducible refine hfo.mono ?_); rintro _ u1 ⟨rfl, g1⟩; have G2 := gtrans G g1; have R1 := R.keep g1; obtain ⟨r0, r1⟩ := show _ ∧ _ from ⟨R1.at0, R1.at1⟩; have rf := R1.free))
      refine bodyPost_ret (v := .agg #[.bool zk, .int .i64 zn]) (by simp [results, Tryz.results51, go_sem, r0, r1]) rfl ⟨rfl, ?_⟩
      exact gset (gset G2 (by simp) _) (by simp) _

end Go.Proofs.YtnolbpekdikamaaGreatDoor
namespace Go.Proofs.YtnolbpekdikamaaGreatDoor
open Go.RowKit
set_option linter.unusedVariables false

section
variable {P : Program} {ops : Array Oper} {md : Region.Mode} {C : World → Prop}

/-- Whatever is picked of the first n operations, f of them; then L. -/
def headQ (P : Program) (md : Region.Mode) (ops : Array Oper) (C : World → Prop) (n : Nat) (L : Array Bool → Act → Prop) : Nat → Array Bool → Act → Prop
  | 0, listed, a => L listed a
  | f + 1, listed, a => Region.ready md ops listed ≠ [] ∧ ∀ i ∈ Region.ready md ops listed, i < n ∧ qOp P ops C i (headQ P md ops C n L f (listed.setIfInBounds i true)) a

theorem any_of_headQ {n g : Nat} {L : Array Bool → Act → Prop} {Q' : Exit → Act → World → Prop} (hL : ∀ listed a w, C w → L listed a → wpAny P md ops Q' g listed a w) :
    ∀ (f : Nat) (listed : Array Bool) (a : Act) (w : World), C w → headQ P md ops C n L f listed a → wpAny P md ops Q' (f + g) listed a w
  | 0, listed, a, w, hw, h => by rw [Nat.zero_add]; exact hL _ _ _ hw h
  | f + 1, listed, a, w, hw, h => by
    rw [show f + 1 + g = (f + g) + 1 by omega]
    exact ⟨fun h0 => absurd h0 h.1, fun i hi => wpOp_of_qOp hw (fun a' w' hw' h' => any_of_headQ hL f _ a' w' hw' h') (h.2 i hi).2⟩

theorem headQ_first {n i : Nat} {oi : Oper} {v : Value} {L : Array Bool → Act → Prop} (hi : ops[i]? = some oi) (hsel : ∀ (j : Nat) (o : Oper) cs b, ops[j]? = some o → o.op ≠ .select cs b)
    (hs : Region.sinkB md ops n = true) (hc : Region.chainB md ops n = true) (hn : n < ops.size) (hin : i < n)
    (hdone : ∀ listed a, L listed a → ∀ j ∈ Region.ready md ops listed, n ≤ j) (f : Nat) :
    ∀ (listed : Array Bool) (a : Act), HeadInv md ops n listed →
      (∀ j oj, ops[j]? = some oj → j ≠ i → listed.getD j true = false → (∀ e ∈ oj.after, Region.binds md e = true → e.on ≠ i) → oi.apart ops oj = true) →
      i ∈ Region.ready md ops listed → YieldsIn P ops C oi v a →
      headQ P md ops C n L f (listed.setIfInBounds i true) (a.put oi.dst v) → headQ P md ops C n L (f + 1) listed a := by
  induction f with
  | zero =>
    intro listed a inv _ hr hy H
    refine ⟨fun h => (by rw [h] at hr; cases hr), fun j hj => ?_⟩
    have hjn : j < n := Nat.lt_of_not_le fun h => tail_waits hs hc hn inv _ i rfl hin (mem_ready.1 hr).1 j h hj
    refine ⟨hjn, ?_⟩
    by_cases hji : j = i
    · subst hji; exact hy.qOp hi H
    · have := hdone _ _ H j (ready_mono hj hji); omega
  | succ f ih =>
    intro listed a inv hfree hr hy H
    have hun := (mem_ready.1 hr).1
    refine ⟨fun h => (by rw [h] at hr; cases hr), fun j hj => ?_⟩
    have hjn : j < n := Nat.lt_of_not_le fun h => tail_waits hs hc hn inv _ i rfl hin hun j h hj
    refine ⟨hjn, ?_⟩
    by_cases hji : j = i
    · subst hji; exact hy.qOp hi H
    obtain ⟨hjun, oj, hoj, hall⟩ := mem_ready.1 hj
    have hnot : ∀ e ∈ oj.after, Region.binds md e = true → e.on ≠ i := fun e he hb heq => by
      have h1 := hall e he hb
      rw [heq, getD_both hun] at h1
      cases h1
    have h2 := qOp_put hoj (hfree j oj hoj hji hjun hnot) (fun cs b => hsel i oi cs b hi) (fun cs b => hsel j oj cs b hoj) hy (H.2 j (ready_mono hj hji)).2
    refine qOp_mono (fun a' h3 => ih (listed.setIfInBounds j true) a' (inv.set hj hjn) (fun k ok hk hki hu hno => hfree k ok hk hki ?_ hno) (ready_mono hr (Ne.symm hji)) h3.1 ?_) h2
    · by_cases hjk : j = k
      · subst hjk; exact hjun
      · rwa [getD_set_ne true hjk] at hu
    · rw [Array.setIfInBounds_comm _ _ hji]
      exact h3.2

theorem headQ_lex {n g : Nat} {Lq : Act → Prop} (hsel : Region.noSelect ops = true) (hs : Region.sinkB md ops n = true) (hc : Region.chainB md ops n = true) (hn : n < ops.size) :
    ∀ (l : List Oper) (k : Nat) (listed : Array Bool) (a : Act), (∀ j, j < l.length → l[j]? = ops[k + j]?) → k + l.length = n → HeadInv md ops n listed →
    Region.lexHead md ops g l.length k listed = true → wpQuiet P ops C Lq l a →
    headQ P md ops C n (fun listed' a' => Region.seqB md ops g n listed' = true ∧ Lq a') l.length listed a
  | [], k, listed, a, _, hk, _, hB, h => by
    obtain rfl : k = n := by simpa using hk
    exact ⟨by simpa [Region.lexHead] using hB, h⟩
  | o :: l, k, listed, a, hl, hk, inv, hB, h => by
    have h0 : ops[k]? = some o := by simpa using (hl 0 (by simp)).symm
    simp only [List.length_cons, Region.lexHead, Bool.and_eq_true] at hB
    obtain ⟨⟨hr, hf⟩, hB'⟩ := hB
    simp only [List.length_cons] at hk
    have hkn : k < n := by omega
    have hr' : k ∈ Region.ready md ops listed := by simpa using hr
    have hst : qOp P ops C k (wpQuiet P ops C Lq l) a := by unfold qOp; simp only [h0]; exact h
    obtain ⟨v, hy, hK⟩ := yieldsIn_of_qOp h0 hst
    exact headQ_first h0 (Region.noSelect_spec hsel) hs hc hn hkn (fun listed' a' hL => seqB_ready hL.1) l.length listed a inv (Region.free_spec h0 hf) hr' hy
      (headQ_lex hsel hs hc hn l (k + 1) _ _ (fun j hj => by have := hl (j + 1) (by simp; omega); simpa [Nat.add_assoc, Nat.add_comm 1 j] using this) (by omega) (inv.set hr' hkn) hB' hK)

theorem wp_region_quiet_tail {id : Nat} {Q : Exit → Act → World → Prop} {a : Act} {w : World} {l : List Oper} (n : Nat) (hm : P.follows .mixedOrders = true) (hB : Region.lexTailB .any l.toArray n = true) (hC : C { w with drawn := w.drawn + 1 })
    (h : wpQuiet P l.toArray C (fun a' => ∀ X, C X → wpList P l.toArray Q (l.drop n) a' X) (l.take n) a) : (Code.region id l.toArray true).wp P Q a w := by
  simp only [Region.lexTailB, Bool.and_eq_true, decide_eq_true_eq] at hB
  obtain ⟨⟨⟨⟨hsel, hn⟩, hs⟩, hc⟩, hlex⟩ := hB
  have hn' : n < l.length := by simpa using hn
  have htl : (l.take n).length = n := by simp; omega
  have hdl : (l.drop n).length = l.toArray.size - n := by simp
  have inv0 : HeadInv .any l.toArray n (Array.replicate l.toArray.size false) :=
    ⟨by simp, fun j oj _ hl => (by rw [getD_replicate_false] at hl; cases hl), fun t _ ht => getD_in (by simpa using ht) (getD_replicate_false _ _)⟩
  have H := headQ_lex (md := .any) (g := l.toArray.size - n) hsel hs hc hn (l.take n) 0 _ a (fun j hj => by
    have hj' : j < n := by rw [htl] at hj; exact hj
    simp [hj']) (by simpa using htl) inv0 (by rw [htl]; exact hlex) h
  refine wp_region_any hm ?_
  have := any_of_headQ (Q' := Q) (g := l.toArray.size - n) (fun listed a' w' hw' hL => by
    have := wpAny_of_seq (md := .any) (Q' := Q) (l.drop n) n listed a' w' (fun j => by simp [List.getElem?_drop]) (by rw [hdl]; exact hL.1) (hL.2 w' hw')
    rwa [hdl] at this) _ _ _ _ hC H
  rw [htl, show n + (l.toArray.size - n) = l.toArray.size by omega] at this
  exact this
end

theorem wp_region_ext_tail {P : Program} {id : Nat} {Q : Exit → Act → World → Prop} {a : Act} {w : World} {l : List Oper} (n : Nat) (hm : P.follows .mixedOrders = true) (hB : Region.lexTailB .any l.toArray n = true)
    (h : wpQuiet P l.toArray (fun X => ∃ n : Ext w, X = n.X) (fun a' => ∀ X, (∃ n : Ext w, X = n.X) → wpList P l.toArray Q (l.drop n) a' X) (l.take n) a) : (Code.region id l.toArray true).wp P Q a w :=
  wp_region_quiet_tail (C := fun X => ∃ n : Ext w, X = n.X) n hm hB ⟨⟨_, (Below.refl _ w).drew⟩, rfl⟩ h

end Go.Proofs.YtnolbpekdikamaaGreatDoor
namespace Go.Proofs.YtnolbpekdikamaaGreatDoor
open Go.RowKit Go.BigFrame
set_option linter.unusedVariables false
set_option linter.unusedSimpArgs false

set_option maxRecDepth 100000 in
set_option maxHeartbeats 4000000 in
theorem mention_any (op : Int) (E : Envr) (al : Option Addr) (cl : Nat) (item : Int) (ac : Option Addr) (cc : Nat) (col : List Int) (w : World) (hf : Flat w ac (fl intC col)) (hl : col.length ≤ 140737488351232) (N : Nst w al evC E.lists) (hE : E.ok) :
    Calls Tryz.prog 28 #[.int .i64 op, envA al cl E, .int .i64 item, plcF ac col.length cc] w fun r w' => r = .returned (VA (menV (plcO col) op E item)) ∧ Below w.heap.size w w' := by
  obtain ⟨a, c, L, hc⟩ := listOf_any E al cl item w N
  obtain ⟨hok, h88, _⟩ := lstO_ok hE item
  have R0 := Two.new (w.alloc (.cells #[.slice al E.lists.length cl, .int .i64 E.each, .int .i64 E.at_] 34)) (.bool false) (.int .i64 0) 51
  have S0 := (Bk.new w #[.slice al E.lists.length cl, .int .i64 E.each, .int .i64 E.at_] 34).alloc (.cells #[.bool false, .int .i64 0] 51)
  rw [show (w.alloc (.cells #[.slice al E.lists.length cl, .int .i64 E.each, .int .i64 E.at_] 34)).heap.size = w.heap.size + 1 by simp] at R0
  have B0 := galloc (galloc (Below.refl w.heap.size w) (.cells #[.slice al E.lists.length cl, .int .i64 E.each, .int .i64 E.at_] 34)) (.cells #[.bool false, .int .i64 0] 51)
  have q4 : ∀ X, Below w.heap.size w X → ∀ p, Calls Tryz.prog 50 #[plcF ac col.length cc, .slice a (lstO E item).length c, .int .i64 p] X fun r w' => r = .returned (VA (sayV (plcO col) (lstO E item) p)) ∧ Below X.heap.size X w' := fun X G p => readAt_any ac cc col a c (lstO E item) p X (hf.keep G) hl (L.fl.keep G) h88
  have q5 : ∀ X, Below w.heap.size w X → Calls Tryz.prog 51 #[plcF ac col.length cc, .int .i64 op, .slice a (lstO E item).length c] X fun r w' => r = .returned (VA (gatV (plcO col) op (lstO E item))) ∧ Below X.heap.size X w' := fun X G => cfold_any ac cc col a c (lstO E item) op X (hf.keep G) hl (L.fl.keep G) h88 hok
  obtain ⟨x, hx⟩ : ∃ x, menV (plcO col) op E item = x := ⟨_, rfl⟩
  have HX := show Hid (_ = _) from hx
  rw [hx]
  clear hx hok L hf
  go_enter Tryz.func28, Tryz.ntmps28
  go_wp2
  have y1 : ∀ z : Ext ((w.alloc (.cells #[.slice al E.lists.length cl, .int .i64 E.each, .int .i64 E.at_] 34)).alloc (.cells #[.bool false, .int .i64 0] 51)), Calls Tryz.prog 49 #[envA al cl E, .int .i64 item] z.X (fun e' w'' => e' = .returned (.slice a (lstO E item).length c) ∧ ∃ m : Ext _, w'' = m.X) := fun z => ext_of (hc z.X (gtrans B0 z.h))
  generalize (lstO E item).length = n at *
  generalize hV : (w.alloc (.cells #[.slice al E.lists.length cl, .int .i64 E.each, .int .i64 E.at_] 34)).alloc (.cells #[.bool false, .int .i64 0] 51) = V at *
  clear hV hc
  obtain ⟨s0, s1, s2⟩ := S0.at3
  have p0 := fun z : Ext V => (z.cell _ _ S0.lt).trans s0
  have p1 := fun z : Ext V => (z.cell _ _ S0.lt).trans s1
  have p2 := fun z : Ext V => (z.cell _ _ S0.lt).trans s2
  have hne : Nonempty (Ext V) := ⟨⟨_, Below.refl _ _⟩⟩
  refine wp_region_ext (by kernel_rfl) (by kernel_rfl) ?_
  repeat (go_big_quiet_step (first | (go_at_call 49; with_reducible exact y1 _)))
  refine wpQuiet_nil ?_
  intro _ hw'
  obtain ⟨nx, hw''⟩ := hw'
  subst hw''
  have BX := gtrans B0 nx.h
  have RX := R0.keep nx.h
  obtain ⟨_, t1, t2⟩ := (S0.keep nx.h).at3
  generalize nx.X = X at *
  cases hg : (item == E.each)
  · have hne : item ≠ E.each := by simpa using hg
    by_cases h4 : op = 4
    · have q0 : (op == 4) = true := by simpa using h4
      have e1 : x = sayV (plcO col) (lstO E item) 0 := by rw [← HX.out]; unfold menV; rw [if_pos h4, if_neg hne]
      obtain ⟨xk, xn⟩ := x
      have hcc := q4 X BX 0
      rw [← e1] at hcc
      clear e1 HX q4 q5
      go_wp2_with (first
        | (go_at_call 50; (with_reducible refine hcc.mono ?_); rintro _ u1 ⟨rfl, g1⟩; have R1 := RX.keep g1; obtain ⟨r0, r1⟩ := show _ ∧ _ from ⟨R1.at0, R1.at1⟩; have rf := R1.free))
      refine bodyPost_ret (v := .agg #[.bool xk, .int .i64 xn]) (by simp [results, Tryz.results28, go_sem, r0, r1]) rfl ⟨rfl, ?_⟩
      exact gset (gset (gtrans BX g1) (by simp) _) (by simp) _
    have q0 : (op == 4) = false := beq_eq_false_iff_ne.2 h4
    by_cases h11 : op = 11
    · have q1 : (op == 11) = true := by simpa using h11
      obtain rfl : x = noV2 := by rw [← HX.out]; unfold menV; rw [if_neg h4, if_pos h11, if_neg hne]
      have r0 := RX.at0
      have r1 := RX.at1
      have rf := RX.free
      clear HX q4 q5
      go_wp2
      refine bodyPost_ret (v := .agg #[.bool false, .int .i64 0]) (by simp [results, Tryz.results28, go_sem, r0, r1]) rfl ⟨rfl, ?_⟩
      first | exact BX | exact gset (gset BX (by simp) _) (by simp) _
    have q1 : (op == 11) = false := beq_eq_false_iff_ne.2 h11
    have e1 : x = gatV (plcO col) op (lstO E item) := by rw [← HX.out]; unfold menV; rw [if_neg h4, if_neg h11]
    obtain ⟨xk, xn⟩ := x
    have hcc := q5 X BX
    rw [← e1] at hcc
    clear e1 HX q4 q5
    go_wp2_with (first
      | (go_at_call 51; (with_reducible refine hcc.mono ?_); rintro _ u1 ⟨rfl, g1⟩; have R1 := RX.keep g1; obtain ⟨r0, r1⟩ := show _ ∧ _ from ⟨R1.at0, R1.at1⟩; have rf := R1.free))
    refine bodyPost_ret (v := .agg #[.bool xk, .int .i64 xn]) (by simp [results, Tryz.results28, go_sem, r0, r1]) rfl ⟨rfl, ?_⟩
    exact gset (gset (gtrans BX g1) (by simp) _) (by simp) _
  · have hne : item = E.each := by simpa using hg
    by_cases h4 : op = 4
    · have q0 : (op == 4) = true := by simpa using h4
      have e1 : x = sayV (plcO col) (lstO E item) E.at_ := by rw [← HX.out]; unfold menV; rw [if_pos h4, if_pos hne]
      obtain ⟨xk, xn⟩ := x
      have hcc := q4 X BX E.at_
      rw [← e1] at hcc
      clear e1 HX q4 q5
      go_wp2_with (first
        | (go_at_call 50; (with_reducible refine hcc.mono ?_); rintro _ u1 ⟨rfl, g1⟩; have R1 := RX.keep g1; obtain ⟨r0, r1⟩ := show _ ∧ _ from ⟨R1.at0, R1.at1⟩; have rf := R1.free))
      refine bodyPost_ret (v := .agg #[.bool xk, .int .i64 xn]) (by simp [results, Tryz.results28, go_sem, r0, r1]) rfl ⟨rfl, ?_⟩
      exact gset (gset (gtrans BX g1) (by simp) _) (by simp) _
    have q0 : (op == 4) = false := beq_eq_false_iff_ne.2 h4
    by_cases h11 : op = 11
    · have q1 : (op == 11) = true := by simpa using h11
      obtain ⟨pv, hpv⟩ : ∃ pv, IntKind.i64.wrap (E.at_ - 1) = pv := ⟨_, rfl⟩
      have e1 : x = sayV (plcO col) (lstO E item) pv := by rw [← HX.out]; unfold menV; rw [if_neg h4, if_pos h11, if_pos hne, hpv]
      obtain ⟨xk, xn⟩ := x
      have hcc := q4 X BX pv
      rw [← e1] at hcc
      clear e1 HX q4 q5
      go_wp2_with (first
        | (go_at_call 50; (with_reducible refine hcc.mono ?_); rintro _ u1 ⟨rfl, g1⟩; have R1 := RX.keep g1; obtain ⟨r0, r1⟩ := show _ ∧ _ from ⟨R1.at0, R1.at1⟩; have rf := R1.free))
      refine bodyPost_ret (v := .agg #[.bool xk, .int .i64 xn]) (by simp [results, Tryz.results28, go_sem, r0, r1]) rfl ⟨rfl, ?_⟩
      exact gset (gset (gtrans BX g1) (by simp) _) (by simp) _
    have q1 : (op == 11) = false := beq_eq_false_iff_ne.2 h11
    have e1 : x = gatV (plcO col) op (lstO E item) := by rw [← HX.out]; unfold menV; rw [if_neg h4, if_neg h11]
    obtain ⟨xk, xn⟩ := x
    have hcc := q5 X BX
    rw [← e1] at hcc
    clear e1 HX q4 q5
    go_wp2_with (first
      | (go_at_call 51; (with_reducible refine hcc.mono ?_); rintro _ u1 ⟨rfl, g1⟩; have R1 := RX.keep g1; obtain ⟨r0, r1⟩ := show _ ∧ _ from ⟨R1.at0, R1.at1⟩; have rf := R1.free))
    refine bodyPost_ret (v := .agg #[.bool xk, .int .i64 xn]) (by simp [results, Tryz.results28, go_sem, r0, r1]) rfl ⟨rfl, ?_⟩
    exact gset (gset (gtrans BX g1) (by simp) _) (by simp) _

end Go.Proofs.YtnolbpekdikamaaGreatDoor
namespace Go.Proofs.YtnolbpekdikamaaGreatDoor
open Go.RowKit Go.BigFrame
set_option linter.unusedVariables false
set_option linter.unusedSimpArgs false

/-- The slice that begins at ao with n elements holds the strings ss. -/
def IsStrs (w : World) (ao : Option Addr) (n : Nat) (ss : List ByteArray) : Prop :=
  ss.length = n ∧ n ≤ 9223372036854775807 ∧ (n = 0 ∨ ∃ b off, ao = some ⟨b, off, none⟩ ∧ b < w.heap.size ∧ ∀ j, j < n → w.cell? ⟨b, off + j, none⟩ = some (.string (ss.getD j .empty)))
theorem IsStrs.keep {w u : World} {ao : Option Addr} {n : Nat} {ss : List ByteArray} (h : IsStrs w ao n ss) (G : Below w.heap.size w u) : IsStrs u ao n ss := by
  obtain ⟨h1, h2, h4⟩ := h
  refine ⟨h1, h2, ?_⟩
  rcases h4 with h4 | ⟨b, off, e, hb, hc⟩
  · exact .inl h4
  · exact .inr ⟨b, off, e, Nat.lt_of_lt_of_le hb G.size, fun j hj => (G.cell (p := ⟨b, off + j, none⟩) hb).trans (hc j hj)⟩

theorem IsStrs.take {w : World} {ao : Option Addr} {n : Nat} {ss : List ByteArray} (h : IsStrs w ao n ss) (k : Nat) (hk : k ≤ n) : IsStrs w ao k (ss.take k) := by
  obtain ⟨h1, h2, h4⟩ := h
  refine ⟨by simp; omega, by omega, ?_⟩
  rcases h4 with h4 | ⟨b, off, e, hb, hc⟩
  · exact .inl (by omega)
  · refine .inr ⟨b, off, e, hb, fun j hj => ?_⟩
    rw [hc j (by omega)]
    simp [List.getD, List.getElem?_take, hj]

abbrev Ty := ByteArray × List ByteArray
def noTy : Ty := (.empty, [])
/-- The slice that begins at ao with n elements holds the types L. -/
def IsTypes (w : World) (ao : Option Addr) (n : Nat) (L : List Ty) : Prop :=
  L.length = n ∧ n ≤ 9223372036854775807 ∧ (n = 0 ∨ ∃ b off, ao = some ⟨b, off, none⟩ ∧ b < w.heap.size ∧ ∀ j, j < n →
    w.cell? ⟨b, off + j * 2, none⟩ = some (.string (L.getD j noTy).1) ∧ ∃ aj cj, w.cell? ⟨b, off + j * 2 + 1, none⟩ = some (.slice aj (L.getD j noTy).2.length cj) ∧ (L.getD j noTy).2.length ≤ cj ∧ IsStrs w aj (L.getD j noTy).2.length (L.getD j noTy).2)
theorem IsTypes.keep {w u : World} {ao : Option Addr} {n : Nat} {L : List Ty} (h : IsTypes w ao n L) (G : Below w.heap.size w u) : IsTypes u ao n L := by
  obtain ⟨h1, h2, h4⟩ := h
  refine ⟨h1, h2, ?_⟩
  rcases h4 with h4 | ⟨b, off, e, hb, hc⟩
  · exact .inl h4
  · refine .inr ⟨b, off, e, Nat.lt_of_lt_of_le hb G.size, fun j hj => ?_⟩
    obtain ⟨c1, aj, cj, c2, c4, c3⟩ := hc j hj
    exact ⟨(G.cell (p := ⟨b, off + j * 2, none⟩) hb).trans c1, aj, cj, (G.cell (p := ⟨b, off + j * 2 + 1, none⟩) hb).trans c2, c4, c3.keep G⟩

theorem IsTypes.take {w : World} {ao : Option Addr} {n : Nat} {L : List Ty} (h : IsTypes w ao n L) (k : Nat) (hk : k ≤ n) : IsTypes w ao k (L.take k) := by
  obtain ⟨h1, h2, h4⟩ := h
  refine ⟨by simp; omega, by omega, ?_⟩
  rcases h4 with h4 | ⟨b, off, e, hb, hc⟩
  · exact .inl (by omega)
  · refine .inr ⟨b, off, e, hb, fun j hj => ?_⟩
    have e1 : (L.take k).getD j noTy = L.getD j noTy := by simp [List.getD, List.getElem?_take, hj]
    rw [e1]
    exact hc j (by omega)
def hitB (name : ByteArray) (t : Ty) : Bool := t.1.toList == name.toList
/-- The number of the first type of that name, or -1. -/
def typeI (L : List Ty) (name : ByteArray) : Int := if L.findIdx (hitB name) < L.length then (L.findIdx (hitB name) : Int) else -1
theorem typeI_hit (L : List Ty) (name : ByteArray) (k : Nat) (hk : k < L.length) (h1 : hitB name (L.getD k noTy) = true) (h2 : ∀ j, j < k → hitB name (L.getD j noTy) = false) : typeI L name = k := by
  have e : L.findIdx (hitB name) = k := by
    rw [List.findIdx_eq hk]
    refine ⟨by simpa [List.getD, List.getElem?_eq_getElem hk] using h1, fun j hj => ?_⟩
    have := h2 j hj
    simpa [List.getD, List.getElem?_eq_getElem (show j < L.length by omega)] using this
  unfold typeI
  rw [e, if_pos hk]
theorem typeI_none (L : List Ty) (name : ByteArray) (h2 : ∀ j, j < L.length → hitB name (L.getD j noTy) = false) : typeI L name = -1 := by
  unfold typeI
  rw [if_neg]
  intro h
  have h1 := List.findIdx_getElem (xs := L) (p := hitB name) (w := h)
  have := h2 _ h
  simp only [List.getD, List.getElem?_eq_getElem h, Option.getD_some] at this
  rw [h1] at this
  exact absurd this (by decide)

theorem more {p : Nat → Bool} {k : Nat} (h : ∀ j, j < k → p j = false) (hk : p k = false) : ∀ j, j < k + 1 → p j = false := by
  intro j hj
  rcases Nat.lt_or_ge j k with h1 | h1
  · exact h j h1
  · obtain rfl : j = k := by omega
    exact hk

def eqB (a b : List ByteArray) : Bool := decide (a.length = b.length ∧ ∀ j, j < a.length → ((a.getD j .empty).toList == (b.getD j .empty).toList) = true)

end Go.Proofs.YtnolbpekdikamaaGreatDoor
namespace Go.Proofs.YtnolbpekdikamaaGreatDoor
open Go.RowKit Go.BigFrame
set_option linter.unusedVariables false
set_option linter.unusedSimpArgs false

def hitS (name s : ByteArray) : Bool := s.toList == name.toList
/-- The first place ahead of the ninth at which the list has that name, or -1. -/
def placeI (ss : List ByteArray) (name : ByteArray) : Int := if ss.findIdx (hitS name) < ss.length ∧ ss.findIdx (hitS name) < 8 then (ss.findIdx (hitS name) : Int) else -1
theorem placeI_hit (ss : List ByteArray) (name : ByteArray) (k : Nat) (hk : k < ss.length) (h8 : k < 8) (h1 : hitS name (ss.getD k .empty) = true) (h2 : ∀ j, j < k → hitS name (ss.getD j .empty) = false) : placeI ss name = k := by
  have e : ss.findIdx (hitS name) = k := by
    rw [List.findIdx_eq hk]
    refine ⟨by simpa [List.getD, List.getElem?_eq_getElem hk] using h1, fun j hj => ?_⟩
    have := h2 j hj
    simpa [List.getD, List.getElem?_eq_getElem (show j < ss.length by omega)] using this
  unfold placeI
  rw [e, if_pos ⟨hk, h8⟩]
theorem placeI_none (ss : List ByteArray) (name : ByteArray) (h2 : ∀ j, j < ss.length → j < 8 → hitS name (ss.getD j .empty) = false) : placeI ss name = -1 := by
  unfold placeI
  rw [if_neg]
  intro ⟨h, h8⟩
  have h1 := List.findIdx_getElem (xs := ss) (p := hitS name) (w := h)
  have := h2 _ h h8
  simp only [List.getD, List.getElem?_eq_getElem h, Option.getD_some] at this
  rw [h1] at this
  exact absurd this (by decide)
/-- The place of an attribute of a type. -/
def attrI (L : List Ty) (typ : Int) (name : ByteArray) : Int :=
  if 0 ≤ typ ∧ typ < L.length then (if (name.toList == [116, 115]) = true then -2 else placeI (L.getD typ.toNat noTy).2 name) else -1

set_option maxHeartbeats 400000 in
theorem hasType_any (ao : Option Addr) (n cap : Nat) (typ : Int) (w : World) (hn : n ≤ 9223372036854775807) :
    Calls Tryz.prog 115 #[.agg #[.slice ao n cap], .int .i64 typ] w fun e w' => e = .returned (.bool (decide (0 ≤ typ ∧ typ < (n : Int)))) ∧ Below w.heap.size w w' := by
  by_cases h0 : 0 ≤ typ
  · by_cases h1 : typ < (n : Int)
    · rw [decide_eq_true ⟨h0, h1⟩]
      go_enter Tryz.func115, Tryz.ntmps115
      go_wp2
      all_goals (go_ret; exact ⟨by first | rfl | simp [h0, h1], galloc (Below.refl _ _) _⟩)
    · rw [decide_eq_false (fun e => h1 e.2)]
      go_enter Tryz.func115, Tryz.ntmps115
      go_wp2
      all_goals (go_ret; exact ⟨by first | rfl | simp [h0, h1], galloc (Below.refl _ _) _⟩)
  · rw [decide_eq_false (fun e => h0 e.1)]
    have h2 : typ < 0 := by omega
    go_enter Tryz.func115, Tryz.ntmps115
    go_wp2
    all_goals (go_ret; exact ⟨by first | rfl | simp [h0], galloc (Below.refl _ _) _⟩)

set_option maxRecDepth 100000 in
set_option maxHeartbeats 1000000 in
theorem attrOf_any (ao : Option Addr) (n cap : Nat) (L : List Ty) (typ : Int) (name : ByteArray) (w : World) (h : IsTypes w ao n L) :
    Calls Tryz.prog 89 #[.agg #[.slice ao n cap], .int .i64 typ, .string name] w fun e w' => e = .returned (.int .i64 (attrI L typ name)) ∧ Below w.heap.size w w' := by
  have hL := h.1
  have hn := h.2.1
  have B := galloc (Below.refl w.heap.size w) (.cells #[.slice ao n cap] 24)
  have O := One.new w (.slice ao n cap) 24
  have ch := hasType_any ao n cap typ
  by_cases hin : 0 ≤ typ ∧ typ < (n : Int)
  · obtain ⟨t, rfl⟩ := Int.eq_ofNat_of_zero_le hin.1
    have ht : t < n := by omega
    have ea : attrI L (t : Int) name = if (name.toList == [116, 115]) = true then -2 else placeI (L.getD t noTy).2 name := by unfold attrI; rw [if_pos (by rw [hL]; exact hin)]; simp
    rw [ea]
    simp only [decide_eq_true hin] at ch
    clear ea hin
    cases hts : (name.toList == [116, 115])
    · rw [if_neg (by decide)]
      go_enter Tryz.func89, Tryz.ntmps89
      obtain ⟨_, _, q4⟩ := h.keep B
      rcases q4 with q4 | ⟨b, off, eb, hb, hcb⟩
      · omega
      subst eb
      obtain ⟨_, aj, cj, f2, _, hs⟩ := hcb t ht
      obtain ⟨ss, hss⟩ : ∃ ss, ss = (L.getD t noTy).2 := ⟨_, rfl⟩
      rw [← hss] at f2 hs ⊢
      obtain ⟨m, hm⟩ : ∃ m, m = ss.length := ⟨_, rfl⟩
      rw [← hm] at f2 hs
      have hm2 : ss.length = m := hm.symm
      clear hcb hss hm
      generalize hV : w.alloc (.cells #[.slice (some ⟨b, off, none⟩) n cap] 24) = V at B O hb f2 hs
      go_upto_region 1 with fail
      clear hV
      have o0 := O.at0
      go_upto_region 3 with (go_at_call 115; with_reducible refine (ch _ hn).mono ?_; rintro e u ⟨rfl, g⟩)
      replace O := O.keep g
      replace B := gtrans B g
      replace f2 := (g.cell (p := ⟨b, off + t * 2 + 1, none⟩) hb).trans f2
      replace hs := hs.keep g
      replace o0 := O.at0
      clear g O ch h
      go_wp2
      go_loop [22] (fun i => ∃ k : Nat, k ≤ m ∧ k ≤ 8 ∧ i = .int .i64 k ∧ (∀ j, j < k → hitS name (ss.getD j .empty) = false)) (fun i => 9 - (intOf i).toNat)
      case atStart => exact ⟨0, Nat.zero_le _, Nat.zero_le _, rfl, fun j hj => absurd hj (Nat.not_lt_zero _)⟩
      case round =>
        obtain ⟨k, hk, h8, rfl, hno⟩ := hrel
        by_cases hlt : k < m
        · obtain ⟨_, r2, r4⟩ := hs
          rcases r4 with r4 | ⟨b2, off2, eb2, hb2, hcb2⟩
          · omega
          subst eb2
          obtain ⟨x, hx⟩ : ∃ x, x = ss.getD k .empty := ⟨_, rfl⟩
          have f3 := hcb2 k hlt
          rw [← hx] at f3
          have HH : Hid (hitS name (ss.getD k .empty) = (x.toList == name.toList)) := by show _ = _; unfold hitS; rw [hx]
          clear hcb2 hx
          by_cases hk8 : k = 8
          · subst hk8
            go_wp2
            go_ret
            exact ⟨by rw [placeI_none ss name (fun j _ hj => hno j hj)]; rfl, B⟩
          · have hkk : ((k : Int) == 8) = false := by simp; omega
            cases hc : (x.toList == name.toList)
            · go_wp2
              go_round
              case rel => exact ⟨k + 1, by omega, by omega, by go_num, more (p := fun j => hitS name (ss.getD j .empty)) hno (HH.out.trans hc)⟩
              case measure => simp [intOf]; omega
            · go_wp2
              go_ret
              exact ⟨by rw [placeI_hit ss name k (by omega) (by omega) (HH.out.trans hc) hno]; rfl, B⟩
        · obtain rfl : k = m := by omega
          have r2 := hs.2.1
          go_wp2
          go_ret
          exact ⟨by rw [placeI_none ss name (fun j hj _ => hno j (by omega))]; rfl, B⟩
    · rw [if_pos rfl]
      go_enter Tryz.func89, Tryz.ntmps89
      have o0 := O.at0
      go_wp2_with (go_at_call 115; with_reducible refine (ch _ hn).mono ?_; rintro e u ⟨rfl, g⟩)
      go_ret
      exact ⟨rfl, gtrans B g⟩
  · have ea : attrI L typ name = -1 := by unfold attrI; rw [if_neg (by rw [hL]; exact hin)]
    rw [ea]
    simp only [decide_eq_false hin] at ch
    go_enter Tryz.func89, Tryz.ntmps89
    have o0 := O.at0
    go_wp2_with (go_at_call 115; with_reducible refine (ch _ hn).mono ?_; rintro e u ⟨rfl, g⟩)
    go_ret
    exact ⟨rfl, gtrans B g⟩

/-- The same types and attributes? -/
def eqS (L M : List Ty) : Bool := decide (L.length = M.length ∧ ∀ j, j < L.length → ((L.getD j noTy).1.toList == (M.getD j noTy).1.toList) = true ∧ eqB (L.getD j noTy).2 (M.getD j noTy).2 = true)

end Go.Proofs.YtnolbpekdikamaaGreatDoor
