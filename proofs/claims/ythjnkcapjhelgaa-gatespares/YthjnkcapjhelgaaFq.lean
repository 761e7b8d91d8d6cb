/- A region that draws its order: at first it only reads, then a chain that may write; one copy of a slot may come up at whatever place. -/
import Derived.Test.YthjnkcapjhelgaaQt
namespace Go.Proofs.Ythjnkcapjhelgaa
open Go.RowKit
set_option linter.unusedVariables false
set_option linter.unusedSimpArgs false

section
variable {P : Program} {ops : Array Oper} {md : Region.Mode} {C : World → Prop}

/-- Each of the first n operations but f is waited for. -/
def sinkF (md : Region.Mode) (ops : Array Oper) (n f : Nat) : Bool :=
  (List.range n).all fun i => i == f || (List.range (n + 1)).any fun j => decide (i < j) && Region.waitsFor md ops j i
theorem tail_waitsF {n f : Nat} {listed : Array Bool} (hs : sinkF md ops n f = true) (hc : Region.chainB md ops n = true) (hn : n < ops.size) (inv : HeadInv md ops n listed) (hfl : listed.getD f false = true) (t : Nat) (ht : n ≤ t) (hr : t ∈ Region.ready md ops listed) :
    ∀ (d i : Nat), n - i = d → i < n → listed.getD i true = false → False := by
  obtain ⟨_, ot, hot, hall⟩ := mem_ready.1 hr
  have htlt : t < ops.size := (Array.getElem?_eq_some_iff.1 hot).1
  intro d
  induction d using Nat.strongRecOn with
  | _ d ih =>
    intro i hd hi hun
    rcases Nat.lt_or_ge n t with htn | htn
    · have h1 := List.all_eq_true.1 hc t (List.mem_range.2 htlt)
      simp only [Bool.or_eq_true, decide_eq_true_eq] at h1
      rcases h1 with h1 | h1
      · omega
      · obtain ⟨o', ho', e, he, hb, hon⟩ := Region.waitsFor_spec h1
        obtain rfl : o' = ot := Option.some.inj (ho'.symm.trans hot)
        have h2 := hall e he hb
        rw [hon, getD_both (inv.tail (t - 1) (by omega) (by omega))] at h2
        cases h2
    · obtain rfl : t = n := by omega
      have hif : i ≠ f := fun e => by rw [e] at hun; rw [getD_both hun] at hfl; cases hfl
      have h1 := List.all_eq_true.1 hs i (List.mem_range.2 hi)
      simp only [Bool.or_eq_true, beq_iff_eq] at h1
      rcases h1 with h1 | h1
      · exact hif h1
      obtain ⟨j, hj, hj2⟩ := List.any_eq_true.1 h1
      simp only [Bool.and_eq_true, decide_eq_true_eq] at hj2
      obtain ⟨oj, hoj, e, he, hb, hon⟩ := Region.waitsFor_spec hj2.2
      have hjle : j ≤ t := by have := List.mem_range.1 hj; omega
      by_cases hjt : j = t
      · subst hjt
        obtain rfl : oj = ot := Option.some.inj (hoj.symm.trans hot)
        have h2 := hall e he hb
        rw [hon, getD_both hun] at h2
        cases h2
      · cases hl : listed.getD j false with
        | true =>
          have h2 := inv.closed j oj hoj hl e he hb
          rw [hon, getD_both hun] at h2
          cases h2
        | false => exact ih (t - j) (by omega) j rfl (by omega) (getD_in (by rw [inv.size]; omega) hl)
theorem headF_first {n f i : Nat} {oi : Oper} {v : Value} {L : Array Bool → Act → Prop} (hi : ops[i]? = some oi) (hsel : ∀ (j : Nat) (o : Oper) cs b, ops[j]? = some o → o.op ≠ .select cs b)
    (hs : sinkF md ops n f = true) (hc : Region.chainB md ops n = true) (hn : n < ops.size) (hin : i < n)
    (hdone : ∀ listed a, L listed a → ∀ j ∈ Region.ready md ops listed, n ≤ j) (k : Nat) :
    ∀ (listed : Array Bool) (a : Act), HeadInv md ops n listed → listed.getD f false = true →
      (∀ j oj, ops[j]? = some oj → j ≠ i → listed.getD j true = false → (∀ e ∈ oj.after, Region.binds md e = true → e.on ≠ i) → oi.apart ops oj = true) →
      i ∈ Region.ready md ops listed → YieldsIn P ops C oi v a →
      headQ P md ops C n L k (listed.setIfInBounds i true) (a.put oi.dst v) → headQ P md ops C n L (k + 1) listed a := by
  induction k with
  | zero =>
    intro listed a inv hfl _ hr hy H
    refine ⟨fun h => (by rw [h] at hr; cases hr), fun j hj => ?_⟩
    have hjn : j < n := Nat.lt_of_not_le fun h => tail_waitsF hs hc hn inv hfl j h hj _ i rfl hin (mem_ready.1 hr).1
    refine ⟨hjn, ?_⟩
    by_cases hji : j = i
    · subst hji; exact hy.qOp hi H
    · have := hdone _ _ H j (ready_mono hj hji); omega
  | succ k ih =>
    intro listed a inv hfl hfree hr hy H
    have hun := (mem_ready.1 hr).1
    refine ⟨fun h => (by rw [h] at hr; cases hr), fun j hj => ?_⟩
    have hjn : j < n := Nat.lt_of_not_le fun h => tail_waitsF hs hc hn inv hfl j h hj _ i rfl hin hun
    refine ⟨hjn, ?_⟩
    by_cases hji : j = i
    · subst hji; exact hy.qOp hi H
    obtain ⟨hjun, oj, hoj, hall⟩ := mem_ready.1 hj
    have hnot : ∀ e ∈ oj.after, Region.binds md e = true → e.on ≠ i := fun e he hb heq => by
      have h1 := hall e he hb
      rw [heq, getD_both hun] at h1
      cases h1
    have h2 := qOp_put hoj (hfree j oj hoj hji hjun hnot) (fun cs b => hsel i oi cs b hi) (fun cs b => hsel j oj cs b hoj) hy (H.2 j (ready_mono hj hji)).2
    refine qOp_mono (fun a' h3 => ih (listed.setIfInBounds j true) a' (inv.set hj hjn) (getD_set_true hfl) (fun k ok hk hki hu hno => hfree k ok hk hki ?_ hno) (ready_mono hr (Ne.symm hji)) h3.1 ?_) h2
    · by_cases hjk : j = k
      · subst hjk; exact hjun
      · rwa [getD_set_ne true hjk] at hu
    · rw [Array.setIfInBounds_comm _ _ hji]
      exact h3.2
def lexK (md : Region.Mode) (ops : Array Oper) (g n : Nat) : List Nat → Array Bool → Bool
  | [], listed => Region.seqB md ops g n listed
  | k :: ks, listed => decide (k < n) && (Region.ready md ops listed).contains k && Region.free md ops listed k && lexK md ops g n ks (listed.setIfInBounds k true)
theorem headF_lex {n f g : Nat} {Lq : Act → Prop} (hsel : Region.noSelect ops = true) (hs : sinkF md ops n f = true) (hc : Region.chainB md ops n = true) (hn : n < ops.size) :
    ∀ (ks : List Nat) (l : List Oper) (listed : Array Bool) (a : Act), l.map some = ks.map (fun k => ops[k]?) → HeadInv md ops n listed → listed.getD f false = true →
    lexK md ops g n ks listed = true → wpQuiet P ops C Lq l a →
    headQ P md ops C n (fun listed' a' => Region.seqB md ops g n listed' = true ∧ Lq a') ks.length listed a
  | [], l, listed, a, hl, inv, hfl, hB, h => by
    have : l = [] := by simpa using hl
    subst this
    exact ⟨by simpa [lexK] using hB, h⟩
  | k :: ks, [], listed, a, hl, inv, hfl, hB, h => by simp at hl
  | k :: ks, o :: l, listed, a, hl, inv, hfl, hB, h => by
    simp only [List.map_cons, List.cons.injEq] at hl
    have h0 : ops[k]? = some o := hl.1.symm
    simp only [lexK, Bool.and_eq_true, decide_eq_true_eq] at hB
    obtain ⟨⟨⟨hkn, hr⟩, hf⟩, hB'⟩ := hB
    have hr' : k ∈ Region.ready md ops listed := by simpa using hr
    have hst : qOp P ops C k (wpQuiet P ops C Lq l) a := by unfold qOp; simp only [h0]; exact h
    obtain ⟨v, hy, hK⟩ := yieldsIn_of_qOp h0 hst
    exact headF_first h0 (Region.noSelect_spec hsel) hs hc hn hkn (fun listed' a' hL => seqB_ready hL.1) ks.length listed a inv hfl (Region.free_spec h0 hf) hr' hy
      (headF_lex hsel hs hc hn ks l _ _ hl.2 (inv.set hr' hkn) (getD_set_true hfl) hB' hK)
def floatB (md : Region.Mode) (ops : Array Oper) (n f : Nat) : Bool :=
  Region.noSelect ops && decide (n < ops.size) && decide (f < n) && sinkF md ops n f && Region.chainB md ops n && (Region.ready md ops (Array.replicate ops.size false)).contains f && Region.free md ops (Array.replicate ops.size false) f && lexK md ops (ops.size - n) n ((List.range n).eraseIdx f) ((Array.replicate ops.size false).setIfInBounds f true)
theorem wp_region_quiet_float {id : Nat} {Q : Exit → Act → World → Prop} {a : Act} {w : World} {l : List Oper} (n f : Nat) (o : Oper) (x : Operand) (ho : l[f]? = some o) (hop : o.op = .move x) (hgd : o.guard = none) (hm : P.follows .mixedOrders = true) (hB : floatB .any l.toArray n f = true) (hQ : ∀ c (a : Act) (w : World), Q (.panic c) (a.put o.dst (a.eval x)) w → Q (.panic c) a w) (hQ' : ∀ c (a : Act) (v : Value) (w : World), Q (.panic c) (a.put o.dst v) w → Q (.panic c) a w) (hC : C { w with drawn := w.drawn + 1 })
    (h : wpQuiet P l.toArray C (fun a' => ∀ X, C X → wpList P l.toArray Q (l.drop n) a' X) ((l.take n).eraseIdx f) (a.put o.dst (a.eval x))) : (Code.region id l.toArray true).wp P Q a w := by
  simp only [floatB, Bool.and_eq_true, decide_eq_true_eq] at hB
  obtain ⟨⟨⟨⟨⟨⟨⟨hsel, hn⟩, hfn⟩, hs⟩, hc⟩, hr0⟩, hf0⟩, hlex⟩ := hB
  have hn' : n < l.length := by simpa using hn
  have hdl : (l.drop n).length = l.toArray.size - n := by simp
  have inv0 : HeadInv .any l.toArray n (Array.replicate l.toArray.size false) :=
    ⟨by simp, fun j oj _ hl => (by rw [getD_replicate_false] at hl; cases hl), fun t _ ht => getD_in (by simpa using ht) (getD_replicate_false _ _)⟩
  have ho' : l.toArray[f]? = some o := by simpa using ho
  have hr' : f ∈ Region.ready .any l.toArray (Array.replicate l.toArray.size false) := by simpa using hr0
  have inv1 := inv0.set hr' hfn
  have hfl : ((Array.replicate l.toArray.size false).setIfInBounds f true).getD f false = true := by
    have : f < l.length := by omega
    simp [this]
  have hks : ((List.range n).eraseIdx f).length = n - 1 := by rw [List.length_eraseIdx_of_lt (by simpa using hfn)]; simp
  have H := headF_lex (P := P) (C := C) (md := .any) (f := f) (g := l.toArray.size - n) (Lq := fun a' => ∀ X, C X → wpList P l.toArray Q (l.drop n) a' X) hsel hs hc hn ((List.range n).eraseIdx f) ((l.take n).eraseIdx f) _ (a.put o.dst (a.eval x)) (by
    have em : ∀ {α γ : Type} (g : α → γ) (m : List α) (k : Nat), (m.eraseIdx k).map g = (m.map g).eraseIdx k := fun g m k => by simp [List.eraseIdx_eq_take_drop_succ]
    rw [em, em]
    congr 1
    apply List.ext_getElem?
    intro j
    by_cases hj : j < n
    · have hjl : j < l.length := by omega
      simp [hj, hjl]
    · have : ¬ j < min n l.length := by omega
      simp [hj, List.getElem?_take]) inv1 hfl hlex h
  refine wp_region_any hm ?_
  have h2 := any_of_headQ (Q' := Q) (g := l.toArray.size - n) (fun listed a' w' hw' hL => by
    have := wpAny_of_seq (md := .any) (Q' := Q) (l.drop n) n listed a' w' (fun j => by simp [List.getElem?_drop]) (by rw [hdl]; exact hL.1) (hL.2 w' hw')
    rwa [hdl] at this) _ _ _ _ hC H
  rw [hks] at h2
  have e : n - 1 + (l.toArray.size - n) + 1 = l.toArray.size := by omega
  suffices hh : wpAny P .any l.toArray Q (n - 1 + (l.toArray.size - n) + 1) (Array.replicate l.toArray.size false) a { w with drawn := w.drawn + 1 } by rw [e] at hh; exact hh
  refine wpAny_take ho' hsel hf0 hr0 (fun c a w h => hQ' c a _ w h) ?_ h2
  refine .inl ⟨by simp [Region.wanted, hgd], fun w => ?_⟩
  simp [execOp, hop]
end
theorem wp_region_ext_float {P : Program} {id : Nat} {Q : Exit → Act → World → Prop} {a : Act} {w : World} {l : List Oper} (n f : Nat) (v : Value) (o : Oper) (x : Operand) (ho : l[f]? = some o) (hop : o.op = .move x) (hv : a.eval x = v) (hgd : o.guard = none) (hm : P.follows .mixedOrders = true) (hB : floatB .any l.toArray n f = true) (hQ : ∀ c (a : Act) (v : Value) (w : World), Q (.panic c) (a.put o.dst v) w → Q (.panic c) a w)
    (h : wpQuiet P l.toArray (fun X => ∃ n : Ext w, X = n.X) (fun a' => ∀ X, (∃ n : Ext w, X = n.X) → wpList P l.toArray Q (l.drop n) a' X) ((l.take n).eraseIdx f) (a.put o.dst v)) : (Code.region id l.toArray true).wp P Q a w :=
  wp_region_quiet_float (C := fun X => ∃ n : Ext w, X = n.X) n f o x ho hop hgd hm hB (fun c a w h => hQ c a _ w h) hQ ⟨⟨_, (Below.refl _ w).drew⟩, rfl⟩ (by rw [hv]; exact h)

end Go.Proofs.Ythjnkcapjhelgaa
