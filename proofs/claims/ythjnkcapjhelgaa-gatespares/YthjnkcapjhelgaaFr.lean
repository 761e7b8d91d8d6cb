/- A region that draws its order: it reads, makes one new block (which some of the reads may follow), and behind all of that goes a chain that may write; one copy of a slot may come up at whatever place. -/
import Derived.Test.YthjnkcapjhelgaaFq
import Derived.OrdersHeld
namespace Go.Proofs.Ythjnkcapjhelgaa
open Go.RowKit
set_option linter.unusedVariables false
set_option linter.unusedSimpArgs false

/-- Operations that yield a value and call nothing. -/
def plainB : Op → Bool
  | .move _ | .nilCheck _ | .fieldAddr .. | .load .. | .build .. | .indexAddr .. => true
  | _ => false
theorem run_bind_ok {P : Program} {α γ : Type} {m : Sem α} {f : α → Sem γ} {w w' : World} {r : γ} (h : (m >>= f).run P w = .ok r w') : ∃ x u, m.run P w = .ok x u ∧ (f x).run P u = .ok r w' := by
  rw [Sem.run_bind] at h
  cases hs : m.run P w with
  | ok x u => rw [hs] at h; exact ⟨x, u, rfl, h⟩
  | halt x u => rw [hs] at h; cases h
theorem plain_value {P : Program} {o : Oper} {ρ : Operand → Value} {w w' : World} {r : Next} (h : plainB o.op = true) (hr : (execOp ρ o).run P w = .ok r w') : ∃ v, r = .value v := by
  have key : ∀ s : Sem Value, (do let x ← s; pure (Next.value x) : Sem Next).run P w = .ok r w' → ∃ v, r = .value v := fun s h => by
    rw [Sem.run_bind] at h
    cases hs : s.run P w with
    | ok x u => rw [hs] at h; simp at h; exact ⟨x, h.1.symm⟩
    | halt x u => rw [hs] at h; simp at h
  unfold plainB at h
  unfold execOp at hr
  split at h <;> simp_all
  all_goals first | exact ⟨_, hr.1.symm⟩ | exact key _ hr | skip
  repeat' split at hr
  all_goals first
    | (simp at hr; exact ⟨_, hr.1.symm⟩)
    | (simp [runtimePanic, Sem.run, Result.andThen] at hr; done)
    | (obtain ⟨x1, u1, _, h1⟩ := run_bind_ok hr
       obtain ⟨x2, u2, _, h2⟩ := run_bind_ok h1
       split at h2
       · simp at h2; exact ⟨_, h2.1.symm⟩
       · rw [map_eq_pure_bind] at h2
         obtain ⟨x3, u3, h3, _⟩ := run_bind_ok h2
         cases h3)
section
variable {P : Program} {ops : Array Oper} {md : Region.Mode} {S : World → Prop} {Q : Exit → Act → World → Prop}
theorem yieldsIf_of {o : Oper} {v : Value} {a : Act} (h : plainB o.op = true) (hy : YieldsIn P ops S o v a) : YieldsIf P ops S o v a := by
  rcases hy with ⟨hw, hv⟩ | ⟨hw, rfl⟩
  · refine .inl ⟨hw, fun w hS => ?_⟩
    have h1 := hv w hS
    unfold Oper.quietAt at h1
    cases hr : (execOp a.eval o).run P w with
    | ok r w' =>
      obtain ⟨u, rfl⟩ := plain_value h hr
      rw [hr] at h1
      obtain ⟨rfl, rfl⟩ := h1
      rfl
    | halt x w' => rw [hr] at h1; exact h1.elim
  · exact .inr ⟨hw, rfl⟩
/-- Whatever is picked of the first n operations, f of them; then L. -/
def headS (P : Program) (md : Region.Mode) (ops : Array Oper) (Q : Exit → Act → World → Prop) (S : World → Prop) (n : Nat) (L : Array Bool → Act → World → Prop) : Nat → Array Bool → Act → World → Prop
  | 0, listed, a, w => L listed a w
  | f + 1, listed, a, w => Region.ready md ops listed ≠ [] ∧ ∀ i ∈ Region.ready md ops listed, i < n ∧ wpOp P ops Q i (fun a' w' => S w' ∧ headS P md ops Q S n L f (listed.setIfInBounds i true) a' w') a w
theorem any_of_headS {n g : Nat} {L : Array Bool → Act → World → Prop} (hL : ∀ listed a w, L listed a w → wpAny P md ops Q g listed a w) :
    ∀ (f : Nat) (listed : Array Bool) (a : Act) (w : World), headS P md ops Q S n L f listed a w → wpAny P md ops Q (f + g) listed a w
  | 0, listed, a, w, h => by rw [Nat.zero_add]; exact hL _ _ _ h
  | f + 1, listed, a, w, h => by
    rw [show f + 1 + g = (f + g) + 1 by omega]
    exact ⟨fun h0 => absurd h0 h.1, fun i hi => wpOp_mono (fun a' w' h' => any_of_headS hL f _ a' w' h'.2) (h.2 i hi).2⟩
theorem headS_first {n f i : Nat} {oi : Oper} {v : Value} {L : Array Bool → Act → World → Prop} (hi : ops[i]? = some oi) (hsel : ∀ (j : Nat) (o : Oper) cs b, ops[j]? = some o → o.op ≠ .select cs b)
    (hQ : ∀ c a w, Q (.panic c) (a.put oi.dst v) w → Q (.panic c) a w)
    (hs : sinkF md ops n f = true) (hc : Region.chainB md ops n = true) (hn : n < ops.size) (hin : i < n)
    (hdone : ∀ listed a w, L listed a w → ∀ j ∈ Region.ready md ops listed, n ≤ j) (k : Nat) :
    ∀ (listed : Array Bool) (a : Act) (w : World), HeadInv md ops n listed → listed.getD f false = true →
      (∀ j oj, ops[j]? = some oj → j ≠ i → listed.getD j true = false → (∀ e ∈ oj.after, Region.binds md e = true → e.on ≠ i) → oi.apart ops oj = true) →
      i ∈ Region.ready md ops listed → YieldsIf P ops S oi v a → S w →
      headS P md ops Q S n L k (listed.setIfInBounds i true) (a.put oi.dst v) w → headS P md ops Q S n L (k + 1) listed a w := by
  induction k with
  | zero =>
    intro listed a w inv hfl _ hr hy hS H
    refine ⟨fun h => (by rw [h] at hr; cases hr), fun j hj => ?_⟩
    have hjn : j < n := Nat.lt_of_not_le fun h => tail_waitsF hs hc hn inv hfl j h hj _ i rfl hin (mem_ready.1 hr).1
    refine ⟨hjn, ?_⟩
    by_cases hji : j = i
    · subst hji; exact hy.wpOp hi hS ⟨hS, H⟩
    · have := hdone _ _ _ H j (ready_mono hj hji); omega
  | succ k ih =>
    intro listed a w inv hfl hfree hr hy hS H
    have hun := (mem_ready.1 hr).1
    refine ⟨fun h => (by rw [h] at hr; cases hr), fun j hj => ?_⟩
    have hjn : j < n := Nat.lt_of_not_le fun h => tail_waitsF hs hc hn inv hfl j h hj _ i rfl hin hun
    refine ⟨hjn, ?_⟩
    by_cases hji : j = i
    · subst hji; exact hy.wpOp hi hS ⟨hS, H⟩
    obtain ⟨hjun, oj, hoj, hall⟩ := mem_ready.1 hj
    have hnot : ∀ e ∈ oj.after, Region.binds md e = true → e.on ≠ i := fun e he hb heq => by
      have h1 := hall e he hb
      rw [heq, getD_both hun] at h1
      cases h1
    have h2 := wpOp_putIf hoj (hfree j oj hoj hji hjun hnot) (fun cs b => hsel i oi cs b hi) (fun cs b => hsel j oj cs b hoj) hQ hy (H.2 j (ready_mono hj hji)).2
    refine wpOp_mono (fun a' w' h3 => ⟨h3.2.1, ih (listed.setIfInBounds j true) a' w' (inv.set hj hjn) (getD_set_true hfl) (fun k ok hk hki hu hno => hfree k ok hk hki ?_ hno) (ready_mono hr (Ne.symm hji)) h3.1 h3.2.1 ?_⟩) h2
    · by_cases hjk : j = k
      · subst hjk; exact hjun
      · rwa [getD_set_ne true hjk] at hu
    · rw [Array.setIfInBounds_comm _ _ hji]
      exact h3.2.2
def lexS (md : Region.Mode) (ops : Array Oper) (g n b : Nat) : List Nat → Array Bool → Bool
  | [], listed => decide (Region.ready md ops listed = [b]) && Region.seqB md ops g n (listed.setIfInBounds b true)
  | k :: ks, listed => decide (k < n) && (Region.ready md ops listed).contains k && Region.free md ops listed k && (match ops[k]? with | some o => plainB o.op | none => false) && lexS md ops g n b ks (listed.setIfInBounds k true)
theorem headS_lex {n f g b : Nat} {ob : Oper} {tl : List Oper} (hb : ops[b]? = some ob) (hbn : b < n) (hgd : ob.guard = none) (hQ : ∀ c (a : Act) (d : Option Tmp) (v : Value) (w : World), Q (.panic c) (a.put d v) w → Q (.panic c) a w) (hsel : Region.noSelect ops = true) (hs : sinkF md ops n f = true) (hc : Region.chainB md ops n = true) (hn : n < ops.size) :
    ∀ (ks : List Nat) (l : List Oper) (listed : Array Bool) (a : Act) (w : World), S w → l.map some = ks.map (fun k => ops[k]?) → HeadInv md ops n listed → listed.getD f false = true →
    lexS md ops g n b ks listed = true → wpQuiet P ops S (fun a' => ∀ X, S X → ∃ v X', (execOp a'.eval ob).run P X = .ok (.value v) X' ∧ S X' ∧ wpList P ops Q tl (a'.put ob.dst v) X') l a →
    headS P md ops Q S n (fun listed' a' w' => Region.seqB md ops g n listed' = true ∧ wpList P ops Q tl a' w') (ks.length + 1) listed a w
  | [], l, listed, a, w, hS, hl, inv, hfl, hB, h => by
    have : l = [] := by simpa using hl
    subst this
    simp only [lexS, Bool.and_eq_true, decide_eq_true_eq] at hB
    obtain ⟨v, X', hr, hS', hw⟩ := h w hS
    refine ⟨by rw [hB.1]; simp, fun i hi => ?_⟩
    rw [hB.1] at hi
    obtain rfl : i = b := by simpa using hi
    refine ⟨hbn, ?_⟩
    unfold wpOp
    have hwd : Region.wanted ob (yielded ops a.tmps) = true := by simp [Region.wanted, hgd]
    simp only [hb, hwd, if_true, Oper.wp, hr, Oper.upon]
    exact .inl ⟨hS', hB.2, hw⟩
  | k :: ks, [], listed, a, w, hS, hl, inv, hfl, hB, h => by simp at hl
  | k :: ks, o :: l, listed, a, w, hS, hl, inv, hfl, hB, h => by
    simp only [List.map_cons, List.cons.injEq] at hl
    have h0 : ops[k]? = some o := hl.1.symm
    simp only [lexS, Bool.and_eq_true, decide_eq_true_eq, h0] at hB
    obtain ⟨⟨⟨⟨hkn, hr⟩, hf⟩, hp⟩, hB'⟩ := hB
    have hr' : k ∈ Region.ready md ops listed := by simpa using hr
    have hst : qOp P ops S k (wpQuiet P ops S (fun a' => ∀ X, S X → ∃ v X', (execOp a'.eval ob).run P X = .ok (.value v) X' ∧ S X' ∧ wpList P ops Q tl (a'.put ob.dst v) X') l) a := by unfold qOp; simp only [h0]; exact h
    obtain ⟨v, hy, hK⟩ := yieldsIn_of_qOp h0 hst
    exact headS_first h0 (Region.noSelect_spec hsel) (fun c a w h => hQ c a _ _ w h) hs hc hn hkn (fun listed' a' w' hL => seqB_ready hL.1) (ks.length + 1) listed a w inv hfl (Region.free_spec h0 hf) hr' (yieldsIf_of hp hy) hS
      (headS_lex hb hbn hgd hQ hsel hs hc hn ks l _ _ w hS hl.2 (inv.set hr' hkn) (getD_set_true hfl) hB' hK)
def floatS (md : Region.Mode) (ops : Array Oper) (n f b : Nat) : Bool :=
  Region.noSelect ops && decide (n < ops.size) && decide (f < n) && sinkF md ops n f && Region.chainB md ops n && (Region.ready md ops (Array.replicate ops.size false)).contains f && Region.free md ops (Array.replicate ops.size false) f && lexS md ops (ops.size - n) n b (((List.range n).eraseIdx b).eraseIdx f) ((Array.replicate ops.size false).setIfInBounds f true)
theorem wp_region_held_new {id : Nat} {a : Act} {w : World} {l : List Oper} (n f b : Nat) (hfb : f < b) (hbn : b < n) (vf : Value) (o ob : Oper) (x : Operand) (ho : l[f]? = some o) (hop : o.op = .move x) (hv : a.eval x = vf) (hgf : o.guard = none) (hob : l[b]? = some ob) (hgd : ob.guard = none) (hm : P.follows .mixedOrders = true) (hB : floatS .any l.toArray n f b = true) (hQ : ∀ c (a : Act) (d : Option Tmp) (v : Value) (w : World), Q (.panic c) (a.put d v) w → Q (.panic c) a w) (hS : S { w with drawn := w.drawn + 1 })
    (h : wpQuiet P l.toArray S (fun a' => ∀ X, S X → ∃ v X', (execOp a'.eval ob).run P X = .ok (.value v) X' ∧ S X' ∧ wpList P l.toArray Q (l.drop n) (a'.put ob.dst v) X') (((l.take n).eraseIdx b).eraseIdx f) (a.put o.dst vf)) : (Code.region id l.toArray true).wp P Q a w := by
  subst hv
  simp only [floatS, Bool.and_eq_true, decide_eq_true_eq] at hB
  obtain ⟨⟨⟨⟨⟨⟨⟨hsel, hn⟩, hfn⟩, hs⟩, hc⟩, hr0⟩, hf0⟩, hlex⟩ := hB
  have hn' : n < l.length := by simpa using hn
  have hdl : (l.drop n).length = l.toArray.size - n := by simp
  have inv0 : HeadInv .any l.toArray n (Array.replicate l.toArray.size false) :=
    ⟨by simp, fun j oj _ hl => (by rw [getD_replicate_false] at hl; cases hl), fun t _ ht => getD_in (by simpa using ht) (getD_replicate_false _ _)⟩
  have ho' : l.toArray[f]? = some o := by simpa using ho
  have hob' : l.toArray[b]? = some ob := by simpa using hob
  have hr' : f ∈ Region.ready .any l.toArray (Array.replicate l.toArray.size false) := by simpa using hr0
  have inv1 := inv0.set hr' hfn
  have hfl : ((Array.replicate l.toArray.size false).setIfInBounds f true).getD f false = true := by
    have : f < l.length := by omega
    simp [this]
  have hks : (((List.range n).eraseIdx b).eraseIdx f).length = n - 2 := by
    have e1 : ((List.range n).eraseIdx b).length = n - 1 := by rw [List.length_eraseIdx_of_lt (by simpa using hbn)]; simp
    rw [List.length_eraseIdx_of_lt (by omega), e1]
    omega
  have H := headS_lex (P := P) (S := S) (Q := Q) (md := .any) (f := f) (g := l.toArray.size - n) (tl := l.drop n) hob' hbn hgd hQ hsel hs hc hn (((List.range n).eraseIdx b).eraseIdx f) (((l.take n).eraseIdx b).eraseIdx f) _ (a.put o.dst (a.eval x)) _ hS (by
    have em : ∀ {α γ : Type} (g : α → γ) (m : List α) (k : Nat), (m.eraseIdx k).map g = (m.map g).eraseIdx k := fun g m k => by simp [List.eraseIdx_eq_take_drop_succ]
    rw [em, em, em, em]
    congr 2
    apply List.ext_getElem?
    intro j
    by_cases hj : j < n
    · have hjl : j < l.length := by omega
      simp [hj, hjl]
    · have : ¬ j < min n l.length := by omega
      simp [hj, List.getElem?_take]) inv1 hfl hlex h
  refine wp_region_any hm ?_
  have h2 := any_of_headS (g := l.toArray.size - n) (fun listed a' w' hL => by
    have := wpAny_of_seq (md := .any) (Q' := Q) (l.drop n) n listed a' w' (fun j => by simp [List.getElem?_drop]) (by rw [hdl]; exact hL.1) hL.2
    rwa [hdl] at this) _ _ _ _ H
  rw [hks] at h2
  have e : n - 2 + 1 + (l.toArray.size - n) + 1 = l.toArray.size := by omega
  suffices hh : wpAny P .any l.toArray Q (n - 2 + 1 + (l.toArray.size - n) + 1) (Array.replicate l.toArray.size false) a { w with drawn := w.drawn + 1 } by rw [e] at hh; exact hh
  refine wpAny_take ho' hsel hf0 hr0 (fun c a w h => hQ c a _ _ w h) ?_ h2
  refine .inl ⟨by simp [Region.wanted, hgf], fun w => ?_⟩
  simp [execOp, hop]
end
theorem wp_region_ext_new {P : Program} {Q : Exit → Act → World → Prop} {id : Nat} {a : Act} {w : World} {l : List Oper} (n f b : Nat) (hfb : f < b) (hbn : b < n) (vf : Value) (o ob : Oper) (x : Operand) (ho : l[f]? = some o) (hop : o.op = .move x) (hv : a.eval x = vf) (hgf : o.guard = none) (hob : l[b]? = some ob) (hgd : ob.guard = none) (hm : P.follows .mixedOrders = true) (hB : floatS .any l.toArray n f b = true) (hQ : ∀ c (a : Act) (d : Option Tmp) (v : Value) (w : World), Q (.panic c) (a.put d v) w → Q (.panic c) a w)
    (h : wpQuiet P l.toArray (fun X => ∃ n : Ext w, X = n.X) (fun a' => ∀ X, (∃ n : Ext w, X = n.X) → ∃ v X', (execOp a'.eval ob).run P X = .ok (.value v) X' ∧ (∃ n : Ext w, X' = n.X) ∧ wpList P l.toArray Q (l.drop n) (a'.put ob.dst v) X') (((l.take n).eraseIdx b).eraseIdx f) (a.put o.dst vf)) : (Code.region id l.toArray true).wp P Q a w :=
  wp_region_held_new (S := fun X => ∃ n : Ext w, X = n.X) n f b hfb hbn vf o ob x ho hop hv hgf hob hgd hm hB hQ ⟨⟨_, (Below.refl _ w).drew⟩, rfl⟩ h

end Go.Proofs.Ythjnkcapjhelgaa
