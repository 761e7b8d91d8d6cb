/- A region that draws its order: it reads, makes one new block (which some of the reads may follow), and behind all of that goes a chain that may write; one copy of a slot may come up at whatever place. And what goes with it: 5 texts in one. -/
import Derived.Test.YtnolbpekdikamaaGreatDoorJa11
import Derived.OrdersHeld
import Derived.BigQuiet
import Derived.Deep.MidRow
namespace Go.Proofs.YtnolbpekdikamaaGreatDoor
open Go.RowKit
set_option linter.unusedVariables false
set_option linter.unusedSimpArgs false

/-- Operations that yield a value and call nothing. -/
def plainB : Op → Bool
  | .move _ | .nilCheck _ | .fieldAddr .. | .load .. | .build .. | .indexAddr .. => true
  | .call { callee := .builtin .len, .. } => true
  | _ => false
theorem run_bind_ok {P : Program} {α γ : Type} {m : Sem α} {f : α → Sem γ} {w w' : World} {r : γ} (h : (m >>= f).run P w = .ok r w') : ∃ x u, m.run P w = .ok x u ∧ (f x).run P u = .ok r w' := by
  rw [Sem.run_bind] at h
  cases hs : m.run P w with
  | ok x u => rw [hs] at h; exact ⟨x, u, rfl, h⟩
  | halt x u => rw [hs] at h; cases h
theorem plain_value {P : Program} {o : Oper} {ρ : Operand → Value} {w w' : World} {r : Next} (h : plainB o.op = true) (hr : (execOp ρ o).run P w = .ok r w') : ∃ v, r = .value v := by
  have key : ∀ s : Sem Value, (do let x ← s; pure (Next.value x) : Sem Next).run P w = .ok r w' → ∃ v, r = .value v := fun s h => by
    rw [Sem.run_bind] at h
    cases hs : s.run P w with
    | ok x u => rw [hs] at h; simp at h; exact ⟨x, h.1.symm⟩
    | halt x u => rw [hs] at h; simp at h
  unfold plainB at h
  unfold execOp at hr
  split at h <;> simp_all
  all_goals first | exact ⟨_, hr.1.symm⟩ | exact key _ hr | (simp [resolve, invoke, builtin] at hr; exact key _ hr) | skip
  repeat' split at hr
  all_goals first
    | (simp at hr; exact ⟨_, hr.1.symm⟩)
    | (simp [runtimePanic, Sem.run, Result.andThen] at hr; done)
    | (obtain ⟨x1, u1, _, h1⟩ := run_bind_ok hr
       obtain ⟨x2, u2, _, h2⟩ := run_bind_ok h1
       split at h2
       · simp at h2; exact ⟨_, h2.1.symm⟩
       · rw [map_eq_pure_bind] at h2
         obtain ⟨x3, u3, h3, _⟩ := run_bind_ok h2
         cases h3)
section
variable {P : Program} {ops : Array Oper} {md : Region.Mode} {S : World → Prop} {Q : Exit → Act → World → Prop}
theorem yieldsIf_of {o : Oper} {v : Value} {a : Act} (h : plainB o.op = true) (hy : YieldsIn P ops S o v a) : YieldsIf P ops S o v a := by
  rcases hy with ⟨hw, hv⟩ | ⟨hw, rfl⟩
  · refine .inl ⟨hw, fun w hS => ?_⟩
    have h1 := hv w hS
    unfold Oper.quietAt at h1
    cases hr : (execOp a.eval o).run P w with
    | ok r w' =>
      obtain ⟨u, rfl⟩ := plain_value h hr
      rw [hr] at h1
      obtain ⟨rfl, rfl⟩ := h1
      rfl
    | halt x w' => rw [hr] at h1; exact h1.elim
  · exact .inr ⟨hw, rfl⟩
/-- Whatever is picked of the first n operations, f of them; then L. -/
def headS (P : Program) (md : Region.Mode) (ops : Array Oper) (Q : Exit → Act → World → Prop) (S : World → Prop) (n : Nat) (L : Array Bool → Act → World → Prop) : Nat → Array Bool → Act → World → Prop
  | 0, listed, a, w => L listed a w
  | f + 1, listed, a, w => Region.ready md ops listed ≠ [] ∧ ∀ i ∈ Region.ready md ops listed, i < n ∧ wpOp P ops Q i (fun a' w' => S w' ∧ headS P md ops Q S n L f (listed.setIfInBounds i true) a' w') a w
theorem any_of_headS {n g : Nat} {L : Array Bool → Act → World → Prop} (hL : ∀ listed a w, L listed a w → wpAny P md ops Q g listed a w) :
    ∀ (f : Nat) (listed : Array Bool) (a : Act) (w : World), headS P md ops Q S n L f listed a w → wpAny P md ops Q (f + g) listed a w
  | 0, listed, a, w, h => by rw [Nat.zero_add]; exact hL _ _ _ h
  | f + 1, listed, a, w, h => by
    rw [show f + 1 + g = (f + g) + 1 by omega]
    exact ⟨fun h0 => absurd h0 h.1, fun i hi => wpOp_mono (fun a' w' h' => any_of_headS hL f _ a' w' h'.2) (h.2 i hi).2⟩
theorem headS_first {n f i : Nat} {oi : Oper} {v : Value} {L : Array Bool → Act → World → Prop} (hi : ops[i]? = some oi) (hsel : ∀ (j : Nat) (o : Oper) cs b, ops[j]? = some o → o.op ≠ .select cs b)
    (hQ : ∀ c a w, Q (.panic c) (a.put oi.dst v) w → Q (.panic c) a w)
    (hs : sinkF md ops n f = true) (hc : Region.chainB md ops n = true) (hn : n < ops.size) (hin : i < n)
    (hdone : ∀ listed a w, L listed a w → ∀ j ∈ Region.ready md ops listed, n ≤ j) (k : Nat) :
    ∀ (listed : Array Bool) (a : Act) (w : World), HeadInv md ops n listed → listed.getD f false = true →
      (∀ j oj, ops[j]? = some oj → j ≠ i → listed.getD j true = false → (∀ e ∈ oj.after, Region.binds md e = true → e.on ≠ i) → oi.apart ops oj = true) →
      i ∈ Region.ready md ops listed → YieldsIf P ops S oi v a → S w →
      headS P md ops Q S n L k (listed.setIfInBounds i true) (a.put oi.dst v) w → headS P md ops Q S n L (k + 1) listed a w := by
  induction k with
  | zero =>
    intro listed a w inv hfl _ hr hy hS H
    refine ⟨fun h => (by rw [h] at hr; cases hr), fun j hj => ?_⟩
    have hjn : j < n := Nat.lt_of_not_le fun h => tail_waitsF hs hc hn inv hfl j h hj _ i rfl hin (mem_ready.1 hr).1
    refine ⟨hjn, ?_⟩
    by_cases hji : j = i
    · subst hji; exact hy.wpOp hi hS ⟨hS, H⟩
    · have := hdone _ _ _ H j (ready_mono hj hji); omega
  | succ k ih =>
    intro listed a w inv hfl hfree hr hy hS H
    have hun := (mem_ready.1 hr).1
    refine ⟨fun h => (by rw [h] at hr; cases hr), fun j hj => ?_⟩
    have hjn : j < n := Nat.lt_of_not_le fun h => tail_waitsF hs hc hn inv hfl j h hj _ i rfl hin hun
    refine ⟨hjn, ?_⟩
    by_cases hji : j = i
    · subst hji; exact hy.wpOp hi hS ⟨hS, H⟩
    obtain ⟨hjun, oj, hoj, hall⟩ := mem_ready.1 hj
    have hnot : ∀ e ∈ oj.after, Region.binds md e = true → e.on ≠ i := fun e he hb heq => by
      have h1 := hall e he hb
      rw [heq, getD_both hun] at h1
      cases h1
    have h2 := wpOp_putIf hoj (hfree j oj hoj hji hjun hnot) (fun cs b => hsel i oi cs b hi) (fun cs b => hsel j oj cs b hoj) hQ hy (H.2 j (ready_mono hj hji)).2
    refine wpOp_mono (fun a' w' h3 => ⟨h3.2.1, ih (listed.setIfInBounds j true) a' w' (inv.set hj hjn) (getD_set_true hfl) (fun k ok hk hki hu hno => hfree k ok hk hki ?_ hno) (ready_mono hr (Ne.symm hji)) h3.1 h3.2.1 ?_⟩) h2
    · by_cases hjk : j = k
      · subst hjk; exact hjun
      · rwa [getD_set_ne true hjk] at hu
    · rw [Array.setIfInBounds_comm _ _ hji]
      exact h3.2.2
def lexS (md : Region.Mode) (ops : Array Oper) (g n b : Nat) : List Nat → Array Bool → Bool
  | [], listed => decide (Region.ready md ops listed = [b]) && Region.seqB md ops g n (listed.setIfInBounds b true)
  | k :: ks, listed => decide (k < n) && (Region.ready md ops listed).contains k && Region.free md ops listed k && (match ops[k]? with | some o => plainB o.op | none => false) && lexS md ops g n b ks (listed.setIfInBounds k true)
theorem headS_lex {n f g b : Nat} {ob : Oper} {tl : List Oper} (hb : ops[b]? = some ob) (hbn : b < n) (hgd : ob.guard = none) (hQ : ∀ c (a : Act) (d : Option Tmp) (v : Value) (w : World), Q (.panic c) (a.put d v) w → Q (.panic c) a w) (hsel : Region.noSelect ops = true) (hs : sinkF md ops n f = true) (hc : Region.chainB md ops n = true) (hn : n < ops.size) :
    ∀ (ks : List Nat) (l : List Oper) (listed : Array Bool) (a : Act) (w : World), S w → l.map some = ks.map (fun k => ops[k]?) → HeadInv md ops n listed → listed.getD f false = true →
    lexS md ops g n b ks listed = true → wpQuiet P ops S (fun a' => ∀ X, S X → ∃ v X', (execOp a'.eval ob).run P X = .ok (.value v) X' ∧ S X' ∧ wpList P ops Q tl (a'.put ob.dst v) X') l a →
    headS P md ops Q S n (fun listed' a' w' => Region.seqB md ops g n listed' = true ∧ wpList P ops Q tl a' w') (ks.length + 1) listed a w
  | [], l, listed, a, w, hS, hl, inv, hfl, hB, h => by
    have : l = [] := by simpa using hl
    subst this
    simp only [lexS, Bool.and_eq_true, decide_eq_true_eq] at hB
    obtain ⟨v, X', hr, hS', hw⟩ := h w hS
    refine ⟨by rw [hB.1]; simp, fun i hi => ?_⟩
    rw [hB.1] at hi
    obtain rfl : i = b := by simpa using hi
    refine ⟨hbn, ?_⟩
    unfold wpOp
    have hwd : Region.wanted ob (yielded ops a.tmps) = true := by simp [Region.wanted, hgd]
    simp only [hb, hwd, if_true, Oper.wp, hr, Oper.upon]
    exact .inl ⟨hS', hB.2, hw⟩
  | k :: ks, [], listed, a, w, hS, hl, inv, hfl, hB, h => by simp at hl
  | k :: ks, o :: l, listed, a, w, hS, hl, inv, hfl, hB, h => by
    simp only [List.map_cons, List.cons.injEq] at hl
    have h0 : ops[k]? = some o := hl.1.symm
    simp only [lexS, Bool.and_eq_true, decide_eq_true_eq, h0] at hB
    obtain ⟨⟨⟨⟨hkn, hr⟩, hf⟩, hp⟩, hB'⟩ := hB
    have hr' : k ∈ Region.ready md ops listed := by simpa using hr
    have hst : qOp P ops S k (wpQuiet P ops S (fun a' => ∀ X, S X → ∃ v X', (execOp a'.eval ob).run P X = .ok (.value v) X' ∧ S X' ∧ wpList P ops Q tl (a'.put ob.dst v) X') l) a := by unfold qOp; simp only [h0]; exact h
    obtain ⟨v, hy, hK⟩ := yieldsIn_of_qOp h0 hst
    exact headS_first h0 (Region.noSelect_spec hsel) (fun c a w h => hQ c a _ _ w h) hs hc hn hkn (fun listed' a' w' hL => seqB_ready hL.1) (ks.length + 1) listed a w inv hfl (Region.free_spec h0 hf) hr' (yieldsIf_of hp hy) hS
      (headS_lex hb hbn hgd hQ hsel hs hc hn ks l _ _ w hS hl.2 (inv.set hr' hkn) (getD_set_true hfl) hB' hK)
def floatS (md : Region.Mode) (ops : Array Oper) (n f b : Nat) : Bool :=
  Region.noSelect ops && decide (n < ops.size) && decide (f < n) && sinkF md ops n f && Region.chainB md ops n && (Region.ready md ops (Array.replicate ops.size false)).contains f && Region.free md ops (Array.replicate ops.size false) f && lexS md ops (ops.size - n) n b (((List.range n).eraseIdx b).eraseIdx f) ((Array.replicate ops.size false).setIfInBounds f true)
theorem wp_region_held_new {id : Nat} {a : Act} {w : World} {l : List Oper} (n f b : Nat) (hfb : f < b) (hbn : b < n) (vf : Value) (o ob : Oper) (x : Operand) (ho : l[f]? = some o) (hop : o.op = .move x) (hv : a.eval x = vf) (hgf : o.guard = none) (hob : l[b]? = some ob) (hgd : ob.guard = none) (hm : P.follows .mixedOrders = true) (hB : floatS .any l.toArray n f b = true) (hQ : ∀ c (a : Act) (d : Option Tmp) (v : Value) (w : World), Q (.panic c) (a.put d v) w → Q (.panic c) a w) (hS : S { w with drawn := w.drawn + 1 })
    (h : wpQuiet P l.toArray S (fun a' => ∀ X, S X → ∃ v X', (execOp a'.eval ob).run P X = .ok (.value v) X' ∧ S X' ∧ wpList P l.toArray Q (l.drop n) (a'.put ob.dst v) X') (((l.take n).eraseIdx b).eraseIdx f) (a.put o.dst vf)) : (Code.region id l.toArray true).wp P Q a w := by
  subst hv
  simp only [floatS, Bool.and_eq_true, decide_eq_true_eq] at hB
  obtain ⟨⟨⟨⟨⟨⟨⟨hsel, hn⟩, hfn⟩, hs⟩, hc⟩, hr0⟩, hf0⟩, hlex⟩ := hB
  have hn' : n < l.length := by simpa using hn
  have hdl : (l.drop n).length = l.toArray.size - n := by simp
  have inv0 : HeadInv .any l.toArray n (Array.replicate l.toArray.size false) :=
    ⟨by simp, fun j oj _ hl => (by rw [getD_replicate_false] at hl; cases hl), fun t _ ht => getD_in (by simpa using ht) (getD_replicate_false _ _)⟩
  have ho' : l.toArray[f]? = some o := by simpa using ho
  have hob' : l.toArray[b]? = some ob := by simpa using hob
  have hr' : f ∈ Region.ready .any l.toArray (Array.replicate l.toArray.size false) := by simpa using hr0
  have inv1 := inv0.set hr' hfn
  have hfl : ((Array.replicate l.toArray.size false).setIfInBounds f true).getD f false = true := by
    have : f < l.length := by omega
    simp [this]
  have hks : (((List.range n).eraseIdx b).eraseIdx f).length = n - 2 := by
    have e1 : ((List.range n).eraseIdx b).length = n - 1 := by rw [List.length_eraseIdx_of_lt (by simpa using hbn)]; simp
    rw [List.length_eraseIdx_of_lt (by omega), e1]
    omega
  have H := headS_lex (P := P) (S := S) (Q := Q) (md := .any) (f := f) (g := l.toArray.size - n) (tl := l.drop n) hob' hbn hgd hQ hsel hs hc hn (((List.range n).eraseIdx b).eraseIdx f) (((l.take n).eraseIdx b).eraseIdx f) _ (a.put o.dst (a.eval x)) _ hS (by
    have em : ∀ {α γ : Type} (g : α → γ) (m : List α) (k : Nat), (m.eraseIdx k).map g = (m.map g).eraseIdx k := fun g m k => by simp [List.eraseIdx_eq_take_drop_succ]
    rw [em, em, em, em]
    congr 2
    apply List.ext_getElem?
    intro j
    by_cases hj : j < n
    · have hjl : j < l.length := by omega
      simp [hj, hjl]
    · have : ¬ j < min n l.length := by omega
      simp [hj, List.getElem?_take]) inv1 hfl hlex h
  refine wp_region_any hm ?_
  have h2 := any_of_headS (g := l.toArray.size - n) (fun listed a' w' hL => by
    have := wpAny_of_seq (md := .any) (Q' := Q) (l.drop n) n listed a' w' (fun j => by simp [List.getElem?_drop]) (by rw [hdl]; exact hL.1) hL.2
    rwa [hdl] at this) _ _ _ _ H
  rw [hks] at h2
  have e : n - 2 + 1 + (l.toArray.size - n) + 1 = l.toArray.size := by omega
  suffices hh : wpAny P .any l.toArray Q (n - 2 + 1 + (l.toArray.size - n) + 1) (Array.replicate l.toArray.size false) a { w with drawn := w.drawn + 1 } by rw [e] at hh; exact hh
  refine wpAny_take ho' hsel hf0 hr0 (fun c a w h => hQ c a _ _ w h) ?_ h2
  refine .inl ⟨by simp [Region.wanted, hgf], fun w => ?_⟩
  simp [execOp, hop]
end
theorem wp_region_ext_new {P : Program} {Q : Exit → Act → World → Prop} {id : Nat} {a : Act} {w : World} {l : List Oper} (n f b : Nat) (hfb : f < b) (hbn : b < n) (vf : Value) (o ob : Oper) (x : Operand) (ho : l[f]? = some o) (hop : o.op = .move x) (hv : a.eval x = vf) (hgf : o.guard = none) (hob : l[b]? = some ob) (hgd : ob.guard = none) (hm : P.follows .mixedOrders = true) (hB : floatS .any l.toArray n f b = true) (hQ : ∀ c (a : Act) (d : Option Tmp) (v : Value) (w : World), Q (.panic c) (a.put d v) w → Q (.panic c) a w)
    (h : wpQuiet P l.toArray (fun X => ∃ n : Ext w, X = n.X) (fun a' => ∀ X, (∃ n : Ext w, X = n.X) → ∃ v X', (execOp a'.eval ob).run P X = .ok (.value v) X' ∧ (∃ n : Ext w, X' = n.X) ∧ wpList P l.toArray Q (l.drop n) (a'.put ob.dst v) X') (((l.take n).eraseIdx b).eraseIdx f) (a.put o.dst vf)) : (Code.region id l.toArray true).wp P Q a w :=
  wp_region_held_new (S := fun X => ∃ n : Ext w, X = n.X) n f b hfb hbn vf o ob x ho hop hv hgf hob hgd hm hB hQ ⟨⟨_, (Below.refl _ w).drew⟩, rfl⟩ h

end Go.Proofs.YtnolbpekdikamaaGreatDoor
namespace Go.Proofs.YtnolbpekdikamaaGreatDoor
open Go.RowKit Go.BigFrame
set_option linter.unusedVariables false
set_option linter.unusedSimpArgs false

/-- Of what was there only blocks of S have turned. -/
structure FrC (S : Nat → Prop) (w u : World) : Prop where
  os : u.os = w.os
  tape : u.tape = w.tape
  output : u.output = w.output
  size : w.heap.size ≤ u.heap.size
  blk : ∀ k, k < w.heap.size → ¬ S k → u.heap[k]? = w.heap[k]?
section
variable {S S' : Nat → Prop} {w u x : World}
theorem FrC.of (h : Below w.heap.size w u) : FrC S w u := ⟨h.os, h.tape, h.output, h.size, fun k hk _ => h.block k hk⟩
theorem FrC.trans (h : FrC S w u) (k : FrC S' u x) (hs : ∀ j, S' j → S j ∨ w.heap.size ≤ j) : FrC S w x :=
  ⟨k.os.trans h.os, k.tape.trans h.tape, k.output.trans h.output, Nat.le_trans h.size k.size, fun j h1 h2 => (k.blk j (Nat.lt_of_lt_of_le h1 h.size) (fun e => by
    rcases hs j e with e' | e'
    · exact h2 e'
    · omega)).trans (h.blk j h1 h2)⟩
theorem FrC.first (k : Below w.heap.size w u) (h : FrC S u x) : FrC S w x := (FrC.of (S := S) k).trans h fun j e => .inl e
theorem FrC.below (h : FrC S w u) (k : Below u.heap.size u x) : FrC S w x := h.trans (S' := S) (FrC.of k) fun j e => .inl e
theorem FrC.toBelow {N : Nat} {w0 : World} (F : FrC S w u) (B : Below N w0 w) (hN : N ≤ w0.heap.size) (hS : ∀ j, S j → N ≤ j) : Below N w0 u :=
  ⟨F.os.trans B.os, F.tape.trans B.tape, F.output.trans B.output, Nat.le_trans B.size F.size, fun k hk => (F.blk k (Nat.lt_of_lt_of_le hk (Nat.le_trans hN B.size)) (fun e => by have := hS k e; omega)).trans (B.block k hk)⟩
end
/-- What a compiler has made so far. -/
structure Cst where
  code : List Ins
  cols : List (ByteArray × List Int)
  opn : List Nat
/-- The number of a name's column among the first k. -/
def colN (l : List ByteArray) : Nat → ByteArray → Option Int
  | 0, _ => none
  | k + 1, s => if s = l.getD k eS then some (k : Int) else colN l k s
def colF (l : List ByteArray) : ByteArray → Option Int := colN l l.length
theorem colN_app (l m : List ByteArray) : ∀ k, k ≤ l.length → ∀ s, colN (l ++ m) k s = colN l k s
  | 0, _, _ => rfl
  | k + 1, h, s => by
    unfold colN
    rw [colN_app l m k (by omega) s, List.getD_eq_getElem?_getD, List.getElem?_append_left (by omega), ← List.getD_eq_getElem?_getD]
theorem colF_snoc (l : List ByteArray) (x s : ByteArray) : colF (l ++ [x]) s = if s = x then some (l.length : Int) else colF l s := by
  unfold colF
  rw [List.length_append, List.length_singleton]
  show (if s = (l ++ [x]).getD l.length eS then some (l.length : Int) else colN (l ++ [x]) l.length s) = _
  rw [colN_app l [x] l.length (Nat.le_refl _), List.getD_eq_getElem?_getD, List.getElem?_append_right (Nat.le_refl _), Nat.sub_self]
  rfl
def opnV (l : List Nat) : List Int := l.map fun n : Nat => (n : Int)
/-- A map of just n entries that the call has made. -/
structure MpX (w : World) (b n : Nat) (M : ByteArray → Option Int) : Prop where
  ex : ∃ D : DataW Unit, w.ownsMap Tryz.prog 9 (plainElem Tryz.prog 3) b n D ∧ (∀ s : ByteArray, s.size ≤ 140737488351232 → Maps.has D (.string s.data.toList) = (M s).isSome ∧ D.atKey (.string s.data.toList) (.lit (.int .i64 0)) = .lit (.int .i64 ((M s).getD 0))) ∧ Maps.size D = n
theorem MpX.at {w : World} {b n : Nat} {M : ByteArray → Option Int} (h : MpX w b n M) : MpAt w b n M := by
  obtain ⟨D, h1, h2, _⟩ := h.ex
  exact ⟨D, h1, h2⟩
theorem MpX.lt {w : World} {b n : Nat} {M : ByteArray → Option Int} (h : MpX w b n M) : b < w.heap.size := h.at.lt
theorem MpX.of_block {w u : World} {b n : Nat} {M : ByteArray → Option Int} (h : MpX w b n M) (e : u.heap[b]? = w.heap[b]?) : MpX u b n M := by
  obtain ⟨D, ⟨es, clock, hb, r⟩, h2⟩ := h.ex
  exact ⟨D, ⟨es, clock, e.trans hb, r⟩, h2⟩
theorem MpX.keep {w u : World} {b n : Nat} {M : ByteArray → Option Int} (h : MpX w b n M) (G : Below w.heap.size w u) : MpX u b n M := h.of_block (G.block b h.lt)
theorem MpX.new (w : World) : MpX (w.alloc (.map #[] 0)) w.heap.size 0 (fun _ => none) :=
  ⟨.map [], World.ownsMap_made w _ _ _, fun s hs => ⟨rfl, rfl⟩, rfl⟩
theorem MpX.notCells {w : World} {b n : Nat} {M : ByteArray → Option Int} (h : MpX w b n M) {cs : Array Value} {t : TypeId} {f : Nat × Nat} : w.heap[b]? ≠ some (Obj.cells cs t f) := fun e => by
  obtain ⟨D, ⟨es, clock, hm, _⟩, _⟩ := h.ex
  rw [hm] at e
  simp at e
/-- Behind a store under a new key. -/
theorem MpX.put {w' : World} {b n : Nat} {M : ByteArray → Option Int} {D : DataW Unit} {w : World} (h0 : w.ownsMap Tryz.prog 9 (plainElem Tryz.prog 3) b n D) (h2 : ∀ s : ByteArray, s.size ≤ 140737488351232 → Maps.has D (.string s.data.toList) = (M s).isSome ∧ D.atKey (.string s.data.toList) (.lit (.int .i64 0)) = .lit (.int .i64 ((M s).getD 0)))
    (hz : Maps.size D = n) (s : ByteArray) (hs : s.size ≤ 140737488351232) (hno : M s = none) (i : Int) (h : w'.ownsMap Tryz.prog 9 (plainElem Tryz.prog 3) b (n + 1) (D.put (.string s.data.toList) (.lit (.int .i64 i)))) : MpX w' b (n + 1) (fun x => if x = s then some i else M x) := by
  obtain ⟨D', e1, e2⟩ := (MpAt.put h0 h2 s i h).ex
  refine ⟨_, h, ?_, ?_⟩
  · intro x hx
    have hm := h0.isMap
    by_cases e : x = s
    · subst e
      rw [if_pos rfl]
      exact ⟨Maps.has_put_same hm (show WideAt.IsKeyLit (.string _) from trivial) _, Maps.atKey_put_same hm (show WideAt.IsKeyLit (.string _) from trivial) _ _⟩
    · have hne : (Lit.string x.data.toList) ≠ (Lit.string s.data.toList) := fun h => e (by
        cases x; cases s
        simp only [Lit.string.injEq] at h
        congr 1
        exact Array.toList_inj.1 h)
      rw [if_neg e]
      obtain ⟨q1, q2⟩ := h2 x hx
      exact ⟨by rw [Maps.has_put_other hne]; exact q1, by rw [Maps.atKey_put_other hne]; exact q2⟩
  · rw [Maps.size_put (h0.tidy (Maps.string_keyed Tryz.underlying9)), (h2 s hs).1, hno, hz]
    rfl
/-- A compiler in memory. -/
structure CmpI (w : World) (p bm base : Nat) (vt vi vc vl vo : Value) (ws : List Value) (s : Cst) : Prop where
  blk : Bk w p #[vt, vi, .map (some bm), vc, vl, vo] 82
  code : w.ownsRow base 87 5 vc s.code.length (fl insC s.code)
  cols : ONst w base 39 3 1 intC vl (s.cols.map Prod.snd) ws
  opn : w.ownsRow base 3 1 vo s.opn.length (fl intC (opnV s.opn))
  map : MpX w bm s.cols.length (colF (s.cols.map Prod.fst))
  far : ∀ (q j : Nat) (x : Value), vo.ownBlock = some q → ws[j]? = some x → x.ownBlock ≠ some q
  bs : base ≤ w.heap.size
  bp : base ≤ p
  bb : base ≤ bm
def fotC (p bm : Nat) (vc vl vo : Value) (k : Nat) : Prop := k = p ∨ k = bm ∨ vc.ownBlock = some k ∨ vl.ownBlock = some k ∨ vo.ownBlock = some k
/-- A compiler at p that has made s; S: its blocks. -/
def Cmp (w : World) (p base : Nat) (S : Nat → Prop) (vt vi : Value) (s : Cst) : Prop := ∃ bm vc vl vo ws, S = fotC p bm vc vl vo ∧ CmpI w p bm base vt vi vc vl vo ws s
/-- One step of it. -/
def CStp (p base : Nat) (S : Nat → Prop) (vt vi : Value) (w u : World) (s : Cst) : Prop := ∃ S', Cmp u p base S' vt vi s ∧ FrC S w u ∧ ∀ k, S' k → S k ∨ w.heap.size ≤ k
theorem CmpI.keep {w u : World} {p bm base : Nat} {vt vi vc vl vo : Value} {ws : List Value} {s : Cst} (h : CmpI w p bm base vt vi vc vl vo ws s) (G : Below w.heap.size w u) : CmpI u p bm base vt vi vc vl vo ws s := ⟨h.blk.keep G, own_keep h.code G, h.cols.keep G, own_keep h.opn G, h.map.keep G, h.far, Nat.le_trans h.bs G.size, h.bp, h.bb⟩
theorem Cmp.keep {w u : World} {p base : Nat} {S : Nat → Prop} {vt vi : Value} {s : Cst} (h : Cmp w p base S vt vi s) (G : Below w.heap.size w u) : Cmp u p base S vt vi s := by
  obtain ⟨bm, vc, vl, vo, ws, e, h⟩ := h
  exact ⟨bm, vc, vl, vo, ws, e, h.keep G⟩
theorem Cmp.lo {w : World} {p base : Nat} {S : Nat → Prop} {vt vi : Value} {s : Cst} (h : Cmp w p base S vt vi s) : ∀ k, S k → base ≤ k := by
  obtain ⟨bm, vc, vl, vo, ws, rfl, h⟩ := h
  rintro k (rfl | rfl | e | e | e)
  · exact h.bp
  · exact h.bb
  · exact (World.ownsRow.lt h.code k e).1
  · exact (World.ownsRow.lt h.cols.own k e).1
  · exact (World.ownsRow.lt h.opn k e).1
theorem infoIn : (Tryz.prog.info? 87).map (·.size) = some 5 := by kernel_rfl
theorem nfIn : (Tryz.prog.info? 87).map (fun i => (i.zero, i.size, i.bytes)) = some (some (.agg (insC noIn)), 5, 40) := by kernel_rfl
theorem bldIn (x : Ins) (w : World) : (Instr.buildSlice 45 1 #[(0, .agg (insC x))]).run Tryz.prog w = .ok (.slice (some ⟨w.heap.size, 0, none⟩) 1 1) (w.alloc (.cells (insC x) 87)) := by kernel_rfl
theorem in_ones (x : Ins) : ∀ u ∈ (insC x).toList, u.oneCell' = true := fun u hu => by
  simp [insC] at hu
  rcases hu with rfl | rfl | rfl | rfl | rfl <;> rfl
theorem bldS_run {P : Program} {o : Oper} {a : Act} {w w' : World} {v : Value} {T : TypeId} {x : Operand} {vx : Value} (h : (Instr.buildSlice T 1 #[(0, vx)]).run P w = .ok v w') (ho : o.op = .buildSlice T 1 #[(0, x)] := by rfl) (hx : a.eval x = vx := by rfl) : (execOp a.eval o).run P w = .ok (.value v) w' := by
  unfold execOp
  simp only [ho, List.map_toArray, List.map_cons, List.map_nil, hx, Sem.run_bind, h, Result.andThen_ok, Sem.run_pure]
/-- Of what a compiler holds, what is of other types stays. -/
theorem CmpI.code' {w u : World} {p bm base : Nat} {vt vi vc vl vo : Value} {ws : List Value} {s : Cst} (h : CmpI w p bm base vt vi vc vl vo ws s) {g c : Nat} {C' : List Ins} (O : u.ownsRow base 87 5 (.slice (some ⟨g, 0, none⟩) C'.length c) C'.length (fl insC C')) (G : w.grownBy u vc.ownBlock) :
    CmpI (u.setCell ⟨p, 3, none⟩ (.slice (some ⟨g, 0, none⟩) C'.length c)) p bm base vt vi (.slice (some ⟨g, 0, none⟩) C'.length c) vl vo ws { s with code := C' } := by
  have pb := bk_far h.blk h.code (by decide) G
  have hp : ∀ k cur, u.heap[k]? = some (.cells cur 87 (0, 0)) ∨ u.heap[k]? = some (.cells cur 39 (0, 0)) ∨ u.heap[k]? = some (.cells cur 3 (0, 0)) → k ≠ p := fun k cur hk e => by
    subst e
    rw [show u.heap[k]? = _ from pb] at hk
    simp at hk
  have set : ∀ {e : TypeId} {sz : Nat} {v : Value} {n : Nat} {xs : List Value}, (e = 87 ∨ e = 39 ∨ e = 3) → u.ownsRow base e sz v n xs → (u.setCell ⟨p, 3, none⟩ (.slice (some ⟨g, 0, none⟩) C'.length c)).ownsRow base e sz v n xs := fun {e sz v n xs} he o => own_of_block o fun k cur _ hh => Below.heap_setCell _ _ _ k (by
    show k ≠ p
    rcases he with rfl | rfl | rfl
    · exact hp k cur (.inl hh)
    · exact hp k cur (.inr (.inl hh))
    · exact hp k cur (.inr (.inr hh)))
  refine ⟨pb.set 3 _, set (.inl rfl) O, (h.cols.map (u := u) fun e s v n xs he o => ty_far h.code o (by rcases he with rfl | rfl <;> decide) G).map fun e s v n xs he o => set (by rcases he with rfl | rfl; exact .inr (.inl rfl); exact .inr (.inr rfl)) o, set (.inr (.inr rfl)) (ty_far h.code h.opn (by decide) G), ?_, h.far, ?_, h.bp, h.bb⟩
  · refine h.map.of_block ((Below.heap_setCell _ _ _ bm ?_).trans (G.block bm h.map.lt ?_))
    · show bm ≠ p
      intro e
      have hb := h.blk
      obtain ⟨D, ⟨es, clock, hm, _⟩, _⟩ := h.map.ex
      unfold Bk at hb
      rw [← e, hm] at hb
      simp at hb
    · intro e
      obtain ⟨D, ⟨es, clock, hm, _⟩, _⟩ := h.map.ex
      rcases h.code.2 with ⟨e2, _⟩ | ⟨g1, c1, cur1, e2, _, hh1, _⟩
      · rw [e2] at e; cases e
      · rw [e2] at e
        have : bm = g1 := by simpa [Value.ownBlock] using e
        rw [this, hh1] at hm
        simp at hm
  · have : (u.setCell ⟨p, 3, none⟩ (.slice (some ⟨g, 0, none⟩) C'.length c)).heap.size = u.heap.size := by simp
    rw [this]
    exact Nat.le_trans h.bs G.size

end Go.Proofs.YtnolbpekdikamaaGreatDoor
namespace Go.Proofs.YtnolbpekdikamaaGreatDoor
open Go.RowKit Go.BigFrame
set_option linter.unusedVariables false
set_option linter.unusedSimpArgs false

/-- In a region that only reads: a variable of several cells that is loaded whole. -/
theorem wpQuiet_load_mid {P : Program} {ops : Array Oper} {C : World → Prop} {Q : Act → Prop} {op : Oper} {rest : List Oper} {a : Act} (hw : Region.wanted op (yielded ops a.tmps) = true) (ty : TypeId) (x : Operand) (ho : op.op = .load ty x)
    (b o : Nat) (hx : a.eval x = .pointer (some ⟨b, o, none⟩)) (cs : Array Value) (d : TypeDesc) (hg : ∀ w, C w → w.rangeAt b o cs.toList)
    (hu : P.underlying ty = some d) (hd : d.isRow = true) (hi : (P.info? ty).map (·.size) = some cs.size)
    (a' : Act) (ha : a.put op.dst (.agg cs) = a') (h : wpQuiet P ops C Q rest a') : wpQuiet P ops C Q (op :: rest) a := by
  subst ha
  refine wpQuiet_want hw fun K hK => ⟨.agg cs, fun w hC => ?_, hK _ h⟩
  unfold Oper.quietAt execOp
  have := run_loadVar_mid (P := P) w b o ty cs.toList d (hg w hC) hu hd (by rw [hi]; simp)
  simp only [ho, hx, Instr.loadAt, Instr.sureAddr, Sem.run_bind, Sem.run_pure, Result.andThen_ok, this]
  exact ⟨rfl, rfl⟩
theorem Bk.range {w : World} {b : Nat} {cs : Array Value} {t : TypeId} (h : Bk w b cs t) : w.rangeAt b 0 cs.toList := fun j v hv => by
  rw [Nat.zero_add, cell_of_row w b j _ _ _ h]
  simpa using hv
theorem rangeAt_keep {w u : World} {b o : Nat} {cs : List Value} (h : w.rangeAt b o cs) (G : Below w.heap.size w u) : u.rangeAt b o cs := fun j v hv => by
  have := h j v hv
  exact (G.cell (p := ⟨_, _, none⟩) (lt_of_cell this)).trans this

end Go.Proofs.YtnolbpekdikamaaGreatDoor
namespace Go.Proofs.YtnolbpekdikamaaGreatDoor
open Go.RowKit Go.BigFrame
set_option linter.unusedVariables false
set_option linter.unusedSimpArgs false

set_option maxRecDepth 100000 in
set_option maxHeartbeats 2000000 in
theorem write_any (p base : Nat) (S : Nat → Prop) (vt vi : Value) (s : Cst) (x : Ins) (w : World) (C : Cmp w p base S vt vi s) (hl : s.code.length * 40 ≤ 175921860444160) :
    Calls Tryz.prog 73 #[.pointer (some ⟨p, 0, none⟩), .agg (insC x)] w fun e w' => e = .returned (.tuple #[]) ∧ CStp p base S vt vi w w' { s with code := s.code ++ [x] } := by
  obtain ⟨bm, vc, vl, vo, ws, rfl, I⟩ := C
  obtain ⟨ao, cap, rfl, hcap, hmx, _⟩ := own_form I.code
  have B := galloc (Below.refl w.heap.size w) (.cells (insC x) 87)
  have b1 := Bk.new w (insC x) 87
  go_enter Tryz.func73, Tryz.ntmps73
  go_upto_region 1 with fail
  generalize w.alloc _ = V at *
  have r1 := b1.range
  have IV := I.keep B
  obtain ⟨d0, d1, d2, d3, d4, d5⟩ := IV.blk.at6
  have p3 := fun z : Ext V => (z.cell _ _ IV.blk.lt).trans d3
  have hne0 : Nonempty (Ext V) := ⟨⟨_, Below.refl _ _⟩⟩
  refine wp_region_ext_new 8 0 7 (by omega) (by omega) (.pointer (some ⟨p, 0, none⟩)) _ _ _ rfl rfl rfl rfl rfl rfl (by kernel_rfl) (by kernel_rfl) (fun c a d v w h => by cases d <;> exact h) ?_
  simp only [List.take_succ_cons, List.take_zero, List.drop_succ_cons, List.drop_zero, List.eraseIdx_cons_succ, List.eraseIdx_cons_zero, Act.put, List.setIfInBounds_toArray, List.set_cons_succ, List.set_cons_zero]
  repeat (first
    | (refine wpQuiet_load_mid rfl 87 _ rfl w.heap.size 0 rfl (insC x) _ (fun X hX => by obtain ⟨nx, rfl⟩ := hX; exact rangeAt_keep r1 nx.h) Tryz.underlying87 rfl infoIn _ rfl ?_; simp only [Act.put, List.setIfInBounds_toArray, List.set_cons_succ, List.set_cons_zero])
    | go_big_quiet_step (fail))
  refine wpQuiet_nil ?_
  intro X hX
  obtain ⟨nx, rfl⟩ := hX
  refine ⟨.slice (some ⟨nx.X.heap.size, 0, none⟩) 1 1, nx.X.alloc (.cells (insC x) 87), bldS_run (bldIn x nx.X), ⟨⟨_, galloc nx.h _⟩, rfl⟩, ?_⟩
  have G1 := galloc nx.h (.cells (insC x) 87)
  have bn := Bk.new nx.X (insC x) 87
  have hz : nx.X.heap.size ≤ (nx.X.alloc (.cells (insC x) 87)).heap.size := by simp
  generalize nx.X.alloc (.cells (insC x) 87) = Y at *
  generalize nx.X.heap.size = gy at *
  simp only [List.setIfInBounds_toArray, List.set_cons_succ, List.set_cons_zero]
  have G2 := gtrans B G1
  have IY := I.keep G2
  have hnews := World.news_of_block bn
  have hr1 : s.code.length + 1 ≤ 9223372036854775807 := by omega
  have hr2 : ((s.code.length + 1) + (s.code.length + 1) / 4 + 192) * 40 ≤ 281474976710656 := by omega
  have key : ∀ (g c3 : Nat) (w6 : World), w6.ownsRow base 87 5 (.slice (some ⟨g, 0, none⟩) (s.code.length + 1) c3) (s.code.length + 1) (fl insC s.code ++ (insC x).toList) → Y.grownBy w6 (Value.slice ao s.code.length cap).ownBlock → ((Value.slice ao s.code.length cap).ownBlock = some g ∨ g = Y.heap.size) →
      Bk w6 p #[vt, vi, .map (some bm), .slice ao s.code.length cap, vl, vo] 82 ∧ CStp p base (fotC p bm (.slice ao s.code.length cap) vl vo) vt vi w (w6.setCell ⟨p, 3, none⟩ (.slice (some ⟨g, 0, none⟩) (s.code.length + 1) c3)) { s with code := s.code ++ [x] } := by
    intro g c3 w6 O6 G6 hg
    have e1 : fl insC s.code ++ (insC x).toList = fl insC (s.code ++ [x]) := by rw [fl_app]; simp [fl]
    have e2 : (s.code ++ [x]).length = s.code.length + 1 := by simp
    rw [e1, ← e2] at O6
    rw [← e2]
    have p6 := bk_far IY.blk IY.code (by decide) G6
    refine ⟨p6, fotC p bm (.slice (some ⟨g, 0, none⟩) (s.code ++ [x]).length c3) vl vo, ⟨bm, _, vl, vo, ws, rfl, IY.code' O6 G6⟩, ?_, ?_⟩
    · refine ⟨G6.os.trans G2.os, G6.tape.trans G2.tape, G6.output.trans G2.output, ?_, fun k h1 h2 => ?_⟩
      · have : (w6.setCell ⟨p, 3, none⟩ (.slice (some ⟨g, 0, none⟩) (s.code ++ [x]).length c3)).heap.size = w6.heap.size := by simp
        rw [this]
        exact Nat.le_trans G2.size G6.size
      · refine (Below.heap_setCell _ _ _ k (fun e => h2 (.inl e))).trans ((G6.block k (Nat.lt_of_lt_of_le h1 G2.size) (fun e => h2 (.inr (.inr (.inl e.symm))))).trans (G2.block k h1))
    · rintro k (h | h | h | h | h)
      · exact .inl (.inl h)
      · exact .inl (.inr (.inl h))
      · have e' : g = k := by simpa [Value.ownBlock] using h
        subst e'
        rcases hg with h1 | h1
        · exact .inl (.inr (.inr (.inl h1)))
        · right; have := G2.size; omega
      · exact .inl (.inr (.inr (.inr (.inl h))))
      · exact .inl (.inr (.inr (.inr (.inr h))))
  have OY := IY.code
  have hbY := IY.bs
  clear IV I IY d0 d1 d2 d3 d4 d5 p3 hmx hcap
  go_wp2_with (first
    | (refine wpList_append_one rfl (.tmp 9) (.tmp 11) rfl Tryz.underlying45 nfIn rfl (by decide) (.slice ao s.code.length cap) base s.code.length _ rfl OY hbY ⟨gy, 0, none⟩ 1 (insC x).toList rfl rfl hnews (in_ones x) hr1 hr2 ?_; intro g c3 w6 O6 G6 hg; obtain ⟨p6, P8⟩ := key g c3 w6 O6 G6 hg; have y0 := p6.at6; have y3 := p6.free 3))
  refine bodyPost_end (results_none rfl _ _ _) rfl ⟨rfl, P8⟩

end Go.Proofs.YtnolbpekdikamaaGreatDoor
namespace Go.Proofs.YtnolbpekdikamaaGreatDoor
open Go.RowKit Go.BigFrame
set_option linter.unusedVariables false
set_option linter.unusedSimpArgs false

/-- A row of rows, row by row. -/
theorem own_of_block2 {w u : World} {base : Nat} {e : TypeId} {size : Nat} {v : Value} {n : Nat} {xs : List Value} (h : w.ownsRow base e size v n xs) (hk : ∀ g, v.ownBlock = some g → u.heap[g]? = w.heap[g]?) : u.ownsRow base e size v n xs := by
  refine ⟨h.1, ?_⟩
  rcases h.2 with h1 | ⟨g, c, cur, h1, h2, h3, h4⟩
  · exact .inl h1
  · exact .inr ⟨g, c, cur, h1, h2, (hk g (by rw [h1]; rfl)).trans h3, h4⟩
theorem ONst.map2 {β : Type} {w u : World} {b : Nat} {TS T : TypeId} {sz : Nat} {cv : β → Array Value} {v : Value} {l : List (List β)} {ws : List Value} (h : ONst w b TS T sz cv v l ws) (f0 : u.ownsRow b TS 1 v l.length ws) (f : ∀ (j : Nat) (x : Value) (n : Nat) (xs : List Value), ws[j]? = some x → w.ownsRow b T sz x n xs → u.ownsRow b T sz x n xs) : ONst u b TS T sz cv v l ws :=
  ⟨h.len, f0, fun j hj => by
    obtain ⟨a, c, h1, h2⟩ := h.inn j hj
    exact ⟨a, c, h1, f j _ _ _ h1 h2⟩, h.apart⟩
theorem nfInt1 : (Tryz.prog.info? 3).map (fun i => (i.zero, i.size, i.bytes)) = some (some (.int .i64 0), 1, 8) := by kernel_rfl
theorem bldI1 (k : Int) (w : World) : (Instr.buildSlice 39 1 #[(0, .int .i64 k)]).run Tryz.prog w = .ok (.slice (some ⟨w.heap.size, 0, none⟩) 1 1) (w.alloc (.cells (intC k) 3)) := by kernel_rfl
theorem int_ones (k : Int) : ∀ u ∈ (intC k).toList, u.oneCell' = true := fun u hu => by
  simp [intC] at hu
  subst hu
  rfl
theorem MpAt.notCells {w : World} {b n : Nat} {M : ByteArray → Option Int} (h : MpAt w b n M) {cs : Array Value} {t : TypeId} {f : Nat × Nat} : w.heap[b]? ≠ some (Obj.cells cs t f) := fun e => by
  obtain ⟨D, ⟨es, clock, hm, _⟩, _⟩ := h.ex
  rw [hm] at e
  simp at e
/-- The places of the open jumps have turned. -/
theorem CmpI.opn' {w u : World} {p bm base : Nat} {vt vi vc vl vo : Value} {ws : List Value} {s : Cst} (h : CmpI w p bm base vt vi vc vl vo ws s) {g c : Nat} {O' : List Nat} (O : u.ownsRow base 3 1 (.slice (some ⟨g, 0, none⟩) O'.length c) O'.length (fl intC (opnV O'))) (G : w.grownBy u vo.ownBlock) (hg : vo.ownBlock = some g ∨ g = w.heap.size) :
    CmpI (u.setCell ⟨p, 5, none⟩ (.slice (some ⟨g, 0, none⟩) O'.length c)) p bm base vt vi vc vl (.slice (some ⟨g, 0, none⟩) O'.length c) ws { s with opn := O' } := by
  have pb := bk_far h.blk h.opn (by decide) G
  have set : ∀ {e : TypeId} {sz : Nat} {v : Value} {n : Nat} {xs : List Value}, 82 ≠ e → u.ownsRow base e sz v n xs → (u.setCell ⟨p, 5, none⟩ (.slice (some ⟨g, 0, none⟩) O'.length c)).ownsRow base e sz v n xs := fun {e sz v n xs} he o => ty_set o pb he 5 _
  refine ⟨pb.set 5 _, set (by decide) (ty_far h.opn h.code (by decide) G), ?_, set (by decide) O, ?_, ?_, ?_, h.bp, h.bb⟩
  · refine h.cols.map2 (set (by decide) (ty_far h.opn h.cols.own (by decide) G)) fun j x n xs hj o => set (by decide) ?_
    exact own_of_block2 o fun q e => G.block q (World.ownsRow.lt o q e).2 fun e2 => h.far q j x e2.symm hj e
  · refine h.map.of_block ((Below.heap_setCell _ _ _ bm ?_).trans (G.block bm h.map.lt ?_))
    · show bm ≠ p
      intro e
      have hb := h.blk
      unfold Bk at hb
      rw [← e] at hb
      exact h.map.notCells hb
    · intro e
      rcases h.opn.2 with ⟨e2, _⟩ | ⟨g1, c1, cur1, e2, _, hh1, _⟩
      · rw [e2] at e; cases e
      · rw [e2] at e
        have : bm = g1 := by simpa [Value.ownBlock] using e
        subst this
        exact h.map.notCells hh1
  · intro q j x e hj
    have e1 : g = q := by simpa [Value.ownBlock] using e
    subst e1
    rcases hg with e2 | e2
    · exact h.far g j x e2 hj
    · intro e3
      have hjl : j < (s.cols.map Prod.snd).length := by
        have := (List.getElem?_eq_some_iff.1 hj).1
        rw [h.cols.len] at this
        exact this
      obtain ⟨a, c2, h1, h2⟩ := h.cols.inn j hjl
      rw [h1] at hj
      cases hj
      have := (World.ownsRow.lt h2 g e3).2
      omega
  · have : (u.setCell ⟨p, 5, none⟩ (.slice (some ⟨g, 0, none⟩) O'.length c)).heap.size = u.heap.size := by simp
    rw [this]
    exact Nat.le_trans h.bs G.size
set_option maxRecDepth 100000 in
set_option maxHeartbeats 2000000 in
theorem jump_any (p base : Nat) (S : Nat → Prop) (vt vi : Value) (s : Cst) (cd : Int) (w : World) (C : Cmp w p base S vt vi s) (hl : s.code.length * 40 ≤ 175921860444160) (ho : s.opn.length ≤ s.code.length) :
    Calls Tryz.prog 48 #[.pointer (some ⟨p, 0, none⟩), .int .i64 cd] w fun e w' => e = .returned (.tuple #[]) ∧ CStp p base S vt vi w w' { s with code := s.code ++ [⟨cd, 0, 0, 0, 0⟩], opn := s.opn ++ [s.code.length] } := by
  obtain ⟨bm, vc, vl, vo, ws, rfl, I⟩ := C
  obtain ⟨ac, cc, rfl, hcc, hmc, _⟩ := own_form I.code
  obtain ⟨ao, cap, rfl, hcap, hmx, _⟩ := own_form I.opn
  obtain ⟨d0, d1, d2, d3, d4, d5⟩ := I.blk.at6
  have p3 := fun z : Ext w => (z.cell _ _ I.blk.lt).trans d3
  have p5 := fun z : Ext w => (z.cell _ _ I.blk.lt).trans d5
  have hne0 : Nonempty (Ext w) := ⟨⟨_, Below.refl _ _⟩⟩
  go_enter Tryz.func48, Tryz.ntmps48
  go_upto_region 0 with fail
  refine wp_region_ext_new 12 0 11 (by omega) (by omega) (.pointer (some ⟨p, 0, none⟩)) _ _ _ rfl rfl rfl rfl rfl rfl (by kernel_rfl) (by kernel_rfl) (fun c a d v w h => by cases d <;> exact h) ?_
  simp only [List.take_succ_cons, List.take_zero, List.drop_succ_cons, List.drop_zero, List.eraseIdx_cons_succ, List.eraseIdx_cons_zero, Act.put, List.setIfInBounds_toArray, List.set_cons_succ, List.set_cons_zero]
  repeat go_big_quiet_step (fail)
  refine wpQuiet_nil ?_
  intro X hX
  obtain ⟨nx, rfl⟩ := hX
  refine ⟨.slice (some ⟨nx.X.heap.size, 0, none⟩) 1 1, nx.X.alloc (.cells (intC (s.code.length : Int)) 3), bldS_run (bldI1 (s.code.length : Int) nx.X), ⟨⟨_, galloc nx.h _⟩, rfl⟩, ?_⟩
  have G2 := galloc nx.h (.cells (intC (s.code.length : Int)) 3)
  have bn := Bk.new nx.X (intC (s.code.length : Int)) 3
  have hz : nx.X.heap.size ≤ (nx.X.alloc (.cells (intC (s.code.length : Int)) 3)).heap.size := by simp
  generalize nx.X.alloc (.cells (intC (s.code.length : Int)) 3) = Y at *
  generalize nx.X.heap.size = gy at *
  simp only [List.setIfInBounds_toArray, List.set_cons_succ, List.set_cons_zero]
  have IY := I.keep G2
  have hnews := World.news_of_block bn
  have hr1 : s.opn.length + 1 ≤ 9223372036854775807 := by omega
  have hr2 : ((s.opn.length + 1) + (s.opn.length + 1) / 4 + 192) * 8 ≤ 281474976710656 := by omega
  have key : ∀ (g c3 : Nat) (w6 : World), w6.ownsRow base 3 1 (.slice (some ⟨g, 0, none⟩) (s.opn.length + 1) c3) (s.opn.length + 1) (fl intC (opnV s.opn) ++ (intC (s.code.length : Int)).toList) → Y.grownBy w6 (Value.slice ao s.opn.length cap).ownBlock → ((Value.slice ao s.opn.length cap).ownBlock = some g ∨ g = Y.heap.size) →
      Bk w6 p #[vt, vi, .map (some bm), .slice ac s.code.length cc, vl, .slice ao s.opn.length cap] 82 ∧ CStp p base (fotC p bm (.slice ac s.code.length cc) vl (.slice ao s.opn.length cap)) vt vi w (w6.setCell ⟨p, 5, none⟩ (.slice (some ⟨g, 0, none⟩) (s.opn.length + 1) c3)) { s with opn := s.opn ++ [s.code.length] } := by
    intro g c3 w6 O6 G6 hg
    have e1 : fl intC (opnV s.opn) ++ (intC (s.code.length : Int)).toList = fl intC (opnV (s.opn ++ [s.code.length])) := by unfold opnV; rw [List.map_append, fl_app]; simp [fl]
    have e2 : (s.opn ++ [s.code.length]).length = s.opn.length + 1 := by simp
    rw [e1, ← e2] at O6
    rw [← e2]
    have p6 := bk_far IY.blk IY.opn (by decide) G6
    refine ⟨p6, fotC p bm (.slice ac s.code.length cc) vl (.slice (some ⟨g, 0, none⟩) (s.opn ++ [s.code.length]).length c3), ⟨bm, _, vl, _, ws, rfl, IY.opn' O6 G6 hg⟩, ?_, ?_⟩
    · refine ⟨G6.os.trans G2.os, G6.tape.trans G2.tape, G6.output.trans G2.output, ?_, fun k h1 h2 => ?_⟩
      · have : (w6.setCell ⟨p, 5, none⟩ (.slice (some ⟨g, 0, none⟩) (s.opn ++ [s.code.length]).length c3)).heap.size = w6.heap.size := by simp
        rw [this]
        exact Nat.le_trans G2.size G6.size
      · refine (Below.heap_setCell _ _ _ k (fun e => h2 (.inl e))).trans ((G6.block k (Nat.lt_of_lt_of_le h1 G2.size) (fun e => h2 (.inr (.inr (.inr (.inr e.symm)))))).trans (G2.block k h1))
    · rintro k (h | h | h | h | h)
      · exact .inl (.inl h)
      · exact .inl (.inr (.inl h))
      · exact .inl (.inr (.inr (.inl h)))
      · exact .inl (.inr (.inr (.inr (.inl h))))
      · have e' : g = k := by simpa [Value.ownBlock] using h
        subst e'
        rcases hg with h1 | h1
        · exact .inl (.inr (.inr (.inr (.inr h1))))
        · right; have := G2.size; omega
  have OY : Y.ownsRow base 3 1 (.slice ao s.opn.length cap) s.opn.length (fl intC (opnV s.opn)) := IY.opn
  have hbY := IY.bs
  clear I IY d0 d1 d2 d3 d4 d5 p3 p5 hmx hcap
  have hwr : ∀ (S' : Nat → Prop) (w7 : World), Cmp w7 p base S' vt vi { s with opn := s.opn ++ [s.code.length] } → Calls Tryz.prog 73 #[.pointer (some ⟨p, 0, none⟩), .agg #[.int .i64 cd, .int .i64 0, .int .i64 0, .int .i64 0, .int .i64 0]] w7 fun e w' => e = .returned (.tuple #[]) ∧ CStp p base S' vt vi w7 w' { s with code := s.code ++ [⟨cd, 0, 0, 0, 0⟩], opn := s.opn ++ [s.code.length] } := fun S' w7 C7 => write_any p base S' vt vi { s with opn := s.opn ++ [s.code.length] } ⟨cd, 0, 0, 0, 0⟩ w7 C7 hl
  go_wp2_with (first
    | (refine wpList_append_one rfl (.tmp 8) (.tmp 15) rfl Tryz.underlying39 nfInt1 rfl (by decide) (.slice ao s.opn.length cap) base s.opn.length _ rfl OY hbY ⟨gy, 0, none⟩ 1 (intC (s.code.length : Int)).toList rfl rfl hnews (int_ones _) hr1 hr2 ?_; intro g c3 w6 O6 G6 hg; obtain ⟨p6, S8, C8, F8, V8⟩ := key g c3 w6 O6 G6 hg; have y0 := p6.at6; have y5 := p6.free 5; have c9 := hwr S8 _ C8)
    | (go_at_call 73; (with_reducible refine c9.mono ?_); rintro e u9 ⟨rfl, S9, C9, F9, V9⟩))
  refine bodyPost_end (results_none rfl _ _ _) rfl ⟨rfl, S9, C9, F8.trans F9 V8, fun k h => ?_⟩
  rcases V9 k h with h1 | h1
  · exact V8 k h1
  · right; have := F8.size; omega

end Go.Proofs.YtnolbpekdikamaaGreatDoor
