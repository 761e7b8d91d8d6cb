/- What the tree means, pure; the compiled program runs as the tree means. And what goes with it: 3 texts in one. -/
import Derived.Test.YtnolbpekdikamaaGreatDoorJa14
namespace Go.Proofs.YtnolbpekdikamaaGreatDoor
open Go.RowKit Go.BigFrame Go.Proofs.YtnolbpekdikamaaGreatDoor.Ev
set_option linter.unusedVariables false
set_option linter.unusedSimpArgs false

/-- The value of a node whose operands have the values done. -/
def nodeW (L : List Ty) (M : ByteArray → Option Int) (E : Envr) (done : List V2) (n : Nd) : V2 :=
  if n.op < 4 then (true, kLit n)
  else if n.op = 5 then (true, ((lstO E ((M n.v).getD 0)).length : Int))
  else if n.op ≤ 11 then menV (fun t => attrI L t n.x) n.op E ((M n.v).getD 0)
  else if n.op = 12 then negW (done.getD n.l.toNat noV2)
  else if n.op = 13 then notW (done.getD n.l.toNat noV2)
  else applyV n.op (done.getD n.l.toNat noV2) (done.getD n.r.toNat noV2)
/-- The values of the first k nodes. -/
def valK (L : List Ty) (M : ByteArray → Option Int) (E : Envr) (ns : List Nd) : Nat → List V2
  | 0 => []
  | k + 1 => valK L M E ns k ++ [nodeW L M E (valK L M E ns k) (ns.getD k noNd)]
/-- The value of the node i. -/
def valA (L : List Ty) (M : ByteArray → Option Int) (E : Envr) (ns : List Nd) (i : Nat) : V2 := nodeW L M E (valK L M E ns i) (ns.getD i noNd)
theorem valK_len (L : List Ty) (M : ByteArray → Option Int) (E : Envr) (ns : List Nd) : ∀ k, (valK L M E ns k).length = k
  | 0 => rfl
  | k + 1 => by unfold valK; rw [List.length_append, valK_len L M E ns k]; rfl
theorem valK_at (L : List Ty) (M : ByteArray → Option Int) (E : Envr) (ns : List Nd) (j : Nat) : ∀ k, j < k → (valK L M E ns k).getD j noV2 = valA L M E ns j
  | 0, h => absurd h (Nat.not_lt_zero _)
  | k + 1, h => by
    unfold valK
    have hl := valK_len L M E ns k
    by_cases e : j = k
    · subst e
      rw [List.getD_eq_getElem?_getD, List.getElem?_append_right (by omega), hl, Nat.sub_self]
      rfl
    · rw [List.getD_eq_getElem?_getD, List.getElem?_append_left (by omega), ← List.getD_eq_getElem?_getD]
      exact valK_at L M E ns j k (by omega)
/-- What a truth can be. -/
def canon (x : V2) : Prop := x = (true, 0) ∨ x = (true, 1) ∨ x = (false, 0)
theorem canon_v (t : Int) (h : t = 0 ∨ t = 1 ∨ t = 2) : canon (vK t, vN t) := by
  rcases h with rfl | rfl | rfl
  · exact .inl rfl
  · exact .inr (.inr rfl)
  · exact .inr (.inl rfl)
theorem canon_bit (b : Bool) : canon (true, bitOf b) := by cases b; exact .inl rfl; exact .inr (.inl rfl)
theorem min_cases (a b : Int) (ha : a = 0 ∨ a = 1 ∨ a = 2) (hb : b = 0 ∨ b = 1 ∨ b = 2) : minI a b = 0 ∨ minI a b = 1 ∨ minI a b = 2 := by unfold minI; split <;> assumption
theorem max_cases (a b : Int) (ha : a = 0 ∨ a = 1 ∨ a = 2) (hb : b = 0 ∨ b = 1 ∨ b = 2) : maxI a b = 0 ∨ maxI a b = 1 ∨ maxI a b = 2 := by unfold maxI; split <;> assumption
theorem canon_cmp (op : Int) (x y : V2) : canon (cmpV op x y) := by
  unfold cmpV
  repeat' split
  all_goals first | exact canon_bit _ | exact .inr (.inr rfl)
theorem canon_apply (op : Int) (x y : V2) (h : 19 ≤ op) : canon (applyV op x y) := by
  unfold applyV
  rw [if_neg (by omega), if_neg (by omega), if_neg (by omega), if_neg (by omega), if_neg (by omega)]
  split
  · exact canon_v _ (min_cases _ _ (rd_cases _ _) (rd_cases _ _))
  split
  · exact canon_v _ (max_cases _ _ (rd_cases _ _) (rd_cases _ _))
  · exact canon_cmp _ _ _
theorem canon_not (x : V2) : canon (notW x) := by
  unfold notW
  exact canon_v _ (by have := rd_cases x.1 x.2; omega)
/-- A truth's value is one. -/
theorem canon_val (L : List Ty) (M : ByteArray → Option Int) (E : Envr) {ns : List Nd} (ht : treeB ns = true) {i : Nat} (hi : i < ns.length) (hk : kTr (ns.getD i noNd).op = true) : canon (valA L M E ns i) := by
  obtain ⟨bs, hb, _⟩ := tree_begs ht
  have w := ws_of hb i hi
  unfold kTr at hk
  have hk := of_decide_eq_true hk
  unfold valA nodeW kLit
  rcases hk with h | h | (h | h | h) | h
  · rw [if_pos (by omega), if_pos h]; exact .inr (.inl rfl)
  · have hf := (leafN_iff _).1 (w.leaf (by omega))
    rw [if_pos (by omega), if_neg (by omega), show (ns.getD i noNd).n = 0 by omega]; exact .inl rfl
  · rw [if_neg (by omega), if_neg (by omega), if_neg (by omega), if_neg (by omega), if_pos h]; exact canon_not _
  · rw [if_neg (by omega), if_neg (by omega), if_neg (by omega), if_neg (by omega), if_neg (by omega)]; exact canon_apply _ _ _ (by omega)
  · rw [if_neg (by omega), if_neg (by omega), if_neg (by omega), if_neg (by omega), if_neg (by omega)]; exact canon_apply _ _ _ (by omega)
  · rw [if_neg (by omega), if_neg (by omega), if_neg (by omega), if_neg (by omega), if_neg (by omega)]; exact canon_apply _ _ _ (by omega)
/-- Where the left side decides, it is the whole. -/
theorem jmp_whole {c : Int} {x : V2} (hc : canon x) (h : c = 25 ∨ c = 26) (hj : jmpB c x = true) (y : V2) : applyV c x y = x := by
  have r := rd_cases y.1 y.2
  rcases hc with rfl | rfl | rfl <;> rcases h with rfl | rfl
  · show (vK (minI 0 (rd y.1 y.2)), vN (minI 0 (rd y.1 y.2))) = _
    have : minI 0 (rd y.1 y.2) = 0 := by unfold minI; split <;> omega
    rw [this]; rfl
  · exact absurd hj (by decide)
  · exact absurd hj (by decide)
  · show (vK (maxI 2 (rd y.1 y.2)), vN (maxI 2 (rd y.1 y.2))) = _
    have : maxI 2 (rd y.1 y.2) = 2 := by unfold maxI; split <;> omega
    rw [this]; rfl
  · exact absurd hj (by decide)
  · exact absurd hj (by decide)
/-! Steps. -/
section
variable {C : List Ins} {cols : List (List Int)} {E : Envr} {p : Nat} {st : List V2}
theorem step_push (hp : p < C.length) (hc : (C.getD p noIn).code = 1) : runW C cols E p st = runW C cols E (p + 1) (st ++ [(true, (C.getD p noIn).n)]) := by
  refine runW_go hp ?_ (Nat.lt_succ_self p)
  unfold stepP
  dsimp only
  rw [hc, if_neg (by simp [ndsI]), if_pos rfl]
theorem step_count (hp : p < C.length) (hc : (C.getD p noIn).code = 4) : runW C cols E p st = runW C cols E (p + 1) (st ++ [(true, ((lstO E (C.getD p noIn).item).length : Int))]) := by
  refine runW_go hp ?_ (Nat.lt_succ_self p)
  unfold stepP
  dsimp only
  rw [hc, if_neg (by simp [ndsI]), if_neg (by decide), if_pos rfl]
theorem step_men (hp : p < C.length) {c : Int} (hc : (C.getD p noIn).code = c) (h1 : 1 < c) (h4 : c ≠ 4) (h9 : c < 10) (j0 : 0 ≤ (C.getD p noIn).col) (j1 : (C.getD p noIn).col < (cols.length : Int)) :
    runW C cols E p st = runW C cols E (p + 1) (st ++ [menV (plcO (cols.getD (C.getD p noIn).col.toNat [])) (opI c) E (C.getD p noIn).item]) := by
  refine runW_go hp ?_ (Nat.lt_succ_self p)
  unfold stepP ndsI
  dsimp only
  rw [hc, if_pos h9, if_neg (by omega), if_neg (by omega), if_neg h4, if_pos h9, if_pos ⟨j0, j1⟩]
theorem top_snoc (x : V2) : topV (st ++ [x]) = x := by unfold topV; simp
theorem set_snoc (x y : V2) : (st ++ [x]).set ((st ++ [x]).length - 1) y = st ++ [y] := by
  rw [List.length_append, List.length_singleton, Nat.add_sub_cancel, List.set_append_right _ _ (Nat.le_refl _), Nat.sub_self]; rfl
theorem step_neg (hp : p < C.length) (hc : (C.getD p noIn).code = 10) (x : V2) : runW C cols E p (st ++ [x]) = runW C cols E (p + 1) (st ++ [negW x]) := by
  refine runW_go hp ?_ (Nat.lt_succ_self p)
  unfold stepP
  dsimp only
  rw [hc, if_neg (by rw [List.length_append]; simp [ndsI]), if_neg (by decide), if_neg (by decide), if_neg (by decide), if_pos rfl, top_snoc, set_snoc]
theorem step_not (hp : p < C.length) (hc : (C.getD p noIn).code = 11) (x : V2) : runW C cols E p (st ++ [x]) = runW C cols E (p + 1) (st ++ [notW x]) := by
  refine runW_go hp ?_ (Nat.lt_succ_self p)
  unfold stepP
  dsimp only
  rw [hc, if_neg (by rw [List.length_append]; simp [ndsI]), if_neg (by decide), if_neg (by decide), if_neg (by decide), if_neg (by decide), if_pos rfl, top_snoc, set_snoc]
theorem step_jump (hp : p < C.length) {c : Int} (hc : (C.getD p noIn).code = c) (h : c = 25 ∨ c = 26) (t : Nat) (ht : (C.getD p noIn).jt = (t : Int)) (h1 : p < t) (h2 : t ≤ C.length) (x : V2) :
    runW C cols E p (st ++ [x]) = if jmpB c x = true then runW C cols E t (st ++ [x]) else runW C cols E (p + 1) (st ++ [x]) := by
  have hs : stepP C cols E p (st ++ [x]) = if jmpB c x = true then some (t, st ++ [x]) else some (p + 1, st ++ [x]) := by
    unfold stepP
    dsimp only
    rw [hc, ht, if_neg (by rw [List.length_append]; rcases h with rfl | rfl <;> simp [ndsI]), if_neg (by omega), if_neg (by omega), if_neg (by omega), if_neg (by omega), if_neg (by omega), if_pos (by omega), if_pos (by omega), top_snoc, Int.toNat_natCast]
  cases hj : jmpB c x with
  | true => rw [if_pos rfl]; rw [hj, if_pos rfl] at hs; exact runW_go hp hs h1
  | false => rw [if_neg (by decide)]; rw [hj, if_neg (by decide)] at hs; exact runW_go hp hs (Nat.lt_succ_self p)
theorem step_apply (hp : p < C.length) {c : Int} (hc : (C.getD p noIn).code = c) (h0 : 12 ≤ c) (h1 : c < 25) (x y : V2) : runW C cols E p (st ++ [x] ++ [y]) = runW C cols E (p + 1) (st ++ [applyV (c + 2) x y]) := by
  refine runW_go hp ?_ (Nat.lt_succ_self p)
  have e1 : sndV (st ++ [x] ++ [y]) = x := by
    unfold sndV
    rw [List.append_assoc, List.getD_eq_getElem?_getD, List.getElem?_append_right (by simp)]
    simp
  have e2 : ((st ++ [x] ++ [y]).set ((st ++ [x] ++ [y]).length - 2) (applyV (c + 2) x y)).take ((st ++ [x] ++ [y]).length - 1) = st ++ [applyV (c + 2) x y] := by
    rw [List.append_assoc]
    have : (st ++ ([x] ++ [y])).length - 2 = st.length := by simp
    rw [this, List.set_append_right _ _ (Nat.le_refl _), Nat.sub_self]
    have : (st ++ ([x] ++ [y])).length - 1 = st.length + 1 := by simp
    rw [this, List.take_append]
    simp
    exact List.take_of_length_le (by omega)
  unfold stepP
  dsimp only
  rw [hc, if_neg (by unfold ndsI; rw [if_neg (by omega), if_neg (by omega)]; simp; omega), if_neg (by omega), if_neg (by omega), if_neg (by omega), if_neg (by omega), if_neg (by omega), if_neg (by omega), top_snoc, e1, e2]
end
/-! Columns. -/
def ColsOk (L : List Ty) (l : List (ByteArray × List Int)) : Prop := ∀ e ∈ l, e.2 = colRow L e.1
theorem colN_some {l : List ByteArray} {s : ByteArray} {i : Int} : ∀ {k : Nat}, colN l k s = some i → ∃ j : Nat, i = (j : Int) ∧ j < k ∧ s = l.getD j eS
  | 0, h => by cases h
  | k + 1, h => by
    unfold colN at h
    by_cases e : s = l.getD k eS
    · rw [if_pos e] at h
      cases h
      exact ⟨k, rfl, by omega, e⟩
    · rw [if_neg e] at h
      obtain ⟨j, e1, e2, e3⟩ := colN_some h
      exact ⟨j, e1, by omega, e3⟩
/-- The column of a name, when the name has been said. -/
theorem col_at {L : List Ty} {s : Cst} (x : ByteArray) (h : ColsOk L s.cols) : ColsOk L (colS L s x).cols ∧ (∃ more, (colS L s x).cols = s.cols ++ more) ∧ ∃ j : Nat, colV s x = (j : Int) ∧ j < (colS L s x).cols.length ∧ ((colS L s x).cols.map Prod.snd).getD j [] = colRow L x := by
  unfold colV colS
  cases hc : colF s.names x with
  | some i =>
    obtain ⟨j, e1, e2, e3⟩ := colN_some hc
    have hj : j < s.cols.length := by unfold Cst.names at e2; simpa using e2
    refine ⟨h, ⟨[], (List.append_nil _).symm⟩, j, e1, hj, ?_⟩
    dsimp only
    have hm := h s.cols[j] (List.getElem_mem hj)
    rw [List.getD_eq_getElem?_getD, List.getElem?_map, List.getElem?_eq_getElem hj]
    show (s.cols[j]).2 = _
    rw [hm, e3]
    unfold Cst.names
    rw [List.getD_eq_getElem?_getD, List.getElem?_map, List.getElem?_eq_getElem hj]
    rfl
  | none =>
    dsimp only
    refine ⟨fun e he => ?_, ⟨_, rfl⟩, s.cols.length, rfl, by simp, ?_⟩
    · rcases List.mem_append.1 he with h1 | h1
      · exact h e h1
      · rw [List.mem_singleton] at h1; subst h1; rfl
    · rw [List.map_append, List.getD_eq_getElem?_getD, List.getElem?_append_right (by simp)]
      simp
theorem plc_row (L : List Ty) (x : ByteArray) : plcO (colRow L x) = fun t => attrI L t x := by
  funext t
  unfold plcO
  rw [colRow_len]
  by_cases h : t < 0 ∨ (L.length : Int) ≤ t
  · rw [if_pos h]
    unfold attrI
    rw [if_neg (by omega)]
  · rw [if_neg h, colRow_at L x (by omega)]
    congr 1
    omega
theorem nod1_cols {L : List Ty} {s : Cst} {n : Nd} (h : ColsOk L s.cols) : ColsOk L (nod1 L s n).cols ∧ (∃ more, (nod1 L s n).cols = s.cols ++ more) ∧ (nod1 L s n).code = s.code ∧ (nod1 L s n).opn = s.opn := by
  unfold nod1
  split
  · obtain ⟨h1, h2, _⟩ := col_at n.x h
    refine ⟨h1, h2, ?_⟩
    unfold colS
    split <;> exact ⟨rfl, rfl⟩
  · exact ⟨h, ⟨[], (List.append_nil _).symm⟩, rfl, rfl⟩
theorem nodS_cols' (L : List Ty) (M : ByteArray → Option Int) (s : Cst) (n : Nd) : (nodS L M s n).cols = (nod1 L s n).cols := by
  unfold nodS landS nod2
  split <;> rfl
theorem treK_cols (L : List Ty) (M : ByteArray → Option Int) (ns : List Nd) : ∀ k, ColsOk L (treK L M ns k).cols
  | 0 => fun e he => by simp [treK] at he
  | k + 1 => by
    have h := treK_cols L M ns k
    unfold treK
    split
    · rw [nodS_cols']; exact (nod1_cols h).1
    · unfold jumpS; dsimp only; rw [nodS_cols']; exact (nod1_cols h).1

end Go.Proofs.YtnolbpekdikamaaGreatDoor
namespace Go.Proofs.YtnolbpekdikamaaGreatDoor
open Go.RowKit
set_option linter.unusedVariables false
set_option linter.unusedSimpArgs false

/-- Operations that yield a value and call nothing; look-ups too. -/
def plainC : Op → Bool
  | .lookup .. => true
  | o => plainB o
theorem plainC_value {P : Program} {o : Oper} {ρ : Operand → Value} {w w' : World} {r : Next} (h : plainC o.op = true) (hr : (execOp ρ o).run P w = .ok r w') : ∃ v, r = .value v := by
  have key : ∀ s : Sem Value, (do let x ← s; pure (Next.value x) : Sem Next).run P w = .ok r w' → ∃ v, r = .value v := fun s h => by
    rw [Sem.run_bind] at h
    cases hs : s.run P w with
    | ok x u => rw [hs] at h; simp at h; exact ⟨x, h.1.symm⟩
    | halt x u => rw [hs] at h; simp at h
  unfold plainC at h
  split at h
  · rename_i e
    unfold execOp at hr
    rw [e] at hr
    exact key _ hr
  · exact plain_value h hr
section
variable {P : Program} {ops : Array Oper} {md : Region.Mode} {S : World → Prop} {Q : Exit → Act → World → Prop}
theorem yieldsIf_ofC {o : Oper} {v : Value} {a : Act} (h : plainC o.op = true) (hy : YieldsIn P ops S o v a) : YieldsIf P ops S o v a := by
  rcases hy with ⟨hw, hv⟩ | ⟨hw, rfl⟩
  · refine .inl ⟨hw, fun w hS => ?_⟩
    have h1 := hv w hS
    unfold Oper.quietAt at h1
    cases hr : (execOp a.eval o).run P w with
    | ok r w' =>
      obtain ⟨u, rfl⟩ := plainC_value h hr
      rw [hr] at h1
      obtain ⟨rfl, rfl⟩ := h1
      rfl
    | halt x w' => rw [hr] at h1; exact h1.elim
  · exact .inr ⟨hw, rfl⟩
/-- The one call, by its contract. -/
theorem wpOp_call {b : Nat} {ob : Oper} {a : Act} {w : World} {K : Act → World → Prop} (hob : ops[b]? = some ob) (hgd : ob.guard = none) (f : FuncId) (args : Array Value) (hrun : (execOp a.eval ob).run P w = .ok (.enter f args) w) (R : Ending → World → Prop) (hc : Calls P f args w R) (h : ∀ e w', R e w' → ∃ v, e = .returned v ∧ K (a.put ob.dst v) w') : wpOp P ops Q b K a w := by
  unfold wpOp
  have hwd : Region.wanted ob (yielded ops a.tmps) = true := by simp [Region.wanted, hgd]
  simp only [hob, hwd, if_true]
  refine .inl ?_
  unfold Oper.wp
  rw [hrun, Oper.upon_enter]
  refine hc.mono fun e w' hR => ?_
  obtain ⟨v, rfl, hh⟩ := h e w' hR
  exact hh
def lexC (md : Region.Mode) (ops : Array Oper) (g n b : Nat) : List Nat → Array Bool → Bool
  | [], listed => decide (Region.ready md ops listed = [b]) && Region.seqB md ops g n (listed.setIfInBounds b true)
  | k :: ks, listed => decide (k < n) && (Region.ready md ops listed).contains k && Region.free md ops listed k && (match ops[k]? with | some o => plainC o.op | none => false) && lexC md ops g n b ks (listed.setIfInBounds k true)
theorem headS_lexC {n f g b : Nat} {ob : Oper} {tl : List Oper} (hb : ops[b]? = some ob) (hbn : b < n) (hgd : ob.guard = none) (hQ : ∀ c (a : Act) (d : Option Tmp) (v : Value) (w : World), Q (.panic c) (a.put d v) w → Q (.panic c) a w) (hsel : Region.noSelect ops = true) (hs : sinkF md ops n f = true) (hc : Region.chainB md ops n = true) (hn : n < ops.size) :
    ∀ (ks : List Nat) (l : List Oper) (listed : Array Bool) (a : Act) (w : World), S w → l.map some = ks.map (fun k => ops[k]?) → HeadInv md ops n listed → listed.getD f false = true →
    lexC md ops g n b ks listed = true → wpQuiet P ops S (fun a' => ∀ X, S X → wpOp P ops Q b (fun a2 X' => S X' ∧ wpList P ops Q tl a2 X') a' X) l a →
    headS P md ops Q S n (fun listed' a' w' => Region.seqB md ops g n listed' = true ∧ wpList P ops Q tl a' w') (ks.length + 1) listed a w
  | [], l, listed, a, w, hS, hl, inv, hfl, hB, h => by
    have : l = [] := by simpa using hl
    subst this
    simp only [lexC, Bool.and_eq_true, decide_eq_true_eq] at hB
    refine ⟨by rw [hB.1]; simp, fun i hi => ?_⟩
    rw [hB.1] at hi
    obtain rfl : i = b := by simpa using hi
    exact ⟨hbn, wpOp_mono (fun a2 w2 h2 => ⟨h2.1, hB.2, h2.2⟩) (h w hS)⟩
  | k :: ks, [], listed, a, w, hS, hl, inv, hfl, hB, h => by simp at hl
  | k :: ks, o :: l, listed, a, w, hS, hl, inv, hfl, hB, h => by
    simp only [List.map_cons, List.cons.injEq] at hl
    have h0 : ops[k]? = some o := hl.1.symm
    simp only [lexC, Bool.and_eq_true, decide_eq_true_eq, h0] at hB
    obtain ⟨⟨⟨⟨hkn, hr⟩, hf⟩, hp⟩, hB'⟩ := hB
    have hr' : k ∈ Region.ready md ops listed := by simpa using hr
    have hst : qOp P ops S k (wpQuiet P ops S (fun a' => ∀ X, S X → wpOp P ops Q b (fun a2 X' => S X' ∧ wpList P ops Q tl a2 X') a' X) l) a := by unfold qOp; simp only [h0]; exact h
    obtain ⟨v, hy, hK⟩ := yieldsIn_of_qOp h0 hst
    exact headS_first h0 (Region.noSelect_spec hsel) (fun c a w h => hQ c a _ _ w h) hs hc hn hkn (fun listed' a' w' hL => seqB_ready hL.1) (ks.length + 1) listed a w inv hfl (Region.free_spec h0 hf) hr' (yieldsIf_ofC hp hy) hS
      (headS_lexC hb hbn hgd hQ hsel hs hc hn ks l _ _ w hS hl.2 (inv.set hr' hkn) (getD_set_true hfl) hB' hK)
def floatC (md : Region.Mode) (ops : Array Oper) (n f b : Nat) : Bool :=
  Region.noSelect ops && decide (n < ops.size) && decide (f < n) && sinkF md ops n f && Region.chainB md ops n && (Region.ready md ops (Array.replicate ops.size false)).contains f && Region.free md ops (Array.replicate ops.size false) f && lexC md ops (ops.size - n) n b (((List.range n).eraseIdx b).eraseIdx f) ((Array.replicate ops.size false).setIfInBounds f true)
theorem wp_region_held_call {id : Nat} {a : Act} {w : World} {l : List Oper} (n f b : Nat) (hfb : f < b) (hbn : b < n) (vf : Value) (o ob : Oper) (x : Operand) (ho : l[f]? = some o) (hop : o.op = .move x) (hv : a.eval x = vf) (hgf : o.guard = none) (hob : l[b]? = some ob) (hgd : ob.guard = none) (hm : P.follows .mixedOrders = true) (hB : floatC .any l.toArray n f b = true) (hQ : ∀ c (a : Act) (d : Option Tmp) (v : Value) (w : World), Q (.panic c) (a.put d v) w → Q (.panic c) a w) (hS : S { w with drawn := w.drawn + 1 })
    (h : wpQuiet P l.toArray S (fun a' => ∀ X, S X → wpOp P l.toArray Q b (fun a2 X' => S X' ∧ wpList P l.toArray Q (l.drop n) a2 X') a' X) (((l.take n).eraseIdx b).eraseIdx f) (a.put o.dst vf)) : (Code.region id l.toArray true).wp P Q a w := by
  subst hv
  simp only [floatC, Bool.and_eq_true, decide_eq_true_eq] at hB
  obtain ⟨⟨⟨⟨⟨⟨⟨hsel, hn⟩, hfn⟩, hs⟩, hc⟩, hr0⟩, hf0⟩, hlex⟩ := hB
  have hn' : n < l.length := by simpa using hn
  have hdl : (l.drop n).length = l.toArray.size - n := by simp
  have inv0 : HeadInv .any l.toArray n (Array.replicate l.toArray.size false) :=
    ⟨by simp, fun j oj _ hl => (by rw [getD_replicate_false] at hl; cases hl), fun t _ ht => getD_in (by simpa using ht) (getD_replicate_false _ _)⟩
  have ho' : l.toArray[f]? = some o := by simpa using ho
  have hob' : l.toArray[b]? = some ob := by simpa using hob
  have hr' : f ∈ Region.ready .any l.toArray (Array.replicate l.toArray.size false) := by simpa using hr0
  have inv1 := inv0.set hr' hfn
  have hfl : ((Array.replicate l.toArray.size false).setIfInBounds f true).getD f false = true := by
    have : f < l.length := by omega
    simp [this]
  have hks : (((List.range n).eraseIdx b).eraseIdx f).length = n - 2 := by
    have e1 : ((List.range n).eraseIdx b).length = n - 1 := by rw [List.length_eraseIdx_of_lt (by simpa using hbn)]; simp
    rw [List.length_eraseIdx_of_lt (by omega), e1]
    omega
  have H := headS_lexC (P := P) (S := S) (Q := Q) (md := .any) (f := f) (g := l.toArray.size - n) (tl := l.drop n) hob' hbn hgd hQ hsel hs hc hn (((List.range n).eraseIdx b).eraseIdx f) (((l.take n).eraseIdx b).eraseIdx f) _ (a.put o.dst (a.eval x)) _ hS (by
    have em : ∀ {α γ : Type} (g : α → γ) (m : List α) (k : Nat), (m.eraseIdx k).map g = (m.map g).eraseIdx k := fun g m k => by simp [List.eraseIdx_eq_take_drop_succ]
    rw [em, em, em, em]
    congr 2
    apply List.ext_getElem?
    intro j
    by_cases hj : j < n
    · have hjl : j < l.length := by omega
      simp [hj, hjl]
    · have : ¬ j < min n l.length := by omega
      simp [hj, List.getElem?_take]) inv1 hfl hlex h
  refine wp_region_any hm ?_
  have h2 := any_of_headS (g := l.toArray.size - n) (fun listed a' w' hL => by
    have := wpAny_of_seq (md := .any) (Q' := Q) (l.drop n) n listed a' w' (fun j => by simp [List.getElem?_drop]) (by rw [hdl]; exact hL.1) hL.2
    rwa [hdl] at this) _ _ _ _ H
  rw [hks] at h2
  have e : n - 2 + 1 + (l.toArray.size - n) + 1 = l.toArray.size := by omega
  suffices hh : wpAny P .any l.toArray Q (n - 2 + 1 + (l.toArray.size - n) + 1) (Array.replicate l.toArray.size false) a { w with drawn := w.drawn + 1 } by rw [e] at hh; exact hh
  refine wpAny_take ho' hsel hf0 hr0 (fun c a w h => hQ c a _ _ w h) ?_ h2
  refine .inl ⟨by simp [Region.wanted, hgf], fun w => ?_⟩
  simp [execOp, hop]
end
theorem wp_region_ext_call {P : Program} {Q : Exit → Act → World → Prop} {id : Nat} {a : Act} {w : World} {l : List Oper} (n f b : Nat) (hfb : f < b) (hbn : b < n) (vf : Value) (o ob : Oper) (x : Operand) (ho : l[f]? = some o) (hop : o.op = .move x) (hv : a.eval x = vf) (hgf : o.guard = none) (hob : l[b]? = some ob) (hgd : ob.guard = none) (hm : P.follows .mixedOrders = true) (hB : floatC .any l.toArray n f b = true) (hQ : ∀ c (a : Act) (d : Option Tmp) (v : Value) (w : World), Q (.panic c) (a.put d v) w → Q (.panic c) a w)
    (h : wpQuiet P l.toArray (fun X => ∃ n : Ext w, X = n.X) (fun a' => ∀ X, (∃ n : Ext w, X = n.X) → wpOp P l.toArray Q b (fun a2 X' => (∃ n : Ext w, X' = n.X) ∧ wpList P l.toArray Q (l.drop n) a2 X') a' X) (((l.take n).eraseIdx b).eraseIdx f) (a.put o.dst vf)) : (Code.region id l.toArray true).wp P Q a w :=
  wp_region_held_call (S := fun X => ∃ n : Ext w, X = n.X) n f b hfb hbn vf o ob x ho hop hv hgf hob hgd hm hB hQ ⟨⟨_, (Below.refl _ w).drew⟩, rfl⟩ h

end Go.Proofs.YtnolbpekdikamaaGreatDoor
namespace Go.Proofs.YtnolbpekdikamaaGreatDoor
open Go.RowKit
set_option linter.unusedVariables false
set_option linter.unusedSimpArgs false

/-! The program's alone. -/
theorem compare_one (op : Int) (x y : V2) : ∀ w, Calls Tryz.prog 62 #[.int .i64 op, VA x, VA y] w (fun e w' => e = .returned (VA (cmpV op x y)) ∧ Below w.heap.size w w') := by
  obtain ⟨ka, a⟩ := x
  obtain ⟨kb, b⟩ := y
  unfold cmpV
  cases h : (ka && kb)
  · rw [if_pos rfl]
    exact fun w => cmp_no op ka kb a b w h
  · rw [if_neg (by decide)]
    simp only [Bool.and_eq_true] at h
    obtain ⟨rfl, rfl⟩ := h
    by_cases h19 : op = 19
    · subst h19; exact fun w => cmp19 a b w
    rw [if_neg h19]
    by_cases h20 : op = 20
    · subst h20; exact fun w => cmp20 a b w
    rw [if_neg h20]
    by_cases h21 : op = 21
    · subst h21; exact fun w => cmp21 a b w
    rw [if_neg h21]
    by_cases h22 : op = 22
    · subst h22; exact fun w => cmp22 a b w
    rw [if_neg h22]
    by_cases h23 : op = 23
    · subst h23; exact fun w => cmp23 a b w
    rw [if_neg h23]
    by_cases h24 : op = 24
    · subst h24; exact fun w => cmp24 a b w
    rw [if_neg h24]
    exact fun w => cmp_else op a b w (by simpa using h19) (by simpa using h20) (by simpa using h21) (by simpa using h22) (by simpa using h23) (by simpa using h24)

theorem apply_one (op : Int) (x y : V2) (b0 : fitsB x.2 = true) (b1 : fitsB y.2 = true) : ∀ w, Tabs w → Calls Tryz.prog 34 #[.int .i64 op, VA x, VA y] w (fun e w' => e = .returned (VA (applyV op x y)) ∧ Below w.heap.size w w') := by
  obtain ⟨ka, a⟩ := x
  obtain ⟨kb, b⟩ := y
  unfold applyV
  by_cases h14 : op = 14
  · subst h14; exact fun w _ => apply14 (fun w => add_any ka kb a b w b0 b1) w
  rw [if_neg h14]
  by_cases h15 : op = 15
  · subst h15; exact fun w _ => apply15 (fun w => sub_any ka kb a b w b0 b1) w
  rw [if_neg h15]
  by_cases h16 : op = 16
  · subst h16; exact fun w _ => apply16 (fun w => mul_any ka kb a b w b0 b1) w
  rw [if_neg h16]
  by_cases h17 : op = 17
  · subst h17; exact fun w _ => apply17 (fun w => div_any ka kb a b w b0) w
  rw [if_neg h17]
  by_cases h18 : op = 18
  · subst h18; exact fun w _ => apply18 (fun w => mod_any ka kb a b w b0) w
  rw [if_neg h18]
  by_cases h25 : op = 25
  · subst h25; exact fun w T => apply25 (fun w T => and_any ka kb a b w T) w T
  rw [if_neg h25]
  by_cases h26 : op = 26
  · subst h26; exact fun w T => apply26 (fun w T => or_any ka kb a b w T) w T
  rw [if_neg h26]
  have c := compare_one op (ka, a) (kb, b)
  exact fun w _ => apply_else c (by simpa using h14) (by simpa using h15) (by simpa using h16) (by simpa using h17) (by simpa using h18) (by simpa using h25) (by simpa using h26) w

end Go.Proofs.YtnolbpekdikamaaGreatDoor
