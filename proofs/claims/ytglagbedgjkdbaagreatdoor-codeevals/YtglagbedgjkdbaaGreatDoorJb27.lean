/- Two trees joined by an operator: a tree; runnable just if the kinds fit; what it comes to. And what goes with it: 2 texts in one. -/
import Derived.Test.YtglagbedgjkdbaaGreatDoorJb26
namespace Go.Proofs.YtglagbedgjkdbaaGreatDoor
open Go.RowKit Go.BigFrame Go.Proofs.YtglagbedgjkdbaaGreatDoor.Ev
set_option linter.unusedVariables false
set_option linter.unusedSimpArgs false

def upI (n : Nat) (z : Int) : Int := if 0 ≤ z then z + (n : Int) else z
def upN (n : Nat) (x : Nd) : Nd := ⟨x.op, x.n, x.v, x.x, upI n x.l, upI n x.r⟩
theorem upI_neg {n : Nat} {z : Int} : upI n z = -1 ↔ z = -1 := by unfold upI; split <;> omega
theorem leaf_up (n : Nat) (x : Nd) : leafN (upN n x) = leafN x := by
  unfold leafN upN
  exact decide_eq_decide.2 (by dsimp only; rw [upI_neg, upI_neg])
theorem bare_up (n : Nat) (x : Nd) : bareN (upN n x) = bareN x := rfl
theorem getD_app2 (pre bs : List Int) (n i : Nat) (hp : pre.length = n) (hi : i < bs.length) : (pre ++ bs.map (· + (n : Int))).getD (n + i) 0 = bs.getD i 0 + (n : Int) := by
  rw [List.getD_eq_getElem?_getD, List.getElem?_append_right (by omega), hp, Nat.add_sub_cancel_left, List.getElem?_map, List.getD_eq_getElem?_getD, List.getElem?_eq_getElem hi]
  rfl
theorem nodeO_up {n : Nat} {x : Nd} {bs pre : List Int} (hp : pre.length = n) (hB : Bgs bs) {c : Int} (h : nodeO x bs = some c) : nodeO (upN n x) (pre ++ bs.map (· + (n : Int))) = some (c + (n : Int)) := by
  have hlen : (pre ++ bs.map (· + (n : Int))).length = n + bs.length := by simp [hp]
  unfold nodeO at h ⊢
  rw [leaf_up, hlen]
  by_cases hf : leafN x = true
  · rw [if_pos hf] at h ⊢
    cases h
    congr 1
    omega
  rw [if_neg hf] at h ⊢
  show (if x.op = 12 ∨ x.op = 13 then _ else _) = _
  by_cases h1 : x.op = 12 ∨ x.op = 13
  · rw [if_pos h1] at h ⊢
    split at h
    · rename_i hc
      obtain ⟨c1, c2, c3, c4⟩ := hc
      have hpos : 0 < bs.length := List.length_pos_iff.2 c2
      cases h
      rw [if_pos ⟨c1, (fun e => by have := congrArg List.length e; rw [hlen, List.length_nil] at this; omega), (by show upI n x.l = _; unfold upI; rw [if_pos (by omega)]; omega), (by show upI n x.r = _; rw [upI_neg]; exact c4)⟩, show n + bs.length - 1 = n + (bs.length - 1) by omega, getD_app2 pre bs n _ hp (by omega)]
    · cases h
  rw [if_neg h1] at h ⊢
  show (if 14 ≤ x.op ∧ x.op ≤ 26 then _ else _) = _
  split at h
  · rename_i h2
    rw [if_pos h2]
    split at h
    · rename_i hc
      obtain ⟨c1, c2, c3, c4, c5⟩ := hc
      have hpos : 0 < bs.length := List.length_pos_iff.2 c2
      have hb := hB (bs.length - 1) (by omega)
      cases h
      have e1 : (pre ++ bs.map (· + (n : Int))).getD (n + bs.length - 1) 0 = bs.getD (bs.length - 1) 0 + (n : Int) := by rw [show n + bs.length - 1 = n + (bs.length - 1) by omega, getD_app2 pre bs n _ hp (by omega)]
      rw [e1]
      rw [if_pos ⟨c1, (fun e => by have := congrArg List.length e; rw [hlen, List.length_nil] at this; omega), (by show upI n x.r = _; unfold upI; rw [if_pos (by omega)]; omega), (by omega), (by show upI n x.l = _; unfold upI; rw [if_pos (by omega)]; omega)⟩, show (bs.getD (bs.length - 1) 0 + (n : Int) - 1).toNat = n + (bs.getD (bs.length - 1) 0 - 1).toNat by omega, getD_app2 pre bs n _ hp (by omega)]
    · cases h
  · cases h
theorem begsO_up {n : Nat} : ∀ (b : List Nd) (pre bs cs : List Int), pre.length = n → Bgs bs → begsO b bs = some cs → begsO (b.map (upN n)) (pre ++ bs.map (· + (n : Int))) = some (pre ++ cs.map (· + (n : Int)))
  | [], pre, bs, cs, hp, hB, h => by
    simp [begsO] at h
    subst h
    rfl
  | x :: t, pre, bs, cs, hp, hB, h => by
    unfold begsO at h
    cases hn : nodeO x bs with
    | none => rw [hn] at h; cases h
    | some c =>
      rw [hn] at h
      show (match nodeO (upN n x) (pre ++ bs.map (· + (n : Int))) with | some b => begsO (t.map (upN n)) (pre ++ bs.map (· + (n : Int)) ++ [b]) | none => none) = _
      rw [nodeO_up hp hB hn]
      have := begsO_up t pre (bs ++ [c]) cs hp (hB.more hn) h
      rw [List.map_append] at this
      show begsO (t.map (upN n)) (pre ++ bs.map (· + (n : Int)) ++ [c + (n : Int)]) = _
      rw [List.append_assoc]
      exact this
theorem begsO_cat : ∀ (a b : List Nd) (pre : List Int), begsO (a ++ b) pre = (begsO a pre).bind (begsO b)
  | [], b, pre => rfl
  | x :: t, b, pre => by
    show (match nodeO x pre with | some c => begsO (t ++ b) (pre ++ [c]) | none => none) = _
    rw [show begsO (x :: t) pre = (match nodeO x pre with | some c => begsO t (pre ++ [c]) | none => none) from rfl]
    cases nodeO x pre with
    | none => rfl
    | some c => exact begsO_cat t b _
/-- A tree's begins, and the root's. -/
theorem tree_beg0 {a : List Nd} (h : treeB a = true) : ∃ bs, begsO a [] = some bs ∧ bs.length = a.length ∧ 0 < a.length ∧ bs.getD (a.length - 1) 0 = 0 := by
  unfold treeB at h
  cases hb : begsO a [] with
  | none => rw [hb] at h; cases h
  | some bs =>
    rw [hb] at h
    have := of_decide_eq_true h
    have hl := begsO_len a [] bs hb
    exact ⟨bs, rfl, by simpa using hl, this.1, this.2⟩
theorem map_jN {n : Nat} {b : List Nd} (hb : treeB b = true) (hl : n + b.length ≤ 4611686018427387904) : b.map (jN n) = b.map (upN n) := by
  apply List.map_congr_left
  intro x hx
  obtain ⟨i, hi, rfl⟩ := List.getElem_of_mem hx
  obtain ⟨h1, h2, _⟩ := tree_bnd hb hi
  rw [List.getD_eq_getElem?_getD, List.getElem?_eq_getElem hi] at h1 h2
  dsimp only [Option.getD_some] at h1 h2
  have key : ∀ z : Int, z < (i : Int) → jW n z = upI n z := fun z hz => by
    unfold jW upI wrap64
    split
    · omega
    · rfl
  unfold jN upN
  rw [key _ h1, key _ h2]
def joinU (op : Int) (a b : List Nd) : List Nd := (if op = 12 ∨ op = 13 then a else a ++ b.map (upN a.length)) ++ [joinE op a b]
theorem joinL_U {op : Int} {a b : List Nd} (hb : treeB b = true) (hl : a.length + b.length ≤ 4611686018427387904) : joinL op a b = joinU op a b := by
  unfold joinL joinU
  rw [map_jN hb hl]
theorem tree_join {op : Int} {a b : List Nd} (ha : treeB a = true) (hb : treeB b = true) (h1 : 12 ≤ op) (h2 : op ≤ 26) : treeB (joinU op a b) = true := by
  obtain ⟨az, ea, la, pa, ra⟩ := tree_beg0 ha
  obtain ⟨bs, eb, lb, pb, rb⟩ := tree_beg0 hb
  unfold joinU
  by_cases hu : op = 12 ∨ op = 13
  · rw [if_pos hu]
    have hE : joinE op a b = ⟨op, 0, eS, eS, (a.length : Int) - 1, -1⟩ := by unfold joinE; rw [if_pos hu]
    have hn : nodeO (joinE op a b) az = some 0 := by
      rw [hE]
      unfold nodeO
      rw [if_neg (by unfold leafN; intro h; have := of_decide_eq_true h; dsimp only at this; omega), if_pos hu, if_pos ⟨rfl, (fun e => by rw [e, List.length_nil] at la; omega), (by dsimp only; rw [la]), rfl⟩, la, ra]
    have hbe : begsO (a ++ [joinE op a b]) [] = some (az ++ [0]) := by
      rw [begsO_cat, ea]
      show (match nodeO (joinE op a b) az with | some c => some (az ++ [c]) | none => none) = _
      rw [hn]
    unfold treeB
    rw [hbe]
    refine decide_eq_true ⟨by simp, ?_⟩
    rw [List.length_append, List.length_singleton, Nat.add_sub_cancel, List.getD_eq_getElem?_getD, List.getElem?_append_right (by omega), la, Nat.sub_self]
    rfl
  · rw [if_neg hu]
    have hE : joinE op a b = ⟨op, 0, eS, eS, (a.length : Int) - 1, (a.length : Int) + (b.length : Int) - 1⟩ := by unfold joinE; rw [if_neg hu]
    have hup := begsO_up (n := a.length) b az [] bs la Bgs.nil eb
    rw [List.map_nil, List.append_nil] at hup
    have hlen : (az ++ bs.map (· + (a.length : Int))).length = a.length + b.length := by simp [la, lb]
    have hlast : (az ++ bs.map (· + (a.length : Int))).getD (a.length + b.length - 1) 0 = (a.length : Int) := by
      rw [show a.length + b.length - 1 = a.length + (b.length - 1) by omega, getD_app2 az bs a.length _ la (by omega), rb]
      omega
    have hn : nodeO (joinE op a b) (az ++ bs.map (· + (a.length : Int))) = some 0 := by
      rw [hE]
      unfold nodeO
      rw [if_neg (by unfold leafN; intro h; have := of_decide_eq_true h; dsimp only at this; omega), if_neg hu, if_pos (show 14 ≤ op ∧ op ≤ 26 by omega), hlen, hlast, if_pos ⟨rfl, (fun e => by have := congrArg List.length e; rw [hlen, List.length_nil] at this; omega), (by dsimp only; omega), (by omega), rfl⟩, show ((a.length : Int) - 1).toNat = a.length - 1 by omega, List.getD_eq_getElem?_getD, List.getElem?_append_left (by omega), ← List.getD_eq_getElem?_getD, ra]
    have hbe : begsO (a ++ b.map (upN a.length) ++ [joinE op a b]) [] = some (az ++ bs.map (· + (a.length : Int)) ++ [0]) := by
      rw [begsO_cat, begsO_cat, ea]
      show ((begsO (b.map (upN a.length)) az).bind fun pre => match nodeO (joinE op a b) pre with | some c => some (pre ++ [c]) | none => none) = _
      rw [hup]
      show (match nodeO (joinE op a b) (az ++ bs.map (· + (a.length : Int))) with | some c => some (az ++ bs.map (· + (a.length : Int)) ++ [c]) | none => none) = _
      rw [hn]
    unfold treeB
    rw [hbe]
    refine decide_eq_true ⟨by simp; omega, ?_⟩
    rw [show (a ++ b.map (upN a.length) ++ [joinE op a b]).length - 1 = a.length + b.length by simp, List.getD_eq_getElem?_getD, List.getElem?_append_right (by omega), hlen, Nat.sub_self]
    rfl

/-! What stands where in the joined list. -/
theorem getD_pre2 {β : Type} (a c : List β) (z : β) {k : Nat} (h : k < a.length) : (a ++ c).getD k z = a.getD k z := by
  rw [List.getD_eq_getElem?_getD, List.getElem?_append_left h, ← List.getD_eq_getElem?_getD]
theorem getD_suf2 {β : Type} (a c : List β) (z : β) (k : Nat) : (a ++ c).getD (a.length + k) z = c.getD k z := by
  rw [List.getD_eq_getElem?_getD, List.getElem?_append_right (by omega), Nat.add_sub_cancel_left, ← List.getD_eq_getElem?_getD]
theorem getD_up (n : Nat) (b : List Nd) (k : Nat) (h : k < b.length) : (b.map (upN n)).getD k noNd = upN n (b.getD k noNd) := by
  rw [List.getD_eq_getElem?_getD, List.getElem?_map, List.getD_eq_getElem?_getD, List.getElem?_eq_getElem h]
  rfl
/-- The values of a list hang on its nodes alone, from the first on. -/
theorem valK_pre (L : List Ty) (M : ByteArray → Option Int) (E : Envr) (a c : List Nd) : ∀ k, k ≤ a.length → valK L M E (a ++ c) k = valK L M E a k
  | 0, _ => rfl
  | k + 1, h => by
    unfold valK
    rw [valK_pre L M E a c k (by omega), getD_pre2 a c noNd (by omega)]
theorem nodeW_up (L : List Ty) (M : ByteArray → Option Int) (E : Envr) (da db : List V2) (x : Nd) (hl : 12 ≤ x.op → 0 ≤ x.l) (hr : 14 ≤ x.op → 0 ≤ x.r) : nodeW L M E (da ++ db) (upN da.length x) = nodeW L M E db x := by
  have key : ∀ z : Int, 0 ≤ z → (da ++ db).getD (upI da.length z).toNat noV2 = db.getD z.toNat noV2 := fun z hz => by
    unfold upI
    rw [if_pos hz, show (z + (da.length : Int)).toNat = da.length + z.toNat by omega, getD_suf2]
  unfold nodeW
  show (if x.op < 4 then _ else _) = _
  split
  · rfl
  show (if x.op = 5 then _ else _) = _
  split
  · rfl
  show (if x.op ≤ 11 then _ else _) = _
  split
  · rfl
  show (if x.op = 12 then negW ((da ++ db).getD (upI da.length x.l).toNat noV2) else if x.op = 13 then notW ((da ++ db).getD (upI da.length x.l).toNat noV2) else applyV x.op ((da ++ db).getD (upI da.length x.l).toNat noV2) ((da ++ db).getD (upI da.length x.r).toNat noV2)) = _
  rw [key _ (hl (by omega))]
  split
  · rfl
  split
  · rfl
  · rw [key _ (hr (by omega))]
theorem tree_ops {b : List Nd} (hb : treeB b = true) {i : Nat} (hi : i < b.length) : (12 ≤ (b.getD i noNd).op → 0 ≤ (b.getD i noNd).l) ∧ (14 ≤ (b.getD i noNd).op → 0 ≤ (b.getD i noNd).r) := by
  obtain ⟨bs, hbe, _⟩ := tree_begs hb
  have k := kin_of hbe i hi
  rcases k.how with ⟨h1, _⟩ | ⟨h1, e0, e1, _⟩ | ⟨h1, e0, e1, e2, e3, _⟩
  · exact ⟨fun h => by omega, fun h => by omega⟩
  · exact ⟨fun h => by omega, fun h => by omega⟩
  · exact ⟨fun h => by omega, fun h => by omega⟩
theorem valK_suf (L : List Ty) (M : ByteArray → Option Int) (E : Envr) (a b c : List Nd) (hb : treeB b = true) : ∀ k, k ≤ b.length → valK L M E (a ++ b.map (upN a.length) ++ c) (a.length + k) = valK L M E a a.length ++ valK L M E b k
  | 0, _ => by
    show valK L M E (a ++ b.map (upN a.length) ++ c) a.length = valK L M E a a.length ++ []
    rw [List.append_nil, List.append_assoc, valK_pre L M E a _ a.length (Nat.le_refl _)]
  | k + 1, h => by
    have ih := valK_suf L M E a b c hb k (by omega)
    show valK L M E (a ++ b.map (upN a.length) ++ c) (a.length + k) ++ [nodeW L M E (valK L M E (a ++ b.map (upN a.length) ++ c) (a.length + k)) ((a ++ b.map (upN a.length) ++ c).getD (a.length + k) noNd)] = _
    rw [ih, List.append_assoc a, getD_suf2, getD_pre2 _ c noNd (by rw [List.length_map]; omega), getD_up _ b k (by omega)]
    have hl := valK_len L M E a a.length
    have ho := tree_ops hb (show k < b.length by omega)
    have := nodeW_up L M E (valK L M E a a.length) (valK L M E b k) (b.getD k noNd) ho.1 ho.2
    rw [hl] at this
    rw [this, List.append_assoc]
    rfl
theorem joinU_len (op : Int) (a b : List Nd) : (joinU op a b).length = (if op = 12 ∨ op = 13 then a.length else a.length + b.length) + 1 := by
  unfold joinU
  split
  · simp
  · simp; omega
/-- What the joined tree comes to. -/
theorem valA_join (L : List Ty) (M : ByteArray → Option Int) (E : Envr) {op : Int} {a b : List Nd} (ha : treeB a = true) (hb : treeB b = true) (h1 : 12 ≤ op) (h2 : op ≤ 26) :
    valA L M E (joinU op a b) ((joinU op a b).length - 1) = if op = 12 then negW (valA L M E a (a.length - 1)) else if op = 13 then notW (valA L M E a (a.length - 1)) else applyV op (valA L M E a (a.length - 1)) (valA L M E b (b.length - 1)) := by
  obtain ⟨_, _, _, pa, _⟩ := tree_beg0 ha
  obtain ⟨_, _, _, pb, _⟩ := tree_beg0 hb
  have hA : (valK L M E a a.length).getD (a.length - 1) noV2 = valA L M E a (a.length - 1) := valK_at L M E a _ _ (by omega)
  rw [joinU_len]
  by_cases hu : op = 12 ∨ op = 13
  · have hJ : joinU op a b = a ++ [⟨op, 0, eS, eS, (a.length : Int) - 1, -1⟩] := by unfold joinU joinE; rw [if_pos hu, if_pos hu]
    rw [if_pos hu, Nat.add_sub_cancel, hJ]
    show nodeW L M E (valK L M E (a ++ _) a.length) ((a ++ _).getD a.length noNd) = _
    rw [valK_pre L M E a _ a.length (Nat.le_refl _), show a.length = a.length + 0 from rfl, getD_suf2]
    show nodeW L M E (valK L M E a (a.length + 0)) ⟨op, 0, eS, eS, ((a.length + 0 : Nat) : Int) - 1, -1⟩ = _
    rw [Nat.add_zero]
    unfold nodeW
    dsimp only
    rw [if_neg (by omega), if_neg (by omega), if_neg (by omega), show ((a.length : Int) - 1).toNat = a.length - 1 by omega, hA]
    rcases hu with rfl | rfl
    · rfl
    · rfl
  · have hJ : joinU op a b = a ++ b.map (upN a.length) ++ [⟨op, 0, eS, eS, (a.length : Int) - 1, (a.length : Int) + (b.length : Int) - 1⟩] := by unfold joinU joinE; rw [if_neg hu, if_neg hu]
    rw [if_neg hu, Nat.add_sub_cancel, hJ]
    show nodeW L M E (valK L M E (a ++ b.map (upN a.length) ++ _) (a.length + b.length)) ((a ++ b.map (upN a.length) ++ _).getD (a.length + b.length) noNd) = _
    have hg : (a ++ b.map (upN a.length) ++ [(⟨op, 0, eS, eS, (a.length : Int) - 1, (a.length : Int) + (b.length : Int) - 1⟩ : Nd)]).getD (a.length + b.length) noNd = ⟨op, 0, eS, eS, (a.length : Int) - 1, (a.length : Int) + (b.length : Int) - 1⟩ := by
      have := getD_suf2 (a ++ b.map (upN a.length)) [(⟨op, 0, eS, eS, (a.length : Int) - 1, (a.length : Int) + (b.length : Int) - 1⟩ : Nd)] noNd 0
      rw [List.length_append, List.length_map, Nat.add_zero] at this
      exact this
    rw [valK_suf L M E a b _ hb b.length (Nat.le_refl _), hg]
    have hB : (valK L M E b b.length).getD (b.length - 1) noV2 = valA L M E b (b.length - 1) := valK_at L M E b _ _ (by omega)
    have hl := valK_len L M E a a.length
    have e1 : (valK L M E a a.length ++ valK L M E b b.length).getD (a.length - 1) noV2 = valA L M E a (a.length - 1) := by rw [getD_pre2 _ _ _ (by omega), hA]
    have e2 : (valK L M E a a.length ++ valK L M E b b.length).getD (a.length + b.length - 1) noV2 = valA L M E b (b.length - 1) := by
      have := getD_suf2 (valK L M E a a.length) (valK L M E b b.length) noV2 (b.length - 1)
      rw [hl, hB] at this
      rw [show a.length + b.length - 1 = a.length + (b.length - 1) by omega, this]
    unfold nodeW
    dsimp only
    rw [if_neg (by omega), if_neg (by omega), if_neg (by omega), if_neg (by omega), if_neg (by omega), if_neg (by omega), if_neg (by omega), show ((a.length : Int) - 1).toNat = a.length - 1 by omega, show ((a.length : Int) + (b.length : Int) - 1).toNat = a.length + b.length - 1 by omega, e1, e2]

/-! Is it runnable? -/
theorem kKid_pre {a c : List Nd} {op k : Int} (h : k < (a.length : Int)) : kKid (a ++ c) op k = kKid a op k := by
  unfold kKid
  by_cases h0 : 0 ≤ k
  · rw [getD_pre2 a c noNd (by omega)]
  · rw [decide_eq_false h0, Bool.false_and, Bool.false_and]
theorem runN_pre {M : ByteArray → Option Int} {a c : List Nd} {x : Nd} (hl : x.l < (a.length : Int)) (hr : x.r < (a.length : Int)) : runN M (a ++ c) x = runN M a x := by
  unfold runN kFit
  rw [kKid_pre hl, kKid_pre hr]
theorem kKid_up {a b c : List Nd} {op k : Int} (h : k < (b.length : Int)) : kKid (a ++ b.map (upN a.length) ++ c) op (upI a.length k) = kKid b op k := by
  unfold kKid
  by_cases h0 : 0 ≤ k
  · have e : upI a.length k = k + (a.length : Int) := if_pos h0
    rw [e, show (k + (a.length : Int)).toNat = a.length + k.toNat by omega, List.append_assoc, getD_suf2, getD_pre2 _ c noNd (by rw [List.length_map]; omega), getD_up _ b _ (by omega), decide_eq_true h0, decide_eq_true (show 0 ≤ k + (a.length : Int) by omega)]
    rfl
  · have e : upI a.length k = k := if_neg h0
    rw [e, decide_eq_false h0, Bool.false_and, Bool.false_and]
theorem runN_up {M : ByteArray → Option Int} {a b c : List Nd} {x : Nd} (hl : x.l < (b.length : Int)) (hr : x.r < (b.length : Int)) : runN M (a ++ b.map (upN a.length) ++ c) (upN a.length x) = runN M b x := by
  unfold runN kFit
  show ((if kKid _ x.op (upI a.length x.l) = true then false else if kKid _ x.op (upI a.length x.r) = true then false else true) && _) = _
  rw [kKid_up hl, kKid_up hr]
  rfl
theorem run_split {M : ByteArray → Option Int} {t : List Nd} (h : runB M t = true) : treeB t = true ∧ ∀ i, i < t.length → runN M t (t.getD i noNd) = true := by
  unfold runB at h
  rw [Bool.and_eq_true, List.all_eq_true] at h
  exact ⟨h.1, fun i hi => h.2 _ (by rw [List.getD_eq_getElem?_getD, List.getElem?_eq_getElem hi]; exact List.getElem_mem hi)⟩
def lastOp (a : List Nd) : Int := (a.getD (a.length - 1) noNd).op
/-- Do the kinds fit? -/
def fitJ (op : Int) (a b : List Nd) : Bool := (kTr (lastOp a) == kJoin op) && (decide (op < 14) || (kTr (lastOp b) == kJoin op))
theorem all_pre {M : ByteArray → Option Int} {a c : List Nd} (ha : runB M a = true) : a.all (runN M (a ++ c)) = true := by
  obtain ⟨ht, h⟩ := run_split ha
  rw [List.all_eq_true]
  intro x hx
  obtain ⟨i, hi, rfl⟩ := List.getElem_of_mem hx
  have h1 := h i hi
  have h2 := tree_bnd ht hi
  rw [List.getD_eq_getElem?_getD, List.getElem?_eq_getElem hi] at h1 h2
  dsimp only [Option.getD_some] at h1 h2
  rw [runN_pre (by omega) (by omega)]
  exact h1
theorem all_up {M : ByteArray → Option Int} {a b c : List Nd} (hb : runB M b = true) : (b.map (upN a.length)).all (runN M (a ++ b.map (upN a.length) ++ c)) = true := by
  obtain ⟨ht, h⟩ := run_split hb
  rw [List.all_eq_true]
  intro y hy
  obtain ⟨x, hx, rfl⟩ := List.mem_map.1 hy
  obtain ⟨i, hi, rfl⟩ := List.getElem_of_mem hx
  have h1 := h i hi
  have h2 := tree_bnd ht hi
  rw [List.getD_eq_getElem?_getD, List.getElem?_eq_getElem hi] at h1 h2
  dsimp only [Option.getD_some] at h1 h2
  rw [runN_up (by omega) (by omega)]
  exact h1
theorem run_join {M : ByteArray → Option Int} {op : Int} {a b : List Nd} (ha : runB M a = true) (hb : runB M b = true) (h1 : 12 ≤ op) (h2 : op ≤ 26) : runB M (joinU op a b) = fitJ op a b := by
  have ta := (run_split ha).1
  have tb := (run_split hb).1
  obtain ⟨_, _, _, pa, _⟩ := tree_beg0 ta
  obtain ⟨_, _, _, pb, _⟩ := tree_beg0 tb
  have hm : kMent op = false := decide_eq_false (by omega)
  unfold runB
  rw [tree_join ta tb h1 h2, Bool.true_and]
  by_cases hu : op = 12 ∨ op = 13
  · have hJ : joinU op a b = a ++ [⟨op, 0, eS, eS, (a.length : Int) - 1, -1⟩] := by unfold joinU joinE; rw [if_pos hu, if_pos hu]
    rw [hJ, List.all_append, all_pre ha, Bool.true_and]
    show (runN M _ _ && true) = _
    rw [Bool.and_true]
    unfold runN kFit fitJ
    dsimp only
    have e1 : kKid (a ++ [(⟨op, 0, eS, eS, (a.length : Int) - 1, -1⟩ : Nd)]) op ((a.length : Int) - 1) = (kTr (lastOp a) != kJoin op) := by
      rw [kKid_pre (by omega)]
      unfold kKid lastOp
      rw [decide_eq_true (by omega), Bool.true_and, show ((a.length : Int) - 1).toNat = a.length - 1 by omega]
    have e2 : kKid (a ++ [(⟨op, 0, eS, eS, (a.length : Int) - 1, -1⟩ : Nd)]) op (-1) = false := rfl
    rw [e1, e2, hm, decide_eq_true (show op < 14 by omega)]
    cases kTr (lastOp a) <;> cases kJoin op <;> rfl
  · have hJ : joinU op a b = a ++ b.map (upN a.length) ++ [⟨op, 0, eS, eS, (a.length : Int) - 1, (a.length : Int) + (b.length : Int) - 1⟩] := by unfold joinU joinE; rw [if_neg hu, if_neg hu]
    rw [hJ, List.all_append, List.all_append, all_up hb, Bool.and_true, List.append_assoc, all_pre ha, Bool.true_and, ← List.append_assoc]
    show (runN M _ _ && true) = _
    rw [Bool.and_true]
    unfold runN kFit fitJ
    dsimp only
    have e1 : kKid (a ++ b.map (upN a.length) ++ [(⟨op, 0, eS, eS, (a.length : Int) - 1, (a.length : Int) + (b.length : Int) - 1⟩ : Nd)]) op ((a.length : Int) - 1) = (kTr (lastOp a) != kJoin op) := by
      rw [List.append_assoc, kKid_pre (by omega)]
      unfold kKid lastOp
      rw [decide_eq_true (by omega), Bool.true_and, show ((a.length : Int) - 1).toNat = a.length - 1 by omega]
    have e2 : kKid (a ++ b.map (upN a.length) ++ [(⟨op, 0, eS, eS, (a.length : Int) - 1, (a.length : Int) + (b.length : Int) - 1⟩ : Nd)]) op ((a.length : Int) + (b.length : Int) - 1) = (kTr (lastOp b) != kJoin op) := by
      have e3 : (a.length : Int) + (b.length : Int) - 1 = upI a.length ((b.length : Int) - 1) := by unfold upI; rw [if_pos (by omega)]; omega
      rw [e3, kKid_up (by omega)]
      unfold kKid lastOp
      rw [decide_eq_true (by omega), Bool.true_and, show ((b.length : Int) - 1).toNat = b.length - 1 by omega]
    rw [e1, e2, hm, decide_eq_false (show ¬ op < 14 by omega)]
    cases kTr (lastOp a) <;> cases kTr (lastOp b) <;> cases kJoin op <;> rfl

end Go.Proofs.YtglagbedgjkdbaaGreatDoor
namespace Go.Proofs.YtglagbedgjkdbaaGreatDoor
open Go.RowKit Go.BigFrame Go.Proofs.YtglagbedgjkdbaaGreatDoor.Ev
set_option linter.unusedVariables false
set_option linter.unusedSimpArgs false

/-- At the round k: the values of the first k nodes stand in a row of their own. -/
structure EvR (L : List Ty) (M : ByteArray → Option Int) (E : Envr) (ns : List Nd) (w : World) (c0 c1 c2 : Array Value) (v i : Value) (wr : World) : Prop where
  ex : ∃ k : Nat, k ≤ ns.length ∧ i = .int .i64 (k : Int) ∧ wr.ownsRow (w.heap.size + 4) 51 2 v k (fl valC (valK L M E ns k))
  b0 : Bk wr w.heap.size c0 24
  b1 : Bk wr (w.heap.size + 1) c1 31
  b2 : Bk wr (w.heap.size + 2) c2 34
  b3 : Two wr (w.heap.size + 3) (.bool false) (.int .i64 0) 51
  o : Below w.heap.size w wr
theorem node_left {ns : List Nd} (KN : ∀ i, i < ns.length → Kin ns (bsOf ns) i) {k : Nat} (hk : k < ns.length) (h : 12 ≤ (ns.getD k noNd).op) : ∃ j : Nat, (ns.getD k noNd).l = (j : Int) ∧ j < k := by
  rcases (KN k hk).how with ⟨h11, _⟩ | ⟨_, h0, e, _⟩ | ⟨_, h0, hb, er, el, _⟩
  · omega
  · exact ⟨k - 1, e, by omega⟩
  · have := (KN (k - 1) (by omega)).le
    exact ⟨bg (bsOf ns) (k - 1) - 1, el, by omega⟩
theorem node_right {ns : List Nd} (KN : ∀ i, i < ns.length → Kin ns (bsOf ns) i) {k : Nat} (hk : k < ns.length) (h : 14 ≤ (ns.getD k noNd).op) : ∃ j : Nat, (ns.getD k noNd).r = (j : Int) ∧ j < k := by
  rcases (KN k hk).how with ⟨h11, _⟩ | ⟨h12, h0, e, _⟩ | ⟨_, h0, hb, er, el, _⟩
  · omega
  · omega
  · exact ⟨k - 1, er, by omega⟩
theorem node3 {ns : List Nd} (ht : treeB ns = true) {k : Nat} (hk : k < ns.length) (h3 : (ns.getD k noNd).op = 3) : (ns.getD k noNd).n = 0 := by
  obtain ⟨bs, hb, _⟩ := tree_begs ht
  obtain ⟨_, _, h⟩ := (leafN_iff _).1 ((ws_of hb k hk).leaf (by omega))
  rcases h with h | h | h | h
  · omega
  · exact h.2.1
  · exact h.2.1
  · exact h.2.1
theorem nodeM {M : ByteArray → Option Int} {ns : List Nd} {k : Nat} (h : runN M ns (ns.getD k noNd) = true) (hm : kMent (ns.getD k noNd).op = true) : (M (ns.getD k noNd).v).isSome = true := by
  unfold runN at h
  rw [Bool.and_eq_true, Bool.or_eq_true] at h
  rcases h.2 with h | h
  · rw [hm] at h; cases h
  · exact h
theorem dn_of {w : World} {b : Nat} {ao : Option Addr} {n c : Nat} {vs : List V2} (h : w.ownsRow b 51 2 (.slice ao n c) vs.length (fl valC vs)) {j : Nat} (hj : j < vs.length) : DnAt w ao vs (j : Int) := by
  obtain ⟨ao', c', e', _, _, hh⟩ := own_form h
  cases e'
  rcases hh with hh | ⟨g, rfl, h4, h5⟩
  · omega
  · have e0 := fl_at valC_sz noV2 vs j 0 hj (by omega)
    have e1 := fl_at valC_sz noV2 vs j 1 hj (by omega)
    have c0 := (World.ownsRow.cellAt h (j * 2) (by omega)).trans e0
    have c1 := (World.ownsRow.cellAt h (j * 2 + 1) (by omega)).trans e1
    exact ⟨g, j, rfl, rfl, hj, c0, c1⟩
set_option maxRecDepth 100000 in
set_option maxHeartbeats 16000000 in
theorem refEval_any (sa : Option Addr) (sc : Nat) (L : List Ty) (q : Qy) (hq : q.fit) (cs : Array Value) (ai : Option Addr) (ci : Nat) (aw : Option Addr) (cw : Nat) (ar : Option Addr) (cr : Nat) (ns : List Nd) (ao : Option Addr) (cap : Nat) (E : Envr) (al : Option Addr) (cl : Nat) (w : World) (K : KwAt w) (A : IsTypes w sa L.length L) (AQ : IsQ w q cs ai ci aw cw ar cr) (AN : IsNds w ao ns) (IE : IsEnv w E al cl)
    (hf : ∀ k, (ns.getD k noNd).fit) (hr : ns.length * 64 ≤ 140737488351232) (hE : E.ok) :
    Calls Tryz.prog 22 #[.agg #[.slice sa L.length sc], .agg cs, .slice ao ns.length cap, envA al cl E] w fun e w' => e = .returned (VA (evalV L q E ns)) ∧ Below w.heap.size w w' := by
  obtain ⟨he, _⟩ := id AQ
  subst he
  obtain ⟨V, hV⟩ : ∃ V, (((w.alloc (.cells #[.slice sa L.length sc] 24)).alloc (.cells #[.slice ai q.items.length ci, .int .i64 q.mode, .int .i64 q.after, .slice aw q.wh.length cw, .int .i64 q.within, .string q.by_, .slice ar q.ret.length cr] 31)).alloc (.cells #[.slice al E.lists.length cl, .int .i64 E.each, .int .i64 E.at_] 34)).alloc (.cells #[.bool false, .int .i64 0] 51) = V := ⟨_, rfl⟩
  obtain ⟨b0, b1, b2, b3, BV⟩ := alloc4 w _ _ _ _ _ _ _ _ hV
  have zV : V.heap.size = w.heap.size + 4 := by rw [← hV]; simp
  have c1 := refRunnable_any q hq ns ao cap _ ai ci aw cw ar cr V (K.keep BV) (AQ.keep BV) (AN.keep BV) hr hf
  obtain ⟨⟨xk, xn⟩, hx⟩ : ∃ x, evalV L q E ns = x := ⟨_, rfl⟩
  rw [hx]
  have HX := show Hid (_ = _) from hx
  clear hx
  obtain ⟨rb, hrb⟩ : ∃ b, runB (itemF q.items q.items.length) ns = b := ⟨_, rfl⟩
  rw [hrb] at c1
  have HRB := show Hid (_ = _) from hrb
  clear hrb
  cases rb with
  | false =>
    have hv : ((false, 0) : V2) = (xk, xn) := by
      rw [← HX.out]
      unfold evalV
      rw [HRB.out]
      rfl
    obtain ⟨rfl, rfl⟩ := Prod.mk.inj hv
    clear HX hv HRB
    go_enter Tryz.func22, Tryz.ntmps22
    go_upto_region 1 with fail
    clear hV
    obtain ⟨q0, q1, q2, q3, q4, q5, q6⟩ := b1.at7
    have b3 : Two V (w.heap.size + 3) (.bool false) (.int .i64 0) 51 := b3
    go_wp2_with (first
      | (go_at_call 45; (with_reducible refine c1.mono ?_); rintro e u ⟨rfl, g1⟩)
      | (go_at_call 46; (with_reducible refine (refNothing_any _).mono ?_); rintro _ Z ⟨rfl, gZ⟩; have GZ := gtrans (gtrans BV g1) gZ; obtain ⟨r0, r1⟩ := show _ ∧ _ from ⟨((b3.keep g1).keep gZ).at0, ((b3.keep g1).keep gZ).at1⟩; have rf := ((b3.keep g1).keep gZ).free))
    refine bodyPost_ret (v := .agg #[.bool false, .int .i64 0]) (by simp [results, Tryz.results22, go_sem, r0, r1]) rfl ⟨rfl, ?_⟩
    exact gset (gset GZ (by simp; omega) _) (by simp; omega) _
  | true =>
  have hrun := HRB.out
  obtain ⟨hT, hN⟩ := run_split hrun
  have hev : valA L (itemF q.items q.items.length) E ns (ns.length - 1) = (xk, xn) := by
    rw [← HX.out]
    unfold evalV
    rw [hrun]
    rfl
  obtain ⟨hbs, hpos, _, KN⟩ := tree_bs hT
  have cV := fun (k : Nat) (hk : k < ns.length) (u : World) (G : Below w.heap.size w u) (da : Option Addr) (dc n' : Nat) (O : u.ownsRow (w.heap.size + 4) 51 2 (.slice da n' dc) (valK L (itemF q.items q.items.length) E ns k).length (fl valC (valK L (itemF q.items q.items.length) E ns k))) =>
    refValue_any sa sc L q hq _ ai ci aw cw ar cr (ns.getD k noNd) da dc (valK L (itemF q.items q.items.length) E ns k) E al cl u (A.keep G) (AQ.keep G) (IE.keep G) hE (hf k) (KN k hk).op (node3 hT hk) (nodeM (hN k hk))
      (fun h => by obtain ⟨j, e, hj⟩ := node_left KN hk h; rw [e]; exact dn_of O (by rw [valK_len]; exact hj))
      (fun h => by obtain ⟨j, e, hj⟩ := node_right KN hk h; rw [e]; exact dn_of O (by rw [valK_len]; exact hj)) (valK_fits L _ hE hf k)
  clear HX hrun hbs KN hN
  obtain ⟨M, hM⟩ : ∃ M, itemF q.items q.items.length = M := ⟨_, rfl⟩
  rw [hM] at cV hev
  have HEV := show Hid (_ = _) from hev
  have hvl := fun k => valK_len L M E ns k
  obtain ⟨i9, j9, j0, j1, j2⟩ := nf_info nf_val
  clear hM hev hT HRB
  go_enter Tryz.func22, Tryz.ntmps22
  go_upto_region 1 with fail
  clear hV
  obtain ⟨q0, q1, q2, q3, q4, q5, q6⟩ := b1.at7
  have b3 : Two V (w.heap.size + 3) (.bool false) (.int .i64 0) 51 := b3
  go_upto_region 6 with (go_at_call 45; (with_reducible refine c1.mono ?_); rintro e u ⟨rfl, g1⟩)
  have zU := g1.size
  have B0 := b0.keep g1
  have B1 := b1.keep g1
  have B2 := b2.keep g1
  have B3 := b3.keep g1
  have Gu := gtrans BV g1
  clear b0 b1 b2 b3 g1 c1 q0 q1 q2 q3 q4 q5 q6 BV
  go_loopw [10, 11, 12] (fun v x _ wr => EvR L M E ns w #[.slice sa L.length sc] #[.slice ai q.items.length ci, .int .i64 q.mode, .int .i64 q.after, .slice aw q.wh.length cw, .int .i64 q.within, .string q.by_, .slice ar q.ret.length cr] #[.slice al E.lists.length cl, .int .i64 E.each, .int .i64 E.at_] v x wr) (fun _ x _ _ => ns.length - (intOf x).toNat)
  case atStart => exact ⟨⟨0, Nat.zero_le _, rfl, World.ownsRow_nil _ _ _ _⟩, B0, B1, B2, B3, Gu⟩
  case round =>
    clear B0 B1 B2 B3 Gu
    obtain ⟨⟨k, hk, rfl, O⟩, b0, b1, b2, b3, G⟩ := hrel
    obtain ⟨da, dc, rfl, _, _, _⟩ := own_form O
    have zr := b3.lt
    by_cases hlt : k < ns.length
    · have hki : (k : Int) < (ns.length : Int) := by omega
      have cc := fun (X : World) (hX : Below wr.heap.size wr X) => cV k hlt X (gtrans G hX) da dc k (by rw [hvl]; exact own_keep O hX)
      rw [hvl k] at cc
      obtain ⟨⟨yk, yn⟩, hy⟩ : ∃ y, nodeW L M E (valK L M E ns k) (ns.getD k noNd) = y := ⟨_, rfl⟩
      rw [hy] at cc
      have HS : Hid (valK L M E ns (k + 1) = valK L M E ns k ++ [(yk, yn)]) := by
        show valK L M E ns k ++ [nodeW L M E (valK L M E ns k) (ns.getD k noNd)] = _
        rw [hy]
      unfold VA at cc
      dsimp only at cc
      obtain ⟨g, o, rfl, x0, x1, x2, x3, x4, x5⟩ := (AN.keep G) k hlt
      generalize ns.getD k noNd = y at *
      obtain ⟨yop, yn', yv, yx, yl, yr⟩ := y
      unfold ndA at cc
      dsimp only at cc x0 x1 x2 x3 x4 x5
      clear hy cV HEV
      obtain ⟨q0, q1, q2, q3, q4, q5, q6⟩ := b1.at7
      obtain ⟨t0, t1, t2⟩ := b2.at3
      have s0 := b0.one1
      have hne0 : Nonempty (Ext wr) := ⟨⟨_, Below.refl _ _⟩⟩
      have p0 := fun z : Ext wr => (z.cell _ _ (lt_of_cell x0)).trans x0
      have p1 := fun z : Ext wr => (z.cell _ _ (lt_of_cell x1)).trans x1
      have p2 := fun z : Ext wr => (z.cell _ _ (lt_of_cell x2)).trans x2
      have p3 := fun z : Ext wr => (z.cell _ _ (lt_of_cell x3)).trans x3
      have p4 := fun z : Ext wr => (z.cell _ _ (lt_of_cell x4)).trans x4
      have p5 := fun z : Ext wr => (z.cell _ _ (lt_of_cell x5)).trans x5
      have r0 := fun z : Ext wr => (z.cell _ _ (lt_of_cell q0)).trans q0
      have r1 := fun z : Ext wr => (z.cell _ _ (lt_of_cell q1)).trans q1
      have r2 := fun z : Ext wr => (z.cell _ _ (lt_of_cell q2)).trans q2
      have r3 := fun z : Ext wr => (z.cell _ _ (lt_of_cell q3)).trans q3
      have r4 := fun z : Ext wr => (z.cell _ _ (lt_of_cell q4)).trans q4
      have r5 := fun z : Ext wr => (z.cell _ _ (lt_of_cell q5)).trans q5
      have r6 := fun z : Ext wr => (z.cell _ _ (lt_of_cell q6)).trans q6
      have u0 := fun z : Ext wr => (z.cell _ _ (lt_of_cell t0)).trans t0
      have u1 := fun z : Ext wr => (z.cell _ _ (lt_of_cell t1)).trans t1
      have u2 := fun z : Ext wr => (z.cell _ _ (lt_of_cell t2)).trans t2
      have ss := fun z : Ext wr => (z.cell _ _ (lt_of_cell s0)).trans s0
      go_upto_region 8 with fail
      go_cut [12] from 25 to 33 (fun s12 wx => ∃ b, s12 = .pointer (some ⟨b, 0, none⟩) ∧ Bk wx b #[.bool yk, .int .i64 yn] 51 ∧ Below wr.heap.size wr wx)
      case first =>
        refine wp_region_held (S := fun X => ∃ n : Ext wr, X = n.X) (by kernel_rfl) ?_
        have hX0 : Below wr.heap.size wr { wr with drawn := wr.drawn + 1 } := (Below.refl _ wr).drew
        obtain ⟨X, hXe⟩ : ∃ X, { wr with drawn := wr.drawn + 1 } = X := ⟨_, rfl⟩
        have hX : Below wr.heap.size wr X := hXe ▸ hX0
        rw [hXe]
        clear hX0 hXe
        refine anyH_pick (g := 3) [0, 1, 2, 3, 4, 5, 6, 7] (by kernel_rfl) (fun c a d v w h => by cases d <;> exact h) ⟨⟨X, hX⟩, rfl⟩ rfl (by kernel_rfl) ?_
        simp only [pickL, List.filterMap_cons, List.filterMap_nil, List.getElem?_toArray, List.getElem?_cons_zero, List.getElem?_cons_succ]
        refine (show wpQuiet _ _ _ _ [_, _, _, _, _, _, _, _] _ from ?_)
        repeat (go_big_quiet_step (fail))
        refine wpQuiet_nil ?_
        refine wpAnyH_all (rs := [8, 9]) (by kernel_rfl) (by decide) ?_
        intro i hi
        simp only [List.mem_cons, List.not_mem_nil, or_false] at hi
        rcases hi with rfl | rfl
        · refine wpOp_callG (some 33) rfl rfl (by kernel_rfl) 47 #[.agg #[.slice sa L.length sc], .agg #[.slice ai q.items.length ci, .int .i64 q.mode, .int .i64 q.after, .slice aw q.wh.length cw, .int .i64 q.within, .string q.by_, .slice ar q.ret.length cr], .agg #[.int .i64 yop, .int .i64 yn', .string yv, .string yx, .int .i64 yl, .int .i64 yr], .slice da k dc, .agg #[.slice al E.lists.length cl, .int .i64 E.each, .int .i64 E.at_]] (by kernel_rfl) _ (cc X hX) ?_
          rintro e Z ⟨rfl, gZ⟩
          have hZ := hX.trans (gZ.mono hX.size)
          refine ⟨_, rfl, ⟨⟨Z, hZ⟩, rfl⟩, ?_⟩
          simp only [Act.put, List.setIfInBounds_toArray, List.set_cons_succ, List.set_cons_zero]
          refine wpAnyH_all (rs := [9]) (by kernel_rfl) (by decide) ?_
          intro i hi
          simp only [List.mem_cons, List.not_mem_nil, or_false] at hi
          subst hi
          refine wpOp_val (v := .pointer (some ⟨Z.heap.size, 0, none⟩)) (w' := Z.alloc (.cells #[.bool false, .int .i64 0] 51)) (some 12) rfl rfl rfl (by kernel_rfl) ?_
          have hZ1 := hZ.trans ((galloc (Below.refl Z.heap.size Z) (.cells #[.bool false, .int .i64 0] 51)).mono hZ.size)
          have bZ1 := Bk.new Z #[.bool false, .int .i64 0] 51
          refine ⟨⟨⟨_, hZ1⟩, rfl⟩, ?_⟩
          simp only [Act.put, List.setIfInBounds_toArray, List.set_cons_succ, List.set_cons_zero]
          refine wpAnyH_all (rs := [10]) (by kernel_rfl) (by decide) ?_
          intro i hi
          simp only [List.mem_cons, List.not_mem_nil, or_false] at hi
          subst hi
          have tt : World.there (Z.alloc (.cells #[.bool false, .int .i64 0] 51)) Z.heap.size 0 2 := fun j hj => by
            rcases (show j = 0 ∨ j = 1 by omega) with rfl | rfl
            · exact ⟨by rw [Nat.add_zero, bZ1.at2.1]; rfl, bZ1.free _⟩
            · exact ⟨by rw [Nat.zero_add, bZ1.at2.2]; rfl, bZ1.free _⟩
          have hW2 : Below wr.heap.size wr (World.setCells (Z.alloc (.cells #[.bool false, .int .i64 0] 51)) Z.heap.size 0 [.bool yk, .int .i64 yn]) := gsetCells hZ1 (show wr.heap.size ≤ Z.heap.size from hZ.size) _ _
          have bW2 : Bk (World.setCells (Z.alloc (.cells #[.bool false, .int .i64 0] 51)) Z.heap.size 0 [.bool yk, .int .i64 yn]) Z.heap.size #[.bool yk, .int .i64 yn] 51 := Bk.setCells (cs' := #[.bool yk, .int .i64 yn]) bZ1 rfl
          refine wpOp_store none rfl rfl rfl 51 (.tmp 12) (.tmp 33) rfl Z.heap.size 0 #[.bool yk, .int .i64 yn] rfl rfl tt (by kernel_rfl) (by kernel_rfl) ?_
          refine ⟨⟨⟨_, hW2⟩, rfl⟩, ?_⟩
          simp only [Act.put, List.setIfInBounds_toArray, List.set_cons_succ, List.set_cons_zero]
          refine wpAnyH_done (by kernel_rfl) ?_ _
          try simp only [Exit.then]
          go_step
          go_meet
          case rel => exact ⟨Z.heap.size, rfl, bW2, hW2⟩
        · refine wpOp_val (v := .pointer (some ⟨X.heap.size, 0, none⟩)) (w' := X.alloc (.cells #[.bool false, .int .i64 0] 51)) (some 12) rfl rfl rfl (by kernel_rfl) ?_
          have hX1 := hX.trans ((galloc (Below.refl X.heap.size X) (.cells #[.bool false, .int .i64 0] 51)).mono hX.size)
          have bX1 := Bk.new X #[.bool false, .int .i64 0] 51
          refine ⟨⟨⟨_, hX1⟩, rfl⟩, ?_⟩
          simp only [Act.put, List.setIfInBounds_toArray, List.set_cons_succ, List.set_cons_zero]
          refine wpAnyH_all (rs := [8]) (by kernel_rfl) (by decide) ?_
          intro i hi
          simp only [List.mem_cons, List.not_mem_nil, or_false] at hi
          subst hi
          refine wpOp_callG (some 33) rfl rfl (by kernel_rfl) 47 #[.agg #[.slice sa L.length sc], .agg #[.slice ai q.items.length ci, .int .i64 q.mode, .int .i64 q.after, .slice aw q.wh.length cw, .int .i64 q.within, .string q.by_, .slice ar q.ret.length cr], .agg #[.int .i64 yop, .int .i64 yn', .string yv, .string yx, .int .i64 yl, .int .i64 yr], .slice da k dc, .agg #[.slice al E.lists.length cl, .int .i64 E.each, .int .i64 E.at_]] (by kernel_rfl) _ (cc _ hX1) ?_
          rintro e Z ⟨rfl, gZ⟩
          have hZ := hX1.trans (gZ.mono hX1.size)
          refine ⟨_, rfl, ⟨⟨Z, hZ⟩, rfl⟩, ?_⟩
          simp only [Act.put, List.setIfInBounds_toArray, List.set_cons_succ, List.set_cons_zero]
          refine wpAnyH_all (rs := [10]) (by kernel_rfl) (by decide) ?_
          intro i hi
          simp only [List.mem_cons, List.not_mem_nil, or_false] at hi
          subst hi
          have bZ1 := bX1.keep gZ
          have tt : World.there Z X.heap.size 0 2 := fun j hj => by
            rcases (show j = 0 ∨ j = 1 by omega) with rfl | rfl
            · exact ⟨by rw [Nat.add_zero, bZ1.at2.1]; rfl, bZ1.free _⟩
            · exact ⟨by rw [Nat.zero_add, bZ1.at2.2]; rfl, bZ1.free _⟩
          have hW2 : Below wr.heap.size wr (World.setCells Z X.heap.size 0 [.bool yk, .int .i64 yn]) := gsetCells hZ (show wr.heap.size ≤ X.heap.size from hX.size) _ _
          have bW2 : Bk (World.setCells Z X.heap.size 0 [.bool yk, .int .i64 yn]) X.heap.size #[.bool yk, .int .i64 yn] 51 := Bk.setCells (cs' := #[.bool yk, .int .i64 yn]) bZ1 rfl
          refine wpOp_store none rfl rfl rfl 51 (.tmp 12) (.tmp 33) rfl X.heap.size 0 #[.bool yk, .int .i64 yn] rfl rfl tt (by kernel_rfl) (by kernel_rfl) ?_
          refine ⟨⟨⟨_, hW2⟩, rfl⟩, ?_⟩
          simp only [Act.put, List.setIfInBounds_toArray, List.set_cons_succ, List.set_cons_zero]
          refine wpAnyH_done (by kernel_rfl) ?_ _
          try simp only [Exit.then]
          go_step
          go_meet
          case rel => exact ⟨X.heap.size, rfl, bW2, hW2⟩
      case rest =>
        obtain ⟨b, rfl, BB, GW⟩ := hcut
        obtain ⟨z0, z1⟩ := BB.at2
        have Ow := own_keep O GW
        have B0 := b0.keep GW
        have B1 := b1.keep GW
        have B2 := b2.keep GW
        have B3 := b3.keep GW
        have G2 := gtrans G GW
        have zw := GW.size
        clear p0 p1 p2 p3 p4 p5 r0 r1 r2 r3 r4 r5 r6 u0 u1 u2 ss hne0 x0 x1 x2 x3 x4 x5 q0 q1 q2 q3 q4 q5 q6 t0 t1 t2 s0 cc b0 b1 b2 b3 O
        go_wp2_with (at_builtin; refine wpList_append_own _ rfl (.tmp 34) (.tmp 36) 92 rfl (w.heap.size + 4) 51 i9 (.agg #[.bool false, .int .i64 0]) 2 16 Tryz.underlying92 j9 j0 j1 j2 rfl (by decide) _ _ _ rfl (Ow.alloc _) ⟨wc.heap.size, 0, none⟩ 1 1 [.bool yk, .int .i64 yn] rfl rfl (two_newE rfl _ _ _) (fun y hy => by simp at hy; rcases hy with rfl | rfl <;> rfl) ?c3 ?c4 ?c5 ?_)
        case c3 => unfold maxLen; omega
        case c4 => omega
        case c5 => simp; omega
        intro v' w1 own' hgrow _
        have O2 : w1.ownsRow (w.heap.size + 4) 51 2 v' (k + 1) (fl valC (valK L M E ns (k + 1))) := by rw [HS.out, fl_app]; exact own'
        have hne : ∀ j, j < w.heap.size + 4 → w1.heap[j]? = _ := fun j hj => hgrow.block j (by simp; omega) (fun e => by have := (Ow.lt _ e.symm).1; omega)
        have fin : EvR L M E ns w #[.slice sa L.length sc] #[.slice ai q.items.length ci, .int .i64 q.mode, .int .i64 q.after, .slice aw q.wh.length cw, .int .i64 q.within, .string q.by_, .slice ar q.ret.length cr] #[.slice al E.lists.length cl, .int .i64 E.each, .int .i64 E.at_] v' (.int .i64 ((k : Int) + 1)) w1 := ⟨⟨k + 1, by omega, by go_num, O2⟩, (hne w.heap.size (by omega)).trans (B0.alloc _), (hne (w.heap.size + 1) (by omega)).trans (B1.alloc _), (hne (w.heap.size + 2) (by omega)).trans (B2.alloc _), (hne (w.heap.size + 3) (by omega)).trans (B3.alloc _), (galloc G2 _).grown hgrow (by simp; omega) (fun r e => by have := (Ow.lt _ e).1; omega)⟩
        have HF := show Hid _ from fin
        clear fin O2 own' hne hgrow B0 B1 B2 B3 Ow BB z0 z1 HS
        go_wp2
        go_roundw
        case rel => exact HF.out
        case measure => simp [intOf]; omega
    · obtain rfl : k = ns.length := by omega
      obtain ⟨m, hm⟩ : ∃ m, ns.length = m + 1 := ⟨ns.length - 1, by omega⟩
      have O' : wr.ownsRow (w.heap.size + 4) 51 2 (.slice da ns.length dc) (valK L M E ns ns.length).length (fl valC (valK L M E ns ns.length)) := by rw [hvl]; exact O
      obtain ⟨g, j, rfl, hj, hj2, v0, v1⟩ := dn_of O' (j := m) (by rw [hvl]; omega)
      have hjm : j = m := by omega
      subst hjm
      have hv : (valK L M E ns ns.length).getD j noV2 = (xk, xn) := by
        rw [valK_at _ _ _ _ _ _ (by omega), ← HEV.out]
        congr 1
        omega
      rw [hv] at v0 v1
      dsimp only at v0 v1
      obtain ⟨r0, r1⟩ := show _ ∧ _ from ⟨b3.at0, b3.at1⟩
      have rf := b3.free
      have hidx : (ns.length : Int) - 1 = (j : Int) := by omega
      have hmi : (j : Int) < (ns.length : Int) := by omega
      have hnn : ¬ (ns.length : Int) < (ns.length : Int) := by omega
      clear hlt hv O O' hm hj hj2 HEV cV
      go_wp2
      refine bodyPost_ret (v := .agg #[.bool xk, .int .i64 xn]) (by simp [results, Tryz.results22, go_sem, r0, r1]) rfl ⟨rfl, ?_⟩
      exact gset (gset G (by simp; omega) _) (by simp; omega) _

end Go.Proofs.YtglagbedgjkdbaaGreatDoor
