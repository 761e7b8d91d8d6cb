/- Two trees joined by an operator: a tree; runnable just if the kinds fit; what it comes to. And what goes with it: 3 texts in one. -/
import Derived.Test.YtglagbedgjkdbaaGreatDoorJa21
namespace Go.Proofs.YtglagbedgjkdbaaGreatDoor
open Go.RowKit Go.BigFrame Go.Proofs.YtglagbedgjkdbaaGreatDoor.Ev
set_option linter.unusedVariables false
set_option linter.unusedSimpArgs false

def upI (n : Nat) (z : Int) : Int := if 0 ≤ z then z + (n : Int) else z
def upN (n : Nat) (x : Nd) : Nd := ⟨x.op, x.n, x.v, x.x, upI n x.l, upI n x.r⟩
theorem upI_neg {n : Nat} {z : Int} : upI n z = -1 ↔ z = -1 := by unfold upI; split <;> omega
theorem leaf_up (n : Nat) (x : Nd) : leafN (upN n x) = leafN x := by
  unfold leafN upN
  exact decide_eq_decide.2 (by dsimp only; rw [upI_neg, upI_neg])
theorem bare_up (n : Nat) (x : Nd) : bareN (upN n x) = bareN x := rfl
theorem getD_app2 (pre bs : List Int) (n i : Nat) (hp : pre.length = n) (hi : i < bs.length) : (pre ++ bs.map (· + (n : Int))).getD (n + i) 0 = bs.getD i 0 + (n : Int) := by
  rw [List.getD_eq_getElem?_getD, List.getElem?_append_right (by omega), hp, Nat.add_sub_cancel_left, List.getElem?_map, List.getD_eq_getElem?_getD, List.getElem?_eq_getElem hi]
  rfl
theorem nodeO_up {n : Nat} {x : Nd} {bs pre : List Int} (hp : pre.length = n) (hB : Bgs bs) {c : Int} (h : nodeO x bs = some c) : nodeO (upN n x) (pre ++ bs.map (· + (n : Int))) = some (c + (n : Int)) := by
  have hlen : (pre ++ bs.map (· + (n : Int))).length = n + bs.length := by simp [hp]
  unfold nodeO at h ⊢
  rw [leaf_up, hlen]
  by_cases hf : leafN x = true
  · rw [if_pos hf] at h ⊢
    cases h
    congr 1
    omega
  rw [if_neg hf] at h ⊢
  show (if x.op = 12 ∨ x.op = 13 then _ else _) = _
  by_cases h1 : x.op = 12 ∨ x.op = 13
  · rw [if_pos h1] at h ⊢
    split at h
    · rename_i hc
      obtain ⟨c1, c2, c3, c4⟩ := hc
      have hpos : 0 < bs.length := List.length_pos_iff.2 c2
      cases h
      rw [if_pos ⟨c1, (fun e => by have := congrArg List.length e; rw [hlen, List.length_nil] at this; omega), (by show upI n x.l = _; unfold upI; rw [if_pos (by omega)]; omega), (by show upI n x.r = _; rw [upI_neg]; exact c4)⟩, show n + bs.length - 1 = n + (bs.length - 1) by omega, getD_app2 pre bs n _ hp (by omega)]
    · cases h
  rw [if_neg h1] at h ⊢
  show (if 14 ≤ x.op ∧ x.op ≤ 26 then _ else _) = _
  split at h
  · rename_i h2
    rw [if_pos h2]
    split at h
    · rename_i hc
      obtain ⟨c1, c2, c3, c4, c5⟩ := hc
      have hpos : 0 < bs.length := List.length_pos_iff.2 c2
      have hb := hB (bs.length - 1) (by omega)
      cases h
      have e1 : (pre ++ bs.map (· + (n : Int))).getD (n + bs.length - 1) 0 = bs.getD (bs.length - 1) 0 + (n : Int) := by rw [show n + bs.length - 1 = n + (bs.length - 1) by omega, getD_app2 pre bs n _ hp (by omega)]
      rw [e1]
      rw [if_pos ⟨c1, (fun e => by have := congrArg List.length e; rw [hlen, List.length_nil] at this; omega), (by show upI n x.r = _; unfold upI; rw [if_pos (by omega)]; omega), (by omega), (by show upI n x.l = _; unfold upI; rw [if_pos (by omega)]; omega)⟩, show (bs.getD (bs.length - 1) 0 + (n : Int) - 1).toNat = n + (bs.getD (bs.length - 1) 0 - 1).toNat by omega, getD_app2 pre bs n _ hp (by omega)]
    · cases h
  · cases h
theorem begsO_up {n : Nat} : ∀ (b : List Nd) (pre bs cs : List Int), pre.length = n → Bgs bs → begsO b bs = some cs → begsO (b.map (upN n)) (pre ++ bs.map (· + (n : Int))) = some (pre ++ cs.map (· + (n : Int)))
  | [], pre, bs, cs, hp, hB, h => by
    simp [begsO] at h
    subst h
    rfl
  | x :: t, pre, bs, cs, hp, hB, h => by
    unfold begsO at h
    cases hn : nodeO x bs with
    | none => rw [hn] at h; cases h
    | some c =>
      rw [hn] at h
      show (match nodeO (upN n x) (pre ++ bs.map (· + (n : Int))) with | some b => begsO (t.map (upN n)) (pre ++ bs.map (· + (n : Int)) ++ [b]) | none => none) = _
      rw [nodeO_up hp hB hn]
      have := begsO_up t pre (bs ++ [c]) cs hp (hB.more hn) h
      rw [List.map_append] at this
      show begsO (t.map (upN n)) (pre ++ bs.map (· + (n : Int)) ++ [c + (n : Int)]) = _
      rw [List.append_assoc]
      exact this
theorem begsO_cat : ∀ (a b : List Nd) (pre : List Int), begsO (a ++ b) pre = (begsO a pre).bind (begsO b)
  | [], b, pre => rfl
  | x :: t, b, pre => by
    show (match nodeO x pre with | some c => begsO (t ++ b) (pre ++ [c]) | none => none) = _
    rw [show begsO (x :: t) pre = (match nodeO x pre with | some c => begsO t (pre ++ [c]) | none => none) from rfl]
    cases nodeO x pre with
    | none => rfl
    | some c => exact begsO_cat t b _
/-- A tree's begins, and the root's. -/
theorem tree_beg0 {a : List Nd} (h : treeB a = true) : ∃ bs, begsO a [] = some bs ∧ bs.length = a.length ∧ 0 < a.length ∧ bs.getD (a.length - 1) 0 = 0 := by
  unfold treeB at h
  cases hb : begsO a [] with
  | none => rw [hb] at h; cases h
  | some bs =>
    rw [hb] at h
    have := of_decide_eq_true h
    have hl := begsO_len a [] bs hb
    exact ⟨bs, rfl, by simpa using hl, this.1, this.2⟩
theorem map_jN {n : Nat} {b : List Nd} (hb : treeB b = true) (hl : n + b.length ≤ 4611686018427387904) : b.map (jN n) = b.map (upN n) := by
  apply List.map_congr_left
  intro x hx
  obtain ⟨i, hi, rfl⟩ := List.getElem_of_mem hx
  obtain ⟨h1, h2, _⟩ := tree_bnd hb hi
  rw [List.getD_eq_getElem?_getD, List.getElem?_eq_getElem hi] at h1 h2
  dsimp only [Option.getD_some] at h1 h2
  have key : ∀ z : Int, z < (i : Int) → jW n z = upI n z := fun z hz => by
    unfold jW upI wrap64
    split
    · omega
    · rfl
  unfold jN upN
  rw [key _ h1, key _ h2]
def joinU (op : Int) (a b : List Nd) : List Nd := (if op = 12 ∨ op = 13 then a else a ++ b.map (upN a.length)) ++ [joinE op a b]
theorem joinL_U {op : Int} {a b : List Nd} (hb : treeB b = true) (hl : a.length + b.length ≤ 4611686018427387904) : joinL op a b = joinU op a b := by
  unfold joinL joinU
  rw [map_jN hb hl]
theorem tree_join {op : Int} {a b : List Nd} (ha : treeB a = true) (hb : treeB b = true) (h1 : 12 ≤ op) (h2 : op ≤ 26) : treeB (joinU op a b) = true := by
  obtain ⟨az, ea, la, pa, ra⟩ := tree_beg0 ha
  obtain ⟨bs, eb, lb, pb, rb⟩ := tree_beg0 hb
  unfold joinU
  by_cases hu : op = 12 ∨ op = 13
  · rw [if_pos hu]
    have hE : joinE op a b = ⟨op, 0, eS, eS, (a.length : Int) - 1, -1⟩ := by unfold joinE; rw [if_pos hu]
    have hn : nodeO (joinE op a b) az = some 0 := by
      rw [hE]
      unfold nodeO
      rw [if_neg (by unfold leafN; intro h; have := of_decide_eq_true h; dsimp only at this; omega), if_pos hu, if_pos ⟨rfl, (fun e => by rw [e, List.length_nil] at la; omega), (by dsimp only; rw [la]), rfl⟩, la, ra]
    have hbe : begsO (a ++ [joinE op a b]) [] = some (az ++ [0]) := by
      rw [begsO_cat, ea]
      show (match nodeO (joinE op a b) az with | some c => some (az ++ [c]) | none => none) = _
      rw [hn]
    unfold treeB
    rw [hbe]
    refine decide_eq_true ⟨by simp, ?_⟩
    rw [List.length_append, List.length_singleton, Nat.add_sub_cancel, List.getD_eq_getElem?_getD, List.getElem?_append_right (by omega), la, Nat.sub_self]
    rfl
  · rw [if_neg hu]
    have hE : joinE op a b = ⟨op, 0, eS, eS, (a.length : Int) - 1, (a.length : Int) + (b.length : Int) - 1⟩ := by unfold joinE; rw [if_neg hu]
    have hup := begsO_up (n := a.length) b az [] bs la Bgs.nil eb
    rw [List.map_nil, List.append_nil] at hup
    have hlen : (az ++ bs.map (· + (a.length : Int))).length = a.length + b.length := by simp [la, lb]
    have hlast : (az ++ bs.map (· + (a.length : Int))).getD (a.length + b.length - 1) 0 = (a.length : Int) := by
      rw [show a.length + b.length - 1 = a.length + (b.length - 1) by omega, getD_app2 az bs a.length _ la (by omega), rb]
      omega
    have hn : nodeO (joinE op a b) (az ++ bs.map (· + (a.length : Int))) = some 0 := by
      rw [hE]
      unfold nodeO
      rw [if_neg (by unfold leafN; intro h; have := of_decide_eq_true h; dsimp only at this; omega), if_neg hu, if_pos (show 14 ≤ op ∧ op ≤ 26 by omega), hlen, hlast, if_pos ⟨rfl, (fun e => by have := congrArg List.length e; rw [hlen, List.length_nil] at this; omega), (by dsimp only; omega), (by omega), rfl⟩, show ((a.length : Int) - 1).toNat = a.length - 1 by omega, List.getD_eq_getElem?_getD, List.getElem?_append_left (by omega), ← List.getD_eq_getElem?_getD, ra]
    have hbe : begsO (a ++ b.map (upN a.length) ++ [joinE op a b]) [] = some (az ++ bs.map (· + (a.length : Int)) ++ [0]) := by
      rw [begsO_cat, begsO_cat, ea]
      show ((begsO (b.map (upN a.length)) az).bind fun pre => match nodeO (joinE op a b) pre with | some c => some (pre ++ [c]) | none => none) = _
      rw [hup]
      show (match nodeO (joinE op a b) (az ++ bs.map (· + (a.length : Int))) with | some c => some (az ++ bs.map (· + (a.length : Int)) ++ [c]) | none => none) = _
      rw [hn]
    unfold treeB
    rw [hbe]
    refine decide_eq_true ⟨by simp; omega, ?_⟩
    rw [show (a ++ b.map (upN a.length) ++ [joinE op a b]).length - 1 = a.length + b.length by simp, List.getD_eq_getElem?_getD, List.getElem?_append_right (by omega), hlen, Nat.sub_self]
    rfl

/-! What stands where in the joined list. -/
theorem getD_pre2 {β : Type} (a c : List β) (z : β) {k : Nat} (h : k < a.length) : (a ++ c).getD k z = a.getD k z := by
  rw [List.getD_eq_getElem?_getD, List.getElem?_append_left h, ← List.getD_eq_getElem?_getD]
theorem getD_suf2 {β : Type} (a c : List β) (z : β) (k : Nat) : (a ++ c).getD (a.length + k) z = c.getD k z := by
  rw [List.getD_eq_getElem?_getD, List.getElem?_append_right (by omega), Nat.add_sub_cancel_left, ← List.getD_eq_getElem?_getD]
theorem getD_up (n : Nat) (b : List Nd) (k : Nat) (h : k < b.length) : (b.map (upN n)).getD k noNd = upN n (b.getD k noNd) := by
  rw [List.getD_eq_getElem?_getD, List.getElem?_map, List.getD_eq_getElem?_getD, List.getElem?_eq_getElem h]
  rfl
/-- The values of a list hang on its nodes alone, from the first on. -/
theorem valK_pre (L : List Ty) (M : ByteArray → Option Int) (E : Envr) (a c : List Nd) : ∀ k, k ≤ a.length → valK L M E (a ++ c) k = valK L M E a k
  | 0, _ => rfl
  | k + 1, h => by
    unfold valK
    rw [valK_pre L M E a c k (by omega), getD_pre2 a c noNd (by omega)]
theorem nodeW_up (L : List Ty) (M : ByteArray → Option Int) (E : Envr) (da db : List V2) (x : Nd) (hl : 12 ≤ x.op → 0 ≤ x.l) (hr : 14 ≤ x.op → 0 ≤ x.r) : nodeW L M E (da ++ db) (upN da.length x) = nodeW L M E db x := by
  have key : ∀ z : Int, 0 ≤ z → (da ++ db).getD (upI da.length z).toNat noV2 = db.getD z.toNat noV2 := fun z hz => by
    unfold upI
    rw [if_pos hz, show (z + (da.length : Int)).toNat = da.length + z.toNat by omega, getD_suf2]
  unfold nodeW
  show (if x.op < 4 then _ else _) = _
  split
  · rfl
  show (if x.op = 5 then _ else _) = _
  split
  · rfl
  show (if x.op ≤ 11 then _ else _) = _
  split
  · rfl
  show (if x.op = 12 then negW ((da ++ db).getD (upI da.length x.l).toNat noV2) else if x.op = 13 then notW ((da ++ db).getD (upI da.length x.l).toNat noV2) else applyV x.op ((da ++ db).getD (upI da.length x.l).toNat noV2) ((da ++ db).getD (upI da.length x.r).toNat noV2)) = _
  rw [key _ (hl (by omega))]
  split
  · rfl
  split
  · rfl
  · rw [key _ (hr (by omega))]
theorem tree_ops {b : List Nd} (hb : treeB b = true) {i : Nat} (hi : i < b.length) : (12 ≤ (b.getD i noNd).op → 0 ≤ (b.getD i noNd).l) ∧ (14 ≤ (b.getD i noNd).op → 0 ≤ (b.getD i noNd).r) := by
  obtain ⟨bs, hbe, _⟩ := tree_begs hb
  have k := kin_of hbe i hi
  rcases k.how with ⟨h1, _⟩ | ⟨h1, e0, e1, _⟩ | ⟨h1, e0, e1, e2, e3, _⟩
  · exact ⟨fun h => by omega, fun h => by omega⟩
  · exact ⟨fun h => by omega, fun h => by omega⟩
  · exact ⟨fun h => by omega, fun h => by omega⟩
theorem valK_suf (L : List Ty) (M : ByteArray → Option Int) (E : Envr) (a b c : List Nd) (hb : treeB b = true) : ∀ k, k ≤ b.length → valK L M E (a ++ b.map (upN a.length) ++ c) (a.length + k) = valK L M E a a.length ++ valK L M E b k
  | 0, _ => by
    show valK L M E (a ++ b.map (upN a.length) ++ c) a.length = valK L M E a a.length ++ []
    rw [List.append_nil, List.append_assoc, valK_pre L M E a _ a.length (Nat.le_refl _)]
  | k + 1, h => by
    have ih := valK_suf L M E a b c hb k (by omega)
    show valK L M E (a ++ b.map (upN a.length) ++ c) (a.length + k) ++ [nodeW L M E (valK L M E (a ++ b.map (upN a.length) ++ c) (a.length + k)) ((a ++ b.map (upN a.length) ++ c).getD (a.length + k) noNd)] = _
    rw [ih, List.append_assoc a, getD_suf2, getD_pre2 _ c noNd (by rw [List.length_map]; omega), getD_up _ b k (by omega)]
    have hl := valK_len L M E a a.length
    have ho := tree_ops hb (show k < b.length by omega)
    have := nodeW_up L M E (valK L M E a a.length) (valK L M E b k) (b.getD k noNd) ho.1 ho.2
    rw [hl] at this
    rw [this, List.append_assoc]
    rfl
theorem joinU_len (op : Int) (a b : List Nd) : (joinU op a b).length = (if op = 12 ∨ op = 13 then a.length else a.length + b.length) + 1 := by
  unfold joinU
  split
  · simp
  · simp; omega
/-- What the joined tree comes to. -/
theorem valA_join (L : List Ty) (M : ByteArray → Option Int) (E : Envr) {op : Int} {a b : List Nd} (ha : treeB a = true) (hb : treeB b = true) (h1 : 12 ≤ op) (h2 : op ≤ 26) :
    valA L M E (joinU op a b) ((joinU op a b).length - 1) = if op = 12 then negW (valA L M E a (a.length - 1)) else if op = 13 then notW (valA L M E a (a.length - 1)) else applyV op (valA L M E a (a.length - 1)) (valA L M E b (b.length - 1)) := by
  obtain ⟨_, _, _, pa, _⟩ := tree_beg0 ha
  obtain ⟨_, _, _, pb, _⟩ := tree_beg0 hb
  have hA : (valK L M E a a.length).getD (a.length - 1) noV2 = valA L M E a (a.length - 1) := valK_at L M E a _ _ (by omega)
  rw [joinU_len]
  by_cases hu : op = 12 ∨ op = 13
  · have hJ : joinU op a b = a ++ [⟨op, 0, eS, eS, (a.length : Int) - 1, -1⟩] := by unfold joinU joinE; rw [if_pos hu, if_pos hu]
    rw [if_pos hu, Nat.add_sub_cancel, hJ]
    show nodeW L M E (valK L M E (a ++ _) a.length) ((a ++ _).getD a.length noNd) = _
    rw [valK_pre L M E a _ a.length (Nat.le_refl _), show a.length = a.length + 0 from rfl, getD_suf2]
    show nodeW L M E (valK L M E a (a.length + 0)) ⟨op, 0, eS, eS, ((a.length + 0 : Nat) : Int) - 1, -1⟩ = _
    rw [Nat.add_zero]
    unfold nodeW
    dsimp only
    rw [if_neg (by omega), if_neg (by omega), if_neg (by omega), show ((a.length : Int) - 1).toNat = a.length - 1 by omega, hA]
    rcases hu with rfl | rfl
    · rfl
    · rfl
  · have hJ : joinU op a b = a ++ b.map (upN a.length) ++ [⟨op, 0, eS, eS, (a.length : Int) - 1, (a.length : Int) + (b.length : Int) - 1⟩] := by unfold joinU joinE; rw [if_neg hu, if_neg hu]
    rw [if_neg hu, Nat.add_sub_cancel, hJ]
    show nodeW L M E (valK L M E (a ++ b.map (upN a.length) ++ _) (a.length + b.length)) ((a ++ b.map (upN a.length) ++ _).getD (a.length + b.length) noNd) = _
    have hg : (a ++ b.map (upN a.length) ++ [(⟨op, 0, eS, eS, (a.length : Int) - 1, (a.length : Int) + (b.length : Int) - 1⟩ : Nd)]).getD (a.length + b.length) noNd = ⟨op, 0, eS, eS, (a.length : Int) - 1, (a.length : Int) + (b.length : Int) - 1⟩ := by
      have := getD_suf2 (a ++ b.map (upN a.length)) [(⟨op, 0, eS, eS, (a.length : Int) - 1, (a.length : Int) + (b.length : Int) - 1⟩ : Nd)] noNd 0
      rw [List.length_append, List.length_map, Nat.add_zero] at this
      exact this
    rw [valK_suf L M E a b _ hb b.length (Nat.le_refl _), hg]
    have hB : (valK L M E b b.length).getD (b.length - 1) noV2 = valA L M E b (b.length - 1) := valK_at L M E b _ _ (by omega)
    have hl := valK_len L M E a a.length
    have e1 : (valK L M E a a.length ++ valK L M E b b.length).getD (a.length - 1) noV2 = valA L M E a (a.length - 1) := by rw [getD_pre2 _ _ _ (by omega), hA]
    have e2 : (valK L M E a a.length ++ valK L M E b b.length).getD (a.length + b.length - 1) noV2 = valA L M E b (b.length - 1) := by
      have := getD_suf2 (valK L M E a a.length) (valK L M E b b.length) noV2 (b.length - 1)
      rw [hl, hB] at this
      rw [show a.length + b.length - 1 = a.length + (b.length - 1) by omega, this]
    unfold nodeW
    dsimp only
    rw [if_neg (by omega), if_neg (by omega), if_neg (by omega), if_neg (by omega), if_neg (by omega), if_neg (by omega), if_neg (by omega), show ((a.length : Int) - 1).toNat = a.length - 1 by omega, show ((a.length : Int) + (b.length : Int) - 1).toNat = a.length + b.length - 1 by omega, e1, e2]

/-! Is it runnable? -/
theorem kKid_pre {a c : List Nd} {op k : Int} (h : k < (a.length : Int)) : kKid (a ++ c) op k = kKid a op k := by
  unfold kKid
  by_cases h0 : 0 ≤ k
  · rw [getD_pre2 a c noNd (by omega)]
  · rw [decide_eq_false h0, Bool.false_and, Bool.false_and]
theorem runN_pre {M : ByteArray → Option Int} {a c : List Nd} {x : Nd} (hl : x.l < (a.length : Int)) (hr : x.r < (a.length : Int)) : runN M (a ++ c) x = runN M a x := by
  unfold runN kFit
  rw [kKid_pre hl, kKid_pre hr]
theorem kKid_up {a b c : List Nd} {op k : Int} (h : k < (b.length : Int)) : kKid (a ++ b.map (upN a.length) ++ c) op (upI a.length k) = kKid b op k := by
  unfold kKid
  by_cases h0 : 0 ≤ k
  · have e : upI a.length k = k + (a.length : Int) := if_pos h0
    rw [e, show (k + (a.length : Int)).toNat = a.length + k.toNat by omega, List.append_assoc, getD_suf2, getD_pre2 _ c noNd (by rw [List.length_map]; omega), getD_up _ b _ (by omega), decide_eq_true h0, decide_eq_true (show 0 ≤ k + (a.length : Int) by omega)]
    rfl
  · have e : upI a.length k = k := if_neg h0
    rw [e, decide_eq_false h0, Bool.false_and, Bool.false_and]
theorem runN_up {M : ByteArray → Option Int} {a b c : List Nd} {x : Nd} (hl : x.l < (b.length : Int)) (hr : x.r < (b.length : Int)) : runN M (a ++ b.map (upN a.length) ++ c) (upN a.length x) = runN M b x := by
  unfold runN kFit
  show ((if kKid _ x.op (upI a.length x.l) = true then false else if kKid _ x.op (upI a.length x.r) = true then false else true) && _) = _
  rw [kKid_up hl, kKid_up hr]
  rfl
theorem run_split {M : ByteArray → Option Int} {t : List Nd} (h : runB M t = true) : treeB t = true ∧ ∀ i, i < t.length → runN M t (t.getD i noNd) = true := by
  unfold runB at h
  rw [Bool.and_eq_true, List.all_eq_true] at h
  exact ⟨h.1, fun i hi => h.2 _ (by rw [List.getD_eq_getElem?_getD, List.getElem?_eq_getElem hi]; exact List.getElem_mem hi)⟩
def lastOp (a : List Nd) : Int := (a.getD (a.length - 1) noNd).op
/-- Do the kinds fit? -/
def fitJ (op : Int) (a b : List Nd) : Bool := (kTr (lastOp a) == kJoin op) && (decide (op < 14) || (kTr (lastOp b) == kJoin op))
theorem all_pre {M : ByteArray → Option Int} {a c : List Nd} (ha : runB M a = true) : a.all (runN M (a ++ c)) = true := by
  obtain ⟨ht, h⟩ := run_split ha
  rw [List.all_eq_true]
  intro x hx
  obtain ⟨i, hi, rfl⟩ := List.getElem_of_mem hx
  have h1 := h i hi
  have h2 := tree_bnd ht hi
  rw [List.getD_eq_getElem?_getD, List.getElem?_eq_getElem hi] at h1 h2
  dsimp only [Option.getD_some] at h1 h2
  rw [runN_pre (by omega) (by omega)]
  exact h1
theorem all_up {M : ByteArray → Option Int} {a b c : List Nd} (hb : runB M b = true) : (b.map (upN a.length)).all (runN M (a ++ b.map (upN a.length) ++ c)) = true := by
  obtain ⟨ht, h⟩ := run_split hb
  rw [List.all_eq_true]
  intro y hy
  obtain ⟨x, hx, rfl⟩ := List.mem_map.1 hy
  obtain ⟨i, hi, rfl⟩ := List.getElem_of_mem hx
  have h1 := h i hi
  have h2 := tree_bnd ht hi
  rw [List.getD_eq_getElem?_getD, List.getElem?_eq_getElem hi] at h1 h2
  dsimp only [Option.getD_some] at h1 h2
  rw [runN_up (by omega) (by omega)]
  exact h1
theorem run_join {M : ByteArray → Option Int} {op : Int} {a b : List Nd} (ha : runB M a = true) (hb : runB M b = true) (h1 : 12 ≤ op) (h2 : op ≤ 26) : runB M (joinU op a b) = fitJ op a b := by
  have ta := (run_split ha).1
  have tb := (run_split hb).1
  obtain ⟨_, _, _, pa, _⟩ := tree_beg0 ta
  obtain ⟨_, _, _, pb, _⟩ := tree_beg0 tb
  have hm : kMent op = false := decide_eq_false (by omega)
  unfold runB
  rw [tree_join ta tb h1 h2, Bool.true_and]
  by_cases hu : op = 12 ∨ op = 13
  · have hJ : joinU op a b = a ++ [⟨op, 0, eS, eS, (a.length : Int) - 1, -1⟩] := by unfold joinU joinE; rw [if_pos hu, if_pos hu]
    rw [hJ, List.all_append, all_pre ha, Bool.true_and]
    show (runN M _ _ && true) = _
    rw [Bool.and_true]
    unfold runN kFit fitJ
    dsimp only
    have e1 : kKid (a ++ [(⟨op, 0, eS, eS, (a.length : Int) - 1, -1⟩ : Nd)]) op ((a.length : Int) - 1) = (kTr (lastOp a) != kJoin op) := by
      rw [kKid_pre (by omega)]
      unfold kKid lastOp
      rw [decide_eq_true (by omega), Bool.true_and, show ((a.length : Int) - 1).toNat = a.length - 1 by omega]
    have e2 : kKid (a ++ [(⟨op, 0, eS, eS, (a.length : Int) - 1, -1⟩ : Nd)]) op (-1) = false := rfl
    rw [e1, e2, hm, decide_eq_true (show op < 14 by omega)]
    cases kTr (lastOp a) <;> cases kJoin op <;> rfl
  · have hJ : joinU op a b = a ++ b.map (upN a.length) ++ [⟨op, 0, eS, eS, (a.length : Int) - 1, (a.length : Int) + (b.length : Int) - 1⟩] := by unfold joinU joinE; rw [if_neg hu, if_neg hu]
    rw [hJ, List.all_append, List.all_append, all_up hb, Bool.and_true, List.append_assoc, all_pre ha, Bool.true_and, ← List.append_assoc]
    show (runN M _ _ && true) = _
    rw [Bool.and_true]
    unfold runN kFit fitJ
    dsimp only
    have e1 : kKid (a ++ b.map (upN a.length) ++ [(⟨op, 0, eS, eS, (a.length : Int) - 1, (a.length : Int) + (b.length : Int) - 1⟩ : Nd)]) op ((a.length : Int) - 1) = (kTr (lastOp a) != kJoin op) := by
      rw [List.append_assoc, kKid_pre (by omega)]
      unfold kKid lastOp
      rw [decide_eq_true (by omega), Bool.true_and, show ((a.length : Int) - 1).toNat = a.length - 1 by omega]
    have e2 : kKid (a ++ b.map (upN a.length) ++ [(⟨op, 0, eS, eS, (a.length : Int) - 1, (a.length : Int) + (b.length : Int) - 1⟩ : Nd)]) op ((a.length : Int) + (b.length : Int) - 1) = (kTr (lastOp b) != kJoin op) := by
      have e3 : (a.length : Int) + (b.length : Int) - 1 = upI a.length ((b.length : Int) - 1) := by unfold upI; rw [if_pos (by omega)]; omega
      rw [e3, kKid_up (by omega)]
      unfold kKid lastOp
      rw [decide_eq_true (by omega), Bool.true_and, show ((b.length : Int) - 1).toNat = b.length - 1 by omega]
    rw [e1, e2, hm, decide_eq_false (show ¬ op < 14 by omega)]
    cases kTr (lastOp a) <;> cases kTr (lastOp b) <;> cases kJoin op <;> rfl

end Go.Proofs.YtglagbedgjkdbaaGreatDoor
namespace Go.Proofs.YtglagbedgjkdbaaGreatDoor
open Go.RowKit Go.BigFrame Go.Proofs.YtglagbedgjkdbaaGreatDoor.Ev
set_option linter.unusedVariables false
set_option linter.unusedSimpArgs false

/-- Is the value true? -/
def tru (x : V2) : Bool := rd x.1 x.2 == 2
theorem tru_and (x y : V2) : tru (applyV 25 x y) = (tru x && tru y) := by
  have e : applyV 25 x y = (vK (minI (rd x.1 x.2) (rd y.1 y.2)), vN (minI (rd x.1 x.2) (rd y.1 y.2))) := by
    unfold applyV
    simp
  unfold tru
  rw [e]
  dsimp only
  rcases rd_cases x.1 x.2 with h | h | h <;> rcases rd_cases y.1 y.2 with g | g | g <;> rw [h, g] <;> decide
section
variable {ns : List Nd} {bs : List Int} (K : ∀ i, i < ns.length → Kin ns bs i)
include K
theorem par_at {p i : Nat} (hp : p < ns.length) (hk : Kid ns p i) : parF ns ns.length i = (p : Int) := by
  by_cases h : 0 ≤ parF ns ns.length i
  · obtain ⟨q, e, h1, h2⟩ := parF_kid h
    rw [e, kin_uniq K h1 hp h2 hk]
  · exact absurd hk (parF_none (by omega) p hp)
/-- Below a node that is no AND nothing is a conjunct's root. -/
theorem top_no {r : Nat} (hr : r < ns.length) (ho : (ns.getD r noNd).op ≠ 25) : ∀ d j, r - j = d → bg bs r ≤ j → j < r → topB ns j = false := by
  intro d
  induction d using Nat.strongRecOn with
  | ind d ih =>
    intro j hd h1 h2
    obtain ⟨p, hp, hk, h3, h4⟩ := kin_up K r hr j h1 h2
    have hj : j < ns.length := by omega
    have hk2 := kin_kid K hp hk
    rw [topB_step K j hj, par_at K hp hk, Int.toNat_natCast, decide_eq_false (show ¬ (p : Int) < 0 by omega), Bool.false_or]
    by_cases e : p = r
    · subst e
      rw [decide_eq_false ho, Bool.and_false]
    · rw [ih (r - p) (by omega) p rfl h3 (by omega), Bool.false_and]
theorem top_kid {p i : Nat} (hp : p < ns.length) (hk : Kid ns p i) (ht : topB ns p = true) (ho : (ns.getD p noNd).op = 25) : topB ns i = true := by
  have hk2 := kin_kid K hp hk
  rw [topB_step K i (by omega), par_at K hp hk, Int.toNat_natCast, ht, ho]
  simp
/-- A node with nothing but ANDs above it is true just if each conjunct below it is. -/
theorem conj_all (L : List Ty) (M : ByteArray → Option Int) (E : Envr) : ∀ r, r < ns.length → topB ns r = true →
    (tru (valA L M E ns r) = true ↔ ∀ j, bg bs r ≤ j → j ≤ r → topB ns j = true → (ns.getD j noNd).op ≠ 25 → tru (valA L M E ns j) = true) := by
  intro r
  induction r using Nat.strongRecOn with
  | ind r ih =>
    intro hr ht
    have k := K r hr
    by_cases ho : (ns.getD r noNd).op = 25
    · rcases k.how with ⟨h1, _⟩ | ⟨h1, _⟩ | ⟨_, e0, e1, e2, e3, e⟩
      · omega
      · omega
      have kr := (K (r - 1) (by omega)).le
      have kl := (K (bg bs (r - 1) - 1) (by omega)).le
      have ir := ih (r - 1) (by omega) (by omega) (top_kid K hr (.inr e2) ht ho)
      have il := ih (bg bs (r - 1) - 1) (by omega) (by omega) (top_kid K hr (.inl e3) ht ho)
      have hv : valA L M E ns r = applyV 25 (valA L M E ns (bg bs (r - 1) - 1)) (valA L M E ns (r - 1)) := by
        conv => lhs; unfold valA nodeW
        rw [if_neg (by omega), if_neg (by omega), if_neg (by omega), if_neg (by omega), if_neg (by omega), e2, e3, ho, Int.toNat_natCast, Int.toNat_natCast, valK_at L M E ns _ _ (by omega), valK_at L M E ns _ _ (by omega)]
      rw [hv, tru_and, Bool.and_eq_true, il, ir]
      constructor
      · rintro ⟨hl, hh⟩ j h1 h2 h3 h4
        by_cases ej : j = r
        · subst ej; exact absurd ho h4
        by_cases hjr : bg bs (r - 1) ≤ j
        · exact hh j hjr (by omega) h3 h4
        · exact hl j (by omega) (by omega) h3 h4
      · intro h
        exact ⟨fun j h1 h2 => h j (by omega) (by omega), fun j h1 h2 => h j (by omega) (by omega)⟩
    · constructor
      · intro h j h1 h2 h3 h4
        by_cases ej : j = r
        · subst ej; exact h
        · rw [top_no K hr ho (r - j) j rfl h1 (by omega)] at h3
          cases h3
      · intro h
        exact h r k.le (Nat.le_refl _) ht ho
end
/-- The whole is true just if all its conjuncts are. -/
theorem conj_true (L : List Ty) (M : ByteArray → Option Int) (E : Envr) {ns : List Nd} (ht : treeB ns = true) : tru (valA L M E ns (ns.length - 1)) = true ↔ ∀ j ∈ conjL ns, tru (valA L M E ns j) = true := by
  obtain ⟨bs, hbe, hpos⟩ := tree_begs ht
  have K : ∀ i, i < ns.length → Kin ns bs i := fun i hi => kin_of hbe i hi
  have hroot : bg bs (ns.length - 1) = 0 := by
    unfold treeB at ht
    rw [hbe] at ht
    have := (of_decide_eq_true ht).2
    unfold bg
    omega
  have hp : parF ns ns.length (ns.length - 1) < 0 := by
    by_cases h : 0 ≤ parF ns ns.length (ns.length - 1)
    · obtain ⟨p, e, h1, h2⟩ := parF_kid h
      have := kin_kid K h1 h2
      omega
    · omega
  have htop : topB ns (ns.length - 1) = true := by
    rw [topB_step K _ (by omega), decide_eq_true hp, Bool.true_or]
  rw [conj_all K L M E (ns.length - 1) (by omega) htop, hroot]
  unfold conjL
  constructor
  · intro h j hj
    rw [List.mem_filter, List.mem_range] at hj
    obtain ⟨h1, h2⟩ := hj
    rw [Bool.and_eq_true, Bool.not_eq_true', decide_eq_false_iff_not] at h2
    exact h j (Nat.zero_le _) (by omega) h2.1 h2.2
  · intro h j _ h1 h2 h3
    refine h j ?_
    rw [List.mem_filter, List.mem_range]
    exact ⟨by omega, by rw [h2, decide_eq_false h3]; rfl⟩
/-- There is a conjunct. -/
theorem conj_pos {ns : List Nd} (ht : treeB ns = true) : 0 < (conjL ns).length := by
  obtain ⟨bs, hbe, hpos⟩ := tree_begs ht
  have K : ∀ i, i < ns.length → Kin ns bs i := fun i hi => kin_of hbe i hi
  have key : ∀ r, r < ns.length → topB ns r = true → ∃ j, j < ns.length ∧ topB ns j = true ∧ (ns.getD j noNd).op ≠ 25 := by
    intro r
    induction r using Nat.strongRecOn with
    | ind r ih =>
      intro hr h
      by_cases ho : (ns.getD r noNd).op = 25
      · rcases (K r hr).how with ⟨h1, _⟩ | ⟨h1, _⟩ | ⟨_, e0, e1, e2, e3, e⟩
        · omega
        · omega
        exact ih (r - 1) (by omega) (by omega) (top_kid K hr (.inr e2) h ho)
      · exact ⟨r, hr, h, ho⟩
  have hp : parF ns ns.length (ns.length - 1) < 0 := by
    by_cases h : 0 ≤ parF ns ns.length (ns.length - 1)
    · obtain ⟨p, e, h1, h2⟩ := parF_kid h
      have := kin_kid K h1 h2
      omega
    · omega
  obtain ⟨j, h1, h2, h3⟩ := key (ns.length - 1) (by omega) (by rw [topB_step K _ (by omega), decide_eq_true hp, Bool.true_or])
  refine List.length_pos_of_mem (a := j) ?_
  unfold conjL
  rw [List.mem_filter, List.mem_range]
  exact ⟨h1, by rw [h2, decide_eq_false h3]; rfl⟩

end Go.Proofs.YtglagbedgjkdbaaGreatDoor
namespace Go.Proofs.YtglagbedgjkdbaaGreatDoor
open Go.RowKit Go.BigFrame Go.Proofs.YtglagbedgjkdbaaGreatDoor.Ev
set_option linter.unusedVariables false
set_option linter.unusedSimpArgs false

def shI (f : Nat) (a : Int) : Int := if a < 0 then a else a - (f : Int)
def shN (f : Nat) (n : Nd) : Nd := ⟨n.op, n.n, n.v, n.x, shI f n.l, shI f n.r⟩
def subL (ns : List Nd) (f r : Nat) : List Nd := ((ns.drop f).take (r + 1 - f)).map (shN f)
theorem getD_mem_lt {α : Type} (l : List α) (z : α) (i : Nat) (h : i < l.length) : l.getD i z = l[i] := by
  rw [List.getD_eq_getElem?_getD, List.getElem?_eq_getElem h]; rfl
theorem take_succ_getD (bs : List Int) (k : Nat) (h : k < bs.length) : bs.take (k + 1) = bs.take k ++ [bs.getD k 0] := by
  rw [List.take_add_one, List.getElem?_eq_getElem h, getD_mem_lt bs 0 k h]; rfl
/-- Node by node, back. -/
theorem begs_of (ns : List Nd) (bs : List Int) (hl : bs.length = ns.length) (h : ∀ i, i < ns.length → nodeO (ns.getD i noNd) (bs.take i) = some (bs.getD i 0)) : begsO ns [] = some bs := by
  have go : ∀ m k, k + m = ns.length → begsO (ns.drop k) (bs.take k) = some bs := by
    intro m
    induction m with
    | zero =>
      intro k hk
      rw [List.drop_eq_nil_of_le (by omega), List.take_of_length_le (by omega)]
      rfl
    | succ m ih =>
      intro k hk
      rw [begsO_app ns (bs.take k) k (by omega), h k (by omega)]
      dsimp only
      rw [← take_succ_getD bs k (by omega)]
      exact ih (k + 1) (by omega)
  have := go ns.length 0 (by omega)
  simpa using this
/-- Node by node, on. -/
theorem begs_to (ns : List Nd) (bs : List Int) (h : begsO ns [] = some bs) : bs.length = ns.length ∧ ∀ i, i < ns.length → nodeO (ns.getD i noNd) (bs.take i) = some (bs.getD i 0) := by
  have hl : bs.length = ns.length := by have := begsO_len ns [] bs h; simpa using this
  refine ⟨hl, ?_⟩
  have go : ∀ m k l, k + m = ns.length → l.length = k → begsO (ns.drop k) l = some bs → l = bs.take k ∧ ∀ i, k ≤ i → i < ns.length → nodeO (ns.getD i noNd) (bs.take i) = some (bs.getD i 0) := by
    intro m
    induction m with
    | zero =>
      intro k l hk hlk hb
      rw [List.drop_eq_nil_of_le (by omega)] at hb
      simp only [begsO, Option.some.injEq] at hb
      subst hb
      exact ⟨(List.take_of_length_le (by omega)).symm, fun i h1 h2 => by omega⟩
    | succ m ih =>
      intro k l hk hlk hb
      rw [begsO_app ns l k (by omega)] at hb
      cases hn : nodeO (ns.getD k noNd) l with
      | none => rw [hn] at hb; cases hb
      | some b =>
        rw [hn] at hb
        dsimp only at hb
        obtain ⟨e1, e2⟩ := ih (k + 1) (l ++ [b]) (by omega) (by simp; omega) hb
        rw [take_succ_getD bs k (by omega)] at e1
        obtain ⟨e3, e4⟩ := List.append_inj e1 (by rw [hlk, List.length_take]; omega)
        simp only [List.cons.injEq, and_true] at e4
        refine ⟨e3, fun i h1 h2 => ?_⟩
        rcases Nat.eq_or_lt_of_le h1 with e | e
        · subst e; rw [← e3, hn, e4]
        · exact e2 i (by omega) h2
  exact fun i hi => (go ns.length 0 [] (by omega) rfl h).2 i (Nat.zero_le _) hi

end Go.Proofs.YtglagbedgjkdbaaGreatDoor
