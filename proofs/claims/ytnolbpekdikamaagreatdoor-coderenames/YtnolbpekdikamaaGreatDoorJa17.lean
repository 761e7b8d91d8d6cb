/- The compiled program runs as the tree means. And what goes with it: 2 texts in one. -/
import Derived.Test.YtnolbpekdikamaaGreatDoorJa16
namespace Go.Proofs.YtnolbpekdikamaaGreatDoor
open Go.RowKit Go.BigFrame Go.Proofs.YtnolbpekdikamaaGreatDoor.Ev
set_option linter.unusedVariables false
set_option linter.unusedSimpArgs false

theorem jmpF_val (ns : List Nd) (j p : Nat) (hj : (ns.getD p noNd).l = (j : Int)) (ha : aoB (ns.getD p noNd) = true) : ∀ m, p < m → (∀ q, q < m → aoB (ns.getD q noNd) = true → (ns.getD q noNd).l = (j : Int) → q = p) → jmpF ns m j = (ns.getD p noNd).op
  | 0, h, _ => absurd h (Nat.not_lt_zero _)
  | m + 1, h, hu => by
    unfold jmpF
    by_cases e : p = m
    · subst e
      rw [if_pos ⟨of_decide_eq_true ha, hj⟩]
    · rw [if_neg]
      · exact jmpF_val ns j p hj ha m (by omega) fun q hq => hu q (by omega)
      · rintro ⟨h1, h2⟩
        exact e (hu m (Nat.lt_succ_self m) (decide_eq_true h1) h2).symm
theorem jmpF_no {ns : List Nd} {j : Nat} (h : ∀ p, p < ns.length → aoB (ns.getD p noNd) = true → (ns.getD p noNd).l ≠ (j : Int)) : jmpF ns ns.length j = 0 := by
  by_cases e : jmpF ns ns.length j = 0
  · exact e
  · obtain ⟨p, h1, h2, h3⟩ := (jmpF_iff ns j ns.length).1 e
    exact absurd h3 (h p h1 h2)
theorem treK_succ (L : List Ty) (M : ByteArray → Option Int) (ns : List Nd) (k : Nat) : treK L M ns (k + 1) = if jmpF ns ns.length k = 0 then nodS L M (treK L M ns k) (ns.getD k noNd) else jumpS (nodS L M (treK L M ns k) (ns.getD k noNd)) (jmpF ns ns.length k) := rfl
/-- A code holds a block at a place. -/
def Holds (C : List Ins) (p : Nat) (b : List Ins) : Prop := ∀ j, j < b.length → C.getD (p + j) noIn = b.getD j noIn
theorem Holds.left {C : List Ins} {p : Nat} {a b : List Ins} (h : Holds C p (a ++ b)) : Holds C p a := fun j hj => by
  have := h j (by rw [List.length_append]; omega)
  rwa [List.getD_eq_getElem?_getD (l := a ++ b), List.getElem?_append_left hj, ← List.getD_eq_getElem?_getD] at this
theorem Holds.right {C : List Ins} {p : Nat} {a b : List Ins} (h : Holds C p (a ++ b)) : Holds C (p + a.length) b := fun j hj => by
  have := h (a.length + j) (by rw [List.length_append]; omega)
  rw [List.getD_eq_getElem?_getD (l := a ++ b), List.getElem?_append_right (by omega), Nat.add_sub_cancel_left, ← List.getD_eq_getElem?_getD, ← Nat.add_assoc] at this
  exact this
theorem Holds.one {C : List Ins} {p : Nat} {x : Ins} (h : Holds C p [x]) : C.getD p noIn = x := h 0 (by simp)
/-- What the nodes of a subtree write, and what it does. -/
structure SubW (E : Envr) (s0 s1 : Cst) (v : V2) (blk : List Ins) : Prop where
  pos : 0 < blk.length
  code : s1.code = s0.code ++ blk
  opn : s1.opn = s0.opn
  cols : ∃ more, s1.cols = s0.cols ++ more
  run : ∀ (C : List Ins) (cols : List (List Int)), Holds C s0.code.length blk → s0.code.length + blk.length ≤ C.length → (∃ rest, cols = s1.cols.map Prod.snd ++ rest) → ∀ st, runW C cols E s0.code.length st = runW C cols E (s0.code.length + blk.length) (st ++ [v])
theorem getD_pre {l rest : List (List Int)} {j : Nat} (h : j < l.length) : (l ++ rest).getD j [] = l.getD j [] := by
  rw [List.getD_eq_getElem?_getD, List.getElem?_append_left h, ← List.getD_eq_getElem?_getD]
theorem kCod_eq {op : Int} : (op < 4 → kCod op = 1) ∧ (op = 5 → kCod op = 4) ∧ (4 ≤ op → op ≤ 11 → op ≠ 5 → 1 < kCod op ∧ kCod op ≠ 4 ∧ kCod op < 10 ∧ opI (kCod op) = op) ∧ (12 ≤ op → kCod op = op - 2) := by
  refine ⟨fun h => ?_, fun h => ?_, fun h1 h2 h3 => ?_, fun h => ?_⟩
  · unfold kCod; rw [if_pos h]
  · subst h; rfl
  · have : op = 4 ∨ op = 6 ∨ op = 7 ∨ op = 8 ∨ op = 9 ∨ op = 10 ∨ op = 11 := by omega
    rcases this with rfl | rfl | rfl | rfl | rfl | rfl | rfl <;> decide
  · unfold kCod; rw [if_neg (by omega), if_neg (by omega), if_neg (by omega), if_neg (by omega)]
section
variable {L : List Ty} {M : ByteArray → Option Int} {E : Envr}
theorem nodS_low {s : Cst} {n : Nd} (h : n.op < 25) : nodS L M s n = nod2 L M s n := by unfold nodS; rw [if_neg (by omega)]
theorem nod1_low {s : Cst} {n : Nd} (h : 12 ≤ n.op) : nod1 L s n = s := by
  unfold nod1
  rw [if_neg]
  unfold hasCol kMent
  rw [decide_eq_false (by omega)]
  simp
theorem sub_leaf {s : Cst} {n : Nd} (done : List V2) (hc : ColsOk L s.cols) (h1 : 1 ≤ n.op) (h2 : n.op ≤ 11) : SubW E s (nodS L M s n) (nodeW L M E done n) [nodI M s n] := by
  obtain ⟨g1, g2, g3, g4⟩ := nod1_cols (n := n) hc
  rw [nodS_low (by omega)]
  refine ⟨by simp, by unfold nod2; rw [g3], g4, g2, ?_⟩
  intro C cols hC hl ⟨rest, hr⟩ st
  have hx := hC.one
  have hp : s.code.length < C.length := by have := hl; simp at this; omega
  obtain ⟨k1, k2, k3, k4⟩ := kCod_eq (op := n.op)
  rcases (show n.op < 4 ∨ n.op = 5 ∨ (4 ≤ n.op ∧ n.op ≠ 5) by omega) with h | h | ⟨h, h5⟩
  · have e := step_push (cols := cols) (E := E) (st := st) hp (by rw [hx]; exact k1 h)
    rw [hx] at e
    unfold nodeW
    rw [if_pos h]
    exact e
  · have e := step_count (cols := cols) (E := E) (st := st) hp (by rw [hx]; exact k2 h)
    rw [hx] at e
    unfold nodeW
    rw [if_neg (by omega), if_pos h]
    have hm : kMent n.op = true := decide_eq_true (by omega)
    unfold nodI at e
    dsimp only at e
    rw [if_pos hm] at e
    exact e
  · obtain ⟨q1, q2, q3, q4⟩ := k3 h (by omega) h5
    have hm : kMent n.op = true := decide_eq_true (by omega)
    have hh : hasCol n = true := by unfold hasCol; rw [hm, decide_eq_false h5]; rfl
    obtain ⟨_, _, j, j1, j2, j3⟩ := col_at n.x hc
    have hn1 : nod1 L s n = colS L s n.x := by unfold nod1; rw [if_pos hh]
    have hcol : (nodI M s n).col = (j : Int) := by unfold nodI; dsimp only; rw [if_pos hh, j1]
    have hit : (nodI M s n).item = (M n.v).getD 0 := by unfold nodI; dsimp only; rw [if_pos hm]
    have hcs : cols = (colS L s n.x).cols.map Prod.snd ++ rest := by rw [hr, ← hn1]; rfl
    have hjl : j < ((colS L s n.x).cols.map Prod.snd).length := by simpa using j2
    have e := step_men (cols := cols) (E := E) (st := st) hp (c := kCod n.op) (by rw [hx]; rfl) q1 q2 q3 (by rw [hx, hcol]; omega) (by rw [hx, hcol, hcs, List.length_append]; omega)
    rw [hx, hcol, hit, q4, Int.toNat_natCast, hcs, getD_pre hjl, j3, plc_row] at e
    unfold nodeW
    rw [if_neg (by omega), if_neg h5, if_pos h2, hcs]
    exact e
theorem sub_one {s0 s1 : Cst} {n : Nd} {x : V2} {b : List Ins} (S : SubW E s0 s1 x b) (h : n.op = 12 ∨ n.op = 13) : SubW E s0 (nodS L M s1 n) (if n.op = 12 then negW x else notW x) (b ++ [nodI M s1 n]) := by
  rw [nodS_low (by omega)]
  have hn1 : nod1 L s1 n = s1 := nod1_low (by omega)
  refine ⟨by simp, by unfold nod2; rw [hn1, S.code, List.append_assoc], by unfold nod2; rw [hn1]; exact S.opn, by unfold nod2; rw [hn1]; exact S.cols, ?_⟩
  intro C cols hC hl hr st
  unfold nod2 at hr
  rw [hn1] at hr
  rw [List.length_append, List.length_singleton] at hl ⊢
  have hx := hC.right.one
  rw [S.run C cols hC.left (by omega) hr st, ← Nat.add_assoc]
  obtain ⟨k1, k2, k3, k4⟩ := kCod_eq (op := n.op)
  rcases h with h | h
  · rw [if_pos h]
    exact step_neg (by omega) (by rw [hx]; show kCod n.op = _; rw [h]; rfl) x
  · rw [if_neg (by omega)]
    exact step_not (by omega) (by rw [hx]; show kCod n.op = _; rw [h]; rfl) x
theorem sub_two {s0 s1 s2 : Cst} {n : Nd} {x y : V2} {a b : List Ins} (S : SubW E s0 s1 x a) (T : SubW E s1 s2 y b) (h1 : 14 ≤ n.op) (h2 : n.op < 25) : SubW E s0 (nodS L M s2 n) (applyV n.op x y) (a ++ b ++ [nodI M s2 n]) := by
  rw [nodS_low (by omega)]
  have hn1 : nod1 L s2 n = s2 := nod1_low (by omega)
  obtain ⟨m1, e1⟩ := S.cols
  obtain ⟨m2, e2⟩ := T.cols
  refine ⟨by simp; omega, by unfold nod2; rw [hn1]; show s2.code ++ [nodI M s2 n] = _; rw [T.code, S.code, List.append_assoc, List.append_assoc, List.append_assoc], by unfold nod2; rw [hn1]; exact T.opn.trans S.opn, by unfold nod2; rw [hn1]; exact ⟨m1 ++ m2, by rw [e2, e1, List.append_assoc]⟩, ?_⟩
  intro C cols hC hl ⟨rest, hr⟩ st
  unfold nod2 at hr
  rw [hn1] at hr
  have hsl : s1.code.length = s0.code.length + a.length := by rw [S.code, List.length_append]
  have hx := hC.right.one
  rw [List.length_append, List.length_append, List.length_singleton] at hl
  rw [List.length_append] at hx
  have hT := hC.left.right
  rw [← hsl] at hT
  rw [S.run C cols hC.left.left (by omega) ⟨m2.map Prod.snd ++ rest, by rw [hr, e2, List.map_append, List.append_assoc]⟩ st, ← hsl, T.run C cols hT (by omega) ⟨rest, hr⟩]
  have e3 : (a ++ b ++ [nodI M s2 n]).length = a.length + b.length + 1 := by simp; omega
  rw [e3, hsl, show s0.code.length + (a.length + b.length + 1) = s0.code.length + a.length + b.length + 1 by omega]
  have hk := (kCod_eq (op := n.op)).2.2.2 (by omega)
  have e := step_apply (C := C) (cols := cols) (E := E) (p := s0.code.length + a.length + b.length) (st := st) (by omega) (c := n.op - 2) (by rw [Nat.add_assoc, hx]; exact hk) (by omega) (by omega) x y
  rw [show n.op - 2 + 2 = n.op by omega] at e
  exact e
theorem set_mid (a b : List Ins) (x y : Ins) : (a ++ (x :: b)).set a.length y = a ++ (y :: b) := by
  rw [List.set_append_right _ _ (Nat.le_refl _), Nat.sub_self]; rfl
theorem sub_jump {s0 s1 s2 : Cst} {n : Nd} {x y : V2} {a b : List Ins} (S : SubW E s0 s1 x a) (T : SubW E (jumpS s1 n.op) s2 y b) (hx : canon x) (h : n.op = 25 ∨ n.op = 26) :
    SubW E s0 (nodS L M s2 n) (applyV n.op x y) (a ++ (⟨n.op, 0, 0, 0, ((s0.code.length + a.length + 1 + b.length + 1 : Nat) : Int)⟩ :: b) ++ [nodI M s2 n]) := by
  have hn1 : nod1 L s2 n = s2 := nod1_low (by omega)
  obtain ⟨m1, e1⟩ := S.cols
  obtain ⟨m2, e2⟩ := T.cols
  have hsl : s1.code.length = s0.code.length + a.length := by rw [S.code, List.length_append]
  have hcode : s2.code = s0.code ++ a ++ (⟨n.op, 0, 0, 0, 0⟩ :: b) := by
    rw [T.code]
    show s1.code ++ [_] ++ b = _
    rw [S.code, List.append_assoc (s0.code ++ a)]
    rfl
  have hopn : s2.opn = s0.opn ++ [s0.code.length + a.length] := by
    rw [T.opn]
    show s1.opn ++ [_] = _
    rw [S.opn, hsl]
  have hlast : lastN s2.opn = (s0.code ++ a).length := by
    unfold lastN
    rw [hopn, List.length_append, List.length_singleton, Nat.add_sub_cancel, List.getD_eq_getElem?_getD, List.getElem?_append_right (Nat.le_refl _), Nat.sub_self, List.length_append]
    rfl
  have e0 : nodS L M s2 n = { nod2 L M s2 n with code := s0.code ++ (a ++ (⟨n.op, 0, 0, 0, ((s0.code.length + a.length + 1 + b.length + 1 : Nat) : Int)⟩ :: b) ++ [nodI M s2 n]), opn := s0.opn } := by
    unfold nodS
    rw [if_pos h]
    unfold landS nod2
    rw [hn1]
    dsimp only
    rw [hlast]
    have hlen : (s2.code ++ [nodI M s2 n]).length = s0.code.length + a.length + 1 + b.length + 1 := by rw [hcode]; simp; omega
    have hget : (s2.code ++ [nodI M s2 n]).getD (s0.code ++ a).length noIn = ⟨n.op, 0, 0, 0, 0⟩ := by
      rw [hcode, List.append_assoc (s0.code ++ a), List.getD_eq_getElem?_getD, List.getElem?_append_right (Nat.le_refl _), Nat.sub_self]
      rfl
    rw [hget, hlen, hcode, List.append_assoc (s0.code ++ a)]
    show (⟨((s0.code ++ a) ++ (⟨n.op, 0, 0, 0, 0⟩ :: (b ++ [nodI M s2 n]))).set (s0.code ++ a).length _, _, _⟩ : Cst) = _
    rw [set_mid, hopn, List.dropLast_concat]
    congr 1
    rw [List.append_assoc, List.append_assoc]
    rfl
  refine ⟨by simp; omega, by rw [e0], by rw [e0], by rw [e0]; unfold nod2; rw [hn1]; exact ⟨m1 ++ m2, by rw [e2]; show s1.cols ++ m2 = _; rw [e1, List.append_assoc]⟩, ?_⟩
  intro C cols hC hl ⟨rest, hr⟩ st
  rw [e0] at hr
  unfold nod2 at hr
  rw [hn1] at hr
  dsimp only at hr
  generalize hto : s0.code.length + a.length + 1 + b.length + 1 = to_ at *
  have e3 : (a ++ (⟨n.op, 0, 0, 0, (to_ : Int)⟩ :: b) ++ [nodI M s2 n]).length = a.length + 1 + b.length + 1 := by simp; omega
  rw [e3] at hl ⊢
  have hN := hC.right.one
  rw [List.length_append, List.length_cons] at hN
  have hm : Holds C (s0.code.length + a.length) ([⟨n.op, 0, 0, 0, (to_ : Int)⟩] ++ b) := hC.left.right
  have hJ := hm.left.one
  have hB := hm.right
  rw [List.length_singleton] at hB
  have hjl : (jumpS s1 n.op).code.length = s0.code.length + a.length + 1 := by unfold jumpS; dsimp only; rw [List.length_append, hsl]; rfl
  rw [S.run C cols hC.left.left (by omega) ⟨m2.map Prod.snd ++ rest, by rw [hr, e2, List.map_append, List.append_assoc]; rfl⟩ st]
  rw [step_jump (C := C) (cols := cols) (E := E) (p := s0.code.length + a.length) (st := st) (by omega) (c := n.op) (by rw [hJ]) h to_ (by rw [hJ]) (by omega) (by omega) x]
  rw [show s0.code.length + (a.length + 1 + b.length + 1) = to_ by omega]
  cases hj : jmpB n.op x with
  | true =>
    rw [if_pos rfl, jmp_whole hx h hj]
  | false =>
    rw [if_neg (by decide), ← hjl, T.run C cols (by rw [hjl]; exact hB) (by omega) ⟨rest, hr⟩, hjl]
    have hk := (kCod_eq (op := n.op)).2.2.2 (by omega)
    have e := step_apply (C := C) (cols := cols) (E := E) (p := s0.code.length + a.length + 1 + b.length) (st := st) (by omega) (c := n.op - 2) (by
      rw [show s0.code.length + a.length + 1 + b.length = s0.code.length + (a.length + (b.length + 1)) by omega, hN]; exact hk) (by omega) (by omega) x y
    rw [show n.op - 2 + 2 = n.op by omega, hto] at e
    exact e
end
/-- Every subtree. -/
theorem sub_every (L : List Ty) (M : ByteArray → Option Int) (E : Envr) {ns : List Nd} {bs : List Int} (hb : begsO ns [] = some bs) (hr : runB M ns = true) : ∀ i, i < ns.length → ∃ blk, 2 * blk.length + 1 ≤ 3 * (i + 1 - bg bs i) ∧ SubW E (treK L M ns (bg bs i)) (nodS L M (treK L M ns i) (ns.getD i noNd)) (valA L M E ns i) blk := by
  have K : ∀ i, i < ns.length → Kin ns bs i := fun i hi => kin_of hb i hi
  have ht : treeB ns = true := by unfold runB at hr; rw [Bool.and_eq_true] at hr; exact hr.1
  intro i
  induction i using Nat.strongRecOn with
  | ind i ih =>
    intro hi
    have k := K i hi
    have hv : valA L M E ns i = nodeW L M E (valK L M E ns i) (ns.getD i noNd) := rfl
    rcases k.how with ⟨h, e, _, _⟩ | ⟨h, e0, e1, e2, e⟩ | ⟨h, e0, e1, e2, e3, e⟩
    · rw [e, hv]
      exact ⟨_, by (first | (simp; done) | (simp; omega)), sub_leaf _ (treK_cols L M ns i) k.op.1 h⟩
    · obtain ⟨blk, hz, S⟩ := ih (i - 1) (by omega) (by omega)
      have hno : jmpF ns ns.length (i - 1) = 0 := jmpF_no fun p hp ha hl => by
        have := kin_uniq K hp hi (.inl hl) (.inl e1)
        subst this
        have := of_decide_eq_true ha
        omega
      have hs : treK L M ns i = nodS L M (treK L M ns (i - 1)) (ns.getD (i - 1) noNd) := by
        have := treK_succ L M ns (i - 1)
        rw [hno, if_pos rfl, Nat.sub_add_cancel e0] at this
        exact this
      have hx : (valK L M E ns i).getD (ns.getD i noNd).l.toNat noV2 = valA L M E ns (i - 1) := by rw [e1, Int.toNat_natCast]; exact valK_at L M E ns (i - 1) i (by omega)
      rw [e, hs, hv]
      have hw : nodeW L M E (valK L M E ns i) (ns.getD i noNd) = if (ns.getD i noNd).op = 12 then negW (valA L M E ns (i - 1)) else notW (valA L M E ns (i - 1)) := by
        unfold nodeW
        rw [if_neg (by omega), if_neg (by omega), if_neg (by omega), hx]
        by_cases h12 : (ns.getD i noNd).op = 12
        · rw [if_pos h12, if_pos h12]
        · rw [if_neg h12, if_neg h12, if_pos (by omega)]
      rw [hw]
      have kb := (K (i - 1) (by omega)).le
      exact ⟨_, by simp; omega, sub_one S h⟩
    · have kr := (K (i - 1) (by omega)).le
      have kl := (K (bg bs (i - 1) - 1) (by omega)).le
      obtain ⟨bl, hzl, S⟩ := ih (bg bs (i - 1) - 1) (by omega) (by omega)
      obtain ⟨br, hzr, T⟩ := ih (i - 1) (by omega) (by omega)
      have hnr : jmpF ns ns.length (i - 1) = 0 := jmpF_no fun p hp ha hl => by
        have := kin_uniq K hp hi (.inl hl) (.inr e2)
        subst this
        omega
      have hs : treK L M ns i = nodS L M (treK L M ns (i - 1)) (ns.getD (i - 1) noNd) := by
        have := treK_succ L M ns (i - 1)
        rw [hnr, if_pos rfl, Nat.sub_add_cancel e0] at this
        exact this
      have hx : (valK L M E ns i).getD (ns.getD i noNd).l.toNat noV2 = valA L M E ns (bg bs (i - 1) - 1) := by rw [e3, Int.toNat_natCast]; exact valK_at L M E ns _ i (by omega)
      have hy : (valK L M E ns i).getD (ns.getD i noNd).r.toNat noV2 = valA L M E ns (i - 1) := by rw [e2, Int.toNat_natCast]; exact valK_at L M E ns _ i (by omega)
      have hw : valA L M E ns i = applyV (ns.getD i noNd).op (valA L M E ns (bg bs (i - 1) - 1)) (valA L M E ns (i - 1)) := by
        rw [hv]
        unfold nodeW
        rw [if_neg (by omega), if_neg (by omega), if_neg (by omega), if_neg (by omega), if_neg (by omega), hx, hy]
      have hsl := treK_succ L M ns (bg bs (i - 1) - 1)
      rw [Nat.sub_add_cancel e1] at hsl
      rw [e, hs, hw]
      by_cases h25 : (ns.getD i noNd).op < 25
      · have hnl : jmpF ns ns.length (bg bs (i - 1) - 1) = 0 := jmpF_no fun p hp ha hl => by
          have := kin_uniq K hp hi (.inl hl) (.inl e3)
          subst this
          have := of_decide_eq_true ha
          omega
        rw [hnl, if_pos rfl] at hsl
        rw [hsl] at T
        exact ⟨_, by simp; omega, sub_two S T h h25⟩
      · have ha : aoB (ns.getD i noNd) = true := decide_eq_true (by have := k.op.2; omega)
        have hj := jmpF_val ns (bg bs (i - 1) - 1) i e3 ha ns.length hi fun q hq hqa hql => kin_uniq K hq hi (.inl hql) (.inl e3)
        rw [hj, if_neg (by omega)] at hsl
        rw [hsl] at T
        refine ⟨_, by simp; omega, sub_jump S T (canon_val L M E ht (by omega) ?_) (of_decide_eq_true ha)⟩
        have hall : runN M ns (ns.getD i noNd) = true := by
          unfold runB at hr
          rw [Bool.and_eq_true, List.all_eq_true] at hr
          refine hr.2 _ ?_
          rw [List.getD_eq_getElem?_getD, List.getElem?_eq_getElem hi]
          exact List.getElem_mem hi
        unfold runN at hall
        rw [Bool.and_eq_true] at hall
        have hk := hall.1
        unfold kFit at hk
        split at hk
        · cases hk
        rename_i hkl
        unfold kKid at hkl
        rw [e3, decide_eq_true (by omega), Bool.true_and, Int.toNat_natCast] at hkl
        have h26 := of_decide_eq_true ha
        have hjo : kJoin (ns.getD i noNd).op = true := decide_eq_true (by omega)
        rw [hjo] at hkl
        cases hkt : kTr (ns.getD (bg bs (i - 1) - 1) noNd).op with
        | true => rfl
        | false => rw [hkt] at hkl; exact absurd rfl hkl
/-- The whole program. -/
theorem run_tree (L : List Ty) (M : ByteArray → Option Int) (E : Envr) {ns : List Nd} (hr : runB M ns = true) :
    0 < (treK L M ns ns.length).code.length ∧ 2 * (treK L M ns ns.length).code.length + 1 ≤ 3 * ns.length ∧ runW (treK L M ns ns.length).code ((treK L M ns ns.length).cols.map Prod.snd) E 0 [] = (valA L M E ns (ns.length - 1), 0) := by
  have ht : treeB ns = true := by unfold runB at hr; rw [Bool.and_eq_true] at hr; exact hr.1
  obtain ⟨bs, hb, hpos⟩ := tree_begs ht
  have K : ∀ i, i < ns.length → Kin ns bs i := fun i hi => kin_of hb i hi
  obtain ⟨blk, hz, S⟩ := sub_every L M E hb hr (ns.length - 1) (by omega)
  have hb0 : bg bs (ns.length - 1) = 0 := by
    unfold treeB at ht
    rw [hb] at ht
    have := (of_decide_eq_true ht).2
    unfold bg
    omega
  have hno : jmpF ns ns.length (ns.length - 1) = 0 := jmpF_no fun p hp ha hl => by
    have := kin_kid K hp (.inl hl)
    omega
  have hs := treK_succ L M ns (ns.length - 1)
  rw [hno, if_pos rfl, Nat.sub_add_cancel hpos] at hs
  rw [hb0] at hz
  rw [hb0, ← hs] at S
  have hc := S.code
  rw [show (treK L M ns 0).code = [] from rfl, List.nil_append] at hc
  have h := S.run (treK L M ns ns.length).code ((treK L M ns ns.length).cols.map Prod.snd) (fun j hj => by
    rw [hc]
    show blk.getD (0 + j) noIn = _
    rw [Nat.zero_add]) (by rw [hc]; show 0 + blk.length ≤ blk.length; omega) ⟨[], (List.append_nil _).symm⟩ []
  refine ⟨by rw [hc]; exact S.pos, by rw [hc]; omega, ?_⟩
  rw [show (treK L M ns 0).code.length = 0 from rfl] at h
  rw [h, runW_end (by rw [hc]; omega)]
  rfl

end Go.Proofs.YtnolbpekdikamaaGreatDoor
namespace Go.Proofs.YtnolbpekdikamaaGreatDoor
open Go.RowKit Go.BigFrame Go.Proofs.YtnolbpekdikamaaGreatDoor.Ev
set_option linter.unusedVariables false
set_option linter.unusedSimpArgs false

theorem made_vals (n : Nat) : (madeCells #[.bool false, .int .i64 0] (n * 2)).toList = fl valC (List.replicate n noV2) := by
  apply List.ext_getElem?
  intro j
  by_cases hj : j < n * 2
  · have h2 : j / 2 < (List.replicate n noV2).length := by rw [List.length_replicate]; omega
    have e := fl_at valC_sz noV2 (List.replicate n noV2) (j / 2) (j % 2) h2 (by omega)
    rw [show j / 2 * 2 + j % 2 = j by omega] at e
    rw [e]
    have e2 : (List.replicate n noV2).getD (j / 2) noV2 = noV2 := by
      rw [List.getD_eq_getElem?_getD, List.getElem?_replicate]
      split <;> rfl
    rw [e2]
    rcases (show j % 2 = 0 ∨ j % 2 = 1 by omega) with h | h
    · simp [madeCells, hj, h, valC]
    · simp [madeCells, hj, h, valC]
  · rw [List.getElem?_eq_none (by rw [Array.length_toList, size_madeCells]; omega), List.getElem?_eq_none (by rw [fl_len valC_sz, List.length_replicate]; omega)]
theorem mkVals (w : World) (n : Nat) (hn : n * 16 ≤ 140737488351232) : (Instr.makeSlice 84 (.int .i64 (n : Int)) (.int .i64 (n : Int))).run Tryz.prog w = .ok (.slice (some ⟨w.heap.size, 0, none⟩) n n) (w.alloc (.cells (madeCells #[.bool false, .int .i64 0] (n * 2)) 51)) := by
  obtain ⟨i, hi, hz, hs, hb⟩ := nf_info nf_val
  have := run_make (P := Tryz.prog) w 84 51 i _ Tryz.underlying84 hi hz .i64 .i64 (n : Int) (n : Int) (by omega) (Int.le_refl _) (by rw [hb]; omega) (by omega)
  rw [hs, show (Value.agg #[.bool false, .int .i64 0]).cells = #[.bool false, .int .i64 0] from rfl] at this
  simpa using this
theorem fI_fits {x : Int} (h : fI x) : fitsB x = true := (fits_iff _).2 ⟨h.1, h.2⟩
theorem nodeW_fits (L : List Ty) (M : ByteArray → Option Int) {E : Envr} (hE : E.ok) {done : List V2} {n : Nd} (hn : n.fit) : fitsB (nodeW L M E done n).2 = true := by
  unfold nodeW
  repeat' split
  · show fitsB (kLit n) = true
    unfold kLit
    split
    · decide
    · exact fI_fits hn.n
  · exact (fits_iff _).2 (by have := (lstO_ok hE ((M n.v).getD 0)).2.1; dsimp only; omega)
  · exact menV_fits hE _ _ _
  · exact opN_fits _ _ _
  · exact vN_fits _
  · exact applyV_fits _ _ _
theorem valK_fits (L : List Ty) (M : ByteArray → Option Int) {E : Envr} (hE : E.ok) {ns : List Nd} (hf : ∀ k, (ns.getD k noNd).fit) : ∀ k, fitS (valK L M E ns k)
  | 0 => fitS_nil
  | k + 1 => fitS_snoc (valK_fits L M hE hf k) (nodeW_fits L M hE (hf k))
theorem nodeW_ext (L : List Ty) (M : ByteArray → Option Int) (E : Envr) {d1 d2 : List V2} {n : Nd} (hl : 12 ≤ n.op → d1.getD n.l.toNat noV2 = d2.getD n.l.toNat noV2) (hr : 14 ≤ n.op → d1.getD n.r.toNat noV2 = d2.getD n.r.toNat noV2) : nodeW L M E d1 n = nodeW L M E d2 n := by
  unfold nodeW
  split
  · rfl
  split
  · rfl
  split
  · rfl
  split
  · rw [hl (by omega)]
  split
  · rw [hl (by omega)]
  · rename_i h1 h2 h3 h4 h5
    rw [hl (by omega), hr (by omega)]
/-- The row of values behind k nodes. -/
def valR (L : List Ty) (M : ByteArray → Option Int) (E : Envr) (ns : List Nd) (k : Nat) : List V2 := valK L M E ns k ++ List.replicate (ns.length - k) noV2
theorem valR_len (L : List Ty) (M : ByteArray → Option Int) (E : Envr) (ns : List Nd) (k : Nat) (h : k ≤ ns.length) : (valR L M E ns k).length = ns.length := by
  unfold valR
  rw [List.length_append, valK_len, List.length_replicate]
  omega
theorem valR_at (L : List Ty) (M : ByteArray → Option Int) (E : Envr) (ns : List Nd) (k j : Nat) (h : j < k) : (valR L M E ns k).getD j noV2 = (valK L M E ns k).getD j noV2 := by
  unfold valR
  rw [List.getD_eq_getElem?_getD, List.getElem?_append_left (by rw [valK_len]; exact h), ← List.getD_eq_getElem?_getD]
theorem valR_fits (L : List Ty) (M : ByteArray → Option Int) {E : Envr} (hE : E.ok) {ns : List Nd} (hf : ∀ k, (ns.getD k noNd).fit) (k : Nat) : fitS (valR L M E ns k) := fun j => by
  by_cases h : j < k
  · rw [valR_at _ _ _ _ _ _ h]; exact valK_fits L M hE hf k j
  · unfold valR
    rw [List.getD_eq_getElem?_getD, List.getElem?_append_right (by rw [valK_len]; omega), List.getElem?_replicate]
    split <;> decide
theorem valR_step (L : List Ty) (M : ByteArray → Option Int) (E : Envr) (ns : List Nd) (k : Nat) (h : k < ns.length) : (valR L M E ns k).set k (valA L M E ns k) = valR L M E ns (k + 1) := by
  unfold valR
  rw [List.set_append_right _ _ (by rw [valK_len]; omega), valK_len, Nat.sub_self, show ns.length - k = (ns.length - (k + 1)) + 1 by omega, List.replicate_succ, List.set_cons_zero]
  show _ = (valK L M E ns k ++ [nodeW L M E (valK L M E ns k) (ns.getD k noNd)]) ++ _
  rw [List.append_assoc]
  rfl
/-- At the round k. -/
structure TrE (w0 : World) (pe vb rb : Nat) (sa : Option Addr) (sc : Nat) (L : List Ty) (M : ByteArray → Option Int) (bi : Nat) (E : Envr) (al : Option Addr) (cl : Nat) (ns : List Nd) (xv : Value) (wr : World) : Prop where
  ex : ∃ k : Nat, k ≤ ns.length ∧ xv = .int .i64 (k : Int) ∧ Bk wr pe (evlC sa sc L bi E al cl (.slice (some ⟨vb, 0, none⟩) ns.length ns.length)) 99 ∧ wr.ownsRow w0.heap.size 51 2 (.slice (some ⟨vb, 0, none⟩) ns.length ns.length) ns.length (fl valC (valR L M E ns k)) ∧ Bk wr rb #[.bool false, .int .i64 0] 51 ∧ Below w0.heap.size w0 wr
set_option maxRecDepth 100000 in
set_option maxHeartbeats 8000000 in
theorem treeE_any (pe bi nb : Nat) (sa : Option Addr) (sc : Nat) (L : List Ty) (M : ByteArray → Option Int) (E : Envr) (al : Option Addr) (cl : Nat) (ns : List Nd) (ao : Option Addr) (cap : Nat) (v0 : Value) (w : World) (K : Bk w pe (evlC sa sc L bi E al cl v0) 99) (w0 : World) (A : IsTypes w0 sa L.length L) (MI : MpAt w0 bi nb M) (IE : IsEnv w0 E al cl) (AN : IsNds w0 ao ns) (T : TbA2 w0) (hw0 : w0.heap.size ≤ pe) (BA : Below w0.heap.size w0 w)
    (ht : treeB ns = true) (hf : ∀ k, (ns.getD k noNd).fit) (hr : ns.length * 64 ≤ 140737488351232) (hE : E.ok) :
    Calls Tryz.prog 35 #[ptrE pe, .slice ao ns.length cap] w fun e w' => e = .returned (VA (valA L M E ns (ns.length - 1))) ∧ Below w0.heap.size w0 w' := by
  have hzw := BA.size
  have hpw := K.lt
  obtain ⟨⟨xr, nr⟩, hxr⟩ : ∃ x, valA L M E ns (ns.length - 1) = x := ⟨_, rfl⟩
  rw [hxr]
  have HXR : Hid (valA L M E ns (ns.length - 1) = (xr, nr)) := hxr
  clear hxr
  have R0 := Bk.new w #[.bool false, .int .i64 0] 51
  have hmk := mkVals (w.alloc (.cells #[.bool false, .int .i64 0] 51)) ns.length (by omega)
  have O0 : ((w.alloc (.cells #[.bool false, .int .i64 0] 51)).alloc (.cells (madeCells #[.bool false, .int .i64 0] (ns.length * 2)) 51)).ownsRow w0.heap.size 51 2 (.slice (some ⟨(w.alloc (.cells #[.bool false, .int .i64 0] 51)).heap.size, 0, none⟩) ns.length ns.length) ns.length (fl valC (valR L M E ns 0)) := by
    have := World.ownsRow_lit (base := w0.heap.size) (e := 51) (size := 2) (w.alloc (.cells #[.bool false, .int .i64 0] 51)) (madeCells #[.bool false, .int .i64 0] (ns.length * 2)) ns.length (by simp; omega) (by unfold maxLen; omega) (size_madeCells _ _)
    rw [made_vals] at this
    exact this
  have hz1 : (w.alloc (.cells #[.bool false, .int .i64 0] 51)).heap.size = w.heap.size + 1 := by simp
  rw [hz1] at hmk O0
  have R1 := R0.alloc (.cells (madeCells #[.bool false, .int .i64 0] (ns.length * 2)) 51)
  have K1 := (K.alloc (.cells #[.bool false, .int .i64 0] 51)).alloc (.cells (madeCells #[.bool false, .int .i64 0] (ns.length * 2)) 51)
  have C1 := galloc (galloc BA (.cells #[.bool false, .int .i64 0] 51)) (.cells (madeCells #[.bool false, .int .i64 0] (ns.length * 2)) 51)
  have kf := K1.free 5
  obtain ⟨d0, d1, d2, d3, d4, d5⟩ := K1.at6
  have HT : Hid (treeB ns = true) := ht
  clear ht
  go_enter Tryz.func35, Tryz.ntmps35
  go_upto_region 3 with fail
  have K2 : Bk (((w.alloc (.cells #[.bool false, .int .i64 0] 51)).alloc (.cells (madeCells #[.bool false, .int .i64 0] (ns.length * 2)) 51)).setCell ⟨pe, 5, none⟩ (.slice (some ⟨w.heap.size + 1, 0, none⟩) ns.length ns.length)) pe (evlC sa sc L bi E al cl (.slice (some ⟨w.heap.size + 1, 0, none⟩) ns.length ns.length)) 99 := K1.set 5 _
  have O2 := ty_set O0 K1 (by decide) 5 (.slice (some ⟨w.heap.size + 1, 0, none⟩) ns.length ns.length)
  have R2 := R1.other (b' := pe) (by omega) 5 (.slice (some ⟨w.heap.size + 1, 0, none⟩) ns.length ns.length)
  have C2 := gset C1 (p := ⟨pe, 5, none⟩) hw0 (.slice (some ⟨w.heap.size + 1, 0, none⟩) ns.length ns.length)
  have hcomm : ((w.alloc (.cells #[.bool false, .int .i64 0] 51)).alloc (.cells (madeCells #[.bool false, .int .i64 0] (ns.length * 2)) 51)).setCell ⟨pe, 5, none⟩ (.slice (some ⟨w.heap.size + 1, 0, none⟩) ns.length ns.length) = ((w.setCell ⟨pe, 5, none⟩ (.slice (some ⟨w.heap.size + 1, 0, none⟩) ns.length ns.length)).alloc (.cells #[.bool false, .int .i64 0] 51)).alloc (.cells (madeCells #[.bool false, .int .i64 0] (ns.length * 2)) 51) := by
    rw [World.setCell_alloc_past _ _ _ _ (by simp; omega), World.setCell_alloc_past _ _ _ _ hpw]
  rw [hcomm] at K2 O2 R2 C2
  clear d0 d1 d2 d3 d4 d5 kf K1 C1 R1 O0 hmk hcomm
  generalize ((w.setCell _ _).alloc _).alloc _ = U at *
  go_loopw [5, 6, 15] (fun _ _ xv wr => TrE w0 pe (w.heap.size + 1) w.heap.size sa sc L M bi E al cl ns xv wr) (fun _ _ xv _ => ns.length - (intOf xv).toNat)
  case atStart => exact ⟨0, Nat.zero_le _, rfl, K2, O2, R2, C2⟩
  case round =>
    obtain ⟨k, hk, rfl, KK, OK, RK, CK⟩ := hrel
    by_cases hlt : k < ns.length
    · have hki : (k : Int) < (ns.length : Int) := by omega
      obtain ⟨g, o, rfl, x0, x1, x2, x3, x4, x5⟩ := (AN.keep CK) k hlt
      obtain ⟨bs, hb, _⟩ := tree_begs HT.out
      have kin := kin_of hb k hlt
      have hl := valR_len L M E ns k hk
      have h12 : 12 ≤ (ns.getD k noNd).op → 0 ≤ (ns.getD k noNd).l ∧ (ns.getD k noNd).l < (k : Int) := fun h => by
        rcases kin.how with ⟨h1, _⟩ | ⟨h1, e0, e1, _⟩ | ⟨h1, e0, e1, e2, e3, _⟩
        · omega
        · omega
        · have := (kin_of hb (k - 1) (by omega)).le
          omega
      have h14 : 14 ≤ (ns.getD k noNd).op → 0 ≤ (ns.getD k noNd).r ∧ (ns.getD k noNd).r < (k : Int) := fun h => by
        rcases kin.how with ⟨h1, _⟩ | ⟨h1, e0, e1, _⟩ | ⟨h1, e0, e1, e2, e3, _⟩
        · omega
        · omega
        · omega
      have hval : nodeW L M E (valR L M E ns k) (ns.getD k noNd) = valA L M E ns k := nodeW_ext L M E (fun h => valR_at _ _ _ _ _ _ (by have := h12 h; omega)) (fun h => valR_at _ _ _ _ _ _ (by have := h14 h; omega))
      have G1 := galloc (Below.refl wr.heap.size wr) (.cells (ndA (ns.getD k noNd)) 64)
      have K1 := KK.keep G1
      have O1 := own_keep OK G1
      have R1 := RK.keep G1
      have N1 := Bk.new wr (ndA (ns.getD k noNd)) 64
      have C1 := CK.trans (G1.mono CK.size)
      have hvr := valR_fits L M hE hf k
      have IV : EvlI (wr.alloc (.cells (ndA (ns.getD k noNd)) 64)) pe bi nb sa sc L M E al cl (w.heap.size + 1) ns.length (valR L M E ns k) :=
        ⟨K1, A.keep C1, MI.keep C1, IE.keep C1, fun j hj => by
          have e0 := fl_at valC_sz noV2 (valR L M E ns k) j 0 (by omega) (by omega)
          have e1 := fl_at valC_sz noV2 (valR L M E ns k) j 1 (by omega) (by omega)
          rw [Nat.add_zero] at e0
          exact ⟨by rw [World.ownsRow.cellAt O1 _ (by omega), e0]; rfl, by rw [World.ownsRow.cellAt O1 _ (by omega), e1]; rfl⟩⟩
      have cn := fun z : Ext (wr.alloc (.cells (ndA (ns.getD k noNd)) 64)) => nodeE_any pe bi nb sa sc L M E al cl (w.heap.size + 1) ns.length (valR L M E ns k) (ns.getD k noNd) z.X (IV.keep z.h) ((T.keep C1).keep z.h) (hf k) kin.op (fun h => by have := h12 h; omega) (fun h => by have := h14 h; omega) hvr hE (by omega)
      rw [hval] at cn
      obtain ⟨⟨xk, xn⟩, hxv⟩ : ∃ x, valA L M E ns k = x := ⟨_, rfl⟩
      rw [hxv] at cn
      have HST := valR_step L M E ns k hlt
      rw [hxv] at HST
      have HS : Hid ((valR L M E ns k).set k (xk, xn) = valR L M E ns (k + 1)) := HST
      clear HST hval hxv hvr IV h12 h14 kin
      generalize ns.getD k noNd = y at *
      obtain ⟨yop, yn, yv, yx, yl, yr⟩ := y
      unfold ndA at *
      dsimp only at *
      go_upto_region 5 with fail
      generalize wr.alloc _ = V at *
      have cC : ∀ z : Ext V, Calls Tryz.prog 63 #[ptrE pe, .agg #[.int .i64 yop, .int .i64 yn, .string yv, .string yx, .int .i64 yl, .int .i64 yr]] z.X (fun e' w'' => e' = .returned (.agg #[.bool xk, .int .i64 xn]) ∧ ∃ m : Ext V, w'' = m.X) := fun z => ext_of (cn z)
      obtain ⟨m0, m1, m2, m3, m4, m5⟩ := N1.at6
      have d5 := K1.at6.2.2.2.2.2
      have hne0 : Nonempty (Ext V) := ⟨⟨_, Below.refl _ _⟩⟩
      have q0 := fun z : Ext V => (z.cell _ _ (lt_of_cell m0)).trans m0
      have q1 := fun z : Ext V => (z.cell _ _ (lt_of_cell m1)).trans m1
      have q2 := fun z : Ext V => (z.cell _ _ (lt_of_cell m2)).trans m2
      have q3 := fun z : Ext V => (z.cell _ _ (lt_of_cell m3)).trans m3
      have q4 := fun z : Ext V => (z.cell _ _ (lt_of_cell m4)).trans m4
      have q5 := fun z : Ext V => (z.cell _ _ (lt_of_cell m5)).trans m5
      have p5 := fun z : Ext V => (z.cell _ _ (lt_of_cell d5)).trans d5
      refine wp_region_ext_tail 9 (by kernel_rfl) (by kernel_rfl) ?_
      simp only [List.take_succ_cons, List.take_zero, List.drop_succ_cons, List.drop_zero]
      repeat (go_big_quiet_step (first | (go_at_call 63; with_reducible exact cC _)))
      refine wpQuiet_nil ?_
      intro _ hw'
      obtain ⟨nz, hw''⟩ := hw'
      subst hw''
      have O3 := own_keep O1 nz.h
      have K3 := K1.keep nz.h
      have R3 := R1.keep nz.h
      have C3 := C1.trans (nz.h.mono C1.size)
      generalize nz.X = X at *
      obtain ⟨O4, _⟩ := World.ownsRow.stored O3 (k * 2) (.bool xk)
      obtain ⟨O5, _⟩ := World.ownsRow.stored O4 (k * 2 + 1) (.int .i64 xn)
      rw [← fl_set2 (valR L M E ns k) k (by omega) (xk, xn), HS.out] at O5
      have hvb := World.ownsRow.lt O3 _ rfl
      have f0 := World.ownsRow.frozenAt O3 (k * 2)
      have f1 := World.ownsRow.frozenAt O3 (k * 2 + 1)
      obtain ⟨c0, c1⟩ : X.cell? ⟨w.heap.size + 1, k * 2, none⟩ = some (.bool ((valR L M E ns k).getD k noV2).1) ∧ X.cell? ⟨w.heap.size + 1, k * 2 + 1, none⟩ = some (.int .i64 ((valR L M E ns k).getD k noV2).2) := by
        have e0 := fl_at valC_sz noV2 (valR L M E ns k) k 0 (by omega) (by omega)
        have e1 := fl_at valC_sz noV2 (valR L M E ns k) k 1 (by omega) (by omega)
        rw [Nat.add_zero] at e0
        exact ⟨by rw [World.ownsRow.cellAt O3 _ (by omega), e0]; rfl, by rw [World.ownsRow.cellAt O3 _ (by omega), e1]; rfl⟩
      have hpv : pe ≠ w.heap.size + 1 := by omega
      have hrv : w.heap.size ≠ w.heap.size + 1 := by omega
      have K5 := (K3.other (b' := w.heap.size + 1) hpv.symm (k * 2) (.bool xk)).other (b' := w.heap.size + 1) hpv.symm (k * 2 + 1) (.int .i64 xn)
      have R5 := (R3.other (b' := w.heap.size + 1) hrv.symm (k * 2) (.bool xk)).other (b' := w.heap.size + 1) hrv.symm (k * 2 + 1) (.int .i64 xn)
      have C5 := gset (gset C3 (p := ⟨w.heap.size + 1, k * 2, none⟩) (show w0.heap.size ≤ w.heap.size + 1 by omega) (.bool xk)) (p := ⟨w.heap.size + 1, k * 2 + 1, none⟩) (show w0.heap.size ≤ w.heap.size + 1 by omega) (.int .i64 xn)
      have fin : TrE w0 pe (w.heap.size + 1) w.heap.size sa sc L M bi E al cl ns (.int .i64 ((k : Int) + 1)) ((X.setCell ⟨w.heap.size + 1, k * 2, none⟩ (.bool xk)).setCell ⟨w.heap.size + 1, k * 2 + 1, none⟩ (.int .i64 xn)) := ⟨k + 1, by omega, rfl, K5, O5, R5, C5⟩
      have HF := show Hid _ from fin
      clear fin K5 R5 C5 O5 O4 O3 K3 R3 C3 O1 K1 R1 C1 N1 m0 m1 m2 m3 m4 m5 q0 q1 q2 q3 q4 q5 p5 d5 x0 x1 x2 x3 x4 x5 cC cn OK KK RK CK HS
      go_wp2
      go_roundw
      case rel => exact HF.out
      case measure => simp [intOf]; omega
    · obtain rfl : k = ns.length := by omega
      obtain ⟨bs, hb, hpos⟩ := tree_begs HT.out
      obtain ⟨m, hm⟩ : ∃ m, ns.length = m + 1 := ⟨ns.length - 1, by omega⟩
      have hl := valR_len L M E ns ns.length (Nat.le_refl _)
      have e0 := fl_at valC_sz noV2 (valR L M E ns ns.length) m 0 (by omega) (by omega)
      have e1 := fl_at valC_sz noV2 (valR L M E ns ns.length) m 1 (by omega) (by omega)
      rw [Nat.add_zero] at e0
      have hv : (valR L M E ns ns.length).getD m noV2 = valA L M E ns (ns.length - 1) := by rw [valR_at _ _ _ _ _ _ (by omega), valK_at _ _ _ _ _ _ (by omega), hm, Nat.add_sub_cancel]
      rw [hv] at e0 e1
      rw [HXR.out] at e0 e1
      have v0 : wr.cell? ⟨w.heap.size + 1, m * 2, none⟩ = some (.bool xr) := by rw [World.ownsRow.cellAt OK _ (by omega), e0]; rfl
      have v1 : wr.cell? ⟨w.heap.size + 1, m * 2 + 1, none⟩ = some (.int .i64 nr) := by rw [World.ownsRow.cellAt OK _ (by omega), e1]; rfl
      have d5 := KK.at6.2.2.2.2.2
      obtain ⟨r0, r1⟩ := RK.at2
      have rf := RK.free
      have hidx : (ns.length : Int) - 1 = (m : Int) := by omega
      have hmi : (m : Int) < (ns.length : Int) := by omega
      have hnn : ¬ (ns.length : Int) < (ns.length : Int) := by omega
      have hn1 : (1 : Int) ≤ (ns.length : Int) := by omega
      clear hlt e0 e1 hv OK hb hm hl
      go_wp2
      refine bodyPost_ret (v := .agg #[.bool xr, .int .i64 nr]) (by simp [results, Tryz.results35, go_sem, r0, r1]) rfl ⟨rfl, ?_⟩
      exact gset (gset CK (p := ⟨w.heap.size, 0, none⟩) (show w0.heap.size ≤ w.heap.size by omega) _) (p := ⟨w.heap.size, 1, none⟩) (show w0.heap.size ≤ w.heap.size by omega) _

end Go.Proofs.YtnolbpekdikamaaGreatDoor
