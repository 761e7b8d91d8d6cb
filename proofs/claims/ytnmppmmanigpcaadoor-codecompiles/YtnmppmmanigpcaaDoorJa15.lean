/- The compiler's tree, pure: what stands behind the first k nodes; the jumps that are open. And what goes with it: 4 texts in one. -/
import Derived.Test.YtnmppmmanigpcaaDoorJa14
namespace Go.Proofs.YtnmppmmanigpcaaDoor
open Go.RowKit Go.BigFrame Go.Proofs.YtnmppmmanigpcaaDoor.Ev
set_option linter.unusedVariables false
set_option linter.unusedSimpArgs false

def jumpS (s : Cst) (cd : Int) : Cst := { s with code := s.code ++ [⟨cd, 0, 0, 0, 0⟩], opn := s.opn ++ [s.code.length] }
/-- Behind the first k nodes. -/
def treK (L : List Ty) (M : ByteArray → Option Int) (ns : List Nd) : Nat → Cst
  | 0 => ⟨[], [], []⟩
  | k + 1 => if jmpF ns ns.length k = 0 then nodS L M (treK L M ns k) (ns.getD k noNd) else jumpS (nodS L M (treK L M ns k) (ns.getD k noNd)) (jmpF ns ns.length k)
theorem nod2_code (L : List Ty) (M : ByteArray → Option Int) (s : Cst) (n : Nd) : (nod2 L M s n).code.length = s.code.length + 1 ∧ (nod2 L M s n).opn = s.opn := by
  have h : (nod1 L s n).code = s.code ∧ (nod1 L s n).opn = s.opn := by
    unfold nod1 colS
    split
    · split <;> exact ⟨rfl, rfl⟩
    · exact ⟨rfl, rfl⟩
  unfold nod2
  exact ⟨by simp [h.1], h.2⟩
theorem nodS_code (L : List Ty) (M : ByteArray → Option Int) (s : Cst) (n : Nd) : (nodS L M s n).code.length = s.code.length + 1 := by
  unfold nodS
  split
  · unfold landS
    rw [List.length_set]
    exact (nod2_code L M s n).1
  · exact (nod2_code L M s n).1
theorem nodS_opn (L : List Ty) (M : ByteArray → Option Int) (s : Cst) (n : Nd) : (nodS L M s n).opn = if n.op = 25 ∨ n.op = 26 then s.opn.dropLast else s.opn := by
  unfold nodS
  split
  · unfold landS
    rw [(nod2_code L M s n).2]
  · exact (nod2_code L M s n).2
/-- The open jumps lie within the code; the code is not too long. -/
theorem treK_in (L : List Ty) (M : ByteArray → Option Int) (ns : List Nd) : ∀ k, (∀ x ∈ (treK L M ns k).opn, x < (treK L M ns k).code.length) ∧ (treK L M ns k).code.length ≤ 2 * k
  | 0 => ⟨fun x h => by simp [treK] at h, by simp [treK]⟩
  | k + 1 => by
    obtain ⟨h1, h2⟩ := treK_in L M ns k
    have c := nodS_code L M (treK L M ns k) (ns.getD k noNd)
    have o := nodS_opn L M (treK L M ns k) (ns.getD k noNd)
    have h3 : ∀ x ∈ (nodS L M (treK L M ns k) (ns.getD k noNd)).opn, x < (treK L M ns k).code.length := by
      intro x hx
      rw [o] at hx
      split at hx
      · exact h1 x (List.dropLast_subset _ hx)
      · exact h1 x hx
    unfold treK
    split
    · exact ⟨fun x hx => by have := h3 x hx; omega, by omega⟩
    · unfold jumpS
      dsimp only
      rw [List.length_append, List.length_singleton]
      refine ⟨fun x hx => ?_, by omega⟩
      rcases List.mem_append.1 hx with h | h
      · have := h3 x h; omega
      · rw [List.mem_singleton] at h; omega

def aoB (n : Nd) : Bool := decide (n.op = 25 ∨ n.op = 26)
/-- How many of the first n. -/
def cntN (f : Nat → Bool) : Nat → Nat
  | 0 => 0
  | n + 1 => cntN f n + (f n).toNat
theorem cnt_add {f a g b : Nat → Bool} : ∀ n, (∀ p, p < n → (f p).toNat + (a p).toNat = (g p).toNat + (b p).toNat) → cntN f n + cntN a n = cntN g n + cntN b n
  | 0, _ => rfl
  | n + 1, h => by
    have h1 := cnt_add n fun p hp => h p (by omega)
    have h2 := h n (by omega)
    unfold cntN
    omega
theorem cnt_zero {f : Nat → Bool} : ∀ n, (∀ p, p < n → f p = false) → cntN f n = 0
  | 0, _ => rfl
  | n + 1, h => by unfold cntN; rw [cnt_zero n fun p hp => h p (by omega), h n (by omega)]; rfl
theorem cnt_one {f : Nat → Bool} {p0 : Nat} : ∀ n, p0 < n → f p0 = true → (∀ p, p < n → f p = true → p = p0) → cntN f n = 1
  | 0, h, _, _ => absurd h (Nat.not_lt_zero _)
  | n + 1, h, h1, h2 => by
    unfold cntN
    by_cases e : p0 = n
    · subst e
      rw [cnt_zero p0 fun p hp => by
        cases hf : f p with
        | false => rfl
        | true => have := h2 p (by omega) hf; omega, h1]
      rfl
    · rw [cnt_one n (by omega) h1 fun p hp => h2 p (by omega)]
      cases hf : f n with
      | false => rfl
      | true => have := h2 n (by omega) hf; omega
theorem cnt_pos {f : Nat → Bool} {p0 : Nat} : ∀ n, p0 < n → f p0 = true → 1 ≤ cntN f n
  | 0, h, _ => absurd h (Nat.not_lt_zero _)
  | n + 1, h, h1 => by
    unfold cntN
    by_cases e : p0 = n
    · subst e; rw [h1]; simp
    · have := cnt_pos n (by omega) h1; omega
theorem jmpF_iff (ns : List Nd) (j : Nat) : ∀ m, jmpF ns m j ≠ 0 ↔ ∃ p, p < m ∧ aoB (ns.getD p noNd) = true ∧ (ns.getD p noNd).l = (j : Int)
  | 0 => ⟨fun h => absurd rfl h, fun ⟨p, h, _⟩ => absurd h (Nat.not_lt_zero _)⟩
  | m + 1 => by
    have ih := jmpF_iff ns j m
    unfold jmpF
    by_cases h : ((ns.getD m noNd).op = 25 ∨ (ns.getD m noNd).op = 26) ∧ (ns.getD m noNd).l = (j : Int)
    · rw [if_pos h]
      exact ⟨fun _ => ⟨m, by omega, decide_eq_true h.1, h.2⟩, fun _ => by omega⟩
    · rw [if_neg h]
      refine ih.trans ⟨fun ⟨p, h1, h2⟩ => ⟨p, by omega, h2⟩, fun ⟨p, h1, h2, h3⟩ => ⟨p, ?_, h2, h3⟩⟩
      by_cases e : p = m
      · subst e
        exact absurd ⟨of_decide_eq_true h2, h3⟩ h
      · omega
/-- Is the jump of the node p open ahead of the node k? -/
def liv (ns : List Nd) (k p : Nat) : Bool := decide (k ≤ p) && (aoB (ns.getD p noNd) && decide ((ns.getD p noNd).l < (k : Int)))
theorem treK_opn (L : List Ty) (M : ByteArray → Option Int) (ns : List Nd) (ht : treeB ns = true) : ∀ k, k ≤ ns.length → (treK L M ns k).opn.length = cntN (liv ns k) ns.length
  | 0, _ => by
    symm
    refine cnt_zero _ fun p hp => ?_
    unfold liv
    by_cases h : aoB (ns.getD p noNd) = true
    · have := (tree_two ht hp (by have := of_decide_eq_true h; omega)).1
      rw [decide_eq_false (show ¬ (ns.getD p noNd).l < ((0 : Nat) : Int) by omega)]
      simp
    · rw [eq_false_of_ne_true h]
      simp
  | k + 1, hk => by
    have ih := treK_opn L M ns ht k (by omega)
    obtain ⟨bs, hb, _⟩ := tree_begs ht
    have o := nodS_opn L M (treK L M ns k) (ns.getD k noNd)
    have hadd := cnt_add (f := liv ns (k + 1)) (a := fun p => decide (p = k) && aoB (ns.getD k noNd)) (g := liv ns k) (b := fun p => aoB (ns.getD p noNd) && decide ((ns.getD p noNd).l = (k : Int))) ns.length (fun p hp => by
      unfold liv
      cases ha : aoB (ns.getD p noNd) with
      | false =>
        by_cases e : p = k
        · subst e; rw [ha]; simp
        · rw [decide_eq_false e]; simp
      | true =>
        have hbd := (tree_bnd ht hp).1
        by_cases e : p = k
        · subst e
          rw [ha, decide_eq_false (show ¬ p + 1 ≤ p by omega), decide_eq_true (show p ≤ p by omega), decide_eq_true (show p = p from rfl), decide_eq_true hbd, decide_eq_false (show ¬ (ns.getD p noNd).l = (p : Int) by omega)]
          rfl
        · rw [decide_eq_false e]
          by_cases h1 : k ≤ p
          · rw [decide_eq_true h1, decide_eq_true (show k + 1 ≤ p by omega)]
            by_cases h2 : (ns.getD p noNd).l < (k : Int)
            · rw [decide_eq_true h2, decide_eq_true (show (ns.getD p noNd).l < ((k + 1 : Nat) : Int) by omega), decide_eq_false (show ¬ (ns.getD p noNd).l = (k : Int) by omega)]
              rfl
            · rw [decide_eq_false h2]
              by_cases h3 : (ns.getD p noNd).l = (k : Int)
              · rw [decide_eq_true h3, decide_eq_true (show (ns.getD p noNd).l < ((k + 1 : Nat) : Int) by omega)]
                rfl
              · rw [decide_eq_false h3, decide_eq_false (show ¬ (ns.getD p noNd).l < ((k + 1 : Nat) : Int) by omega)]
                rfl
          · rw [decide_eq_false h1, decide_eq_false (show ¬ k + 1 ≤ p by omega), decide_eq_false (show ¬ (ns.getD p noNd).l = (k : Int) by omega)]
            rfl)
    have hA : cntN (fun p => decide (p = k) && aoB (ns.getD k noNd)) ns.length = (aoB (ns.getD k noNd)).toNat := by
      cases ha : aoB (ns.getD k noNd) with
      | true => exact cnt_one (p0 := k) _ (by omega) (by simp) fun p _ h => by simpa using h
      | false => exact cnt_zero _ fun p _ => by simp
    have hB : cntN (fun p => aoB (ns.getD p noNd) && decide ((ns.getD p noNd).l = (k : Int))) ns.length = if jmpF ns ns.length k = 0 then 0 else 1 := by
      by_cases h : jmpF ns ns.length k = 0
      · rw [if_pos h]
        refine cnt_zero _ fun p hp => ?_
        cases hh : aoB (ns.getD p noNd) && decide ((ns.getD p noNd).l = (k : Int)) with
        | false => rfl
        | true =>
          rw [Bool.and_eq_true, decide_eq_true_eq] at hh
          exact absurd h ((jmpF_iff ns k ns.length).2 ⟨p, hp, hh.1, hh.2⟩)
      · rw [if_neg h]
        obtain ⟨p0, h0, h1, h2⟩ := (jmpF_iff ns k ns.length).1 h
        refine cnt_one (p0 := p0) _ h0 (by rw [h1, decide_eq_true h2]; rfl) fun p hp hh => ?_
        rw [Bool.and_eq_true, decide_eq_true_eq] at hh
        exact kin_uniq (fun i hi => kin_of hb i hi) hp h0 (.inl hh.2) (.inl h2)
    rw [hA, hB] at hadd
    have hoL : (nodS L M (treK L M ns k) (ns.getD k noNd)).opn.length = (treK L M ns k).opn.length - (aoB (ns.getD k noNd)).toNat := by
      rw [o]
      unfold aoB
      split
      · rename_i h; rw [decide_eq_true h, List.length_dropLast]; rfl
      · rename_i h; rw [decide_eq_false h]; rfl
    have hpos : aoB (ns.getD k noNd) = true → 1 ≤ cntN (liv ns k) ns.length := fun h => cnt_pos (p0 := k) _ (by omega) (by
      unfold liv
      rw [h, decide_eq_true (show k ≤ k from Nat.le_refl _), decide_eq_true (tree_bnd ht (by omega)).1]
      rfl)
    have hle : (aoB (ns.getD k noNd)).toNat ≤ cntN (liv ns k) ns.length := by
      cases h : aoB (ns.getD k noNd) with
      | true => exact hpos h
      | false => exact Nat.zero_le _
    unfold treK
    split
    · rename_i h
      rw [if_pos h] at hadd
      rw [hoL, ih]
      omega
    · rename_i h
      rw [if_neg h] at hadd
      unfold jumpS
      dsimp only
      rw [List.length_append, hoL, ih]
      show _ + 1 = _
      omega
/-- At an AND or OR there is an open jump. -/
theorem treK_ready (L : List Ty) (M : ByteArray → Option Int) (ns : List Nd) (ht : treeB ns = true) {k : Nat} (hk : k < ns.length) (h : (ns.getD k noNd).op = 25 ∨ (ns.getD k noNd).op = 26) : (treK L M ns k).opn ≠ [] ∧ lastN (treK L M ns k).opn < (treK L M ns k).code.length := by
  have h1 : 1 ≤ (treK L M ns k).opn.length := by
    rw [treK_opn L M ns ht k (by omega)]
    refine cnt_pos (p0 := k) _ hk ?_
    unfold liv aoB
    rw [decide_eq_true h, decide_eq_true (show k ≤ k from Nat.le_refl _), decide_eq_true (tree_bnd ht hk).1]
    rfl
  have h2 : (treK L M ns k).opn ≠ [] := fun e => by rw [e] at h1; simp at h1
  refine ⟨h2, (treK_in L M ns k).1 _ ?_⟩
  have := last_split h2
  rw [this]
  simp [lastN, List.getD_eq_getElem?_getD]

end Go.Proofs.YtnmppmmanigpcaaDoor
namespace Go.Proofs.YtnmppmmanigpcaaDoor
open Go.RowKit Go.BigFrame Go.Proofs.YtnmppmmanigpcaaDoor.Ev
set_option linter.unusedVariables false
set_option linter.unusedSimpArgs false

theorem colS_len (L : List Ty) (s : Cst) (x : ByteArray) : (colS L s x).cols.length ≤ s.cols.length + 1 := by
  unfold colS
  split
  · omega
  · simp
theorem nodS_cols (L : List Ty) (M : ByteArray → Option Int) (s : Cst) (n : Nd) : (nodS L M s n).cols.length ≤ s.cols.length + 1 := by
  have h : (nod1 L s n).cols.length ≤ s.cols.length + 1 := by
    unfold nod1
    split
    · exact colS_len L s _
    · omega
  unfold nodS landS nod2
  split <;> exact h
theorem treK_len (L : List Ty) (M : ByteArray → Option Int) (ns : List Nd) : ∀ k, (treK L M ns k).cols.length ≤ k ∧ (treK L M ns k).opn.length ≤ (treK L M ns k).code.length
  | 0 => ⟨by simp [treK], by simp [treK]⟩
  | k + 1 => by
    obtain ⟨h1, h2⟩ := treK_len L M ns k
    have c := nodS_code L M (treK L M ns k) (ns.getD k noNd)
    have o := nodS_opn L M (treK L M ns k) (ns.getD k noNd)
    have cc := nodS_cols L M (treK L M ns k) (ns.getD k noNd)
    have h3 : (nodS L M (treK L M ns k) (ns.getD k noNd)).opn.length ≤ (treK L M ns k).opn.length := by
      rw [o]
      split
      · rw [List.length_dropLast]; omega
      · omega
    unfold treK
    split
    · exact ⟨by omega, by omega⟩
    · unfold jumpS
      dsimp only
      simp only [List.length_append, List.length_singleton]
      exact ⟨by omega, by omega⟩
theorem nodS_open (L : List Ty) (M : ByteArray → Option Int) (ns : List Nd) (k : Nat) : (nodS L M (treK L M ns k) (ns.getD k noNd)).opn.length ≤ (nodS L M (treK L M ns k) (ns.getD k noNd)).code.length := by
  have h2 := (treK_len L M ns k).2
  rw [nodS_code, nodS_opn]
  split
  · rw [List.length_dropLast]; omega
  · omega
/-- At the round k. -/
structure TrI (u : World) (p base b : Nat) (S : Nat → Prop) (vt vi : Value) (L : List Ty) (M : ByteArray → Option Int) (ns : List Nd) (xv : Value) (wr : World) : Prop where
  ex : ∃ (k : Nat) (S' : Nat → Prop), k ≤ ns.length ∧ xv = .int .i64 (k : Int) ∧ Cmp wr p base S' vt vi (treK L M ns k) ∧ FrC S u wr ∧ (∀ q, S' q → S q ∨ u.heap.size ≤ q) ∧ wr.rowIs b 72 ns.length (fun j => .int .i64 (jmpF ns ns.length j))
set_option maxRecDepth 100000 in
set_option maxHeartbeats 4000000 in
theorem tree_any (p base bi nb : Nat) (S : Nat → Prop) (sa : Option Addr) (sc : Nat) (L : List Ty) (M : ByteArray → Option Int) (ns : List Nd) (ao : Option Addr) (cap : Nat) (w : World) (C : Cmp w p base S (.slice sa L.length sc) (.map (some bi)) ⟨[], [], []⟩) (w0 : World) (A : IsTypes w0 sa L.length L) (MI : MpAt w0 bi nb M) (AN : IsNds w0 ao ns) (hw0 : w0.heap.size ≤ base) (BA : Below w0.heap.size w0 w)
    (ht : treeB ns = true) (hf : ∀ k, (ns.getD k noNd).fit) (hr : ns.length * 64 ≤ 140737488351232) (hL : L.length * 8 ≤ 140737488351232) :
    Calls Tryd.prog 25 #[.pointer (some ⟨p, 0, none⟩), .slice ao ns.length cap] w fun e w' => e = .returned (.tuple #[]) ∧ CStp p base S (.slice sa L.length sc) (.map (some bi)) w w' (treK L M ns ns.length) := by
  have c65 := jumpsOf_any ns ao cap w (AN.keep BA) ht hr
  have HT : Hid (treeB ns = true) := ht
  have hlo := C.lo
  have hS := C.lt
  clear ht
  go_enter Tryd.func25, Tryd.ntmps25
  go_upto_region 2 with (first
    | (go_at_call 49; (with_reducible refine c65.mono ?_); rintro e u ⟨b, rfl, hb, Rb, gu⟩))
  have hbu := Rb.lt
  have hwu := gu.size
  go_loopw [5, 6, 11] (fun _ _ xv wr => TrI u p base b S (.slice sa L.length sc) (.map (some bi)) L M ns xv wr) (fun _ _ xv _ => ns.length - (intOf xv).toNat)
  case atStart => exact ⟨0, S, Nat.zero_le _, rfl, C.keep gu, FrC.of (Below.refl _ _), fun q h => .inl h, Rb⟩
  case round =>
    obtain ⟨k, S', hk, rfl, CK, FK, VK, RK⟩ := hrel
    by_cases hlt : k < ns.length
    · have hlo' : ∀ q, S' q → base ≤ q := CK.lo
      have BK : Below w0.heap.size w0 wr := FK.toBelow (BA.trans (gu.mono BA.size)) (Nat.le_refl _) (fun q h => Nat.le_trans hw0 (hlo q h))
      obtain ⟨g, o, rfl, x0, x1, x2, x3, x4, x5⟩ := (AN.keep BK) k hlt
      have hki : (k : Int) < (ns.length : Int) := by omega
      have nSb : ¬ S' b := fun h => by
        rcases VK b h with h1 | h1
        · have := hS b h1; omega
        · omega
      have hrd := fun h => treK_ready L M ns HT.out hlt h
      have h2 := (treK_in L M ns k).2
      have h3 := (treK_len L M ns k).1
      have h4 := nodS_open L M ns k
      have h5 := nodS_code L M (treK L M ns k) (ns.getD k noNd)
      have hfk := hf k
      have HK1 : Hid (treK L M ns (k + 1) = if jmpF ns ns.length k = 0 then nodS L M (treK L M ns k) (ns.getD k noNd) else jumpS (nodS L M (treK L M ns k) (ns.getD k noNd)) (jmpF ns ns.length k)) := rfl
      generalize ns.getD k noNd = y at *
      obtain ⟨yop, yn, yv, yx, yl, yr⟩ := y
      dsimp only at x0 x1 x2 x3 x4 x5 hrd
      have G1 := galloc (Below.refl wr.heap.size wr) (.cells #[.int .i64 yop, .int .i64 yn, .string yv, .string yx, .int .i64 yl, .int .i64 yr] 63)
      have c66 := node_any p base bi nb S' sa sc L M (treK L M ns k) ⟨yop, yn, yv, yx, yl, yr⟩ _ (CK.keep G1) w0 A MI hw0 (BK.trans (G1.mono BK.size)) hfk hL (by omega) (by omega) hrd
      unfold ndA at c66
      dsimp only at c66
      generalize treK L M ns k = s at *
      generalize nodS L M s ⟨yop, yn, yv, yx, yl, yr⟩ = s2 at *
      obtain ⟨jk, hjk⟩ : ∃ jk, jmpF ns ns.length k = jk := ⟨_, rfl⟩
      have rc := RK.cell hlt
      rw [hjk] at rc HK1
      have HJ : Hid (jmpF ns ns.length k = jk) := hjk
      have HL : Hid (k < ns.length) := hlt
      have c67 := fun (S7 : Nat → Prop) (u7 : World) (C7 : Cmp u7 p base S7 (.slice sa L.length sc) (.map (some bi)) s2) => jump_any p base S7 (.slice sa L.length sc) (.map (some bi)) s2 jk u7 C7 (by omega) h4
      clear hlt hjk h2 h3 h4 h5 hrd hf
      by_cases hj : jk = 0
      · subst hj
        have e1 : treK L M ns (k + 1) = s2 := by rw [HK1.out, if_pos rfl]
        have HE := show Hid _ from e1
        clear e1 HK1 c67
        go_wp2_with (first
          | (go_at_call 50; (with_reducible refine c66.mono ?_); rintro e u7 ⟨rfl, S7, C7, F7, V7⟩; have R7 := (RK.of_block (G1.block b RK.lt)).of_block (F7.blk b (Nat.lt_of_lt_of_le RK.lt G1.size) nSb); have r7 := R7.cell HL.out; rw [HJ.out] at r7))
        have F8 : FrC S u u7 := (FK.below G1).trans F7 VK
        have V8 : ∀ q, S7 q → S q ∨ u.heap.size ≤ q := fun q h => by
          rcases V7 q h with h1 | h1
          · exact VK q h1
          · right; have := FK.size; have := G1.size; omega
        have HP : Hid (TrI u p base b S (.slice sa L.length sc) (.map (some bi)) L M ns (.int .i64 ((k : Int) + 1)) u7) := ⟨k + 1, S7, HL.out, rfl, by rw [HE.out]; exact C7, F8, V8, R7⟩
        go_roundw
        case rel => exact HP.out
        case measure => have hlt := HL.out; simp [intOf]; omega
      · have hjn : (jk == 0) = false := beq_eq_false_iff_ne.2 hj
        have e1 : treK L M ns (k + 1) = jumpS s2 jk := by rw [HK1.out, if_neg hj]
        have HE := show Hid _ from e1
        clear e1 HK1 hj
        go_wp2_with (first
          | (go_at_call 50; (with_reducible refine c66.mono ?_); rintro e u7 ⟨rfl, S7, C7, F7, V7⟩; have R7 := (RK.of_block (G1.block b RK.lt)).of_block (F7.blk b (Nat.lt_of_lt_of_le RK.lt G1.size) nSb); have r7 := R7.cell HL.out; rw [HJ.out] at r7; have c8 := c67 S7 u7 C7)
          | (go_at_call 51; (with_reducible refine c8.mono ?_); rintro e u8 ⟨rfl, S8, C8, F9, V9⟩))
        have F8 : FrC S u u7 := (FK.below G1).trans F7 VK
        have V8 : ∀ q, S7 q → S q ∨ u.heap.size ≤ q := fun q h => by
          rcases V7 q h with h1 | h1
          · exact VK q h1
          · right; have := FK.size; have := G1.size; omega
        have nS7 : ¬ S7 b := fun h => by
          rcases V8 b h with h1 | h1
          · have := hS b h1; omega
          · omega
        have HP : Hid (TrI u p base b S (.slice sa L.length sc) (.map (some bi)) L M ns (.int .i64 ((k : Int) + 1)) u8) := ⟨k + 1, S8, HL.out, rfl, by rw [HE.out]; exact C8, F8.trans F9 V8, fun q h => by
          rcases V9 q h with h1 | h1
          · exact V8 q h1
          · right; have := F8.size; omega, R7.of_block (F9.blk b R7.lt nS7)⟩
        go_roundw
        case rel => exact HP.out
        case measure => have hlt := HL.out; simp [intOf]; omega
    · obtain rfl : k = ns.length := by omega
      have q : ¬ (ns.length : Int) < (ns.length : Int) := by omega
      clear hlt
      go_wp2
      refine bodyPost_end (results_none rfl _ _ _) rfl ⟨rfl, CStp.next (FrC.of gu) (fun q h => .inl h) ⟨S', CK, FK, VK⟩⟩

end Go.Proofs.YtnmppmmanigpcaaDoor
namespace Go.Proofs.YtnmppmmanigpcaaDoor
open Go.RowKit Go.BigFrame Go.Proofs.YtnmppmmanigpcaaDoor.Ev
set_option linter.unusedVariables false
set_option linter.unusedSimpArgs false

/-- What Compile comes to. -/
def cmpS (L : List Ty) (q : Qy) (ns : List Nd) : Cst := if runB (itemF q.items q.items.length) ns = true then treK L (itemF q.items q.items.length) ns ns.length else ⟨[], [], []⟩
/-- What Compile answers: rows of its own. -/
structure CmpP (w : World) (s : Cst) (e : Ending) (w' : World) : Prop where
  ex : ∃ ai ci ac cc ws, e = .returned (.agg #[.slice ai s.code.length ci, .slice ac s.cols.length cc]) ∧ w'.ownsRow w.heap.size 74 5 (.slice ai s.code.length ci) s.code.length (fl insC s.code) ∧
    ONst w' w.heap.size 60 3 1 intC (.slice ac s.cols.length cc) (s.cols.map Prod.snd) ws ∧ Below w.heap.size w w'
theorem Bk.one1 {w : World} {b : Nat} {c0 : Value} {t : TypeId} (h : Bk w b #[c0] t) : w.cell? ⟨b, 0, none⟩ = some c0 := cell_of_row w b 0 _ _ _ h
theorem infoPg : (Tryd.prog.info? 40).map (·.size) = some 2 := by kernel_rfl
set_option maxRecDepth 100000 in
set_option maxHeartbeats 4000000 in
theorem compile_any (sa : Option Addr) (sc : Nat) (L : List Ty) (q : Qy) (hq : q.fit) (cs : Array Value) (ai : Option Addr) (ci : Nat) (aw : Option Addr) (cw : Nat) (ar : Option Addr) (cr : Nat) (ns : List Nd) (ao : Option Addr) (cap : Nat) (w : World) (K : KwAt w) (A : IsTypes w sa L.length L) (AQ : IsQ w q cs ai ci aw cw ar cr) (AN : IsNds w ao ns)
    (hf : ∀ k, (ns.getD k noNd).fit) (hr : ns.length * 64 ≤ 140737488351232) (hL : L.length * 8 ≤ 140737488351232) :
    Calls Tryd.prog 11 #[.agg #[.slice sa L.length sc], .agg cs, .slice ao ns.length cap] w fun e w' => CmpP w (cmpS L q ns) e w' := by
  have hcs := AQ.eq
  obtain ⟨r, hr0⟩ : ∃ r, cmpS L q ns = r := ⟨_, rfl⟩
  rw [hr0]
  have HR : Hid ((if runB (itemF q.items q.items.length) ns = true then treK L (itemF q.items q.items.length) ns ns.length else ⟨[], [], []⟩) = r) := hr0
  clear hr0
  have B1 := galloc (Below.refl w.heap.size w) (.cells #[.slice sa L.length sc] 24)
  have B2 := galloc B1 (.cells cs 31)
  have B3 := galloc B2 (.cells #[.slice none 0 0, .slice none 0 0] 40)
  have k1 := ((Bk.new w #[.slice sa L.length sc] 24).alloc (.cells cs 31)).alloc (.cells #[.slice none 0 0, .slice none 0 0] 40)
  have k2 := (Bk.newE (w := w.alloc (.cells #[.slice sa L.length sc] 24)) (g := w.heap.size + 1) (by simp) cs 31).alloc (.cells #[.slice none 0 0, .slice none 0 0] 40)
  have k3 := Bk.newE (w := (w.alloc (.cells #[.slice sa L.length sc] 24)).alloc (.cells cs 31)) (g := w.heap.size + 2) (by simp) #[.slice none 0 0, .slice none 0 0] 40
  subst hcs
  go_enter Tryd.func11, Tryd.ntmps11
  go_upto_region 1 with fail
  generalize ((w.alloc _).alloc _).alloc _ = V at *
  obtain ⟨q0, q1, q2, q3, q4, q5, q6⟩ := k2.at7
  have c31 := cItemsOf_any q hq _ ai ci aw cw ar cr V (AQ.keep B3)
  go_upto_region 2 with (first
    | (go_at_call 23; (with_reducible refine c31.mono ?_); rintro e X1 ⟨bi, rfl, hbi, MI, g1⟩))
  have c32 := isRunnable_any ns ao cap bi q.items.length (itemF q.items q.items.length) X1 (K.keep (gtrans B3 g1)) (AN.keep (gtrans B3 g1)) MI hr hf
  obtain ⟨rb, hrb⟩ : ∃ rb, runB (itemF q.items q.items.length) ns = rb := ⟨_, rfl⟩
  have HB : Hid (runB (itemF q.items q.items.length) ns = rb) := hrb
  rw [hrb] at c32
  clear hrb
  cases rb with
  | false =>
    have hr0 : r = ⟨[], [], []⟩ := by have := HR.out; rw [HB.out] at this; exact this.symm
    subst hr0
    go_upto_region 3 with (first
      | (go_at_call 24; (with_reducible refine c32.mono ?_); rintro e X2 ⟨rfl, g2⟩))
    have k5 := (k3.keep g1).keep g2
    have kf := k5.free
    obtain ⟨e0, e1⟩ := k5.at2
    have B5 := gtrans (gtrans B3 g1) g2
    have k6 := (k5.set 0 (.slice none 0 0)).set 1 (.slice none 0 0)
    have HK := show Hid _ from k6
    have B6 := gset (gset B5 (p := ⟨w.heap.size + 2, 0, none⟩) (show _ ≤ w.heap.size + 2 by omega) (.slice none 0 0)) (p := ⟨w.heap.size + 2, 1, none⟩) (show _ ≤ w.heap.size + 2 by omega) (.slice none 0 0)
    clear k6
    go_wp2
    refine bodyPost_ret (results_cell_row rfl _ _ (w.heap.size + 2) 40 #[.slice none 0 0, .slice none 0 0] (0, 0) _ rfl HK.out Tryd.underlying40 rfl infoPg) rfl ?_
    exact ⟨none, 0, none, 0, [], rfl, World.ownsRow_nil _ _ _ _, ONst.nil _ _ _ _ _ _, B6⟩
  | true =>
    have hr0 : r = treK L (itemF q.items q.items.length) ns ns.length := by have := HR.out; rw [HB.out] at this; exact this.symm
    subst hr0
    have htr : treeB ns = true := by
      have := HB.out
      unfold runB at this
      rw [Bool.and_eq_true] at this
      exact this.1
    go_upto_region 4 with (first
      | (go_at_call 24; (with_reducible refine c32.mono ?_); rintro e X2 ⟨rfl, g2⟩))
    have B5 := gtrans (gtrans B3 g1) g2
    have y0 := ((k1.keep g1).keep g2).one1
    -- the compiler is made
    have hmm : ∀ u : World, (Instr.makeMap 67 none).run Tryd.prog u = .ok (.map (some u.heap.size)) (u.alloc (.map #[] 0)) := fun u => run_makeMap _ u
    have AX : IsTypes X2 sa L.length L := A.keep B5
    have NX : IsNds X2 ao ns := AN.keep B5
    have MX : MpAt X2 bi q.items.length (itemF q.items q.items.length) := MI.keep g2
    have k5 := (k3.keep g1).keep g2
    have zk := k5.lt
    have MP1 := (MpX.new X2).keep (galloc (Below.refl _ _) (.cells #[.slice sa L.length sc, .map (some bi), .map (some X2.heap.size), .slice none 0 0, .slice none 0 0, .slice none 0 0] 71))
    have K1 := Bk.newE (w := X2.alloc (.map #[] 0)) (g := X2.heap.size + 1) (by simp) #[.slice sa L.length sc, .map (some bi), .map (some X2.heap.size), .slice none 0 0, .slice none 0 0, .slice none 0 0] 71
    have G3 := galloc (galloc (Below.refl X2.heap.size X2) (.map #[] 0)) (.cells #[.slice sa L.length sc, .map (some bi), .map (some X2.heap.size), .slice none 0 0, .slice none 0 0, .slice none 0 0] 71)
    go_upto_region 5 with fail
    generalize (X2.alloc (.map #[] 0)).alloc _ = Y at *
    have CI : Cmp Y (X2.heap.size + 1) X2.heap.size (fotC (X2.heap.size + 1) X2.heap.size (.slice none 0 0) (.slice none 0 0) (.slice none 0 0)) (.slice sa L.length sc) (.map (some bi)) ⟨[], [], []⟩ :=
      ⟨X2.heap.size, .slice none 0 0, .slice none 0 0, .slice none 0 0, [], rfl, ⟨K1, World.ownsRow_nil _ _ _ _, ONst.nil _ _ _ _ _ _, World.ownsRow_nil _ _ _ _, MP1, (fun _ _ _ h => by cases h), G3.size, by omega, Nat.le_refl _⟩⟩
    have ct := tree_any (X2.heap.size + 1) X2.heap.size bi q.items.length _ sa sc L (itemF q.items q.items.length) ns ao cap Y CI X2 AX MX NX (Nat.le_refl _) G3 htr hf hr hL
    have hlo := CI.lo
    have kY := k5.keep G3
    have BY := gtrans B5 G3
    obtain ⟨s, hs⟩ : ∃ s, treK L (itemF q.items q.items.length) ns ns.length = s := ⟨_, rfl⟩
    rw [hs] at ct
    have HS : Hid (treK L (itemF q.items q.items.length) ns ns.length = s) := hs
    clear hs
    go_upto_region 6 with (first
      | (go_at_call 25; (with_reducible refine ct.mono ?_); rintro e u ⟨rfl, S', C', F', V'⟩))
    have nS : ¬ fotC (X2.heap.size + 1) X2.heap.size (.slice none 0 0) (.slice none 0 0) (.slice none 0 0) (w.heap.size + 2) := fun h => by have := hlo _ h; omega
    have ku := F'.bk kY nS
    have Bu : Below w.heap.size w u := F'.toBelow BY (Nat.le_refl _) (fun j h => by have := hlo j h; have := B5.size; omega)
    obtain ⟨bm, vc, vl, vo, ws, rfl, I⟩ := C'
    obtain ⟨ac', cc', e0, _⟩ := own_form I.code
    obtain ⟨al', cl', e1, _⟩ := own_form I.cols.own
    have hml : (s.cols.map Prod.snd).length = s.cols.length := by simp
    rw [hml] at e1
    subst e0 e1
    have d3 := I.blk.at6.2.2.2.1
    have d4 := I.blk.at6.2.2.2.2.1
    have kf := ku.free
    have B6 := gset (gset Bu (p := ⟨w.heap.size + 2, 0, none⟩) (show _ ≤ w.heap.size + 2 by omega) (.slice ac' s.code.length cc')) (p := ⟨w.heap.size + 2, 1, none⟩) (show _ ≤ w.heap.size + 2 by omega) (.slice al' s.cols.length cl')
    have ku1 := ku.set 0 (.slice ac' s.code.length cc')
    have O1 := ty_set (ty_set I.code ku (by decide) 0 (.slice ac' s.code.length cc')) ku1 (by decide) 1 (.slice al' s.cols.length cl')
    have P1 := (I.cols.map (u := u.setCell ⟨w.heap.size + 2, 0, none⟩ (.slice ac' s.code.length cc')) fun e s1 v n xs he o => ty_set o ku (by rcases he with rfl | rfl <;> decide) 0 _).map (u := (u.setCell ⟨w.heap.size + 2, 0, none⟩ (.slice ac' s.code.length cc')).setCell ⟨w.heap.size + 2, 1, none⟩ (.slice al' s.cols.length cl')) fun e s1 v n xs he o => ty_set o ku1 (by rcases he with rfl | rfl <;> decide) 1 _
    have HK := show Hid _ from ku1.set 1 (.slice al' s.cols.length cl')
    have HO := show Hid _ from O1
    have HP := show Hid _ from P1
    obtain ⟨f0, f1⟩ := ku.at2
    clear O1 P1 ku1 ct
    go_wp2
    refine bodyPost_ret (results_cell_row rfl _ _ (w.heap.size + 2) 40 #[.slice ac' s.code.length cc', .slice al' s.cols.length cl'] (0, 0) _ rfl HK.out Tryd.underlying40 rfl infoPg) rfl ?_
    have hs2 := HS.out
    subst hs2
    exact ⟨ac', cc', al', cl', ws, rfl, World.ownsRow.mono HO.out B5.size, HP.out.mono B5.size, B6⟩

end Go.Proofs.YtnmppmmanigpcaaDoor
namespace Go.Proofs.YtnmppmmanigpcaaDoor
open Go.RowKit Go.BigFrame Go.Proofs.YtnmppmmanigpcaaDoor.Ev
set_option linter.unusedVariables false
set_option linter.unusedSimpArgs false

theorem nd_self (x : Nd) (w : World) : (Op.equalIn 10000 63 (.agg (ndA x)) (.agg (ndA x))).run Tryd.prog w = .ok true w := by
  rw [nd_eq, (ndE_iff x x).2 ⟨rfl, rfl, rfl, rfl, rfl, rfl⟩]
set_option maxRecDepth 100000 in
set_option maxHeartbeats 16000000 in
theorem sameTexts_true (L : List Ty) (sa sb : Option Addr) (sc sd : Nat) (q : Qy) (hq : q.fit) (cs cs' : Array Value) (ai : Option Addr) (ci : Nat) (aw : Option Addr) (cw : Nat) (ar : Option Addr) (cr : Nat) (ai' : Option Addr) (ci' : Nat) (aw' : Option Addr) (cw' : Nat) (ar' : Option Addr) (cr' : Nat) (ns : List Nd) (ao bo : Option Addr) (ca cb : Nat) (w : World)
    (A : IsTypes w sa L.length L) (B : IsTypes w sb L.length L) (Q1 : IsQ w q cs ai ci aw cw ar cr) (Q2 : IsQ w q cs' ai' ci' aw' cw' ar' cr') (N1 : IsNds w ao ns) (N2 : IsNds w bo ns) (hL : L.length * 8 ≤ 140737488351232) (hr : ns.length * 64 ≤ 140737488351232) :
    Calls Tryd.prog 14 #[.agg #[.slice sa L.length sc], .agg #[.slice sb L.length sd], .agg cs, .agg cs', .slice ao ns.length ca, .slice bo ns.length cb] w fun e w' => e = .returned (.bool true) ∧ Below w.heap.size w w' := by
  obtain ⟨he1, I1, _, _, _, _, _⟩ := Q1
  obtain ⟨he2, I2, _, _, _, _, _⟩ := Q2
  subst he1
  subst he2
  have hnn := hq.n
  obtain ⟨V, hV⟩ : ∃ V, (((w.alloc (.cells #[.slice sa L.length sc] 24)).alloc (.cells #[.slice sb L.length sd] 24)).alloc (.cells #[.slice ai q.items.length ci, .int .i64 q.mode, .int .i64 q.after, .slice aw q.wh.length cw, .int .i64 q.within, .string q.by_, .slice ar q.ret.length cr] 31)).alloc (.cells #[.slice ai' q.items.length ci', .int .i64 q.mode, .int .i64 q.after, .slice aw' q.wh.length cw', .int .i64 q.within, .string q.by_, .slice ar' q.ret.length cr'] 31) = V := ⟨_, rfl⟩
  obtain ⟨b0, b1, b2, b3, BV⟩ := alloc4 w _ _ _ _ _ _ _ _ hV
  have AV := A.keep BV
  have AW := B.keep BV
  have IV := I1.keep BV
  have IW := I2.keep BV
  have NV := N1.keep BV
  have NW := N2.keep BV
  clear A B I1 I2 N1 N2
  obtain ⟨m, hm⟩ : ∃ m, L.length = m := ⟨_, rfl⟩
  obtain ⟨n, hn⟩ : ∃ n, ns.length = n := ⟨_, rfl⟩
  obtain ⟨r, hrr⟩ : ∃ r, q.items.length = r := ⟨_, rfl⟩
  have HM := show Hid (_ = _) from hm
  have HN := show Hid (_ = _) from hn
  have HR := show Hid (_ = _) from hrr
  rw [hm] at b0 b1 AV AW hL ⊢
  rw [hrr] at b2 b3 hnn ⊢
  rw [hn] at hr ⊢
  rw [hm, hrr] at hV
  go_enter Tryd.func14, Tryd.ntmps14
  go_upto_region 1 with fail
  clear hV hm hn hrr
  obtain ⟨q0, _⟩ := b2.at7
  obtain ⟨r0, _⟩ := b3.at7
  have s0 := b0.one1
  have s1 := b1.one1
  go_upto_region 4 with fail
  go_loopw [13, 14] (fun x _ wr => ∃ k : Nat, k ≤ m ∧ x = .int .i64 (k : Int) ∧ Below V.heap.size V wr) (fun x _ _ => m - (intOf x).toNat)
  case atStart => exact ⟨0, Nat.zero_le _, rfl, Below.refl _ _⟩
  case round =>
    clear q0 r0 s0 s1
    obtain ⟨k, hk, rfl, G⟩ := hrel
    have s0 := (b0.keep G).one1
    have s1 := (b1.keep G).one1
    by_cases hlt : k < m
    · have hki : (k : Int) < (m : Int) := by omega
      obtain ⟨_, _, e1⟩ := AV.keep G
      obtain ⟨_, _, e2⟩ := AW.keep G
      rcases e1 with e1 | ⟨g1, o1, rfl, h1, c1⟩
      · omega
      rcases e2 with e2 | ⟨g2, o2, rfl, h2, c2⟩
      · omega
      obtain ⟨x0, aj, cj, x1, _, S1⟩ := c1 k hlt
      obtain ⟨y0, al, cl, y1, _, S2⟩ := c2 k hlt
      clear c1 c2
      obtain ⟨ss, hss⟩ : ∃ ss, (L.getD k noTy).2 = ss := ⟨_, rfl⟩
      obtain ⟨tn, htn⟩ : ∃ tn, (L.getD k noTy).1 = tn := ⟨_, rfl⟩
      rw [htn] at x0 y0
      rw [hss] at x1 y1 S1 S2
      obtain ⟨z, hz⟩ : ∃ z, ss.length = z := ⟨_, rfl⟩
      rw [hz] at x1 y1 S1 S2
      clear hss htn
      have hne0 : Nonempty (Ext wr) := ⟨⟨_, Below.refl _ _⟩⟩
      have p0 := fun e : Ext wr => (e.cell _ _ (lt_of_cell x0)).trans x0
      have p1 := fun e : Ext wr => (e.cell _ _ (lt_of_cell x1)).trans x1
      have p2 := fun e : Ext wr => (e.cell _ _ (lt_of_cell y0)).trans y0
      have p3 := fun e : Ext wr => (e.cell _ _ (lt_of_cell y1)).trans y1
      have p4 := fun e : Ext wr => (e.cell _ _ (lt_of_cell s0)).trans s0
      have p5 := fun e : Ext wr => (e.cell _ _ (lt_of_cell s1)).trans s1
      go_upto_region 6 with fail
      refine wp_region_ext (by kernel_rfl) (by kernel_rfl) ?_
      repeat (go_big_quiet_step (fail))
      refine wpQuiet_nil ?_
      intro _ hw'
      obtain ⟨nx, hw''⟩ := hw'
      subst hw''
      have GX := gtrans G nx.h
      have hXX := nx.h
      generalize nx.X = X at *
      clear p0 p1 p2 p3 p4 p5 hne0
      go_upto_region 9 with fail
      go_loopw [14] (fun x wr => ∃ j : Nat, j ≤ z ∧ x = .int .i64 (j : Int) ∧ Below X.heap.size X wr) (fun x _ => z - (intOf x).toNat)
      case atStart => exact ⟨0, Nat.zero_le _, rfl, Below.refl _ _⟩
      case round =>
        obtain ⟨j, hj, rfl, H⟩ := hrel
        have GH := gtrans GX H
        have u0 := (b0.keep GH).one1
        have u1 := (b1.keep GH).one1
        have HH := gtrans hXX H
        have v1 := (HH.cell (p := ⟨_, _, none⟩) (lt_of_cell x1)).trans x1
        have v2 := (HH.cell (p := ⟨_, _, none⟩) (lt_of_cell y1)).trans y1
        by_cases hjt : j < z
        · have hji : (j : Int) < (z : Int) := by omega
          obtain ⟨_, _, e3⟩ := S1.keep HH
          obtain ⟨_, _, e4⟩ := S2.keep HH
          rcases e3 with e3 | ⟨g3, o3, rfl, h3, c3⟩
          · omega
          rcases e4 with e4 | ⟨g4, o4, rfl, h4, c4⟩
          · omega
          have z1 := c3 j hjt
          have z2 := c4 j hjt
          clear c3 c4
          generalize ss.getD j .empty = sj at *
          have hne0 : Nonempty (Ext wr) := ⟨⟨_, Below.refl _ _⟩⟩
          have p0 := fun e : Ext wr => (e.cell _ _ (lt_of_cell z1)).trans z1
          have p1 := fun e : Ext wr => (e.cell _ _ (lt_of_cell z2)).trans z2
          have p2 := fun e : Ext wr => (e.cell _ _ (lt_of_cell v1)).trans v1
          have p3 := fun e : Ext wr => (e.cell _ _ (lt_of_cell v2)).trans v2
          have p4 := fun e : Ext wr => (e.cell _ _ (lt_of_cell u0)).trans u0
          have p5 := fun e : Ext wr => (e.cell _ _ (lt_of_cell u1)).trans u1
          go_upto_region 11 with fail
          refine wp_region_ext (by kernel_rfl) (by kernel_rfl) ?_
          repeat (go_big_quiet_step (fail))
          refine wpQuiet_nil ?_
          intro _ hw'
          obtain ⟨ny, hw''⟩ := hw'
          subst hw''
          have HY := gtrans H ny.h
          generalize ny.X = Y at *
          clear p0 p1 p2 p3 p4 p5 hne0
          go_wp2
          go_roundw
          case rel => exact ⟨j + 1, by omega, by go_num, HY⟩
          case measure => simp [intOf]; omega
        · obtain rfl : j = z := by omega
          go_wp2
          go_roundw
          case rel => exact ⟨k + 1, by omega, by go_num, GH⟩
          case measure => simp [intOf]; omega
    · obtain rfl : k = m := by omega
      obtain ⟨w3, rfl⟩ : ∃ w3, w3 = wr := ⟨_, rfl⟩
      go_upto_region 14 with fail
      go_loopw [15] (fun x wr => ∃ j : Nat, j ≤ r ∧ x = .int .i64 (j : Int) ∧ Below w3.heap.size w3 wr) (fun x _ => r - (intOf x).toNat)
      case atStart => exact ⟨0, Nat.zero_le _, rfl, Below.refl _ _⟩
      case round =>
        obtain ⟨j, hj, rfl, H⟩ := hrel
        have GH := gtrans G H
        obtain ⟨u0, _⟩ := (b2.keep GH).at7
        obtain ⟨u1, _⟩ := (b3.keep GH).at7
        by_cases hjt : j < r
        · have hji : (j : Int) < (r : Int) := by omega
          obtain ⟨g3, o3, rfl, _, _, _, _, z1, _⟩ := (IV.keep GH) j (by rw [HR.out]; exact hjt)
          obtain ⟨g4, o4, rfl, _, _, _, _, z2, _⟩ := (IW.keep GH) j (by rw [HR.out]; exact hjt)
          generalize (q.items.getD j noIt).v = vj at *
          have hne0 : Nonempty (Ext wr) := ⟨⟨_, Below.refl _ _⟩⟩
          have p0 := fun e : Ext wr => (e.cell _ _ (lt_of_cell z1)).trans z1
          have p1 := fun e : Ext wr => (e.cell _ _ (lt_of_cell z2)).trans z2
          have p4 := fun e : Ext wr => (e.cell _ _ (lt_of_cell u0)).trans u0
          have p5 := fun e : Ext wr => (e.cell _ _ (lt_of_cell u1)).trans u1
          go_upto_region 16 with fail
          refine wp_region_ext (by kernel_rfl) (by kernel_rfl) ?_
          repeat (go_big_quiet_step (fail))
          refine wpQuiet_nil ?_
          intro _ hw'
          obtain ⟨ny, hw''⟩ := hw'
          subst hw''
          have HY := gtrans H ny.h
          generalize ny.X = Y at *
          clear p0 p1 p4 p5 hne0
          go_wp2
          go_roundw
          case rel => exact ⟨j + 1, by omega, by go_num, HY⟩
          case measure => simp [intOf]; omega
        · obtain rfl : j = r := by omega
          obtain ⟨w4, rfl⟩ : ∃ w4, w4 = wr := ⟨_, rfl⟩
          go_upto_region 19 with fail
          go_loopw [16] (fun x wr => ∃ i : Nat, i ≤ n ∧ x = .int .i64 (i : Int) ∧ Below w4.heap.size w4 wr) (fun x _ => n - (intOf x).toNat)
          case atStart => exact ⟨0, Nat.zero_le _, rfl, Below.refl _ _⟩
          case round =>
            obtain ⟨i, hi, rfl, P⟩ := hrel
            have GP := gtrans GH P
            by_cases hit : i < n
            · have hii : (i : Int) < (n : Int) := by omega
              obtain ⟨g3, o3, rfl, x0, x1, x2, x3, x4, x5⟩ := (NV.keep GP) i (by rw [HN.out]; exact hit)
              obtain ⟨g4, o4, rfl, y0, y1, y2, y3, y4, y5⟩ := (NW.keep GP) i (by rw [HN.out]; exact hit)
              have eqe := nd_self (ns.getD i noNd)
              generalize ns.getD i noNd = y at *
              have hne0 : Nonempty (Ext wr) := ⟨⟨_, Below.refl _ _⟩⟩
              have p0 := fun e : Ext wr => (e.cell _ _ (lt_of_cell x0)).trans x0
              have p1 := fun e : Ext wr => (e.cell _ _ (lt_of_cell x1)).trans x1
              have p2 := fun e : Ext wr => (e.cell _ _ (lt_of_cell x2)).trans x2
              have p3 := fun e : Ext wr => (e.cell _ _ (lt_of_cell x3)).trans x3
              have p4 := fun e : Ext wr => (e.cell _ _ (lt_of_cell x4)).trans x4
              have p5 := fun e : Ext wr => (e.cell _ _ (lt_of_cell x5)).trans x5
              have q0 := fun e : Ext wr => (e.cell _ _ (lt_of_cell y0)).trans y0
              have q1 := fun e : Ext wr => (e.cell _ _ (lt_of_cell y1)).trans y1
              have q2 := fun e : Ext wr => (e.cell _ _ (lt_of_cell y2)).trans y2
              have q3 := fun e : Ext wr => (e.cell _ _ (lt_of_cell y3)).trans y3
              have q4 := fun e : Ext wr => (e.cell _ _ (lt_of_cell y4)).trans y4
              have q5 := fun e : Ext wr => (e.cell _ _ (lt_of_cell y5)).trans y5
              unfold ndA at eqe
              go_upto_region 21 with fail
              refine wp_region_ext (by kernel_rfl) (by kernel_rfl) ?_
              repeat (first
                | (refine quiet_neq_same rfl _ _ _ rfl (by kernel_rfl) _ eqe rfl rfl _ rfl ?_; simp only [Act.put, List.setIfInBounds_toArray, List.set_cons_succ, List.set_cons_zero])
                | go_big_quiet_step (fail))
              refine wpQuiet_nil ?_
              intro _ hw'
              obtain ⟨ny, hw''⟩ := hw'
              subst hw''
              have HY := gtrans P ny.h
              generalize ny.X = Y at *
              clear p0 p1 p2 p3 p4 p5 q0 q1 q2 q3 q4 q5 hne0
              go_wp2
              go_roundw
              case rel => exact ⟨i + 1, by omega, by go_num, HY⟩
              case measure => simp [intOf]; omega
            · obtain rfl : i = n := by omega
              go_wp2
              go_ret
              exact ⟨rfl, gtrans BV GP⟩

end Go.Proofs.YtnmppmmanigpcaaDoor
