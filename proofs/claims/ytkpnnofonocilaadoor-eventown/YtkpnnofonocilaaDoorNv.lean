/- Digits and their value; a number's text in plain data. -/
import Derived.Test.YtkpnnofonocilaaDoorWn3
namespace Go.Proofs.YtkpnnofonocilaaDoor
set_option linter.unusedVariables false

def dvs (a : Nat) (c : UInt8) : Nat := a * 10 + (c.toNat - 48)
def dv (acc : Nat) (l : List UInt8) : Nat := l.foldl dvs acc
theorem dv_nil (acc : Nat) : dv acc [] = acc := List.foldl_nil
theorem dv_cons (acc : Nat) (c : UInt8) (r : List UInt8) : dv acc (c :: r) = dv (acc * 10 + (c.toNat - 48)) r := List.foldl_cons ..
theorem dv_ge (l : List UInt8) : ∀ acc, acc ≤ dv acc l := by
  induction l with
  | nil => intro acc; rw [dv_nil]; exact Nat.le_refl _
  | cons c r ih => intro acc; have := ih (acc * 10 + (c.toNat - 48)); rw [dv_cons]; omega
theorem dv_app (l : List UInt8) (c : UInt8) : ∀ acc, dv acc (l ++ [c]) = dv acc l * 10 + (c.toNat - 48) := by
  induction l with
  | nil => intro acc; rw [List.nil_append, dv_cons, dv_nil, dv_nil]
  | cons d r ih => intro acc; rw [List.cons_append, dv_cons, dv_cons, ih]
theorem dv_cat (a b : List UInt8) : ∀ acc, dv acc (a ++ b) = dv (dv acc a) b := by
  induction a with
  | nil => intro acc; rw [List.nil_append, dv_nil]
  | cons c r ih => intro acc; rw [List.cons_append, dv_cons, dv_cons, ih]
theorem dv_take (l : List UInt8) (k : Nat) : dv 0 (l.take k) ≤ dv 0 l := by
  conv => rhs; rw [← List.take_append_drop k l, dv_cat]
  exact dv_ge _ _
theorem uintM_val (l : List UInt8) : ∀ acc, acc ≤ 18446744073709551615 → digL l → Lib.parseUintM 18446744073709551615 acc l = if dv acc l ≤ 18446744073709551615 then .ok (dv acc l) else .range := by
  induction l with
  | nil => intro acc h _; rw [dv_nil, if_pos h]; rfl
  | cons c r ih =>
    intro acc h hd
    have hc := hd c (by simp)
    have hge := dv_ge r (acc * 10 + (c.toNat - 48))
    rw [dv_cons]
    unfold Lib.parseUintM
    rw [if_pos hc]
    by_cases h1 : 1844674407370955162 ≤ acc
    · rw [if_pos h1, if_neg (by omega)]
    · rw [if_neg h1]
      by_cases h2 : 18446744073709551615 < acc * 10 + (c.toNat - 48)
      · rw [if_pos h2, if_neg (by omega)]
      · rw [if_neg h2]
        exact ih _ (by omega) (fun d hd' => hd d (by simp [hd']))
theorem uintB_val (l : List UInt8) (h0 : l ≠ []) (h : digL l) : Lib.parseUintB 64 l = if dv 0 l ≤ 18446744073709551615 then .ok (dv 0 l) else .range := by
  unfold Lib.parseUintB
  rw [if_neg h0, show (2 : Nat) ^ 64 - 1 = 18446744073709551615 from rfl, uintM_val _ 0 (by omega) h]
theorem idO_val (x : ByteArray) : idO x = if dgs x = true then (if dv 0 x.data.toList ≤ 18446744073709551615 then some (dv 0 x.data.toList) else none) else none := by
  unfold idO
  by_cases h : dgs x = true
  · rw [if_pos h, if_pos h]
    have hd := of_decide_eq_true h
    rw [uintB_val _ hd.1 hd.2]
    by_cases h2 : dv 0 x.data.toList ≤ 18446744073709551615
    · rw [if_pos h2, if_pos h2]
    · rw [if_neg h2, if_neg h2]
  · rw [if_neg h, if_neg h]
/-- A number by its digits. -/
theorem numO_val (x : ByteArray) : numO x = match idO (trimM x) with
    | none => none
    | some u => if hasM x = true then (if 9223372036854775808 < u then none else some (-(u : Int))) else (if 9223372036854775808 ≤ u then none else some (u : Int)) := by
  rw [idO_val]
  unfold numO
  by_cases h : dgs (trimM x) = true
  · rw [if_pos h, if_pos h]
    have hd := of_decide_eq_true h
    cases hl : x.data.toList with
    | nil =>
      exfalso
      have := intB_no x h
      rw [hl] at this
      exact this rfl
    | cons c r =>
      obtain ⟨ha, hs⟩ := head_at x c r hl
      unfold Lib.parseIntB
      by_cases h45 : c.toNat = 45
      · have hm : hasM x = true := by unfold hasM; rw [decide_eq_true hs, ha, h45]; rfl
        have ht : (trimM x).data.toList = r := by unfold trimM; rw [hm, if_pos rfl, sub_list, hl]; rfl
        rw [ht] at hd ⊢
        simp only [if_pos (Or.inr (a := c.toNat = 43) h45), uintB_val r hd.1 hd.2, hm, if_true]
        by_cases h2 : dv 0 r ≤ 18446744073709551615
        · simp only [if_pos h2, h45]
          by_cases h3 : 9223372036854775808 < dv 0 r
          · simp [h3]
          · simp [h3]
        · simp only [if_neg h2]
      · have hm : hasM x = false := by
          unfold hasM
          rw [ha]
          have : ((c.toNat : Int) == 45) = false := by rw [beq_eq_false_iff_ne]; omega
          rw [this, Bool.and_false]
        have ht : (trimM x).data.toList = c :: r := by unfold trimM; rw [hm, if_neg (by decide), hl]
        rw [ht] at hd ⊢
        have hc := hd.2 c (by simp)
        simp only [if_neg (show ¬ (c.toNat = 43 ∨ c.toNat = 45) by omega), uintB_val (c :: r) hd.1 hd.2, hm, Bool.false_eq_true, if_false]
        by_cases h2 : dv 0 (c :: r) ≤ 18446744073709551615
        · simp only [if_pos h2, h45]
          by_cases h3 : 9223372036854775808 ≤ dv 0 (c :: r)
          · simp [h3]
          · simp [h3]
        · simp only [if_neg h2]
  · rw [if_neg h, if_neg h]

end Go.Proofs.YtkpnnofonocilaaDoor
