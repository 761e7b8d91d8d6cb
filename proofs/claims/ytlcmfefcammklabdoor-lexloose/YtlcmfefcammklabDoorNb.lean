/- Digits and their value: what ParseInt comes to at digits alone. -/
import Derived.Test.YtlcmfefcammklabDoorLx6
namespace Go.Proofs.YtlcmfefcammklabDoor
set_option linter.unusedVariables false

def dvs (a : Nat) (c : UInt8) : Nat := a * 10 + (c.toNat - 48)
def dv (acc : Nat) (l : List UInt8) : Nat := l.foldl dvs acc
theorem dv_nil (acc : Nat) : dv acc [] = acc := List.foldl_nil
theorem dv_cons (acc : Nat) (c : UInt8) (r : List UInt8) : dv acc (c :: r) = dv (acc * 10 + (c.toNat - 48)) r := List.foldl_cons ..
theorem dv_ge (l : List UInt8) : ∀ acc, acc ≤ dv acc l := by
  induction l with
  | nil => intro acc; rw [dv_nil]; exact Nat.le_refl _
  | cons c r ih => intro acc; have := ih (acc * 10 + (c.toNat - 48)); rw [dv_cons]; omega
theorem dv_acc (l : List UInt8) (acc : Nat) : dv acc l = acc * 10 ^ l.length + dv 0 l := by
  induction l generalizing acc with
  | nil => rw [dv_nil, dv_nil, List.length_nil, Nat.pow_zero, Nat.mul_one, Nat.add_zero]
  | cons c r ih =>
    have h1 := ih (acc * 10 + (c.toNat - 48))
    have h2 := ih (0 * 10 + (c.toNat - 48))
    rw [dv_cons, dv_cons, h1, h2, List.length_cons, Nat.pow_succ]
    generalize 10 ^ r.length = P
    generalize c.toNat - 48 = d
    rw [Nat.add_mul, Nat.zero_mul, Nat.zero_add, Nat.mul_assoc, Nat.mul_comm 10, Nat.add_assoc]
theorem dv_lt (l : List UInt8) : digL l → dv 0 l < 10 ^ l.length := by
  induction l with
  | nil => intro _; rw [dv_nil, List.length_nil, Nat.pow_zero]; exact Nat.zero_lt_one
  | cons c r ih =>
    intro h
    have hc := h c (by simp)
    have h1 := ih (fun d hd => h d (by simp [hd]))
    rw [dv_cons, List.length_cons, dv_acc r (0 * 10 + (c.toNat - 48)), Nat.pow_succ, Nat.zero_mul, Nat.zero_add]
    have h2 : (c.toNat - 48) * 10 ^ r.length ≤ 9 * 10 ^ r.length := Nat.mul_le_mul_right _ (by omega)
    omega
theorem dv_app (l : List UInt8) (c : UInt8) : ∀ acc, dv acc (l ++ [c]) = dv acc l * 10 + (c.toNat - 48) := by
  induction l with
  | nil => intro acc; rw [List.nil_append, dv_cons, dv_nil, dv_nil]
  | cons d r ih => intro acc; rw [List.cons_append, dv_cons, dv_cons, ih]
theorem uintM_val (l : List UInt8) : ∀ acc, acc ≤ 18446744073709551615 → digL l → Lib.parseUintM 18446744073709551615 acc l = if dv acc l ≤ 18446744073709551615 then .ok (dv acc l) else .range := by
  induction l with
  | nil => intro acc h _; rw [dv_nil, if_pos h]; rfl
  | cons c r ih =>
    intro acc h hd
    have hc := hd c (by simp)
    have hge := dv_ge r (acc * 10 + (c.toNat - 48))
    rw [dv_cons]
    unfold Lib.parseUintM
    rw [if_pos hc]
    by_cases h1 : 1844674407370955162 ≤ acc
    · rw [if_pos h1, if_neg (by omega)]
    · rw [if_neg h1]
      by_cases h2 : 18446744073709551615 < acc * 10 + (c.toNat - 48)
      · rw [if_pos h2, if_neg (by omega)]
      · rw [if_neg h2]
        exact ih _ (by omega) (fun d hd' => hd d (by simp [hd']))
theorem numV_dig (x : ByteArray) (h0 : x.data.toList ≠ []) (h : digL x.data.toList) : numV x = if dv 0 x.data.toList ≤ 9223372036854775807 then some (dv 0 x.data.toList : Int) else none := by
  unfold numV
  generalize x.data.toList = l at h0 h
  cases l with
  | nil => exact absurd rfl h0
  | cons c r =>
    have hc := h c (by simp)
    unfold Lib.parseIntB
    simp only [if_neg (show ¬ (c.toNat = 43 ∨ c.toNat = 45) by omega)]
    unfold Lib.parseUintB
    rw [if_neg h0, show (2 : Nat) ^ 64 - 1 = 18446744073709551615 from rfl, uintM_val _ 0 (by omega) h]
    by_cases h1 : dv 0 (c :: r) ≤ 9223372036854775807
    · rw [if_pos h1, if_pos (by omega)]
      simp only [if_neg (show ¬ (¬ c.toNat = 45 ∧ 2 ^ (64 - 1) ≤ dv 0 (c :: r)) by simp only [show (2 : Nat) ^ (64 - 1) = 9223372036854775808 from rfl]; omega), if_neg (show ¬ (c.toNat = 45 ∧ 2 ^ (64 - 1) < dv 0 (c :: r)) by omega), if_neg (show ¬ c.toNat = 45 by omega)]
    · rw [if_neg h1]
      by_cases h2 : dv 0 (c :: r) ≤ 18446744073709551615
      · rw [if_pos h2]
        simp only [if_pos (show (¬ c.toNat = 45 ∧ 2 ^ (64 - 1) ≤ dv 0 (c :: r)) by simp only [show (2 : Nat) ^ (64 - 1) = 9223372036854775808 from rfl]; omega)]
      · rw [if_neg h2]

theorem dv_cat (a b : List UInt8) : ∀ acc, dv acc (a ++ b) = dv (dv acc a) b := by
  induction a with
  | nil => intro acc; rw [List.nil_append, dv_nil]
  | cons c r ih => intro acc; rw [List.cons_append, dv_cons, dv_cons, ih]
theorem dv_take (l : List UInt8) (k : Nat) : dv 0 (l.take k) ≤ dv 0 l := by
  conv => rhs; rw [← List.take_append_drop k l, dv_cat]
  exact dv_ge _ _
theorem dv_next (l : List UInt8) (k : Nat) (h : k < l.length) : dv 0 (l.take (k + 1)) = dv 0 (l.take k) * 10 + ((l.getD k 0).toNat - 48) := by
  rw [List.take_add_one, List.getElem?_eq_getElem h]
  show dv 0 (l.take k ++ [l[k]]) = _
  rw [dv_app]
  simp [List.getD, List.getElem?_eq_getElem h]
theorem less_dv : ∀ (x y : List UInt8), digL x → digL y → x.length = y.length → Op.bytesLess x y = decide (dv 0 x < dv 0 y) ∧ (x == y) = decide (dv 0 x = dv 0 y)
  | [], [], _, _, _ => by rw [dv_nil]; exact ⟨rfl, rfl⟩
  | [], _ :: _, _, _, h => by simp at h
  | _ :: _, [], _, _, h => by simp at h
  | a :: x, b :: y, hx, hy, h => by
    have ha := hx a (by simp)
    have hb := hy b (by simp)
    have hx' : digL x := fun d hd => hx d (by simp [hd])
    have hy' : digL y := fun d hd => hy d (by simp [hd])
    have hl : x.length = y.length := by simpa using h
    obtain ⟨i1, i2⟩ := less_dv x y hx' hy' hl
    have l1 := dv_lt x hx'
    have l2 := dv_lt y hy'
    have e1 : dv 0 (a :: x) = (a.toNat - 48) * 10 ^ y.length + dv 0 x := by rw [dv_cons, dv_acc, hl, Nat.zero_mul, Nat.zero_add]
    have e2 : dv 0 (b :: y) = (b.toNat - 48) * 10 ^ y.length + dv 0 y := by rw [dv_cons, dv_acc, Nat.zero_mul, Nat.zero_add]
    rw [hl] at l1
    rw [e1, e2]
    unfold Op.bytesLess
    generalize 10 ^ y.length = P at *
    have hlt : (a < b) = (a.toNat < b.toNat) := rfl
    have heq : (a == b) = decide (a.toNat = b.toNat) := by
      rw [Bool.eq_iff_iff, beq_iff_eq, decide_eq_true_eq]
      exact UInt8.toNat_inj.symm
    have hcons : (a :: x == b :: y) = (a == b && x == y) := rfl
    rw [hcons, i1, i2, heq]
    simp only [hlt]
    generalize a.toNat = m at *
    generalize b.toNat = n at *
    generalize dv 0 x = u at *
    generalize dv 0 y = v at *
    rcases Nat.lt_trichotomy m n with h1 | h1 | h1
    · have h2 : (m - 48 + 1) * P ≤ (n - 48) * P := Nat.mul_le_mul_right _ (by omega)
      rw [Nat.add_mul, Nat.one_mul] at h2
      constructor
      · rw [decide_eq_true h1, Bool.true_or, eq_comm, decide_eq_true_eq]; omega
      · rw [decide_eq_false (by omega : ¬ m = n), Bool.false_and, eq_comm, decide_eq_false_iff_not]; omega
    · subst h1
      constructor
      · rw [decide_eq_false (by omega : ¬ m < m), decide_eq_true rfl, Bool.false_or, Bool.true_and]
        simp
      · rw [decide_eq_true rfl, Bool.true_and]
        simp
    · have h2 : (n - 48 + 1) * P ≤ (m - 48) * P := Nat.mul_le_mul_right _ (by omega)
      rw [Nat.add_mul, Nat.one_mul] at h2
      constructor
      · rw [decide_eq_false (by omega : ¬ m < n), decide_eq_false (by omega : ¬ m = n), Bool.false_or, Bool.false_and, eq_comm, decide_eq_false_iff_not]; omega
      · rw [decide_eq_false (by omega : ¬ m = n), Bool.false_and, eq_comm, decide_eq_false_iff_not]; omega
/-- The greatest number's digits. -/
def topD : List UInt8 := [57, 50, 50, 51, 51, 55, 50, 48, 51, 54, 56, 53, 52, 55, 55, 53, 56, 48, 55]
theorem topD_dig : digL topD := by
  intro c hc
  simp only [topD, List.mem_cons, List.mem_nil_iff, or_false] at hc
  rcases hc with rfl | rfl | rfl | rfl | rfl | rfl | rfl | rfl | rfl | rfl | rfl | rfl | rfl | rfl | rfl | rfl | rfl | rfl | rfl <;> decide
theorem topD_val : dv 0 topD = 9223372036854775807 := by
  unfold topD
  simp only [dv_cons, dv_nil]
  decide
/-- A number of digits without zeros ahead: is it too great? -/
theorem big_dv (l : List UInt8) (h : digL l) (h0 : l.getD 0 0 ≠ 48) : (19 < l.length ∨ (l.length = 19 ∧ (!(Op.bytesLess l topD || l == topD)) = true)) ↔ 9223372036854775807 < dv 0 l := by
  cases l with
  | nil => rw [dv_nil]; simp
  | cons c r =>
    have hc := h c (by simp)
    have h48 : c.toNat ≠ 48 := fun e => h0 (by show c = 48; exact UInt8.toNat_inj.1 e)
    have e1 : dv 0 (c :: r) = (c.toNat - 48) * 10 ^ r.length + dv 0 r := by rw [dv_cons, dv_acc, Nat.zero_mul, Nat.zero_add]
    have hlt := dv_lt (c :: r) h
    rcases Nat.lt_trichotomy (c :: r).length 19 with h1 | h1 | h1
    · constructor
      · rintro (h2 | h2) <;> omega
      · intro h2
        have h3 : 10 ^ (c :: r).length ≤ 10 ^ 18 := Nat.pow_le_pow_right (by omega) (by omega)
        have h4 : (10 : Nat) ^ 18 = 1000000000000000000 := rfl
        omega
    · obtain ⟨i1, i2⟩ := less_dv (c :: r) topD h topD_dig h1
      rw [i1, i2, topD_val]
      constructor
      · rintro (h2 | h2)
        · omega
        · have := h2.2
          simp only [Bool.not_eq_true', Bool.or_eq_false_iff, decide_eq_false_iff_not] at this
          omega
      · intro h2
        refine .inr ⟨h1, ?_⟩
        simp only [Bool.not_eq_true', Bool.or_eq_false_iff, decide_eq_false_iff_not]
        omega
    · refine ⟨fun _ => ?_, fun _ => .inl h1⟩
      have h3 : 10 ^ 19 ≤ 10 ^ r.length := Nat.pow_le_pow_right (by omega) (by have : (c :: r).length = r.length + 1 := rfl; omega)
      have h4 : (10 : Nat) ^ 19 = 10000000000000000000 := rfl
      have h5 : 1 * 10 ^ r.length ≤ (c.toNat - 48) * 10 ^ r.length := Nat.mul_le_mul_right _ (by omega)
      omega

end Go.Proofs.YtlcmfefcammklabDoor
