/- num's Add, Mul and Sub as functions of values, and the laws of a ring that they keep where what stands between is known. -/
import Derived.Test.YtcjldhnjcmhfhabMul
namespace Go.Proofs.Ytcjldhnjcmhfhab
open Go.RowKit
set_option linter.unusedVariables false

def sK (k : Bool) (n : Int) (k' : Bool) (n' : Int) : Bool := opK k k' (n + n')
def sN (k : Bool) (n : Int) (k' : Bool) (n' : Int) : Int := opN k k' (n + n')
def pK (k : Bool) (n : Int) (k' : Bool) (n' : Int) : Bool := opK k k' (n * n')
def pN (k : Bool) (n : Int) (k' : Bool) (n' : Int) : Int := opN k k' (n * n')
def mK (k : Bool) (n : Int) (k' : Bool) (n' : Int) : Bool := opK k k' (n - n')
def mN (k : Bool) (n : Int) (k' : Bool) (n' : Int) : Int := opN k k' (n - n')
theorem opK_comm (k k' : Bool) (x : Int) : opK k k' x = opK k' k x := by cases k <;> cases k' <;> rfl
theorem opN_comm (k k' : Bool) (x : Int) : opN k k' x = opN k' k x := by cases k <;> cases k' <;> rfl
theorem op_true {k k' : Bool} {x : Int} (h : true = opK k k' x) : k = true ∧ k' = true ∧ fitsB x = true ∧ opN k k' x = x := by
  cases k <;> cases k' <;> simp_all [opK, opN, fitN]
theorem s_comm (k : Bool) (n : Int) (k' : Bool) (n' : Int) : sK k n k' n' = sK k' n' k n ∧ sN k n k' n' = sN k' n' k n := by
  unfold sK sN; rw [opK_comm, opN_comm, Int.add_comm]; exact ⟨rfl, rfl⟩
theorem p_comm (k : Bool) (n : Int) (k' : Bool) (n' : Int) : pK k n k' n' = pK k' n' k n ∧ pN k n k' n' = pN k' n' k n := by
  unfold pK pN; rw [opK_comm, opN_comm, Int.mul_comm]; exact ⟨rfl, rfl⟩
theorem s_asso {ka kb kc kab kbc : Bool} {a b c nab nbc : Int} (h1 : kab = sK ka a kb b ∧ nab = sN ka a kb b) (h2 : kbc = sK kb b kc c ∧ nbc = sN kb b kc c) (g1 : kab = true) (g2 : kbc = true) :
    sK kab nab kc c = sK ka a kbc nbc ∧ sN kab nab kc c = sN ka a kbc nbc := by
  obtain ⟨rfl, rfl⟩ := h1
  obtain ⟨rfl, rfl⟩ := h2
  obtain ⟨rfl, rfl, _, e1⟩ := op_true g1.symm
  obtain ⟨_, rfl, _, e2⟩ := op_true g2.symm
  rw [g1, g2]
  unfold sK sN at *
  rw [e1, e2, Int.add_assoc]; exact ⟨rfl, rfl⟩
theorem p_asso {ka kb kc kab kbc : Bool} {a b c nab nbc : Int} (h1 : kab = pK ka a kb b ∧ nab = pN ka a kb b) (h2 : kbc = pK kb b kc c ∧ nbc = pN kb b kc c) (g1 : kab = true) (g2 : kbc = true) :
    pK kab nab kc c = pK ka a kbc nbc ∧ pN kab nab kc c = pN ka a kbc nbc := by
  obtain ⟨rfl, rfl⟩ := h1
  obtain ⟨rfl, rfl⟩ := h2
  obtain ⟨rfl, rfl, _, e1⟩ := op_true g1.symm
  obtain ⟨_, rfl, _, e2⟩ := op_true g2.symm
  rw [g1, g2]
  unfold pK pN at *
  rw [e1, e2, Int.mul_assoc]; exact ⟨rfl, rfl⟩
theorem dist {ka kb kc kbc kpq kpr : Bool} {a b c nbc npq npr : Int} (h1 : kbc = sK kb b kc c ∧ nbc = sN kb b kc c) (h2 : kpq = pK ka a kb b ∧ npq = pN ka a kb b) (h3 : kpr = pK ka a kc c ∧ npr = pN ka a kc c) (g1 : kbc = true) (g2 : kpq = true) (g3 : kpr = true) :
    pK ka a kbc nbc = sK kpq npq kpr npr ∧ pN ka a kbc nbc = sN kpq npq kpr npr := by
  obtain ⟨rfl, rfl⟩ := h1
  obtain ⟨rfl, rfl⟩ := h2
  obtain ⟨rfl, rfl⟩ := h3
  obtain ⟨rfl, rfl, _, e1⟩ := op_true g1.symm
  obtain ⟨rfl, _, _, e2⟩ := op_true g2.symm
  obtain ⟨_, _, _, e3⟩ := op_true g3.symm
  rw [g1, g2, g3]
  unfold pK pN sK sN at *
  rw [e1, e2, e3, Int.mul_add]; exact ⟨rfl, rfl⟩
theorem less {ka kb kn : Bool} {a b nn : Int} (h1 : kn = opK true kb (0 - b) ∧ nn = opN true kb (0 - b)) (g : kn = true) :
    mK ka a kb b = sK ka a kn nn ∧ mN ka a kb b = sN ka a kn nn := by
  obtain ⟨rfl, rfl⟩ := h1
  obtain ⟨_, rfl, _, e⟩ := op_true g.symm
  rw [g, e]
  unfold mK mN sK sN
  have : a - b = a + (0 - b) := by omega
  rw [this]; exact ⟨rfl, rfl⟩
theorem unit {a : Int} (h : fitsB a = true) : sK true a true 0 = true ∧ sN true a true 0 = a ∧ pK true a true 1 = true ∧ pN true a true 1 = a ∧ mK true a true a = true ∧ mN true a true a = 0 := by
  have e1 : a + 0 = a := by omega
  have e2 : a * 1 = a := by omega
  have e3 : a - a = 0 := by omega
  have e4 : fitsB 0 = true := rfl
  unfold sK sN pK pN mK mN
  rw [e1, e2, e3, opK_tt, opN_tt, opK_tt, opN_tt, fitN_yes _ h, fitN_yes _ e4]
  exact ⟨h, rfl, h, rfl, rfl, rfl⟩
theorem four : pK true 2 true 2 = true ∧ pN true 2 true 2 = 4 := by decide
theorem sN_fits (k : Bool) (n : Int) (k' : Bool) (n' : Int) : fitsB (sN k n k' n') = true := opN_fits _ _ _
theorem pN_fits (k : Bool) (n : Int) (k' : Bool) (n' : Int) : fitsB (pN k n k' n') = true := opN_fits _ _ _

theorem add_op (k : Bool) (n : Int) (k' : Bool) (n' : Int) (w : World) (h : fitsB n = true) (h' : fitsB n' = true) : Calls Try.prog 11 #[.agg #[.bool k, .int .i64 n], .agg #[.bool k', .int .i64 n']] w fun e w' => e = .returned (.agg #[.bool (sK k n k' n'), .int .i64 (sN k n k' n')]) ∧ Below w.heap.size w w' := add_any k k' n n' w h h'
theorem mul_op (k : Bool) (n : Int) (k' : Bool) (n' : Int) (w : World) (h : fitsB n = true) (h' : fitsB n' = true) : Calls Try.prog 12 #[.agg #[.bool k, .int .i64 n], .agg #[.bool k', .int .i64 n']] w fun e w' => e = .returned (.agg #[.bool (pK k n k' n'), .int .i64 (pN k n k' n')]) ∧ Below w.heap.size w w' := mul_any k k' n n' w h h'
theorem sub_op (k : Bool) (n : Int) (k' : Bool) (n' : Int) (w : World) (h : fitsB n = true) (h' : fitsB n' = true) : Calls Try.prog 14 #[.agg #[.bool k, .int .i64 n], .agg #[.bool k', .int .i64 n']] w fun e w' => e = .returned (.agg #[.bool (mK k n k' n'), .int .i64 (mN k n k' n')]) ∧ Below w.heap.size w w' := sub_any k k' n n' w h h'

end Go.Proofs.Ytcjldhnjcmhfhab
