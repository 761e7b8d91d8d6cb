/- How a token is written: the document's Spell. -/
import Derived.Test.YtlcmfefcammklabDoorSp
import Derived.Test.YtlcmfefcammklabDoorWd2
namespace Go.Proofs.YtlcmfefcammklabDoor
open Go.RowKit Go.BigFrame Go.Shelf
set_option linter.unusedVariables false
set_option linter.unusedSimpArgs false

set_option maxRecDepth 100000 in
set_option maxHeartbeats 4000000 in
theorem refSpell_any (t : Tok) (hn : -9223372036854775808 ≤ t.n ∧ t.n ≤ 9223372036854775807) (w : World) (K : KrAt w) (Sg : SrAt w) (P : PwAt w) :
    Calls Tryd.prog 16 #[.agg (tokA t)] w fun e w' => e = .returned (.string (spS t)) ∧ Below w.heap.size w w' := by
  have cF := fun (u : World) (g : Below w.heap.size w u) => formatInt_any t.n hn.1 hn.2 u (P.keep g)
  obtain ⟨z, hz⟩ : ∃ z, z = spS t := ⟨_, rfl⟩
  rw [← hz]
  have HZ : Hid (z = spS t) := hz
  clear hz
  unfold tokA
  by_cases k1 : t.k = 1
  · have he : Hid (z = t.t) := by show _ = _; rw [HZ.out]; exact if_pos k1
    rw [k1]
    go_enter Tryd.func16, Tryd.ntmps16
    go_wp2
    go_ret
    exact ⟨by rw [he.out]; rfl, galloc (Below.refl _ _) _⟩
  have q1 : (t.k == 1) = false := by simpa using k1
  by_cases k2 : t.k = 2
  · have he : Hid (z = ⟨(Lib.itoa t.n).toArray⟩) := by show _ = _; rw [HZ.out]; unfold spS; rw [if_neg k1, if_pos k2]
    rw [k2]
    clear k1 q1 k2
    go_enter Tryd.func16, Tryd.ntmps16
    go_wp2_with (go_at_call 19; (with_reducible refine (cF _ (galloc (Below.refl _ _) _)).mono ?_); rintro e u ⟨rfl, g⟩)
    go_ret
    exact ⟨by rw [he.out]; rfl, gtrans (galloc (Below.refl _ _) _) g⟩
  have q2 : (t.k == 2) = false := by simpa using k2
  by_cases k3 : 3 ≤ t.k ∧ t.k ≤ 21
  · obtain ⟨j, hj⟩ : ∃ j : Nat, t.k = 3 + (j : Int) := ⟨(t.k - 3).toNat, by omega⟩
    have hj19 : j < 19 := by omega
    have he : Hid (z = sg j) := by show _ = _; rw [HZ.out]; unfold spS; rw [if_neg k1, if_neg k2, if_pos k3]; congr 1; omega
    have f := fun o => (Sg.keep (galloc (Below.refl w.heap.size w) o)).2 j hj19
    rw [hj] at q1 q2 ⊢
    have b1 : 3 + (j : Int) < 22 := by omega
    clear k1 k2 k3 hj
    go_enter Tryd.func16, Tryd.ntmps16
    go_wp2
    go_ret
    exact ⟨by rw [he.out]; rfl, galloc (Below.refl _ _) _⟩
  by_cases k4 : 30 ≤ t.k ∧ t.k ≤ 56
  · obtain ⟨j, hj⟩ : ∃ j : Nat, t.k = 30 + (j : Int) := ⟨(t.k - 30).toNat, by omega⟩
    have hj27 : j < 27 := by omega
    have he : Hid (z = kw j) := by show _ = _; rw [HZ.out]; unfold spS; rw [if_neg k1, if_neg k2, if_neg k3, if_pos k4]; congr 1; omega
    have f := fun o => (K.keep (galloc (Below.refl w.heap.size w) o)).2 j hj27
    rw [hj] at q1 q2 ⊢
    have e0 : decide ((3 : Int) ≤ 30 + (j : Int)) = true := decide_eq_true (by omega)
    have e1 : decide (30 + (j : Int) < 57) = true := decide_eq_true (by omega)
    have d2 : decide (30 + (j : Int) < 22) = false := decide_eq_false (by omega)
    have e3 : decide ((30 : Int) ≤ 30 + (j : Int)) = true := decide_eq_true (by omega)
    clear k1 k2 k3 k4 hj
    go_enter Tryd.func16, Tryd.ntmps16
    go_wp2
    go_ret
    exact ⟨by rw [he.out]; rfl, galloc (Below.refl _ _) _⟩
  have he : Hid (z = ⟨#[]⟩) := by show _ = _; rw [HZ.out]; unfold spS; rw [if_neg k1, if_neg k2, if_neg k3, if_neg k4]
  generalize t.k = c at *
  clear k1 k2 HZ cF
  rcases (show c < 3 ∨ (21 < c ∧ c < 30) ∨ 56 < c from by omega) with h | h | h
  · skip
    have d0 : decide ((3 : Int) ≤ c) = false := decide_eq_false (by omega)
    have d1 : decide ((30 : Int) ≤ c) = false := decide_eq_false (by omega)
    clear h k3 k4
    go_enter Tryd.func16, Tryd.ntmps16
    go_wp2
    go_ret
    exact ⟨by rw [he.out]; rfl, galloc (Below.refl _ _) _⟩
  · skip
    have d0 : decide ((3 : Int) ≤ c) = true := decide_eq_true (by omega)
    have d1 : decide ((30 : Int) ≤ c) = false := decide_eq_false (by omega)
    have d2 : decide (c < 22) = false := decide_eq_false (by omega)
    clear h k3 k4
    go_enter Tryd.func16, Tryd.ntmps16
    go_wp2
    go_ret
    exact ⟨by rw [he.out]; rfl, galloc (Below.refl _ _) _⟩
  · skip
    have d0 : decide ((3 : Int) ≤ c) = true := decide_eq_true (by omega)
    have d1 : decide ((30 : Int) ≤ c) = true := decide_eq_true (by omega)
    have d2 : decide (c < 22) = false := decide_eq_false (by omega)
    have d3 : decide (c < 57) = false := decide_eq_false (by omega)
    clear h k3 k4
    go_enter Tryd.func16, Tryd.ntmps16
    go_wp2
    go_ret
    exact ⟨by rw [he.out]; rfl, galloc (Below.refl _ _) _⟩

end Go.Proofs.YtlcmfefcammklabDoor
