/- The document's Tree; the law ShowTrees, walked. -/
import Derived.Test.YtlejhococjlijaaGreatDoorShe
namespace Go.Proofs.YtlejhococjlijaaGreatDoor
open Go.RowKit Go.BigFrame Go.Proofs.YtlejhococjlijaaGreatDoor.Ev
set_option linter.unusedVariables false
set_option linter.unusedSimpArgs false

set_option maxRecDepth 100000 in
set_option maxHeartbeats 4000000 in
theorem refTree_any (ns : List Nd) (ao : Option Addr) (cap : Nat) (w : World) (K : KwAt w) (A : IsNds w ao ns) (hr : ns.length * 64 ≤ 140737488351232) (hf : ∀ k, (ns.getD k noNd).fit) :
    Calls Tryz.prog 10 #[.slice ao ns.length cap] w fun e w' => e = .returned (.bool (treeB ns)) ∧ Below w.heap.size w w' := by
  have c1 := refBegins_any ns ao cap w K A hr hf
  obtain ⟨n, hn⟩ : ∃ n, ns.length = n := ⟨_, rfl⟩
  obtain ⟨v, hv⟩ : ∃ v, treeB ns = v := ⟨_, rfl⟩
  rw [hn] at hr c1 ⊢
  rw [hv]
  have HV : Hid (treeB ns = v) := hv
  clear hv
  cases hb : begsO ns [] with
  | none =>
    have hf : false = v := by rw [← HV.out]; unfold treeB; rw [hb]
    subst hf
    clear HV
    go_enter Tryz.func10, Tryz.ntmps10
    go_wp2_with (go_at_call 24; (with_reducible refine c1.mono ?_); rintro e u ⟨g, hc⟩; replace hc : e = .returned (.tuple #[.slice none 0 0, .bool false]) := (by rcases hc with ⟨_, h⟩ | ⟨bs, v, h, _⟩; exact h; (rw [hb] at h; cases h)); subst hc)
    go_ret
    exact ⟨rfl, g⟩
  | some bs =>
    have hlen := begsO_len ns [] bs hb
    have hbl : bs.length = n := by simp at hlen; omega
    have hans : decide (0 < n ∧ bs.getD (n - 1) 0 = 0) = v := by rw [← HV.out]; unfold treeB; rw [hb]; simp only; rw [hn]
    have HA : Hid (decide (0 < n ∧ bs.getD (n - 1) 0 = 0) = v) := hans
    clear hans HV
    by_cases h0 : n = 0
    · have hi0 : ¬ (0 : Int) < (n : Int) := by omega
      have d0 : decide ((0 : Int) < (n : Int)) = false := decide_eq_false hi0
      have hf : false = v := by rw [← HA.out, decide_eq_false (by omega)]
      subst hf
      clear h0
      go_enter Tryz.func10, Tryz.ntmps10
      go_wp2_with (go_at_call 24; (with_reducible refine c1.mono ?_); rintro e u ⟨g, hc⟩; replace hc : ∃ vv, e = .returned (.tuple #[vv, .bool true]) ∧ u.ownsRow w.heap.size 3 1 vv bs.length (intsV bs) := (by rcases hc with ⟨h, _⟩ | ⟨bs', v, h, h2, h3⟩; (rw [hb] at h; cases h); (rw [hb] at h; cases h; exact ⟨v, h2, h3⟩)); obtain ⟨vv, rfl, O⟩ := hc)
      go_ret
      exact ⟨rfl, g⟩
    · obtain ⟨j, hj⟩ : ∃ j, n = j + 1 := ⟨n - 1, by omega⟩
      have hji : (n : Int) - 1 = (j : Int) := by omega
      have hjn : (j : Int) < (n : Int) := by omega
      have hi0 : (0 : Int) < (n : Int) := by omega
      obtain ⟨z, hz⟩ : ∃ z, bs.getD j 0 = z := ⟨_, rfl⟩
      have hf : (z == 0) = v := by
        rw [← HA.out, show n - 1 = j by omega, hz]
        by_cases hz0 : z = 0
        · simp [hz0]; omega
        · simp [hz0]
      subst hf
      clear HA
      have HJ : Hid (n = j + 1) := hj
      clear hj h0
      go_enter Tryz.func10, Tryz.ntmps10
      go_wp2_with (go_at_call 24; (with_reducible refine c1.mono ?_); rintro e u ⟨g, hc⟩; replace hc : ∃ vv, e = .returned (.tuple #[vv, .bool true]) ∧ u.ownsRow w.heap.size 3 1 vv bs.length (intsV bs) := (by rcases hc with ⟨h, _⟩ | ⟨bs', v, h, h2, h3⟩; (rw [hb] at h; cases h); (rw [hb] at h; cases h; exact ⟨v, h2, h3⟩)); obtain ⟨vv, rfl, O⟩ := hc; obtain ⟨vo, vc, rfl, hvc, _, _⟩ := own_form O; obtain ⟨gv, ov, ev, xv⟩ := ints_own (ds := bs) O j (by have := HJ.out; omega); subst ev; rw [hz] at xv; rw [hbl] at O ⊢; clear O)
      go_ret
      exact ⟨rfl, g⟩


end Go.Proofs.YtlejhococjlijaaGreatDoor
