/- The document's Tree; the law ShowTrees, walked. -/
import Derived.Test.YtmoimmghmmomlaaDoorShe
namespace Go.Proofs.YtmoimmghmmomlaaDoor
open Go.RowKit Go.BigFrame
set_option linter.unusedVariables false
set_option linter.unusedSimpArgs false

set_option maxRecDepth 100000 in
set_option maxHeartbeats 4000000 in
theorem refTree_any (ns : List Nd) (ao : Option Addr) (cap : Nat) (w : World) (K : KwAt w) (A : IsNds w ao ns) (hr : ns.length * 64 ≤ 140737488351232) (hf : ∀ k, (ns.getD k noNd).fit) :
    Calls Tryd.prog 9 #[.slice ao ns.length cap] w fun e w' => e = .returned (.bool (treeB ns)) ∧ Below w.heap.size w w' := by
  have c1 := refBegins_any ns ao cap w K A hr hf
  obtain ⟨n, hn⟩ : ∃ n, ns.length = n := ⟨_, rfl⟩
  obtain ⟨v, hv⟩ : ∃ v, treeB ns = v := ⟨_, rfl⟩
  rw [hn] at hr c1 ⊢
  rw [hv]
  have HV : Hid (treeB ns = v) := hv
  clear hv
  cases hb : begsO ns [] with
  | none =>
    have hf : false = v := by rw [← HV.out]; unfold treeB; rw [hb]
    subst hf
    clear HV
    go_enter Tryd.func9, Tryd.ntmps9
    go_wp2_with (go_at_call 23; (with_reducible refine c1.mono ?_); rintro e u ⟨g, hc⟩; replace hc : e = .returned (.tuple #[.slice none 0 0, .bool false]) := (by rcases hc with ⟨_, h⟩ | ⟨bs, v, h, _⟩; exact h; (rw [hb] at h; cases h)); subst hc)
    go_ret
    exact ⟨rfl, g⟩
  | some bs =>
    have hlen := begsO_len ns [] bs hb
    have hbl : bs.length = n := by simp at hlen; omega
    have hans : decide (0 < n ∧ bs.getD (n - 1) 0 = 0) = v := by rw [← HV.out]; unfold treeB; rw [hb]; simp only; rw [hn]
    have HA : Hid (decide (0 < n ∧ bs.getD (n - 1) 0 = 0) = v) := hans
    clear hans HV
    by_cases h0 : n = 0
    · have hi0 : ¬ (0 : Int) < (n : Int) := by omega
      have d0 : decide ((0 : Int) < (n : Int)) = false := decide_eq_false hi0
      have hf : false = v := by rw [← HA.out, decide_eq_false (by omega)]
      subst hf
      clear h0
      go_enter Tryd.func9, Tryd.ntmps9
      go_wp2_with (go_at_call 23; (with_reducible refine c1.mono ?_); rintro e u ⟨g, hc⟩; replace hc : ∃ vv, e = .returned (.tuple #[vv, .bool true]) ∧ u.ownsRow w.heap.size 3 1 vv bs.length (intsV bs) := (by rcases hc with ⟨h, _⟩ | ⟨bs', v, h, h2, h3⟩; (rw [hb] at h; cases h); (rw [hb] at h; cases h; exact ⟨v, h2, h3⟩)); obtain ⟨vv, rfl, O⟩ := hc)
      go_ret
      exact ⟨rfl, g⟩
    · obtain ⟨j, hj⟩ : ∃ j, n = j + 1 := ⟨n - 1, by omega⟩
      have hji : (n : Int) - 1 = (j : Int) := by omega
      have hjn : (j : Int) < (n : Int) := by omega
      have hi0 : (0 : Int) < (n : Int) := by omega
      obtain ⟨z, hz⟩ : ∃ z, bs.getD j 0 = z := ⟨_, rfl⟩
      have hf : (z == 0) = v := by
        rw [← HA.out, show n - 1 = j by omega, hz]
        by_cases hz0 : z = 0
        · simp [hz0]; omega
        · simp [hz0]
      subst hf
      clear HA
      have HJ : Hid (n = j + 1) := hj
      clear hj h0
      go_enter Tryd.func9, Tryd.ntmps9
      go_wp2_with (go_at_call 23; (with_reducible refine c1.mono ?_); rintro e u ⟨g, hc⟩; replace hc : ∃ vv, e = .returned (.tuple #[vv, .bool true]) ∧ u.ownsRow w.heap.size 3 1 vv bs.length (intsV bs) := (by rcases hc with ⟨h, _⟩ | ⟨bs', v, h, h2, h3⟩; (rw [hb] at h; cases h); (rw [hb] at h; cases h; exact ⟨v, h2, h3⟩)); obtain ⟨vv, rfl, O⟩ := hc; obtain ⟨vo, vc, rfl, hvc, _, _⟩ := own_form O; obtain ⟨gv, ov, ev, xv⟩ := ints_own (ds := bs) O j (by have := HJ.out; omega); subst ev; rw [hz] at xv; rw [hbl] at O ⊢; clear O)
      go_ret
      exact ⟨rfl, g⟩

set_option maxRecDepth 100000 in
set_option maxHeartbeats 4000000 in
theorem showTrees_walk (ao : Option Addr) (cap : Nat) (ns : List Nd) (w : World) (hc : ns.length ≤ cap) (hno : ao = none → ns.length = 0 ∧ cap = 0) (A : IsNds w ao ns) (hr : ns.length * 64 ≤ 140737488351232) (hf : ∀ k, (ns.getD k noNd).fit) (K : KwAt w) :
    Calls Tryd.prog 3 #[.slice ao ns.length cap] w fun e w' => e = .returned (.bool true) ∧ Below w.heap.size w w' := by
  have c1 := beyond_any ns ao cap w A hr hf
  have c2 := fun (u : World) (g : Below w.heap.size w u) => twinTree_any ns ao cap u (A.keep g) hr
  have c3 := fun (u : World) (g : Below w.heap.size w u) => tree_any ns ao cap u (K.keep g) (A.keep g) hr hf
  have hl : ns.length ≤ 9223372036854775807 := by omega
  obtain ⟨n, hn⟩ : ∃ n, ns.length = n := ⟨_, rfl⟩
  have c4 := fun (u : World) (g : Below w.heap.size w u) (bo : Option Addr) (cb : Nat) (B : IsNds u bo ns) => refTree_any ns bo cb u (K.keep g) B hr hf
  have c5 := fun (u : World) (g : Below w.heap.size w u) (bo : Option Addr) (cb : Nat) (B : IsNds u bo ns) => sameTree_true ns hl ao bo cap cb u (A.keep g) B
  rw [hn] at c1 c2 c3 c4 c5 ⊢
  generalize treeB ns = v at c3 c4
  cases v
  all_goals
    go_enter Tryd.func3, Tryd.ntmps3
    go_wp2_with (first
      | (go_at_call 6; (with_reducible refine c1.mono ?_); rintro e u1 ⟨bb, rfl, g1⟩; cases bb)
      | (go_at_call 7; (with_reducible refine (c2 _ g1).mono ?_); rintro e u2 ⟨v2, rfl, O2, g2⟩; obtain ⟨bo, cb, rfl, _, _, _⟩ := own_form O2; have G2 := gtrans g1 g2; have B2 : IsNds u2 bo ns := nds_of_own (b := u1.heap.size) (c := cb) (by rw [hn]; exact O2))
      | (go_at_call 8; (with_reducible refine (c3 _ G2).mono ?_); rintro e u3 ⟨rfl, g3⟩; have G3 := gtrans G2 g3)
      | (go_at_call 9; (with_reducible refine (c4 _ G3 _ _ (B2.keep g3)).mono ?_); rintro e u4 ⟨rfl, g4⟩; have G4 := gtrans G3 g4)
      | (go_at_call 10; (with_reducible refine (c5 _ G4 _ _ ((B2.keep g3).keep g4)).mono ?_); rintro e u5 ⟨rfl, g5⟩; have G5 := gtrans G4 g5))
    all_goals
      go_ret
      first | exact ⟨rfl, g1⟩ | exact ⟨rfl, G5⟩

end Go.Proofs.YtmoimmghmmomlaaDoor
