/- Conjuncts; the document's parents and what lies below a place. -/
import Derived.Test.YtlejhococjlijaaGreatDoorCtf
import Derived.Test.YtlejhococjlijaaGreatDoorShf
import Derived.Deep.RegionHeld
namespace Go.Proofs.YtlejhococjlijaaGreatDoor
open Go.RowKit Go.BigFrame Go.Proofs.YtlejhococjlijaaGreatDoor.Ev
set_option linter.unusedVariables false
set_option linter.unusedSimpArgs false

def conjO (ns : List Nd) : List Int := if treeB ns = true then (conjL ns).map (fun i : Nat => (i : Int)) else []
set_option maxRecDepth 100000 in
set_option maxHeartbeats 4000000 in
theorem conjuncts_any (ns : List Nd) (ao : Option Addr) (cap : Nat) (w : World) (A : IsNds w ao ns) (hr : ns.length * 64 ≤ 140737488351232) (hf : ∀ k, (ns.getD k noNd).fit) (K : KwAt w) :
    Calls Tryz.prog 15 #[.slice ao ns.length cap] w fun e w' => ∃ v, e = .returned v ∧ w'.ownsRow w.heap.size 3 1 v (conjO ns).length (intsV (conjO ns)) ∧ Below w.heap.size w w' := by
  have c1 := shTree_any ns ao cap w K A hr hf
  unfold conjO
  cases hT : treeB ns
  · rw [hT] at c1
    rw [if_neg (by decide)]
    go_enter Tryz.func15, Tryz.ntmps15
    go_wp2_with (go_at_call 35; (with_reducible refine c1.mono ?_); rintro e u ⟨rfl, g⟩)
    go_ret
    exact ⟨_, rfl, World.ownsRow_nil _ _ _ _, g⟩
  · rw [hT] at c1
    rw [if_pos rfl, List.length_map]
    have c2 := fun (u : World) (g : Below w.heap.size w u) => topmost_any ns hT ao cap u (A.keep g) hr
    generalize intsV ((conjL ns).map fun i : Nat => (i : Int)) = xs at *
    go_enter Tryz.func15, Tryz.ntmps15
    go_wp2_with (first
      | (go_at_call 35; (with_reducible refine c1.mono ?_); rintro e u ⟨rfl, g⟩)
      | (go_at_call 36; (with_reducible refine (c2 _ g).mono ?_); rintro e u2 ⟨v, rfl, O, g2⟩))
    go_ret
    exact ⟨_, rfl, World.ownsRow.mono O g.size, gtrans g g2⟩
end Go.Proofs.YtlejhococjlijaaGreatDoor
