/- A subtree as a tree of its own: the program's side. -/
import Derived.Test.YtlejhococjlijaaGreatDoorCtb
import Derived.Test.YtlejhococjlijaaGreatDoorCtc0
namespace Go.Proofs.YtlejhococjlijaaGreatDoor
open Go.RowKit Go.BigFrame Go.Proofs.YtlejhococjlijaaGreatDoor.Ev
set_option linter.unusedVariables false
set_option linter.unusedSimpArgs false

set_option maxRecDepth 100000 in
set_option maxHeartbeats 4000000 in
theorem clone_any (ns : List Nd) (ad : Addr) (cap : Nat) (w : World) (A : IsNds w (some ad) ns) (hr : ns.length * 64 ≤ 140737488351232) :
    Calls Tryz.prog 22 #[.slice (some ad) ns.length cap] w fun e w' => ∃ v, e = .returned v ∧ w'.ownsRow w.heap.size 29 6 v ns.length (ndsV ns) ∧ Below w.heap.size w w' := by
  have q22 : ∀ (w : World) (a : Option Addr) (n c n' c' : Nat), (binOp .eql 22 (.slice a n c) (.slice none n' c')).run Tryz.prog w = .ok (.bool a.isNone) w := fun w a n c n' c' => Lib.run_eql_slice_nil w _ _ a n c n' c' Tryz.underlying22
  have B0 := galloc (Below.refl w.heap.size w) (.cells #[] 29)
  have A0 := A.keep B0
  go_enter Tryz.func22, Tryz.ntmps22
  go_wp2_with (at_builtin; refine wpList_append_nds rfl _ _ rfl _ w.heap.size 0 [] rfl (World.ownsRow_made w #[] 0 (Nat.le_refl _) (Nat.zero_le _) rfl) B0.size (some ad) cap ns rfl (fun e => by cases e) A0 (by omega) ?_; intro v' w1 O1 g1)
  rw [Nat.zero_add, List.nil_append] at O1
  go_wp2
  go_ret
  exact ⟨_, rfl, O1, B0.grown g1 B0.size (fun k e => by cases e; exact Nat.le_refl _)⟩

end Go.Proofs.YtlejhococjlijaaGreatDoor
