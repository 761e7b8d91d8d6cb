/- A whole tree; the beginning of a descent; what is caught. -/
import Derived.Test.YtmoimmghmmomlaaDoorPy
import Derived.Recover
import Derived.Defers
namespace Go.Proofs.YtmoimmghmmomlaaDoor
open Go.RowKit Go.BigFrame
set_option linter.unusedVariables false
set_option linter.unusedSimpArgs false

/-- What a tree comes to: rows of its own. -/
def TreeP (w : World) (d g : Nat) (e0 : Int) (r : E (List Nd × List Int × List Tok)) (e : Ending) (w' : World) : Prop :=
  match r with
  | .ok (ns, sp, tl) => ∃ v1 v2, e = .returned (.tuple #[v1, v2]) ∧ w'.ownsRow w.heap.size 58 6 v1 ns.length (ndsV ns) ∧ w'.ownsRow w.heap.size 3 1 v2 sp.length (intsV sp) ∧ ns.length + tl.length ≤ 400 ∧ sp.length = ns.length ∧ De w' d g e0 tl 0 ∧ Kd d w.heap.size w w'
  | .error (c, x) => e = .panicked (rfC c (plc e0 x)) ∧ Kd d w.heap.size w w'
section
variable (w : World) (d g : Nat) (e0 : Int)
set_option maxRecDepth 100000 in
set_option maxHeartbeats 4000000 in
theorem tree_any (ts : List Tok) (hts : ts.length ≤ 400) (D : De w d g e0 ts 0) : Calls Tryd.prog 47 #[.pointer (some ⟨d, 0, none⟩)] w (TreeP w d g e0 (treeP ts)) := by
  have B := galloc (Below.refl w.heap.size w) (.cells #[.slice none 0 0, .slice none 0 0] 110)
  have D1 := D.keep B
  have hlt := D.lt
  have T1 : Tr (w.alloc (.cells #[.slice none 0 0, .slice none 0 0] 110)) w.heap.size w.heap.size [] [] := ⟨Nat.le_refl _, .slice none 0 0, .slice none 0 0, heap_alloc_new _ _, World.ownsRow_nil _ _ _ _, World.ownsRow_nil _ _ _ _⟩
  have O : Okp (w.alloc (.cells #[.slice none 0 0, .slice none 0 0] 110)) d g e0 w.heap.size w.heap.size ⟨ts, 0, [], []⟩ := ⟨D1, T1, hlt, B.size, Nat.zero_le _, by simpa using hts, rfl⟩
  have c1 := (levels d g e0 w.heap.size w.heap.size _ ⟨ts, 0, [], []⟩ _ O).1 (Nat.le_refl _)
  have R := rdT_at 0 (by omega) ⟨ts, 0, [], []⟩
  have ex : rdT (.at 0) ⟨ts, 0, [], []⟩ = exR ts := rfl
  rw [ex] at c1 R
  clear ex
  cases hr : exR ts with
  | bad c x =>
    rw [hr] at c1
    have e9 : treeP ts = .error (c, x) := by unfold treeP; rw [hr]
    rw [e9]
    clear e9 hr R
    go_enter Tryd.func47, Tryd.ntmps47
    go_wp2_with (go_at_call 65; (with_reducible refine c1.mono ?_); rintro e u3 ⟨rfl, K3⟩)
    exact ⟨rfl, rfl, (Kd.of B _ (Nat.le_refl _)).trans K3.kd⟩
  | ok s =>
    rw [hr] at c1 R
    obtain ⟨i1, i2, i3⟩ := R.inv _ s rfl rfl
    simp only at i1 i2 i3
    have e9 : treeP ts = .ok (s.ns, s.sp, s.ts) := by unfold treeP; rw [hr]
    rw [e9]
    clear e9 hr R
    go_enter Tryd.func47, Tryd.ntmps47
    go_upto_region 3 with (go_at_call 65; (with_reducible refine c1.mono ?_); rintro e u3 ⟨rfl, O3, K3⟩)
    obtain ⟨a1, k1, a2, k2, h1, h2, _, _, n1, n2⟩ := O3.tr.at
    have hl := O3.len
    have hs : Hid (s.sp.length = s.ns.length) := O3.sps
    have D3 := O3.de
    rw [i1] at D3
    have KK := (Kd.of (d := d) B _ (Nat.le_refl _)).trans K3.kd
    clear c1 O O3 K3 T1 D1 i3
    go_region
    all_goals
      go_wp2
      go_ret2
      refine ⟨_, _, rfl, n1.drew, n2.drew, by omega, hs.out, D3.keep (Below.refl _ _).drew, KK.trans (Kd.of (Below.refl _ _).drew _ (by have := KK.size; omega))⟩
end

end Go.Proofs.YtmoimmghmmomlaaDoor
