/- The walk of the law EventPrints. -/
import Derived.Test.YtdlhkpaelcnngaaDoorLine3
import Derived.Laws.Rows
namespace Go.Proofs.YtdlhkpaelcnngaaDoor.eventPrints
open Go.RowKit Go.BigFrame
set_option linter.unusedVariables false
set_option linter.unusedSimpArgs false

theorem eqB_refl (l : List ByteArray) : eqB l l = true := decide_eq_true ⟨rfl, fun _ _ => by simp⟩
theorem eqS_refl (L : List Ty) : eqS L L = true := decide_eq_true ⟨rfl, fun j _ => ⟨by simp, eqB_refl _⟩⟩

set_option maxRecDepth 100000 in
set_option maxHeartbeats 2000000 in
theorem walk (ao : Option Addr) (n cap : Nat) (L : List Ty) (hnc : n ≤ cap) (e : Ev) (w : World) (K : KwAt w) (P : PwAt w) (h : IsTypes w ao n L) (hr : n * 40 ≤ 140737488351232) (hrs : ∀ j, (L.getD j noTy).2.length * 16 ≤ 140737488351232) (ok : e.ok) :
    Calls Tryd.prog 3 #[.agg #[.slice ao n cap], .agg (evC e)] w fun en w' => en = .returned (.bool true) ∧ Below w.heap.size w w' := by
  have hn := h.2.1
  have B := galloc (galloc (Below.refl w.heap.size w) (.cells #[.slice ao n cap] 24)) (.cells (evC e) 28)
  have O := (One.new w (.slice ao n cap) 24).alloc (.cells (evC e) 28)
  have E := Evt.new (w.alloc (.cells #[.slice ao n cap] 24)) e
  rw [show (w.alloc (.cells #[.slice ao n cap] 24)).heap.size = w.heap.size + 1 by simp] at E
  go_enter Tryd.func3, Tryd.ntmps3
  go_upto_region 1 with fail
  generalize hV : (w.alloc (.cells #[.slice ao n cap] 24)).alloc (.cells (evC e) 28) = V at B O E ⊢
  clear hV
  replace h := h.keep B
  replace K := K.keep B
  replace P := P.keep B
  have o0 := O.at0
  have c := twin_any ao n cap L V h hr hrs
  go_upto_region 2 with (go_at_call 4; with_reducible refine c.mono ?_; rintro en u ⟨v, rfl, T, g⟩; obtain ⟨av, cv, rfl, hTy⟩ := T.types)
  clear c T
  have O1 := One.new u (.slice av n cv) 24
  replace O := (O.keep g).alloc (.cells #[.slice av n cv] 24)
  replace E := (E.keep g).alloc (.cells #[.slice av n cv] 24)
  replace B := galloc (gtrans B g) (.cells #[.slice av n cv] 24)
  have q1 := galloc (Below.refl u.heap.size u) (.cells #[.slice av n cv] 24)
  replace h := (h.keep g).keep q1
  replace K := (K.keep g).keep q1
  replace P := (P.keep g).keep q1
  replace hTy := hTy.keep q1
  generalize hW1 : u.alloc (.cells #[.slice av n cv] 24) = W1 at O O1 E B h K P hTy ⊢
  generalize hbu : u.heap.size = bu at O1 ⊢
  clear hW1 g o0 q1 hbu
  have o0 := O.at0
  have c1 := printEvent_any ao n cap L e W1 h hnc ok K P
  have c2 := fun u (g : Below W1.heap.size W1 u) => refPrintEvent_any av n cv L e u (hTy.keep g) ok (K.keep g) (P.keep g)
  have c3 := fun u (g : Below W1.heap.size W1 u) => sameSchema_any ao av n n cap cv L L u (h.keep g) (hTy.keep g)
  simp only [eqS_refl L] at c3
  generalize prE L e = z at c1 c2
  obtain ⟨zs, zc⟩ := z
  go_upto_region 3 with (first
    | (go_at_call 5; with_reducible refine c1.mono ?_; rintro en u ⟨rfl, g⟩)
    | (refine wpList_load_row rfl 28 (.tmp 3) rfl (w.heap.size + 1) rfl 28 (evC e) (0, 0) _ E Tryd.underlying28 rfl (infoE e) ?_))
  have E2 := E.keep g
  have o1 := (O.keep g).at0
  have o2 := (O1.keep g).at0
  have c4 := c2 u g
  go_wp2_with (first
    | (go_at_call 6; with_reducible refine c4.mono ?_; rintro en u2 ⟨rfl, g2⟩; replace g2 := gtrans g g2; have c5 := c3 _ g2; have r1 := (O.keep g2).at0; have r2 := (O1.keep g2).at0)
    | (go_at_call 7; with_reducible refine c5.mono ?_; rintro en u3 ⟨rfl, g3⟩)
    | (refine wpList_load_row rfl 28 (.tmp 3) rfl (w.heap.size + 1) rfl 28 (evC e) (0, 0) _ E2 Tryd.underlying28 rfl (infoE e) ?_))
  go_ret
  exact ⟨by first | rfl | simp, gtrans B (gtrans g2 g3)⟩

end Go.Proofs.YtdlhkpaelcnngaaDoor.eventPrints
