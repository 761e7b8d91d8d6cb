/- For every list of events the law PileStable returns true: Sort's answer has just the list's things, none behind one that it is before, even ones as they stood; the list stays. No condition. -/
import Derived.Test.YtoheombjbndolaaHlc
import Derived.Test.YtoheombjbndolaaOpenH
import Derived.Carry
import Derived.ChangeMaps5
import Derived.SizedLaws
import Derived.Lib.SmallJoins
import Derived.Deep.DeepHandedRow
namespace Go.Proofs.Ytoheombjbndolaa.pileStable
open Go.ChangeShapes Go.WideShapes Go.ChangeAt Go.RowKit Go.BigFrame
set_option linter.unusedVariables false
set_option linter.unusedSimpArgs false

set_option maxRecDepth 100000 in
set_option maxHeartbeats 2000000 in
theorem walk (ao : Option Addr) (cap : Nat) (l : List Ev) (w : World) (hsl : Sl ao l.length cap) (F : Flat w ao (fl evC l)) (hl : l.length * 88 ≤ 140737488351232) (ok : ∀ k, (l.getD k zeroE).ok) : Calls Try.prog 4 #[.slice ao l.length cap] w fun e w' => e = .returned (.bool true) ∧ Below w.heap.size w w' := by
  have c1 := marked_any ao cap l w F hl
  have S := stb_lay l
  go_enter Try.func4, Try.ntmps4
  go_wp2_with (first
    | (go_at_call 9; (with_reducible refine c1.mono ?_); rintro e u ⟨a, c, rfl, O1, G1⟩; have c2 := evSort a c (mkd l) u (by rw [mkd_len]; exact own_sl O1) (own_flat O1) (by rw [mkd_len]; exact hl); rw [mkd_len] at c2)
    | (go_at_call 15; (with_reducible refine c2.mono ?_); rintro e u2 ⟨g, rfl, O2, G2⟩; have c3 := stable_true (some ⟨g, 0, none⟩) a l.length c ((lay evLt (mkd l)).map Prod.fst) (mkd l) u2 (own_flat O2) ((own_flat O1).keep G2) S (by rw [mkd_len]; exact hl); rw [mkd_len, List.length_map, lay_len, mkd_len] at c3)
    | (go_at_call 16; (with_reducible refine c3.mono ?_); rintro e u3 ⟨rfl, G3⟩))
  go_ret
  exact ⟨rfl, gtrans (gtrans G1 G2) G3⟩

theorem own : ownKnob Try.prog.godebug = none := by kernel_rfl
theorem laidOut : laidOutB Try.prog = true := by kernel_rfl

set_option maxRecDepth 100000 in
theorem lifted (os : Os) (started : os.Started) (H : Type) (enc : TypeId × Value → H) :
    ReturnsInHanded {} Try.checked os 4 .any (Rows.pileStableSpec.pre6 enc Try.prog Try.f4 Rows.pileStableRow.domain false) (Rows.pileStableSpec.post enc Try.prog Try.f4 false true false false) := by
  refine returnsInHanded_of_change_sized (C := Try.checked) own started (by kernel_rfl) Try.func4
    (ChangeSpec.witness6 (enc := enc) (C := Try.checked) false ⟨#[], #[.slice none 0 0], []⟩ 8 (by kernel_rfl) (by kernel_rfl) (by kernel_rfl) (by kernel_rfl)) ?_
  intro W base args ds gs before hval0 hW hcnd hsz0 _
  have hsz : (DataW.weightsEach Try.prog (Try.f4.params.toList ++ Rows.pileStableSpec.plain.varTypes Try.prog) (ds ++ gs)).all (· ≤ reachBytes) = true := hsz0
  have hval : ∀ (j : Nat) t v, Try.f4.params[j]? = some t → args[j]? = some v → Value.okWide Try.prog W .any base t v := hval0
  have hW' := hW
  obtain ⟨p, q, hA0, hV, rfl, hfz, hnd⟩ := hW
  have hA : DataW.TrodAll enc Try.prog W 0 (fun _ => true) true Try.f4.params.toList args.toList ds p := hA0
  rw [Try.params4] at hA hval hsz
  obtain ⟨v0, vs0, d0, ds0, p0, q0, hargs, rfl, rfl, h0, r0⟩ := trodAll_cons hA
  obtain ⟨rfl, rfl, rfl⟩ := trodAll_nil r0
  obtain rfl : args = #[v0] := by cases args; simp_all
  obtain ⟨rfl, rfl⟩ := trodVars_none hV
  have k0 := h0
  have lt0 : ∀ x ∈ p0, x.block < W.heap.size := by obtain ⟨m, hm⟩ := k0; exact DataW.trod_lt m _ _ _ hm
  obtain ⟨ao0, cap0, l0, e0, wc0, w0, wr0, ws0⟩ : ∃ ao cap l, v0 = .slice ao (l : List Ev).length cap ∧ Sl ao l.length cap ∧ Flat W ao (fl evC l) ∧ l.length * 88 ≤ 140737488351232 ∧ ∀ k, (l.getD k zeroE).ok := by
    obtain ⟨a, len, cap, e⟩ := okWide_slice Try.underlying22 (hval 0 22 v0 rfl rfl)
    subst e
    obtain ⟨fuel, hf⟩ := h0
    have hf' : DataW.trod enc Try.prog W 0 (fun _ => true) true fuel 22 [.slice a len cap] = some (d0, p0) := hf
    exact open_evrow hf' (fun b hb => by
      have h1 := List.all_eq_true.1 hsz b (DataW.weights_mem_each (j := 0) (t := 22) rfl rfl b hb)
      simpa using h1)
  subst e0
  clear hA0 hval0
  refine (walk ao0 cap0 l0 W wc0 w0 wr0 ws0).mono fun e W' ⟨he, bel⟩ => ?_
  subst he
  exact ⟨_, rfl, _, _, _, [], _, [], hW', trodAll_mk1 (shut_bool Try.underlying4 _), (trodAll_cons_mk (Below.trod laidOut (by kernel_rfl) (of_decide_eq_true (by kernel_rfl)) k0 bel lt0) trodAll_mk0), rfl, bel.frame _, fun h => by cases h⟩

theorem over : Rows.pileStableRow.holds Try.pinned (OpenSpec.ofChange Rows.pileStableSpec) :=
  OpenClaim.holds_of_wide 4 Try.f4 rfl rfl rfl rfl rfl rfl rfl ⟨rfl, rfl, rfl, rfl, rfl⟩ rfl rfl rfl rfl rfl (by kernel_rfl) Try.func4 (by kernel_rfl)
    (of_decide_eq_true (by kernel_rfl)) (by unfold Func.isWrapper; first | (rw [if_pos (by decide +kernel)]; kernel_rfl) | (rw [if_neg (by decide +kernel)]; exact ⟨rfl, rfl⟩))
    (fun os started H enc _ => lifted os started H enc)

end Go.Proofs.Ytoheombjbndolaa.pileStable
namespace Go.Proofs.Ytoheombjbndolaa
theorem pileStable_holds : Rows.PileStableSaid := pileStable.over
#print axioms pileStable_holds
end Go.Proofs.Ytoheombjbndolaa
