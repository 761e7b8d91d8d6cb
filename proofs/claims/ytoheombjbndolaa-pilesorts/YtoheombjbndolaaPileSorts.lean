/- For every list of events the law PileSorts returns true: Sort's answer is the document's, and the list stays. No condition. -/
import Derived.Test.YtoheombjbndolaaHla
import Derived.Test.YtoheombjbndolaaHrs
import Derived.Test.YtoheombjbndolaaOpenH
import Derived.Carry
import Derived.ChangeMaps5
import Derived.SizedLaws
import Derived.Lib.SmallJoins
import Derived.Deep.DeepHandedRow
namespace Go.Proofs.Ytoheombjbndolaa.pileSorts
open Go.ChangeShapes Go.WideShapes Go.ChangeAt Go.RowKit Go.BigFrame
set_option linter.unusedVariables false
set_option linter.unusedSimpArgs false

set_option maxRecDepth 100000 in
set_option maxHeartbeats 2000000 in
theorem walk (ao : Option Addr) (cap : Nat) (l : List Ev) (w : World) (hsl : Sl ao l.length cap) (F : Flat w ao (fl evC l)) (hl : l.length * 88 ≤ 140737488351232) (ok : ∀ k, (l.getD k zeroE).ok) : Calls Try.prog 5 #[.slice ao l.length cap] w fun e w' => e = .returned (.bool true) ∧ Below w.heap.size w w' := by
  have hz : (srt evLt l).length = l.length := srt_len _ _
  go_enter Try.func5, Try.ntmps5
  go_wp2_with (first
    | (at_builtin; refine wpList_append_flatw rfl (.tmp 6) (.tmp 7) rfl Try.underlying22 nfEv rfl (by decide) (.slice none 0 0) w.heap.size 0 [] rfl (World.ownsRow_nil _ _ _ _) (Nat.le_refl _) ao l.length cap (fl evC l) rfl hsl F (fl_len ev_size l) (fl_one ev_ones1 l) (by omega) (by omega) ?_; intro v' w6 O6 G6; rw [Nat.zero_add, List.nil_append] at O6; obtain ⟨a6, p6, rfl, _⟩ := own_form O6; have B6 : Below w.heap.size w w6 := (Below.refl _ _).grown G6 (Nat.le_refl _) (fun k e => by simp [Value.ownBlock] at e); have c1 := evSort ao cap l w6 hsl (F.keep B6) hl)
    | (go_at_call 15; (with_reducible refine c1.mono ?_); rintro e u1 ⟨g1, rfl, O1, G1⟩; have c2 := evRef l.length l (Nat.le_refl _) a6 p6 u1 (own_sl O6) ((own_flat O6).keep G1) hl)
    | (go_at_call 17; (with_reducible refine c2.mono ?_); rintro e u2 ⟨a2, p2, rfl, O2, G2⟩; have F1 : Flat u2 (some ⟨g1, 0, none⟩) (fl evC (srt evLt l)) := (own_flat O1).keep G2; have c3 := sameEvents_true (some ⟨g1, 0, none⟩) a2 l.length p2 (srt evLt l) u2 F1 (own_flat O2) (by rw [hz]; omega); rw [hz] at c3; have B3 := gtrans (gtrans B6 G1) G2)
    | (go_at_call 18; (with_reducible refine c3.mono ?_); rintro e u3 ⟨rfl, G3⟩; have c4 := sameEvents_true ao a6 cap p6 l u3 (F.keep (gtrans B3 G3)) ((own_flat O6).keep (gtrans (gtrans G1 G2) G3)) (by omega); clear c3)
    | (go_at_call 18; (with_reducible refine c4.mono ?_); rintro e u4 ⟨rfl, G4⟩))
  go_ret
  exact ⟨rfl, gtrans (gtrans B3 G3) G4⟩

theorem own : ownKnob Try.prog.godebug = none := by kernel_rfl
theorem laidOut : laidOutB Try.prog = true := by kernel_rfl

set_option maxRecDepth 100000 in
theorem lifted (os : Os) (started : os.Started) (H : Type) (enc : TypeId × Value → H) :
    ReturnsInHanded {} Try.checked os 5 .any (Rows.pileSortsSpec.pre6 enc Try.prog Try.f5 Rows.pileSortsRow.domain false) (Rows.pileSortsSpec.post enc Try.prog Try.f5 false true false false) := by
  refine returnsInHanded_of_change_sized (C := Try.checked) own started (by kernel_rfl) Try.func5
    (ChangeSpec.witness6 (enc := enc) (C := Try.checked) false ⟨#[], #[.slice none 0 0], []⟩ 8 (by kernel_rfl) (by kernel_rfl) (by kernel_rfl) (by kernel_rfl)) ?_
  intro W base args ds gs before hval0 hW hcnd hsz0 _
  have hsz : (DataW.weightsEach Try.prog (Try.f5.params.toList ++ Rows.pileSortsSpec.plain.varTypes Try.prog) (ds ++ gs)).all (· ≤ reachBytes) = true := hsz0
  have hval : ∀ (j : Nat) t v, Try.f5.params[j]? = some t → args[j]? = some v → Value.okWide Try.prog W .any base t v := hval0
  have hW' := hW
  obtain ⟨p, q, hA0, hV, rfl, hfz, hnd⟩ := hW
  have hA : DataW.TrodAll enc Try.prog W 0 (fun _ => true) true Try.f5.params.toList args.toList ds p := hA0
  rw [Try.params5] at hA hval hsz
  obtain ⟨v0, vs0, d0, ds0, p0, q0, hargs, rfl, rfl, h0, r0⟩ := trodAll_cons hA
  obtain ⟨rfl, rfl, rfl⟩ := trodAll_nil r0
  obtain rfl : args = #[v0] := by cases args; simp_all
  obtain ⟨rfl, rfl⟩ := trodVars_none hV
  have k0 := h0
  have lt0 : ∀ x ∈ p0, x.block < W.heap.size := by obtain ⟨m, hm⟩ := k0; exact DataW.trod_lt m _ _ _ hm
  obtain ⟨ao0, cap0, l0, e0, wc0, w0, wr0, ws0⟩ : ∃ ao cap l, v0 = .slice ao (l : List Ev).length cap ∧ Sl ao l.length cap ∧ Flat W ao (fl evC l) ∧ l.length * 88 ≤ 140737488351232 ∧ ∀ k, (l.getD k zeroE).ok := by
    obtain ⟨a, len, cap, e⟩ := okWide_slice Try.underlying22 (hval 0 22 v0 rfl rfl)
    subst e
    obtain ⟨fuel, hf⟩ := h0
    have hf' : DataW.trod enc Try.prog W 0 (fun _ => true) true fuel 22 [.slice a len cap] = some (d0, p0) := hf
    exact open_evrow hf' (fun b hb => by
      have h1 := List.all_eq_true.1 hsz b (DataW.weights_mem_each (j := 0) (t := 22) rfl rfl b hb)
      simpa using h1)
  subst e0
  clear hA0 hval0
  refine (walk ao0 cap0 l0 W wc0 w0 wr0 ws0).mono fun e W' ⟨he, bel⟩ => ?_
  subst he
  exact ⟨_, rfl, _, _, _, [], _, [], hW', trodAll_mk1 (shut_bool Try.underlying4 _), (trodAll_cons_mk (Below.trod laidOut (by kernel_rfl) (of_decide_eq_true (by kernel_rfl)) k0 bel lt0) trodAll_mk0), rfl, bel.frame _, fun h => by cases h⟩

theorem over : Rows.pileSortsRow.holds Try.pinned (OpenSpec.ofChange Rows.pileSortsSpec) :=
  OpenClaim.holds_of_wide 5 Try.f5 rfl rfl rfl rfl rfl rfl rfl ⟨rfl, rfl, rfl, rfl, rfl⟩ rfl rfl rfl rfl rfl (by kernel_rfl) Try.func5 (by kernel_rfl)
    (of_decide_eq_true (by kernel_rfl)) (by unfold Func.isWrapper; first | (rw [if_pos (by decide +kernel)]; kernel_rfl) | (rw [if_neg (by decide +kernel)]; exact ⟨rfl, rfl⟩))
    (fun os started H enc _ => lifted os started H enc)

end Go.Proofs.Ytoheombjbndolaa.pileSorts
namespace Go.Proofs.Ytoheombjbndolaa
theorem pileSorts_holds : Rows.PileSortsSaid := pileSorts.over
#print axioms pileSorts_holds
end Go.Proofs.Ytoheombjbndolaa
