/- For every schema, number and name the law EventFinds returns true: TypeOf and AttrOf are the document's, what they are handed is as it was, and in a schema that is written over they find what is there then. No condition. -/
import Derived.Test.YtlajjkhcffdcfaaFindsWalk
namespace Go.Proofs.Ytlajjkhcffdcfaa.eventFinds
open Go.ChangeShapes Go.WideShapes Go.ChangeAt Go.RowKit Go.BigFrame
set_option linter.unusedVariables false
set_option linter.unusedSimpArgs false

theorem walk1 (ao : Option Addr) (n cap : Nat) (L : List Ty) (typ : Int) (_ : (Lit.int .i64 typ).wf = true) (name : ByteArray) (_ : name.size ≤ 140737488351232) (w : World) (h : IsTypes w ao n L) (hr : n * 40 ≤ 140737488351232) (hrs : ∀ j, (L.getD j noTy).2.length * 16 ≤ 140737488351232) :
    Calls Try.prog 3 #[.agg #[.slice ao n cap], .int .i64 typ, .string name] w fun e w' => e = .returned (.bool true) ∧ Below w.heap.size w w' := walk ao n cap L typ name w h hr hrs

theorem own : ownKnob Try.prog.godebug = none := by kernel_rfl
theorem laidOut : laidOutB Try.prog = true := by kernel_rfl
theorem cellsSchema : Try.prog.cellsOf 24 = 1 := by kernel_rfl

set_option maxRecDepth 100000 in
theorem lifted (os : Os) (started : os.Started) (H : Type) (enc : TypeId × Value → H) :
    ReturnsInHanded {} Try.checked os 3 .any (Rows.eventFindsSpec.pre6 enc Try.prog Try.f3 Rows.eventFindsRow.domain false) (Rows.eventFindsSpec.post enc Try.prog Try.f3 false true false false) := by
  refine returnsInHanded_of_change_sized (C := Try.checked) own started (by kernel_rfl) Try.func3
    (ChangeSpec.witness6 (enc := enc) (C := Try.checked) false ⟨#[], #[.agg #[.slice none 0 0], .int .i64 0, .string ByteArray.empty], []⟩ 8 (by kernel_rfl) (by kernel_rfl) (by kernel_rfl) (by kernel_rfl)) ?_
  intro W base args ds gs before hval0 hW hcnd hsz0 _
  have hsz : (DataW.weightsEach Try.prog (Try.f3.params.toList ++ Rows.eventFindsSpec.plain.varTypes Try.prog) (ds ++ gs)).all (· ≤ reachBytes) = true := hsz0
  have hval : ∀ (j : Nat) t v, Try.f3.params[j]? = some t → args[j]? = some v → Value.okWide Try.prog W .any base t v := hval0
  have hW' := hW
  obtain ⟨p, q, hA0, hV, rfl, hfz, hnd⟩ := hW
  have hA : DataW.TrodAll enc Try.prog W 0 (fun _ => true) true Try.f3.params.toList args.toList ds p := hA0
  rw [Try.params3] at hA hval hsz
  obtain ⟨v0, vs0, d0, ds0, p0, q0, hargs, rfl, rfl, h0, r0⟩ := trodAll_cons hA
  obtain ⟨v1, vs1, d1, ds1, p1, q1, rfl, rfl, rfl, h1, r1⟩ := trodAll_cons r0
  obtain ⟨v2, vs2, d2, ds2, p2, q2, rfl, rfl, rfl, h2, r2⟩ := trodAll_cons r1
  obtain ⟨rfl, rfl, rfl⟩ := trodAll_nil r2
  obtain rfl : args = #[v0, v1, v2] := by cases args; simp_all
  obtain ⟨rfl, rfl⟩ := trodVars_none hV
  have k0 := h0
  have lt0 : ∀ x ∈ p0, x.block < W.heap.size := by obtain ⟨m, hm⟩ := k0; exact DataW.trod_lt m _ _ _ hm
  obtain ⟨ao0, n0, cap0, L0, e0, w0, wr0, ws0⟩ : ∃ ao n cap L, v0 = .agg #[.slice ao n cap] ∧ IsTypes W ao n L ∧ n * 40 ≤ 140737488351232 ∧ ∀ j, (L.getD j noTy).2.length * 16 ≤ 140737488351232 := by
    obtain ⟨fuel, hf⟩ := h0
    obtain ⟨y0, m, e1, hl, g0⟩ := trod_struct1 Try.underlying24 hf
    obtain ⟨cs, hcs, hcz⟩ := okWide_struct Try.underlying24 (hval 0 24 v0 rfl rfl)
    subst hcs
    obtain ⟨c, hc⟩ := Array.size_eq_one_iff.1 (hcz.trans cellsSchema)
    subst hc
    have g0' : DataW.trod enc Try.prog W 0 (fun _ => true) true m 22 [c] = some y0 := g0
    obtain ⟨ao, n, cap, L, e2, e3, e4, e5⟩ := open_types g0' (fun b hb => by
      have h1 := List.all_eq_true.1 hsz b (DataW.weights_mem_each (j := 0) (t := 24) rfl (congrArg some (congrArg Prod.fst e1)) b (by
        simp only [DataW.weights, Try.underlying24, DataW.weightsEach, List.mem_append]
        simp [DataW.weightsEach, hb]))
      simpa using h1)
    subst e2
    exact ⟨ao, n, cap, L, rfl, e3, e4, e5⟩
  subst e0
  have k1 := h1
  have lt1 : ∀ x ∈ p1, x.block < W.heap.size := by obtain ⟨m, hm⟩ := k1; exact DataW.trod_lt m _ _ _ hm
  obtain ⟨a1, e1, _, _, w1⟩ := open_int Try.underlying3 (hval 1 3 v1 rfl rfl) h1
  subst e1
  have k2 := h2
  have lt2 : ∀ x ∈ p2, x.block < W.heap.size := by obtain ⟨m, hm⟩ := k2; exact DataW.trod_lt m _ _ _ hm
  obtain ⟨s2, e2, g2, _, _⟩ := Go.ChangeMaps.open_string Try.underlying9 (hval 2 9 v2 rfl rfl) h2
  subst e2
  have w2 : s2.size ≤ 140737488351232 := by
    have h1 := sized_string hsz (j := 2) (t := 9) rfl (congrArg some g2)
    have h2 : s2.data.toList.length = s2.size := Array.length_toList
    unfold reachBytes at h1
    omega
  clear hA0 hval0
  refine (walk1 ao0 n0 cap0 L0 a1 w1 s2 w2 W w0 wr0 ws0).mono fun e W' ⟨he, bel⟩ => ?_
  subst he
  exact ⟨_, rfl, _, _, _, [], _, [], hW', trodAll_mk1 (shut_bool Try.underlying4 _), (trodAll_cons_mk (Below.trod laidOut (by kernel_rfl) (of_decide_eq_true (by kernel_rfl)) k0 bel lt0) (trodAll_cons_mk (Below.trod laidOut (by kernel_rfl) (of_decide_eq_true (by kernel_rfl)) k1 bel lt1) (trodAll_cons_mk (Below.trod laidOut (by kernel_rfl) (of_decide_eq_true (by kernel_rfl)) k2 bel lt2) trodAll_mk0))), rfl, bel.frame _, fun h => by cases h⟩

theorem over : Rows.eventFindsRow.holds Try.pinned (OpenSpec.ofChange Rows.eventFindsSpec) :=
  OpenClaim.holds_of_wide 3 Try.f3 rfl rfl rfl rfl rfl rfl rfl ⟨rfl, rfl, rfl, rfl, rfl⟩ rfl rfl rfl rfl rfl (by kernel_rfl) Try.func3 (by kernel_rfl)
    (of_decide_eq_true (by kernel_rfl)) (by unfold Func.isWrapper; first | (rw [if_pos (by decide +kernel)]; kernel_rfl) | (rw [if_neg (by decide +kernel)]; exact ⟨rfl, rfl⟩))
    (fun os started H enc _ => lifted os started H enc)

end Go.Proofs.Ytlajjkhcffdcfaa.eventFinds
namespace Go.Proofs.Ytlajjkhcffdcfaa
theorem eventFinds_holds : Rows.EventFindsSaid := eventFinds.over
#print axioms eventFinds_holds
end Go.Proofs.Ytlajjkhcffdcfaa
