/- For every schema, every list of numbers and every note the law EventSpaces returns true: the text of a sound schema with any blanks and comments between its words is read as the schema, or refused for its length alone. The listed variables hold what their texts lay (the card ties that to the text). No other condition. -/
import Derived.Test.YtkpnnofonocilaaDoorSpacesWalk
import Derived.Test.YtkpnnofonocilaaDoorOpenS
import Derived.Test.YtkpnnofonocilaaDoorCards
import Derived.Test.YtkpnnofonocilaaDoorTie
import Derived.OpenShut
import Derived.Carry
import Derived.ChangeMaps5
import Derived.SizedLaws
import Derived.Lib.SmallJoins
import Derived.Deep.DeepHandedRow
import Derived.Lay
namespace Go.Proofs.YtkpnnofonocilaaDoor.eventSpaces
open Go.ChangeShapes Go.WideShapes Go.ChangeAt Go.RowKit Go.BigFrame
set_option linter.unusedVariables false
set_option linter.unusedSimpArgs false

theorem own : ownKnob Tryd.prog.godebug = none := by kernel_rfl
theorem laidOut : laidOutB Tryd.prog = true := by kernel_rfl
theorem cellsSchema : Tryd.prog.cellsOf 24 = 1 := by kernel_rfl

theorem gKw : Tryd.prog.globalNamed "sluice/api.Keywords" = some 0 := by kernel_rfl
theorem tabs {W : World} (h : laidMetH Tryd.prog Rows.eventSpacesRow.laid W) : KwAt W := by
  have h0 : laidMet Tryd.prog Rows.eventSpacesRow.laid W := (Go.MakeChecks.laidMetH_plain _ _ _ (by kernel_rfl)).mp h
  exact kwAt_of (tabS (bss := kwl) gKw (by kernel_rfl) Tryd.underlying126 Tryd.underlying9 (by kernel_rfl) (laidMet_tail (laidMet_tail (laidMet_tail (laidMet_tail (laidMet_tail (laidMet_tail h0)))))))
theorem gEr : Tryd.prog.globalNamed "strconv.ErrRange" = some 3 := by kernel_rfl
theorem tabE {W : World} (h : laidMetH Tryd.prog Rows.eventSpacesRow.laid W) : ErAt W := by
  have h0 : laidMet Tryd.prog Rows.eventSpacesRow.laid W := (Go.MakeChecks.laidMetH_plain _ _ _ (by kernel_rfl)).mp h
  exact ifaceAt gEr (by kernel_rfl) ⟨_, Tryd.underlying108⟩ (laidMet_tail (laidMet_tail (laidMet_tail (laidMet_tail h0))))

set_option maxRecDepth 100000 in
theorem contract (H : Type) (enc : TypeId × Value → H) (W : World) (base : Nat) (args : Array Value) (ds gs : List (DataW H)) (before : List MemPlace)
    (hval : ∀ (j : Nat) t v, Tryd.f5.params[j]? = some t → args[j]? = some v → Value.okWide Tryd.prog W .any base t v)
    (hsz : (DataW.weightsEach Tryd.prog (Tryd.f5.params.toList ++ Rows.eventSpacesSpec.plain.varTypes Tryd.prog) (ds ++ gs)).all (· ≤ reachBytes) = true)
    (hW : DataW.Whole enc Tryd.prog Tryd.f5.params.toList Rows.eventSpacesSpec.vars false W args.toList ds gs before) (hL : laidMetH Tryd.prog Rows.eventSpacesRow.laid W) :
    Calls Tryd.prog 5 args W fun e W' => ∃ v, e = .returned v ∧ Rows.eventSpacesSpec.post enc Tryd.prog Tryd.f5 false true false false W args v W' := by
  have hW' := hW
  obtain ⟨p, q, hA0, hV, rfl, hfz, hnd⟩ := hW
  have hA : DataW.TrodAll enc Tryd.prog W 0 (fun _ => true) true Tryd.f5.params.toList args.toList ds p := hA0
  rw [Tryd.params5] at hA hval hsz
  obtain ⟨v0, vs0, d0, ds0, p0, q0, hargs, rfl, rfl, h0, r0⟩ := trodAll_cons hA
  obtain ⟨v1, vs1, d1, ds1, p1, q1, rfl, rfl, rfl, h1, r1⟩ := trodAll_cons r0
  obtain ⟨v2, vs2, d2, ds2, p2, q2, rfl, rfl, rfl, h2, r2⟩ := trodAll_cons r1
  obtain ⟨rfl, rfl, rfl⟩ := trodAll_nil r2
  obtain rfl : args = #[v0, v1, v2] := by cases args; simp_all
  obtain ⟨rfl, rfl⟩ := trodVars_none hV
  have k0 := h0
  have lt0 : ∀ x ∈ p0, x.block < W.heap.size := by obtain ⟨m, hm⟩ := k0; exact DataW.trod_lt m _ _ _ hm
  obtain ⟨ao0, n0, cap0, L0, e0, wc0, w0, wr0, ws0⟩ : ∃ ao n cap L, v0 = .agg #[.slice ao n cap] ∧ n ≤ cap ∧ IsTypes W ao n L ∧ n * 40 ≤ 140737488351232 ∧ ∀ j, (L.getD j noTy).2.length * 16 ≤ 140737488351232 := by
    obtain ⟨fuel, hf⟩ := h0
    obtain ⟨y0, m, e1, hl, g0⟩ := trod_struct1 Tryd.underlying24 hf
    obtain ⟨cs, hcs, hcz⟩ := okWide_struct Tryd.underlying24 (hval 0 24 v0 rfl rfl)
    subst hcs
    obtain ⟨c, hc⟩ := Array.size_eq_one_iff.1 (hcz.trans cellsSchema)
    subst hc
    have g0' : DataW.trod enc Tryd.prog W 0 (fun _ => true) true m 22 [c] = some y0 := g0
    obtain ⟨ao, n, cap, L, e2, e6, e3, e4, e5⟩ := open_types g0' (fun b hb => by
      have h1 := List.all_eq_true.1 hsz b (DataW.weights_mem_each (j := 0) (t := 24) rfl (congrArg some (congrArg Prod.fst e1)) b (by
        simp only [DataW.weights, Tryd.underlying24, DataW.weightsEach, List.mem_append]
        simp [DataW.weightsEach, hb]))
      simpa using h1)
    subst e2
    exact ⟨ao, n, cap, L, rfl, e6, e3, e4, e5⟩
  subst e0
  have k1 := h1
  have lt1 : ∀ x ∈ p1, x.block < W.heap.size := by obtain ⟨m, hm⟩ := k1; exact DataW.trod_lt m _ _ _ hm
  obtain ⟨ao1, cap1, zs1, e1, wc1, w1, wr1⟩ : ∃ ao cap zs, v1 = .slice ao zs.length cap ∧ zs.length ≤ cap ∧ IsInts W ao zs ∧ zs.length * 8 ≤ 140737488351232 := by
    obtain ⟨a, len, cap, e⟩ := okWide_slice Tryd.underlying37 (hval 1 37 v1 rfl rfl)
    subst e
    obtain ⟨fuel, hf⟩ := h1
    have hf' : DataW.trod enc Tryd.prog W 0 (fun _ => true) true fuel 37 [.slice a len cap] = some (d1, p1) := hf
    exact open_gaps hf' (fun b hb => by
      have h1 := List.all_eq_true.1 hsz b (DataW.weights_mem_each (j := 1) (t := 37) rfl rfl b hb)
      simpa using h1)
  subst e1
  have k2 := h2
  have lt2 : ∀ x ∈ p2, x.block < W.heap.size := by obtain ⟨m, hm⟩ := k2; exact DataW.trod_lt m _ _ _ hm
  obtain ⟨s2, e2, g2, _, _⟩ := Go.ChangeMaps.open_string Tryd.underlying9 (hval 2 9 v2 rfl rfl) h2
  subst e2
  have w2 : s2.size ≤ 140737488351232 := by
    have h1 := sized_string hsz (j := 2) (t := 9) rfl (congrArg some g2)
    have h2 : s2.data.toList.length = s2.size := Array.length_toList
    unfold reachBytes at h1
    omega
  clear hA0
  refine (walk ao0 n0 cap0 L0 wc0 ao1 cap1 zs1 s2 w2 W (tabs hL) (tabE hL) w0 wr0 ws0 wc1 w1 wr1).mono fun e W' ⟨he, bel⟩ => ?_
  subst he
  exact ⟨_, rfl, _, _, _, [], _, [], hW', trodAll_mk1 (shut_bool Tryd.underlying4 _), (trodAll_cons_mk (Below.trod laidOut (by kernel_rfl) (of_decide_eq_true (by kernel_rfl)) k0 bel lt0) (trodAll_cons_mk (Below.trod laidOut (by kernel_rfl) (of_decide_eq_true (by kernel_rfl)) k1 bel lt1) (trodAll_cons_mk (Below.trod laidOut (by kernel_rfl) (of_decide_eq_true (by kernel_rfl)) k2 bel lt2) trodAll_mk0))), rfl, bel.frame _, fun h => by cases h⟩

/-- For the world of the witness: the settled one, the tables holding what their text lays. -/
def put (c : Array Value) : Obj → Obj
  | .cells _ t frozen => .cells c t frozen
  | x => x
theorem laid_met (os : Os) : laidMet Tryd.prog Rows.eventSpacesRow.laid ((World.laidAll Tryd.prog os Rows.eventSpacesRow.laid).forCall (fun _ _ => 0) ⟨#[], #[.agg #[.slice none 0 0], .slice none 0 0, .string ByteArray.empty], []⟩).memory :=
  laidMet_laidAll _ (by kernel_rfl) (by kernel_rfl)
theorem reads (os : Os) {H : Type} (enc : TypeId × Value → H) : ∃ places, DataW.whole enc Tryd.prog ((World.laidAll Tryd.prog os Rows.eventSpacesRow.laid).forCall (fun _ _ => 0) ⟨#[], #[.agg #[.slice none 0 0], .slice none 0 0, .string ByteArray.empty], []⟩).memory Tryd.f5.params.toList Rows.eventSpacesSpec.vars false (#[.agg #[.slice none 0 0], .slice none 0 0, .string ByteArray.empty] : Array Value).toList 8 = some ([.agg [.nil], .nil, .lit (.string [])], [], places) :=
  ⟨[], by kernel_rfl⟩

set_option maxRecDepth 100000 in
theorem lifted (os : Os) (started : os.Started) (H : Type) (enc : TypeId × Value → H) (F : Stop.Interp) :
    ReturnsInHanded {} Tryd.checked os 5 .any ((OpenSpec.ofChange Rows.eventSpacesSpec).preRow enc Tryd.prog Tryd.f5 Rows.eventSpacesRow.domain false Rows.eventSpacesRow.laid) (((OpenSpec.ofChange Rows.eventSpacesSpec).at F).post enc Tryd.prog Tryd.f5 false true false false) := by
  obtain ⟨places, hx⟩ := reads os enc
  refine returnsInHanded_of_row (C := Tryd.checked) (s := OpenSpec.ofChange Rows.eventSpacesSpec) own started (by kernel_rfl) Tryd.func5
    ⟨(World.laidAll Tryd.prog os Rows.eventSpacesRow.laid), fun _ _ => 0, ⟨#[], #[.agg #[.slice none 0 0], .slice none 0 0, .string ByteArray.empty], []⟩, World.laidAll_os _ _ _, World.shaped_of_ZipB (by kernel_rfl) (by kernel_rfl), rfl, (Input.okWide_of_okWideB (show Input.okWideB Tryd.prog ((World.laidAll Tryd.prog os Rows.eventSpacesRow.laid).forCall (fun _ _ => 0) ⟨#[], #[.agg #[.slice none 0 0], .slice none 0 0, .string ByteArray.empty], []⟩) 5 ⟨#[], #[.agg #[.slice none 0 0], .slice none 0 0, .string ByteArray.empty], []⟩ = true by kernel_rfl)).2,
      OpenSpec.preRow_of_cond 8 hx (by kernel_rfl) (fun k hk => by cases hk) (by kernel_rfl) (laid_met os),
      by simp only [Assume.holds]; exact ⟨by simp, by simp, by simp, by simp, by simp⟩⟩ ?_
  intro W base args ds gs before hval hW _ _ hsz hL _ _
  exact contract H enc W base args ds gs before hval hsz hW hL

theorem said : Rows.EventSpacesSaid :=
  OpenClaim.holds_of_cond 5 Tryd.f5 rfl rfl rfl rfl rfl rfl rfl ⟨rfl, rfl, rfl, rfl, rfl⟩ rfl rfl rfl rfl rfl (by kernel_rfl) Tryd.func5 (by kernel_rfl)
    (of_decide_eq_true (by kernel_rfl)) (by unfold Func.isWrapper; first | (rw [if_pos (by decide +kernel)]; kernel_rfl) | (rw [if_neg (by decide +kernel)]; exact ⟨rfl, rfl⟩))
    (fun os started H enc _ F => by rw [OpenClaim.pre_eq_preRow]; exact lifted os started H enc F)

theorem plain (f : FuncId) (fn : Func) (hf : Tryd.pinned.checked.prog.funcNamed "sluice/sluicelaw2.EventSpaces" = some f) (hfn : Tryd.pinned.checked.prog.funcs[f]? = some fn) :
    true = Tryd.pinned.checked.prog.looks [] ∧ ∀ (j : Nat) t, fn.params[j]? = some t → Tryd.pinned.checked.prog.wantsStandIn t = false := by
  obtain rfl : f = 5 := Option.some.inj ((show Tryd.prog.funcNamed "sluice/sluicelaw2.EventSpaces" = some 5 by kernel_rfl).symm.trans hf) |>.symm
  obtain rfl : fn = Tryd.f5 := (Option.some.inj (Tryd.func5.symm.trans hfn)).symm
  refine ⟨by kernel_rfl, fun j t ht => ?_⟩
  rw [Tryd.params5] at ht
  have hm : t = 24 ∨ t = 37 ∨ t = 9 := by simpa using Array.mem_of_getElem? ht
  rcases hm with rfl | rfl | rfl
  · exact (show Tryd.prog.wantsStandIn 24 = false by kernel_rfl)
  · exact (show Tryd.prog.wantsStandIn 37 = false by kernel_rfl)
  · exact (show Tryd.prog.wantsStandIn 9 = false by kernel_rfl)

end Go.Proofs.YtkpnnofonocilaaDoor.eventSpaces
namespace Go.Proofs.YtkpnnofonocilaaDoor
theorem eventSpaces_holds : Rows.EventSpacesCardSaid :=
  Claim7.holds_tied_plain_at .later [] _ _ _ _ eventSpaces.said (fun _ h => by cases h) (by kernel_rfl) (fun _ h => by cases h) eventSpaces_row_tie rfl ⟨rfl, rfl⟩ (by kernel_rfl) rfl eventSpaces.plain (by kernel_rfl)
#print axioms eventSpaces_holds
end Go.Proofs.YtkpnnofonocilaaDoor
