/- For every condition and all lists of events the law CodeEvery returns true. num's tables and the operands' hold what their texts lay (the card ties that to the text). No other condition. -/
import Derived.Test.YtjeffmfnaihhjaaDoorCew
import Derived.Test.YtjeffmfnaihhjaaDoorOpenP3
import Derived.Test.YtjeffmfnaihhjaaDoorDoorTab
import Derived.Test.YtjeffmfnaihhjaaDoorCards
import Derived.Test.YtjeffmfnaihhjaaDoorTie
import Derived.OpenShut
import Derived.Carry
import Derived.ChangeMaps5
import Derived.SizedLaws
import Derived.Lib.SmallJoins
import Derived.Deep.DeepHandedRow
import Derived.Lay
namespace Go.Proofs.YtjeffmfnaihhjaaDoor.codeEvery
open Go.ChangeShapes Go.WideShapes Go.ChangeAt Go.RowKit Go.BigFrame
set_option linter.unusedVariables false
set_option linter.unusedSimpArgs false

theorem walk (p : Prg) (ai : Option Addr) (ci : Nat) (ac : Option Addr) (cc : Nat) (each : Int) (prev : Bool) (al : Option Addr) (cl : Nat) (l : List (List Ev)) (W : World) (T : Tabs W) (TN : TabN W) (O : OpAt W) (IP : IsPr W p ai ci ac cc) (hp : p.ok) (hf : fitsB each = true) (S : Sl al l.length cl) (N : Nst W al evC l) (hEn : l.length * 24 ≤ 140737488351232) (hEl : ∀ k, (l.getD k []).length * 88 ≤ 140737488351232 ∧ evsOk (l.getD k [])) :
    Calls Tryd.prog 4 #[cndA p ai ci ac cc each prev, .slice al l.length cl] W fun e w' => e = .returned (.bool true) ∧ Below W.heap.size W w' :=
  codeEvery_walk p hp each hf prev l (fun hb e a he ha => ⟨hEn, fun k => (hEl k).1, fun k => (hEl k).2, he, ha, hb⟩) hEn (fun k => (hEl k).1) ai ci ac cc al cl W IP N S ⟨T, TN, O⟩

theorem own : ownKnob Tryd.prog.godebug = none := by kernel_rfl
theorem laidOut : laidOutB Tryd.prog = true := by kernel_rfl

theorem gAnd : Tryd.prog.globalNamed "sluice/num.andTable" = some 2 := by kernel_rfl
theorem gOr : Tryd.prog.globalNamed "sluice/num.orTable" = some 3 := by kernel_rfl
theorem gNot : Tryd.prog.globalNamed "sluice/num.notTable" = some 1 := by kernel_rfl
theorem tabs {W : World} (h : laidMetH Tryd.prog Rows.codeEveryRow.laid W) : Tabs W := by
  have h0 : laidMet Tryd.prog Rows.codeEveryRow.laid W := h
  have h1 := laidMet_tail h0
  have ca := tab33 (z := fun i j => minI i j) gAnd (by kernel_rfl) Tryd.underlying91 Tryd.underlying77 Tryd.underlying76 (by kernel_rfl) (by kernel_rfl) (by kernel_rfl) h0
  have co := tab33 (z := fun i j => maxI i j) gOr (by kernel_rfl) Tryd.underlying91 Tryd.underlying77 Tryd.underlying76 (by kernel_rfl) (by kernel_rfl) (by kernel_rfl) h1
  exact ⟨block_of (co 0 0 (by omega) (by omega)), ca, co⟩
theorem tabN {W : World} (h : laidMetH Tryd.prog Rows.codeEveryRow.laid W) : TabN W := by
  have h0 : laidMet Tryd.prog Rows.codeEveryRow.laid W := h
  have h2 := laidMet_tail (laidMet_tail h0)
  have cn := tab3 (z := fun i => notI i) gNot (by kernel_rfl) Tryd.underlying77 Tryd.underlying76 (by kernel_rfl) (by kernel_rfl) h2
  exact ⟨block_of (cn 0 (by omega)), fun i hi => (cn i hi).trans (by rw [notI_eq i hi])⟩
theorem tabO {W : World} (h : laidMetH Tryd.prog Rows.codeEveryRow.laid W) : OpAt W := by
  have h0 : laidMet Tryd.prog Rows.codeEveryRow.laid W := h
  exact opAt_of (laidMet_tail (laidMet_tail (laidMet_tail h0)))

set_option maxRecDepth 100000 in
theorem contract (H : Type) (enc : TypeId × Value → H) (W : World) (base : Nat) (args : Array Value) (ds gs : List (DataW H)) (before : List MemPlace)
    (hval : ∀ (j : Nat) t v, Tryd.f4.params[j]? = some t → args[j]? = some v → Value.okWide Tryd.prog W .any base t v)
    (hsz : (DataW.weightsEach Tryd.prog (Tryd.f4.params.toList ++ Rows.codeEverySpec.plain.varTypes Tryd.prog) (ds ++ gs)).all (· ≤ reachBytes) = true)
    (hW : DataW.Whole enc Tryd.prog Tryd.f4.params.toList Rows.codeEverySpec.vars false W args.toList ds gs before) (hL : laidMetH Tryd.prog Rows.codeEveryRow.laid W) :
    Calls Tryd.prog 4 args W fun e W' => ∃ v, e = .returned v ∧ Rows.codeEverySpec.post enc Tryd.prog Tryd.f4 false true false false W args v W' := by
  have hW' := hW
  obtain ⟨p, q, hA0, hV, rfl, hfz, hnd⟩ := hW
  have hA : DataW.TrodAll enc Tryd.prog W 0 (fun _ => true) true Tryd.f4.params.toList args.toList ds p := hA0
  rw [Tryd.params4] at hA hval hsz
  obtain ⟨v0, vs0, d0, ds0, p0, q0, hargs, rfl, rfl, h0, r0⟩ := trodAll_cons hA
  obtain ⟨v1, vs1, d1, ds1, p1, q1, rfl, rfl, rfl, h1, r1⟩ := trodAll_cons r0
  obtain ⟨rfl, rfl, rfl⟩ := trodAll_nil r1
  obtain rfl : args = #[v0, v1] := by cases args; simp_all
  obtain ⟨rfl, rfl⟩ := trodVars_none hV
  have k0 := h0
  have lt0 : ∀ x ∈ p0, x.block < W.heap.size := by obtain ⟨m, hm⟩ := k0; exact DataW.trod_lt m _ _ _ hm
  obtain ⟨p0, ai0, ci0, ac0, cc0, each0, prev0, e0, w0, wa0, wb0⟩ : ∃ p ai ci ac cc each prev, v0 = cndA p ai ci ac cc each prev ∧ IsPr W p ai ci ac cc ∧ p.ok ∧ fitsB each = true := by
    obtain ⟨cs, hcs, hcz⟩ := okWide_struct Tryd.underlying45 (hval 0 45 v0 rfl rfl)
    subst hcs
    obtain ⟨fuel, hf⟩ := h0
    have hf' : DataW.trod enc Tryd.prog W 0 (fun _ => true) true fuel 45 cs.toList = some (d0, p0) := hf
    exact open_cond (hcz.trans cellsCn) hf' (fun b hb => by
      have h1 := List.all_eq_true.1 hsz b (DataW.weights_mem_each (j := 0) (t := 45) rfl rfl b hb)
      simpa using h1)
  subst e0
  have k1 := h1
  have lt1 : ∀ x ∈ p1, x.block < W.heap.size := by obtain ⟨m, hm⟩ := k1; exact DataW.trod_lt m _ _ _ hm
  obtain ⟨ao1, cap1, ls1, e1, wc1, w1, wr1, ws1⟩ : ∃ ao cap l, v1 = .slice ao (l : List (List Ev)).length cap ∧ Sl ao l.length cap ∧ Nst W ao evC l ∧ l.length * 24 ≤ 140737488351232 ∧ ∀ k, (l.getD k []).length * 88 ≤ 140737488351232 ∧ evsOk (l.getD k []) := by
    obtain ⟨a, len, cap, e⟩ := okWide_slice Tryd.underlying26 (hval 1 26 v1 rfl rfl)
    subst e
    obtain ⟨fuel, hf⟩ := h1
    have hf' : DataW.trod enc Tryd.prog W 0 (fun _ => true) true fuel 26 [.slice a len cap] = some (d1, p1) := hf
    exact open_lists7 hf' (fun b hb => by
      have h1 := List.all_eq_true.1 hsz b (DataW.weights_mem_each (j := 1) (t := 26) rfl rfl b hb)
      simpa using h1)
  subst e1
  clear hA0
  refine (walk p0 ai0 ci0 ac0 cc0 each0 prev0 ao1 cap1 ls1 W (tabs hL) (tabN hL) (tabO hL) w0 wa0 wb0 wc1 w1 wr1 ws1).mono fun e W' ⟨he, bel⟩ => ?_
  subst he
  exact ⟨_, rfl, _, _, _, [], _, [], hW', trodAll_mk1 (shut_bool Tryd.underlying4 _), (trodAll_cons_mk (Below.trod laidOut (by kernel_rfl) (of_decide_eq_true (by kernel_rfl)) k0 bel lt0) (trodAll_cons_mk (Below.trod laidOut (by kernel_rfl) (of_decide_eq_true (by kernel_rfl)) k1 bel lt1) trodAll_mk0)), rfl, bel.frame _, fun h => by cases h⟩

/-- For the world of the witness: the settled one, the tables holding what their text lays. -/
def put (c : Array Value) : Obj → Obj
  | .cells _ t frozen => .cells c t frozen
  | x => x
theorem laid_met (os : Os) : laidMet Tryd.prog Rows.codeEveryRow.laid ((World.laidAll Tryd.prog os Rows.codeEveryRow.laid).forCall (fun _ _ => 0) ⟨#[], #[.agg #[.slice none 0 0, .slice none 0 0, .int .i64 0, .bool false], .slice none 0 0], []⟩).memory :=
  laidMet_laidAll _ (by kernel_rfl) (by kernel_rfl)
theorem reads (os : Os) {H : Type} (enc : TypeId × Value → H) : ∃ places, DataW.whole enc Tryd.prog ((World.laidAll Tryd.prog os Rows.codeEveryRow.laid).forCall (fun _ _ => 0) ⟨#[], #[.agg #[.slice none 0 0, .slice none 0 0, .int .i64 0, .bool false], .slice none 0 0], []⟩).memory Tryd.f4.params.toList Rows.codeEverySpec.vars false (#[.agg #[.slice none 0 0, .slice none 0 0, .int .i64 0, .bool false], .slice none 0 0] : Array Value).toList 8 = some ([.agg [.agg [.nil, .nil], .lit (.int .i64 0), .lit (.bool false)], .nil], [], places) :=
  ⟨[], by kernel_rfl⟩

set_option maxRecDepth 100000 in
theorem lifted (os : Os) (started : os.Started) (H : Type) (enc : TypeId × Value → H) (F : Stop.Interp) :
    ReturnsInHanded {} Tryd.checked os 4 .any ((OpenSpec.ofChange Rows.codeEverySpec).preRow enc Tryd.prog Tryd.f4 Rows.codeEveryRow.domain false Rows.codeEveryRow.laid) (((OpenSpec.ofChange Rows.codeEverySpec).at F).post enc Tryd.prog Tryd.f4 false true false false) := by
  obtain ⟨places, hx⟩ := reads os enc
  refine returnsInHanded_of_row (C := Tryd.checked) (s := OpenSpec.ofChange Rows.codeEverySpec) own started (by kernel_rfl) Tryd.func4
    ⟨(World.laidAll Tryd.prog os Rows.codeEveryRow.laid), fun _ _ => 0, ⟨#[], #[.agg #[.slice none 0 0, .slice none 0 0, .int .i64 0, .bool false], .slice none 0 0], []⟩, World.laidAll_os _ _ _, World.shaped_of_ZipB (by kernel_rfl) (by kernel_rfl), rfl, (Input.okWide_of_okWideB (show Input.okWideB Tryd.prog ((World.laidAll Tryd.prog os Rows.codeEveryRow.laid).forCall (fun _ _ => 0) ⟨#[], #[.agg #[.slice none 0 0, .slice none 0 0, .int .i64 0, .bool false], .slice none 0 0], []⟩) 4 ⟨#[], #[.agg #[.slice none 0 0, .slice none 0 0, .int .i64 0, .bool false], .slice none 0 0], []⟩ = true by kernel_rfl)).2,
      OpenSpec.preRow_of_cond 8 hx (by kernel_rfl) (fun k hk => by cases hk) (by kernel_rfl) (laid_met os),
      by simp only [Assume.holds]; exact ⟨by simp, by simp, by simp, by simp, by simp⟩⟩ ?_
  intro W base args ds gs before hval hW _ _ hsz hL _ _
  exact contract H enc W base args ds gs before hval hsz hW hL

theorem said : Rows.CodeEverySaid :=
  OpenClaim.holds_of_cond 4 Tryd.f4 rfl rfl rfl rfl rfl rfl rfl ⟨rfl, rfl, rfl, rfl, rfl⟩ rfl rfl rfl rfl rfl (by kernel_rfl) Tryd.func4 (by kernel_rfl)
    (of_decide_eq_true (by kernel_rfl)) (by unfold Func.isWrapper; first | (rw [if_pos (by decide +kernel)]; kernel_rfl) | (rw [if_neg (by decide +kernel)]; exact ⟨rfl, rfl⟩))
    (fun os started H enc _ F => by rw [OpenClaim.pre_eq_preRow]; exact lifted os started H enc F)

theorem plain (f : FuncId) (fn : Func) (hf : Tryd.pinned.checked.prog.funcNamed "sluice/sluicelaw7.CodeEvery" = some f) (hfn : Tryd.pinned.checked.prog.funcs[f]? = some fn) :
    false = Tryd.pinned.checked.prog.looks [] ∧ ∀ (j : Nat) t, fn.params[j]? = some t → Tryd.pinned.checked.prog.wantsStandIn t = false := by
  obtain rfl : f = 4 := Option.some.inj ((show Tryd.prog.funcNamed "sluice/sluicelaw7.CodeEvery" = some 4 by kernel_rfl).symm.trans hf) |>.symm
  obtain rfl : fn = Tryd.f4 := (Option.some.inj (Tryd.func4.symm.trans hfn)).symm
  refine ⟨by kernel_rfl, fun j t ht => ?_⟩
  rw [Tryd.params4] at ht
  have hm : t = 45 ∨ t = 26 := by simpa using Array.mem_of_getElem? ht
  rcases hm with rfl | rfl
  · exact (show Tryd.prog.wantsStandIn 45 = false by kernel_rfl)
  · exact (show Tryd.prog.wantsStandIn 26 = false by kernel_rfl)

end Go.Proofs.YtjeffmfnaihhjaaDoor.codeEvery
namespace Go.Proofs.YtjeffmfnaihhjaaDoor
theorem codeEvery_holds : Rows.CodeEveryCardSaid :=
  Claim7.holds_tied_plain_at .later [] _ _ _ _ codeEvery.said (fun _ h => by cases h) (by kernel_rfl) (fun _ h => by cases h) codeEvery_row_tie rfl ⟨rfl, rfl⟩ (by kernel_rfl) rfl codeEvery.plain (by kernel_rfl)
#print axioms codeEvery_holds
end Go.Proofs.YtjeffmfnaihhjaaDoor
