/- For every operator number (or what is none) and every two values, known or not, the law NumApplies returns true where num's tables hold what their text lays (the card ties that to the text): num's Compare and Apply are the document's. No other condition. -/
import Derived.Test.YtcjldhnjcmhfhacDoorApply
import Derived.Test.YtcjldhnjcmhfhacDoorDoorTab
import Derived.Test.YtcjldhnjcmhfhacDoorExt
import Derived.Test.YtcjldhnjcmhfhacDoorCards
import Derived.Test.YtcjldhnjcmhfhacDoorTie
import Derived.Lib.SmallJoins
import Derived.Deep.DeepHandedRow
import Derived.Deep.CutRange
import Derived.OpenShut
import Derived.Carry
namespace Go.Proofs.YtcjldhnjcmhfhacDoor.numApplies
open Go.ChangeShapes Go.WideShapes Go.ChangeAt Go.RowKit Go.BigFrame
set_option linter.unusedVariables false

set_option maxRecDepth 20000 in
set_option maxHeartbeats 4000000 in
theorem walk (op : Int) (w2 : (Lit.int .i64 op).wf = true) (ka : Bool) (a : Int) (w0 : (Lit.int .i64 a).wf = true) (kb : Bool) (b : Int) (w1 : (Lit.int .i64 b).wf = true) (w : World) (T : Tabs w) :
    Calls Tryd.prog 3 #[.int .i64 op, .agg #[.bool ka, .int .i64 a], .agg #[.bool kb, .int .i64 b]] w fun e w' => e = .returned (.bool true) ∧ Below w.heap.size w w' := by
  have b0 : fitsB a = true := fits_wf w0
  have b1 : fitsB b = true := fits_wf w1
  clear w0 w1 w2
  obtain ⟨kt, nt, ct, dt⟩ := compare_both op ka kb a b
  obtain ⟨kv, nv, cv, dv⟩ := apply_both op ka kb a b b0 b1
  clear b0 b1
  go_enter Tryd.func3, Tryd.ntmps3
  go_upto_region 1 with fail
  have B := (galloc (galloc (Below.refl w.heap.size w) (.cells #[.bool ka, .int .i64 a] 23)) (.cells #[.bool kb, .int .i64 b] 23))
  have ra0 : ((w.alloc (.cells #[.bool ka, .int .i64 a] 23)).alloc (.cells #[.bool kb, .int .i64 b] 23)).cell? ⟨w.heap.size, 0, none⟩ = some (.bool ka) := by go_simp
  have ra1 : ((w.alloc (.cells #[.bool ka, .int .i64 a] 23)).alloc (.cells #[.bool kb, .int .i64 b] 23)).cell? ⟨w.heap.size, 1, none⟩ = some (.int .i64 a) := by go_simp
  have sa : w.heap.size < ((w.alloc (.cells #[.bool ka, .int .i64 a] 23)).alloc (.cells #[.bool kb, .int .i64 b] 23)).heap.size := by first | (simp; done) | (simp; omega)
  have rb0 : ((w.alloc (.cells #[.bool ka, .int .i64 a] 23)).alloc (.cells #[.bool kb, .int .i64 b] 23)).cell? ⟨w.heap.size + 1, 0, none⟩ = some (.bool kb) := by go_simp
  have rb1 : ((w.alloc (.cells #[.bool ka, .int .i64 a] 23)).alloc (.cells #[.bool kb, .int .i64 b] 23)).cell? ⟨w.heap.size + 1, 1, none⟩ = some (.int .i64 b) := by go_simp
  have sb : w.heap.size + 1 < ((w.alloc (.cells #[.bool ka, .int .i64 a] 23)).alloc (.cells #[.bool kb, .int .i64 b] 23)).heap.size := by first | (simp; done) | (simp; omega)
  generalize ((w.alloc (.cells #[.bool ka, .int .i64 a] 23)).alloc (.cells #[.bool kb, .int .i64 b] 23)) = V0 at *
  have G := Below.refl V0.heap.size V0
  go_upto_region 2 with (first | (go_at_call 6; refine (ct _).mono ?_; rintro e u0 ⟨rfl, g⟩; replace G := gtrans G g; obtain ⟨hc, hf⟩ := bcell G))
  replace ra0 := kold G (.cells #[.bool kt, .int .i64 nt] 23) sa ra0
  replace ra1 := kold G (.cells #[.bool kt, .int .i64 nt] 23) sa ra1
  replace sa := ksize G (.cells #[.bool kt, .int .i64 nt] 23) sa
  replace rb0 := kold G (.cells #[.bool kt, .int .i64 nt] 23) sb rb0
  replace rb1 := kold G (.cells #[.bool kt, .int .i64 nt] 23) sb rb1
  replace sb := ksize G (.cells #[.bool kt, .int .i64 nt] 23) sb
  replace B := galloc (gtrans B G) (.cells #[.bool kt, .int .i64 nt] 23)
  have rt0 := knew u0 #[.bool kt, .int .i64 nt] 23 0 _ rfl
  have rt1 := knew u0 #[.bool kt, .int .i64 nt] 23 1 _ rfl
  have st := ksnew u0 (.cells #[.bool kt, .int .i64 nt] 23)
  clear G
  generalize (u0.alloc (.cells #[.bool kt, .int .i64 nt] 23)) = V1 at *
  have G := Below.refl V1.heap.size V1
  go_upto_region 3 with (first | (go_at_call 7; refine (cv _ (T.keep (gtrans B G))).mono ?_; rintro e u1 ⟨rfl, g⟩; replace G := gtrans G g; obtain ⟨hc, hf⟩ := bcell G))
  replace ra0 := kold G (.cells #[.bool kv, .int .i64 nv] 23) sa ra0
  replace ra1 := kold G (.cells #[.bool kv, .int .i64 nv] 23) sa ra1
  replace sa := ksize G (.cells #[.bool kv, .int .i64 nv] 23) sa
  replace rb0 := kold G (.cells #[.bool kv, .int .i64 nv] 23) sb rb0
  replace rb1 := kold G (.cells #[.bool kv, .int .i64 nv] 23) sb rb1
  replace sb := ksize G (.cells #[.bool kv, .int .i64 nv] 23) sb
  replace rt0 := kold G (.cells #[.bool kv, .int .i64 nv] 23) st rt0
  replace rt1 := kold G (.cells #[.bool kv, .int .i64 nv] 23) st rt1
  replace st := ksize G (.cells #[.bool kv, .int .i64 nv] 23) st
  replace B := galloc (gtrans B G) (.cells #[.bool kv, .int .i64 nv] 23)
  have rv0 := knew u1 #[.bool kv, .int .i64 nv] 23 0 _ rfl
  have rv1 := knew u1 #[.bool kv, .int .i64 nv] 23 1 _ rfl
  have sv := ksnew u1 (.cells #[.bool kv, .int .i64 nv] 23)
  clear G
  generalize (u1.alloc (.cells #[.bool kv, .int .i64 nv] 23)) = V2 at *
  have G := Below.refl V2.heap.size V2
  have xa0 := fun (n : Ext V2) => (n.cell _ _ sa).trans ra0
  have xa1 := fun (n : Ext V2) => (n.cell _ _ sa).trans ra1
  have xb0 := fun (n : Ext V2) => (n.cell _ _ sb).trans rb0
  have xb1 := fun (n : Ext V2) => (n.cell _ _ sb).trans rb1
  have xt0 := fun (n : Ext V2) => (n.cell _ _ st).trans rt0
  have xt1 := fun (n : Ext V2) => (n.cell _ _ st).trans rt1
  have xv0 := fun (n : Ext V2) => (n.cell _ _ sv).trans rv0
  have xv1 := fun (n : Ext V2) => (n.cell _ _ sv).trans rv1
  have hne : Nonempty (Ext V2) := ⟨⟨_, Below.refl _ _⟩⟩
  refine wp_region_ext (by kernel_rfl) (by kernel_rfl) ?_
  repeat (go_big_quiet_step (first | (go_at_call 8; exact ext_of (dt _)) | (go_at_call 9; exact ext_of (dv _))))
  refine wpQuiet_nil ?_
  intro _ hw'
  obtain ⟨nxw, hw''⟩ := hw'
  subst hw''
  go_wp2
  go_ret
  exact ⟨rfl, gtrans B nxw.h⟩

theorem own : ownKnob Tryd.prog.godebug = none := by kernel_rfl
theorem laidOut : laidOutB Tryd.prog = true := by kernel_rfl
theorem cellsV : Tryd.prog.cellsOf 23 = 2 := by kernel_rfl

theorem gAnd : Tryd.prog.globalNamed "sluice/num.andTable" = some 1 := by kernel_rfl
theorem gOr : Tryd.prog.globalNamed "sluice/num.orTable" = some 2 := by kernel_rfl
theorem tabs {W : World} (h : laidMetH Tryd.prog Rows.numAppliesRow.laid W) : Tabs W := by
  have h0 : laidMet Tryd.prog Rows.numAppliesRow.laid W := h
  have h1 := laidMet_tail h0
  have ca := tab33 (z := fun i j => minI i j) gAnd (by kernel_rfl) Tryd.underlying64 Tryd.underlying63 Tryd.underlying36 (by kernel_rfl) (by kernel_rfl) (by kernel_rfl) h0
  have co := tab33 (z := fun i j => maxI i j) gOr (by kernel_rfl) Tryd.underlying64 Tryd.underlying63 Tryd.underlying36 (by kernel_rfl) (by kernel_rfl) (by kernel_rfl) h1
  exact ⟨block_of (co 0 0 (by omega) (by omega)), ca, co⟩

set_option maxRecDepth 100000 in
theorem contract (H : Type) (enc : TypeId × Value → H) (W : World) (base : Nat) (args : Array Value) (ds gs : List (DataW H)) (before : List MemPlace)
    (hval : ∀ (j : Nat) t v, Tryd.f3.params[j]? = some t → args[j]? = some v → Value.okWide Tryd.prog W .any base t v)
    (hW : DataW.Whole enc Tryd.prog Tryd.f3.params.toList Rows.numAppliesSpec.vars false W args.toList ds gs before) (hL : laidMetH Tryd.prog Rows.numAppliesRow.laid W) :
    Calls Tryd.prog 3 args W fun e W' => ∃ v, e = .returned v ∧ Rows.numAppliesSpec.post enc Tryd.prog Tryd.f3 false true false false W args v W' := by
  have hW' := hW
  obtain ⟨p, q, hA0, hV, rfl, hfz, hnd⟩ := hW
  have hA : DataW.TrodAll enc Tryd.prog W 0 (fun _ => true) true Tryd.f3.params.toList args.toList ds p := hA0
  rw [Tryd.params3] at hA hval
  obtain ⟨v0, vs0, d0, ds0, p0, q0, hargs, rfl, rfl, h0, r0⟩ := trodAll_cons hA
  obtain ⟨v1, vs1, d1, ds1, p1, q1, rfl, rfl, rfl, h1, r1⟩ := trodAll_cons r0
  obtain ⟨v2, vs2, d2, ds2, p2, q2, rfl, rfl, rfl, h2, r2⟩ := trodAll_cons r1
  obtain ⟨rfl, rfl, rfl⟩ := trodAll_nil r2
  obtain rfl : args = #[v0, v1, v2] := by cases args; simp_all
  obtain ⟨rfl, rfl⟩ := trodVars_none hV
  have k0 := h0
  have lt0 : ∀ x ∈ p0, x.block < W.heap.size := by obtain ⟨m, hm⟩ := k0; exact DataW.trod_lt m _ _ _ hm
  obtain ⟨a0, e0, _, _, w0⟩ := open_int Tryd.underlying3 (hval 0 3 v0 rfl rfl) h0
  subst e0
  have k1 := h1
  have lt1 : ∀ x ∈ p1, x.block < W.heap.size := by obtain ⟨m, hm⟩ := k1; exact DataW.trod_lt m _ _ _ hm
  obtain ⟨c1, n1, y1, z1, m1, e1, _, _, hy1, hz1⟩ := Joins.open_agg2 Tryd.underlying23 (by kernel_rfl) cellsV (hval 1 23 v1 rfl rfl) h1
  subst e1
  obtain ⟨ka1, f1, _⟩ := DataW.trod_bool Tryd.underlying4 hy1
  obtain ⟨a1, g1, _, w1⟩ := DataW.trod_int Tryd.underlying2 hz1
  simp only [List.cons.injEq, and_true] at f1 g1
  subst f1; subst g1
  have k2 := h2
  have lt2 : ∀ x ∈ p2, x.block < W.heap.size := by obtain ⟨m, hm⟩ := k2; exact DataW.trod_lt m _ _ _ hm
  obtain ⟨c2, n2, y2, z2, m2, e2, _, _, hy2, hz2⟩ := Joins.open_agg2 Tryd.underlying23 (by kernel_rfl) cellsV (hval 2 23 v2 rfl rfl) h2
  subst e2
  obtain ⟨ka2, f2, _⟩ := DataW.trod_bool Tryd.underlying4 hy2
  obtain ⟨a2, g2, _, w2⟩ := DataW.trod_int Tryd.underlying2 hz2
  simp only [List.cons.injEq, and_true] at f2 g2
  subst f2; subst g2
  clear hA0
  refine (walk a0 w0 ka1 a1 w1 ka2 a2 w2 W (tabs hL)).mono fun e W' ⟨he, bel⟩ => ?_
  subst he
  exact ⟨_, rfl, _, _, _, [], _, [], hW', trodAll_mk1 (shut_bool Tryd.underlying4 _), (trodAll_cons_mk (Below.trod laidOut (by kernel_rfl) (of_decide_eq_true (by kernel_rfl)) k0 bel lt0) (trodAll_cons_mk (Below.trod laidOut (by kernel_rfl) (of_decide_eq_true (by kernel_rfl)) k1 bel lt1) (trodAll_cons_mk (Below.trod laidOut (by kernel_rfl) (of_decide_eq_true (by kernel_rfl)) k2 bel lt2) trodAll_mk0))), rfl, bel.frame _, fun h => by cases h⟩

/-- For the world of the witness: the settled one, the tables holding what their text lays. -/
def put (c : Array Value) : Obj → Obj
  | .cells _ t frozen => .cells c t frozen
  | x => x
theorem laid_met (os : Os) : laidMet Tryd.prog Rows.numAppliesRow.laid (({ World.holding Tryd.prog os ⟨#[], #[], []⟩ with heap := (((World.holding Tryd.prog os ⟨#[], #[], []⟩).heap.modify 1 (put #[.int .i64 0, .int .i64 0, .int .i64 0, .int .i64 0, .int .i64 1, .int .i64 1, .int .i64 0, .int .i64 1, .int .i64 2])).modify 2 (put #[.int .i64 0, .int .i64 1, .int .i64 2, .int .i64 1, .int .i64 1, .int .i64 2, .int .i64 2, .int .i64 2, .int .i64 2])) } : World).forCall (fun _ _ => 0) ⟨#[], #[.int .i64 0, .agg #[.bool false, .int .i64 0], .agg #[.bool false, .int .i64 0]], []⟩).memory :=
  laidMet_of_run' 8 (by kernel_rfl) (by kernel_rfl)
theorem reads (os : Os) {H : Type} (enc : TypeId × Value → H) : ∃ places, DataW.whole enc Tryd.prog (({ World.holding Tryd.prog os ⟨#[], #[], []⟩ with heap := (((World.holding Tryd.prog os ⟨#[], #[], []⟩).heap.modify 1 (put #[.int .i64 0, .int .i64 0, .int .i64 0, .int .i64 0, .int .i64 1, .int .i64 1, .int .i64 0, .int .i64 1, .int .i64 2])).modify 2 (put #[.int .i64 0, .int .i64 1, .int .i64 2, .int .i64 1, .int .i64 1, .int .i64 2, .int .i64 2, .int .i64 2, .int .i64 2])) } : World).forCall (fun _ _ => 0) ⟨#[], #[.int .i64 0, .agg #[.bool false, .int .i64 0], .agg #[.bool false, .int .i64 0]], []⟩).memory Tryd.f3.params.toList Rows.numAppliesSpec.vars false (#[.int .i64 0, .agg #[.bool false, .int .i64 0], .agg #[.bool false, .int .i64 0]] : Array Value).toList 8 = some ([.lit (.int .i64 0), .agg [.lit (.bool false), .lit (.int .i64 0)], .agg [.lit (.bool false), .lit (.int .i64 0)]], [], places) :=
  ⟨[], by kernel_rfl⟩

set_option maxRecDepth 100000 in
theorem lifted (os : Os) (started : os.Started) (H : Type) (enc : TypeId × Value → H) (F : Stop.Interp) :
    ReturnsInHanded {} Tryd.checked os 3 .any ((OpenSpec.ofChange Rows.numAppliesSpec).preRow enc Tryd.prog Tryd.f3 Rows.numAppliesRow.domain false Rows.numAppliesRow.laid) (((OpenSpec.ofChange Rows.numAppliesSpec).at F).post enc Tryd.prog Tryd.f3 false true false false) := by
  obtain ⟨places, hx⟩ := reads os enc
  refine returnsInHanded_of_row (C := Tryd.checked) (s := OpenSpec.ofChange Rows.numAppliesSpec) own started (by kernel_rfl) Tryd.func3
    (witness_row_at (enc := enc) (C := Tryd.checked) false ({ World.holding Tryd.prog os ⟨#[], #[], []⟩ with heap := (((World.holding Tryd.prog os ⟨#[], #[], []⟩).heap.modify 1 (put #[.int .i64 0, .int .i64 0, .int .i64 0, .int .i64 0, .int .i64 1, .int .i64 1, .int .i64 0, .int .i64 1, .int .i64 2])).modify 2 (put #[.int .i64 0, .int .i64 1, .int .i64 2, .int .i64 1, .int .i64 1, .int .i64 2, .int .i64 2, .int .i64 2, .int .i64 2])) } : World) #[.int .i64 0, .agg #[.bool false, .int .i64 0], .agg #[.bool false, .int .i64 0]] rfl (by kernel_rfl) (by kernel_rfl) (by kernel_rfl)
      (OpenSpec.preRow_of_cond 8 hx (by kernel_rfl) (fun k hk => by cases hk) (by kernel_rfl) (laid_met os))) ?_
  intro W base args ds gs before hval hW _ _ _ hL _ _
  exact contract H enc W base args ds gs before hval hW hL

theorem said : Rows.NumAppliesSaid :=
  OpenClaim.holds_of_cond 3 Tryd.f3 rfl rfl rfl rfl rfl rfl rfl ⟨rfl, rfl, rfl, rfl, rfl⟩ rfl rfl rfl rfl rfl (by kernel_rfl) Tryd.func3 (by kernel_rfl)
    (of_decide_eq_true (by kernel_rfl)) (by unfold Func.isWrapper; first | (rw [if_pos (by decide +kernel)]; kernel_rfl) | (rw [if_neg (by decide +kernel)]; exact ⟨rfl, rfl⟩))
    (fun os started H enc _ F => by rw [OpenClaim.pre_eq_preRow]; exact lifted os started H enc F)

theorem plain (f : FuncId) (fn : Func) (hf : Tryd.pinned.checked.prog.funcNamed "sluice/sluicelaw1.NumApplies" = some f) (hfn : Tryd.pinned.checked.prog.funcs[f]? = some fn) :
    false = Tryd.pinned.checked.prog.looks [] ∧ ∀ (j : Nat) t, fn.params[j]? = some t → Tryd.pinned.checked.prog.wantsStandIn t = false := by
  obtain rfl : f = 3 := Option.some.inj ((show Tryd.prog.funcNamed "sluice/sluicelaw1.NumApplies" = some 3 by kernel_rfl).symm.trans hf) |>.symm
  obtain rfl : fn = Tryd.f3 := (Option.some.inj (Tryd.func3.symm.trans hfn)).symm
  refine ⟨by kernel_rfl, fun j t ht => ?_⟩
  rw [Tryd.params3] at ht
  have hm : t = 3 ∨ t = 23 := by simpa using Array.mem_of_getElem? ht
  rcases hm with rfl | rfl
  · exact (show Tryd.prog.wantsStandIn 3 = false by kernel_rfl)
  · exact (show Tryd.prog.wantsStandIn 23 = false by kernel_rfl)

end Go.Proofs.YtcjldhnjcmhfhacDoor.numApplies
namespace Go.Proofs.YtcjldhnjcmhfhacDoor
theorem numApplies_holds : Rows.NumAppliesCardSaid :=
  Claim7.holds_tied_plain_at .later [] _ _ _ _ numApplies.said (fun _ h => by cases h) (by kernel_rfl) (fun _ h => by cases h) numApplies_row_tie rfl ⟨rfl, rfl⟩ (by kernel_rfl) rfl numApplies.plain (by kernel_rfl)
#print axioms numApplies_holds
end Go.Proofs.YtcjldhnjcmhfhacDoor
