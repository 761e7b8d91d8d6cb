/- For every two values, known or not, the law NumTruths returns true where num's tables hold what their text lays (the card ties that to the text): num's And, Or, Not and True are the document's. No other condition. -/
import Derived.Test.YtcjldhnjcmhfhabDoorTruthRef
import Derived.Test.YtcjldhnjcmhfhabDoorDoorTab
import Derived.Test.YtcjldhnjcmhfhabDoorExt
import Derived.Test.YtcjldhnjcmhfhabDoorCards
import Derived.Test.YtcjldhnjcmhfhabDoorTie
import Derived.Lib.SmallJoins
import Derived.Deep.DeepHandedRow
import Derived.Deep.CutRange
import Derived.OpenShut
import Derived.Carry
namespace Go.Proofs.YtcjldhnjcmhfhabDoor.numTruths
open Go.ChangeShapes Go.WideShapes Go.ChangeAt Go.RowKit Go.BigFrame
set_option linter.unusedVariables false

set_option maxRecDepth 20000 in
set_option maxHeartbeats 4000000 in
theorem walk (ka : Bool) (a : Int) (w0 : (Lit.int .i64 a).wf = true) (kb : Bool) (b : Int) (w1 : (Lit.int .i64 b).wf = true) (w : World) (T : Tabs w) (TN : TabN w) :
    Calls Tryd.prog 3 #[.agg #[.bool ka, .int .i64 a], .agg #[.bool kb, .int .i64 b]] w fun e w' => e = .returned (.bool true) ∧ Below w.heap.size w w' := by
  clear w0 w1
  obtain ⟨kx, nx, cx, dx⟩ : ∃ k n, (∀ w, Tabs w → Calls Tryd.prog 5 #[.agg #[.bool ka, .int .i64 a], .agg #[.bool kb, .int .i64 b]] w (fun e w' => e = .returned (.agg #[.bool k, .int .i64 n]) ∧ Below w.heap.size w w')) ∧ (∀ w, Calls Tryd.prog 9 #[.agg #[.bool ka, .int .i64 a], .agg #[.bool kb, .int .i64 b]] w (fun e w' => e = .returned (.agg #[.bool k, .int .i64 n]) ∧ Below w.heap.size w w')) := ⟨_, _, fun w T => and_any ka kb a b w T, fun w => refAnd_any ka kb a b w⟩
  obtain ⟨ky, ny, cy, dy⟩ : ∃ k n, (∀ w, Tabs w → Calls Tryd.prog 6 #[.agg #[.bool ka, .int .i64 a], .agg #[.bool kb, .int .i64 b]] w (fun e w' => e = .returned (.agg #[.bool k, .int .i64 n]) ∧ Below w.heap.size w w')) ∧ (∀ w, Calls Tryd.prog 10 #[.agg #[.bool ka, .int .i64 a], .agg #[.bool kb, .int .i64 b]] w (fun e w' => e = .returned (.agg #[.bool k, .int .i64 n]) ∧ Below w.heap.size w w')) := ⟨_, _, fun w T => or_any ka kb a b w T, fun w => refOr_any ka kb a b w⟩
  obtain ⟨kz, nz, cz, dz⟩ : ∃ k n, (∀ w, TabN w → Calls Tryd.prog 7 #[.agg #[.bool ka, .int .i64 a]] w (fun e w' => e = .returned (.agg #[.bool k, .int .i64 n]) ∧ Below w.heap.size w w')) ∧ (∀ w, Calls Tryd.prog 11 #[.agg #[.bool ka, .int .i64 a]] w (fun e w' => e = .returned (.agg #[.bool k, .int .i64 n]) ∧ Below w.heap.size w w')) := ⟨_, _, fun w T => not_any ka a w T, fun w => refNot_any ka a w⟩
  obtain ⟨tv, ct, dt⟩ : ∃ t, (∀ w, Calls Tryd.prog 8 #[.agg #[.bool ka, .int .i64 a]] w (fun e w' => e = .returned (.bool t) ∧ Below w.heap.size w w')) ∧ (∀ w, Calls Tryd.prog 12 #[.agg #[.bool ka, .int .i64 a]] w (fun e w' => e = .returned (.bool t) ∧ Below w.heap.size w w')) := ⟨_, fun w => true_any ka a w, fun w => refTrue_any ka a w⟩
  go_enter Tryd.func3, Tryd.ntmps3
  go_upto_region 1 with fail
  have B := (galloc (galloc (Below.refl w.heap.size w) (.cells #[.bool ka, .int .i64 a] 23)) (.cells #[.bool kb, .int .i64 b] 23))
  have ra0 : ((w.alloc (.cells #[.bool ka, .int .i64 a] 23)).alloc (.cells #[.bool kb, .int .i64 b] 23)).cell? ⟨w.heap.size, 0, none⟩ = some (.bool ka) := by go_simp
  have ra1 : ((w.alloc (.cells #[.bool ka, .int .i64 a] 23)).alloc (.cells #[.bool kb, .int .i64 b] 23)).cell? ⟨w.heap.size, 1, none⟩ = some (.int .i64 a) := by go_simp
  have sa : w.heap.size < ((w.alloc (.cells #[.bool ka, .int .i64 a] 23)).alloc (.cells #[.bool kb, .int .i64 b] 23)).heap.size := by first | (simp; done) | (simp; omega)
  have rb0 : ((w.alloc (.cells #[.bool ka, .int .i64 a] 23)).alloc (.cells #[.bool kb, .int .i64 b] 23)).cell? ⟨w.heap.size + 1, 0, none⟩ = some (.bool kb) := by go_simp
  have rb1 : ((w.alloc (.cells #[.bool ka, .int .i64 a] 23)).alloc (.cells #[.bool kb, .int .i64 b] 23)).cell? ⟨w.heap.size + 1, 1, none⟩ = some (.int .i64 b) := by go_simp
  have sb : w.heap.size + 1 < ((w.alloc (.cells #[.bool ka, .int .i64 a] 23)).alloc (.cells #[.bool kb, .int .i64 b] 23)).heap.size := by first | (simp; done) | (simp; omega)
  generalize ((w.alloc (.cells #[.bool ka, .int .i64 a] 23)).alloc (.cells #[.bool kb, .int .i64 b] 23)) = V0 at *
  have G := Below.refl V0.heap.size V0
  go_upto_region 2 with (first | (go_at_call 5; refine (cx _ (T.keep (gtrans B G))).mono ?_; rintro e u0 ⟨rfl, g⟩; replace G := gtrans G g; obtain ⟨hc, hf⟩ := bcell G))
  replace ra0 := kold G (.cells #[.bool kx, .int .i64 nx] 23) sa ra0
  replace ra1 := kold G (.cells #[.bool kx, .int .i64 nx] 23) sa ra1
  replace sa := ksize G (.cells #[.bool kx, .int .i64 nx] 23) sa
  replace rb0 := kold G (.cells #[.bool kx, .int .i64 nx] 23) sb rb0
  replace rb1 := kold G (.cells #[.bool kx, .int .i64 nx] 23) sb rb1
  replace sb := ksize G (.cells #[.bool kx, .int .i64 nx] 23) sb
  replace B := galloc (gtrans B G) (.cells #[.bool kx, .int .i64 nx] 23)
  have rx0 := knew u0 #[.bool kx, .int .i64 nx] 23 0 _ rfl
  have rx1 := knew u0 #[.bool kx, .int .i64 nx] 23 1 _ rfl
  have sx := ksnew u0 (.cells #[.bool kx, .int .i64 nx] 23)
  clear G
  generalize (u0.alloc (.cells #[.bool kx, .int .i64 nx] 23)) = V1 at *
  have G := Below.refl V1.heap.size V1
  go_upto_region 3 with (first | (go_at_call 6; refine (cy _ (T.keep (gtrans B G))).mono ?_; rintro e u1 ⟨rfl, g⟩; replace G := gtrans G g; obtain ⟨hc, hf⟩ := bcell G))
  replace ra0 := kold G (.cells #[.bool ky, .int .i64 ny] 23) sa ra0
  replace ra1 := kold G (.cells #[.bool ky, .int .i64 ny] 23) sa ra1
  replace sa := ksize G (.cells #[.bool ky, .int .i64 ny] 23) sa
  replace rb0 := kold G (.cells #[.bool ky, .int .i64 ny] 23) sb rb0
  replace rb1 := kold G (.cells #[.bool ky, .int .i64 ny] 23) sb rb1
  replace sb := ksize G (.cells #[.bool ky, .int .i64 ny] 23) sb
  replace rx0 := kold G (.cells #[.bool ky, .int .i64 ny] 23) sx rx0
  replace rx1 := kold G (.cells #[.bool ky, .int .i64 ny] 23) sx rx1
  replace sx := ksize G (.cells #[.bool ky, .int .i64 ny] 23) sx
  replace B := galloc (gtrans B G) (.cells #[.bool ky, .int .i64 ny] 23)
  have ry0 := knew u1 #[.bool ky, .int .i64 ny] 23 0 _ rfl
  have ry1 := knew u1 #[.bool ky, .int .i64 ny] 23 1 _ rfl
  have sy := ksnew u1 (.cells #[.bool ky, .int .i64 ny] 23)
  clear G
  generalize (u1.alloc (.cells #[.bool ky, .int .i64 ny] 23)) = V2 at *
  have G := Below.refl V2.heap.size V2
  go_upto_region 4 with (first | (go_at_call 7; refine (cz _ (TN.keep (gtrans B G))).mono ?_; rintro e u2 ⟨rfl, g⟩; replace G := gtrans G g; obtain ⟨hc, hf⟩ := bcell G))
  replace ra0 := kold G (.cells #[.bool kz, .int .i64 nz] 23) sa ra0
  replace ra1 := kold G (.cells #[.bool kz, .int .i64 nz] 23) sa ra1
  replace sa := ksize G (.cells #[.bool kz, .int .i64 nz] 23) sa
  replace rb0 := kold G (.cells #[.bool kz, .int .i64 nz] 23) sb rb0
  replace rb1 := kold G (.cells #[.bool kz, .int .i64 nz] 23) sb rb1
  replace sb := ksize G (.cells #[.bool kz, .int .i64 nz] 23) sb
  replace rx0 := kold G (.cells #[.bool kz, .int .i64 nz] 23) sx rx0
  replace rx1 := kold G (.cells #[.bool kz, .int .i64 nz] 23) sx rx1
  replace sx := ksize G (.cells #[.bool kz, .int .i64 nz] 23) sx
  replace ry0 := kold G (.cells #[.bool kz, .int .i64 nz] 23) sy ry0
  replace ry1 := kold G (.cells #[.bool kz, .int .i64 nz] 23) sy ry1
  replace sy := ksize G (.cells #[.bool kz, .int .i64 nz] 23) sy
  replace B := galloc (gtrans B G) (.cells #[.bool kz, .int .i64 nz] 23)
  have rz0 := knew u2 #[.bool kz, .int .i64 nz] 23 0 _ rfl
  have rz1 := knew u2 #[.bool kz, .int .i64 nz] 23 1 _ rfl
  have sz := ksnew u2 (.cells #[.bool kz, .int .i64 nz] 23)
  clear G
  generalize (u2.alloc (.cells #[.bool kz, .int .i64 nz] 23)) = V3 at *
  have G := Below.refl V3.heap.size V3
  go_upto_region 5 with (first | (go_at_call 8; refine (ct _).mono ?_; rintro e u3 ⟨rfl, g⟩; replace G := gtrans G g; obtain ⟨hc, hf⟩ := bcell G))
  replace ra0 := kkeep G sa ra0
  replace ra1 := kkeep G sa ra1
  replace sa := Nat.lt_of_lt_of_le sa G.size
  replace rb0 := kkeep G sb rb0
  replace rb1 := kkeep G sb rb1
  replace sb := Nat.lt_of_lt_of_le sb G.size
  replace rx0 := kkeep G sx rx0
  replace rx1 := kkeep G sx rx1
  replace sx := Nat.lt_of_lt_of_le sx G.size
  replace ry0 := kkeep G sy ry0
  replace ry1 := kkeep G sy ry1
  replace sy := Nat.lt_of_lt_of_le sy G.size
  replace rz0 := kkeep G sz rz0
  replace rz1 := kkeep G sz rz1
  replace sz := Nat.lt_of_lt_of_le sz G.size
  replace B := gtrans B G
  clear G
  have G := Below.refl u3.heap.size u3
  have xa0 := fun (n : Ext u3) => (n.cell _ _ sa).trans ra0
  have xa1 := fun (n : Ext u3) => (n.cell _ _ sa).trans ra1
  have xb0 := fun (n : Ext u3) => (n.cell _ _ sb).trans rb0
  have xb1 := fun (n : Ext u3) => (n.cell _ _ sb).trans rb1
  have xx0 := fun (n : Ext u3) => (n.cell _ _ sx).trans rx0
  have xx1 := fun (n : Ext u3) => (n.cell _ _ sx).trans rx1
  have xy0 := fun (n : Ext u3) => (n.cell _ _ sy).trans ry0
  have xy1 := fun (n : Ext u3) => (n.cell _ _ sy).trans ry1
  have xz0 := fun (n : Ext u3) => (n.cell _ _ sz).trans rz0
  have xz1 := fun (n : Ext u3) => (n.cell _ _ sz).trans rz1
  have hne : Nonempty (Ext u3) := ⟨⟨_, Below.refl _ _⟩⟩
  refine wp_region_ext (by kernel_rfl) (by kernel_rfl) ?_
  repeat (go_big_quiet_step (first | (go_at_call 9; exact ext_of (dx _)) | (go_at_call 10; exact ext_of (dy _)) | (go_at_call 11; exact ext_of (dz _)) | (go_at_call 12; exact ext_of (dt _))))
  refine wpQuiet_nil ?_
  intro _ hw'
  obtain ⟨nxw, hw''⟩ := hw'
  subst hw''
  go_wp2
  go_ret
  exact ⟨rfl, gtrans B nxw.h⟩

theorem own : ownKnob Tryd.prog.godebug = none := by kernel_rfl
theorem laidOut : laidOutB Tryd.prog = true := by kernel_rfl
theorem cellsV : Tryd.prog.cellsOf 23 = 2 := by kernel_rfl

theorem gAnd : Tryd.prog.globalNamed "sluice/num.andTable" = some 0 := by kernel_rfl
theorem gOr : Tryd.prog.globalNamed "sluice/num.orTable" = some 1 := by kernel_rfl
theorem gNot : Tryd.prog.globalNamed "sluice/num.notTable" = some 2 := by kernel_rfl
theorem tabs {W : World} (h : laidMetH Tryd.prog Rows.numTruthsRow.laid W) : Tabs W := by
  have h0 : laidMet Tryd.prog Rows.numTruthsRow.laid W := h
  have h1 := laidMet_tail h0
  have ca := tab33 (z := fun i j => minI i j) gAnd (by kernel_rfl) Tryd.underlying41 Tryd.underlying40 Tryd.underlying39 (by kernel_rfl) (by kernel_rfl) (by kernel_rfl) h0
  have co := tab33 (z := fun i j => maxI i j) gOr (by kernel_rfl) Tryd.underlying41 Tryd.underlying40 Tryd.underlying39 (by kernel_rfl) (by kernel_rfl) (by kernel_rfl) h1
  exact ⟨block_of (co 0 0 (by omega) (by omega)), ca, co⟩
theorem tabN {W : World} (h : laidMetH Tryd.prog Rows.numTruthsRow.laid W) : TabN W := by
  have h0 : laidMet Tryd.prog Rows.numTruthsRow.laid W := h
  have h2 := laidMet_tail (laidMet_tail h0)
  have cn := tab3 (z := fun i => notI i) gNot (by kernel_rfl) Tryd.underlying40 Tryd.underlying39 (by kernel_rfl) (by kernel_rfl) h2
  exact ⟨block_of (cn 0 (by omega)), fun i hi => (cn i hi).trans (by rw [notI_eq i hi])⟩

set_option maxRecDepth 100000 in
theorem contract (H : Type) (enc : TypeId × Value → H) (W : World) (base : Nat) (args : Array Value) (ds gs : List (DataW H)) (before : List MemPlace)
    (hval : ∀ (j : Nat) t v, Tryd.f3.params[j]? = some t → args[j]? = some v → Value.okWide Tryd.prog W .any base t v)
    (hW : DataW.Whole enc Tryd.prog Tryd.f3.params.toList Rows.numTruthsSpec.vars false W args.toList ds gs before) (hL : laidMetH Tryd.prog Rows.numTruthsRow.laid W) :
    Calls Tryd.prog 3 args W fun e W' => ∃ v, e = .returned v ∧ Rows.numTruthsSpec.post enc Tryd.prog Tryd.f3 false true false false W args v W' := by
  have hW' := hW
  obtain ⟨p, q, hA0, hV, rfl, hfz, hnd⟩ := hW
  have hA : DataW.TrodAll enc Tryd.prog W 0 (fun _ => true) true Tryd.f3.params.toList args.toList ds p := hA0
  rw [Tryd.params3] at hA hval
  obtain ⟨v0, vs0, d0, ds0, p0, q0, hargs, rfl, rfl, h0, r0⟩ := trodAll_cons hA
  obtain ⟨v1, vs1, d1, ds1, p1, q1, rfl, rfl, rfl, h1, r1⟩ := trodAll_cons r0
  obtain ⟨rfl, rfl, rfl⟩ := trodAll_nil r1
  obtain rfl : args = #[v0, v1] := by cases args; simp_all
  obtain ⟨rfl, rfl⟩ := trodVars_none hV
  have k0 := h0
  have lt0 : ∀ x ∈ p0, x.block < W.heap.size := by obtain ⟨m, hm⟩ := k0; exact DataW.trod_lt m _ _ _ hm
  obtain ⟨c0, n0, y0, z0, m0, e0, _, _, hy0, hz0⟩ := Joins.open_agg2 Tryd.underlying23 (by kernel_rfl) cellsV (hval 0 23 v0 rfl rfl) h0
  subst e0
  obtain ⟨ka0, f0, _⟩ := DataW.trod_bool Tryd.underlying4 hy0
  obtain ⟨a0, g0, _, w0⟩ := DataW.trod_int Tryd.underlying2 hz0
  simp only [List.cons.injEq, and_true] at f0 g0
  subst f0; subst g0
  have k1 := h1
  have lt1 : ∀ x ∈ p1, x.block < W.heap.size := by obtain ⟨m, hm⟩ := k1; exact DataW.trod_lt m _ _ _ hm
  obtain ⟨c1, n1, y1, z1, m1, e1, _, _, hy1, hz1⟩ := Joins.open_agg2 Tryd.underlying23 (by kernel_rfl) cellsV (hval 1 23 v1 rfl rfl) h1
  subst e1
  obtain ⟨ka1, f1, _⟩ := DataW.trod_bool Tryd.underlying4 hy1
  obtain ⟨a1, g1, _, w1⟩ := DataW.trod_int Tryd.underlying2 hz1
  simp only [List.cons.injEq, and_true] at f1 g1
  subst f1; subst g1
  clear hA0
  refine (walk ka0 a0 w0 ka1 a1 w1 W (tabs hL) (tabN hL)).mono fun e W' ⟨he, bel⟩ => ?_
  subst he
  exact ⟨_, rfl, _, _, _, [], _, [], hW', trodAll_mk1 (shut_bool Tryd.underlying4 _), (trodAll_cons_mk (Below.trod laidOut (by kernel_rfl) (of_decide_eq_true (by kernel_rfl)) k0 bel lt0) (trodAll_cons_mk (Below.trod laidOut (by kernel_rfl) (of_decide_eq_true (by kernel_rfl)) k1 bel lt1) trodAll_mk0)), rfl, bel.frame _, fun h => by cases h⟩

/-- For the world of the witness: the settled one, the tables holding what their text lays. -/
def put (c : Array Value) : Obj → Obj
  | .cells _ t frozen => .cells c t frozen
  | x => x
theorem laid_met (os : Os) : laidMet Tryd.prog Rows.numTruthsRow.laid (({ World.holding Tryd.prog os ⟨#[], #[], []⟩ with heap := ((((World.holding Tryd.prog os ⟨#[], #[], []⟩).heap.modify 0 (put #[.int .i64 0, .int .i64 0, .int .i64 0, .int .i64 0, .int .i64 1, .int .i64 1, .int .i64 0, .int .i64 1, .int .i64 2])).modify 1 (put #[.int .i64 0, .int .i64 1, .int .i64 2, .int .i64 1, .int .i64 1, .int .i64 2, .int .i64 2, .int .i64 2, .int .i64 2])).modify 2 (put #[.int .i64 2, .int .i64 1, .int .i64 0])) } : World).forCall (fun _ _ => 0) ⟨#[], #[.agg #[.bool false, .int .i64 0], .agg #[.bool false, .int .i64 0]], []⟩).memory :=
  laidMet_of_run' 8 (by kernel_rfl) (by kernel_rfl)
theorem reads (os : Os) {H : Type} (enc : TypeId × Value → H) : ∃ places, DataW.whole enc Tryd.prog (({ World.holding Tryd.prog os ⟨#[], #[], []⟩ with heap := ((((World.holding Tryd.prog os ⟨#[], #[], []⟩).heap.modify 0 (put #[.int .i64 0, .int .i64 0, .int .i64 0, .int .i64 0, .int .i64 1, .int .i64 1, .int .i64 0, .int .i64 1, .int .i64 2])).modify 1 (put #[.int .i64 0, .int .i64 1, .int .i64 2, .int .i64 1, .int .i64 1, .int .i64 2, .int .i64 2, .int .i64 2, .int .i64 2])).modify 2 (put #[.int .i64 2, .int .i64 1, .int .i64 0])) } : World).forCall (fun _ _ => 0) ⟨#[], #[.agg #[.bool false, .int .i64 0], .agg #[.bool false, .int .i64 0]], []⟩).memory Tryd.f3.params.toList Rows.numTruthsSpec.vars false (#[.agg #[.bool false, .int .i64 0], .agg #[.bool false, .int .i64 0]] : Array Value).toList 8 = some ([.agg [.lit (.bool false), .lit (.int .i64 0)], .agg [.lit (.bool false), .lit (.int .i64 0)]], [], places) :=
  ⟨[], by kernel_rfl⟩

set_option maxRecDepth 100000 in
theorem lifted (os : Os) (started : os.Started) (H : Type) (enc : TypeId × Value → H) (F : Stop.Interp) :
    ReturnsInHanded {} Tryd.checked os 3 .any ((OpenSpec.ofChange Rows.numTruthsSpec).preRow enc Tryd.prog Tryd.f3 Rows.numTruthsRow.domain false Rows.numTruthsRow.laid) (((OpenSpec.ofChange Rows.numTruthsSpec).at F).post enc Tryd.prog Tryd.f3 false true false false) := by
  obtain ⟨places, hx⟩ := reads os enc
  refine returnsInHanded_of_row (C := Tryd.checked) (s := OpenSpec.ofChange Rows.numTruthsSpec) own started (by kernel_rfl) Tryd.func3
    (witness_row_at (enc := enc) (C := Tryd.checked) false ({ World.holding Tryd.prog os ⟨#[], #[], []⟩ with heap := ((((World.holding Tryd.prog os ⟨#[], #[], []⟩).heap.modify 0 (put #[.int .i64 0, .int .i64 0, .int .i64 0, .int .i64 0, .int .i64 1, .int .i64 1, .int .i64 0, .int .i64 1, .int .i64 2])).modify 1 (put #[.int .i64 0, .int .i64 1, .int .i64 2, .int .i64 1, .int .i64 1, .int .i64 2, .int .i64 2, .int .i64 2, .int .i64 2])).modify 2 (put #[.int .i64 2, .int .i64 1, .int .i64 0])) } : World) #[.agg #[.bool false, .int .i64 0], .agg #[.bool false, .int .i64 0]] rfl (by kernel_rfl) (by kernel_rfl) (by kernel_rfl)
      (OpenSpec.preRow_of_cond 8 hx (by kernel_rfl) (fun k hk => by cases hk) (by kernel_rfl) (laid_met os))) ?_
  intro W base args ds gs before hval hW _ _ _ hL _ _
  exact contract H enc W base args ds gs before hval hW hL

theorem said : Rows.NumTruthsSaid :=
  OpenClaim.holds_of_cond 3 Tryd.f3 rfl rfl rfl rfl rfl rfl rfl ⟨rfl, rfl, rfl, rfl, rfl⟩ rfl rfl rfl rfl rfl (by kernel_rfl) Tryd.func3 (by kernel_rfl)
    (of_decide_eq_true (by kernel_rfl)) (by unfold Func.isWrapper; first | (rw [if_pos (by decide +kernel)]; kernel_rfl) | (rw [if_neg (by decide +kernel)]; exact ⟨rfl, rfl⟩))
    (fun os started H enc _ F => by rw [OpenClaim.pre_eq_preRow]; exact lifted os started H enc F)

theorem plain (f : FuncId) (fn : Func) (hf : Tryd.pinned.checked.prog.funcNamed "sluice/sluicelaw1.NumTruths" = some f) (hfn : Tryd.pinned.checked.prog.funcs[f]? = some fn) :
    false = Tryd.pinned.checked.prog.looks [] ∧ ∀ (j : Nat) t, fn.params[j]? = some t → Tryd.pinned.checked.prog.wantsStandIn t = false := by
  obtain rfl : f = 3 := Option.some.inj ((show Tryd.prog.funcNamed "sluice/sluicelaw1.NumTruths" = some 3 by kernel_rfl).symm.trans hf) |>.symm
  obtain rfl : fn = Tryd.f3 := (Option.some.inj (Tryd.func3.symm.trans hfn)).symm
  refine ⟨by kernel_rfl, fun j t ht => ?_⟩
  rw [Tryd.params3] at ht
  have hm : t = 23 := by simpa using Array.mem_of_getElem? ht
  rw [hm]
  exact (show Tryd.prog.wantsStandIn 23 = false by kernel_rfl)

end Go.Proofs.YtcjldhnjcmhfhabDoor.numTruths
namespace Go.Proofs.YtcjldhnjcmhfhabDoor
theorem numTruths_holds : Rows.NumTruthsCardSaid :=
  Claim7.holds_tied_plain_at .later [] _ _ _ _ numTruths.said (fun _ h => by cases h) (by kernel_rfl) (fun _ h => by cases h) numTruths_row_tie rfl ⟨rfl, rfl⟩ (by kernel_rfl) rfl numTruths.plain (by kernel_rfl)
#print axioms numTruths_holds
end Go.Proofs.YtcjldhnjcmhfhabDoor
