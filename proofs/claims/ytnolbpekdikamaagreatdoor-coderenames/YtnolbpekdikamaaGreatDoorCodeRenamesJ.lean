/- For every schema, every query, every list of nodes and every environment the law CodeRenames returns true: with other variables the program is the same one, and the value. The listed variables hold what their texts lay (the card ties that to the text). No other condition. -/
import Derived.Test.YtnolbpekdikamaaGreatDoorJb25
import Derived.Test.YtnolbpekdikamaaGreatDoorCards
import Derived.Test.YtnolbpekdikamaaGreatDoorTie
import Derived.OpenShut
import Derived.Carry
import Derived.ChangeMaps5
import Derived.SizedLaws
import Derived.Lib.SmallJoins
import Derived.Deep.DeepHandedRow
import Derived.Lay
namespace Go.Proofs.YtnolbpekdikamaaGreatDoor.codeRenames
open Go.ChangeShapes Go.WideShapes Go.ChangeAt Go.RowKit Go.BigFrame
set_option linter.unusedVariables false
set_option linter.unusedSimpArgs false

theorem walk (ao : Option Addr) (n cap : Nat) (L : List Ty) (wc : n ≤ cap) (q : Qy) (cs : Array Value) (ai : Option Addr) (ci : Nat) (aw : Option Addr) (cw : Nat) (ar : Option Addr) (cr : Nat) (no : Option Addr) (ncap : Nat) (ns : List Nd) (E : Envr) (al : Option Addr) (cl : Nat) (W : World) (K : KwAt W) (TP : PwAt W) (T : Tabs W) (TN : TabN W) (O : OpAt W) (A : IsTypes W ao n L) (h40 : n * 40 ≤ 140737488351232) (h16 : ∀ j, (L.getD j noTy).2.length * 16 ≤ 140737488351232) (IQ : IsQ W q cs ai ci aw cw ar cr) (hq : q.fit) (hc : ns.length ≤ ncap) (hno : no = none → ns.length = 0 ∧ ncap = 0) (AN : IsNds W no ns) (hr : ns.length * 64 ≤ 140737488351232) (hf : ∀ k, (ns.getD k noNd).fit)
    (IE : IsEnv W E al cl) (hE0 : (∀ k, (E.lists.getD k []).length ≤ 2147483647) → E.ok) (hEn : E.lists.length * 24 ≤ 140737488351232) (hEl : ∀ k, (E.lists.getD k []).length * 88 ≤ 140737488351232) :
    Calls Tryz.prog 4 #[.agg #[.slice ao n cap], .agg cs, .slice no ns.length ncap, envA al cl E] W fun e w' => e = .returned (.bool true) ∧ Below W.heap.size W w' := by
  have hn := A.1
  subst hn
  exact codeRenames_walk ao cap L q hq cs ai ci aw cw ar cr ns no ncap E al cl W K TP ⟨T, TN, O⟩ A IQ AN IE hE0 hEn hEl hf hr (by omega)

theorem own : ownKnob Tryz.prog.godebug = none := by kernel_rfl
theorem laidOut : laidOutB Tryz.prog = true := by kernel_rfl
theorem lmTail {P : Program} {x : String × DataW Unit} {r : List (String × DataW Unit)} {w : World} (h : laidMet P (x :: r) w) : laidMet P r w := by
  obtain ⟨ps, ⟨g, t, cs, fuel, p, q, hg, ht, hvar, hd, hq, rfl⟩, hn, hall⟩ := h
  refine ⟨q, hq, ?_, fun b off hm => hall b off (List.mem_append_right _ hm)⟩
  exact (List.nodup_append.1 hn).2.1
theorem cellsSchema : Tryz.prog.cellsOf 24 = 1 := by kernel_rfl

theorem gAnd : Tryz.prog.globalNamed "sluice/num.andTable" = some 2 := by kernel_rfl
theorem gOr : Tryz.prog.globalNamed "sluice/num.orTable" = some 3 := by kernel_rfl
theorem gNot : Tryz.prog.globalNamed "sluice/num.notTable" = some 1 := by kernel_rfl
theorem gKw : Tryz.prog.globalNamed "sluice/api.Keywords" = some 4 := by kernel_rfl
theorem tabs {W : World} (h : laidMetH Tryz.prog Rows.codeRenamesRow.laid W) : KwAt W := by
  have h0 : laidMet Tryz.prog Rows.codeRenamesRow.laid W := (Go.MakeChecks.laidMetH_plain _ _ _ (by kernel_rfl)).mp h
  exact kwAt_of (tabS (bss := kwl) gKw (by kernel_rfl) Tryz.underlying173 Tryz.underlying9 (by kernel_rfl) (lmTail (lmTail (lmTail (lmTail h0)))))
theorem tabP {W : World} (h : laidMetH Tryz.prog Rows.codeRenamesRow.laid W) : PwAt W := by
  have h0 : laidMet Tryz.prog Rows.codeRenamesRow.laid W := (Go.MakeChecks.laidMetH_plain _ _ _ (by kernel_rfl)).mp h
  exact Lib.tabIs_of_head (g := 5) (t := 176) (e := 73) (n := 20) (by kernel_rfl) (by kernel_rfl) (by kernel_rfl) (by kernel_rfl) (by kernel_rfl) (by kernel_rfl) (lmTail (lmTail h0))
theorem tabN {W : World} (h : laidMetH Tryz.prog Rows.codeRenamesRow.laid W) : TabN W := by
  have h0 : laidMet Tryz.prog Rows.codeRenamesRow.laid W := (Go.MakeChecks.laidMetH_plain _ _ _ (by kernel_rfl)).mp h
  have h2 := (lmTail (lmTail (lmTail (lmTail (lmTail (lmTail (lmTail h0)))))))
  have cn := tab3 (z := fun i => notI i) gNot (by kernel_rfl) Tryz.underlying120 Tryz.underlying119 (by kernel_rfl) (by kernel_rfl) h2
  exact ⟨block_of (cn 0 (by omega)), fun i hi => (cn i hi).trans (by rw [notI_eq i hi])⟩
theorem tabT {W : World} (h : laidMetH Tryz.prog Rows.codeRenamesRow.laid W) : Tabs W := by
  have h0 : laidMet Tryz.prog Rows.codeRenamesRow.laid W := (Go.MakeChecks.laidMetH_plain _ _ _ (by kernel_rfl)).mp h
  have ca := tab33 (z := fun i j => minI i j) gAnd (by kernel_rfl) Tryz.underlying142 Tryz.underlying120 Tryz.underlying119 (by kernel_rfl) (by kernel_rfl) (by kernel_rfl) (lmTail (lmTail (lmTail (lmTail (lmTail h0)))))
  have co := tab33 (z := fun i j => maxI i j) gOr (by kernel_rfl) Tryz.underlying142 Tryz.underlying120 Tryz.underlying119 (by kernel_rfl) (by kernel_rfl) (by kernel_rfl) (lmTail (lmTail (lmTail (lmTail (lmTail (lmTail h0))))))
  exact ⟨block_of (co 0 0 (by omega) (by omega)), ca, co⟩
theorem tabO {W : World} (h : laidMetH Tryz.prog Rows.codeRenamesRow.laid W) : OpAt W := by
  have h0 : laidMet Tryz.prog Rows.codeRenamesRow.laid W := (Go.MakeChecks.laidMetH_plain _ _ _ (by kernel_rfl)).mp h
  exact opAt_of (lmTail (lmTail (lmTail (lmTail (lmTail (lmTail (lmTail (lmTail (lmTail (lmTail h0))))))))))

set_option maxRecDepth 100000 in
theorem contract (H : Type) (enc : TypeId × Value → H) (W : World) (base : Nat) (args : Array Value) (ds gs : List (DataW H)) (before : List MemPlace)
    (hval : ∀ (j : Nat) t v, Tryz.f4.params[j]? = some t → args[j]? = some v → Value.okWide Tryz.prog W .any base t v)
    (hsz : (DataW.weightsEach Tryz.prog (Tryz.f4.params.toList ++ Rows.codeRenamesSpec.plain.varTypes Tryz.prog) (ds ++ gs)).all (· ≤ reachBytes) = true)
    (hW : DataW.Whole enc Tryz.prog Tryz.f4.params.toList Rows.codeRenamesSpec.vars false W args.toList ds gs before) (hL : laidMetH Tryz.prog Rows.codeRenamesRow.laid W) :
    Calls Tryz.prog 4 args W fun e W' => ∃ v, e = .returned v ∧ Rows.codeRenamesSpec.post enc Tryz.prog Tryz.f4 false true false false W args v W' := by
  have hW' := hW
  obtain ⟨p, q, hA0, hV, rfl, hfz, hnd⟩ := hW
  have hA : DataW.TrodAll enc Tryz.prog W 0 (fun _ => true) true Tryz.f4.params.toList args.toList ds p := hA0
  rw [Tryz.params4] at hA hval hsz
  obtain ⟨v0, vs0, d0, ds0, p0, q0, hargs, rfl, rfl, h0, r0⟩ := trodAll_cons hA
  obtain ⟨v1, vs1, d1, ds1, p1, q1, rfl, rfl, rfl, h1, r1⟩ := trodAll_cons r0
  obtain ⟨v2, vs2, d2, ds2, p2, q2, rfl, rfl, rfl, h2, r2⟩ := trodAll_cons r1
  obtain ⟨v3, vs3, d3, ds3, p3, q3, rfl, rfl, rfl, h3, r3⟩ := trodAll_cons r2
  obtain ⟨rfl, rfl, rfl⟩ := trodAll_nil r3
  obtain rfl : args = #[v0, v1, v2, v3] := by cases args; simp_all
  obtain ⟨rfl, rfl⟩ := trodVars_none hV
  have k0 := h0
  have lt0 : ∀ x ∈ p0, x.block < W.heap.size := by obtain ⟨m, hm⟩ := k0; exact DataW.trod_lt m _ _ _ hm
  obtain ⟨ao0, n0, cap0, L0, e0, wc0, w0, wr0, ws0⟩ : ∃ ao n cap L, v0 = .agg #[.slice ao n cap] ∧ n ≤ cap ∧ IsTypes W ao n L ∧ n * 40 ≤ 140737488351232 ∧ ∀ j, (L.getD j noTy).2.length * 16 ≤ 140737488351232 := by
    obtain ⟨fuel, hf⟩ := h0
    obtain ⟨y0, m, e1, hl, g0⟩ := trod_struct1 Tryz.underlying24 hf
    obtain ⟨cs, hcs, hcz⟩ := okWide_struct Tryz.underlying24 (hval 0 24 v0 rfl rfl)
    subst hcs
    obtain ⟨c, hc⟩ := Array.size_eq_one_iff.1 (hcz.trans cellsSchema)
    subst hc
    have g0' : DataW.trod enc Tryz.prog W 0 (fun _ => true) true m 22 [c] = some y0 := g0
    obtain ⟨ao, n, cap, L, e2, e6, e3, e4, e5⟩ := open_types g0' (fun b hb => by
      have h1 := List.all_eq_true.1 hsz b (DataW.weights_mem_each (j := 0) (t := 24) rfl (congrArg some (congrArg Prod.fst e1)) b (by
        simp only [DataW.weights, Tryz.underlying24, DataW.weightsEach, List.mem_append]
        simp [DataW.weightsEach, hb]))
      simpa using h1)
    subst e2
    exact ⟨ao, n, cap, L, rfl, e6, e3, e4, e5⟩
  subst e0
  have k1 := h1
  have lt1 : ∀ x ∈ p1, x.block < W.heap.size := by obtain ⟨m, hm⟩ := k1; exact DataW.trod_lt m _ _ _ hm
  obtain ⟨q1, cs1, ai1, ci1, aw1, cw1, ar1, cr1, e1, w1, ws1⟩ : ∃ q cs ai ci aw cw ar cr, v1 = .agg cs ∧ IsQ W q cs ai ci aw cw ar cr ∧ q.fit := by
    obtain ⟨cs, hcs, hcz⟩ := okWide_struct Tryz.underlying31 (hval 1 31 v1 rfl rfl)
    subst hcs
    obtain ⟨fuel, hf⟩ := h1
    have hf' : DataW.trod enc Tryz.prog W 0 (fun _ => true) true fuel 31 cs.toList = some (d1, p1) := hf
    obtain ⟨q, ai, ci, aw, cw, ar, cr, h1, h2⟩ := open_query (hcz.trans cellsQy) hf' (fun b hb => by
      have h1 := List.all_eq_true.1 hsz b (DataW.weights_mem_each (j := 1) (t := 31) rfl rfl b hb)
      simpa using h1)
    exact ⟨q, cs, ai, ci, aw, cw, ar, cr, rfl, h1, h2⟩
  subst e1
  have k2 := h2
  have lt2 : ∀ x ∈ p2, x.block < W.heap.size := by obtain ⟨m, hm⟩ := k2; exact DataW.trod_lt m _ _ _ hm
  obtain ⟨ao2, cap2, ns2, e2, wc2, wn2, w2, wr2, ws2⟩ : ∃ ao cap ns, v2 = .slice ao ns.length cap ∧ ns.length ≤ cap ∧ (ao = none → ns.length = 0 ∧ cap = 0) ∧ IsNds W ao ns ∧ ns.length * 64 ≤ 140737488351232 ∧ ∀ k, (ns.getD k noNd).fit := by
    obtain ⟨a, len, cap, e⟩ := okWide_slice Tryz.underlying28 (hval 2 28 v2 rfl rfl)
    subst e
    obtain ⟨fuel, hf⟩ := h2
    have hf' : DataW.trod enc Tryz.prog W 0 (fun _ => true) true fuel 28 [.slice a len cap] = some (d2, p2) := hf
    exact open_nds hf' (fun b hb => by
      have h1 := List.all_eq_true.1 hsz b (DataW.weights_mem_each (j := 2) (t := 28) rfl rfl b hb)
      simpa using h1)
  subst e2
  have k3 := h3
  have lt3 : ∀ x ∈ p3, x.block < W.heap.size := by obtain ⟨m, hm⟩ := k3; exact DataW.trod_lt m _ _ _ hm
  obtain ⟨E3, al3, cl3, e3, w3, wa3, wb3, wc3⟩ : ∃ E al cl, v3 = envA al cl E ∧ IsEnv W E al cl ∧ ((∀ k, (E.lists.getD k []).length ≤ 2147483647) → E.ok) ∧ E.lists.length * 24 ≤ 140737488351232 ∧ ∀ k, (E.lists.getD k []).length * 88 ≤ 140737488351232 := by
    obtain ⟨cs, hcs, hcz⟩ := okWide_struct Tryz.underlying34 (hval 3 34 v3 rfl rfl)
    subst hcs
    obtain ⟨fuel, hf⟩ := h3
    have hf' : DataW.trod enc Tryz.prog W 0 (fun _ => true) true fuel 34 cs.toList = some (d3, p3) := hf
    exact open_env (hcz.trans cellsEn) hf' (fun b hb => by
      have h1 := List.all_eq_true.1 hsz b (DataW.weights_mem_each (j := 3) (t := 34) rfl rfl b hb)
      simpa using h1)
  subst e3
  clear hA0
  refine (walk ao0 n0 cap0 L0 wc0 q1 cs1 ai1 ci1 aw1 cw1 ar1 cr1 ao2 cap2 ns2 E3 al3 cl3 W (tabs hL) (tabP hL) (tabT hL) (tabN hL) (tabO hL) w0 wr0 ws0 w1 ws1 wc2 wn2 w2 wr2 ws2 w3 wa3 wb3 wc3).mono fun e W' ⟨he, bel⟩ => ?_
  subst he
  exact ⟨_, rfl, _, _, _, [], _, [], hW', trodAll_mk1 (shut_bool Tryz.underlying4 _), (trodAll_cons_mk (Below.trod laidOut (by kernel_rfl) (of_decide_eq_true (by kernel_rfl)) k0 bel lt0) (trodAll_cons_mk (Below.trod laidOut (by kernel_rfl) (of_decide_eq_true (by kernel_rfl)) k1 bel lt1) (trodAll_cons_mk (Below.trod laidOut (by kernel_rfl) (of_decide_eq_true (by kernel_rfl)) k2 bel lt2) (trodAll_cons_mk (Below.trod laidOut (by kernel_rfl) (of_decide_eq_true (by kernel_rfl)) k3 bel lt3) trodAll_mk0)))), rfl, bel.frame _, fun h => by cases h⟩

/-- For the world of the witness: the settled one, the tables holding what their text lays. -/
def put (c : Array Value) : Obj → Obj
  | .cells _ t frozen => .cells c t frozen
  | x => x
theorem laid_met (os : Os) : laidMet Tryz.prog Rows.codeRenamesRow.laid ((World.laidAll Tryz.prog os Rows.codeRenamesRow.laid).forCall (fun _ _ => 0) ⟨#[], #[.agg #[.slice none 0 0], .agg #[.slice none 0 0, .int .i64 0, .int .i64 0, .slice none 0 0, .int .i64 0, .string ByteArray.empty, .slice none 0 0], .slice none 0 0, .agg #[.slice none 0 0, .int .i64 0, .int .i64 0]], []⟩).memory :=
  laidMet_laidAll _ (by kernel_rfl) (by kernel_rfl)
theorem reads (os : Os) {H : Type} (enc : TypeId × Value → H) : ∃ places, DataW.whole enc Tryz.prog ((World.laidAll Tryz.prog os Rows.codeRenamesRow.laid).forCall (fun _ _ => 0) ⟨#[], #[.agg #[.slice none 0 0], .agg #[.slice none 0 0, .int .i64 0, .int .i64 0, .slice none 0 0, .int .i64 0, .string ByteArray.empty, .slice none 0 0], .slice none 0 0, .agg #[.slice none 0 0, .int .i64 0, .int .i64 0]], []⟩).memory Tryz.f4.params.toList Rows.codeRenamesSpec.vars false (#[.agg #[.slice none 0 0], .agg #[.slice none 0 0, .int .i64 0, .int .i64 0, .slice none 0 0, .int .i64 0, .string ByteArray.empty, .slice none 0 0], .slice none 0 0, .agg #[.slice none 0 0, .int .i64 0, .int .i64 0]] : Array Value).toList 8 = some ([.agg [.nil], .agg [.nil, .lit (.int .i64 0), .lit (.int .i64 0), .nil, .lit (.int .i64 0), .lit (.string []), .nil], .nil, .agg [.nil, .lit (.int .i64 0), .lit (.int .i64 0)]], [], places) :=
  ⟨[], by kernel_rfl⟩

set_option maxRecDepth 100000 in
theorem lifted (os : Os) (started : os.Started) (H : Type) (enc : TypeId × Value → H) (F : Stop.Interp) :
    ReturnsInHanded {} Tryz.checked os 4 .any ((OpenSpec.ofChange Rows.codeRenamesSpec).preRow enc Tryz.prog Tryz.f4 Rows.codeRenamesRow.domain false Rows.codeRenamesRow.laid) (((OpenSpec.ofChange Rows.codeRenamesSpec).at F).post enc Tryz.prog Tryz.f4 false true false false) := by
  obtain ⟨places, hx⟩ := reads os enc
  refine returnsInHanded_of_row (C := Tryz.checked) (s := OpenSpec.ofChange Rows.codeRenamesSpec) own started (by kernel_rfl) Tryz.func4
    ⟨(World.laidAll Tryz.prog os Rows.codeRenamesRow.laid), fun _ _ => 0, ⟨#[], #[.agg #[.slice none 0 0], .agg #[.slice none 0 0, .int .i64 0, .int .i64 0, .slice none 0 0, .int .i64 0, .string ByteArray.empty, .slice none 0 0], .slice none 0 0, .agg #[.slice none 0 0, .int .i64 0, .int .i64 0]], []⟩, World.laidAll_os _ _ _, World.shaped_of_ZipB (by kernel_rfl) (by kernel_rfl), rfl, (Input.okWide_of_okWideB (show Input.okWideB Tryz.prog ((World.laidAll Tryz.prog os Rows.codeRenamesRow.laid).forCall (fun _ _ => 0) ⟨#[], #[.agg #[.slice none 0 0], .agg #[.slice none 0 0, .int .i64 0, .int .i64 0, .slice none 0 0, .int .i64 0, .string ByteArray.empty, .slice none 0 0], .slice none 0 0, .agg #[.slice none 0 0, .int .i64 0, .int .i64 0]], []⟩) 4 ⟨#[], #[.agg #[.slice none 0 0], .agg #[.slice none 0 0, .int .i64 0, .int .i64 0, .slice none 0 0, .int .i64 0, .string ByteArray.empty, .slice none 0 0], .slice none 0 0, .agg #[.slice none 0 0, .int .i64 0, .int .i64 0]], []⟩ = true by kernel_rfl)).2,
      OpenSpec.preRow_of_cond 8 hx (by kernel_rfl) (fun k hk => by cases hk) (by kernel_rfl) (laid_met os),
      by simp only [Assume.holds]; exact ⟨by simp, by simp, by simp, by simp, by simp⟩⟩ ?_
  intro W base args ds gs before hval hW _ _ hsz hL _ _
  exact contract H enc W base args ds gs before hval hsz hW hL

theorem said : Rows.CodeRenamesSaid :=
  OpenClaim.holds_of_cond 4 Tryz.f4 rfl rfl rfl rfl rfl rfl rfl ⟨rfl, rfl, rfl, rfl, rfl⟩ rfl rfl rfl rfl rfl (by kernel_rfl) Tryz.func4 (by kernel_rfl)
    (of_decide_eq_true (by kernel_rfl)) (by unfold Func.isWrapper; first | (rw [if_pos (by decide +kernel)]; kernel_rfl) | (rw [if_neg (by decide +kernel)]; exact ⟨rfl, rfl⟩))
    (fun os started H enc _ F => by rw [OpenClaim.pre_eq_preRow]; exact lifted os started H enc F)

theorem plain (f : FuncId) (fn : Func) (hf : Tryz.pinned.checked.prog.funcNamed "sluice/sluicelaw7.CodeRenames" = some f) (hfn : Tryz.pinned.checked.prog.funcs[f]? = some fn) :
    false = Tryz.pinned.checked.prog.looks [] ∧ ∀ (j : Nat) t, fn.params[j]? = some t → Tryz.pinned.checked.prog.wantsStandIn t = false := by
  obtain rfl : f = 4 := Option.some.inj ((show Tryz.prog.funcNamed "sluice/sluicelaw7.CodeRenames" = some 4 by kernel_rfl).symm.trans hf) |>.symm
  obtain rfl : fn = Tryz.f4 := (Option.some.inj (Tryz.func4.symm.trans hfn)).symm
  refine ⟨by kernel_rfl, fun j t ht => ?_⟩
  rw [Tryz.params4] at ht
  have hm : t = 24 ∨ t = 31 ∨ t = 28 ∨ t = 34 := by simpa using Array.mem_of_getElem? ht
  rcases hm with rfl | rfl | rfl | rfl
  · exact (show Tryz.prog.wantsStandIn 24 = false by kernel_rfl)
  · exact (show Tryz.prog.wantsStandIn 31 = false by kernel_rfl)
  · exact (show Tryz.prog.wantsStandIn 28 = false by kernel_rfl)
  · exact (show Tryz.prog.wantsStandIn 34 = false by kernel_rfl)

end Go.Proofs.YtnolbpekdikamaaGreatDoor.codeRenames
namespace Go.Proofs.YtnolbpekdikamaaGreatDoor
theorem codeRenames_holds : Rows.CodeRenamesCardSaid :=
  Claim7.holds_tied_plain_at .later [] _ _ _ _ codeRenames.said (fun _ h => by cases h) (by kernel_rfl) (fun _ h => by cases h) codeRenames_row_tie rfl ⟨rfl, rfl⟩ (by kernel_rfl) rfl codeRenames.plain (by kernel_rfl)
#print axioms codeRenames_holds
end Go.Proofs.YtnolbpekdikamaaGreatDoor
