/- For every text the law ParseLexes returns true: what lex refuses, Parse and Expr refuse with its code, at its place, and answer nothing else. The listed variables hold what their texts lay (the card ties that to the text). No other condition. -/
import Derived.Test.YtccgneegfdggjaaDoorQk
import Derived.Test.YtccgneegfdggjaaDoorQm
import Derived.Test.YtccgneegfdggjaaDoorQn
import Derived.Test.YtccgneegfdggjaaDoorEr
import Derived.Test.YtccgneegfdggjaaDoorCards
import Derived.Test.YtccgneegfdggjaaDoorTie
import Derived.Carry
import Derived.ChangeMaps5
import Derived.SizedLaws
import Derived.Lib.SmallJoins
import Derived.Deep.DeepHandedRow
import Derived.Lay
namespace Go.Proofs.YtccgneegfdggjaaDoor.parseLexes
open Go.ChangeShapes Go.WideShapes Go.ChangeAt Go.RowKit Go.BigFrame
set_option linter.unusedVariables false
set_option linter.unusedSimpArgs false

theorem shapes {w : World} {b : Nat} {vi vw vr si sw sr : Value} (R : Hid (QRows w b noQ noS vi vw vr si sw sr)) :
    ∃ o1 p1 o2 p2 o3 p3 o4 p4 o5 p5 o6 p6, vi = .slice o1 0 p1 ∧ vw = .slice o2 0 p2 ∧ vr = .slice o3 0 p3 ∧ si = .slice o4 0 p4 ∧ sw = .slice o5 0 p5 ∧ sr = .slice o6 0 p6 := by
  have R := R.out
  obtain ⟨l1, n1, e1⟩ := R.its
  obtain ⟨l2, n2, e2, _⟩ := R.ret
  obtain ⟨l3, n3, e3, _⟩ := R.sre
  have h1 : l1.length = 0 := by have := congrArg List.length e1; simpa [noQ] using this
  have h2 : l2.length = 0 := by have := congrArg List.length e2; simpa [noQ] using this
  have h3 : l3.length = 0 := by have := congrArg List.length e3; simpa [noS] using this
  have n1o := n1.out
  have n2o := n2.out
  have n3o := n3.out
  rw [h1] at n1o
  rw [h2] at n2o
  rw [h3] at n3o
  obtain ⟨o1, p1, r1⟩ := own_shape n1o
  obtain ⟨o2, p2, r2⟩ := own_shape R.wh
  obtain ⟨o3, p3, r3⟩ := own_shape n2o
  obtain ⟨o4, p4, r4⟩ := own_shape R.sit
  obtain ⟨o5, p5, r5⟩ := own_shape R.swh
  obtain ⟨o6, p6, r6⟩ := own_shape n3o
  exact ⟨o1, p1, o2, p2, o3, p3, o4, p4, o5, p5, o6, p6, r1, r2, r3, r4, r5, r6⟩
theorem cells_two (u v : World) (cq cs : Array Value) (g : Below ((u.alloc (.cells cq 37)).alloc (.cells cs 40)).heap.size ((u.alloc (.cells cq 37)).alloc (.cells cs 40)) v) :
    (∀ k, v.cell? ⟨u.heap.size, k, none⟩ = cq[k]?) ∧ (∀ k, v.cell? ⟨u.heap.size + 1, k, none⟩ = cs[k]?) ∧ u.heap.size + 1 < v.heap.size ∧ Below u.heap.size u v := by
  have X0 := heap_two u (.cells cq 37) (.cells cs 40) _ rfl
  have X1 : ((u.alloc (.cells cq 37)).alloc (.cells cs 40)).heap[u.heap.size + 1]? = some (.cells cs 40 (0, 0)) := by
    have hz : (u.alloc (.cells cq 37)).heap.size = u.heap.size + 1 := by simp
    rw [← hz]
    exact heap_alloc_new _ _
  have h0 := (g.block _ (lt_of_block X0)).trans X0
  have h1 := (g.block _ (lt_of_block X1)).trans X1
  exact ⟨fun k => by simp [World.cell?, h0], fun k => by simp [World.cell?, h1], lt_of_block h1, gtrans (galloc (galloc (Below.refl _ _) _) _) g⟩
set_option maxRecDepth 100000 in
set_option maxHeartbeats 8000000 in
theorem walk (s : ByteArray) (hs : s.size ≤ 140737488351232) (w : World) (K : KwAt w) (Sg : SgAt w) (E : ErAt w) : Calls Tryd.prog 5 #[.string s] w fun e w' => e = .returned (.bool true) ∧ Below w.heap.size w w' := by
  have c0 := awake_any w K Sg E
  have c1 := fun (u : World) (g : Below w.heap.size w u) => lexLex_any s (by omega) u (K.keep g) (Sg.keep g) (E.keep g)
  have c2 := fun (u : World) (g : Below w.heap.size w u) => parse_call s hs u (K.keep g) (Sg.keep g) (E.keep g)
  have c3 := fun (u : World) (g : Below w.heap.size w u) => expr_call s hs u (K.keep g) (Sg.keep g) (E.keep g)
  by_cases hz : (lexO s).2.1 = 0
  · rw [hz] at c1
    clear c2 c3
    go_enter Tryd.func5, Tryd.ntmps5
    go_wp2_with (first
      | (go_at_call 7; (with_reducible refine c0.mono ?_); rintro e u ⟨rfl, g0⟩)
      | (go_at_call 9; (with_reducible refine (c1 _ g0).mono ?_); rintro e u1 ⟨v1, rfl, _, g1⟩))
    go_ret
    exact ⟨rfl, gtrans g0 g1⟩
  · rw [show paO s = (noQ, noS, (lexO s).2.1, ((lexO s).2.2 : Int)) from if_pos hz] at c2
    rw [show exO s = ([], [], (lexO s).2.1, ((lexO s).2.2 : Int)) from if_pos hz] at c3
    generalize lexO s = z at *
    obtain ⟨ts, cd, pl⟩ := z
    replace c2 : ∀ u, Below w.heap.size w u → Calls Tryd.prog 10 #[.string s] u fun e w' => ∃ vi vw vr si sw sr, e = .returned (.tuple #[.agg #[vi, .int .i64 0, .int .i64 0, vw, .int .i64 0, .string ⟨#[]⟩, vr], .agg #[si, sw, .int .i64 0, .int .i64 0, sr], .int .i64 cd, .int .i64 pl]) ∧ Hid (QRows w' u.heap.size noQ noS vi vw vr si sw sr) ∧ Below u.heap.size u w' := c2
    replace c3 : ∀ u, Below w.heap.size w u → Calls Tryd.prog 8 #[.string s] u fun e w' => ∃ v1 v2, e = .returned (.tuple #[v1, v2, .int .i64 cd, .int .i64 pl]) ∧ w'.ownsRow u.heap.size 59 6 v1 0 (ndsV []) ∧ w'.ownsRow u.heap.size 3 1 v2 0 (intsV []) ∧ Below u.heap.size u w' := c3
    dsimp only at c1 hz
    have c4 : ∀ (u v : World) (b : Nat) (vi vw vr si sw sr : Value), Hid (QRows u b noQ noS vi vw vr si sw sr) → Below u.heap.size u v → Calls Tryd.prog 14 #[.agg #[vi, .int .i64 0, .int .i64 0, vw, .int .i64 0, .string ⟨#[]⟩, vr], .agg #[.slice none 0 0, .int .i64 0, .int .i64 0, .slice none 0 0, .int .i64 0, .string ⟨#[]⟩, .slice none 0 0]] v fun e w' => e = .returned (.bool true) ∧ Below v.heap.size v w' := fun u v b vi vw vr si sw sr R g => sameQuery_true v b 0 noQ noS noS vi vw vr si sw sr _ _ _ _ _ _ (R.out.keep g) (QRows.nil v 0)
    have c5 : ∀ (u v : World) (b : Nat) (vi vw vr si sw sr : Value), Hid (QRows u b noQ noS vi vw vr si sw sr) → Below u.heap.size u v → Calls Tryd.prog 15 #[.agg #[si, sw, .int .i64 0, .int .i64 0, sr], .agg #[.slice none 0 0, .slice none 0 0, .int .i64 0, .int .i64 0, .slice none 0 0]] v fun e w' => e = .returned (.bool true) ∧ Below v.heap.size v w' := fun u v b vi vw vr si sw sr R g => sameSpots_true v b 0 vi vw vr si sw sr _ _ _ _ _ _ noQ noQ noS (R.out.keep g) (QRows.nil v 0)
    go_enter Tryd.func5, Tryd.ntmps5
    go_wp2_with (first
      | (go_at_call 7; (with_reducible refine c0.mono ?_); rintro e u ⟨rfl, g0⟩)
      | (go_at_call 9; (with_reducible refine (c1 _ g0).mono ?_); rintro e u1 ⟨v1, rfl, _, g1⟩; have G1 := gtrans g0 g1)
      | (go_at_call 10; (with_reducible refine (c2 _ G1).mono ?_); rintro e u2 ⟨vi, vw, vr, si, sw, sr, rfl, RW, g2⟩; obtain ⟨o1, p1, o2, p2, o3, p3, o4, p4, o5, p5, o6, p6, rfl, rfl, rfl, rfl, rfl, rfl⟩ := shapes RW; have G2 := gtrans G1 g2)
      | (go_at_call 8; (with_reducible refine (c3 _ (gtrans G2 (galloc (galloc (Below.refl _ _) _) _))).mono ?_); rintro e u3 ⟨x1, x2, rfl, N1, N2, g3'⟩; obtain ⟨a1, k1, rfl⟩ := own_shape N1; obtain ⟨a2, k2, rfl⟩ := own_shape N2; clear N1 N2; obtain ⟨xx, yy, hl, g3⟩ := cells_two _ _ _ _ g3'; have x0 := xx 0; have x1 := xx 1; have x2 := xx 2; have x3 := xx 3; have x4 := xx 4; have x5 := xx 5; have x6 := xx 6; have y0 := yy 0; have y1 := yy 1; have y2 := yy 2; have y3 := yy 3; have y4 := yy 4; simp at x0 x1 x2 x3 x4 x5 x6 y0 y1 y2 y3 y4; clear xx yy g3' c0 c1 c2 c3)
      | (go_at_call 14; (with_reducible refine (c4 _ _ _ _ _ _ _ _ _ RW g3).mono ?_); rintro e u4 ⟨rfl, g4⟩; replace y0 := (g4.cell (p := ⟨u2.heap.size + 1, 0, none⟩) hl).trans y0; replace y1 := (g4.cell (p := ⟨u2.heap.size + 1, 1, none⟩) hl).trans y1; replace y2 := (g4.cell (p := ⟨u2.heap.size + 1, 2, none⟩) hl).trans y2; replace y3 := (g4.cell (p := ⟨u2.heap.size + 1, 3, none⟩) hl).trans y3; replace y4 := (g4.cell (p := ⟨u2.heap.size + 1, 4, none⟩) hl).trans y4)
      | (go_at_call 15; (with_reducible refine (c5 _ _ _ _ _ _ _ _ _ RW (gtrans g3 g4)).mono ?_); rintro e u5 ⟨rfl, g5⟩))
    go_ret
    exact ⟨rfl, gtrans (gtrans (gtrans G2 g3) g4) g5⟩

theorem own : ownKnob Tryd.prog.godebug = none := by kernel_rfl
theorem laidOut : laidOutB Tryd.prog = true := by kernel_rfl

theorem gKw : Tryd.prog.globalNamed "sluice/api.Keywords" = some 2 := by kernel_rfl
theorem tabs {W : World} (h : laidMetH Tryd.prog Rows.parseLexesRow.laid W) : KwAt W := by
  have h0 : laidMet Tryd.prog Rows.parseLexesRow.laid W := (Go.MakeChecks.laidMetH_plain _ _ _ (by kernel_rfl)).mp h
  exact kwAt_of (tabS (bss := kwl) gKw (by kernel_rfl) Tryd.underlying124 Tryd.underlying9 (by kernel_rfl) (laidMet_tail (laidMet_tail (laidMet_tail (laidMet_tail (laidMet_tail h0))))))
theorem gSg : Tryd.prog.globalNamed "sluice/lex.signs" = some 1 := by kernel_rfl
theorem tabSg {W : World} (h : laidMetH Tryd.prog Rows.parseLexesRow.laid W) : SgAt W := by
  have h0 : laidMet Tryd.prog Rows.parseLexesRow.laid W := (Go.MakeChecks.laidMetH_plain _ _ _ (by kernel_rfl)).mp h
  exact sgAt_of (tabS (bss := sgl) gSg (by kernel_rfl) Tryd.underlying123 Tryd.underlying9 (by kernel_rfl) (laidMet_tail (laidMet_tail (laidMet_tail (laidMet_tail (laidMet_tail (laidMet_tail h0)))))))
theorem gEr : Tryd.prog.globalNamed "strconv.ErrRange" = some 5 := by kernel_rfl
theorem tabE {W : World} (h : laidMetH Tryd.prog Rows.parseLexesRow.laid W) : ErAt W := by
  have h0 : laidMet Tryd.prog Rows.parseLexesRow.laid W := (Go.MakeChecks.laidMetH_plain _ _ _ (by kernel_rfl)).mp h
  exact ifaceAt gEr (by kernel_rfl) ⟨_, Tryd.underlying110⟩ (laidMet_tail (laidMet_tail (laidMet_tail h0)))

set_option maxRecDepth 100000 in
theorem contract (H : Type) (enc : TypeId × Value → H) (W : World) (base : Nat) (args : Array Value) (ds gs : List (DataW H)) (before : List MemPlace)
    (hval : ∀ (j : Nat) t v, Tryd.f5.params[j]? = some t → args[j]? = some v → Value.okWide Tryd.prog W .any base t v)
    (hsz : (DataW.weightsEach Tryd.prog (Tryd.f5.params.toList ++ Rows.parseLexesSpec.plain.varTypes Tryd.prog) (ds ++ gs)).all (· ≤ reachBytes) = true)
    (hW : DataW.Whole enc Tryd.prog Tryd.f5.params.toList Rows.parseLexesSpec.vars false W args.toList ds gs before) (hL : laidMetH Tryd.prog Rows.parseLexesRow.laid W) :
    Calls Tryd.prog 5 args W fun e W' => ∃ v, e = .returned v ∧ Rows.parseLexesSpec.post enc Tryd.prog Tryd.f5 false true false false W args v W' := by
  have hW' := hW
  obtain ⟨p, q, hA0, hV, rfl, hfz, hnd⟩ := hW
  have hA : DataW.TrodAll enc Tryd.prog W 0 (fun _ => true) true Tryd.f5.params.toList args.toList ds p := hA0
  rw [Tryd.params5] at hA hval hsz
  obtain ⟨v0, vs0, d0, ds0, p0, q0, hargs, rfl, rfl, h0, r0⟩ := trodAll_cons hA
  obtain ⟨rfl, rfl, rfl⟩ := trodAll_nil r0
  obtain rfl : args = #[v0] := by cases args; simp_all
  obtain ⟨rfl, rfl⟩ := trodVars_none hV
  have k0 := h0
  have lt0 : ∀ x ∈ p0, x.block < W.heap.size := by obtain ⟨m, hm⟩ := k0; exact DataW.trod_lt m _ _ _ hm
  obtain ⟨s0, e0, g0, _, _⟩ := Go.ChangeMaps.open_string Tryd.underlying9 (hval 0 9 v0 rfl rfl) h0
  subst e0
  have w0 : s0.size ≤ 140737488351232 := by
    have h1 := sized_string hsz (j := 0) (t := 9) rfl (congrArg some g0)
    have h2 : s0.data.toList.length = s0.size := Array.length_toList
    unfold reachBytes at h1
    omega
  clear hA0
  refine (walk s0 w0 W (tabs hL) (tabSg hL) (tabE hL)).mono fun e W' ⟨he, bel⟩ => ?_
  subst he
  exact ⟨_, rfl, _, _, _, [], _, [], hW', trodAll_mk1 (shut_bool Tryd.underlying4 _), (trodAll_cons_mk (Below.trod laidOut (by kernel_rfl) (of_decide_eq_true (by kernel_rfl)) k0 bel lt0) trodAll_mk0), rfl, bel.frame _, fun h => by cases h⟩

/-- For the world of the witness: the settled one, the tables holding what their text lays. -/
def put (c : Array Value) : Obj → Obj
  | .cells _ t frozen => .cells c t frozen
  | x => x
theorem laid_met (os : Os) : laidMet Tryd.prog Rows.parseLexesRow.laid ((World.laidAll Tryd.prog os Rows.parseLexesRow.laid).forCall (fun _ _ => 0) ⟨#[], #[.string ByteArray.empty], []⟩).memory :=
  laidMet_laidAll _ (by kernel_rfl) (by kernel_rfl)
theorem reads (os : Os) {H : Type} (enc : TypeId × Value → H) : ∃ places, DataW.whole enc Tryd.prog ((World.laidAll Tryd.prog os Rows.parseLexesRow.laid).forCall (fun _ _ => 0) ⟨#[], #[.string ByteArray.empty], []⟩).memory Tryd.f5.params.toList Rows.parseLexesSpec.vars false (#[.string ByteArray.empty] : Array Value).toList 8 = some ([.lit (.string [])], [], places) :=
  ⟨[], by kernel_rfl⟩

set_option maxRecDepth 100000 in
theorem lifted (os : Os) (started : os.Started) (H : Type) (enc : TypeId × Value → H) (F : Stop.Interp) :
    ReturnsInHanded {} Tryd.checked os 5 .any ((OpenSpec.ofChange Rows.parseLexesSpec).preRow enc Tryd.prog Tryd.f5 Rows.parseLexesRow.domain false Rows.parseLexesRow.laid) (((OpenSpec.ofChange Rows.parseLexesSpec).at F).post enc Tryd.prog Tryd.f5 false true false false) := by
  obtain ⟨places, hx⟩ := reads os enc
  refine returnsInHanded_of_row (C := Tryd.checked) (s := OpenSpec.ofChange Rows.parseLexesSpec) own started (by kernel_rfl) Tryd.func5
    ⟨(World.laidAll Tryd.prog os Rows.parseLexesRow.laid), fun _ _ => 0, ⟨#[], #[.string ByteArray.empty], []⟩, World.laidAll_os _ _ _, World.shaped_of_ZipB (by kernel_rfl) (by kernel_rfl), rfl, (Input.okWide_of_okWideB (show Input.okWideB Tryd.prog ((World.laidAll Tryd.prog os Rows.parseLexesRow.laid).forCall (fun _ _ => 0) ⟨#[], #[.string ByteArray.empty], []⟩) 5 ⟨#[], #[.string ByteArray.empty], []⟩ = true by kernel_rfl)).2,
      OpenSpec.preRow_of_cond 8 hx (by kernel_rfl) (fun k hk => by cases hk) (by kernel_rfl) (laid_met os),
      by simp only [Assume.holds]; exact ⟨by simp, by simp, by simp, by simp, by simp⟩⟩ ?_
  intro W base args ds gs before hval hW _ _ hsz hL _ _
  exact contract H enc W base args ds gs before hval hsz hW hL

theorem said : Rows.ParseLexesSaid :=
  OpenClaim.holds_of_cond 5 Tryd.f5 rfl rfl rfl rfl rfl rfl rfl ⟨rfl, rfl, rfl, rfl, rfl⟩ rfl rfl rfl rfl rfl (by kernel_rfl) Tryd.func5 (by kernel_rfl)
    (of_decide_eq_true (by kernel_rfl)) (by unfold Func.isWrapper; first | (rw [if_pos (by decide +kernel)]; kernel_rfl) | (rw [if_neg (by decide +kernel)]; exact ⟨rfl, rfl⟩))
    (fun os started H enc _ F => by rw [OpenClaim.pre_eq_preRow]; exact lifted os started H enc F)

theorem plain (f : FuncId) (fn : Func) (hf : Tryd.pinned.checked.prog.funcNamed "sluice/sluicelaw4.ParseLexes" = some f) (hfn : Tryd.pinned.checked.prog.funcs[f]? = some fn) :
    true = Tryd.pinned.checked.prog.looks [] ∧ ∀ (j : Nat) t, fn.params[j]? = some t → Tryd.pinned.checked.prog.wantsStandIn t = false := by
  obtain rfl : f = 5 := Option.some.inj ((show Tryd.prog.funcNamed "sluice/sluicelaw4.ParseLexes" = some 5 by kernel_rfl).symm.trans hf) |>.symm
  obtain rfl : fn = Tryd.f5 := (Option.some.inj (Tryd.func5.symm.trans hfn)).symm
  refine ⟨by kernel_rfl, fun j t ht => ?_⟩
  rw [Tryd.params5] at ht
  have hm : t = 9 := by simpa using Array.mem_of_getElem? ht
  rw [hm]
  exact (show Tryd.prog.wantsStandIn 9 = false by kernel_rfl)

end Go.Proofs.YtccgneegfdggjaaDoor.parseLexes
namespace Go.Proofs.YtccgneegfdggjaaDoor
theorem parseLexes_holds : Rows.ParseLexesCardSaid :=
  Claim7.holds_tied_plain_at .later [] _ _ _ _ parseLexes.said (fun _ h => by cases h) (by kernel_rfl) (fun _ h => by cases h) parseLexes_row_tie rfl ⟨rfl, rfl⟩ (by kernel_rfl) rfl parseLexes.plain (by kernel_rfl)
#print axioms parseLexes_holds
end Go.Proofs.YtccgneegfdggjaaDoor
