/- For every text and every number the law LexCuts returns true: cut ahead of a token, or at an error, a text is well, and has the tokens ahead of the cut. The listed variables hold what their texts lay (the card ties that to the text). No other condition. -/
import Derived.Test.YtlcmfefcammklaaDoorAl
import Derived.Test.YtlcmfefcammklaaDoorEr
import Derived.Test.YtlcmfefcammklaaDoorCards
import Derived.Test.YtlcmfefcammklaaDoorTie
import Derived.Carry
import Derived.ChangeMaps5
import Derived.SizedLaws
import Derived.Lib.SmallJoins
import Derived.Deep.DeepHandedRow
import Derived.Lay
namespace Go.Proofs.YtlcmfefcammklaaDoor.lexCuts
open Go.ChangeShapes Go.WideShapes Go.ChangeAt Go.RowKit Go.BigFrame
set_option linter.unusedVariables false
set_option linter.unusedSimpArgs false

theorem own_cap {w : World} {base : Nat} {e : TypeId} {size : Nat} {ao : Option Addr} {n cap : Nat} {xs : List Value} (h : w.ownsRow base e size (.slice ao n cap) n xs) : n ≤ cap := by
  rcases h.2 with ⟨h1, h2⟩ | ⟨g, c, cur, h1, _, _, h2, _⟩
  · omega
  · simp only [Value.slice.injEq] at h1
    omega
theorem toks_take {w : World} {ao : Option Addr} {ts : List Tok} (h : IsToks w ao ts) (k : Nat) : IsToks w ao (ts.take k) := fun i hi => by
  rw [List.length_take] at hi
  obtain ⟨g, o, e, a0, a1, a2, a3⟩ := h i (by omega)
  have hg : (ts.take k).getD i noTok = ts.getD i noTok := by
    rw [List.getD_eq_getElem?_getD, List.getD_eq_getElem?_getD, List.getElem?_take, if_pos (by omega)]
  rw [hg]
  exact ⟨g, o, e, a0, a1, a2, a3⟩

set_option maxRecDepth 100000 in
set_option maxHeartbeats 4000000 in
theorem walk (s : ByteArray) (hs : s.size ≤ 140737488351232) (k : Int) (hk : (Lit.int .i64 k).wf = true) (w : World) (K : KwAt w) (Sg : SgAt w) (E : ErAt w) : Calls Tryd.prog 5 #[.string s, .int .i64 k] w fun e w' => e = .returned (.bool true) ∧ Below w.heap.size w w' := by
  have cA := alive_any w K Sg E
  have cL := fun (x : ByteArray) (hx : x.size ≤ 9223372036854775807) (u : World) (g : Below w.heap.size w u) => lexLex_any x hx u (K.keep g) (Sg.keep g) (E.keep g)
  rcases lexO_cases s with ⟨hb, he⟩ | ⟨hb, us, hP, he⟩ | ⟨hb, q, us, c, hP, hq, ⟨hc0, hc30⟩, he⟩
  · have c1 := cL s (by omega)
    rw [he] at c1
    dsimp only at c1
    have h1 : (8192 : Int) < (s.size : Int) := by omega
    clear cL he
    go_enter Tryd.func5, Tryd.ntmps5
    go_wp2_with (first
      | (go_at_call 11; with_reducible refine cA.mono ?_; rintro e u ⟨rfl, g0⟩)
      | (go_at_call 10; with_reducible refine (c1 _ g0).mono ?_; rintro e u1 ⟨v1, rfl, O1, g1⟩))
    go_ret
    exact ⟨by first | rfl | simp, gtrans g0 g1⟩
  · have c1 := cL s (by omega)
    rw [he] at c1
    dsimp only at c1
    have hlen : us.length ≤ 400 := by have := lexO_len s; rw [he] at this; exact this
    clear he
    have h1 : (s.size : Int) ≤ 8192 := by omega
    by_cases hk0 : k < 0 ∨ (us.length : Int) ≤ k
    · clear cL
      go_enter Tryd.func5, Tryd.ntmps5
      rcases hk0 with hk0 | hk0
      all_goals
        go_wp2_with (first
          | (go_at_call 11; with_reducible refine cA.mono ?_; rintro e u ⟨rfl, g0⟩)
          | (go_at_call 10; with_reducible refine (c1 _ g0).mono ?_; rintro e u1 ⟨v1, rfl, O1, g1⟩; obtain ⟨ao, cap, rfl, A⟩ := toks_of_own O1))
        go_ret
        exact ⟨by first | rfl | simp, gtrans g0 g1⟩
    · obtain ⟨j, rfl⟩ : ∃ j : Nat, k = (j : Int) := ⟨k.toNat, by omega⟩
      have hj : j < us.length := by omega
      obtain ⟨r, hr, hrs, hP2⟩ := hP.tok j (Nat.zero_le _) hj
      have c2 := cL (s.extract 0 r) (by rw [ByteArray.size_extract]; omega)
      rw [lexO_cut hb (by omega) hP2] at c2
      dsimp only at c2
      have hr0 : (r : Int) ≤ (s.size : Int) := by omega
      have hjl : (j : Int) < (us.length : Int) := by omega
      have hjc : (us.take j).length = j := by rw [List.length_take]; omega
      clear cL hP hP2
      go_enter Tryd.func5, Tryd.ntmps5
      go_wp2_with (first
        | (go_at_call 11; with_reducible refine cA.mono ?_; rintro e u ⟨rfl, g0⟩)
        | (go_at_call_of 10 (s.extract 0 r); (with_reducible refine (c2 _ (gtrans g0 g1)).mono ?_); rintro e u2 ⟨v2, rfl, O2, g2⟩; obtain ⟨bo, cap2, rfl, B⟩ := toks_of_own O2; have c3 := same_true (us.take j) (by omega) bo (some ⟨g, o, none⟩) cap2 cap u2 B (toks_take (A.keep g2) j); rw [hjc] at c3)
        | (go_at_call_of 10 s; (with_reducible refine (c1 _ g0).mono ?_); rintro e u1 ⟨v1, rfl, O1, g1⟩; obtain ⟨ao, cap, rfl, A⟩ := toks_of_own O1; have hcap : (j : Int) ≤ (cap : Int) := (by have := own_cap O1; omega); obtain ⟨g, o, rfl, x0, x1, x2, x3⟩ := A j hj; rw [hr] at x3)
        | (go_at_call 12; (with_reducible refine c3.mono ?_); rintro e u3 ⟨rfl, g3⟩))
      go_ret
      exact ⟨by first | rfl | simp, gtrans (gtrans (gtrans g0 g1) g2) g3⟩
  · have c1 := cL s (by omega)
    rw [he] at c1
    dsimp only at c1
    have c2 := cL (s.extract 0 q) (by rw [ByteArray.size_extract]; omega)
    rw [lexO_cut hb (by omega) hP] at c2
    dsimp only at c2
    have h1 : (s.size : Int) ≤ 8192 := by omega
    have h2 : (q : Int) < (s.size : Int) := by omega
    have h3 : (c == 30) = false := by simpa using hc30
    have h4 : (c != 0) = true := by simpa using hc0
    clear cL he hP
    go_enter Tryd.func5, Tryd.ntmps5
    go_wp2_with (first
      | (go_at_call 11; with_reducible refine cA.mono ?_; rintro e u ⟨rfl, g0⟩)
      | (go_at_call_of 10 (s.extract 0 q); with_reducible refine (c2 _ (gtrans g0 g1)).mono ?_; rintro e u2 ⟨v2, rfl, O2, g2⟩)
      | (go_at_call_of 10 s; with_reducible refine (c1 _ g0).mono ?_; rintro e u1 ⟨v1, rfl, O1, g1⟩; obtain ⟨ao, cap, rfl, A⟩ := toks_of_own O1))
    go_ret
    exact ⟨by first | rfl | simp, gtrans (gtrans g0 g1) g2⟩

theorem own : ownKnob Tryd.prog.godebug = none := by kernel_rfl
theorem laidOut : laidOutB Tryd.prog = true := by kernel_rfl

theorem gKw : Tryd.prog.globalNamed "sluice/api.Keywords" = some 1 := by kernel_rfl
theorem tabs {W : World} (h : laidMetH Tryd.prog Rows.lexCutsRow.laid W) : KwAt W := by
  have h0 : laidMet Tryd.prog Rows.lexCutsRow.laid W := (Go.MakeChecks.laidMetH_plain _ _ _ (by kernel_rfl)).mp h
  exact kwAt_of (tabS (bss := kwl) gKw (by kernel_rfl) Tryd.underlying46 Tryd.underlying9 (by kernel_rfl) (laidMet_tail (laidMet_tail (laidMet_tail (laidMet_tail (laidMet_tail h0))))))
theorem gSg : Tryd.prog.globalNamed "sluice/lex.signs" = some 0 := by kernel_rfl
theorem tabSg {W : World} (h : laidMetH Tryd.prog Rows.lexCutsRow.laid W) : SgAt W := by
  have h0 : laidMet Tryd.prog Rows.lexCutsRow.laid W := (Go.MakeChecks.laidMetH_plain _ _ _ (by kernel_rfl)).mp h
  exact sgAt_of (tabS (bss := sgl) gSg (by kernel_rfl) Tryd.underlying45 Tryd.underlying9 (by kernel_rfl) (laidMet_tail (laidMet_tail (laidMet_tail (laidMet_tail (laidMet_tail (laidMet_tail h0)))))))
theorem gEr : Tryd.prog.globalNamed "strconv.ErrRange" = some 6 := by kernel_rfl
theorem tabE {W : World} (h : laidMetH Tryd.prog Rows.lexCutsRow.laid W) : ErAt W := by
  have h0 : laidMet Tryd.prog Rows.lexCutsRow.laid W := (Go.MakeChecks.laidMetH_plain _ _ _ (by kernel_rfl)).mp h
  exact ifaceAt gEr (by kernel_rfl) ⟨_, Tryd.underlying51⟩ (laidMet_tail (laidMet_tail (laidMet_tail h0)))

set_option maxRecDepth 100000 in
theorem contract (H : Type) (enc : TypeId × Value → H) (W : World) (base : Nat) (args : Array Value) (ds gs : List (DataW H)) (before : List MemPlace)
    (hval : ∀ (j : Nat) t v, Tryd.f5.params[j]? = some t → args[j]? = some v → Value.okWide Tryd.prog W .any base t v)
    (hsz : (DataW.weightsEach Tryd.prog (Tryd.f5.params.toList ++ Rows.lexCutsSpec.plain.varTypes Tryd.prog) (ds ++ gs)).all (· ≤ reachBytes) = true)
    (hW : DataW.Whole enc Tryd.prog Tryd.f5.params.toList Rows.lexCutsSpec.vars false W args.toList ds gs before) (hL : laidMetH Tryd.prog Rows.lexCutsRow.laid W) :
    Calls Tryd.prog 5 args W fun e W' => ∃ v, e = .returned v ∧ Rows.lexCutsSpec.post enc Tryd.prog Tryd.f5 false true false false W args v W' := by
  have hW' := hW
  obtain ⟨p, q, hA0, hV, rfl, hfz, hnd⟩ := hW
  have hA : DataW.TrodAll enc Tryd.prog W 0 (fun _ => true) true Tryd.f5.params.toList args.toList ds p := hA0
  rw [Tryd.params5] at hA hval hsz
  obtain ⟨v0, vs0, d0, ds0, p0, q0, hargs, rfl, rfl, h0, r0⟩ := trodAll_cons hA
  obtain ⟨v1, vs1, d1, ds1, p1, q1, rfl, rfl, rfl, h1, r1⟩ := trodAll_cons r0
  obtain ⟨rfl, rfl, rfl⟩ := trodAll_nil r1
  obtain rfl : args = #[v0, v1] := by cases args; simp_all
  obtain ⟨rfl, rfl⟩ := trodVars_none hV
  have k0 := h0
  have lt0 : ∀ x ∈ p0, x.block < W.heap.size := by obtain ⟨m, hm⟩ := k0; exact DataW.trod_lt m _ _ _ hm
  obtain ⟨s0, e0, g0, _, _⟩ := Go.ChangeMaps.open_string Tryd.underlying9 (hval 0 9 v0 rfl rfl) h0
  subst e0
  have w0 : s0.size ≤ 140737488351232 := by
    have h1 := sized_string hsz (j := 0) (t := 9) rfl (congrArg some g0)
    have h2 : s0.data.toList.length = s0.size := Array.length_toList
    unfold reachBytes at h1
    omega
  have k1 := h1
  have lt1 : ∀ x ∈ p1, x.block < W.heap.size := by obtain ⟨m, hm⟩ := k1; exact DataW.trod_lt m _ _ _ hm
  obtain ⟨a1, e1, _, _, w1⟩ := open_int Tryd.underlying3 (hval 1 3 v1 rfl rfl) h1
  subst e1
  clear hA0
  refine (walk s0 w0 a1 w1 W (tabs hL) (tabSg hL) (tabE hL)).mono fun e W' ⟨he, bel⟩ => ?_
  subst he
  exact ⟨_, rfl, _, _, _, [], _, [], hW', trodAll_mk1 (shut_bool Tryd.underlying4 _), (trodAll_cons_mk (Below.trod laidOut (by kernel_rfl) (of_decide_eq_true (by kernel_rfl)) k0 bel lt0) (trodAll_cons_mk (Below.trod laidOut (by kernel_rfl) (of_decide_eq_true (by kernel_rfl)) k1 bel lt1) trodAll_mk0)), rfl, bel.frame _, fun h => by cases h⟩

/-- For the world of the witness: the settled one, the tables holding what their text lays. -/
def put (c : Array Value) : Obj → Obj
  | .cells _ t frozen => .cells c t frozen
  | x => x
theorem laid_met (os : Os) : laidMet Tryd.prog Rows.lexCutsRow.laid ((World.laidAll Tryd.prog os Rows.lexCutsRow.laid).forCall (fun _ _ => 0) ⟨#[], #[.string ByteArray.empty, .int .i64 0], []⟩).memory :=
  laidMet_laidAll _ (by kernel_rfl) (by kernel_rfl)
theorem reads (os : Os) {H : Type} (enc : TypeId × Value → H) : ∃ places, DataW.whole enc Tryd.prog ((World.laidAll Tryd.prog os Rows.lexCutsRow.laid).forCall (fun _ _ => 0) ⟨#[], #[.string ByteArray.empty, .int .i64 0], []⟩).memory Tryd.f5.params.toList Rows.lexCutsSpec.vars false (#[.string ByteArray.empty, .int .i64 0] : Array Value).toList 8 = some ([.lit (.string []), .lit (.int .i64 0)], [], places) :=
  ⟨[], by kernel_rfl⟩

set_option maxRecDepth 100000 in
theorem lifted (os : Os) (started : os.Started) (H : Type) (enc : TypeId × Value → H) (F : Stop.Interp) :
    ReturnsInHanded {} Tryd.checked os 5 .any ((OpenSpec.ofChange Rows.lexCutsSpec).preRow enc Tryd.prog Tryd.f5 Rows.lexCutsRow.domain false Rows.lexCutsRow.laid) (((OpenSpec.ofChange Rows.lexCutsSpec).at F).post enc Tryd.prog Tryd.f5 false true false false) := by
  obtain ⟨places, hx⟩ := reads os enc
  refine returnsInHanded_of_row (C := Tryd.checked) (s := OpenSpec.ofChange Rows.lexCutsSpec) own started (by kernel_rfl) Tryd.func5
    ⟨(World.laidAll Tryd.prog os Rows.lexCutsRow.laid), fun _ _ => 0, ⟨#[], #[.string ByteArray.empty, .int .i64 0], []⟩, World.laidAll_os _ _ _, World.shaped_of_ZipB (by kernel_rfl) (by kernel_rfl), rfl, (Input.okWide_of_okWideB (show Input.okWideB Tryd.prog ((World.laidAll Tryd.prog os Rows.lexCutsRow.laid).forCall (fun _ _ => 0) ⟨#[], #[.string ByteArray.empty, .int .i64 0], []⟩) 5 ⟨#[], #[.string ByteArray.empty, .int .i64 0], []⟩ = true by kernel_rfl)).2,
      OpenSpec.preRow_of_cond 8 hx (by kernel_rfl) (fun k hk => by cases hk) (by kernel_rfl) (laid_met os),
      by simp only [Assume.holds]; exact ⟨by simp, by simp, by simp, by simp, by simp⟩⟩ ?_
  intro W base args ds gs before hval hW _ _ hsz hL _ _
  exact contract H enc W base args ds gs before hval hsz hW hL

theorem said : Rows.LexCutsSaid :=
  OpenClaim.holds_of_cond 5 Tryd.f5 rfl rfl rfl rfl rfl rfl rfl ⟨rfl, rfl, rfl, rfl, rfl⟩ rfl rfl rfl rfl rfl (by kernel_rfl) Tryd.func5 (by kernel_rfl)
    (of_decide_eq_true (by kernel_rfl)) (by unfold Func.isWrapper; first | (rw [if_pos (by decide +kernel)]; kernel_rfl) | (rw [if_neg (by decide +kernel)]; exact ⟨rfl, rfl⟩))
    (fun os started H enc _ F => by rw [OpenClaim.pre_eq_preRow]; exact lifted os started H enc F)

theorem plain (f : FuncId) (fn : Func) (hf : Tryd.pinned.checked.prog.funcNamed "sluice/sluicelaw3.LexCuts" = some f) (hfn : Tryd.pinned.checked.prog.funcs[f]? = some fn) :
    true = Tryd.pinned.checked.prog.looks [] ∧ ∀ (j : Nat) t, fn.params[j]? = some t → Tryd.pinned.checked.prog.wantsStandIn t = false := by
  obtain rfl : f = 5 := Option.some.inj ((show Tryd.prog.funcNamed "sluice/sluicelaw3.LexCuts" = some 5 by kernel_rfl).symm.trans hf) |>.symm
  obtain rfl : fn = Tryd.f5 := (Option.some.inj (Tryd.func5.symm.trans hfn)).symm
  refine ⟨by kernel_rfl, fun j t ht => ?_⟩
  rw [Tryd.params5] at ht
  have hm : t = 9 ∨ t = 3 := by simpa using Array.mem_of_getElem? ht
  rcases hm with rfl | rfl
  · exact (show Tryd.prog.wantsStandIn 9 = false by kernel_rfl)
  · exact (show Tryd.prog.wantsStandIn 3 = false by kernel_rfl)

end Go.Proofs.YtlcmfefcammklaaDoor.lexCuts
namespace Go.Proofs.YtlcmfefcammklaaDoor
theorem lexCuts_holds : Rows.LexCutsCardSaid :=
  Claim7.holds_tied_plain_at .later [] _ _ _ _ lexCuts.said (fun _ h => by cases h) (by kernel_rfl) (fun _ h => by cases h) lexCuts_row_tie rfl ⟨rfl, rfl⟩ (by kernel_rfl) rfl lexCuts.plain (by kernel_rfl)
#print axioms lexCuts_holds
end Go.Proofs.YtlcmfefcammklaaDoor
