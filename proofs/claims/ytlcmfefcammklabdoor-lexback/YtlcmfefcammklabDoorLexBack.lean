/- For every list of tokens the law LexBack returns true: those of the list that Lex could give, joined and cut again, are the same tokens, each at its place. The listed variables hold what their texts lay (the card ties that to the text). No other condition. -/
import Derived.Test.YtlcmfefcammklabDoorBk4
import Derived.Test.YtlcmfefcammklabDoorAp
import Derived.Test.YtlcmfefcammklabDoorEr
import Derived.Test.YtlcmfefcammklabDoorCards
import Derived.Test.YtlcmfefcammklabDoorTie
import Derived.Carry
import Derived.ChangeMaps5
import Derived.SizedLaws
import Derived.Lib.SmallJoins
import Derived.Deep.DeepHandedRow
import Derived.Lay
namespace Go.Proofs.YtlcmfefcammklabDoor.lexBack
open Go.ChangeShapes Go.WideShapes Go.ChangeAt Go.RowKit Go.BigFrame
set_option linter.unusedVariables false
set_option linter.unusedSimpArgs false

theorem own_at {w : World} {base g n cap : Nat} {L : List Tok} (h : w.ownsRow base 29 4 (.slice (some ⟨g, 0, none⟩) n cap) n (toksV L)) (hn : L.length = n) {k : Nat} (hk : k < n) :
    w.cell? ⟨g, k * 4, none⟩ = some (.int .i64 (L.getD k noTok).k) ∧ w.cell? ⟨g, k * 4 + 1, none⟩ = some (.string (L.getD k noTok).t) ∧ w.cell? ⟨g, k * 4 + 2, none⟩ = some (.int .i64 (L.getD k noTok).n) ∧ w.cell? ⟨g, k * 4 + 3, none⟩ = some (.int .i64 (L.getD k noTok).a) := by
  have hc : ∀ j, j < 4 → w.cell? ⟨g, k * 4 + j, none⟩ = (tokA (L.getD k noTok)).toList[j]? := fun j hj => by
    rw [World.ownsRow.cellAt h (k * 4 + j) (by omega), toksV_at L k (by omega) j hj]
  exact ⟨hc 0 (by omega), hc 1 (by omega), hc 2 (by omega), hc 3 (by omega)⟩
theorem markL_stay (f : Nat → Tok) (L : List Tok) : ∀ k i, k ≤ i → (markL f L k).getD i noTok = L.getD i noTok := by
  intro k
  induction k with
  | zero => intro i _; rfl
  | succ k ih =>
    intro i h
    show ((markL f L k).set k (f k)).getD i noTok = _
    rw [List.getD_eq_getElem?_getD, List.getElem?_set, if_neg (by omega), ← List.getD_eq_getElem?_getD]
    exact ih i (by omega)

set_option maxRecDepth 100000 in
set_option maxHeartbeats 8000000 in
theorem walk (ao : Option Addr) (cap : Nat) (ts : List Tok) (w : World) (K : KwAt w) (Sg : SgAt w) (E : ErAt w) (P : PwAt w) (Kr : KrAt w) (wc : ts.length ≤ cap) (wn : ao = none → ts.length = 0 ∧ cap = 0) (A : IsToks w ao ts) (wr' : ts.length * 40 ≤ 140737488351232) (ws : ∀ k, (ts.getD k noTok).fit) : Calls Tryd.prog 4 #[.slice ao ts.length cap] w fun e w' => e = .returned (.bool true) ∧ Below w.heap.size w w' := by
  have cC := clean_any ts ao cap (by omega) ws w A Kr
  have hcl := cleanL_len ts ts.length
  have hco := cleanL_could ts ts.length
  generalize cleanL ts ts.length = cs at *
  have hcd : ∀ k, k < cs.length → couldB (cs.getD k noTok) = true := fun k hk => (hco _ (by rw [List.getD_eq_getElem?_getD, List.getElem?_eq_getElem hk]; exact List.getElem_mem _)).1
  have hnn : ∀ k, okN (cs.getD k noTok) := fun k => by
    by_cases hk : k < cs.length
    · obtain ⟨_, _, j, hj⟩ := hco (cs.getD k noTok) (by rw [List.getD_eq_getElem?_getD, List.getElem?_eq_getElem hk]; exact List.getElem_mem _)
      rw [hj]
      exact (ws j).1
    · rw [List.getD_eq_getElem?_getD, List.getElem?_eq_none (by omega)]; exact noTok_fit.1
  obtain ⟨hj1, hj2, hj3⟩ := back_pure cs hcl hcd (fun k => (hnn k).2)
  have h19 : ∀ k, (spS (cs.getD k noTok)).size ≤ 19 := fun k => by
    by_cases h : k < cs.length
    · exact could_len (hcd k h) (hnn k).2
    · rw [List.getD_eq_getElem?_getD, List.getElem?_eq_none (by omega)]; exact (by decide : (spS noTok).size ≤ 19)
  have hsl := fun k => stA_le cs h19 k
  have hst := stA_join cs cs.length
  obtain ⟨n, hn⟩ : ∃ n, cs.length = n := ⟨_, rfl⟩
  have hWl := markL_len (plF cs) cs n
  have hNW : ∀ k, k < (markL (plF cs) cs n).length → okN ((markL (plF cs) cs n).getD k noTok) := fun k hk => by
    rw [markL_at (plF cs) cs n k (by omega) (by omega)]
    exact hnn k
  rw [hn] at hj1 hj2 hj3 hst cC
  have cJ := fun (bo : Option Addr) (c2 : Nat) (u : World) (g : Below w.heap.size w u) (B : IsToks u bo (markL (plF cs) cs n)) => join_any (markL (plF cs) cs n) bo c2 (by omega) hNW (by rw [hWl, hn, hj1]; omega) u B (K.keep g) (Sg.keep g) (P.keep g)
  rw [hWl, hn] at cJ
  have cL := fun (u : World) (g : Below w.heap.size w u) => lexLex_any ⟨(joinU cs n).toArray⟩ (by rw [size_txt]; omega) u (K.keep g) (Sg.keep g) (E.keep g)
  rw [hj3] at cL
  rw [hj1] at cJ
  dsimp only at cL
  rw [hWl, hn] at cL
  have hjs : (⟨(joinU cs n).toArray⟩ : ByteArray).size = (joinU cs n).length := size_txt _
  go_enter Tryd.func4, Tryd.ntmps4
  go_wp2_with (go_at_call 13; (with_reducible refine cC.mono ?_); rintro e u0 ⟨v0, rfl, O0, g0⟩; obtain ⟨vo, vc, rfl⟩ := own_shape O0)
  go_loopw [4, 5] (fun at' i wr => ∃ k : Nat, k ≤ n ∧ i = .int .i64 k ∧ at' = .int .i64 (stA cs k : Nat) ∧ wr.ownsRow w.heap.size 29 4 (.slice vo n vc) n (toksV (markL (plF cs) cs k)) ∧ Below w.heap.size w wr) (fun _ i _ => n - (intOf i).toNat)
  case atStart => exact ⟨0, Nat.zero_le _, rfl, rfl, O0, g0⟩
  case round =>
    obtain ⟨k, hk, rfl, rfl, O, G⟩ := hrel
    have hsk := hsl k
    by_cases hlt : k < n
    · obtain ⟨g, cap', hv, hb, hgl⟩ := O.form (by omega)
      simp only [Value.slice.injEq] at hv
      obtain ⟨rfl, _, rfl⟩ := hv
      obtain ⟨y0, y1, y2, y3⟩ := own_at O ((markL_len _ _ _).trans hn) hlt
      have yf := fun j => World.ownsRow.frozenAt O j
      have hnx := own_place O k (by rw [markL_len, hn]; exact hlt) (stA cs k : Nat)
      rw [markL_stay (plF cs) cs k k (Nat.le_refl _)] at hnx y0 y1 y2 y3
      replace hnx : ((wr.setCell ⟨g, k * 4 + 3, none⟩ (.int .i64 (stA cs k : Nat))).ownsRow w.heap.size 29 4 (.slice (some ⟨g, 0, none⟩) n vc) n (toksV (markL (plF cs) cs (k + 1))) ∧ wr.grownBy (wr.setCell ⟨g, k * 4 + 3, none⟩ (.int .i64 (stA cs k : Nat))) (some g)) := hnx
      obtain ⟨O1, G1⟩ := hnx
      have GB : Below w.heap.size w (wr.setCell ⟨g, k * 4 + 3, none⟩ (.int .i64 (stA cs k : Nat))) := G.grown G1 (by have := G.size; omega) (fun r e => by cases e; exact hb)
      have cS := fun (u9 : World) (g9 : Below w.heap.size w u9) => spell_any (tA (cs.getD k noTok) (stA cs k : Nat)) (hnn k) u9 (K.keep g9) (Sg.keep g9) (P.keep g9)
      rw [spS_tA] at cS
      have h19k := h19 k
      have hnext : Hid (stA cs (k + 1) = stA cs k + (spS (cs.getD k noTok)).size + 1) := rfl
      generalize spS (cs.getD k noTok) = x at *
      generalize cs.getD k noTok = y at *
      replace cS : ∀ u, Below w.heap.size w u → Calls Tryd.prog 9 #[.agg #[.int .i64 y.k, .string y.t, .int .i64 y.n, .int .i64 (stA cs k : Nat)]] u fun e w' => e = .returned (.string x) ∧ Below u.heap.size u w' := cS
      have hxi : (x.size : Int) ≤ 19 := by omega
      have hxj : ((stA cs k : Nat) : Int) ≤ 8000 := by omega
      generalize hsak : stA cs k = sk at *
      go_wp2_with (go_at_call 9; (with_reducible refine (cS _ GB).mono ?_); rintro e5 u5 ⟨rfl, g5⟩)
      go_roundw
      case rel => exact ⟨k + 1, by omega, by go_num, by rw [hnext.out]; go_num, own_keep O1 g5, gtrans GB g5⟩
      case measure => simp [intOf]; omega
    · obtain rfl : k = n := by omega
      generalize markL (plF cs) cs k = W at *
      have hWk : W.length = k := hWl.trans hn
      subst hWk
      obtain ⟨_, _, hv, B⟩ := toks_of_own O
      simp only [Value.slice.injEq, true_and] at hv
      obtain ⟨rfl, rfl⟩ := hv
      have hnone : vo = none → W.length = 0 ∧ vc = 0 := fun e => by
        rcases O.2 with ⟨h1, h2⟩ | ⟨g, c, cur, h1, _⟩
        · simp only [Value.slice.injEq] at h1; exact ⟨h2, h1.2.2⟩
        · simp only [Value.slice.injEq] at h1; rw [h1.1] at e; cases e
      have hjn : (⟨(joinU cs W.length).toArray⟩ : ByteArray).size = (joinU cs W.length).length := size_txt _
      have HST : Hid (stA cs W.length = (joinU cs W.length).length + (if 0 < W.length then 1 else 0)) := hst
      clear hst hsl h19 hnn hcd hco ws hj1 hj3 cC hsk hjs A wn wr' wc O0 g0
      generalize (joinU cs W.length).length = jl at *
      generalize (⟨(joinU cs W.length).toArray⟩ : ByteArray) = jt at *
      generalize stA cs W.length = st at *
      have hW4 : W.length ≤ 400 := by omega
      clear hcl hn hWl
      go_wp2_with (at_builtin; refine wpList_append_toks rfl (.tmp 33) (.tmp 34) rfl rfl vo vc W rfl hnone B (.inr trivial) (by omega) ?_)
      intro v1 w1 O1 H1
      have G1 : Below wr.heap.size wr w1 := (Below.refl _ wr).grown H1 (Nat.le_refl _) (fun r e => by cases e)
      have B1 := gtrans G G1
      obtain ⟨bo, c2, rfl, C⟩ := toks_of_own O1
      have c7 := cJ bo c2 w1 B1 C
      by_cases h0 : 0 < W.length
      · have hst : (st : Int) = (jt.size : Int) + 1 := by have := HST.out; rw [if_pos h0] at this; omega
        have h0i : (0 : Int) < (W.length : Int) := by omega
        have hjb : (jt.size : Int) ≤ 8192 := by omega
        rw [hst]
        clear hst HST
        go_wp2_with (first
          | (go_at_call 14; (with_reducible refine c7.mono ?_); rintro e7 u7 ⟨rfl, g7⟩)
          | (go_at_call 7; (with_reducible refine (cL _ (gtrans B1 g7)).mono ?_); rintro e8 u8 ⟨v8, rfl, O8, g8⟩; obtain ⟨lo, lc, rfl, D⟩ := toks_of_own O8; have s1 := same_true W (by omega) lo vo lc vc u8 D (((B.keep G1).keep g7).keep g8); have s2 := fun (u9 : World) (g9 : Below u8.heap.size u8 u9) => same_true W (by omega) bo vo c2 vc u9 (((C.keep g7).keep g8).keep g9) ((((B.keep G1).keep g7).keep g8).keep g9))
          | (go_at_call_of 15 (Value.slice lo W.length lc); (with_reducible refine s1.mono ?_); rintro e9 u9 ⟨rfl, g9⟩)
          | (go_at_call_of 15 (Value.slice bo W.length c2); (with_reducible refine (s2 _ g9).mono ?_); rintro e10 u10 ⟨rfl, g10⟩))
        go_ret
        exact ⟨by first | rfl | simp, gtrans (gtrans (gtrans (gtrans B1 g7) g8) g9) g10⟩
      · have h0i : ¬ (0 : Int) < (W.length : Int) := by omega
        have d0 : decide ((0 : Int) < (W.length : Int)) = false := decide_eq_false h0i
        clear HST
        go_wp2_with (first
          | (go_at_call 14; (with_reducible refine c7.mono ?_); rintro e7 u7 ⟨rfl, g7⟩)
          | (go_at_call 7; (with_reducible refine (cL _ (gtrans B1 g7)).mono ?_); rintro e8 u8 ⟨v8, rfl, O8, g8⟩; obtain ⟨lo, lc, rfl, D⟩ := toks_of_own O8; have s1 := same_true W (by omega) lo vo lc vc u8 D (((B.keep G1).keep g7).keep g8); have s2 := fun (u9 : World) (g9 : Below u8.heap.size u8 u9) => same_true W (by omega) bo vo c2 vc u9 (((C.keep g7).keep g8).keep g9) ((((B.keep G1).keep g7).keep g8).keep g9))
          | (go_at_call_of 15 (Value.slice lo W.length lc); (with_reducible refine s1.mono ?_); rintro e9 u9 ⟨rfl, g9⟩)
          | (go_at_call_of 15 (Value.slice bo W.length c2); (with_reducible refine (s2 _ g9).mono ?_); rintro e10 u10 ⟨rfl, g10⟩))
        go_ret
        exact ⟨by first | rfl | simp, gtrans (gtrans (gtrans (gtrans B1 g7) g8) g9) g10⟩

theorem own : ownKnob Tryd.prog.godebug = none := by kernel_rfl
theorem laidOut : laidOutB Tryd.prog = true := by kernel_rfl

theorem gKw : Tryd.prog.globalNamed "sluice/api.Keywords" = some 2 := by kernel_rfl
theorem tabs {W : World} (h : laidMetH Tryd.prog Rows.lexBackRow.laid W) : KwAt W := by
  have h0 : laidMet Tryd.prog Rows.lexBackRow.laid W := (Go.MakeChecks.laidMetH_plain _ _ _ (by kernel_rfl)).mp h
  exact kwAt_of (tabS (bss := kwl) gKw (by kernel_rfl) Tryd.underlying51 Tryd.underlying9 (by kernel_rfl) (laidMet_tail (laidMet_tail (laidMet_tail (laidMet_tail (laidMet_tail h0))))))
theorem gKr : Tryd.prog.globalNamed "sluice/sluiceref3.Keywords" = some 4 := by kernel_rfl
theorem tabR {W : World} (h : laidMetH Tryd.prog Rows.lexBackRow.laid W) : KrAt W := by
  have h0 : laidMet Tryd.prog Rows.lexBackRow.laid W := (Go.MakeChecks.laidMetH_plain _ _ _ (by kernel_rfl)).mp h
  exact krAt_of (tabS (bss := kwl) gKr (by kernel_rfl) Tryd.underlying51 Tryd.underlying9 (by kernel_rfl) (laidMet_tail (laidMet_tail (laidMet_tail (laidMet_tail (laidMet_tail (laidMet_tail h0)))))))
theorem gSg : Tryd.prog.globalNamed "sluice/lex.signs" = some 1 := by kernel_rfl
theorem tabSg {W : World} (h : laidMetH Tryd.prog Rows.lexBackRow.laid W) : SgAt W := by
  have h0 : laidMet Tryd.prog Rows.lexBackRow.laid W := (Go.MakeChecks.laidMetH_plain _ _ _ (by kernel_rfl)).mp h
  exact sgAt_of (tabS (bss := sgl) gSg (by kernel_rfl) Tryd.underlying50 Tryd.underlying9 (by kernel_rfl) (laidMet_tail (laidMet_tail (laidMet_tail (laidMet_tail (laidMet_tail (laidMet_tail (laidMet_tail h0))))))))
theorem gEr : Tryd.prog.globalNamed "strconv.ErrRange" = some 7 := by kernel_rfl
theorem tabE {W : World} (h : laidMetH Tryd.prog Rows.lexBackRow.laid W) : ErAt W := by
  have h0 : laidMet Tryd.prog Rows.lexBackRow.laid W := (Go.MakeChecks.laidMetH_plain _ _ _ (by kernel_rfl)).mp h
  exact ifaceAt gEr (by kernel_rfl) ⟨_, Tryd.underlying58⟩ (laidMet_tail (laidMet_tail (laidMet_tail h0)))
theorem tabP {W : World} (h : laidMetH Tryd.prog Rows.lexBackRow.laid W) : PwAt W := by
  have h0 : laidMet Tryd.prog Rows.lexBackRow.laid W := (Go.MakeChecks.laidMetH_plain _ _ _ (by kernel_rfl)).mp h
  exact Lib.tabIs_of_head (g := 5) (t := 87) (e := 41) (n := 20) (by kernel_rfl) (by kernel_rfl) (by kernel_rfl) (by kernel_rfl) (by kernel_rfl) (by kernel_rfl) (laidMet_tail (laidMet_tail h0))

set_option maxRecDepth 100000 in
theorem contract (H : Type) (enc : TypeId × Value → H) (W : World) (base : Nat) (args : Array Value) (ds gs : List (DataW H)) (before : List MemPlace)
    (hval : ∀ (j : Nat) t v, Tryd.f4.params[j]? = some t → args[j]? = some v → Value.okWide Tryd.prog W .any base t v)
    (hsz : (DataW.weightsEach Tryd.prog (Tryd.f4.params.toList ++ Rows.lexBackSpec.plain.varTypes Tryd.prog) (ds ++ gs)).all (· ≤ reachBytes) = true)
    (hW : DataW.Whole enc Tryd.prog Tryd.f4.params.toList Rows.lexBackSpec.vars false W args.toList ds gs before) (hL : laidMetH Tryd.prog Rows.lexBackRow.laid W) :
    Calls Tryd.prog 4 args W fun e W' => ∃ v, e = .returned v ∧ Rows.lexBackSpec.post enc Tryd.prog Tryd.f4 false true false false W args v W' := by
  have hW' := hW
  obtain ⟨p, q, hA0, hV, rfl, hfz, hnd⟩ := hW
  have hA : DataW.TrodAll enc Tryd.prog W 0 (fun _ => true) true Tryd.f4.params.toList args.toList ds p := hA0
  rw [Tryd.params4] at hA hval hsz
  obtain ⟨v0, vs0, d0, ds0, p0, q0, hargs, rfl, rfl, h0, r0⟩ := trodAll_cons hA
  obtain ⟨rfl, rfl, rfl⟩ := trodAll_nil r0
  obtain rfl : args = #[v0] := by cases args; simp_all
  obtain ⟨rfl, rfl⟩ := trodVars_none hV
  have k0 := h0
  have lt0 : ∀ x ∈ p0, x.block < W.heap.size := by obtain ⟨m, hm⟩ := k0; exact DataW.trod_lt m _ _ _ hm
  obtain ⟨ao0, cap0, ts0, e0, wc0, wn0, w0, wr0, ws0⟩ : ∃ ao cap ts, v0 = .slice ao ts.length cap ∧ ts.length ≤ cap ∧ (ao = none → ts.length = 0 ∧ cap = 0) ∧ IsToks W ao ts ∧ ts.length * 40 ≤ 140737488351232 ∧ ∀ k, (ts.getD k noTok).fit := by
    obtain ⟨a, len, cap, e⟩ := okWide_slice Tryd.underlying23 (hval 0 23 v0 rfl rfl)
    subst e
    obtain ⟨fuel, hf⟩ := h0
    have hf' : DataW.trod enc Tryd.prog W 0 (fun _ => true) true fuel 23 [.slice a len cap] = some (d0, p0) := hf
    exact open_toks hf' (fun b hb => by
      have h1 := List.all_eq_true.1 hsz b (DataW.weights_mem_each (j := 0) (t := 23) rfl rfl b hb)
      simpa using h1)
  subst e0
  clear hA0
  refine (walk ao0 cap0 ts0 W (tabs hL) (tabSg hL) (tabE hL) (tabP hL) (tabR hL) wc0 wn0 w0 wr0 ws0).mono fun e W' ⟨he, bel⟩ => ?_
  subst he
  exact ⟨_, rfl, _, _, _, [], _, [], hW', trodAll_mk1 (shut_bool Tryd.underlying4 _), (trodAll_cons_mk (Below.trod laidOut (by kernel_rfl) (of_decide_eq_true (by kernel_rfl)) k0 bel lt0) trodAll_mk0), rfl, bel.frame _, fun h => by cases h⟩

/-- For the world of the witness: the settled one, the tables holding what their text lays. -/
def put (c : Array Value) : Obj → Obj
  | .cells _ t frozen => .cells c t frozen
  | x => x
theorem laid_met (os : Os) : laidMet Tryd.prog Rows.lexBackRow.laid ((World.laidAll Tryd.prog os Rows.lexBackRow.laid).forCall (fun _ _ => 0) ⟨#[], #[.slice none 0 0], []⟩).memory :=
  laidMet_laidAll _ (by kernel_rfl) (by kernel_rfl)
theorem reads (os : Os) {H : Type} (enc : TypeId × Value → H) : ∃ places, DataW.whole enc Tryd.prog ((World.laidAll Tryd.prog os Rows.lexBackRow.laid).forCall (fun _ _ => 0) ⟨#[], #[.slice none 0 0], []⟩).memory Tryd.f4.params.toList Rows.lexBackSpec.vars false (#[.slice none 0 0] : Array Value).toList 8 = some ([.nil], [], places) :=
  ⟨[], by kernel_rfl⟩

set_option maxRecDepth 100000 in
theorem lifted (os : Os) (started : os.Started) (H : Type) (enc : TypeId × Value → H) (F : Stop.Interp) :
    ReturnsInHanded {} Tryd.checked os 4 .any ((OpenSpec.ofChange Rows.lexBackSpec).preRow enc Tryd.prog Tryd.f4 Rows.lexBackRow.domain false Rows.lexBackRow.laid) (((OpenSpec.ofChange Rows.lexBackSpec).at F).post enc Tryd.prog Tryd.f4 false true false false) := by
  obtain ⟨places, hx⟩ := reads os enc
  refine returnsInHanded_of_row (C := Tryd.checked) (s := OpenSpec.ofChange Rows.lexBackSpec) own started (by kernel_rfl) Tryd.func4
    ⟨(World.laidAll Tryd.prog os Rows.lexBackRow.laid), fun _ _ => 0, ⟨#[], #[.slice none 0 0], []⟩, World.laidAll_os _ _ _, World.shaped_of_ZipB (by kernel_rfl) (by kernel_rfl), rfl, (Input.okWide_of_okWideB (show Input.okWideB Tryd.prog ((World.laidAll Tryd.prog os Rows.lexBackRow.laid).forCall (fun _ _ => 0) ⟨#[], #[.slice none 0 0], []⟩) 4 ⟨#[], #[.slice none 0 0], []⟩ = true by kernel_rfl)).2,
      OpenSpec.preRow_of_cond 8 hx (by kernel_rfl) (fun k hk => by cases hk) (by kernel_rfl) (laid_met os),
      by simp only [Assume.holds]; exact ⟨by simp, by simp, by simp, by simp, by simp⟩⟩ ?_
  intro W base args ds gs before hval hW _ _ hsz hL _ _
  exact contract H enc W base args ds gs before hval hsz hW hL

theorem said : Rows.LexBackSaid :=
  OpenClaim.holds_of_cond 4 Tryd.f4 rfl rfl rfl rfl rfl rfl rfl ⟨rfl, rfl, rfl, rfl, rfl⟩ rfl rfl rfl rfl rfl (by kernel_rfl) Tryd.func4 (by kernel_rfl)
    (of_decide_eq_true (by kernel_rfl)) (by unfold Func.isWrapper; first | (rw [if_pos (by decide +kernel)]; kernel_rfl) | (rw [if_neg (by decide +kernel)]; exact ⟨rfl, rfl⟩))
    (fun os started H enc _ F => by rw [OpenClaim.pre_eq_preRow]; exact lifted os started H enc F)

theorem plain (f : FuncId) (fn : Func) (hf : Tryd.pinned.checked.prog.funcNamed "sluice/sluicelaw3.LexBack" = some f) (hfn : Tryd.pinned.checked.prog.funcs[f]? = some fn) :
    true = Tryd.pinned.checked.prog.looks [] ∧ ∀ (j : Nat) t, fn.params[j]? = some t → Tryd.pinned.checked.prog.wantsStandIn t = false := by
  obtain rfl : f = 4 := Option.some.inj ((show Tryd.prog.funcNamed "sluice/sluicelaw3.LexBack" = some 4 by kernel_rfl).symm.trans hf) |>.symm
  obtain rfl : fn = Tryd.f4 := (Option.some.inj (Tryd.func4.symm.trans hfn)).symm
  refine ⟨by kernel_rfl, fun j t ht => ?_⟩
  rw [Tryd.params4] at ht
  have hm : t = 23 := by simpa using Array.mem_of_getElem? ht
  rw [hm]
  exact (show Tryd.prog.wantsStandIn 23 = false by kernel_rfl)

end Go.Proofs.YtlcmfefcammklabDoor.lexBack
namespace Go.Proofs.YtlcmfefcammklabDoor
theorem lexBack_holds : Rows.LexBackCardSaid :=
  Claim7.holds_tied_plain_at .later [] _ _ _ _ lexBack.said (fun _ h => by cases h) (by kernel_rfl) (fun _ h => by cases h) lexBack_row_tie rfl ⟨rfl, rfl⟩ (by kernel_rfl) rfl lexBack.plain (by kernel_rfl)
#print axioms lexBack_holds
end Go.Proofs.YtlcmfefcammklabDoor
