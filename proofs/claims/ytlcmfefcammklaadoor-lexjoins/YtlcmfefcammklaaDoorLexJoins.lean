/- For every list of tokens the law LexJoins returns true: lex's Spell and Join write what the document's do, and leave the list as it was. The listed variables hold what their texts lay (the card ties that to the text). No other condition. -/
import Derived.Test.YtlcmfefcammklaaDoorBy
import Derived.Test.YtlcmfefcammklaaDoorRj
import Derived.Test.YtlcmfefcammklaaDoorOpenT
import Derived.Test.YtlcmfefcammklaaDoorAl
import Derived.Test.YtlcmfefcammklaaDoorEr
import Derived.Test.YtlcmfefcammklaaDoorCards
import Derived.Test.YtlcmfefcammklaaDoorTie
import Derived.Carry
import Derived.ChangeMaps5
import Derived.SizedLaws
import Derived.Lib.SmallJoins
import Derived.Deep.DeepHandedRow
import Derived.Lay
namespace Go.Proofs.YtlcmfefcammklaaDoor.lexJoins
open Go.ChangeShapes Go.WideShapes Go.ChangeAt Go.RowKit Go.BigFrame
set_option linter.unusedVariables false
set_option linter.unusedSimpArgs false

/-- append of a whole list that came in onto nothing. -/
theorem wpList_append_toks {w : World} {ops : Array Oper} {rest : List Oper} {o : Oper} {a : Act} {Q : Exit → Act → World → Prop} (hgd : o.guard = none) (s x : Operand)
    (ho : o.op = .call { callee := .builtin .append, args := #[s, x], argTypes := #[24, 24] }) (hs : a.eval s = .slice none 0 0)
    (ao : Option Addr) (cap : Nat) (ts : List Tok) (hx : a.eval x = .slice ao ts.length cap) (hnone : ao = none → ts.length = 0 ∧ cap = 0) (A : IsToks w ao ts) (hspot : ts.length ≠ 0 ∨ True) (hl : ts.length ≤ 200000000)
    (h : ∀ v' w', w'.ownsRow w.heap.size 30 4 v' ts.length (toksV ts) → w.grownBy w' none → wpList Tryd.prog ops Q rest (a.put o.dst v') w') : wpList Tryd.prog ops Q (o :: rest) a w := by
  obtain ⟨i3, ti, tz0, tz1, tz2⟩ := info_partsTk
  have hlen : (toksV ts).length = ts.length * 4 := by
    clear A hx h hl hspot hnone
    induction ts with
    | nil => rfl
    | cons y r ih =>
      have e : toksV (y :: r) = (tokA y).toList ++ toksV r := rfl
      rw [e, List.length_append, ih, List.length_cons]
      show 4 + _ = _
      omega
  cases ao with
  | none =>
    obtain ⟨h0, rfl⟩ := hnone rfl
    refine wpList_plain hgd fun K hK' => ?_
    have hrun := run_append_owned_none (P := Tryd.prog) w w.heap.size 24 o.type 30 i3 4 Tryd.underlying24 ti (.slice none 0 0) 0 [] (World.ownsRow_nil _ _ _ _)
    have hts : ts = [] := List.length_eq_zero_iff.1 h0
    subst hts
    replace hx : a.eval x = .slice none 0 0 := hx
    unfold Oper.wp
    simp [execOp, ho, resolve, invoke, builtin, hs, hx, hrun, Result.andThen]
    exact hK' _ _ (h _ _ (World.ownsRow_nil _ _ _ _) (World.grownBy.refl _ _))
  | some ad =>
    refine wpList_append_own (w := w) hgd s x 24 ho w.heap.size 30 i3 (.agg (tokA noTok)) 4 40 Tryd.underlying24 ti tz0 tz1 tz2 rfl (by decide) (.slice none 0 0) 0 [] hs (World.ownsRow_nil _ _ _ _) ad ts.length cap (toksV ts) hx hlen (fun j u hj => ?_) ?_ ?_ ?_ (Nat.le_refl _) (fun v' w' h1 h2 _ => ?_)
    · have hjl := (List.getElem?_eq_some_iff.1 hj).1
      rw [hlen] at hjl
      obtain ⟨q, r, rfl, hr⟩ : ∃ q r, j = q * 4 + r ∧ r < 4 := ⟨j / 4, j % 4, by omega, by omega⟩
      rw [toksV_at ts q (by omega) r hr] at hj
      obtain ⟨g, off, e, c0, c1, c2, c3⟩ := A q (by omega)
      cases e
      rw [Go.WideShapes.add_plain]
      rcases (show r = 0 ∨ r = 1 ∨ r = 2 ∨ r = 3 from by omega) with rfl | rfl | rfl | rfl
      · rw [← Nat.add_assoc, Nat.add_zero, c0, ← hj]; rfl
      · rw [← Nat.add_assoc, c1, ← hj]; rfl
      · rw [← Nat.add_assoc, c2, ← hj]; rfl
      · rw [← Nat.add_assoc, c3, ← hj]; rfl
    · intro u hu
      unfold toksV at hu
      obtain ⟨y, _, hy⟩ := List.mem_flatMap.1 hu
      simp [tokA] at hy
      rcases hy with rfl | rfl | rfl | rfl <;> rfl
    · unfold maxLen; omega
    · omega
    · rw [Nat.zero_add] at h1
      exact h v' w' h1 h2
set_option maxRecDepth 100000 in
set_option maxHeartbeats 4000000 in
theorem same_big (ts : List Tok) (hl : ts.length ≤ 10000000000) (ao bo : Option Addr) (c1 c2 : Nat) (w : World) (A : IsToks w ao ts) (B : IsToks w bo ts) :
    Calls Tryd.prog 12 #[.slice ao ts.length c1, .slice bo ts.length c2] w fun e w' => e = .returned (.bool true) ∧ Below w.heap.size w w' := by
  obtain ⟨n, hn⟩ : ∃ n, ts.length = n := ⟨_, rfl⟩
  rw [hn]
  go_enter Tryd.func12, Tryd.ntmps12
  go_wp2
  go_loopw [5] (fun x wr => ∃ k : Nat, k ≤ n ∧ x = .int .i64 k ∧ Below w.heap.size w wr) (fun x _ => n - (intOf x).toNat)
  case atStart => exact ⟨0, Nat.zero_le _, rfl, Below.refl _ _⟩
  case round =>
    obtain ⟨k, hk, rfl, G⟩ := hrel
    by_cases hlt : k < n
    · obtain ⟨g1, o1, rfl, x0, x1, x2, x3⟩ := A k (by omega)
      obtain ⟨g2, o2, rfl, y0, y1, y2, y3⟩ := B k (by omega)
      replace x0 := (G.cell (p := ⟨_, _, none⟩) (lt_of_cell x0)).trans x0
      replace x1 := (G.cell (p := ⟨_, _, none⟩) (lt_of_cell x1)).trans x1
      replace x2 := (G.cell (p := ⟨_, _, none⟩) (lt_of_cell x2)).trans x2
      replace x3 := (G.cell (p := ⟨_, _, none⟩) (lt_of_cell x3)).trans x3
      replace y0 := (G.cell (p := ⟨_, _, none⟩) (lt_of_cell y0)).trans y0
      replace y1 := (G.cell (p := ⟨_, _, none⟩) (lt_of_cell y1)).trans y1
      replace y2 := (G.cell (p := ⟨_, _, none⟩) (lt_of_cell y2)).trans y2
      replace y3 := (G.cell (p := ⟨_, _, none⟩) (lt_of_cell y3)).trans y3
      generalize ts.getD k noTok = t at *
      clear A B
      go_wp2
      go_region_with fail
      all_goals
        go_wp2
        go_roundw
        case rel => exact ⟨k + 1, by omega, by go_num, by first | exact G.drew | exact G⟩
        case measure => simp [intOf]; omega
    · obtain rfl : k = n := by omega
      go_wp2
      go_ret
      exact ⟨rfl, G⟩

set_option maxRecDepth 100000 in
set_option maxHeartbeats 8000000 in
theorem walk (ao : Option Addr) (cap : Nat) (ts : List Tok) (w : World) (K : KwAt w) (Sg : SgAt w) (E : ErAt w) (P : PwAt w) (Sr : SrAt w) (Kr : KrAt w) (wc : ts.length ≤ cap) (wn : ao = none → ts.length = 0 ∧ cap = 0) (A : IsToks w ao ts) (wr' : ts.length * 40 ≤ 140737488351232) (ws : ∀ k, (ts.getD k noTok).fit) : Calls Tryd.prog 6 #[.slice ao ts.length cap] w fun e w' => e = .returned (.bool true) ∧ Below w.heap.size w w' := by
  have cB := beyond_any ts ao cap (by omega) (fun k _ => (ws k).2) w A
  by_cases hbig : leftI ts ts.length < 0
  · rw [decide_eq_true hbig] at cB
    have cA := fun (u : World) (g : Below w.heap.size w u) => alive_any u (K.keep g) (Sg.keep g) (E.keep g)
    go_enter Tryd.func6, Tryd.ntmps6
    go_wp2_with (first
      | (go_at_call 13; (with_reducible refine cB.mono ?_); rintro e u ⟨rfl, g0⟩)
      | (go_at_call 11; (with_reducible refine (cA _ g0).mono ?_); rintro e u1 ⟨rfl, g1⟩))
    go_ret
    exact ⟨by first | rfl | simp, gtrans g0 g1⟩
  rw [decide_eq_false hbig] at cB
  have hN : ∀ k, k < ts.length → okN (ts.getD k noTok) := fun k _ => (ws k).1
  have hjs := joinU_small ts hN ts.length (Nat.le_refl _)
  have hll := left_len ts ts.length
  have hl : ts.length ≤ 200000000 := by omega
  have hT : (joinU ts ts.length).length ≤ 100000000000 := by omega
  have cJ := fun (u : World) (g : Below w.heap.size w u) => join_any ts ao cap (by omega) hN hT u (A.keep g) (K.keep g) (Sg.keep g) (P.keep g)
  have cRJ := fun (bo : Option Addr) (c2 : Nat) (u : World) (g : Below w.heap.size w u) (B : IsToks u bo ts) => refJoin_any ts bo c2 (by omega) hN hT u B (Kr.keep g) (Sr.keep g) (P.keep g)
  generalize joinU ts ts.length = jt at cJ cRJ
  clear hjs hll hbig hT
  go_enter Tryd.func6, Tryd.ntmps6
  go_wp2_with (first
    | (go_at_call 13; (with_reducible refine cB.mono ?_); rintro e u ⟨rfl, g0⟩)
    | (at_builtin; refine wpList_append_toks rfl (.tmp 10) (.tmp 11) rfl rfl ao cap ts rfl wn (A.keep g0) (.inr trivial) hl ?_))
  intro v1 w1 O1 H1
  have G1 : Below u.heap.size u w1 := (Below.refl _ u).grown H1 (Nat.le_refl _) (fun r e => by cases e)
  have B1 := gtrans g0 G1
  obtain ⟨bo, c2, rfl, B⟩ := toks_of_own O1
  have A1 := A.keep B1
  go_wp2
  go_loopw [4] (fun i wr => ∃ k : Nat, k ≤ ts.length ∧ i = .int .i64 k ∧ Below w1.heap.size w1 wr) (fun i _ => ts.length - (intOf i).toNat)
  case atStart => exact ⟨0, Nat.zero_le _, rfl, Below.refl _ _⟩
  case round =>
    obtain ⟨k, hk, rfl, G⟩ := hrel
    by_cases hlt : k < ts.length
    · obtain ⟨g, o, rfl, x0, x1, x2, x3⟩ := (A1.keep G) k hlt
      obtain ⟨g2, o2, rfl, y0, y1, y2, y3⟩ := (B.keep G) k hlt
      have BW := gtrans B1 G
      have cS := fun (u9 : World) (g9 : Below w.heap.size w u9) => spell_any (ts.getD k noTok) (ws k).1 u9 (K.keep g9) (Sg.keep g9) (P.keep g9)
      have cR := fun (u9 : World) (g9 : Below w.heap.size w u9) => refSpell_any (ts.getD k noTok) (ws k).1 u9 (Kr.keep g9) (Sr.keep g9) (P.keep g9)
      generalize ts.getD k noTok = y at *
      generalize spS y = t at *
      replace cS : ∀ u, Below w.heap.size w u → Calls Tryd.prog 14 #[.agg #[.int .i64 y.k, .string y.t, .int .i64 y.n, .int .i64 y.a]] u fun e w' => e = .returned (.string t) ∧ Below u.heap.size u w' := cS
      replace cR : ∀ u, Below w.heap.size w u → Calls Tryd.prog 15 #[.agg #[.int .i64 y.k, .string y.t, .int .i64 y.n, .int .i64 y.a]] u fun e w' => e = .returned (.string t) ∧ Below u.heap.size u w' := cR
      have l0 := lt_of_cell y0
      go_wp2_with (first
        | (go_at_call 14; (with_reducible refine (cS _ BW).mono ?_); rintro e5 u5 ⟨rfl, g5⟩; obtain ⟨bc, bf⟩ := bcell g5)
        | (go_at_call 15; (with_reducible refine (cR _ (gtrans BW g5)).mono ?_); rintro e6 u6 ⟨rfl, g6⟩))
      go_roundw
      case rel => exact ⟨k + 1, by omega, by go_num, gtrans (gtrans G g5) g6⟩
      case measure => simp [intOf]; omega
    · obtain rfl : k = ts.length := by omega
      have BW := gtrans B1 G
      have c7 := cJ _ BW
      go_wp2_with (first
        | (go_at_call 16; (with_reducible refine c7.mono ?_); rintro e7 u7 ⟨rfl, g7⟩; have c8 := cRJ bo c2 u7 (gtrans BW g7) ((B.keep G).keep g7))
        | (go_at_call 17; (with_reducible refine c8.mono ?_); rintro e8 u8 ⟨rfl, g8⟩; have c9 := same_big ts (by omega) ao bo cap c2 u8 (((A1.keep G).keep g7).keep g8) (((B.keep G).keep g7).keep g8))
        | (go_at_call 12; (with_reducible refine c9.mono ?_); rintro e9 u9 ⟨rfl, g9⟩))
      go_ret
      exact ⟨by first | rfl | simp, gtrans (gtrans (gtrans BW g7) g8) g9⟩

theorem own : ownKnob Tryd.prog.godebug = none := by kernel_rfl
theorem laidOut : laidOutB Tryd.prog = true := by kernel_rfl

theorem gKw : Tryd.prog.globalNamed "sluice/api.Keywords" = some 1 := by kernel_rfl
theorem tabs {W : World} (h : laidMetH Tryd.prog Rows.lexJoinsRow.laid W) : KwAt W := by
  have h0 : laidMet Tryd.prog Rows.lexJoinsRow.laid W := (Go.MakeChecks.laidMetH_plain _ _ _ (by kernel_rfl)).mp h
  exact kwAt_of (tabS (bss := kwl) gKw (by kernel_rfl) Tryd.underlying46 Tryd.underlying9 (by kernel_rfl) (laidMet_tail (laidMet_tail (laidMet_tail (laidMet_tail (laidMet_tail h0))))))
theorem gKr : Tryd.prog.globalNamed "sluice/sluiceref3.Keywords" = some 3 := by kernel_rfl
theorem tabR {W : World} (h : laidMetH Tryd.prog Rows.lexJoinsRow.laid W) : KrAt W := by
  have h0 : laidMet Tryd.prog Rows.lexJoinsRow.laid W := (Go.MakeChecks.laidMetH_plain _ _ _ (by kernel_rfl)).mp h
  exact krAt_of (tabS (bss := kwl) gKr (by kernel_rfl) Tryd.underlying46 Tryd.underlying9 (by kernel_rfl) (laidMet_tail (laidMet_tail (laidMet_tail (laidMet_tail (laidMet_tail (laidMet_tail (laidMet_tail h0))))))))
theorem gSg : Tryd.prog.globalNamed "sluice/lex.signs" = some 0 := by kernel_rfl
theorem tabSg {W : World} (h : laidMetH Tryd.prog Rows.lexJoinsRow.laid W) : SgAt W := by
  have h0 : laidMet Tryd.prog Rows.lexJoinsRow.laid W := (Go.MakeChecks.laidMetH_plain _ _ _ (by kernel_rfl)).mp h
  exact sgAt_of (tabS (bss := sgl) gSg (by kernel_rfl) Tryd.underlying45 Tryd.underlying9 (by kernel_rfl) (laidMet_tail (laidMet_tail (laidMet_tail (laidMet_tail (laidMet_tail (laidMet_tail (laidMet_tail (laidMet_tail h0)))))))))
theorem gSr : Tryd.prog.globalNamed "sluice/sluiceref3.Signs" = some 2 := by kernel_rfl
theorem tabSr {W : World} (h : laidMetH Tryd.prog Rows.lexJoinsRow.laid W) : SrAt W := by
  have h0 : laidMet Tryd.prog Rows.lexJoinsRow.laid W := (Go.MakeChecks.laidMetH_plain _ _ _ (by kernel_rfl)).mp h
  exact srAt_of (tabS (bss := sgl) gSr (by kernel_rfl) Tryd.underlying45 Tryd.underlying9 (by kernel_rfl) (laidMet_tail (laidMet_tail (laidMet_tail (laidMet_tail (laidMet_tail (laidMet_tail h0)))))))
theorem gEr : Tryd.prog.globalNamed "strconv.ErrRange" = some 6 := by kernel_rfl
theorem tabE {W : World} (h : laidMetH Tryd.prog Rows.lexJoinsRow.laid W) : ErAt W := by
  have h0 : laidMet Tryd.prog Rows.lexJoinsRow.laid W := (Go.MakeChecks.laidMetH_plain _ _ _ (by kernel_rfl)).mp h
  exact ifaceAt gEr (by kernel_rfl) ⟨_, Tryd.underlying51⟩ (laidMet_tail (laidMet_tail (laidMet_tail h0)))
theorem tabP {W : World} (h : laidMetH Tryd.prog Rows.lexJoinsRow.laid W) : PwAt W := by
  have h0 : laidMet Tryd.prog Rows.lexJoinsRow.laid W := (Go.MakeChecks.laidMetH_plain _ _ _ (by kernel_rfl)).mp h
  exact Lib.tabIs_of_head (g := 4) (t := 87) (e := 22) (n := 20) (by kernel_rfl) (by kernel_rfl) (by kernel_rfl) (by kernel_rfl) (by kernel_rfl) (by kernel_rfl) (laidMet_tail (laidMet_tail h0))

set_option maxRecDepth 100000 in
theorem contract (H : Type) (enc : TypeId × Value → H) (W : World) (base : Nat) (args : Array Value) (ds gs : List (DataW H)) (before : List MemPlace)
    (hval : ∀ (j : Nat) t v, Tryd.f6.params[j]? = some t → args[j]? = some v → Value.okWide Tryd.prog W .any base t v)
    (hsz : (DataW.weightsEach Tryd.prog (Tryd.f6.params.toList ++ Rows.lexJoinsSpec.plain.varTypes Tryd.prog) (ds ++ gs)).all (· ≤ reachBytes) = true)
    (hW : DataW.Whole enc Tryd.prog Tryd.f6.params.toList Rows.lexJoinsSpec.vars false W args.toList ds gs before) (hL : laidMetH Tryd.prog Rows.lexJoinsRow.laid W) :
    Calls Tryd.prog 6 args W fun e W' => ∃ v, e = .returned v ∧ Rows.lexJoinsSpec.post enc Tryd.prog Tryd.f6 false true false false W args v W' := by
  have hW' := hW
  obtain ⟨p, q, hA0, hV, rfl, hfz, hnd⟩ := hW
  have hA : DataW.TrodAll enc Tryd.prog W 0 (fun _ => true) true Tryd.f6.params.toList args.toList ds p := hA0
  rw [Tryd.params6] at hA hval hsz
  obtain ⟨v0, vs0, d0, ds0, p0, q0, hargs, rfl, rfl, h0, r0⟩ := trodAll_cons hA
  obtain ⟨rfl, rfl, rfl⟩ := trodAll_nil r0
  obtain rfl : args = #[v0] := by cases args; simp_all
  obtain ⟨rfl, rfl⟩ := trodVars_none hV
  have k0 := h0
  have lt0 : ∀ x ∈ p0, x.block < W.heap.size := by obtain ⟨m, hm⟩ := k0; exact DataW.trod_lt m _ _ _ hm
  obtain ⟨ao0, cap0, ts0, e0, wc0, wn0, w0, wr0, ws0⟩ : ∃ ao cap ts, v0 = .slice ao ts.length cap ∧ ts.length ≤ cap ∧ (ao = none → ts.length = 0 ∧ cap = 0) ∧ IsToks W ao ts ∧ ts.length * 40 ≤ 140737488351232 ∧ ∀ k, (ts.getD k noTok).fit := by
    obtain ⟨a, len, cap, e⟩ := okWide_slice Tryd.underlying24 (hval 0 24 v0 rfl rfl)
    subst e
    obtain ⟨fuel, hf⟩ := h0
    have hf' : DataW.trod enc Tryd.prog W 0 (fun _ => true) true fuel 24 [.slice a len cap] = some (d0, p0) := hf
    exact open_toks hf' (fun b hb => by
      have h1 := List.all_eq_true.1 hsz b (DataW.weights_mem_each (j := 0) (t := 24) rfl rfl b hb)
      simpa using h1)
  subst e0
  clear hA0
  refine (walk ao0 cap0 ts0 W (tabs hL) (tabSg hL) (tabE hL) (tabP hL) (tabSr hL) (tabR hL) wc0 wn0 w0 wr0 ws0).mono fun e W' ⟨he, bel⟩ => ?_
  subst he
  exact ⟨_, rfl, _, _, _, [], _, [], hW', trodAll_mk1 (shut_bool Tryd.underlying4 _), (trodAll_cons_mk (Below.trod laidOut (by kernel_rfl) (of_decide_eq_true (by kernel_rfl)) k0 bel lt0) trodAll_mk0), rfl, bel.frame _, fun h => by cases h⟩

/-- For the world of the witness: the settled one, the tables holding what their text lays. -/
def put (c : Array Value) : Obj → Obj
  | .cells _ t frozen => .cells c t frozen
  | x => x
theorem laid_met (os : Os) : laidMet Tryd.prog Rows.lexJoinsRow.laid ((World.laidAll Tryd.prog os Rows.lexJoinsRow.laid).forCall (fun _ _ => 0) ⟨#[], #[.slice none 0 0], []⟩).memory :=
  laidMet_laidAll _ (by kernel_rfl) (by kernel_rfl)
theorem reads (os : Os) {H : Type} (enc : TypeId × Value → H) : ∃ places, DataW.whole enc Tryd.prog ((World.laidAll Tryd.prog os Rows.lexJoinsRow.laid).forCall (fun _ _ => 0) ⟨#[], #[.slice none 0 0], []⟩).memory Tryd.f6.params.toList Rows.lexJoinsSpec.vars false (#[.slice none 0 0] : Array Value).toList 8 = some ([.nil], [], places) :=
  ⟨[], by kernel_rfl⟩

set_option maxRecDepth 100000 in
theorem lifted (os : Os) (started : os.Started) (H : Type) (enc : TypeId × Value → H) (F : Stop.Interp) :
    ReturnsInHanded {} Tryd.checked os 6 .any ((OpenSpec.ofChange Rows.lexJoinsSpec).preRow enc Tryd.prog Tryd.f6 Rows.lexJoinsRow.domain false Rows.lexJoinsRow.laid) (((OpenSpec.ofChange Rows.lexJoinsSpec).at F).post enc Tryd.prog Tryd.f6 false true false false) := by
  obtain ⟨places, hx⟩ := reads os enc
  refine returnsInHanded_of_row (C := Tryd.checked) (s := OpenSpec.ofChange Rows.lexJoinsSpec) own started (by kernel_rfl) Tryd.func6
    ⟨(World.laidAll Tryd.prog os Rows.lexJoinsRow.laid), fun _ _ => 0, ⟨#[], #[.slice none 0 0], []⟩, World.laidAll_os _ _ _, World.shaped_of_ZipB (by kernel_rfl) (by kernel_rfl), rfl, (Input.okWide_of_okWideB (show Input.okWideB Tryd.prog ((World.laidAll Tryd.prog os Rows.lexJoinsRow.laid).forCall (fun _ _ => 0) ⟨#[], #[.slice none 0 0], []⟩) 6 ⟨#[], #[.slice none 0 0], []⟩ = true by kernel_rfl)).2,
      OpenSpec.preRow_of_cond 8 hx (by kernel_rfl) (fun k hk => by cases hk) (by kernel_rfl) (laid_met os),
      by simp only [Assume.holds]; exact ⟨by simp, by simp, by simp, by simp, by simp⟩⟩ ?_
  intro W base args ds gs before hval hW _ _ hsz hL _ _
  exact contract H enc W base args ds gs before hval hsz hW hL

theorem said : Rows.LexJoinsSaid :=
  OpenClaim.holds_of_cond 6 Tryd.f6 rfl rfl rfl rfl rfl rfl rfl ⟨rfl, rfl, rfl, rfl, rfl⟩ rfl rfl rfl rfl rfl (by kernel_rfl) Tryd.func6 (by kernel_rfl)
    (of_decide_eq_true (by kernel_rfl)) (by unfold Func.isWrapper; first | (rw [if_pos (by decide +kernel)]; kernel_rfl) | (rw [if_neg (by decide +kernel)]; exact ⟨rfl, rfl⟩))
    (fun os started H enc _ F => by rw [OpenClaim.pre_eq_preRow]; exact lifted os started H enc F)

theorem plain (f : FuncId) (fn : Func) (hf : Tryd.pinned.checked.prog.funcNamed "sluice/sluicelaw3.LexJoins" = some f) (hfn : Tryd.pinned.checked.prog.funcs[f]? = some fn) :
    true = Tryd.pinned.checked.prog.looks [] ∧ ∀ (j : Nat) t, fn.params[j]? = some t → Tryd.pinned.checked.prog.wantsStandIn t = false := by
  obtain rfl : f = 6 := Option.some.inj ((show Tryd.prog.funcNamed "sluice/sluicelaw3.LexJoins" = some 6 by kernel_rfl).symm.trans hf) |>.symm
  obtain rfl : fn = Tryd.f6 := (Option.some.inj (Tryd.func6.symm.trans hfn)).symm
  refine ⟨by kernel_rfl, fun j t ht => ?_⟩
  rw [Tryd.params6] at ht
  have hm : t = 24 := by simpa using Array.mem_of_getElem? ht
  rw [hm]
  exact (show Tryd.prog.wantsStandIn 24 = false by kernel_rfl)

end Go.Proofs.YtlcmfefcammklaaDoor.lexJoins
namespace Go.Proofs.YtlcmfefcammklaaDoor
theorem lexJoins_holds : Rows.LexJoinsCardSaid :=
  Claim7.holds_tied_plain_at .later [] _ _ _ _ lexJoins.said (fun _ h => by cases h) (by kernel_rfl) (fun _ h => by cases h) lexJoins_row_tie rfl ⟨rfl, rfl⟩ (by kernel_rfl) rfl lexJoins.plain (by kernel_rfl)
#print axioms lexJoins_holds
end Go.Proofs.YtlcmfefcammklaaDoor
