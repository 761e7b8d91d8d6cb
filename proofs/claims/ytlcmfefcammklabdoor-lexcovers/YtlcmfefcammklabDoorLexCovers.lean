/- For every text the law LexCovers returns true: tokens and what is quiet between them are the whole text; a token's bytes are its spelling, in letters of any case for a keyword; a number's are digits of that value. The listed variables hold what their texts lay (the card ties that to the text). No other condition. -/
import Derived.Test.YtlcmfefcammklabDoorCw
import Derived.Test.YtlcmfefcammklabDoorQu
import Derived.Test.YtlcmfefcammklabDoorAl
import Derived.Test.YtlcmfefcammklabDoorEr
import Derived.Test.YtlcmfefcammklabDoorCards
import Derived.Test.YtlcmfefcammklabDoorTie
import Derived.Carry
import Derived.ChangeMaps5
import Derived.SizedLaws
import Derived.Lib.SmallJoins
import Derived.Deep.DeepHandedRow
import Derived.Lay
namespace Go.Proofs.YtlcmfefcammklabDoor.lexCovers
open Go.ChangeShapes Go.WideShapes Go.ChangeAt Go.RowKit Go.BigFrame
set_option linter.unusedVariables false
set_option linter.unusedSimpArgs false

theorem ex_size (s : ByteArray) (p q : Nat) (hq : q ≤ s.size) : (s.extract p q).size = q - p := by rw [ByteArray.size_extract]; omega

set_option maxRecDepth 100000 in
set_option maxHeartbeats 8000000 in
theorem walk (s : ByteArray) (hs : s.size ≤ 140737488351232) (w : World) (K : KwAt w) (Sg : SgAt w) (E : ErAt w) (P : PwAt w) : Calls Tryd.prog 3 #[.string s] w fun e w' => e = .returned (.bool true) ∧ Below w.heap.size w w' := by
  have cA := alive_any w K Sg E
  have cL := fun (u : World) (g : Below w.heap.size w u) => lexLex_any s (by omega) u (K.keep g) (Sg.keep g) (E.keep g)
  have hlen := lexO_len s
  rcases lexO_cases s with ⟨hb, he⟩ | ⟨hb, us, hP, he⟩ | ⟨hb, q, us, c, hP, hq, ⟨hc0, hc30⟩, he⟩
  · rw [he] at cL
    dsimp only at cL
    go_enter Tryd.func3, Tryd.ntmps3
    go_wp2_with (first
      | (go_at_call 6; (with_reducible refine cA.mono ?_); rintro e u ⟨rfl, g0⟩)
      | (go_at_call 7; (with_reducible refine (cL _ g0).mono ?_); rintro e u1 ⟨v1, rfl, O1, g1⟩))
    go_ret
    exact ⟨by first | rfl | simp, gtrans g0 g1⟩
  · rw [he] at cL hlen
    dsimp only at cL hlen
    obtain ⟨vs, hvs, C0⟩ := hP.cov rfl
    rw [List.nil_append] at hvs
    subst hvs
    clear he hP
    go_enter Tryd.func3, Tryd.ntmps3
    go_wp2_with (first
      | (go_at_call 6; (with_reducible refine cA.mono ?_); rintro e u ⟨rfl, g0⟩)
      | (go_at_call 7; (with_reducible refine (cL _ g0).mono ?_); rintro e u1 ⟨v1, rfl, O1, g1⟩; obtain ⟨ao, cap, rfl, A⟩ := toks_of_own O1))
    have B1 := gtrans g0 g1
    clear cA cL O1
    go_loopw [6, 7] (fun en i wr => ∃ k p : Nat, k ≤ us.length ∧ p ≤ s.size ∧ i = .int .i64 k ∧ en = .int .i64 p ∧ Cov s p (us.drop k) ∧ Below u1.heap.size u1 wr) (fun _ i _ => us.length - (intOf i).toNat)
    case atStart => exact ⟨0, 0, Nat.zero_le _, Nat.zero_le _, rfl, rfl, C0, Below.refl _ _⟩
    case round =>
      obtain ⟨k, p, hk, hp, rfl, rfl, C, G⟩ := hrel
      by_cases hlt : k < us.length
      · obtain ⟨g, o, rfl, x0, x1, x2, x3⟩ := (A.keep G) k hlt
        have hd : us.drop k = us.getD k noTok :: us.drop (k + 1) := by
          rw [List.drop_eq_getElem_cons hlt, List.getD_eq_getElem?_getD, List.getElem?_eq_getElem hlt]
          rfl
        rw [hd] at C
        obtain ⟨t, ht⟩ : ∃ t, us.getD k noTok = t := ⟨_, rfl⟩
        rw [ht] at C x0 x1 x2 x3
        generalize hr : us.drop (k + 1) = r at C
        cases C with
        | cons _ q _ hpq hq hQ h1 h2 hC =>
          obtain ⟨l1, l2, l3, hcase⟩ := tok_bytes s q hq h1 h2
          have cQ := quiet_true (s.extract p q) (by rw [ex_size s p q (by omega)]; omega) (Qs_extract hpq (by omega) hQ)
          have BW := gtrans B1 G
          have cS := fun (hn : -9223372036854775808 ≤ (thing s q).2.1.n ∧ (thing s q).2.1.n ≤ 9223372036854775807) (u : World) (g : Below wr.heap.size wr u) => spell_any (thing s q).2.1 hn u (K.keep (gtrans BW g)) (Sg.keep (gtrans BW g)) (P.keep (gtrans BW g))
          have cE := numberEnd_any s hb q (by omega)
          have cU := refUpper_any (s.extract q (thing s q).1) (by rw [ex_size s q _ l2]; omega)
          have cN := refNumber_any (s.extract q (thing s q).1) (by rw [ex_size s q _ l2]; omega)
          have hxs := ex_size s q _ l2
          obtain ⟨m, hm⟩ : ∃ m, (thing s q).1 = q + m := ⟨(thing s q).1 - q, by omega⟩
          rw [hm] at hcase cU cN hxs l1 l2 hC
          rw [Nat.add_sub_cancel_left] at hxs
          have i0 : (p : Int) ≤ (q : Int) := by omega
          have i1 : (q : Int) ≤ (s.size : Int) := by omega
          have i2 : (q : Int) + (m : Int) ≤ (s.size : Int) := by omega
          have i3 : (s.size : Int) ≤ 8192 := by omega
          have hm0 : 0 < m := by omega
          have hslice : ∀ u : World, True := fun _ => trivial
          obtain ⟨x, hx⟩ : ∃ x, s.extract q (q + m) = x := ⟨_, rfl⟩
          rw [hx] at hcase cU cN hxs
          rw [l3] at x3
          have hx0 : (x.toList == []) = false := by
            rw [ByteArray.toList_eq, beq_eq_false_iff_ne]
            intro h9
            have h8 : x.data.toList.length = x.size := Array.length_toList
            rw [h9] at h8
            simp at h8
            omega
          rcases hcase with h5 | ⟨j, hj, h5, h6⟩ | ⟨j, hj, h5, h6⟩ | ⟨v, h5, h6, h7, h8, h9⟩
          · rw [h5] at cS x0 x1 x2
            dsimp only at cS x0 x1 x2
            have cS9 := cS ⟨by decide, by decide⟩
            rw [show spS ⟨1, x, 0, q⟩ = x from if_pos rfl] at cS9
            replace cS9 : ∀ u, Below wr.heap.size wr u → Calls Tryd.prog 9 #[.agg #[.int .i64 1, .string x, .int .i64 0, .int .i64 (q : Int)]] u fun e w' => e = .returned (.string x) ∧ Below u.heap.size u w' := cS9
            clear cS cE cN cU h5
            go_wp2_with (first
              | (go_at_call 8; (with_reducible refine (cQ _).mono ?_); rintro e9 u9 ⟨rfl, rfl⟩)
              | (go_at_call 9; (with_reducible refine (cS9 _ (galloc (Below.refl _ _) _)).mono ?_); rintro e8 u8 ⟨rfl, g8⟩; obtain ⟨bc, bf⟩ := bcell g8))
            go_roundw
            case rel => exact ⟨k + 1, q + m, by omega, by omega, by go_num, by first | rfl | (congr 1; omega) | go_num, by rw [hr]; exact hC, gtrans (gtrans G (galloc (Below.refl _ _) _)) g8⟩
            case measure => simp [intOf]; omega
          · rw [h5] at cS x0 x1 x2
            dsimp only at cS x0 x1 x2
            have cS9 := cS ⟨by decide, by decide⟩
            obtain ⟨y, hy⟩ : ∃ y, kw j = y := ⟨_, rfl⟩
            rw [hy] at h6
            rw [show spS ⟨30 + (j : Int), ⟨#[]⟩, 0, q⟩ = y from by unfold spS; rw [if_neg (show ¬ 30 + (j : Int) = 1 by omega), if_neg (show ¬ 30 + (j : Int) = 2 by omega), if_neg (show ¬ (3 ≤ 30 + (j : Int) ∧ 30 + (j : Int) ≤ 21) by omega), if_pos (show 30 ≤ 30 + (j : Int) ∧ 30 + (j : Int) ≤ 56 by omega), ← hy]; congr 1; show (30 + (j : Int) - 30).toNat = j; omega] at cS9
            replace cS9 : ∀ u, Below wr.heap.size wr u → Calls Tryd.prog 9 #[.agg #[.int .i64 (30 + (j : Int)), .string ⟨#[]⟩, .int .i64 0, .int .i64 (q : Int)]] u fun e w' => e = .returned (.string y) ∧ Below u.heap.size u w' := cS9
            rw [h6] at cU
            have hys : y.size = m := by rw [← h6, upS_size]; exact hxs
            have hy0 : (y.toList == []) = false := by
              rw [ByteArray.toList_eq, beq_eq_false_iff_ne]
              intro h9
              have h8 : y.data.toList.length = y.size := Array.length_toList
              rw [h9] at h8
              simp at h8
              omega
            have k2 : (30 + (j : Int) == 2) = false := by simp; omega
            have k30 : ¬ (30 + (j : Int) < 30) := by omega
            have d30 : decide (30 + (j : Int) < 30) = false := decide_eq_false k30
            clear cS cE cN h5 h6 hy
            cases huy : (x.toList == y.toList)
            all_goals
              go_wp2_with (first
                | (go_at_call 8; (with_reducible refine (cQ _).mono ?_); rintro e9 u9 ⟨rfl, rfl⟩)
                | (go_at_call 9; (with_reducible refine (cS9 _ (galloc (Below.refl _ _) _)).mono ?_); rintro e8 u8 ⟨rfl, g8⟩; obtain ⟨bc, bf⟩ := bcell g8)
                | (go_at_call 12; (with_reducible refine (cU _).mono ?_); rintro e7 u7 ⟨rfl, g7⟩))
              first
              | (go_roundw
                 case rel => exact ⟨k + 1, q + m, by omega, by omega, by go_num, by first | rfl | (congr 1; omega) | go_num, by rw [hr]; exact hC, gtrans (gtrans (gtrans G (galloc (Below.refl _ _) _)) g8) g7⟩
                 case measure => simp [intOf]; omega)
              | (go_roundw
                 case rel => exact ⟨k + 1, q + m, by omega, by omega, by go_num, by first | rfl | (congr 1; omega) | go_num, by rw [hr]; exact hC, gtrans (gtrans G (galloc (Below.refl _ _) _)) g8⟩
                 case measure => simp [intOf]; omega)
          · rw [h5] at cS x0 x1 x2
            dsimp only at cS x0 x1 x2
            have cS9 := cS ⟨by decide, by decide⟩
            rw [show spS ⟨3 + (j : Int), ⟨#[]⟩, 0, q⟩ = x from by unfold spS; rw [if_neg (show ¬ 3 + (j : Int) = 1 by omega), if_neg (show ¬ 3 + (j : Int) = 2 by omega), if_pos (show 3 ≤ 3 + (j : Int) ∧ 3 + (j : Int) ≤ 21 by omega), h6]; congr 1; show (3 + (j : Int) - 3).toNat = j; omega] at cS9
            replace cS9 : ∀ u, Below wr.heap.size wr u → Calls Tryd.prog 9 #[.agg #[.int .i64 (3 + (j : Int)), .string ⟨#[]⟩, .int .i64 0, .int .i64 (q : Int)]] u fun e w' => e = .returned (.string x) ∧ Below u.heap.size u w' := cS9
            have k2 : (3 + (j : Int) == 2) = false := by simp; omega
            clear cS cE cN cU h5 h6
            go_wp2_with (first
              | (go_at_call 8; (with_reducible refine (cQ _).mono ?_); rintro e9 u9 ⟨rfl, rfl⟩)
              | (go_at_call 9; (with_reducible refine (cS9 _ (galloc (Below.refl _ _) _)).mono ?_); rintro e8 u8 ⟨rfl, g8⟩; obtain ⟨bc, bf⟩ := bcell g8))
            go_roundw
            case rel => exact ⟨k + 1, q + m, by omega, by omega, by go_num, by first | rfl | (congr 1; omega) | go_num, by rw [hr]; exact hC, gtrans (gtrans G (galloc (Below.refl _ _) _)) g8⟩
            case measure => simp [intOf]; omega
          · rw [h5] at cS x0 x1 x2
            dsimp only at cS x0 x1 x2
            have cS9 := cS ⟨by omega, by omega⟩
            obtain ⟨y, hy⟩ : ∃ y : ByteArray, (⟨(Lib.itoa v).toArray⟩ : ByteArray) = y := ⟨_, rfl⟩
            have hys : y.size ≤ 21 := by rw [← hy]; have := Lib.itoa_length_le v (by omega) h9; show (Lib.itoa v).toArray.size ≤ 21; simpa using this
            rw [show spS ⟨2, ⟨#[]⟩, v, q⟩ = y from by unfold spS; rw [if_neg (show ¬ (2 : Int) = 1 by decide), if_pos rfl, hy]] at cS9
            replace cS9 : ∀ u, Below wr.heap.size wr u → Calls Tryd.prog 9 #[.agg #[.int .i64 2, .string ⟨#[]⟩, .int .i64 v, .int .i64 (q : Int)]] u fun e w' => e = .returned (.string y) ∧ Below u.heap.size u w' := cS9
            rw [← h6] at cE
            rw [h7] at cN
            dsimp only at cN
            clear cS cU h5 h6 h7 hy
            go_wp2_with (first
              | (go_at_call 8; (with_reducible refine (cQ _).mono ?_); rintro e9 u9 ⟨rfl, rfl⟩)
              | (go_at_call 9; (with_reducible refine (cS9 _ (galloc (Below.refl _ _) _)).mono ?_); rintro e8 u8 ⟨rfl, g8⟩; obtain ⟨bc, bf⟩ := bcell g8)
              | (go_at_call 10; (with_reducible refine (cE _).mono ?_); rintro e7 u7 ⟨rfl, rfl⟩)
              | (go_at_call 11; (with_reducible refine (cN _).mono ?_); rintro e6 u6 ⟨rfl, rfl⟩))
            go_roundw
            case rel => exact ⟨k + 1, q + m, by omega, by omega, by go_num, by first | rfl | (congr 1; omega) | go_num, by rw [hr]; exact hC, gtrans (gtrans G (galloc (Below.refl _ _) _)) g8⟩
            case measure => simp [intOf]; omega
      · obtain rfl : k = us.length := by omega
        rw [List.drop_length] at C
        cases C with
        | nil _ _ hQ =>
          have cQ := quiet_true (s.extract p s.size) (by rw [ex_size s p s.size (Nat.le_refl _)]; omega) (Qs_extract hp (Nat.le_refl _) hQ)
          have i0 : (p : Int) ≤ (s.size : Int) := by omega
          go_wp2_with (go_at_call 8; (with_reducible refine (cQ _).mono ?_); rintro e9 u9 ⟨rfl, rfl⟩)
          go_ret
          exact ⟨by first | rfl | simp, gtrans B1 G⟩
  · rw [he] at cL
    dsimp only at cL
    have h4 : (c != 0) = true := by simpa using hc0
    go_enter Tryd.func3, Tryd.ntmps3
    go_wp2_with (first
      | (go_at_call 6; (with_reducible refine cA.mono ?_); rintro e u ⟨rfl, g0⟩)
      | (go_at_call 7; (with_reducible refine (cL _ g0).mono ?_); rintro e u1 ⟨v1, rfl, O1, g1⟩))
    go_ret
    exact ⟨by first | rfl | simp, gtrans g0 g1⟩

theorem own : ownKnob Tryd.prog.godebug = none := by kernel_rfl
theorem laidOut : laidOutB Tryd.prog = true := by kernel_rfl

theorem gKw : Tryd.prog.globalNamed "sluice/api.Keywords" = some 2 := by kernel_rfl
theorem tabs {W : World} (h : laidMetH Tryd.prog Rows.lexCoversRow.laid W) : KwAt W := by
  have h0 : laidMet Tryd.prog Rows.lexCoversRow.laid W := (Go.MakeChecks.laidMetH_plain _ _ _ (by kernel_rfl)).mp h
  exact kwAt_of (tabS (bss := kwl) gKw (by kernel_rfl) Tryd.underlying51 Tryd.underlying9 (by kernel_rfl) (laidMet_tail (laidMet_tail (laidMet_tail (laidMet_tail (laidMet_tail h0))))))
theorem gSg : Tryd.prog.globalNamed "sluice/lex.signs" = some 1 := by kernel_rfl
theorem tabSg {W : World} (h : laidMetH Tryd.prog Rows.lexCoversRow.laid W) : SgAt W := by
  have h0 : laidMet Tryd.prog Rows.lexCoversRow.laid W := (Go.MakeChecks.laidMetH_plain _ _ _ (by kernel_rfl)).mp h
  exact sgAt_of (tabS (bss := sgl) gSg (by kernel_rfl) Tryd.underlying50 Tryd.underlying9 (by kernel_rfl) (laidMet_tail (laidMet_tail (laidMet_tail (laidMet_tail (laidMet_tail (laidMet_tail h0)))))))
theorem gEr : Tryd.prog.globalNamed "strconv.ErrRange" = some 7 := by kernel_rfl
theorem tabE {W : World} (h : laidMetH Tryd.prog Rows.lexCoversRow.laid W) : ErAt W := by
  have h0 : laidMet Tryd.prog Rows.lexCoversRow.laid W := (Go.MakeChecks.laidMetH_plain _ _ _ (by kernel_rfl)).mp h
  exact ifaceAt gEr (by kernel_rfl) ⟨_, Tryd.underlying58⟩ (laidMet_tail (laidMet_tail (laidMet_tail h0)))
theorem tabP {W : World} (h : laidMetH Tryd.prog Rows.lexCoversRow.laid W) : PwAt W := by
  have h0 : laidMet Tryd.prog Rows.lexCoversRow.laid W := (Go.MakeChecks.laidMetH_plain _ _ _ (by kernel_rfl)).mp h
  exact Lib.tabIs_of_head (g := 5) (t := 87) (e := 41) (n := 20) (by kernel_rfl) (by kernel_rfl) (by kernel_rfl) (by kernel_rfl) (by kernel_rfl) (by kernel_rfl) (laidMet_tail (laidMet_tail h0))

set_option maxRecDepth 100000 in
theorem contract (H : Type) (enc : TypeId × Value → H) (W : World) (base : Nat) (args : Array Value) (ds gs : List (DataW H)) (before : List MemPlace)
    (hval : ∀ (j : Nat) t v, Tryd.f3.params[j]? = some t → args[j]? = some v → Value.okWide Tryd.prog W .any base t v)
    (hsz : (DataW.weightsEach Tryd.prog (Tryd.f3.params.toList ++ Rows.lexCoversSpec.plain.varTypes Tryd.prog) (ds ++ gs)).all (· ≤ reachBytes) = true)
    (hW : DataW.Whole enc Tryd.prog Tryd.f3.params.toList Rows.lexCoversSpec.vars false W args.toList ds gs before) (hL : laidMetH Tryd.prog Rows.lexCoversRow.laid W) :
    Calls Tryd.prog 3 args W fun e W' => ∃ v, e = .returned v ∧ Rows.lexCoversSpec.post enc Tryd.prog Tryd.f3 false true false false W args v W' := by
  have hW' := hW
  obtain ⟨p, q, hA0, hV, rfl, hfz, hnd⟩ := hW
  have hA : DataW.TrodAll enc Tryd.prog W 0 (fun _ => true) true Tryd.f3.params.toList args.toList ds p := hA0
  rw [Tryd.params3] at hA hval hsz
  obtain ⟨v0, vs0, d0, ds0, p0, q0, hargs, rfl, rfl, h0, r0⟩ := trodAll_cons hA
  obtain ⟨rfl, rfl, rfl⟩ := trodAll_nil r0
  obtain rfl : args = #[v0] := by cases args; simp_all
  obtain ⟨rfl, rfl⟩ := trodVars_none hV
  have k0 := h0
  have lt0 : ∀ x ∈ p0, x.block < W.heap.size := by obtain ⟨m, hm⟩ := k0; exact DataW.trod_lt m _ _ _ hm
  obtain ⟨s0, e0, g0, _, _⟩ := Go.ChangeMaps.open_string Tryd.underlying9 (hval 0 9 v0 rfl rfl) h0
  subst e0
  have w0 : s0.size ≤ 140737488351232 := by
    have h1 := sized_string hsz (j := 0) (t := 9) rfl (congrArg some g0)
    have h2 : s0.data.toList.length = s0.size := Array.length_toList
    unfold reachBytes at h1
    omega
  clear hA0
  refine (walk s0 w0 W (tabs hL) (tabSg hL) (tabE hL) (tabP hL)).mono fun e W' ⟨he, bel⟩ => ?_
  subst he
  exact ⟨_, rfl, _, _, _, [], _, [], hW', trodAll_mk1 (shut_bool Tryd.underlying4 _), (trodAll_cons_mk (Below.trod laidOut (by kernel_rfl) (of_decide_eq_true (by kernel_rfl)) k0 bel lt0) trodAll_mk0), rfl, bel.frame _, fun h => by cases h⟩

/-- For the world of the witness: the settled one, the tables holding what their text lays. -/
def put (c : Array Value) : Obj → Obj
  | .cells _ t frozen => .cells c t frozen
  | x => x
theorem laid_met (os : Os) : laidMet Tryd.prog Rows.lexCoversRow.laid ((World.laidAll Tryd.prog os Rows.lexCoversRow.laid).forCall (fun _ _ => 0) ⟨#[], #[.string ByteArray.empty], []⟩).memory :=
  laidMet_laidAll _ (by kernel_rfl) (by kernel_rfl)
theorem reads (os : Os) {H : Type} (enc : TypeId × Value → H) : ∃ places, DataW.whole enc Tryd.prog ((World.laidAll Tryd.prog os Rows.lexCoversRow.laid).forCall (fun _ _ => 0) ⟨#[], #[.string ByteArray.empty], []⟩).memory Tryd.f3.params.toList Rows.lexCoversSpec.vars false (#[.string ByteArray.empty] : Array Value).toList 8 = some ([.lit (.string [])], [], places) :=
  ⟨[], by kernel_rfl⟩

set_option maxRecDepth 100000 in
theorem lifted (os : Os) (started : os.Started) (H : Type) (enc : TypeId × Value → H) (F : Stop.Interp) :
    ReturnsInHanded {} Tryd.checked os 3 .any ((OpenSpec.ofChange Rows.lexCoversSpec).preRow enc Tryd.prog Tryd.f3 Rows.lexCoversRow.domain false Rows.lexCoversRow.laid) (((OpenSpec.ofChange Rows.lexCoversSpec).at F).post enc Tryd.prog Tryd.f3 false true false false) := by
  obtain ⟨places, hx⟩ := reads os enc
  refine returnsInHanded_of_row (C := Tryd.checked) (s := OpenSpec.ofChange Rows.lexCoversSpec) own started (by kernel_rfl) Tryd.func3
    ⟨(World.laidAll Tryd.prog os Rows.lexCoversRow.laid), fun _ _ => 0, ⟨#[], #[.string ByteArray.empty], []⟩, World.laidAll_os _ _ _, World.shaped_of_ZipB (by kernel_rfl) (by kernel_rfl), rfl, (Input.okWide_of_okWideB (show Input.okWideB Tryd.prog ((World.laidAll Tryd.prog os Rows.lexCoversRow.laid).forCall (fun _ _ => 0) ⟨#[], #[.string ByteArray.empty], []⟩) 3 ⟨#[], #[.string ByteArray.empty], []⟩ = true by kernel_rfl)).2,
      OpenSpec.preRow_of_cond 8 hx (by kernel_rfl) (fun k hk => by cases hk) (by kernel_rfl) (laid_met os),
      by simp only [Assume.holds]; exact ⟨by simp, by simp, by simp, by simp, by simp⟩⟩ ?_
  intro W base args ds gs before hval hW _ _ hsz hL _ _
  exact contract H enc W base args ds gs before hval hsz hW hL

theorem said : Rows.LexCoversSaid :=
  OpenClaim.holds_of_cond 3 Tryd.f3 rfl rfl rfl rfl rfl rfl rfl ⟨rfl, rfl, rfl, rfl, rfl⟩ rfl rfl rfl rfl rfl (by kernel_rfl) Tryd.func3 (by kernel_rfl)
    (of_decide_eq_true (by kernel_rfl)) (by unfold Func.isWrapper; first | (rw [if_pos (by decide +kernel)]; kernel_rfl) | (rw [if_neg (by decide +kernel)]; exact ⟨rfl, rfl⟩))
    (fun os started H enc _ F => by rw [OpenClaim.pre_eq_preRow]; exact lifted os started H enc F)

theorem plain (f : FuncId) (fn : Func) (hf : Tryd.pinned.checked.prog.funcNamed "sluice/sluicelaw3.LexCovers" = some f) (hfn : Tryd.pinned.checked.prog.funcs[f]? = some fn) :
    true = Tryd.pinned.checked.prog.looks [] ∧ ∀ (j : Nat) t, fn.params[j]? = some t → Tryd.pinned.checked.prog.wantsStandIn t = false := by
  obtain rfl : f = 3 := Option.some.inj ((show Tryd.prog.funcNamed "sluice/sluicelaw3.LexCovers" = some 3 by kernel_rfl).symm.trans hf) |>.symm
  obtain rfl : fn = Tryd.f3 := (Option.some.inj (Tryd.func3.symm.trans hfn)).symm
  refine ⟨by kernel_rfl, fun j t ht => ?_⟩
  rw [Tryd.params3] at ht
  have hm : t = 9 := by simpa using Array.mem_of_getElem? ht
  rw [hm]
  exact (show Tryd.prog.wantsStandIn 9 = false by kernel_rfl)

end Go.Proofs.YtlcmfefcammklabDoor.lexCovers
namespace Go.Proofs.YtlcmfefcammklabDoor
theorem lexCovers_holds : Rows.LexCoversCardSaid :=
  Claim7.holds_tied_plain_at .later [] _ _ _ _ lexCovers.said (fun _ h => by cases h) (by kernel_rfl) (fun _ h => by cases h) lexCovers_row_tie rfl ⟨rfl, rfl⟩ (by kernel_rfl) rfl lexCovers.plain (by kernel_rfl)
#print axioms lexCovers_holds
end Go.Proofs.YtlcmfefcammklabDoor
