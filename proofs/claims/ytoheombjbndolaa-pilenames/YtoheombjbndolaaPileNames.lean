/- For every list of names the law PileNames returns true: what is laid down comes out in its order, Sorted and Sort say the same, and the list stays. No condition. -/
import Derived.Test.YtoheombjbndolaaHlaN
import Derived.Test.YtoheombjbndolaaHrsN
import Derived.Test.YtoheombjbndolaaHlg
import Derived.Test.YtoheombjbndolaaOpenH
import Derived.Carry
import Derived.ChangeMaps5
import Derived.SizedLaws
import Derived.Lib.SmallJoins
import Derived.Deep.DeepHandedRow
namespace Go.Proofs.Ytoheombjbndolaa.pileNames
open Go.ChangeShapes Go.WideShapes Go.ChangeAt Go.RowKit Go.BigFrame
set_option linter.unusedVariables false
set_option linter.unusedSimpArgs false

abbrev zA : Array Value := #[.int .i64 0, .int .u64 0]
structure Dr (M : List Nm) (u3 : World) (p : Nat) (v3 : Value) (vi : Value) (wr : World) : Prop where
  ex : ∃ (k : Nat) (v' : Value), k ≤ M.length ∧ vi = .int .i64 (k : Int) ∧ nmPa wr p (p + 1) v' ((lay nmLt M).drop k) M.length ∧ Gb p v3 u3 wr ∧ (∀ g, v'.ownBlock = some g → v3.ownBlock = some g)
set_option maxRecDepth 100000 in
set_option maxHeartbeats 4000000 in
theorem walk (ao : Option Addr) (cap : Nat) (M : List Nm) (w : World) (hsl : Sl ao M.length cap) (F : Flat w ao (fl nmC M)) (hl : M.length * 16 ≤ 140737488351232) (ok : ∀ k, (fun _ => True) (M.getD k ⟨0, 0⟩)) : Calls Try.prog 6 #[.slice ao M.length cap] w fun e w' => e = .returned (.bool true) ∧ Below w.heap.size w w' := by
  have c1 := nmRef M.length M (Nat.le_refl _) ao cap w hsl F hl
  have hz : (srt nmLt M).length = M.length := srt_len _ _
  have HZ : Hid ((srt nmLt M).length = M.length) := hz
  have hptr : ∀ (b : Nat) (W : World), (binOp .eql 41 (.pointer (some ⟨b, 0, none⟩)) (.pointer none)).run Try.prog W = .ok (.bool false) W := fun b W => by kernel_rfl
  clear ok hz
  go_enter Try.func6, Try.ntmps6
  go_upto_region 6 with (first
    | (go_at_call 19; (with_reducible refine c1.mono ?_); rintro e u ⟨a, c, rfl, O1, G1⟩; have c0 := nmNew u; have P0 := nmPa_new u; have B0 := galloc (Below.refl u.heap.size u) (.cells #[.slice none 0 0, .int .i64 0] 64); generalize hW0 : u.alloc (.cells #[.slice none 0 0, .int .i64 0] 64) = W0 at *)
    | (go_at_call 20; (with_reducible refine c0.mono ?_); rintro e u1 ⟨rfl, hu⟩; have hu' := hu.symm; subst hu'))
  have hul := B0.size
  generalize hpp : u.heap.size = pp at *
  go_loopw [5] (fun vi wr => ∃ (i : Nat) (v : Value), i ≤ M.length ∧ vi = .int .i64 (i : Int) ∧ nmPa wr pp (pp + 1) v (lay nmLt (M.take i)) i ∧ Below pp u wr) (fun vi _ => M.length - (intOf vi).toNat)
  case atStart => exact ⟨0, _, Nat.zero_le _, rfl, P0, B0⟩
  case round =>
    obtain ⟨i, v, hi, rfl, P, B⟩ := hrel
    clear c0 P0 B0 c1 hW0
    have B' : Below u.heap.size u wr := by rw [hpp]; exact B
    have FF := F.keep (gtrans G1 B')
    by_cases hlt : i < M.length
    · obtain ⟨g, o, rfl, hgl, _⟩ := FF.form (by rw [fl_len nm_size]; omega)
      have rx := flat_range nm_size zrNm FF i hlt
      obtain ⟨x, hx⟩ : ∃ x, M.getD i zrNm = x := ⟨_, rfl⟩
      rw [hx] at rx
      have HX : Hid (M.getD i zrNm = x) := hx
      have HT : Hid (i < M.length) := hlt
      have q1 : (i : Int) < (M.length : Int) := by omega
      have hlen : (lay nmLt (M.take i)).length = i := by rw [lay_len, List.length_take]; omega
      have hz : pp + 1 ≤ wr.heap.size := P.blk.lt
      have c9 := nmPush pp (pp + 1) i v (lay nmLt (M.take i)) x wr P (by rw [hlen]; omega) hz (by omega) (fun e => by subst e; rfl)
      clear hx hlt hlen
      go_wp2_with (first
        | (refine wpList_load_mid rfl 44 _ rfl g (o + i * 2) rfl (nmC x).toList _ rx Try.underlying44 rfl infoNm ?_)
        | (go_at_call 21; (with_reducible refine c9.mono ?_); rintro e u2 ⟨rfl, v2, P9, G9, V9⟩))
      go_roundw
      case rel =>
        have hx : M.getD i zrNm = x := HX
        have hlt : i < M.length := HT
        refine ⟨i + 1, v2, by omega, by go_num, ?_, G9.toBelow B (by omega) (Nat.le_refl _) (fun g e => by have := (P.low g e).1; omega)⟩
        rw [take_snoc M zrNm i hlt, hx, lay_snoc, List.length_take, Nat.min_eq_left (by omega)]
        exact P9
      case measure => simp [intOf]; omega
    · obtain rfl : i = M.length := by omega
      have hki : ¬ (M.length : Int) < (M.length : Int) := by omega
      rw [List.take_length] at P
      have hlen : (lay nmLt M).length = M.length := lay_len _ _
      have c9 := nmSorted pp (pp + 1) M.length v (lay nmLt M) wr P (by rw [hlen]; omega)
      rw [hlen] at c9
      have HLL : Hid ((lay nmLt M).length = M.length) := hlen
      have hz : (srt nmLt M).length = M.length := HZ
      have O2 := own_keep O1 B'
      clear hlt hlen
      go_upto_region 16 with (first
        | (go_at_call 22; (with_reducible refine c9.mono ?_); rintro e u3 ⟨g3, rfl, O3, G3⟩)
        | (at_builtin; refine wpList_append_flatw rfl (.tmp 33) (.tmp 34) rfl Try.underlying39 nfNm rfl (by decide) (.slice none 0 0) u3.heap.size 0 [] rfl (World.ownsRow_nil _ _ _ _) (Nat.le_refl _) ao M.length cap (fl nmC M) rfl hsl (FF.keep G3) (fl_len nm_size M) (fl_one nm_ones1 M) (by omega) (by omega) ?_; intro v6 w6 O6 G6; rw [Nat.zero_add, List.nil_append] at O6; obtain ⟨a6, p6, rfl, _⟩ := own_form O6; have B6 : Below u3.heap.size u3 w6 := (Below.refl _ _).grown G6 (Nat.le_refl _) (fun k e => by simp [Value.ownBlock] at e); have cs := nmSort ao cap M w6 hsl (FF.keep (gtrans G3 B6)) hl)
        | (go_at_call 23; (with_reducible refine cs.mono ?_); rintro e u7 ⟨g7, rfl, O7, G7⟩; have F3 : Flat u7 (some ⟨g3, 0, none⟩) (fl nmC (srt nmLt M)) := (own_flat O3).keep (gtrans B6 G7); have F1 := (own_flat O2).keep (gtrans (gtrans G3 B6) G7); have e1 := sameNames_true (some ⟨g3, 0, none⟩) a M.length c (srt nmLt M) u7 F3 F1 (by rw [hz]; omega); rw [hz] at e1)
        | (go_at_call 24; (with_reducible refine e1.mono ?_); rintro e u8 ⟨rfl, G8⟩; have F7 : Flat u8 (some ⟨g7, 0, none⟩) (fl nmC (srt nmLt M)) := (own_flat O7).keep G8; have e2 := sameNames_true (some ⟨g7, 0, none⟩) a M.length c (srt nmLt M) u8 F7 (F1.keep G8) (by rw [hz]; omega); rw [hz] at e2; clear e1)
        | (go_at_call 24; (with_reducible refine e2.mono ?_); rintro e u9 ⟨rfl, G9⟩; have e3 := sameNames_true ao a6 cap p6 M u9 (FF.keep (gtrans (gtrans (gtrans (gtrans G3 B6) G7) G8) G9)) ((own_flat O6).keep (gtrans (gtrans G7 G8) G9)) (by omega); clear e2)
        | (go_at_call 24; (with_reducible refine e3.mono ?_); rintro e wz10 ⟨rfl, G10⟩; clear e3))
      have GA := gtrans (gtrans (gtrans (gtrans (gtrans G3 B6) G7) G8) G9) G10
      have P3 := P.keep GA
      have OW := own_keep O2 GA
      have hlow3 := P3.low
      clear P O2 O3 O6 O7 F3 F1 F7 c9 hki FF hz cs
      go_loopw [9, 10, 11] (fun vi _ _ wr => Dr M wz10 pp v vi wr) (fun vi _ _ _ => M.length - (intOf vi).toNat)
      case atStart => exact ⟨0, v, Nat.zero_le _, rfl, P3, Gb.of (Below.refl _ _), fun g e => e⟩
      case round =>
        obtain ⟨⟨k, v', hk, rfl, PK, GK, VK⟩⟩ := hrel
        have hLL : (lay nmLt M).length = M.length := HLL
        have hz : (srt nmLt M).length = M.length := HZ
        have OWk := GK.own P3 OW (by decide) (by decide)
        by_cases hlt : k < M.length
        · have q1 : (k : Int) < (M.length : Int) := by omega
          have c5 := nmPopA pp (pp + 1) M.length v' ((lay nmLt M).drop k) wr PK (by rw [List.length_drop, hLL]; omega)
          rw [drop_headD, drop_lt, hLL, decide_eq_true hlt, List.tail_drop] at c5
          unfold nmTopV at c5
          have hsg : (srt nmLt M).getD k zrNm = ((lay nmLt M).getD k (zrNm, 0)).1 := by
            have h1 : k < (lay nmLt M).length := by omega
            unfold srt
            simp [List.getD_eq_getElem?_getD, h1]
          obtain ⟨x, hx⟩ : ∃ x, ((lay nmLt M).getD k (zrNm, 0)).1 = x := ⟨_, rfl⟩
          rw [hx] at c5 hsg
          have sx := nm_one1 x
          have HT : Hid (k < M.length) := hlt
          have HG : Hid ((srt nmLt M).getD k zrNm = x) := hsg
          clear hx hlt hLL hsg hz
          go_upto_region 19 with (first
            | (go_at_call 25; (with_reducible refine c5.mono ?_); rintro e u5 ⟨rfl, v5, P5, G5, V5⟩; have bz := Bk.new u5 zA 44; have th := bz.there; have b5 := bz.setCells (cs' := nmC x) rfl; have G6 := gsetCells (galloc (Below.refl u5.heap.size u5) (.cells zA 44)) (Nat.le_refl _) (nmC x).toList 0; generalize hX5 : (u5.alloc (.cells zA 44)).setCells u5.heap.size 0 (nmC x).toList = X5 at *)
            | (refine wpList_store_mid rfl 44 _ _ rfl u5.heap.size 0 (nmC x) rfl rfl th infoNm sx ?_; rw [hX5]))
          have P6 := P5.keep G6
          have hlt : k < M.length := HT
          have hz : (srt nmLt M).length = M.length := HZ
          have OW5 := own_keep (G5.own PK OWk (by decide) (by decide)) G6
          obtain ⟨gw, ow, rfl, _, _⟩ := (own_flat OW5).form (by rw [fl_len nm_size]; omega)
          have rw5 := flat_range nm_size zrNm (own_flat OW5) k (by omega)
          rw [show (srt nmLt M).getD k zrNm = x from HG] at rw5
          have r5 := b5.range
          have GK2 : Gb pp v wz10 X5 := (GK.trans G5 (fun g e => .inl (VK g e))).below G6
          have hne0 : Nonempty (Ext X5) := ⟨⟨_, Below.refl _ _⟩⟩
          clear th bz c5 hlt hz
          refine wp_region_ext (by kernel_rfl) (by kernel_rfl) ?_
          repeat (first
            | (refine wpQuiet_load_mid rfl 44 (.tmp 10) rfl u5.heap.size 0 rfl (nmC x) _ (fun X hX => by obtain ⟨nx, rfl⟩ := hX; exact rangeAt_keep r5 nx.h) Try.underlying44 rfl infoNm _ rfl ?_; simp only [Act.put, List.setIfInBounds_toArray, List.set_cons_succ, List.set_cons_zero])
            | (refine wpQuiet_load_mid rfl 44 (.tmp 71) rfl gw (ow + k * 2) rfl (nmC x) _ (fun X hX => by obtain ⟨nx, rfl⟩ := hX; exact rangeAt_keep rw5 nx.h) Try.underlying44 rfl infoNm _ rfl ?_; simp only [Act.put, List.setIfInBounds_toArray, List.set_cons_succ, List.set_cons_zero])
            | (refine quiet_neq_same rfl (.tmp 68) (.tmp 72) 44 rfl nmGuard (nmC x) (nm_eq x) rfl rfl _ rfl ?_; simp only [Act.put, List.setIfInBounds_toArray, List.set_cons_succ, List.set_cons_zero])
            | go_big_quiet_step (fail))
          refine wpQuiet_nil ?_
          intro _ hw'
          obtain ⟨nx, hw''⟩ := hw'
          subst hw''
          go_wp2
          go_roundw
          case rel =>
            have hlt : k < M.length := HT
            exact ⟨⟨k + 1, v5, by omega, by go_num, P6.keep nx.h, GK2.below nx.h, fun g e => VK g (V5 g e)⟩⟩
          case measure => have hlt : k < M.length := HT; simp [intOf]; omega
        · obtain rfl : k = M.length := by omega
          have hki : ¬ (M.length : Int) < (M.length : Int) := by omega
          have eD : (lay nmLt M).drop M.length = [] := List.drop_eq_nil_of_le (by omega)
          rw [eD] at PK
          have cpop := nmPopA pp (pp + 1) M.length v' [] wr PK (by simp)
          have hxz : (([] : List (Nm × Nat)).headD (zrNm, 0)).1 = zrNm := rfl
          have hbz : decide (0 < ([] : List (Nm × Nat)).length) = false := rfl
          rw [hxz, hbz] at cpop
          unfold nmTopV at cpop
          have sz := nm_one1 zrNm
          clear hLL eD hlt hz
          go_upto_region 22 with (first
            | (go_at_call 25; (with_reducible refine cpop.mono ?_); rintro e u5 ⟨rfl, v5, P5, G5, V5⟩; have bz := Bk.new u5 zA 44; have th := bz.there; have b5 := bz.setCells (cs' := nmC zrNm) rfl; have G6 := gsetCells (galloc (Below.refl u5.heap.size u5) (.cells zA 44)) (Nat.le_refl _) (nmC zrNm).toList 0; generalize hX5 : (u5.alloc (.cells zA 44)).setCells u5.heap.size 0 (nmC zrNm).toList = X5 at *)
            | (refine wpList_store_mid rfl 44 _ _ rfl u5.heap.size 0 (nmC zrNm) rfl rfl th infoNm sz ?_; rw [hX5]))
          have r5 := b5.range
          have hb0 := nmBuildZ
          go_wp2_with (first
            | (refine wpList_load_midw rfl 44 (.tmp 12) rfl u5.heap.size 0 rfl (nmC zrNm) _ r5 Try.underlying44 rfl infoNm ?_; refine wpList_buildz rfl rfl (hb0 _) ?_; refine wpList_eql_samew rfl (.tmp 83) (.tmp 84) 44 rfl nmGuard (nmC zrNm) (nm_eq zrNm) rfl rfl ?_))
          go_ret
          have GF : Gb pp v wz10 X5 := (GK.trans G5 (fun g e => .inl (VK g e))).below G6
          exact ⟨rfl, (GF.toBelow (gtrans G1 (gtrans B' GA)) (Nat.le_refl _) (by have := G1.size; omega) (fun g e => by have := (hlow3 g e).1; have := G1.size; omega))⟩

theorem own : ownKnob Try.prog.godebug = none := by kernel_rfl
theorem laidOut : laidOutB Try.prog = true := by kernel_rfl

set_option maxRecDepth 100000 in
theorem lifted (os : Os) (started : os.Started) (H : Type) (enc : TypeId × Value → H) :
    ReturnsInHanded {} Try.checked os 6 .any (Rows.pileNamesSpec.pre6 enc Try.prog Try.f6 Rows.pileNamesRow.domain false) (Rows.pileNamesSpec.post enc Try.prog Try.f6 false true false false) := by
  refine returnsInHanded_of_change_sized (C := Try.checked) own started (by kernel_rfl) Try.func6
    (ChangeSpec.witness6 (enc := enc) (C := Try.checked) false ⟨#[], #[.slice none 0 0], []⟩ 8 (by kernel_rfl) (by kernel_rfl) (by kernel_rfl) (by kernel_rfl)) ?_
  intro W base args ds gs before hval0 hW hcnd hsz0 _
  have hsz : (DataW.weightsEach Try.prog (Try.f6.params.toList ++ Rows.pileNamesSpec.plain.varTypes Try.prog) (ds ++ gs)).all (· ≤ reachBytes) = true := hsz0
  have hval : ∀ (j : Nat) t v, Try.f6.params[j]? = some t → args[j]? = some v → Value.okWide Try.prog W .any base t v := hval0
  have hW' := hW
  obtain ⟨p, q, hA0, hV, rfl, hfz, hnd⟩ := hW
  have hA : DataW.TrodAll enc Try.prog W 0 (fun _ => true) true Try.f6.params.toList args.toList ds p := hA0
  rw [Try.params6] at hA hval hsz
  obtain ⟨v0, vs0, d0, ds0, p0, q0, hargs, rfl, rfl, h0, r0⟩ := trodAll_cons hA
  obtain ⟨rfl, rfl, rfl⟩ := trodAll_nil r0
  obtain rfl : args = #[v0] := by cases args; simp_all
  obtain ⟨rfl, rfl⟩ := trodVars_none hV
  have k0 := h0
  have lt0 : ∀ x ∈ p0, x.block < W.heap.size := by obtain ⟨m, hm⟩ := k0; exact DataW.trod_lt m _ _ _ hm
  obtain ⟨ao0, cap0, l0, e0, wc0, w0, wr0, ws0⟩ : ∃ ao cap l, v0 = .slice ao (l : List Nm).length cap ∧ Sl ao l.length cap ∧ Flat W ao (fl nmC l) ∧ l.length * 16 ≤ 140737488351232 ∧ ∀ k, (fun _ => True) (l.getD k ⟨0, 0⟩) := by
    obtain ⟨a, len, cap, e⟩ := okWide_slice Try.underlying39 (hval 0 39 v0 rfl rfl)
    subst e
    obtain ⟨fuel, hf⟩ := h0
    have hf' : DataW.trod enc Try.prog W 0 (fun _ => true) true fuel 39 [.slice a len cap] = some (d0, p0) := hf
    exact open_nmrow hf' (fun b hb => by
      have h1 := List.all_eq_true.1 hsz b (DataW.weights_mem_each (j := 0) (t := 39) rfl rfl b hb)
      simpa using h1)
  subst e0
  clear hA0 hval0
  refine (walk ao0 cap0 l0 W wc0 w0 wr0 ws0).mono fun e W' ⟨he, bel⟩ => ?_
  subst he
  exact ⟨_, rfl, _, _, _, [], _, [], hW', trodAll_mk1 (shut_bool Try.underlying4 _), (trodAll_cons_mk (Below.trod laidOut (by kernel_rfl) (of_decide_eq_true (by kernel_rfl)) k0 bel lt0) trodAll_mk0), rfl, bel.frame _, fun h => by cases h⟩

theorem over : Rows.pileNamesRow.holds Try.pinned (OpenSpec.ofChange Rows.pileNamesSpec) :=
  OpenClaim.holds_of_wide 6 Try.f6 rfl rfl rfl rfl rfl rfl rfl ⟨rfl, rfl, rfl, rfl, rfl⟩ rfl rfl rfl rfl rfl (by kernel_rfl) Try.func6 (by kernel_rfl)
    (of_decide_eq_true (by kernel_rfl)) (by unfold Func.isWrapper; first | (rw [if_pos (by decide +kernel)]; kernel_rfl) | (rw [if_neg (by decide +kernel)]; exact ⟨rfl, rfl⟩))
    (fun os started H enc _ => lifted os started H enc)

end Go.Proofs.Ytoheombjbndolaa.pileNames
namespace Go.Proofs.Ytoheombjbndolaa
theorem pileNames_holds : Rows.PileNamesSaid := pileNames.over
#print axioms pileNames_holds
end Go.Proofs.Ytoheombjbndolaa
