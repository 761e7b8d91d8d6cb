/- For every script and every list of held events the law GateSpares returns true: the lists that a gate tells, and the one that Restore was given, are their holder's alone, spare room too. No condition. -/
import Derived.Test.YthjnkcapjhelgaaGsh
import Derived.Carry
import Derived.ChangeMaps5
import Derived.SizedLaws
import Derived.Lib.SmallJoins
import Derived.Deep.DeepHandedRow
import Derived.Deep.RegionHeld3
import Derived.Deep.CutRange
namespace Go.Proofs.Ythjnkcapjhelgaa.gateSpares
open Go.ChangeShapes Go.WideShapes Go.ChangeAt Go.RowKit Go.BigFrame Go.Maps
set_option linter.unusedVariables false
set_option linter.unusedSimpArgs false

theorem big_room {n : Nat} (h : n * 88 ≤ 140737488351232) : ((0 + n) + (0 + n) / 4 + 192) * 88 ≤ 281474976710656 := by omega
abbrev zEvA : Array Value := #[.int .i64 0, .int .u64 0, .int .i64 0, .int .i64 0, .int .i64 0, .int .i64 0, .int .i64 0, .int .i64 0, .int .i64 0, .int .i64 0, .int .i64 0]
theorem room24 {n : Nat} (h : n * 112 ≤ 140737488351232) : (n + 2) * 24 ≤ 140737488351232 := by omega
theorem bld99 (w : World) : (Instr.build 47 #[(1, .int .u64 99)]).run Try.prog w = .ok (.agg (evC (mkE 0 99))) w := by kernel_rfl
set_option maxRecDepth 100000 in
set_option maxHeartbeats 8000000 in
theorem walk (ao : Option Addr) (ca : Nat) (l : List Gop) (ah : Option Addr) (ch : Nat) (held : List Ev) (w : World) (hsl : Sl ao l.length ca) (F : Flat w ao (fl gopC l)) (hl : l.length * 112 ≤ 140737488351232) (ok : ∀ k, (fun o : Gop => o.e.ok) (l.getD k zeroGo)) (hsh : Sl ah held.length ch) (FH : Flat w ah (fl evC held)) (hh : held.length * 88 ≤ 140737488351232) (okh : ∀ k, (held.getD k zeroE).ok) :
    Calls Try.prog 4 #[.slice ao l.length ca, .slice ah held.length ch] w fun e w' => e = .returned (.bool true) ∧ Below w.heap.size w w' := by
  clear hsl
  have hokh : ∀ e ∈ held, e.ok := fun e he => by
    obtain ⟨k, hk, rfl⟩ := List.getElem_of_mem he
    have := okh k
    rwa [getD_of_lt _ k hk] at this
  have cN1 := fun u : World => new_yes (cap := 64) (by decide) (by decide) u
  have hC0 : Gs.pushC ⟨64, -1152921504606846977, false, []⟩ (mkE (-1152921504606846976) 5) = 0 := by
    unfold Gs.pushC
    rw [if_neg (by simp), if_neg (by simp [mkE]), if_neg (by simp [mkE]), if_neg (by simp [hasN]), if_neg (by simp)]
  have fok : (mkE (-1152921504606846976) 5).ok := mkE_ok ⟨by omega, by omega, by omega, by omega⟩
  have hptr : ∀ (b : Nat) (W : World), (binOp .eql 40 (.pointer (some ⟨b, 0, none⟩)) (.pointer none)).run Try.prog W = .ok (.bool false) W := fun b W => by kernel_rfl
  go_enter Try.func4, Try.ntmps4
  go_upto_region 3 with (first
    | (go_at_call 13; (with_reducible refine (cN1 w).mono ?_); rintro e u1 ⟨g, S0, rfl, G1, Sg, Slo, g1⟩)
    | (go_at_call 13; (with_reducible refine (cN1 u1).mono ?_); rintro e u2 ⟨h, R0, rfl, H2, Rh, Rlo, g2⟩; have T2 : Gt2 w.heap.size u2 g h S0 R0 ⟨64, -1152921504606846977, false, []⟩ ⟨64, -1152921504606846977, false, []⟩ 0 := ⟨G1.keep g2, H2, fun k e1 e2 => by have := G1.lt k e1; have := Rlo k e2; omega, Slo, fun k e => Nat.le_trans g1.size (Rlo k e)⟩; have B2 := gtrans g1 g2))
  clear G1 H2 Sg Slo Rh Rlo g1 g2 cN1
  have hb5 := buildE2 (-1152921504606846976) 5 u2
  have bz := Bk.new u2 zEvA 47
  have th := bz.there
  have b5 := bz.setCells (cs' := evC (mkE (-1152921504606846976) 5)) rfl
  have sx := ev_one1 (mkE (-1152921504606846976) 5)
  have G5 := gsetCells (galloc (Below.refl u2.heap.size u2) (.cells zEvA 47)) (Nat.le_refl _) (evC (mkE (-1152921504606846976) 5)).toList 0
  generalize hX5 : (u2.alloc (.cells zEvA 47)).setCells u2.heap.size 0 (evC (mkE (-1152921504606846976) 5)).toList = X5 at *
  have T5 := T2.keep G5
  have B5 := gtrans B2 G5
  go_upto_region 4 with (first
    | (refine wpL_b2 rfl (.const (.int .i64 (-1152921504606846976))) (.const (.int .u64 5)) rfl rfl rfl hb5 ?_; simp only [Act.put, List.setIfInBounds_toArray, List.set_cons_succ, List.set_cons_zero])
    | (refine wpList_store_mid rfl 47 _ _ rfl u2.heap.size 0 (evC (mkE (-1152921504606846976) 5)) rfl rfl th infoEv sx ?_; rw [hX5]))
  have r5 := b5.range
  have c3 := push_any g 0 S0 _ (mkE (-1152921504606846976) 5) X5 T5.G fok (by omega)
  rw [hC0] at c3
  clear bz th hX5 sx hb5 G5 T2 B2
  have FH5 := FH
  go_upto_region 6 with (first
    | (refine wpList_load_midw rfl 47 _ rfl u2.heap.size 0 rfl (evC (mkE (-1152921504606846976) 5)) _ r5 Try.underlying47 rfl infoEv ?_)
    | (go_at_call 14; (with_reducible refine c3.mono ?_); rintro e u6 ⟨rfl, P3⟩; obtain ⟨S1, T6, F6⟩ := T5.step B5.size P3 (Nat.zero_le _); have r6 := (F6.loc T5.G b5 (by decide) (by decide) (by decide)).range; have c4 := push_any h 1 R0 _ (mkE (-1152921504606846976) 5) u6 T6.H fok (by omega); rw [hC0] at c4)
    | (refine wpList_load_midw rfl 47 _ rfl u2.heap.size 0 rfl (evC (mkE (-1152921504606846976) 5)) _ r6 Try.underlying47 rfl infoEv ?_)
    | (go_at_call 14; (with_reducible refine c4.mono ?_); rintro e u7 ⟨rfl, P4⟩))
  have B6 := F6.toBelow B5 (Nat.le_refl _) T5.lo
  obtain ⟨R1, T7, F7⟩ := T6.stepR B6.size P4 (Nat.le_succ _)
  have B7 := F7.toBelow B6 (Nat.le_refl _) T6.lo'
  clear c3 c4 r5 b5 P3 P4 F6 F7 T6 T5 B5 B6 hptr fok hC0 FH5
  obtain ⟨s0, hs0⟩ : ∃ s0, Gs.push ⟨64, -1152921504606846977, false, []⟩ (mkE (-1152921504606846976) 5) = s0 := ⟨_, rfl⟩
  rw [hs0] at T7
  clear hs0
  have hb1 : Hid (((0 + held.length) + (0 + held.length) / 4 + 192) * 88 ≤ 281474976710656) := big_room hh
  have hb2 : Hid (0 + held.length ≤ 9223372036854775807) := by unfold Hid; omega
  have O0 := World.ownsRow_lit (base := u7.heap.size) (e := 47) (size := 11) u7 #[] 0 (Nat.le_refl _) (Nat.zero_le _) rfl
  have G2 := galloc (Below.refl u7.heap.size u7) (.cells #[] 47)
  have F2 := (FH.keep B7).keep G2
  have hz2 := G2.size
  go_upto_region 7 with (first
    | (at_builtin; refine wpList_append_flatw rfl (.tmp 59) (.tmp 60) rfl Try.underlying39 nfEv rfl (by decide) (.slice (some ⟨u7.heap.size, 0, none⟩) 0 0) u7.heap.size 0 [] rfl O0 hz2 ah held.length ch (fl evC held) rfl hsh F2 (fl_len ev_size held) (fl_one ev_ones1 held) hb1.out hb2.out ?_; intro v8 u8 O8 Q8; rw [Nat.zero_add, List.nil_append] at O8; obtain ⟨a8, p8, rfl, _⟩ := own_form O8))
  have G3 : Below u7.heap.size u7 u8 := G2.grown Q8 hz2 (fun k e => by
    have : u7.heap.size = k := by simpa [Value.ownBlock] using e
    omega)
  have T8 := T7.keep G3
  have B8 := gtrans B7 G3
  have c9 := restore_any 4096 (-1152921504606846976) false a8 p8 held u8 (own_flat O8) (by omega) hokh
  clear O0 G2 F2 hz2 Q8 T7 G3
  go_upto_region 8 with (first
    | (go_at_call 15; (with_reducible refine c9.mono ?_); rintro e u9 hR9; obtain ⟨pg, cd9, bn, rfl, RH⟩ := rsH_of hR9; clear hR9))
  have T9 := T8.keep RH.below
  have B9 := gtrans B8 RH.below
  have O9 := own_keep O8 RH.below
  clear T8 B8 O8
  clear c9
  have hz9 := RH.below.size
  go_upto_region 9 with fail
  go_loopw [13] (fun vi wr => GvI u9 u7.heap.size (.slice a8 held.length p8) held.length vi wr) (fun vi _ => held.length - (intOf vi).toNat)
  case atStart => exact ⟨0, held, Nat.zero_le _, rfl, O9, Frm.refl _ _⟩
  case round =>
    obtain ⟨i, L9, hi, rfl, OR, FR⟩ := hrel
    by_cases hlt : i < held.length
    · obtain ⟨gv, cv, e, hbg, _⟩ := World.ownsRow.form OR (by omega)
      cases e
      have q1 : (i : Int) < (held.length : Int) := by omega
      have th := own_there OR i hlt
      have sx := ev_one1 (mkE 0 99)
      have O2 := own_putN OR hlt (mkE 0 99)
      have hbd := bld99 wr
      have F2 : Frm (fun q => (Value.slice (some ⟨gv, 0, none⟩) held.length p8).ownBlock = some q) u9 (wr.setCells gv (i * 11) (evC (mkE 0 99)).toList) := FR.put (g := gv) rfl (i * 11) _
      generalize hX : wr.setCells gv (i * 11) (evC (mkE 0 99)).toList = X at *
      go_upto_region 11 with fail
      refine wp_region_lit ?_
      refine wpL_mv rfl (.tmp 10) rfl rfl ?_
      simp only [Act.put, List.setIfInBounds_toArray, List.set_cons_succ, List.set_cons_zero]
      refine wpL_mv rfl (.tmp 13) rfl rfl ?_
      simp only [Act.put, List.setIfInBounds_toArray, List.set_cons_succ, List.set_cons_zero]
      refine wpL_b1 rfl (.const (.int .u64 99)) rfl rfl hbd ?_
      simp only [Act.put, List.setIfInBounds_toArray, List.set_cons_succ, List.set_cons_zero]
      refine wpL_ix rfl (.tmp 73) (.tmp 74) rfl rfl rfl (ix_run hlt wr) ?_
      simp only [Act.put, List.setIfInBounds_toArray, List.set_cons_succ, List.set_cons_zero]
      refine wpList_store_mid rfl 47 (.tmp 76) (.tmp 75) rfl gv (i * 11) (evC (mkE 0 99)) rfl rfl th infoEv sx ?_
      rw [hX]
      go_frame
      have HP : Hid (GvI u9 u7.heap.size (.slice (some ⟨gv, 0, none⟩) held.length p8) held.length (.int .i64 ((i : Int) + 1)) X) := ⟨i + 1, _, hlt, rfl, O2, F2⟩
      clear O2 F2 OR FR th hX hbd
      go_wp2
      go_roundw
      case rel => exact HP.out
      case measure => simp [intOf]; omega
    · obtain rfl : i = held.length := by omega
      have q1 : ¬ (held.length : Int) < (held.length : Int) := by omega
      clear hlt
      have hv7 : ∀ q, (Value.slice a8 held.length p8).ownBlock = some q → w.heap.size ≤ q := fun q e => Nat.le_trans B7.size (World.ownsRow.lt O9 q e).1
      have T10 := T9.row O9 (by decide) (by decide) (by decide) FR
      have B10 := FR.toBelow B9 (Nat.le_refl _) hv7
      go_upto_region 12 with fail
      go_cut [85] from 77 to 86 (fun s wx => s = .bool false ∧ Below wr.heap.size wr wx)
      case first =>
        have n1 := RH.isn wr
        cases bn with
        | false =>
          go_wp2
          go_meet
          case rel => exact ⟨rfl, Below.refl _ _⟩
        | true =>
          obtain ⟨gr, Sr, rfl, GR, _⟩ := RH.yes rfl
          have GR2 := Gat.row GR O9 (by decide) (by decide) (by decide) FR
          have c11 := held_any gr held.length Sr _ wr GR2
          clear RH
          go_wp2_with (first
            | (go_at_call 17; (with_reducible refine c11.mono ?_); rintro e u11 ⟨b11, rfl, O11, g11⟩; have c12 := sameEvG_true (some ⟨b11, 0, none⟩) ah held.length ch held u11 (own_flat O11) (FH.keep (gtrans B10 g11)) (by omega))
            | (go_at_call 16; (with_reducible refine c12.mono ?_); rintro e u12 ⟨rfl, g12⟩))
          go_meet
          case rel => exact ⟨rfl, gtrans g11 g12⟩
      case rest =>
        obtain ⟨rfl, B12⟩ := hcut
        have T12 := T10.keep B12
        have BB := gtrans B10 B12
        clear T10 B10 RH FR OR T9 B9 O9 hz9 B12 B7 hb1 hb2 hv7 hokh okh FH hh hsh
        go_upto_region 18 with fail
        go_loopw [14, 15, 16, 17, 18, 19, 20] (fun vb vo vt vi _ _ _ wr => GsI w.heap.size w g h l.length vb vo vt vi wr) (fun _ _ _ vi _ _ _ _ => l.length - (intOf vi).toNat)
        case atStart => exact ⟨0, 2, S1, R1, s0, [], [], [], fun _ => [], Nat.zero_le _, rfl, by omega, rfl, rfl, rfl, T12, World.ownsRow_nil _ _ _ _, World.ownsRow_nil _ _ _ _, World.ownsRow_nil _ _ _ _, (fun q e => by cases e), fun j hj => absurd hj (Nat.not_lt_zero _), ⟨fun j hj => absurd hj (Nat.not_lt_zero _), fun i j q hj => absurd hj (Nat.not_lt_zero _)⟩, fun j hj => absurd hj (Nat.not_lt_zero _), fun j hj => absurd hj (Nat.not_lt_zero _), BB⟩
        case round =>
          clear T12 BB
          obtain ⟨i, t, S, R, s, K, O, T, C, hi, rfl, ht, hK, hO, hT, TT, OB, OO, OT, sep, KP, RW, hn, RT, B⟩ := hrel
          by_cases hlt : i < l.length
          · obtain ⟨gl, ol, rfl, _, _⟩ := F.form (by rw [fl_len gop_size]; omega)
            have rF : ∀ u : World, Below w.heap.size w u → u.rangeAt gl (ol + i * 14) (gopC (l.getD i zeroGo)).toList := fun u B' => flat_range gop_size zeroGo (F.keep B') i hlt
            have xok : (l.getD i zeroGo).e.ok := ok i
            generalize l.getD i zeroGo = x at *
            have q1 : (i : Int) < (l.length : Int) := by omega
            have rx := rF wr B
            have c5 := lists_any g t S s x wr TT.G xok (by omega)
            have hLn := lsL_len TT.G.1 x
            have HT : Hid (i < l.length) := hlt
            clear hlt
            go_upto_region 21 with (first
              | (refine wpList_load_mid rfl 56 _ rfl gl (ol + i * 14) rfl (gopC x).toList _ rx Try.underlying56 rfl infoGop ?_)
              | (go_at_call 18; (with_reducible refine c5.mono ?_); rintro e u5 ⟨a5, p5, rfl, P5⟩))
            obtain ⟨S5, T5, F5⟩ := TT.step B.size P5.step (Nat.le_succ _)
            have B5 := F5.toBelow B (Nat.le_refl _) TT.lo
            have r5 := rF u5 B5
            have c6 := lists_any h (t + 1) R s x u5 T5.H xok (by have := HT.out; omega)
            go_upto_region 22 with (first
              | (refine wpList_load_mid rfl 56 _ rfl gl (ol + i * 14) rfl (gopC x).toList _ r5 Try.underlying56 rfl infoGop ?_)
              | (go_at_call 18; (with_reducible refine c6.mono ?_); rintro e u6 ⟨a6, p6, rfl, P6⟩))
            obtain ⟨R6, T6, F6⟩ := T5.stepR B5.size P6.step (Nat.le_succ _)
            have B6 := F6.toBelow B5 (Nat.le_refl _) T5.lo'
            have hl5 : ∀ q, (Value.slice a5 (lsL s x).length p5).ownBlock = some q → q < u5.heap.size := fun q e => (World.ownsRow.lt P5.own q e).2
            have O5 := F6.own T5.H P5.own (by decide) (by decide) (by decide)
            have O6 := P6.own
            have c7 := sameEvG_true a5 a6 p5 p6 (lsL s x) u6 (own_flat O5) (own_flat O6) (by omega)
            clear c5 c6 rx r5
            go_upto_region 24 with (first
              | (go_at_call 16; (with_reducible refine c7.mono ?_); rintro e u7 ⟨rfl, g7⟩))
            have hz5 := F5.size
            have hz6 := F6.size
            have hz7 := g7.size
            have T7 := T6.keep g7
            have B7 := gtrans B6 g7
            have yE : TyK 47 wr u7 := (TyK.frm F5 TT.G (by decide) (by decide) (by decide)).trans ((TyK.frm F6 T5.H (by decide) (by decide) (by decide)).trans (TyK.below g7))
            have yH : TyK 39 wr u7 := (TyK.frm F5 TT.G (by decide) (by decide) (by decide)).trans ((TyK.frm F6 T5.H (by decide) (by decide) (by decide)).trans (TyK.below g7))
            have yK : TyK 58 wr u7 := (TyK.frm F5 TT.G (by decide) (by decide) (by decide)).trans ((TyK.frm F6 T5.H (by decide) (by decide) (by decide)).trans (TyK.below g7))
            have OB7 := yK.own OB
            have OO7 := yH.own OO
            have OT7 := yH.own OT
            have O57 := own_keep O5 g7
            have O67 := own_keep O6 g7
            have hzz : w.heap.size ≤ wr.heap.size := B.size
            clear c7 O5 O6 P5 P6 T5 T6 TT F5 F6 B5 B6 g7 yH yK OB OO OT
            generalize lsL s x = LL at *
            generalize lsS s x = s' at *
            obtain ⟨n, hn'⟩ : ∃ n, LL.length = n := ⟨_, rfl⟩
            rw [hn'] at O57 O67 hLn hl5 ⊢
            -- others
            have G8 := galloc (Below.refl u7.heap.size u7) (.cells (hdC ⟨a6, n, p6⟩) 39)
            have n8 := World.news_of_block (Bk.new u7 (hdC ⟨a6, n, p6⟩) 39)
            have h8 := bldH ⟨a6, n, p6⟩ u7
            have OO8 := own_keep OO7 G8
            have OT8 := own_keep OT7 G8
            have b8 : w.heap.size ≤ (u7.alloc (.cells (hdC ⟨a6, n, p6⟩) 39)).heap.size := by have := G8.size; omega
            have ra8 : i + 1 ≤ 9223372036854775807 := by omega
            have rb8 : ((i + 1) + (i + 1) / 4 + 192) * 24 ≤ 281474976710656 := roomHd (by omega)
            have T8 := T7.keep G8
            have B8 := gtrans B7 G8
            have y8 : TyK 47 wr _ := yE.trans (TyK.below G8)
            have yk8 : TyK 58 u7 _ := TyK.below G8
            have O58 := own_keep O57 G8
            have O68 := own_keep O67 G8
            generalize hW8 : u7.alloc (.cells (hdC ⟨a6, n, p6⟩) 39) = W8 at *
            refine wp_region_lit ?_
            refine wpL_mv rfl (.tmp 15) rfl rfl ?_
            simp only [Act.put, List.setIfInBounds_toArray, List.set_cons_succ, List.set_cons_zero]
            refine wpL_mv rfl (.tmp 19) rfl rfl ?_
            simp only [Act.put, List.setIfInBounds_toArray, List.set_cons_succ, List.set_cons_zero]
            refine wpList_build1 rfl (.tmp 109) rfl rfl h8 ?_
            simp only [Act.put, List.setIfInBounds_toArray, List.set_cons_succ, List.set_cons_zero]
            refine wpL_two rfl (.tmp 108) (.tmp 110) rfl Try.underlying53 nfHd rfl (by decide) u15 w.heap.size i _ rfl OO8 b8 ⟨u7.heap.size, 0, none⟩ 1 (hdC ⟨a6, n, p6⟩).toList rfl rfl n8 (hd_ones _) ra8 rb8 ?_
            intro g9 c9 X9 OO9 Q9 L9
            simp only [Act.put, List.setIfInBounds_toArray, List.set_cons_succ, List.set_cons_zero]
            have hz9 := Q9.size
            have hz8 := G8.size
            have T9 := T8.grown2 OO8 (by decide) (by decide) (by decide) Q9
            have B9 : Below w.heap.size w X9 := B8.grown Q9 b8 (fun q e => (World.ownsRow.lt OO8 q e).1)
            have OT9 := own_side OT8 Q9 fun q e e2 => sep q e2 e
            have sep9 : ∀ q, (Value.slice (some ⟨g9, 0, none⟩) (i + 1) c9).ownBlock = some q → u16.ownBlock ≠ some q := fun q e e2 => by
              have e3 : g9 = q := by simpa [Value.ownBlock] using e
              subst e3
              rcases L9 with l9 | ⟨l9, _⟩
              · exact sep g9 l9 e2
              · have := (World.ownsRow.lt OT8 g9 e2).2
                omega
            have y9 := y8.trans (TyK.grown OO8 (by decide) Q9)
            have yk9 := yk8.trans (TyK.grown OO8 (by decide) Q9)
            have O59 := TyK.own (TyK.grown OO8 (by decide) Q9) O58
            have O69 := TyK.own (TyK.grown OO8 (by decide) Q9) O68
            clear T7 T8 B7 B8 OO7 OO8 OT7 OT8 n8 h8 ra8 rb8 y8 yk8 O57 O58 O67 O68 L9 Q9 sep yE G8 hW8 b8
            go_upto_region 25 with fail
            -- twins
            have O0 := World.ownsRow_lit (base := X9.heap.size) (e := 47) (size := 11) X9 #[] 0 (Nat.le_refl _) (Nat.zero_le _) rfl
            have G10 := galloc (Below.refl X9.heap.size X9) (.cells #[] 47)
            have hz10 := G10.size
            have F10 := (own_flat O69).keep G10
            have hb10 : ((0 + n) + (0 + n) / 4 + 192) * 88 ≤ 281474976710656 := roomL hLn
            have sl10 := own_sl O69
            have hfl : (fl evC LL).length = n * 11 := by rw [fl_len ev_size, hn']
            refine wp_region_lit ?_
            refine wpL_mv rfl (.tmp 16) rfl rfl ?_
            simp only [Act.put, List.setIfInBounds_toArray, List.set_cons_succ, List.set_cons_zero]
            refine wpL_s0 rfl rfl (bldS0 X9) ?_
            simp only [Act.put, List.setIfInBounds_toArray, List.set_cons_succ, List.set_cons_zero]
            refine wpL_mv rfl (.tmp 19) rfl rfl ?_
            simp only [Act.put, List.setIfInBounds_toArray, List.set_cons_succ, List.set_cons_zero]
            refine wpList_append_flatw rfl (.tmp 113) (.tmp 114) rfl Try.underlying39 nfEv rfl (by decide) (.slice (some ⟨X9.heap.size, 0, none⟩) 0 0) X9.heap.size 0 [] rfl O0 hz10 a6 n p6 (fl evC LL) rfl sl10 F10 hfl (fl_one ev_ones1 LL) hb10 (by omega) ?_
            intro v10 X10 O10 Q10
            rw [Nat.zero_add, List.nil_append] at O10
            obtain ⟨a10, p10, rfl, _⟩ := own_form O10
            simp only [Act.put, List.setIfInBounds_toArray, List.set_cons_succ, List.set_cons_zero]
            have B10' := twin_below Q10
            have hzA := B10'.size
            clear O0 G10 F10 Q10 hb10
            have G11 := galloc (Below.refl X10.heap.size X10) (.cells (hdC ⟨a10, n, p10⟩) 39)
            have hz11 := G11.size
            have n11 := World.news_of_block (Bk.new X10 (hdC ⟨a10, n, p10⟩) 39)
            have h11 := bldH ⟨a10, n, p10⟩ X10
            have OO11 := own_keep (own_keep OO9 B10') G11
            have OT11 := own_keep (own_keep OT9 B10') G11
            have ra11 : i + 1 ≤ 9223372036854775807 := by omega
            have rb11 : ((i + 1) + (i + 1) / 4 + 192) * 24 ≤ 281474976710656 := roomHd (by omega)
            have T11 := (T9.keep B10').keep G11
            have B11 := gtrans (gtrans B9 B10') G11
            have b11 : w.heap.size ≤ (X10.alloc (.cells (hdC ⟨a10, n, p10⟩) 39)).heap.size := B11.size
            have yb11 : ∀ T, TyK T X9 (X10.alloc (.cells (hdC ⟨a10, n, p10⟩) 39)) := fun T => (TyK.below B10').trans (TyK.below G11)
            have O5b := (yb11 _).own O59
            have O6b := (yb11 _).own O69
            have OTb := own_keep O10 G11
            generalize hW11 : X10.alloc (.cells (hdC ⟨a10, n, p10⟩) 39) = W11 at *
            refine wpList_build1 rfl (.tmp 115) rfl rfl h11 ?_
            simp only [Act.put, List.setIfInBounds_toArray, List.set_cons_succ, List.set_cons_zero]
            refine wpL_two rfl (.tmp 112) (.tmp 116) rfl Try.underlying53 nfHd rfl (by decide) u16 w.heap.size i _ rfl OT11 b11 ⟨X10.heap.size, 0, none⟩ 1 (hdC ⟨a10, n, p10⟩).toList rfl rfl n11 (hd_ones _) ra11 rb11 ?_
            intro g12 c12 X12 OT12 Q12 L12
            simp only [Act.put, List.setIfInBounds_toArray, List.set_cons_succ, List.set_cons_zero]
            have hz12 := Q12.size
            have T12' := T11.grown2 OT11 (by decide) (by decide) (by decide) Q12
            have B12' : Below w.heap.size w X12 := B11.grown Q12 b11 (fun q e => (World.ownsRow.lt OT11 q e).1)
            have OO12 := own_side OO11 Q12 sep9
            have sep12 : ∀ q, (Value.slice (some ⟨g9, 0, none⟩) (i + 1) c9).ownBlock = some q → (Value.slice (some ⟨g12, 0, none⟩) (i + 1) c12).ownBlock ≠ some q := fun q e e2 => by
              have e3 : g12 = q := by simpa [Value.ownBlock] using e2
              subst e3
              rcases L12 with l9 | ⟨l9, _⟩
              · exact sep9 g12 e l9
              · have := (World.ownsRow.lt OO11 g12 e).2
                omega
            have yg : ∀ T, T ≠ 39 → TyK T W11 X12 := fun T hT => TyK.grown OT11 (Ne.symm hT) Q12
            have y12 := (y9.trans (yb11 _)).trans (yg _ (by decide))
            have OB12 := ((yk9.trans (yb11 _)).trans (yg _ (by decide))).own OB7
            have O5c := (yg _ (by decide)).own O5b
            have O6c := (yg _ (by decide)).own O6b
            have OTc := (yg _ (by decide)).own OTb
            clear T9 T11 B9 B11 OO9 OO11 OT9 OT11 n11 h11 ra11 rb11 y9 yk9 O59 O69 O5b O6b OTb L12 Q12 sep9 yb11 yg G11 hW11 b11 B10' O10 OB7
            go_upto_region 26 with fail
            obtain ⟨ab, cb, rfl, _⟩ := own_form OB12
            have c13 := markedG_any wr.heap.size a5 n p5 (i : Int) LL X12 O5c (by omega) hLn
            have ra14 : i + 1 ≤ 9223372036854775807 := by omega
            have rb14 : ((i + 1) + (i + 1) / 4 + 192) * 48 ≤ 281474976710656 := roomKp (by omega)
            have hX12 : w.heap.size ≤ X12.heap.size := B12'.size
            refine wp_region_lit ?_
            refine wpL_mv rfl (.tmp 14) rfl rfl ?_
            simp only [Act.put, List.setIfInBounds_toArray, List.set_cons_succ, List.set_cons_zero]
            refine wpL_mv rfl (.tmp 18) rfl rfl ?_
            simp only [Act.put, List.setIfInBounds_toArray, List.set_cons_succ, List.set_cons_zero]
            refine wpL_mv rfl (.tmp 14) rfl rfl ?_
            simp only [Act.put, List.setIfInBounds_toArray, List.set_cons_succ, List.set_cons_zero]
            refine wpL_val (w' := X12) rfl (.int .i64 (i : Int)) (by kernel_rfl) ?_
            simp only [Act.put, List.setIfInBounds_toArray, List.set_cons_succ, List.set_cons_zero]
            refine wpL_call rfl 19 #[.slice a5 n p5, .int .i64 (i : Int)] (by kernel_rfl) _ c13 ?_
            rintro e X13 ⟨gb, cq, rfl, FA, IA, OX, F13⟩
            refine ⟨_, rfl, ?_⟩
            have h14 := bldKp ⟨a5, n, p5, some ⟨gb, 0, none⟩, cq⟩ X13
            have G14 := galloc (Below.refl X13.heap.size X13) (.cells (kpC ⟨a5, n, p5, some ⟨gb, 0, none⟩, cq⟩) 58)
            have n14 := World.news_of_block (Bk.new X13 (kpC ⟨a5, n, p5, some ⟨gb, 0, none⟩, cq⟩) 58)
            have OB14 := own_keep ((TyK.row O5c (by decide) F13).own OB12) G14
            have b14 : w.heap.size ≤ (X13.alloc (.cells (kpC ⟨a5, n, p5, some ⟨gb, 0, none⟩, cq⟩) 58)).heap.size := Nat.le_trans hX12 (Nat.le_trans F13.size G14.size)
            generalize hW14 : X13.alloc (.cells (kpC ⟨a5, n, p5, some ⟨gb, 0, none⟩, cq⟩) 58) = W14 at *
            simp only [Act.put, List.setIfInBounds_toArray, List.set_cons_succ, List.set_cons_zero]
            refine wpList_build1 rfl (.tmp 122) rfl rfl h14 ?_
            simp only [Act.put, List.setIfInBounds_toArray, List.set_cons_succ, List.set_cons_zero]
            refine wpL_two rfl (.tmp 118) (.tmp 123) rfl Try.underlying52 nfKp rfl (by decide) (.slice ab i cb) w.heap.size i _ rfl OB14 b14 ⟨X13.heap.size, 0, none⟩ 1 (kpC ⟨a5, n, p5, some ⟨gb, 0, none⟩, cq⟩).toList rfl rfl n14 (kp_ones _) ra14 rb14 ?_
            intro g15 c15 X15 OB15 Q15 L15
            simp only [Act.put, List.setIfInBounds_toArray, List.set_cons_succ, List.set_cons_zero]
            have hv5 : ∀ q, (Value.slice a5 n p5).ownBlock = some q → wr.heap.size ≤ q := fun q e => (World.ownsRow.lt O5c q e).1
            have T15 := ((T12'.row O5c (by decide) (by decide) (by decide) F13).keep G14).grown2 OB14 (by decide) (by decide) (by decide) Q15
            have yo : TyK 39 X12 X15 := ((TyK.row O5c (by decide) F13).trans (TyK.below G14)).trans (TyK.grown OB14 (by decide) Q15)
            have ye : TyK 47 X13 X15 := (TyK.below G14).trans (TyK.grown OB14 (by decide) Q15)
            have B13 := F13.toBelow B12' (Nat.le_refl _) (fun q e => Nat.le_trans hzz (hv5 q e))
            have B15 : Below w.heap.size w X15 := (gtrans B13 G14).grown Q15 b14 (fun q e => (World.ownsRow.lt OB14 q e).1)
            have HG : GsI w.heap.size w g h l.length (.slice (some ⟨g15, 0, none⟩) (i + 1) c15) (.slice (some ⟨g9, 0, none⟩) (i + 1) c9) (.slice (some ⟨g12, 0, none⟩) (i + 1) c12) (.int .i64 ((i : Int) + 1)) X15 :=
              GsI.more (M := u5.heap.size) (L := LL) HT.out (by omega) hK hO hT hzz T15 OB15 (yo.own OO12) (yo.own OT12) sep12 ((y12.above F13 hv5).trans ye) KP RW hn RT
                ⟨hLn, ye.re (RE.of_flat FA IA (fun e => by rw [e]; rfl)), ye.re (RE.of_own OX)⟩ hz5 (ye.own (own_same O6c fun q e => F13.blk q (World.ownsRow.lt O6c q e).2 fun e2 => by have := hl5 q e2; have := (World.ownsRow.lt O6c q e).1; omega)) hLn
                (ye.re (RE.of_own (own_same OTc fun q e => F13.blk q (World.ownsRow.lt OTc q e).2 fun e2 => by have := hl5 q e2; have := (World.ownsRow.lt OTc q e).1; omega))) hn'.symm B15
            clear T15 yo ye B13 B15 hv5 T12' B12' OO12 OT12 OB12 sep12 y12 KP RW hn RT O5c O6c OTc OB14 OB15 Q15 L15 FA IA OX F13 h14 G14 n14 b14 hW14 c13 ra14 rb14
            obtain ⟨i1, t1, Sx, Rx, s1, K1, O1, Tl1, C1, hi1, hv1, ht1, hK1, hO1, hT1, TT1, OB1, OO1, OT1, sep1, KP1, RW1, hn1, RT1, BB1⟩ := id HG
            obtain rfl : i1 = i + 1 := by
              simp only [Value.int.injEq, true_and] at hv1
              omega
            clear hv1 TT1 sep1 BB1 hi1 ht1 hK hO hT
            go_upto_region 28 with fail
            go_loopw [20] (fun vn wr => ∃ j : Nat, j ≤ i + 1 ∧ vn = .int .i64 (j : Int) ∧ Below X15.heap.size X15 wr) (fun vn _ => i + 1 - (intOf vn).toNat)
            case atStart => exact ⟨0, Nat.zero_le _, rfl, Below.refl _ _⟩
            case round =>
              obtain ⟨j, hj, rfl, BJ⟩ := hrel
              by_cases hjl : j < i + 1
              · have kx := (KP1 j hjl).keep (TyK.below BJ)
                have rB := flat_range kp_size zeroKp (own_flat (own_keep OB1 BJ)) j (by omega)
                rw [Nat.zero_add] at rB
                have cO : wr.cell? ⟨g9, j, none⟩ = some (hdV (O1.getD j zeroHd)) := by
                  rw [World.ownsRow.cellAt (own_keep OO1 BJ) _ (by omega)]
                  have := fl_at hd_size zeroHd O1 j 0 (by omega) (by omega)
                  rw [Nat.mul_one, Nat.add_zero] at this
                  rw [this]; rfl
                have cT : wr.cell? ⟨g12, j, none⟩ = some (hdV (Tl1.getD j zeroHd)) := by
                  rw [World.ownsRow.cellAt (own_keep OT1 BJ) _ (by omega)]
                  have := fl_at hd_size zeroHd Tl1 j 0 (by omega) (by omega)
                  rw [Nat.mul_one, Nat.add_zero] at this
                  rw [this]; rfl
                have rO := own_keep (RW1.row j (by omega)) BJ
                have nO := RW1.len (j := j) (by omega)
                have hO4 := hn1 j hjl
                have rT := (TyK.below BJ).re (RT1 j hjl).1
                have nT := (RT1 j hjl).2
                generalize C1 j = cj at *
                generalize O1.getD j zeroHd = oj at *
                generalize Tl1.getD j zeroHd = tj at *
                generalize K1.getD j zeroKp = kj at *
                obtain ⟨oa, on, oc⟩ := oj
                obtain ⟨ta, tn, tc⟩ := tj
                obtain ⟨xa, xk, xc, xb, xd⟩ := kj
                dsimp only at nO nT hO4 rT
                subst nO
                subst nT
                unfold hdV at cO cT rO
                dsimp only at cO cT rO
                have q4 : (j : Int) < ((i + 1 : Nat) : Int) := by omega
                have q4' : (j : Int) < (i : Int) + 1 := by omega
                have p1 := fun z : Ext wr => (z.cell _ _ (lt_of_cell cO)).trans cO
                have p2 := fun z : Ext wr => (z.cell _ _ (lt_of_cell cT)).trans cT
                have hne0 : Nonempty (Ext wr) := ⟨⟨_, Below.refl _ _⟩⟩
                have y1 : ∀ z : Ext wr, Calls Try.prog 20 #[.agg (kpC ⟨xa, xk, xc, xb, xd⟩), .int .i64 (j : Int)] z.X (fun e' w'' => e' = .returned (.bool true) ∧ ∃ m : Ext wr, w'' = m.X) := fun z => ext_of (stays_true xa xb xk xc xd (j : Int) z.X (kx.a.flat.keep z.h) (kx.b.flat.keep z.h) (by have := kx.n; dsimp only at this; omega))
                have y2 : ∀ z : Ext wr, Calls Try.prog 16 #[.slice oa cj.length oc, .slice ta cj.length tc] z.X (fun e' w'' => e' = .returned (.bool true) ∧ ∃ m : Ext wr, w'' = m.X) := fun z => ext_of (sameEvG_true oa ta oc tc cj z.X ((own_flat rO).keep z.h) (rT.flat.keep z.h) (by omega))
                have HJ : Hid (j < i + 1) := hjl
                clear hjl kx rO rT cO cT
                go_upto_region 30 with fail
                refine wp_region_ext (by kernel_rfl) (by kernel_rfl) ?_
                iterate 3 go_big_quiet_step (fail)
                refine wpQuiet_load_mid rfl 58 (.tmp 133) rfl g15 (j * 2) rfl (kpC ⟨xa, xk, xc, xb, xd⟩) _ (fun X hX => by obtain ⟨nx, rfl⟩ := hX; exact rangeAt_keep rB nx.h) Try.underlying58 rfl infoKp _ rfl ?_
                simp only [Act.put, List.setIfInBounds_toArray, List.set_cons_succ, List.set_cons_zero]
                repeat (go_big_quiet_step (first | (go_at_call 20; with_reducible exact y1 _) | (go_at_call 16; with_reducible exact y2 _)))
                refine wpQuiet_nil ?_
                intro _ hw'
                obtain ⟨nx, hw''⟩ := hw'
                subst hw''
                go_wp2
                go_roundw
                case rel => have hjl := HJ.out; exact ⟨j + 1, hjl, rfl, gtrans BJ nx.h⟩
                case measure => have hjl := HJ.out; simp [intOf]; omega
              · obtain rfl : j = i + 1 := by omega
                have q4 : ¬ ((i + 1 : Nat) : Int) < ((i + 1 : Nat) : Int) := by omega
                have q4' : ¬ (i : Int) + 1 < (i : Int) + 1 := by omega
                clear hjl
                go_wp2
                go_roundw
                case rel => exact HG.keep (Nat.le_refl _) BJ
                case measure => have hlt := HT.out; simp [intOf]; omega
          · obtain rfl : i = l.length := by omega
            have q1 : ¬ (l.length : Int) < (l.length : Int) := by omega
            have hsl4 := TT.G.1.len'
            have hBz := B.size
            have c32 := held_any h t R s wr TT.H
            clear hlt sep KP RT OB OT ok
            go_upto_region 33 with (first
              | (go_at_call 17; (with_reducible refine c32.mono ?_); rintro e X32 ⟨b32, rfl, O32, g32⟩))
            have c33 := held_any h t R s X32 (TT.H.keep g32)
            go_upto_region 34 with (first
              | (go_at_call 17; (with_reducible refine c33.mono ?_); rintro e X33 ⟨b33, rfl, O33, g33⟩))
            have hz32 := g32.size
            have hz33 := g33.size
            have T33 := (TT.keep g32).keep g33
            have B33 := gtrans (gtrans B g32) g33
            have R32 := (RW.keep g32).snoc (M := wr.heap.size) (fun j q hj e => (World.ownsRow.lt (RW.row j hj) q e).2) hBz ⟨some ⟨b32, 0, none⟩, s.l.length, s.l.length⟩ s.l O32
            have R33 := (R32.keep g33).snoc (M := X32.heap.size) (fun j q hj e => (World.ownsRow.lt (R32.row j hj) q e).2) (Nat.le_trans hBz hz32) ⟨some ⟨b33, 0, none⟩, s.l.length, s.l.length⟩ s.l O33
            have OO33 := own_keep (own_keep OO g32) g33
            have O323 := own_keep O32 g33
            clear c32 c33 TT B RW OO R32
            -- was
            have O0 := World.ownsRow_lit (base := X33.heap.size) (e := 47) (size := 11) X33 #[] 0 (Nat.le_refl _) (Nat.zero_le _) rfl
            have G34 := galloc (Below.refl X33.heap.size X33) (.cells #[] 47)
            have hz34 := G34.size
            have F34 := (own_flat O323).keep G34
            have hb34 : ((0 + s.l.length) + (0 + s.l.length) / 4 + 192) * 88 ≤ 281474976710656 := roomL hsl4
            have sl34 := own_sl O323
            refine wp_region_lit ?_
            refine wpL_s0 rfl rfl (bldS0 X33) ?_
            simp only [Act.put, List.setIfInBounds_toArray, List.set_cons_succ, List.set_cons_zero]
            refine wpL_mv rfl (.tmp 21) rfl rfl ?_
            simp only [Act.put, List.setIfInBounds_toArray, List.set_cons_succ, List.set_cons_zero]
            refine wpList_append_flatw rfl (.tmp 154) (.tmp 155) rfl Try.underlying39 nfEv rfl (by decide) (.slice (some ⟨X33.heap.size, 0, none⟩) 0 0) X33.heap.size 0 [] rfl O0 hz34 (some ⟨b32, 0, none⟩) s.l.length s.l.length (fl evC s.l) rfl sl34 F34 (fl_len ev_size s.l) (fl_one ev_ones1 s.l) hb34 (by omega) ?_
            intro v34 X34 O34 Q34
            rw [Nat.zero_add, List.nil_append] at O34
            obtain ⟨aw, pw, rfl, _⟩ := own_form O34
            simp only [Act.put, List.setIfInBounds_toArray, List.set_cons_succ, List.set_cons_zero]
            have g34 := twin_below Q34
            clear O0 G34 F34 Q34 hb34 hz34 sl34
            have T34 := T33.keep g34
            have B34 := gtrans B33 g34
            have c35 := held_any g t S s X34 T34.G
            clear T33 B33
            go_upto_region 35 with fail
            -- all rows side by side
            obtain ⟨ov, oc, rfl, _⟩ := own_form OO33
            have ra36 : l.length + 2 ≤ 9223372036854775807 := by omega
            have rb36 : ((l.length + 2) + (l.length + 2) / 4 + 192) * 24 ≤ 281474976710656 := roomH2 hl
            have hy2 : (hdC ⟨some ⟨b32, 0, none⟩, s.l.length, s.l.length⟩ ++ hdC ⟨some ⟨b33, 0, none⟩, s.l.length, s.l.length⟩).toList.length = 2 * 1 := rfl
            have ho2 := hd_ones2 ⟨some ⟨b32, 0, none⟩, s.l.length, s.l.length⟩ ⟨some ⟨b33, 0, none⟩, s.l.length, s.l.length⟩
            refine wp_region_lit ?_
            refine wpL_valG (w' := X34) rfl (.pointer (some ⟨g, 0, none⟩)) (by kernel_rfl) ?_
            simp only [Act.put, List.setIfInBounds_toArray, List.set_cons_succ, List.set_cons_zero]
            refine wpL_callG rfl 17 #[.pointer (some ⟨g, 0, none⟩)] (by kernel_rfl) _ c35 ?_
            rintro e X35 ⟨b35, rfl, O35, g35⟩
            refine ⟨_, rfl, ?_⟩
            simp only [Act.put, List.setIfInBounds_toArray, List.set_cons_succ, List.set_cons_zero]
            have c36 := sameEvG_true (some ⟨b35, 0, none⟩) aw s.l.length pw s.l X35 (own_flat O35) ((own_flat O34).keep g35) (by omega)
            refine wpL_valG (w' := X35) rfl (.slice aw s.l.length pw) (by kernel_rfl) ?_
            simp only [Act.put, List.setIfInBounds_toArray, List.set_cons_succ, List.set_cons_zero]
            refine wpL_callG rfl 16 #[.slice (some ⟨b35, 0, none⟩) s.l.length s.l.length, .slice aw s.l.length pw] (by kernel_rfl) _ c36 ?_
            rintro e X36 ⟨rfl, g36⟩
            refine ⟨_, rfl, ?_⟩
            simp only [Act.put, List.setIfInBounds_toArray, List.set_cons_succ, List.set_cons_zero]
            have c37 := sameEvG_true (some ⟨b33, 0, none⟩) aw s.l.length pw s.l X36 ((((own_flat O33).keep g34).keep g35).keep g36) (((own_flat O34).keep g35).keep g36) (by omega)
            refine wpL_valG (w' := X36) rfl (.bool false) (by kernel_rfl) ?_
            simp only [Act.put, List.setIfInBounds_toArray, List.set_cons_succ, List.set_cons_zero]
            refine wpL_valG (w' := X36) rfl (.bool false) (by kernel_rfl) ?_
            simp only [Act.put, List.setIfInBounds_toArray, List.set_cons_succ, List.set_cons_zero]
            refine wpL_valG (w' := X36) rfl (.slice (some ⟨b33, 0, none⟩) s.l.length s.l.length) (by kernel_rfl) ?_
            simp only [Act.put, List.setIfInBounds_toArray, List.set_cons_succ, List.set_cons_zero]
            refine wpL_valG (w' := X36) rfl (.slice aw s.l.length pw) (by kernel_rfl) ?_
            simp only [Act.put, List.setIfInBounds_toArray, List.set_cons_succ, List.set_cons_zero]
            refine wpL_callG rfl 16 #[.slice (some ⟨b33, 0, none⟩) s.l.length s.l.length, .slice aw s.l.length pw] (by kernel_rfl) _ c37 ?_
            rintro e X37 ⟨rfl, g37⟩
            refine ⟨_, rfl, ?_⟩
            simp only [Act.put, List.setIfInBounds_toArray, List.set_cons_succ, List.set_cons_zero]
            refine wpL_valG (w' := X37) rfl (.bool false) (by kernel_rfl) ?_
            simp only [Act.put, List.setIfInBounds_toArray, List.set_cons_succ, List.set_cons_zero]
            refine wpL_valG (w' := X37) rfl (.bool false) (by kernel_rfl) ?_
            simp only [Act.put, List.setIfInBounds_toArray, List.set_cons_succ, List.set_cons_zero]
            refine wpL_valG (w' := X37) rfl (.bool false) (by kernel_rfl) ?_
            simp only [Act.put, List.setIfInBounds_toArray, List.set_cons_succ, List.set_cons_zero]
            refine wpL_valG (w' := X37) rfl (.slice ov l.length oc) (by kernel_rfl) ?_
            simp only [Act.put, List.setIfInBounds_toArray, List.set_cons_succ, List.set_cons_zero]
            refine wpL_valG (w' := X37) rfl (.slice (some ⟨b32, 0, none⟩) s.l.length s.l.length) (by kernel_rfl) ?_
            simp only [Act.put, List.setIfInBounds_toArray, List.set_cons_succ, List.set_cons_zero]
            refine wpL_valG (w' := X37) rfl (.slice (some ⟨b33, 0, none⟩) s.l.length s.l.length) (by kernel_rfl) ?_
            simp only [Act.put, List.setIfInBounds_toArray, List.set_cons_succ, List.set_cons_zero]
            have G37 := gtrans (gtrans (gtrans g34 g35) g36) g37
            have n37 := World.news_of_block (Bk.new X37 (hdC ⟨some ⟨b32, 0, none⟩, s.l.length, s.l.length⟩ ++ hdC ⟨some ⟨b33, 0, none⟩, s.l.length, s.l.length⟩) 39)
            have h37 := bldH2 ⟨some ⟨b32, 0, none⟩, s.l.length, s.l.length⟩ ⟨some ⟨b33, 0, none⟩, s.l.length, s.l.length⟩ X37
            have G38 := galloc (Below.refl X37.heap.size X37) (.cells (hdC ⟨some ⟨b32, 0, none⟩, s.l.length, s.l.length⟩ ++ hdC ⟨some ⟨b33, 0, none⟩, s.l.length, s.l.length⟩) 39)
            have OO38 := own_keep (own_keep OO33 G37) G38
            have b38 : w.heap.size ≤ (X37.alloc (.cells (hdC ⟨some ⟨b32, 0, none⟩, s.l.length, s.l.length⟩ ++ hdC ⟨some ⟨b33, 0, none⟩, s.l.length, s.l.length⟩) 39)).heap.size := Nat.le_trans hBz (Nat.le_trans hz32 (Nat.le_trans hz33 (Nat.le_trans G37.size G38.size)))
            generalize hW38 : X37.alloc (.cells (hdC ⟨some ⟨b32, 0, none⟩, s.l.length, s.l.length⟩ ++ hdC ⟨some ⟨b33, 0, none⟩, s.l.length, s.l.length⟩) 39) = X38 at *
            refine wpL_s2G rfl (.tmp 170) (.tmp 171) rfl rfl rfl h37 ?_
            simp only [Act.put, List.setIfInBounds_toArray, List.set_cons_succ, List.set_cons_zero]
            refine wpL_appG rfl (.tmp 169) (.tmp 172) rfl Try.underlying53 nfHd rfl (by decide) (.slice ov l.length oc) w.heap.size l.length _ rfl OO38 b38 ⟨X37.heap.size, 0, none⟩ 2 2 _ rfl hy2 n37 ho2 ra36 rb36 ?_
            intro v39 X39 OO39 Q39
            rw [hd_fl2] at OO39
            obtain ⟨a39, p39, rfl, _⟩ := own_form OO39
            simp only [Act.put, List.setIfInBounds_toArray, List.set_cons_succ, List.set_cons_zero]
            have R39 : Rws X39 w.heap.size ((O ++ [(⟨some ⟨b32, 0, none⟩, s.l.length, s.l.length⟩ : Hd)]) ++ [(⟨some ⟨b33, 0, none⟩, s.l.length, s.l.length⟩ : Hd)]) _ := (((R33.keep G37).keep G38).ty (TyK.grown OO38 (by decide) Q39))
            have hHl : ((O ++ [(⟨some ⟨b32, 0, none⟩, s.l.length, s.l.length⟩ : Hd)]) ++ [(⟨some ⟨b33, 0, none⟩, s.l.length, s.l.length⟩ : Hd)]).length = l.length + 2 := by rw [List.length_append, List.length_append, hO]; rfl
            have hgo : ∀ g o, a39 = some ⟨g, o, none⟩ → g < X39.heap.size ∧ ¬ rBlk ((O ++ [(⟨some ⟨b32, 0, none⟩, s.l.length, s.l.length⟩ : Hd)]) ++ [(⟨some ⟨b33, 0, none⟩, s.l.length, s.l.length⟩ : Hd)]) g := fun gg oo e => by
              subst e
              have hlt2 := (World.ownsRow.lt OO39 gg rfl).2
              obtain ⟨cs, hcs⟩ := own_blkT OO39 (q := gg) rfl
              exact ⟨hlt2, R39.far hcs (by decide)⟩
            have hn4 : ∀ j, (((O ++ [(⟨some ⟨b32, 0, none⟩, s.l.length, s.l.length⟩ : Hd)]) ++ [(⟨some ⟨b33, 0, none⟩, s.l.length, s.l.length⟩ : Hd)]).getD j zeroHd).n ≤ 4096 := getD_hd fun j hj => by
              rw [hHl] at hj
              by_cases h1 : j < l.length
              · rw [getD_snoc_lt (by rw [List.length_append, hO]; exact Nat.lt_succ_of_lt h1), getD_snoc_lt (by omega)]
                exact hn j h1
              · by_cases h2 : j = l.length
                · rw [getD_snoc_lt (by rw [List.length_append, hO, h2]; exact Nat.lt_succ_self _)]
                  have := getD_snoc_eq (l := O) (x := (⟨some ⟨b32, 0, none⟩, s.l.length, s.l.length⟩ : Hd)) (z := zeroHd)
                  rw [hO] at this
                  rw [h2, this]; exact hsl4
                · have := getD_snoc_eq (l := O ++ [(⟨some ⟨b32, 0, none⟩, s.l.length, s.l.length⟩ : Hd)]) (x := (⟨some ⟨b33, 0, none⟩, s.l.length, s.l.length⟩ : Hd)) (z := zeroHd)
                  rw [List.length_append, hO] at this
                  rw [show j = l.length + 1 by omega]
                  rw [show l.length + [(⟨some ⟨b32, 0, none⟩, s.l.length, s.l.length⟩ : Hd)].length = l.length + 1 from rfl] at this
                  rw [this]; exact hsl4
            have bN : w.heap.size ≤ X39.heap.size := Nat.le_trans b38 Q39.size
            have hL24 : ((O ++ [(⟨some ⟨b32, 0, none⟩, s.l.length, s.l.length⟩ : Hd)]) ++ [(⟨some ⟨b33, 0, none⟩, s.l.length, s.l.length⟩ : Hd)]).length * 24 ≤ 140737488351232 := by rw [hHl]; exact room24 hl
            have c39 := apart_true a39 p39 w.heap.size _ _ X39 (own_flat OO39) hgo R39 bN hL24 hn4
            have G39 := G37
            have B38 := gtrans (gtrans (gtrans (gtrans B34 g35) g36) g37) G38
            have B39 : Below w.heap.size w X39 := B38.grown Q39 b38 (fun q e => (World.ownsRow.lt OO38 q e).1)
            have T39 := ((((T34.keep g35).keep g36).keep g37).keep G38).grown2 OO38 (by decide) (by decide) (by decide) Q39
            have O39 := TyK.own (TyK.grown OO38 (by decide) Q39) (own_keep (own_keep (own_keep (own_keep O34 g35) g36) g37) G38)
            rw [hHl] at c39
            refine wpL_callG rfl 21 #[.slice a39 (l.length + 2) p39] (by kernel_rfl) _ c39 ?_
            rintro e X40 ⟨rfl, F40⟩
            refine ⟨_, rfl, ?_⟩
            simp only [Act.put, List.setIfInBounds_toArray, List.set_cons_succ, List.set_cons_zero]
            refine wpL_valG (w' := X40) rfl (.bool false) (by kernel_rfl) ?_
            simp only [Act.put, List.setIfInBounds_toArray, List.set_cons_succ, List.set_cons_zero]
            refine wpL_valG (w' := X40) rfl (.bool false) (by kernel_rfl) ?_
            simp only [Act.put, List.setIfInBounds_toArray, List.set_cons_succ, List.set_cons_zero]
            have hK34 : ∀ q, rBlk ((O ++ [(⟨some ⟨b32, 0, none⟩, s.l.length, s.l.length⟩ : Hd)]) ++ [(⟨some ⟨b33, 0, none⟩, s.l.length, s.l.length⟩ : Hd)]) q → q < X33.heap.size := by
              rintro q ⟨j, hj, e⟩
              exact (World.ownsRow.lt (R33.row j hj) q e).2
            have T40h := Gat.rws T39.H R39 F40
            have O40 := own_same O39 fun q e => F40.blk q (World.ownsRow.lt O39 q e).2 fun e2 => by
              have := hK34 q e2
              have := (World.ownsRow.lt O39 q e).1
              omega
            have B40 := F40.toBelow B39 (Nat.le_refl _) (by
              rintro q ⟨j, hj, e⟩
              exact (World.ownsRow.lt (R39.row j hj) q e).1)
            have c41 := held_any h t R s X40 T40h
            clear R39 R33 c35 c36 c37 c39 T39 O39 F40 B39 B38 OO38 OO39 Q39 hn4 hgo
            go_upto_region 37 with fail
            refine wp_region_lit ?_
            refine wpL_valG (w' := X40) rfl (.pointer (some ⟨h, 0, none⟩)) (by kernel_rfl) ?_
            simp only [Act.put, List.setIfInBounds_toArray, List.set_cons_succ, List.set_cons_zero]
            refine wpL_callG rfl 17 #[.pointer (some ⟨h, 0, none⟩)] (by kernel_rfl) _ c41 ?_
            rintro e X41 ⟨b41, rfl, O41, g41⟩
            refine ⟨_, rfl, ?_⟩
            simp only [Act.put, List.setIfInBounds_toArray, List.set_cons_succ, List.set_cons_zero]
            have c42 := sameEvG_true (some ⟨b41, 0, none⟩) aw s.l.length pw s.l X41 (own_flat O41) ((own_flat O40).keep g41) (by omega)
            refine wpL_valG (w' := X41) rfl (.slice aw s.l.length pw) (by kernel_rfl) ?_
            simp only [Act.put, List.setIfInBounds_toArray, List.set_cons_succ, List.set_cons_zero]
            refine wpL_callG rfl 16 #[.slice (some ⟨b41, 0, none⟩) s.l.length s.l.length, .slice aw s.l.length pw] (by kernel_rfl) _ c42 ?_
            rintro e X42 ⟨rfl, g42⟩
            refine ⟨_, rfl, ?_⟩
            simp only [Act.put, List.setIfInBounds_toArray, List.set_cons_succ, List.set_cons_zero]
            go_wp2
            go_ret
            exact ⟨rfl, gtrans (gtrans B40 g41) g42⟩

theorem own : ownKnob Try.prog.godebug = none := by kernel_rfl
theorem laidOut : laidOutB Try.prog = true := by kernel_rfl

set_option maxRecDepth 100000 in
theorem lifted (os : Os) (started : os.Started) (H : Type) (enc : TypeId × Value → H) :
    ReturnsInHanded {} Try.checked os 4 .any (Rows.gateSparesSpec.pre6 enc Try.prog Try.f4 Rows.gateSparesRow.domain false) (Rows.gateSparesSpec.post enc Try.prog Try.f4 false true false false) := by
  refine returnsInHanded_of_change_sized (C := Try.checked) own started (by kernel_rfl) Try.func4
    (ChangeSpec.witness6 (enc := enc) (C := Try.checked) false ⟨#[], #[.slice none 0 0, .slice none 0 0], []⟩ 8 (by kernel_rfl) (by kernel_rfl) (by kernel_rfl) (by kernel_rfl)) ?_
  intro W base args ds gs before hval0 hW hcnd hsz0 _
  have hsz : (DataW.weightsEach Try.prog (Try.f4.params.toList ++ Rows.gateSparesSpec.plain.varTypes Try.prog) (ds ++ gs)).all (· ≤ reachBytes) = true := hsz0
  have hval : ∀ (j : Nat) t v, Try.f4.params[j]? = some t → args[j]? = some v → Value.okWide Try.prog W .any base t v := hval0
  have hW' := hW
  obtain ⟨p, q, hA0, hV, rfl, hfz, hnd⟩ := hW
  have hA : DataW.TrodAll enc Try.prog W 0 (fun _ => true) true Try.f4.params.toList args.toList ds p := hA0
  rw [Try.params4] at hA hval hsz
  obtain ⟨v0, vs0, d0, ds0, p0, q0, hargs, rfl, rfl, h0, r0⟩ := trodAll_cons hA
  obtain ⟨v1, vs1, d1, ds1, p1, q1, rfl, rfl, rfl, h1, r1⟩ := trodAll_cons r0
  obtain ⟨rfl, rfl, rfl⟩ := trodAll_nil r1
  obtain rfl : args = #[v0, v1] := by cases args; simp_all
  obtain ⟨rfl, rfl⟩ := trodVars_none hV
  have k0 := h0
  have lt0 : ∀ x ∈ p0, x.block < W.heap.size := by obtain ⟨m, hm⟩ := k0; exact DataW.trod_lt m _ _ _ hm
  obtain ⟨ao0, cap0, l0, e0, wc0, w0, wr0, ws0⟩ : ∃ ao cap l, v0 = .slice ao (l : List Gop).length cap ∧ Sl ao l.length cap ∧ Flat W ao (fl gopC l) ∧ l.length * 112 ≤ 140737488351232 ∧ ∀ k, (fun o : Gop => o.e.ok) (l.getD k zeroGo) := by
    obtain ⟨a, len, cap, e⟩ := okWide_slice Try.underlying38 (hval 0 38 v0 rfl rfl)
    subst e
    obtain ⟨fuel, hf⟩ := h0
    have hf' : DataW.trod enc Try.prog W 0 (fun _ => true) true fuel 38 [.slice a len cap] = some (d0, p0) := hf
    exact open_goprow hf' (fun b hb => by
      have h1 := List.all_eq_true.1 hsz b (DataW.weights_mem_each (j := 0) (t := 38) rfl rfl b hb)
      simpa using h1)
  subst e0
  have k1 := h1
  have lt1 : ∀ x ∈ p1, x.block < W.heap.size := by obtain ⟨m, hm⟩ := k1; exact DataW.trod_lt m _ _ _ hm
  obtain ⟨ao1, cap1, l1, e1, wc1, w1, wr1, ws1⟩ : ∃ ao cap l, v1 = .slice ao (l : List Ev).length cap ∧ Sl ao l.length cap ∧ Flat W ao (fl evC l) ∧ l.length * 88 ≤ 140737488351232 ∧ ∀ k, (l.getD k zeroE).ok := by
    obtain ⟨a, len, cap, e⟩ := okWide_slice Try.underlying39 (hval 1 39 v1 rfl rfl)
    subst e
    obtain ⟨fuel, hf⟩ := h1
    have hf' : DataW.trod enc Try.prog W 0 (fun _ => true) true fuel 39 [.slice a len cap] = some (d1, p1) := hf
    exact open_evrow hf' (fun b hb => by
      have h1 := List.all_eq_true.1 hsz b (DataW.weights_mem_each (j := 1) (t := 39) rfl rfl b hb)
      simpa using h1)
  subst e1
  clear hA0 hval0
  refine (walk ao0 cap0 l0 ao1 cap1 l1 W wc0 w0 wr0 ws0 wc1 w1 wr1 ws1).mono fun e W' ⟨he, bel⟩ => ?_
  subst he
  exact ⟨_, rfl, _, _, _, [], _, [], hW', trodAll_mk1 (shut_bool Try.underlying4 _), (trodAll_cons_mk (Below.trod laidOut (by kernel_rfl) (of_decide_eq_true (by kernel_rfl)) k0 bel lt0) (trodAll_cons_mk (Below.trod laidOut (by kernel_rfl) (of_decide_eq_true (by kernel_rfl)) k1 bel lt1) trodAll_mk0)), rfl, bel.frame _, fun h => by cases h⟩

theorem over : Rows.gateSparesRow.holds Try.pinned (OpenSpec.ofChange Rows.gateSparesSpec) :=
  OpenClaim.holds_of_wide 4 Try.f4 rfl rfl rfl rfl rfl rfl rfl ⟨rfl, rfl, rfl, rfl, rfl⟩ rfl rfl rfl rfl rfl (by kernel_rfl) Try.func4 (by kernel_rfl)
    (of_decide_eq_true (by kernel_rfl)) (by unfold Func.isWrapper; first | (rw [if_pos (by decide +kernel)]; kernel_rfl) | (rw [if_neg (by decide +kernel)]; exact ⟨rfl, rfl⟩))
    (fun os started H enc _ => lifted os started H enc)

end Go.Proofs.Ythjnkcapjhelgaa.gateSpares
namespace Go.Proofs.Ythjnkcapjhelgaa
theorem gateSpares_holds : Rows.GateSparesSaid := gateSpares.over
#print axioms gateSpares_holds
end Go.Proofs.Ythjnkcapjhelgaa
