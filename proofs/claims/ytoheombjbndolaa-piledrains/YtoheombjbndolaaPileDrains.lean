/- For every list of events the law PileDrains returns true: what is laid down and popped is the list in its order, as Sorted told it; Peek and Len say so on the way; then there is nothing. No condition. -/
import Derived.Test.YtoheombjbndolaaHlg
import Derived.Test.YtoheombjbndolaaOpenH
import Derived.Carry
import Derived.ChangeMaps5
import Derived.SizedLaws
import Derived.Lib.SmallJoins
import Derived.Deep.DeepHandedRow
namespace Go.Proofs.Ytoheombjbndolaa.pileDrains
open Go.ChangeShapes Go.WideShapes Go.ChangeAt Go.RowKit Go.BigFrame
set_option linter.unusedVariables false
set_option linter.unusedSimpArgs false

abbrev zA : Array Value := #[.int .i64 0, .int .u64 0, .int .i64 0, .int .i64 0, .int .i64 0, .int .i64 0, .int .i64 0, .int .i64 0, .int .i64 0, .int .i64 0, .int .i64 0]
structure Dr (M : List Ev) (u3 : World) (p : Nat) (v3 : Value) (vo vi : Value) (wr : World) : Prop where
  ex : ∃ (k : Nat) (v' : Value), k ≤ M.length ∧ vi = .int .i64 (k : Int) ∧ wr.ownsRow u3.heap.size 30 11 vo k (fl evC (((lay evLt M).take k).map Prod.fst)) ∧ evPa wr p (p + 1) v' ((lay evLt M).drop k) M.length ∧ Gb p v3 u3 wr ∧ (∀ g, v'.ownBlock = some g → v3.ownBlock = some g)
set_option maxRecDepth 100000 in
set_option maxHeartbeats 4000000 in
theorem walk (ao : Option Addr) (cap : Nat) (l : List Ev) (w : World) (hsl : Sl ao l.length cap) (F : Flat w ao (fl evC l)) (hl : l.length * 88 ≤ 140737488351232) (ok : ∀ k, (l.getD k zeroE).ok) : Calls Try.prog 8 #[.slice ao l.length cap] w fun e w' => e = .returned (.bool true) ∧ Below w.heap.size w w' := by
  have c1 := marked_any ao cap l w F hl
  have S := stb_lay l
  have hml := mkd_len l
  generalize mkd l = M at *
  rw [← hml] at c1 hl ⊢
  clear hml hsl F ok
  have hptr : ∀ (b : Nat) (W : World), (binOp .eql 25 (.pointer (some ⟨b, 0, none⟩)) (.pointer none)).run Try.prog W = .ok (.bool false) W := fun b W => by kernel_rfl
  go_enter Try.func8, Try.ntmps8
  go_upto_region 6 with (first
    | (go_at_call 9; (with_reducible refine c1.mono ?_); rintro e u ⟨a, c, rfl, O1, G1⟩; have c0 := evNew u; have P0 := evPa_new u; have B0 := galloc (Below.refl u.heap.size u) (.cells #[.slice none 0 0, .int .i64 0] 57); generalize hW0 : u.alloc (.cells #[.slice none 0 0, .int .i64 0] 57) = W0 at *)
    | (go_at_call 10; (with_reducible refine c0.mono ?_); rintro e u1 ⟨rfl, hu⟩; have hu' := hu.symm; subst hu'))
  have hul := B0.size
  generalize hpp : u.heap.size = pp at *
  go_loopw [5] (fun vi wr => ∃ (i : Nat) (v : Value), i ≤ M.length ∧ vi = .int .i64 (i : Int) ∧ evPa wr pp (pp + 1) v (lay evLt (M.take i)) i ∧ Below pp u wr) (fun vi _ => M.length - (intOf vi).toNat)
  case atStart => exact ⟨0, _, Nat.zero_le _, rfl, P0, B0⟩
  case round =>
    obtain ⟨i, v, hi, rfl, P, B⟩ := hrel
    clear c0 P0 B0 c1 hW0
    have B' : Below u.heap.size u wr := by rw [hpp]; exact B
    have O2 := own_keep O1 B'
    by_cases hlt : i < M.length
    · obtain ⟨g, o, rfl, hgl, _⟩ := (own_flat O2).form (by rw [fl_len ev_size]; omega)
      have rx := flat_range ev_size zrEv (own_flat O2) i hlt
      obtain ⟨x, hx⟩ : ∃ x, M.getD i zrEv = x := ⟨_, rfl⟩
      rw [hx] at rx
      have HX : Hid (M.getD i zrEv = x) := hx
      have HT : Hid (i < M.length) := hlt
      have q1 : (i : Int) < (M.length : Int) := by omega
      have hlen : (lay evLt (M.take i)).length = i := by rw [lay_len, List.length_take]; omega
      have hz : pp + 1 ≤ wr.heap.size := P.blk.lt
      have c9 := evPush pp (pp + 1) i v (lay evLt (M.take i)) x wr P (by rw [hlen]; omega) hz (by omega) (fun e => by subst e; rfl)
      have hl2 : (ins (ahd evLt) (x, i) (lay evLt (M.take i))).length = i + 1 := by rw [ins_len, hlen]
      have cL := fun (W : World) (v' : Value) (PW : evPa W pp (pp + 1) v' (ins (ahd evLt) (x, i) (lay evLt (M.take i))) (i + 1)) => evLenA pp (pp + 1) (i + 1) v' _ W PW
      rw [hl2] at cL
      have E1 : ((i + 1 : Nat) : Int) = (i : Int) + 1 := by omega
      rw [E1] at cL
      clear hx hlt hlen hl2 E1
      go_wp2_with (first
        | (refine wpList_load_mid rfl 30 _ rfl g (o + i * 11) rfl (evC x).toList _ rx Try.underlying30 rfl infoEv ?_)
        | (go_at_call 11; (with_reducible refine c9.mono ?_); rintro e u2 ⟨rfl, v2, P9, G9, V9⟩; have c8 := cL u2 v2 P9)
        | (go_at_call 14; (with_reducible refine c8.mono ?_); rintro e u3 ⟨rfl, hu3⟩; have hu3' := hu3.symm; subst hu3'))
      go_roundw
      case rel =>
        have hx : M.getD i zrEv = x := HX
        have hlt : i < M.length := HT
        refine ⟨i + 1, v2, by omega, by go_num, ?_, G9.toBelow B (by omega) (Nat.le_refl _) (fun g e => by have := (P.low g e).1; omega)⟩
        rw [take_snoc M zrEv i hlt, hx, lay_snoc, List.length_take, Nat.min_eq_left (by omega)]
        exact P9
      case measure => simp [intOf]; omega
    · obtain rfl : i = M.length := by omega
      have hki : ¬ (M.length : Int) < (M.length : Int) := by omega
      rw [List.take_length] at P
      have hlen : (lay evLt M).length = M.length := lay_len _ _
      have c9 := evSorted pp (pp + 1) M.length v (lay evLt M) wr P (by rw [hlen]; omega)
      rw [hlen] at c9
      have HLL : Hid ((lay evLt M).length = M.length) := hlen
      clear hlt hlen
      go_upto_region 14 with (first
        | (go_at_call 28; (with_reducible refine c9.mono ?_); rintro e u3 ⟨g3, rfl, O3, G3⟩))
      have P3 := P.keep G3
      have O4 := own_keep O2 G3
      have hlow3 := P3.low
      have hp3 := P3.blk.lt
      clear P O2 c9 hki
      go_loopw [7, 8, 9, 10, 11, 12] (fun vo vi _ _ _ _ wr => Dr M u3 pp v vo vi wr) (fun _ vi _ _ _ _ _ => M.length - (intOf vi).toNat)
      case atStart => exact ⟨0, v, Nat.zero_le _, rfl, World.ownsRow_nil _ _ _ _, P3, Gb.of (Below.refl _ _), fun g e => e⟩
      case round =>
        obtain ⟨⟨k, v', hk, rfl, OG, PK, GK, VK⟩⟩ := hrel
        have hLL : (lay evLt M).length = M.length := HLL
        by_cases hlt : k < M.length
        · have q1 : (k : Int) < (M.length : Int) := by omega
          have cP := evPeekA pp (pp + 1) M.length v' ((lay evLt M).drop k) wr PK
          rw [drop_headD, drop_lt, hLL, decide_eq_true hlt] at cP
          unfold evTopV at cP
          obtain ⟨x, hx⟩ : ∃ x, ((lay evLt M).getD k (zrEv, 0)).1 = x := ⟨_, rfl⟩
          rw [hx] at cP
          have sx := ev_one1 x
          have HX : Hid (((lay evLt M).getD k (zrEv, 0)).1 = x) := hx
          have HT : Hid (k < M.length) := hlt
          obtain ⟨r, hr⟩ : ∃ r, r = M.length - (k + 1) := ⟨_, rfl⟩
          have HR : Hid (r = M.length - (k + 1)) := hr
          have qr : ((r : Int) != (M.length : Int) - 1 - (k : Int)) = false := by simp; omega
          have cpop : ∀ W, evPa W pp (pp + 1) v' ((lay evLt M).drop k) M.length → Calls Try.prog 12 #[.pointer (some ⟨pp, 0, none⟩)] W fun e w' => e = .returned (.tuple #[.agg (evC x), .bool true]) ∧ ∃ v'', evPa w' pp (pp + 1) v'' ((lay evLt M).drop (k + 1)) M.length ∧ Gb pp v' W w' ∧ (∀ g, v''.ownBlock = some g → v'.ownBlock = some g) := fun W PW => by
            have := evPopA pp (pp + 1) M.length v' ((lay evLt M).drop k) W PW (by rw [List.length_drop, hLL]; omega)
            rw [drop_headD, drop_lt, hLL, decide_eq_true hlt, List.tail_drop, hx] at this
            exact this
          have clen : ∀ (W : World) (v'' : Value), evPa W pp (pp + 1) v'' ((lay evLt M).drop (k + 1)) M.length → Calls Try.prog 14 #[.pointer (some ⟨pp, 0, none⟩)] W fun e w' => e = .returned (.int .i64 (r : Int)) ∧ w' = W := fun W v'' PW => by
            have := evLenA pp (pp + 1) M.length v'' _ W PW
            rw [List.length_drop, hLL, ← hr] at this
            exact this
          clear hx hlt hr hLL
          go_upto_region 17 with (first
            | (go_at_call 29; (with_reducible refine cP.mono ?_); rintro e u4 ⟨rfl, g4⟩; have bz := Bk.new u4 zA 30; have th := bz.there; have b4 := bz.setCells (cs' := evC x) rfl; have G4 := gsetCells (galloc (Below.refl u4.heap.size u4) (.cells zA 30)) (Nat.le_refl _) (evC x).toList 0; generalize hX4 : (u4.alloc (.cells zA 30)).setCells u4.heap.size 0 (evC x).toList = X4 at *)
            | (refine wpList_store_mid rfl 30 _ _ rfl u4.heap.size 0 (evC x) rfl rfl th infoEv sx ?_; rw [hX4]))
          have g5 := gtrans g4 G4
          have P4 := PK.keep g5
          have c5 := cpop X4 P4
          clear cpop th bz
          go_upto_region 18 with (first
            | (go_at_call 12; (with_reducible refine c5.mono ?_); rintro e u5 ⟨rfl, v5, P5, G5, V5⟩; have bz := Bk.new u5 zA 30; have th := bz.there; have b5 := bz.setCells (cs' := evC x) rfl; have G6 := gsetCells (galloc (Below.refl u5.heap.size u5) (.cells zA 30)) (Nat.le_refl _) (evC x).toList 0; generalize hX5 : (u5.alloc (.cells zA 30)).setCells u5.heap.size 0 (evC x).toList = X5 at *)
            | (refine wpList_store_mid rfl 30 _ _ rfl u5.heap.size 0 (evC x) rfl rfl th infoEv sx ?_; rw [hX5]))
          have b4' := (G5.loc P4 b4 (by decide) (by decide)).keep G6
          have r4 := b4'.range
          have r5 := b5.range
          have P6 := P5.keep G6
          have c6 := clen X5 v5 P6
          have OG2 := own_keep (G5.own P4 (own_keep OG g5) (by decide) (by decide)) G6
          have GK2 : Gb pp v u3 X5 := ((GK.below g5).trans G5 (fun g e => .inl (VK g e))).below G6
          clear clen th bz cP c5
          go_upto_region 20 with (first
            | (refine wpList_load_midw rfl 30 (.tmp 9) rfl u4.heap.size 0 rfl (evC x) _ r4 Try.underlying30 rfl infoEv ?_; refine wpList_load_midw rfl 30 (.tmp 11) rfl u5.heap.size 0 rfl (evC x) _ r5 Try.underlying30 rfl infoEv ?_; refine wpList_neq_samew rfl (.tmp 64) (.tmp 65) 30 rfl evGuard (evC x) (ev_eq x) rfl rfl ?_)
            | (go_at_call 14; (with_reducible refine c6.mono ?_); rintro e u6 ⟨rfl, hu6⟩; have hu6' := hu6.symm; subst hu6'))
          have hbs := evBuildE x X5
          have G10 := galloc (Below.refl X5.heap.size X5) (.cells (evC x) 30)
          have bn := Bk.new X5 (evC x) 30
          have hnews := World.news_of_block bn
          generalize hWA : X5.alloc (.cells (evC x) 30) = WA at *
          have OA := own_keep OG2 G10
          have GK3 := GK2.below G10
          have hbw : u3.heap.size ≤ WA.heap.size := GK3.size
          clear hWA c6
          go_wp2_with (first
            | (refine wpList_load_mid rfl 30 _ rfl u5.heap.size 0 rfl (evC x).toList _ r5 Try.underlying30 rfl infoEv ?_; refine wpList_build1 rfl (.tmp 79) rfl rfl hbs ?_; refine wpList_append_one rfl (.tmp 78) (.tmp 80) rfl Try.underlying22 nfEv rfl (by decide) _ u3.heap.size k _ rfl OA hbw ⟨X5.heap.size, 0, none⟩ 1 (evC x).toList rfl rfl hnews (ev_ones1 x) (by omega) (by omega) ?_; intro gz cz w6 O6 G7 hg))
          go_roundw
          case rel =>
            have hx : ((lay evLt M).getD k (zrEv, 0)).1 = x := HX
            have hlt : k < M.length := HT
            have hLL : (lay evLt M).length = M.length := HLL
            have hob : ∀ q, Value.ownBlock _ = some q → u3.heap.size ≤ q := fun q e => (World.ownsRow.lt OA q e).1
            refine ⟨⟨k + 1, v5, by omega, by go_num, ?_, (P6.keep G10).far OA (by decide) (by decide) G7, ?_, fun g e => VK g (V5 g e)⟩⟩
            · rw [take_snoc (lay evLt M) (zrEv, 0) k (by omega), List.map_append, fl_app, List.map_cons, List.map_nil, hx]
              simpa [fl] using O6
            · exact ⟨G7.os.trans GK3.os, G7.tape.trans GK3.tape, G7.output.trans GK3.output, Nat.le_trans GK3.size G7.size, fun q h1 h2 h3 => (G7.block q (Nat.lt_of_lt_of_le h1 GK3.size) (fun e => by have := hob q e.symm; omega)).trans (GK3.blk q h1 h2 h3)⟩
          case measure => simp [intOf]; omega
        · obtain rfl : k = M.length := by omega
          have hki : ¬ (M.length : Int) < (M.length : Int) := by omega
          have eD : (lay evLt M).drop M.length = [] := List.drop_eq_nil_of_le (by omega)
          have eT : (lay evLt M).take M.length = lay evLt M := List.take_of_length_le (by omega)
          rw [eD] at PK
          rw [eT] at OG
          obtain ⟨ag, pg, rfl, _⟩ := own_form OG
          have OT := GK.own P3 O3 (by decide) (by decide)
          have OM := GK.own P3 O4 (by decide) (by decide)
          have hSl : ((lay evLt M).map Prod.fst).length = M.length := by rw [List.length_map]; exact hLL
          have cpop := evPopA pp (pp + 1) M.length v' [] wr PK (by simp)
          have hxz : (([] : List (Ev × Nat)).headD (zrEv, 0)).1 = zrEv := rfl
          have hbz : decide (0 < ([] : List (Ev × Nat)).length) = false := rfl
          rw [hxz, hbz] at cpop
          unfold evTopV at cpop
          have sz := ev_one1 zrEv
          have HS : Hid (((lay evLt M).map Prod.fst).length = M.length) := hSl
          clear hLL eD eT hSl hlt
          go_upto_region 22 with (first
            | (go_at_call 12; (with_reducible refine cpop.mono ?_); rintro e u5 ⟨rfl, v5, P5, G5, V5⟩; have bz := Bk.new u5 zA 30; have th := bz.there; have b5 := bz.setCells (cs' := evC zrEv) rfl; have G6 := gsetCells (galloc (Below.refl u5.heap.size u5) (.cells zA 30)) (Nat.le_refl _) (evC zrEv).toList 0; generalize hX5 : (u5.alloc (.cells zA 30)).setCells u5.heap.size 0 (evC zrEv).toList = X5 at *)
            | (refine wpList_store_mid rfl 30 _ _ rfl u5.heap.size 0 (evC zrEv) rfl rfl th infoEv sz ?_; rw [hX5]))
          have P6 := P5.keep G6
          have cP := evPeekA pp (pp + 1) M.length v5 [] X5 P6
          rw [hxz, hbz] at cP
          unfold evTopV at cP
          have OG2 := own_keep (G5.own PK OG (by decide) (by decide)) G6
          have OT2 := own_keep (G5.own PK OT (by decide) (by decide)) G6
          have OM2 := own_keep (G5.own PK OM (by decide) (by decide)) G6
          have GK2 : Gb pp v u3 X5 := (GK.trans G5 (fun g e => .inl (VK g e))).below G6
          clear cpop th bz
          go_upto_region 23 with (first
            | (go_at_call 29; (with_reducible refine cP.mono ?_); rintro e u7 ⟨rfl, g7⟩; have bz := Bk.new u7 zA 30; have th := bz.there; have b7 := bz.setCells (cs' := evC zrEv) rfl; have G8 := gsetCells (galloc (Below.refl u7.heap.size u7) (.cells zA 30)) (Nat.le_refl _) (evC zrEv).toList 0; generalize hX7 : (u7.alloc (.cells zA 30)).setCells u7.heap.size 0 (evC zrEv).toList = X7 at *)
            | (refine wpList_store_mid rfl 30 _ _ rfl u7.heap.size 0 (evC zrEv) rfl rfl th infoEv sz ?_; rw [hX7]))
          have g9 := gtrans g7 G8
          have b5' := b5.keep g9
          have r5 := b5'.range
          have r7 := b7.range
          have OG3 := own_keep OG2 g9
          have OT3 := own_keep OT2 g9
          have OM3 := own_keep OM2 g9
          have GK3 := GK2.below g9
          have hS : ((lay evLt M).map Prod.fst).length = M.length := HS
          have cS := sameEvents_true ag (some ⟨g3, 0, none⟩) pg M.length ((lay evLt M).map Prod.fst) X7 (own_flat OG3) (own_flat OT3) (by rw [hS]; omega)
          rw [hS] at cS
          have cT := fun (W : World) (G : Below X7.heap.size X7 W) => stable_true ag a pg c ((lay evLt M).map Prod.fst) M W ((own_flat OG3).keep G) ((own_flat OM3).keep G) S hl
          rw [hS] at cT
          have hb0 := evBuildZ
          clear hS th bz cP
          go_wp2_with (first
            | (refine wpList_load_midw rfl 30 (.tmp 13) rfl u5.heap.size 0 rfl (evC zrEv) _ r5 Try.underlying30 rfl infoEv ?_; refine wpList_buildz rfl rfl (hb0 _) ?_; refine wpList_neq_samew rfl (.tmp 97) (.tmp 98) 30 rfl evGuard (evC zrEv) (ev_eq zrEv) rfl rfl ?_)
            | (refine wpList_load_midw rfl 30 (.tmp 15) rfl u7.heap.size 0 rfl (evC zrEv) _ r7 Try.underlying30 rfl infoEv ?_; refine wpList_buildz rfl rfl (hb0 _) ?_; refine wpList_neq_samew rfl (.tmp 102) (.tmp 103) 30 rfl evGuard (evC zrEv) (ev_eq zrEv) rfl rfl ?_)
            | (go_at_call 18; (with_reducible refine cS.mono ?_); rintro e u8 ⟨rfl, g8⟩; have cT2 := cT u8 g8)
            | (go_at_call 16; (with_reducible refine cT2.mono ?_); rintro e u9 ⟨rfl, g10⟩))
          go_ret
          have GF : Gb pp v u3 u9 := (GK3.below g8).below g10
          exact ⟨rfl, (GF.toBelow (gtrans G1 (gtrans B' G3)) (Nat.le_refl _) (by have := G1.size; omega) (fun g e => by have := (hlow3 g e).1; have := G1.size; omega))⟩

theorem own : ownKnob Try.prog.godebug = none := by kernel_rfl
theorem laidOut : laidOutB Try.prog = true := by kernel_rfl

set_option maxRecDepth 100000 in
theorem lifted (os : Os) (started : os.Started) (H : Type) (enc : TypeId × Value → H) :
    ReturnsInHanded {} Try.checked os 8 .any (Rows.pileDrainsSpec.pre6 enc Try.prog Try.f8 Rows.pileDrainsRow.domain false) (Rows.pileDrainsSpec.post enc Try.prog Try.f8 false true false false) := by
  refine returnsInHanded_of_change_sized (C := Try.checked) own started (by kernel_rfl) Try.func8
    (ChangeSpec.witness6 (enc := enc) (C := Try.checked) false ⟨#[], #[.slice none 0 0], []⟩ 8 (by kernel_rfl) (by kernel_rfl) (by kernel_rfl) (by kernel_rfl)) ?_
  intro W base args ds gs before hval0 hW hcnd hsz0 _
  have hsz : (DataW.weightsEach Try.prog (Try.f8.params.toList ++ Rows.pileDrainsSpec.plain.varTypes Try.prog) (ds ++ gs)).all (· ≤ reachBytes) = true := hsz0
  have hval : ∀ (j : Nat) t v, Try.f8.params[j]? = some t → args[j]? = some v → Value.okWide Try.prog W .any base t v := hval0
  have hW' := hW
  obtain ⟨p, q, hA0, hV, rfl, hfz, hnd⟩ := hW
  have hA : DataW.TrodAll enc Try.prog W 0 (fun _ => true) true Try.f8.params.toList args.toList ds p := hA0
  rw [Try.params8] at hA hval hsz
  obtain ⟨v0, vs0, d0, ds0, p0, q0, hargs, rfl, rfl, h0, r0⟩ := trodAll_cons hA
  obtain ⟨rfl, rfl, rfl⟩ := trodAll_nil r0
  obtain rfl : args = #[v0] := by cases args; simp_all
  obtain ⟨rfl, rfl⟩ := trodVars_none hV
  have k0 := h0
  have lt0 : ∀ x ∈ p0, x.block < W.heap.size := by obtain ⟨m, hm⟩ := k0; exact DataW.trod_lt m _ _ _ hm
  obtain ⟨ao0, cap0, l0, e0, wc0, w0, wr0, ws0⟩ : ∃ ao cap l, v0 = .slice ao (l : List Ev).length cap ∧ Sl ao l.length cap ∧ Flat W ao (fl evC l) ∧ l.length * 88 ≤ 140737488351232 ∧ ∀ k, (l.getD k zeroE).ok := by
    obtain ⟨a, len, cap, e⟩ := okWide_slice Try.underlying22 (hval 0 22 v0 rfl rfl)
    subst e
    obtain ⟨fuel, hf⟩ := h0
    have hf' : DataW.trod enc Try.prog W 0 (fun _ => true) true fuel 22 [.slice a len cap] = some (d0, p0) := hf
    exact open_evrow hf' (fun b hb => by
      have h1 := List.all_eq_true.1 hsz b (DataW.weights_mem_each (j := 0) (t := 22) rfl rfl b hb)
      simpa using h1)
  subst e0
  clear hA0 hval0
  refine (walk ao0 cap0 l0 W wc0 w0 wr0 ws0).mono fun e W' ⟨he, bel⟩ => ?_
  subst he
  exact ⟨_, rfl, _, _, _, [], _, [], hW', trodAll_mk1 (shut_bool Try.underlying4 _), (trodAll_cons_mk (Below.trod laidOut (by kernel_rfl) (of_decide_eq_true (by kernel_rfl)) k0 bel lt0) trodAll_mk0), rfl, bel.frame _, fun h => by cases h⟩

theorem over : Rows.pileDrainsRow.holds Try.pinned (OpenSpec.ofChange Rows.pileDrainsSpec) :=
  OpenClaim.holds_of_wide 8 Try.f8 rfl rfl rfl rfl rfl rfl rfl ⟨rfl, rfl, rfl, rfl, rfl⟩ rfl rfl rfl rfl rfl (by kernel_rfl) Try.func8 (by kernel_rfl)
    (of_decide_eq_true (by kernel_rfl)) (by unfold Func.isWrapper; first | (rw [if_pos (by decide +kernel)]; kernel_rfl) | (rw [if_neg (by decide +kernel)]; exact ⟨rfl, rfl⟩))
    (fun os started H enc _ => lifted os started H enc)

end Go.Proofs.Ytoheombjbndolaa.pileDrains
namespace Go.Proofs.Ytoheombjbndolaa
theorem pileDrains_holds : Rows.PileDrainsSaid := pileDrains.over
#print axioms pileDrains_holds
end Go.Proofs.Ytoheombjbndolaa
