/- For every list of events the law PileFresh returns true: the list that is sorted stays; what Sort and Sorted tell, written full and grown, changes neither the pile nor what is told later. No condition. -/
import Derived.Test.YtjfbbfmnghccdaaPfa
import Derived.Carry
import Derived.ChangeMaps5
import Derived.SizedLaws
import Derived.Lib.SmallJoins
import Derived.Deep.DeepHandedRow
import Derived.Deep.RegionHeld3
namespace Go.Proofs.Ytjfbbfmnghccdaa.pileFresh
open Go.ChangeShapes Go.WideShapes Go.ChangeAt Go.RowKit Go.BigFrame
set_option linter.unusedVariables false
set_option linter.unusedSimpArgs false

abbrev zA : Array Value := #[.int .i64 0, .int .u64 0, .int .i64 0, .int .i64 0, .int .i64 0, .int .i64 0, .int .i64 0, .int .i64 0, .int .i64 0, .int .i64 0, .int .i64 0]
theorem roomP {n k : Nat} (h : n * 88 ≤ 140737488351232) (hk : k ≤ 2) : ((n + k) + (n + k) / 4 + 192) * 88 ≤ 281474976710656 := by
  have h1 : (n + k) / 4 * 4 ≤ n + k := Nat.div_mul_le_self _ _
  omega
theorem gd1 {S r : List Ev} {n : Nat} {a z : Ev} (h : S.length = n) : (S ++ a :: r).getD n z = a := by
  rw [List.getD_eq_getElem?_getD, List.getElem?_append_right (by omega), h, Nat.sub_self]; rfl
theorem gd2 {S r : List Ev} {n : Nat} {a b z : Ev} (h : S.length = n) : (S ++ a :: b :: r).getD (n + 1) z = b := by
  rw [List.getD_eq_getElem?_getD, List.getElem?_append_right (by omega), h, Nat.add_sub_cancel_left]; rfl
/-- At the round i of the pushes. -/
structure Psf (w : World) (z5 pp n : Nat) (vL vK : Value) (gA gA2 b1 b2 b3 b4 : Nat) (M SL : List Ev) (vi : Value) (wr : World) : Prop where
  ex : ∃ (i : Nat) (v : Value), i ≤ n ∧ vi = .int .i64 (i : Int) ∧ evPa wr pp (pp + 1) v (lay evLt (M.take i)) i ∧ wr.ownsRow b1 29 11 vL n (fl evC M) ∧ wr.ownsRow b2 29 11 vK n (fl evC M) ∧ wr.ownsRow b3 29 11 (.slice (some ⟨gA, 0, none⟩) n n) n (fl evC SL) ∧ wr.ownsRow b4 29 11 (.slice (some ⟨gA2, 0, none⟩) n n) n (fl evC SL) ∧ Below w.heap.size w wr ∧ z5 ≤ wr.heap.size
set_option maxRecDepth 100000 in
set_option maxHeartbeats 8000000 in
theorem walk (ao : Option Addr) (cap : Nat) (l : List Ev) (w : World) (hsl : Sl ao l.length cap) (F : Flat w ao (fl evC l)) (hl : l.length * 88 ≤ 140737488351232) (ok : ∀ k, (l.getD k zeroE).ok) : Calls Try.prog 3 #[.slice ao l.length cap] w fun e w' => e = .returned (.bool true) ∧ Below w.heap.size w w' := by
  have c1 := marked_any ao cap l w F hl
  have c2 := fun (u : World) (B : Below w.heap.size w u) => marked_any ao cap l u (F.keep B) hl
  have S := stb_lay l
  have hml := mkd_len l
  generalize mkd l = M at *
  obtain ⟨n, hn⟩ : ∃ n, l.length = n := ⟨_, rfl⟩
  rw [hn] at c1 c2 hl hml ⊢
  have hLm : (lay evLt M).length = n := (lay_len _ _).trans hml
  have HLM : Hid ((lay evLt M).length = n) := hLm
  obtain ⟨SL, hSL⟩ : ∃ SL, (lay evLt M).map Prod.fst = SL := ⟨_, rfl⟩
  rw [hSL] at S
  have hSn : SL.length = n := by rw [← hSL, List.length_map]; exact hLm
  have cS : ∀ (a : Option Addr) (c : Nat) (u : World), Sl a n c → Flat u a (fl evC M) → Calls Try.prog 10 #[.slice a n c] u fun e w' => ∃ g, e = .returned (.slice (some ⟨g, 0, none⟩) n n) ∧ w'.ownsRow u.heap.size 29 11 (.slice (some ⟨g, 0, none⟩) n n) n (fl evC SL) ∧ Below u.heap.size u w' := fun a c u h1 h2 => by
    have := evSort a c M u (by rw [hml]; exact h1) h2 (by rw [hml]; exact hl)
    rw [hml, hSL] at this
    exact this
  have cT : ∀ (a b : Option Addr) (ca cb : Nat) (u : World), Flat u a (fl evC SL) → Flat u b (fl evC M) → Calls Try.prog 13 #[.slice a n ca, .slice b n cb] u fun e w' => e = .returned (.bool true) ∧ Below u.heap.size u w' := fun a b ca cb u h1 h2 => by
    have := stable_true a b ca cb SL M u h1 h2 S (by rw [hml]; exact hl)
    rw [hml, hSn] at this
    exact this
  have cE : ∀ (a b : Option Addr) (ca cb : Nat) (u : World), Flat u a (fl evC M) → Flat u b (fl evC M) → Calls Try.prog 14 #[.slice a n ca, .slice b n cb] u fun e w' => e = .returned (.bool true) ∧ Below u.heap.size u w' := fun a b ca cb u h1 h2 => by
    have := sameEvents_true a b ca cb M u h1 h2 (by rw [hml]; omega)
    rw [hml] at this
    exact this
  have cR : ∀ (pp : Nat) (v : Value) (u : World), evPa u pp (pp + 1) v (lay evLt M) n → Calls Try.prog 12 #[.pointer (some ⟨pp, 0, none⟩)] u fun e w' => ∃ g, e = .returned (.slice (some ⟨g, 0, none⟩) n n) ∧ w'.ownsRow u.heap.size 29 11 (.slice (some ⟨g, 0, none⟩) n n) n (fl evC SL) ∧ Below u.heap.size u w' := fun pp v u h1 => by
    have := evSorted pp (pp + 1) n v (lay evLt M) u h1 (by rw [hLm]; omega)
    rw [hLm, hSL] at this
    exact this
  have hptr : ∀ (b : Nat) (W : World), (binOp .eql 24 (.pointer (some ⟨b, 0, none⟩)) (.pointer none)).run Try.prog W = .ok (.bool false) W := fun b W => by kernel_rfl
  clear hsl F ok hLm S
  go_enter Try.func3, Try.ntmps3
  go_upto_region 2 with (first
    | (go_at_call 8; (with_reducible refine c1.mono ?_); rintro e u1 ⟨aL, cL, rfl, OL, G1⟩))
  replace c2 := c2 u1 G1
  clear c1
  go_upto_region 3 with (first
    | (go_at_call 8; (with_reducible refine c2.mono ?_); rintro e u2 ⟨aK, cK, rfl, OK, G2⟩))
  have c0 := evNew u2
  have P0 := evPa_new u2
  have B0 := galloc (Below.refl u2.heap.size u2) (.cells #[.slice none 0 0, .int .i64 0] 92)
  generalize hW0 : u2.alloc (.cells #[.slice none 0 0, .int .i64 0] 92) = u3 at *
  clear c2
  go_upto_region 6 with (first
    | (go_at_call 9; (with_reducible refine c0.mono ?_); rintro e u9 ⟨rfl, hu⟩; have hu' := hu.symm; subst hu'))
  have hz1 := G1.size
  have hz2 := G2.size
  have hz3 : u2.heap.size + 1 ≤ u3.heap.size := P0.blk.lt
  have OL3 := own_keep OL (gtrans G2 B0)
  have OK3 := own_keep OK B0
  have B3 := gtrans (gtrans G1 G2) B0
  have lL : ∀ q, (Value.slice aL n cL).ownBlock = some q → q < u1.heap.size := fun q e => (World.ownsRow.lt OL q e).2
  have lK : ∀ q, (Value.slice aK n cK).ownBlock = some q → u1.heap.size ≤ q ∧ q < u2.heap.size := fun q e => World.ownsRow.lt OK q e
  have c3 := cS aL cL u3 (own_sl OL3) (own_flat OL3)
  generalize hpp : u2.heap.size = pp at *
  clear c0 hW0 OL OK G1 G2 B0
  go_upto_region 7 with (first
    | (go_at_call 10; (with_reducible refine c3.mono ?_); rintro e u4 ⟨gA, rfl, OA, G4⟩))
  have OL4 := own_keep OL3 G4
  have c4 := cS aL cL u4 (own_sl OL4) (own_flat OL4)
  clear c3
  go_upto_region 9 with (first
    | (go_at_call 10; (with_reducible refine c4.mono ?_); rintro e u5 ⟨gA2, rfl, OA2, G5⟩))
  have hz4 := G4.size
  have hz5 := G5.size
  have hgA := (World.ownsRow.lt OA gA rfl).2
  have hgA2 := (World.ownsRow.lt OA2 gA2 rfl).2
  have P5 := P0.keep (gtrans G4 G5)
  have B5 := gtrans B3 (gtrans G4 G5)
  have OL5 := own_keep OL4 G5
  have OK5 := own_keep OK3 (gtrans G4 G5)
  have OA5 := own_keep OA G5
  clear c4 P0 OL3 OK3 OL4 OA B3 G4 G5
  go_loopw [8] (fun vi wr => Psf w u5.heap.size pp n (.slice aL n cL) (.slice aK n cK) gA gA2 w.heap.size u1.heap.size u3.heap.size u4.heap.size M SL vi wr) (fun vi _ => n - (intOf vi).toNat)
  case atStart => exact ⟨0, _, Nat.zero_le _, rfl, P5, OL5, OK5, OA5, OA2, B5, Nat.le_refl _⟩
  case round =>
    obtain ⟨i, v, hi, rfl, P, OL, OK, OA, OA2, B, hzw⟩ := hrel
    clear P5 OL5 OK5 OA5 B5
    by_cases hlt : i < n
    · obtain ⟨g, o, eL, hgl, _⟩ := (own_flat OL).form (by rw [fl_len ev_size]; omega)
      subst eL
      have rx := flat_range ev_size zrEv (own_flat OL) i (by omega)
      obtain ⟨x, hx⟩ : ∃ x, M.getD i zrEv = x := ⟨_, rfl⟩
      rw [hx] at rx
      have HX : Hid (M.getD i zrEv = x) := hx
      have HT : Hid (i < n) := hlt
      have q1 : (i : Int) < (n : Int) := by omega
      have hlen : (lay evLt (M.take i)).length = i := by rw [lay_len, List.length_take]; omega
      have hz : pp + 1 ≤ wr.heap.size := P.blk.lt
      have c9 := evPush pp (pp + 1) i v (lay evLt (M.take i)) x wr P (by rw [hlen]; omega) hz (by omega) (fun e => by subst e; rfl)
      clear hx hlt hlen
      go_upto_region 10 with (first
        | (refine wpList_load_mid rfl 29 _ rfl g (o + i * 11) rfl (evC x).toList _ rx Try.underlying29 rfl infoEv ?_)
        | (go_at_call 11; (with_reducible refine c9.mono ?_); rintro e u6 ⟨rfl, v2, P9, G9, V9⟩))
      have HP : Hid (Psf w u5.heap.size pp n (.slice (some ⟨g, o, none⟩) n cL) (.slice aK n cK) gA gA2 w.heap.size u1.heap.size u3.heap.size u4.heap.size M SL (.int .i64 ((i : Int) + 1)) u6) := ⟨i + 1, v2, HT.out, rfl, by
        rw [take_snoc M zrEv i (by rw [hml]; exact HT.out), HX.out, lay_snoc, List.length_take, Nat.min_eq_left (by rw [hml]; exact hi)]
        exact P9, G9.own P OL (by decide) (by decide), G9.own P OK (by decide) (by decide), G9.own P OA (by decide) (by decide), G9.own P OA2 (by decide) (by decide), G9.toBelow B (Nat.le_refl _) (by omega) (fun g e => by have := (P.low g e).1; omega), Nat.le_trans hzw G9.size⟩
      clear P9 G9 V9 P OL OK OA OA2 rx c9
      go_wp2
      go_roundw
      case rel => exact HP.out
      case measure => have hlt := HT.out; simp [intOf]; omega
    · obtain rfl : n = i := by omega
      have hki : ¬ (n : Int) < (n : Int) := by omega
      have eT : M.take n = M := by rw [← hml]; exact List.take_length
      rw [eT] at P
      obtain ⟨wo, hwo⟩ : ∃ wo, wo = wr := ⟨_, rfl⟩
      subst hwo
      have c5 := cR pp v wo P
      clear hlt eT
      go_upto_region 13 with (first
        | (go_at_call 12; (with_reducible refine c5.mono ?_); rintro e u6 ⟨gB, rfl, OB, G6⟩))
      have c6 := cR pp v u6 (P.keep G6)
      clear c5
      go_upto_region 14 with (first
        | (go_at_call 12; (with_reducible refine c6.mono ?_); rintro e u7 ⟨gC, rfl, OC, G7⟩))
      have hr63 : Hid (n + 2 ≤ 9223372036854775807) := by unfold Hid; omega
      have hr2 : Hid (((n + 2) + (n + 2) / 4 + 192) * 88 ≤ 281474976710656) := roomP hl (by omega)
      have hr1 : Hid (((n + 1) + (n + 1) / 4 + 192) * 88 ≤ 281474976710656) := roomP hl (by omega)
      have hr63' : Hid (n + 1 ≤ 9223372036854775807) := by unfold Hid; omega
      have hz6 := G6.size
      have hz7 := G7.size
      have OA7 := own_keep OA (gtrans G6 G7)
      have OB7 := own_keep OB G7
      have hy3 : u3.heap.size ≤ u7.heap.size := by omega
      have hy6 : wo.heap.size ≤ u7.heap.size := by omega
      clear c6
      have GX0 := galloc (Below.refl u7.heap.size u7) (.cells (evC (mkI 1) ++ evC (mkI 2)) 29)
      have nX := World.news_of_block (Bk.new u7 (evC (mkI 1) ++ evC (mkI 2)) 29)
      have bX := bldS2 (mkI 1) (mkI 2) u7
      generalize hWX : u7.alloc (.cells (evC (mkI 1) ++ evC (mkI 2)) 29) = WX at *
      have oX := own_keep OA7 GX0
      have zX : u3.heap.size ≤ WX.heap.size := Nat.le_trans hy3 GX0.size
      go_upto_region 15 with (first
        | (refine wpL_b1 rfl (.const (.int .u64 1)) rfl rfl (bldI 1 u7) ?_; simp only [Act.put, List.setIfInBounds_toArray, List.set_cons_succ, List.set_cons_zero]; refine wpL_b1 rfl (.const (.int .u64 2)) rfl rfl (bldI 2 u7) ?_; simp only [Act.put, List.setIfInBounds_toArray, List.set_cons_succ, List.set_cons_zero]; refine wpL_s2 rfl (.tmp 58) (.tmp 59) rfl rfl rfl bX ?_; simp only [Act.put, List.setIfInBounds_toArray, List.set_cons_succ, List.set_cons_zero]; refine wpL_full rfl (.tmp 57) (.tmp 60) rfl Try.underlying22 nfEv rfl (by decide) gA u3.heap.size n _ rfl oX zX ⟨u7.heap.size, 0, none⟩ 2 2 (evC (mkI 1) ++ evC (mkI 2)).toList rfl (by decide) rfl nX (by rw [two_fl]; exact fl_one ev_ones1 _) hr63.out hr2.out ?_; intro gX cX vX OX GX))
      rw [two_fl, ← fl_app] at OX
      have HX := gtrans GX0 GX
      clear nX bX hWX oX zX
      have OBX := own_keep OB7 HX
      have hyX : wo.heap.size ≤ vX.heap.size := Nat.le_trans hy6 HX.size
      have GY0 := galloc (Below.refl vX.heap.size vX) (.cells (evC (mkI 3) ++ evC (mkI 4)) 29)
      have nY := World.news_of_block (Bk.new vX (evC (mkI 3) ++ evC (mkI 4)) 29)
      have bY := bldS2 (mkI 3) (mkI 4) vX
      generalize hWY : vX.alloc (.cells (evC (mkI 3) ++ evC (mkI 4)) 29) = WY at *
      have oY := own_keep OBX GY0
      have zY : wo.heap.size ≤ WY.heap.size := Nat.le_trans hyX GY0.size
      go_upto_region 16 with (first
        | (refine wpL_b1 rfl (.const (.int .u64 3)) rfl rfl (bldI 3 vX) ?_; simp only [Act.put, List.setIfInBounds_toArray, List.set_cons_succ, List.set_cons_zero]; refine wpL_b1 rfl (.const (.int .u64 4)) rfl rfl (bldI 4 vX) ?_; simp only [Act.put, List.setIfInBounds_toArray, List.set_cons_succ, List.set_cons_zero]; refine wpL_s2 rfl (.tmp 63) (.tmp 64) rfl rfl rfl bY ?_; simp only [Act.put, List.setIfInBounds_toArray, List.set_cons_succ, List.set_cons_zero]; refine wpL_full rfl (.tmp 62) (.tmp 65) rfl Try.underlying22 nfEv rfl (by decide) gB wo.heap.size n _ rfl oY zY ⟨vX.heap.size, 0, none⟩ 2 2 (evC (mkI 3) ++ evC (mkI 4)).toList rfl (by decide) rfl nY (by rw [two_fl]; exact fl_one ev_ones1 _) hr63.out hr2.out ?_; intro gY cY vY OY GY))
      rw [two_fl, ← fl_app] at OY
      have HY := gtrans GY0 GY
      clear nY bY hWY oY zY
      have OCY := own_keep OC (gtrans HX HY)
      have hyY : u6.heap.size ≤ vY.heap.size := Nat.le_trans hz7 (Nat.le_trans HX.size HY.size)
      have GZ0 := galloc (Below.refl vY.heap.size vY) (.cells (evC (mkI 5)) 29)
      have nZ := World.news_of_block (Bk.new vY (evC (mkI 5)) 29)
      have bZ := evBuildE (mkI 5) vY
      generalize hWZ : vY.alloc (.cells (evC (mkI 5)) 29) = WZ at *
      have oZ := own_keep OCY GZ0
      have zZ : u6.heap.size ≤ WZ.heap.size := Nat.le_trans hyY GZ0.size
      go_upto_region 18 with (first
        | (refine wpL_b1 rfl (.const (.int .u64 5)) rfl rfl (bldI 5 vY) ?_; simp only [Act.put, List.setIfInBounds_toArray, List.set_cons_succ, List.set_cons_zero]; refine wpList_build1 rfl (.tmp 68) rfl rfl bZ ?_; simp only [Act.put, List.setIfInBounds_toArray, List.set_cons_succ, List.set_cons_zero]; refine wpL_full rfl (.tmp 67) (.tmp 69) rfl Try.underlying22 nfEv rfl (by decide) gC u6.heap.size n _ rfl oZ zZ ⟨vY.heap.size, 0, none⟩ 1 1 (evC (mkI 5)).toList rfl (by decide) rfl nZ (ev_ones1 _) hr63'.out hr1.out ?_; intro gZ cZ vZ OZ GZ))
      have hOZ : fl evC SL ++ (evC (mkI 5)).toList = fl evC (SL ++ [mkI 5]) := by rw [fl_app]; simp [fl]
      rw [hOZ] at OZ
      have HZ := gtrans GZ0 GZ
      have HXYZ := gtrans (gtrans HX HY) HZ
      have G67 := gtrans G6 G7
      have GF := gtrans G67 HXYZ
      have gX0 := GX0.size
      have gY0 := GY0.size
      have gZ0 := GZ0.size
      have hXs := HX.size
      have hYs := HY.size
      have hgB := (World.ownsRow.lt OB gB rfl).2
      have hgC := (World.ownsRow.lt OC gC rfl).2
      have FF : Frs vZ w.heap.size u3.heap.size u4.heap.size wo.heap.size u6.heap.size u7.heap.size n (.slice aL n cL) (.slice aK n cK) gA gA2 gB gC gX gY gZ cX cY cZ M M SL SL SL (SL ++ [mkI 1, mkI 2]) (SL ++ [mkI 3, mkI 4]) (SL ++ [mkI 5]) :=
        ⟨own_keep OL GF, own_mono (own_keep OK GF) hz1, own_keep OA GF, own_keep OA2 GF, own_keep OB (gtrans G7 HXYZ), own_keep OC HXYZ, own_mono (own_keep OX (gtrans HY HZ)) gX0, own_mono (own_keep OY HZ) (by omega), own_mono OZ (by omega), fun q e => by have := lL q e; omega, fun q e => by have := (lK q e).2; omega, fun q e e2 => by have := lL q e; have := (lK q e2).1; omega, by omega, by omega, hz6, hz7, hgA, by omega, hgB, hgC⟩
      have PF := P.keep GF
      have BF := gtrans B GF
      have hwA : w.heap.size ≤ gA := by have := own_lo OA; omega
      have hwB : w.heap.size ≤ gB := by have := own_lo OB; omega
      clear OX OY OZ OA7 OB7 OBX OCY oZ zZ nZ bZ hWZ hOZ GX0 GY0 GZ0 HX HY HZ GX GY GZ HXYZ G67 OL OK OA OA2 OB OC P GF lL lK
      go_loopw [14] (fun vi wr => ∃ i : Nat, i ≤ n ∧ vi = .int .i64 (i : Int) ∧ Frs wr w.heap.size u3.heap.size u4.heap.size wo.heap.size u6.heap.size u7.heap.size n (.slice aL n cL) (.slice aK n cK) gA gA2 gB gC gX gY gZ cX cY cZ M M (ovw (-1) SL i) SL SL (SL ++ [mkI 1, mkI 2]) (SL ++ [mkI 3, mkI 4]) (SL ++ [mkI 5]) ∧ evPa wr pp (pp + 1) v (lay evLt M) n ∧ Below w.heap.size w wr) (fun vi _ => n - (intOf vi).toNat)
      case atStart => exact ⟨0, Nat.zero_le _, rfl, FF, PF, BF⟩
      case round =>
        obtain ⟨i, hi, rfl, FW, PW, BW⟩ := hrel
        by_cases hlt : i < n
        · have q1 : (i : Int) < (n : Int) := by omega
          have th := own_there FW.A i hlt
          have sx := ev_one1 (mkT (-1) i)
          have F2 := FW.putA hlt (mkT (-1) i)
          have P2 := pa_put PW FW.A (i * 11) (evC (mkT (-1) i)).toList
          have B2 := gsetCells BW hwA (evC (mkT (-1) i)).toList (i * 11)
          have hb := bldT (-1) i wr
          generalize hX : wr.setCells gA (i * 11) (evC (mkT (-1) i)).toList = X at *
          go_upto_region 20 with fail
          refine wp_region_lit ?_
          refine wpL_mv rfl (.tmp 6) rfl rfl ?_
          simp only [Act.put, List.setIfInBounds_toArray, List.set_cons_succ, List.set_cons_zero]
          refine wpL_mv rfl (.tmp 14) rfl rfl ?_
          simp only [Act.put, List.setIfInBounds_toArray, List.set_cons_succ, List.set_cons_zero]
          refine wpL_mv rfl (.tmp 14) rfl rfl ?_
          simp only [Act.put, List.setIfInBounds_toArray, List.set_cons_succ, List.set_cons_zero]
          refine wpL_b2 rfl (.const (.int .i64 (-1))) (.tmp 79) rfl rfl rfl hb ?_
          simp only [Act.put, List.setIfInBounds_toArray, List.set_cons_succ, List.set_cons_zero]
          refine wpL_ix rfl (.tmp 77) (.tmp 78) rfl rfl rfl (ix_run hlt wr) ?_
          simp only [Act.put, List.setIfInBounds_toArray, List.set_cons_succ, List.set_cons_zero]
          refine wpList_store_mid rfl 29 (.tmp 81) (.tmp 80) rfl gA (i * 11) (evC (mkT (-1) i)) rfl rfl th infoEv sx ?_
          rw [hX]
          go_frame
          have HP : Hid (Frs X w.heap.size u3.heap.size u4.heap.size wo.heap.size u6.heap.size u7.heap.size n (.slice aL n cL) (.slice aK n cK) gA gA2 gB gC gX gY gZ cX cY cZ M M (ovw (-1) SL (i + 1)) SL SL (SL ++ [mkI 1, mkI 2]) (SL ++ [mkI 3, mkI 4]) (SL ++ [mkI 5]) ∧ evPa X pp (pp + 1) v (lay evLt M) n ∧ Below w.heap.size w X) := ⟨F2, P2, B2⟩
          clear F2 P2 B2 FW PW BW th hb hX
          go_wp2
          go_roundw
          case rel => exact ⟨i + 1, hlt, rfl, HP.out.1, HP.out.2.1, HP.out.2.2⟩
          case measure => simp [intOf]; omega
        · obtain rfl : n = i := by omega
          have hki : ¬ (n : Int) < (n : Int) := by omega
          clear hlt FF PF BF
          go_upto_region 22 with fail
          obtain ⟨LA, hLA⟩ : ∃ LA, ovw (-1) SL n = LA := ⟨_, rfl⟩
          rw [hLA] at FW
          go_loopw [15] (fun vi wr => ∃ i : Nat, i ≤ n ∧ vi = .int .i64 (i : Int) ∧ Frs wr w.heap.size u3.heap.size u4.heap.size wo.heap.size u6.heap.size u7.heap.size n (.slice aL n cL) (.slice aK n cK) gA gA2 gB gC gX gY gZ cX cY cZ M M LA SL (ovw (-2) SL i) (SL ++ [mkI 1, mkI 2]) (SL ++ [mkI 3, mkI 4]) (SL ++ [mkI 5]) ∧ evPa wr pp (pp + 1) v (lay evLt M) n ∧ Below w.heap.size w wr) (fun vi _ => n - (intOf vi).toNat)
          case atStart => exact ⟨0, Nat.zero_le _, rfl, FW, PW, BW⟩
          case round =>
            obtain ⟨i, hi, rfl, FW, PW, BW⟩ := hrel
            by_cases hlt : i < n
            · have q1 : (i : Int) < (n : Int) := by omega
              have th := own_there FW.B i hlt
              have sx := ev_one1 (mkT (-2) i)
              have F2 := FW.putB hlt (mkT (-2) i)
              have P2 := pa_put PW FW.B (i * 11) (evC (mkT (-2) i)).toList
              have B2 := gsetCells BW hwB (evC (mkT (-2) i)).toList (i * 11)
              have hb := bldT (-2) i wr
              generalize hX : wr.setCells gB (i * 11) (evC (mkT (-2) i)).toList = X at *
              go_upto_region 24 with fail
              refine wp_region_lit ?_
              refine wpL_mv rfl (.tmp 9) rfl rfl ?_
              simp only [Act.put, List.setIfInBounds_toArray, List.set_cons_succ, List.set_cons_zero]
              refine wpL_mv rfl (.tmp 15) rfl rfl ?_
              simp only [Act.put, List.setIfInBounds_toArray, List.set_cons_succ, List.set_cons_zero]
              refine wpL_mv rfl (.tmp 15) rfl rfl ?_
              simp only [Act.put, List.setIfInBounds_toArray, List.set_cons_succ, List.set_cons_zero]
              refine wpL_b2 rfl (.const (.int .i64 (-2))) (.tmp 90) rfl rfl rfl hb ?_
              simp only [Act.put, List.setIfInBounds_toArray, List.set_cons_succ, List.set_cons_zero]
              refine wpL_ix rfl (.tmp 88) (.tmp 89) rfl rfl rfl (ix_run hlt wr) ?_
              simp only [Act.put, List.setIfInBounds_toArray, List.set_cons_succ, List.set_cons_zero]
              refine wpList_store_mid rfl 29 (.tmp 92) (.tmp 91) rfl gB (i * 11) (evC (mkT (-2) i)) rfl rfl th infoEv sx ?_
              rw [hX]
              go_frame
              have HP : Hid (Frs X w.heap.size u3.heap.size u4.heap.size wo.heap.size u6.heap.size u7.heap.size n (.slice aL n cL) (.slice aK n cK) gA gA2 gB gC gX gY gZ cX cY cZ M M LA SL (ovw (-2) SL (i + 1)) (SL ++ [mkI 1, mkI 2]) (SL ++ [mkI 3, mkI 4]) (SL ++ [mkI 5]) ∧ evPa X pp (pp + 1) v (lay evLt M) n ∧ Below w.heap.size w X) := ⟨F2, P2, B2⟩
              clear F2 P2 B2 FW PW BW th hb hX
              go_wp2
              go_roundw
              case rel => exact ⟨i + 1, hlt, rfl, HP.out.1, HP.out.2.1, HP.out.2.2⟩
              case measure => simp [intOf]; omega
            · obtain rfl : n = i := by omega
              have hki : ¬ (n : Int) < (n : Int) := by omega
              obtain ⟨LB, hLB⟩ : ∃ LB, ovw (-2) SL n = LB := ⟨_, rfl⟩
              rw [hLB] at FW
              have c5 := cR pp v wr PW
              clear hlt
              go_upto_region 26 with (first
                | (go_at_call 12; (with_reducible refine c5.mono ?_); rintro e uD ⟨gD, rfl, OD, GD⟩))
              have FD := FW.keep GD
              have c6 := cS aL cL uD (own_sl FD.L) (own_flat FD.L)
              clear c5
              go_upto_region 27 with (first
                | (go_at_call 10; (with_reducible refine c6.mono ?_); rintro e uE ⟨gE, rfl, OE, GE⟩))
              have FE := FD.keep GE
              have OD2 := own_keep OD GE
              have c7 := cT (some ⟨gC, 0, none⟩) aK n cK uE (own_flat FE.C) (own_flat FE.K)
              clear c6 FW FD OD
              go_upto_region 28 with (first
                | (go_at_call 13; (with_reducible refine c7.mono ?_); rintro e s1 ⟨rfl, k1⟩))
              have F1 := FE.keep k1
              have c8 := cT (some ⟨gD, 0, none⟩) aK n cK s1 ((own_flat OD2).keep k1) (own_flat F1.K)
              clear c7
              go_upto_region 29 with (first
                | (go_at_call 13; (with_reducible refine c8.mono ?_); rintro e s2 ⟨rfl, k2⟩))
              have F2 := F1.keep k2
              have c9 := cT (some ⟨gE, 0, none⟩) aK n cK s2 (((own_flat OE).keep k1).keep k2) (own_flat F2.K)
              clear c8
              go_upto_region 30 with (first
                | (go_at_call 13; (with_reducible refine c9.mono ?_); rintro e s3 ⟨rfl, k3⟩))
              have F3 := F2.keep k3
              have c10 := cT (some ⟨gA2, 0, none⟩) aK n cK s3 (own_flat F3.A2) (own_flat F3.K)
              clear c9
              go_upto_region 31 with (first
                | (go_at_call 13; (with_reducible refine c10.mono ?_); rintro e s4 ⟨rfl, k4⟩))
              have F4 := F3.keep k4
              have c11 := cE aL aK cL cK s4 (own_flat F4.L) (own_flat F4.K)
              clear c10
              go_upto_region 34 with (first
                | (go_at_call 14; (with_reducible refine c11.mono ?_); rintro e s5 ⟨rfl, k5⟩))
              have F5 := F4.keep k5
              have kk := gtrans (gtrans (gtrans (gtrans (gtrans (gtrans GD GE) k1) k2) k3) k4) k5
              have P5 := PW.keep kk
              have B5 := gtrans BW kk
              clear c11 F1 F2 F3 F4 FE OD2 OE PW BW GD GE k1 k2 k3 k4 k5 kk
              clear hki
              go_loopw [22] (fun vi wr => ∃ i : Nat, i ≤ n ∧ vi = .int .i64 (i : Int) ∧ wr = s5) (fun vi _ => n - (intOf vi).toNat)
              case atStart => exact ⟨0, Nat.zero_le _, rfl, rfl⟩
              case round =>
                obtain ⟨i, hi, rfl, rfl⟩ := hrel
                by_cases hlt : i < n
                · have rB := own_cells F5.B hlt zeroE
                  have eB : LB.getD i zeroE = mkT (-2) i := by rw [← hLB]; exact ovw_at _ _ _ hlt (by omega)
                  rw [eB] at rB
                  have d2 : wr.cell? ⟨gB, i * 11 + 2, none⟩ = some (.int .i64 (-2)) := rB 2 _ rfl
                  have d0 : wr.cell? ⟨gB, i * 11, none⟩ = some (.int .i64 (i : Int)) := by have := rB 0 (.int .i64 (i : Int)) rfl; rwa [Nat.add_zero] at this
                  have q1 : (i : Int) < (n : Int) := by omega
                  clear rB eB
                  go_wp2
                  go_roundw
                  case rel => exact ⟨i + 1, hlt, rfl, trivial⟩
                  case measure => simp [intOf]; omega
                · obtain rfl : n = i := by omega
                  have hki : ¬ (n : Int) < (n : Int) := by omega
                  clear hlt
                  go_upto_region 39 with fail
                  go_loopw [23] (fun vi wr => ∃ i : Nat, i ≤ n ∧ vi = .int .i64 (i : Int) ∧ Frs wr w.heap.size u3.heap.size u4.heap.size wo.heap.size u6.heap.size u7.heap.size n (.slice aL n cL) (.slice aK n cK) gA gA2 gB gC gX gY gZ cX cY cZ (rvw M i) M LA SL LB (SL ++ [mkI 1, mkI 2]) (SL ++ [mkI 3, mkI 4]) (SL ++ [mkI 5]) ∧ evPa wr pp (pp + 1) v (lay evLt M) n ∧ Below w.heap.size w wr) (fun vi _ => n - (intOf vi).toNat)
                  case atStart => exact ⟨0, Nat.zero_le _, rfl, F5, P5, B5⟩
                  case round =>
                    obtain ⟨i, hi, rfl, FW, PW, BW⟩ := hrel
                    by_cases hlt : i < n
                    · have hn0 : 0 < n := by omega
                      obtain ⟨gL, capL, eL, hgl, _⟩ := World.ownsRow.form FW.L hn0
                      obtain ⟨gK, capK, eK, _, _⟩ := World.ownsRow.form FW.K hn0
                      cases eL
                      cases eK
                      obtain ⟨j, hj⟩ : ∃ j, j + i + 1 = n := ⟨n - 1 - i, by omega⟩
                      have e1 : (n : Int) - 1 - (i : Int) = (j : Int) := by omega
                      have q1 : (i : Int) < (n : Int) := by omega
                      have q2 : (j : Int) < (n : Int) := by omega
                      have rK := own_cells FW.K (show j < n by omega) zeroE
                      have hy0 : M.length - 1 - i = j := by omega
                      have hrv : rvw M (i + 1) = (rvw M i).set i { M.getD j zeroE with typ := (i : Int) } := by rw [← hy0]; rfl
                      generalize M.getD j zeroE = y at *
                      have th := own_there FW.L i hlt
                      have sx := ev_one1 y
                      have O1 := own_putN FW.L hlt y
                      have h1 : ∀ q, q ≠ gL → (wr.setCells gL (i * 11) (evC y).toList).heap[q]? = wr.heap[q]? := fun q hq => setCells_blk gL _ _ wr q hq
                      have B1 := gsetCells BW hgl (evC y).toList (i * 11)
                      have HJ : Hid (j + i + 1 = n) := hj
                      have HT : Hid (i < n) := hlt
                      generalize hX : wr.setCells gL (i * 11) (evC y).toList = X at *
                      clear hj hy0
                      go_upto_region 42 with (first
                        | (refine wpList_load_mid rfl 29 (.tmp 164) rfl gK (j * 11) rfl (evC y).toList _ rK Try.underlying29 rfl infoEv ?_)
                        | (refine wpList_store_mid rfl 29 _ _ rfl gL (i * 11) (evC y) rfl rfl th infoEv sx ?_; rw [hX]))
                      have O2 := own_typ O1 HT.out (i : Int)
                      rw [getD_set (by rw [rvw_len, hml]; exact HT.out), if_pos rfl, List.set_set, ← hrv] at O2
                      have r1 := own_cells O1 HT.out zeroE
                      rw [getD_set (by rw [rvw_len, hml]; exact HT.out), if_pos rfl] at r1
                      have dT : X.cell? ⟨gL, i * 11 + 2, none⟩ = some (.int .i64 y.typ) := r1 2 _ rfl
                      have fz : X.frozen? ⟨gL, i * 11 + 2, none⟩ = false := World.ownsRow.frozenAt O1 _
                      have h2 : ∀ q, q ≠ gL → (X.setCell ⟨gL, i * 11 + 2, none⟩ (.int .i64 (i : Int))).heap[q]? = wr.heap[q]? := fun q hq => (Below.heap_setCell X ⟨gL, i * 11 + 2, none⟩ _ q hq).trans (h1 q hq)
                      obtain ⟨csL, hcsL⟩ := own_blkE FW.L
                      have HP : Hid (Frs (X.setCell ⟨gL, i * 11 + 2, none⟩ (.int .i64 (i : Int))) w.heap.size u3.heap.size u4.heap.size wo.heap.size u6.heap.size u7.heap.size n (.slice (some ⟨gL, 0, none⟩) n cL) (.slice (some ⟨gK, 0, none⟩) n cK) gA gA2 gB gC gX gY gZ cX cY cZ (rvw M (i + 1)) M LA SL LB (SL ++ [mkI 1, mkI 2]) (SL ++ [mkI 3, mkI 4]) (SL ++ [mkI 5]) ∧ evPa (X.setCell ⟨gL, i * 11 + 2, none⟩ (.int .i64 (i : Int))) pp (pp + 1) v (lay evLt M) n ∧ Below w.heap.size w (X.setCell ⟨gL, i * 11 + 2, none⟩ (.int .i64 (i : Int)))) := ⟨FW.setL rfl O2 h2, pa_else PW hcsL h2, gset B1 (p := ⟨gL, i * 11 + 2, none⟩) hgl _⟩
                      clear O1 O2 r1 h1 h2 hcsL FW PW BW B1 rK th hX hrv
                      go_wp2
                      go_roundw
                      case rel => exact ⟨i + 1, HT.out, rfl, HP.out.1, HP.out.2.1, HP.out.2.2⟩
                      case measure => have hlt := HT.out; simp [intOf]; omega
                    · obtain rfl : n = i := by omega
                      have hki : ¬ (n : Int) < (n : Int) := by omega
                      have eM : rvw M n = mkd M.reverse := by rw [← hml]; exact rvw_end M
                      rw [eM] at FW
                      have hml2 : (mkd M.reverse).length = n := by rw [mkd_len, List.length_reverse]; exact hml
                      have S2 := stb_lay M.reverse
                      have hS2 : ((lay evLt (mkd M.reverse)).map Prod.fst).length = n := by rw [List.length_map, lay_len]; exact hml2
                      generalize mkd M.reverse = M2 at *
                      have c5 := evSort aL cL M2 wr (by rw [hml2]; exact own_sl FW.L) (own_flat FW.L) (by rw [hml2]; exact hl)
                      rw [hml2] at c5
                      generalize (lay evLt M2).map Prod.fst = SL2 at *
                      clear hlt F5 P5 B5 eM
                      go_upto_region 44 with (first
                        | (go_at_call 10; (with_reducible refine c5.mono ?_); rintro e t1 ⟨gT, rfl, OT, k1⟩))
                      have F1 := FW.keep k1
                      have c6 := stable_true (some ⟨gT, 0, none⟩) aL n cL SL2 M2 t1 (own_flat OT) (own_flat F1.L) S2 (by rw [hml2]; exact hl)
                      rw [hml2, hS2] at c6
                      clear c5
                      go_upto_region 45 with (first
                        | (go_at_call 13; (with_reducible refine c6.mono ?_); rintro e t2 ⟨rfl, k2⟩))
                      have F2 := F1.keep k2
                      have c7 := cT (some ⟨gA2, 0, none⟩) aK n cK t2 (own_flat F2.A2) (own_flat F2.K)
                      clear c6
                      go_upto_region 49 with (first
                        | (go_at_call 13; (with_reducible refine c7.mono ?_); rintro e t3 ⟨rfl, k3⟩))
                      have F3 := F2.keep k3
                      have kk := gtrans (gtrans k1 k2) k3
                      have P3 := PW.keep kk
                      have B3 := gtrans BW kk
                      clear c7 F1 F2 FW PW BW OT kk k1 k2 k3 S2 hki
                      go_loopw [26] (fun vi wr => ∃ i : Nat, i ≤ n ∧ vi = .int .i64 (i : Int) ∧ wr = t3) (fun vi _ => n - (intOf vi).toNat)
                      case atStart => exact ⟨0, Nat.zero_le _, rfl, rfl⟩
                      case round =>
                        obtain ⟨i, hi, rfl, rfl⟩ := hrel
                        by_cases hlt : i < n
                        · have rB := own_cells F3.A hlt zeroE
                          have eB : LA.getD i zeroE = mkT (-1) i := by rw [← hLA]; exact ovw_at _ _ _ hlt (by omega)
                          rw [eB] at rB
                          have d2 : wr.cell? ⟨gA, i * 11 + 2, none⟩ = some (.int .i64 (-1)) := rB 2 _ rfl
                          have d0 : wr.cell? ⟨gA, i * 11, none⟩ = some (.int .i64 (i : Int)) := by have := rB 0 (.int .i64 (i : Int)) rfl; rwa [Nat.add_zero] at this
                          have q1 : (i : Int) < (n : Int) := by omega
                          clear rB eB
                          go_wp2
                          go_roundw
                          case rel => exact ⟨i + 1, hlt, rfl, trivial⟩
                          case measure => simp [intOf]; omega
                        · obtain rfl : n = i := by omega
                          have hki : ¬ (n : Int) < (n : Int) := by omega
                          have hLL := HLM.out
                          have c8 := evPopA pp (pp + 1) n v (lay evLt M) wr P3 (by omega)
                          obtain ⟨bo, hbo⟩ : ∃ bo, decide (0 < n) = bo := ⟨_, rfl⟩
                          rw [hLL, hbo] at c8
                          unfold evTopV at c8
                          have hxS : 0 < n → SL.getD 0 zeroE = ((lay evLt M).headD (zrEv, 0)).1 := fun h => by
                            rw [← hSL]
                            cases hL : lay evLt M with
                            | nil => rw [hL] at hLL; simp at hLL; omega
                            | cons a b => rfl
                          generalize ((lay evLt M).headD (zrEv, 0)).1 = x at *
                          have sx := ev_one1 x
                          clear hlt
                          go_upto_region 54 with (first
                            | (go_at_call 15; (with_reducible refine c8.mono ?_); rintro e y5 ⟨rfl, v5, P5, G5, V5⟩; have bz := Bk.new y5 zA 29; have th := bz.there; have b5 := bz.setCells (cs' := evC x) rfl; have G6' := gsetCells (galloc (Below.refl y5.heap.size y5) (.cells zA 29)) (Nat.le_refl _) (evC x).toList 0; generalize hX5 : (y5.alloc (.cells zA 29)).setCells y5.heap.size 0 (evC x).toList = X5 at *)
                            | (refine wpList_store_mid rfl 29 _ _ rfl y5.heap.size 0 (evC x) rfl rfl th infoEv sx ?_; rw [hX5]))
                          have OX := own_keep (G5.own P3 F3.X (by decide) (by decide)) G6'
                          have OY := own_keep (G5.own P3 F3.Y (by decide) (by decide)) G6'
                          have OZ := own_keep (G5.own P3 F3.Z (by decide) (by decide)) G6'
                          have OC5 := own_keep (G5.own P3 F3.C (by decide) (by decide)) G6'
                          have BX : Below w.heap.size w X5 := gtrans (G5.toBelow B3 (Nat.le_refl _) (by omega) (fun g e => by have := (P3.low g e).1; omega)) G6'
                          have rX1 : ∀ Y, Below X5.heap.size X5 Y → Y.cell? ⟨gX, n * 11 + 1, none⟩ = some (.int .u64 1) := fun Y BY => by
                            have := own_cells (own_keep OX BY) (i := n) (by omega) zeroE
                            rw [gd1 hSn] at this
                            exact this 1 _ rfl
                          have rX2 : ∀ Y, Below X5.heap.size X5 Y → Y.cell? ⟨gX, (n + 1) * 11 + 1, none⟩ = some (.int .u64 2) := fun Y BY => by
                            have := own_cells (own_keep OX BY) (i := n + 1) (by omega) zeroE
                            rw [gd2 hSn] at this
                            exact this 1 _ rfl
                          have rY1 : ∀ Y, Below X5.heap.size X5 Y → Y.cell? ⟨gY, n * 11 + 1, none⟩ = some (.int .u64 3) := fun Y BY => by
                            have := own_cells (own_keep OY BY) (i := n) (by omega) zeroE
                            rw [gd1 hSn] at this
                            exact this 1 _ rfl
                          have rY2 : ∀ Y, Below X5.heap.size X5 Y → Y.cell? ⟨gY, (n + 1) * 11 + 1, none⟩ = some (.int .u64 4) := fun Y BY => by
                            have := own_cells (own_keep OY BY) (i := n + 1) (by omega) zeroE
                            rw [gd2 hSn] at this
                            exact this 1 _ rfl
                          have rZ1 : ∀ Y, Below X5.heap.size X5 Y → Y.cell? ⟨gZ, n * 11 + 1, none⟩ = some (.int .u64 5) := fun Y BY => by
                            have := own_cells (own_keep OZ BY) (i := n) (by omega) zeroE
                            rw [gd1 hSn] at this
                            exact this 1 _ rfl
                          have hne0 : Nonempty (Ext X5) := ⟨⟨_, Below.refl _ _⟩⟩
                          have r5 := b5.range
                          clear c8 OX OY OZ th bz hX5 G6' P5 G5 V5 F3 P3 B3
                          cases bo with
                          | true =>
                            have h0 : 0 < n := of_decide_eq_true hbo
                            have rC := own_cells OC5 h0 zeroE
                            rw [Nat.zero_mul, hxS h0] at rC
                            have k0 : (0 : Int) < (n : Int) := by omega
                            have k0e : decide ((0 : Int) < (n : Int)) = true := decide_eq_true k0
                            clear hxS OC5
                            refine wp_region_ext (by kernel_rfl) (by kernel_rfl) ?_
                            repeat (first
                              | (refine wpQuiet_load_mid rfl 29 (.tmp 27) rfl y5.heap.size 0 rfl (evC x) _ (fun X hX => by obtain ⟨nx, rfl⟩ := hX; exact rangeAt_keep r5 nx.h) Try.underlying29 rfl infoEv _ rfl ?_; simp only [Act.put, List.setIfInBounds_toArray, List.set_cons_succ, List.set_cons_zero])
                              | (refine wpQuiet_load_mid rfl 29 (.tmp 222) rfl gC 0 rfl (evC x) _ (fun X hX => by obtain ⟨nx, rfl⟩ := hX; exact rangeAt_keep rC nx.h) Try.underlying29 rfl infoEv _ rfl ?_; simp only [Act.put, List.setIfInBounds_toArray, List.set_cons_succ, List.set_cons_zero])
                              | (refine quiet_neq_same rfl (.tmp 220) (.tmp 223) 29 rfl evGuard (evC x) (ev_eq x) rfl rfl _ rfl ?_; simp only [Act.put, List.setIfInBounds_toArray, List.set_cons_succ, List.set_cons_zero])
                              | go_big_quiet_step (fail))
                            refine wpQuiet_nil ?_
                            intro _ hw'
                            obtain ⟨nx, hw''⟩ := hw'
                            subst hw''
                            have d1 := rX1 nx.X nx.h
                            have d2 := rX2 nx.X nx.h
                            have d3 := rY1 nx.X nx.h
                            have d4 := rY2 nx.X nx.h
                            have d5 := rZ1 nx.X nx.h
                            clear rX1 rX2 rY1 rY2 rZ1
                            go_wp2
                            go_ret
                            exact ⟨by simp, gtrans BX nx.h⟩
                          | false =>
                            have h0 : n = 0 := by have := of_decide_eq_false hbo; omega
                            have k0 : ¬ (0 : Int) < (n : Int) := by omega
                            have k0e : decide ((0 : Int) < (n : Int)) = false := decide_eq_false k0
                            clear hxS OC5
                            refine wp_region_ext (by kernel_rfl) (by kernel_rfl) ?_
                            repeat go_big_quiet_step (fail)
                            refine wpQuiet_nil ?_
                            intro _ hw'
                            obtain ⟨nx, hw''⟩ := hw'
                            subst hw''
                            have d1 := rX1 nx.X nx.h
                            have d2 := rX2 nx.X nx.h
                            have d3 := rY1 nx.X nx.h
                            have d4 := rY2 nx.X nx.h
                            have d5 := rZ1 nx.X nx.h
                            clear rX1 rX2 rY1 rY2 rZ1 h0
                            go_wp2
                            go_ret
                            exact ⟨by simp, gtrans BX nx.h⟩

theorem own : ownKnob Try.prog.godebug = none := by kernel_rfl
theorem laidOut : laidOutB Try.prog = true := by kernel_rfl

set_option maxRecDepth 100000 in
theorem lifted (os : Os) (started : os.Started) (H : Type) (enc : TypeId × Value → H) :
    ReturnsInHanded {} Try.checked os 3 .any (Rows.pileFreshSpec.pre6 enc Try.prog Try.f3 Rows.pileFreshRow.domain false) (Rows.pileFreshSpec.post enc Try.prog Try.f3 false true false false) := by
  refine returnsInHanded_of_change_sized (C := Try.checked) own started (by kernel_rfl) Try.func3
    (ChangeSpec.witness6 (enc := enc) (C := Try.checked) false ⟨#[], #[.slice none 0 0], []⟩ 8 (by kernel_rfl) (by kernel_rfl) (by kernel_rfl) (by kernel_rfl)) ?_
  intro W base args ds gs before hval0 hW hcnd hsz0 _
  have hsz : (DataW.weightsEach Try.prog (Try.f3.params.toList ++ Rows.pileFreshSpec.plain.varTypes Try.prog) (ds ++ gs)).all (· ≤ reachBytes) = true := hsz0
  have hval : ∀ (j : Nat) t v, Try.f3.params[j]? = some t → args[j]? = some v → Value.okWide Try.prog W .any base t v := hval0
  have hW' := hW
  obtain ⟨p, q, hA0, hV, rfl, hfz, hnd⟩ := hW
  have hA : DataW.TrodAll enc Try.prog W 0 (fun _ => true) true Try.f3.params.toList args.toList ds p := hA0
  rw [Try.params3] at hA hval hsz
  obtain ⟨v0, vs0, d0, ds0, p0, q0, hargs, rfl, rfl, h0, r0⟩ := trodAll_cons hA
  obtain ⟨rfl, rfl, rfl⟩ := trodAll_nil r0
  obtain rfl : args = #[v0] := by cases args; simp_all
  obtain ⟨rfl, rfl⟩ := trodVars_none hV
  have k0 := h0
  have lt0 : ∀ x ∈ p0, x.block < W.heap.size := by obtain ⟨m, hm⟩ := k0; exact DataW.trod_lt m _ _ _ hm
  obtain ⟨ao0, cap0, l0, e0, wc0, w0, wr0, ws0⟩ : ∃ ao cap l, v0 = .slice ao (l : List Ev).length cap ∧ Sl ao l.length cap ∧ Flat W ao (fl evC l) ∧ l.length * 88 ≤ 140737488351232 ∧ ∀ k, (l.getD k zeroE).ok := by
    obtain ⟨a, len, cap, e⟩ := okWide_slice Try.underlying22 (hval 0 22 v0 rfl rfl)
    subst e
    obtain ⟨fuel, hf⟩ := h0
    have hf' : DataW.trod enc Try.prog W 0 (fun _ => true) true fuel 22 [.slice a len cap] = some (d0, p0) := hf
    exact open_evrow hf' (fun b hb => by
      have h1 := List.all_eq_true.1 hsz b (DataW.weights_mem_each (j := 0) (t := 22) rfl rfl b hb)
      simpa using h1)
  subst e0
  clear hA0 hval0
  refine (walk ao0 cap0 l0 W wc0 w0 wr0 ws0).mono fun e W' ⟨he, bel⟩ => ?_
  subst he
  exact ⟨_, rfl, _, _, _, [], _, [], hW', trodAll_mk1 (shut_bool Try.underlying4 _), (trodAll_cons_mk (Below.trod laidOut (by kernel_rfl) (of_decide_eq_true (by kernel_rfl)) k0 bel lt0) trodAll_mk0), rfl, bel.frame _, fun h => by cases h⟩

theorem over : Rows.pileFreshRow.holds Try.pinned (OpenSpec.ofChange Rows.pileFreshSpec) :=
  OpenClaim.holds_of_wide 3 Try.f3 rfl rfl rfl rfl rfl rfl rfl ⟨rfl, rfl, rfl, rfl, rfl⟩ rfl rfl rfl rfl rfl (by kernel_rfl) Try.func3 (by kernel_rfl)
    (of_decide_eq_true (by kernel_rfl)) (by unfold Func.isWrapper; first | (rw [if_pos (by decide +kernel)]; kernel_rfl) | (rw [if_neg (by decide +kernel)]; exact ⟨rfl, rfl⟩))
    (fun os started H enc _ => lifted os started H enc)

end Go.Proofs.Ytjfbbfmnghccdaa.pileFresh
namespace Go.Proofs.Ytjfbbfmnghccdaa
theorem pileFresh_holds : Rows.PileFreshSaid := pileFresh.over
#print axioms pileFresh_holds
end Go.Proofs.Ytjfbbfmnghccdaa
