/- What the document's CheckSchema comes to. -/
import Derived.Test.YtkpnnofonocilaaDoorChk2
namespace Go.Proofs.YtkpnnofonocilaaDoor
open Go.RowKit Go.BigFrame
set_option linter.unusedVariables false
set_option linter.unusedSimpArgs false

theorem isStrs_own {w : World} {base : Nat} {v : Value} {n : Nat} {ss : List ByteArray} (h : w.ownsRow base 9 1 v n (strsV ss)) : ∃ ao cap, v = .slice ao n cap ∧ IsStrs w ao n ss := by
  obtain ⟨ao, cap, rfl, hn, hg⟩ := own_shape h
  have hl : ss.length = n := by
    have := h.1
    unfold strsV at this
    rw [List.length_map, Nat.mul_one] at this
    exact this
  refine ⟨ao, cap, rfl, hl, hn, ?_⟩
  rcases hg with hg | ⟨g, rfl, hlt, _⟩
  · exact .inl hg
  refine .inr ⟨g, 0, rfl, hlt, fun i hi => ?_⟩
  rw [Nat.zero_add]
  exact own_cell h _ _ (by unfold strsV; rw [List.getElem?_map]; simp [List.getD, List.getElem?_eq_getElem (show i < ss.length by omega)])

set_option maxRecDepth 100000 in
set_option maxHeartbeats 4000000 in
theorem refCheckType_any (ao : Option Addr) (n cap i : Nat) (L : List Ty) (w : World) (h : IsTypes w ao n L) (hi : i < n) (K : KwAt w) :
    Calls Tryd.prog 56 #[.agg #[.slice ao n cap], .int .i64 i] w fun e w' => e = .returned (.int .i64 (typeE L i)) ∧ Below w.heap.size w w' := by
  obtain ⟨i0, si, sz0, sz1, sz2⟩ := info_partsS
  have hL := h.1
  have hn := h.2.1
  have B := galloc (Below.refl w.heap.size w) (.cells #[.slice ao n cap] 24)
  have O := One.new w (.slice ao n cap) 24
  obtain ⟨z, hz⟩ : ∃ z, z = typeE L i := ⟨_, rfl⟩
  rw [← hz]
  have HZ : Hid (z = typeF (L.take i) (L.getD i noTy).1 (L.getD i noTy).2) := hz
  clear hz
  go_enter Tryd.func56, Tryd.ntmps56
  go_upto_region 1 with fail
  generalize hV : w.alloc (.cells #[.slice ao n cap] 24) = V at B O ⊢
  clear hV
  replace h := h.keep B
  replace K := K.keep B
  have o0 := O.at0
  have h' := h
  obtain ⟨_, _, q4⟩ := h'
  rcases q4 with q4 | ⟨b, off, eb, hb, hcb⟩
  · omega
  subst eb
  obtain ⟨f1, aj, cj, f2, hmc, hs⟩ := hcb i hi
  obtain ⟨x, hx⟩ : ∃ x, x = (L.getD i noTy).1 := ⟨_, rfl⟩
  obtain ⟨ss, hss⟩ : ∃ ss, ss = (L.getD i noTy).2 := ⟨_, rfl⟩
  rw [← hx] at f1
  rw [← hss] at f2 hmc hs
  have HZ : Hid (z = typeF (L.take i) x ss) := by show _ = _; rw [HZ.out, hx, hss]
  have hml := hs.1
  obtain ⟨m, hm⟩ : ∃ m, ss.length = m := ⟨_, rfl⟩
  rw [hm] at f2 hmc hs hml
  have hmx := hs.2.1
  have hnames : ∀ j, j < n → V.cell? ⟨b, off + j * 2, none⟩ = some (.string (L.getD j noTy).1) := fun j hj => (hcb j hj).1
  clear hcb hx hss hml
  go_upto_region 2 with fail
  have B5 := galloc (Below.refl V.heap.size V) (.cells #[.string x, .slice aj m cj] 35)
  have T5 := Two.new V (.string x) (.slice aj m cj) 35
  have O5 := O.alloc (.cells #[.string x, .slice aj m cj] 35)
  generalize hW5 : V.alloc (.cells #[.string x, .slice aj m cj] 35) = W5 at B5 T5 O5 ⊢
  have hnames5 : ∀ j, j < n → W5.cell? ⟨b, off + j * 2, none⟩ = some (.string (L.getD j noTy).1) := fun j hj => (B5.cell (p := ⟨b, off + j * 2, none⟩) hb).trans (hnames j hj)
  have hb5 := Nat.lt_of_lt_of_le hb B5.size
  generalize hbb : V.heap.size = b5 at T5 ⊢
  clear hW5 f1 f2 o0 hnames
  replace hs := hs.keep B5
  replace K := K.keep B5
  replace B := gtrans B B5
  clear B5 hbb
  have o0 := O5.at0
  have t0 := T5.at0
  have t1 := T5.at1
  have c1 := refIsName_any x W5 K
  cases h1 : nameB x
  · rw [h1] at c1
    have hz : z = 22 := by rw [HZ.out]; unfold typeF nameE; rw [h1]; rfl
    subst hz
    go_wp2_with (go_at_call 73; with_reducible refine c1.mono ?_; rintro e u ⟨rfl, rfl⟩)
    go_ret
    exact ⟨rfl, B⟩
  rw [h1] at c1
  go_upto_region 5 with (go_at_call 73; with_reducible refine c1.mono ?_; rintro e u ⟨rfl, rfl⟩)
  clear c1
  go_loopw [6] (fun q wr => ∃ k : Nat, k ≤ i ∧ q = .int .i64 k ∧ (∀ j, j < k → hitB x (L.getD j noTy) = false) ∧ Below W5.heap.size W5 wr) (fun q _ => i - (intOf q).toNat)
  case atStart => exact ⟨0, Nat.zero_le _, rfl, fun j hj => absurd hj (Nat.not_lt_zero _), Below.refl _ _⟩
  case round =>
    obtain ⟨k, hk, rfl, hno, G⟩ := hrel
    have O6 := O5.keep G
    have T6 := T5.keep G
    by_cases hlt : k < i
    · have f := (G.cell (p := ⟨b, off + k * 2, none⟩) hb5).trans (hnames5 k (by omega))
      obtain ⟨y, hy⟩ : ∃ y, y = (L.getD k noTy).1 := ⟨_, rfl⟩
      rw [← hy] at f
      have HH : Hid (hitB x (L.getD k noTy) = (y.toList == x.toList)) := by show _ = _; unfold hitB; rw [hy]
      have p0 := fun (z : Ext wr) => (z.cell _ _ O6.lt).trans O6.at0
      have p1 := fun (z : Ext wr) => (z.cell _ _ T6.lt).trans T6.at0
      have p2 := fun (z : Ext wr) => (z.cell _ _ (Nat.lt_of_lt_of_le hb5 G.size)).trans f
      have hne : Nonempty (Ext wr) := ⟨⟨_, Below.refl _ _⟩⟩
      have g1 : (k : Int) < (n : Int) := by omega
      clear hy f o0 t0 t1 hnames5
      cases hc : (y.toList == x.toList)
      · go_wp2
        refine wp_region_ext (by kernel_rfl) (by kernel_rfl) ?_
        repeat (go_big_quiet_step (fail))
        refine wpQuiet_nil ?_
        intro _ hw'
        obtain ⟨nxw, hw''⟩ := hw'
        subst hw''
        go_wp2
        go_roundw
        case rel => exact ⟨k + 1, by omega, by go_num, more (p := fun j => hitB x (L.getD j noTy)) hno (HH.out.trans hc), gtrans G nxw.h⟩
        case measure => simp [intOf]; omega
      · have hz : z = 25 := by
          have e : typeI (L.take i) x = k := typeI_hit _ _ k (by simp; omega) (by rw [getD_take L i k noTy hlt]; exact HH.out.trans hc) (fun j hj => by rw [getD_take L i j noTy (by omega)]; exact hno j hj)
          have e2 : nameE (L.take i) x = 25 := by unfold nameE; rw [h1, e, if_neg (by decide), if_pos (by omega)]
          rw [HZ.out]
          unfold typeF
          rw [e2]
          rfl
        subst hz
        go_wp2
        refine wp_region_ext (by kernel_rfl) (by kernel_rfl) ?_
        repeat (go_big_quiet_step (fail))
        refine wpQuiet_nil ?_
        intro _ hw'
        obtain ⟨nxw, hw''⟩ := hw'
        subst hw''
        go_wp2
        go_ret
        exact ⟨rfl, gtrans B (gtrans G nxw.h)⟩
    · obtain rfl : k = i := by omega
      have HZ : Hid (z = if 8 < m then 24 else firstE (attrE ss) m) := by
        show _ = _
        have e2 : nameE (L.take k) x = 0 := by
          unfold nameE
          rw [h1, typeI_none (L.take k) x (fun j hj => by have hj' : j < k := (by simp at hj; omega); rw [getD_take L k j noTy hj']; exact hno j hj'), if_neg (by decide), if_neg (by decide)]
        rw [HZ.out]
        unfold typeF
        rw [e2, if_neg (by decide), hm]
      have t0 := T6.at0
      have t1 := T6.at1
      replace hs := hs.keep G
      replace K := K.keep G
      replace B := gtrans B G
      clear hno hnames5 O5 T5 o0 G
      by_cases h8 : 8 < m
      · have q8 : (8 : Int) < (m : Int) := by omega
        have hz : z = 24 := by rw [HZ.out, if_pos h8]
        subst hz
        go_wp2
        go_ret
        exact ⟨rfl, B⟩
      have q8 : ¬ (8 : Int) < (m : Int) := by omega
      have HZ : Hid (z = firstE (attrE ss) m) := by show _ = _; rw [HZ.out, if_neg h8]
      obtain ⟨wo, rfl⟩ : ∃ wo, wo = wr := ⟨_, rfl⟩
      go_upto_region 13 with fail
      go_loopw [7, 8] (fun v q wr => ∃ k2 : Nat, k2 ≤ m ∧ q = .int .i64 k2 ∧ (∀ j, j < k2 → attrE ss j = 0) ∧ wr.ownsRow wo.heap.size 9 1 v k2 (strsV (ss.take k2)) ∧ Below wo.heap.size wo wr) (fun _ q _ => m - (intOf q).toNat)
      case atStart => exact ⟨0, Nat.zero_le _, rfl, fun j hj => absurd hj (Nat.not_lt_zero _), World.ownsRow_nil _ _ _ _, Below.refl _ _⟩
      case round =>
        obtain ⟨k2, hk2, rfl, hno2, R, G2⟩ := hrel
        have T7 := T6.keep G2
        have v0 := T7.at0
        have v1 := T7.at1
        obtain ⟨ah, ch, rfl, hhave⟩ := isStrs_own R
        by_cases hlt2 : k2 < m
        · have hs' := hs.keep G2
          obtain ⟨_, _, r4⟩ := hs'
          rcases r4 with r4 | ⟨b2, off2, eb2, hb2, hcb2⟩
          · omega
          subst eb2
          have f := hcb2 k2 hlt2
          have c1 := refIsName_any (ss.getD k2 .empty) wr (K.keep G2)
          have c2 := refIn_any ah k2 ch (ss.take k2) (ss.getD k2 .empty) wr hhave
          have HA : Hid (attrE ss k2 = if (!(nameB (ss.getD k2 .empty)) || ((ss.getD k2 .empty).toList == [116, 115])) = true then 22 else if hasN (ss.take k2) (ss.getD k2 .empty) = true then 25 else 0) := rfl
          have HF : Hid (attrE ss k2 ≠ 0 → z = attrE ss k2) := fun hv0 => by rw [HZ.out, firstE_hit (attrE ss) m k2 hlt2 hv0 hno2]
          have HM : Hid (strsV (ss.take k2) ++ [.string (ss.getD k2 .empty)] = strsV (ss.take (k2 + 1))) := strsV_more ss k2 (by omega)
          generalize ss.getD k2 .empty = y at *
          clear hcb2
          cases hb1 : nameB y
          · rw [hb1] at c1
            have hz : z = 22 := by
              have e : attrE ss k2 = 22 := by rw [HA.out, hb1]; rfl
              rw [HF.out (by rw [e]; decide), e]
            subst hz
            go_wp2_with (go_at_call 73; with_reducible refine c1.mono ?_; rintro e u ⟨rfl, rfl⟩)
            go_ret
            exact ⟨rfl, gtrans B G2⟩
          rw [hb1] at c1
          cases hb2' : (y.toList == [116, 115])
          · cases hb3 : hasN (ss.take k2) y
            · rw [hb3] at c2
              have HV : Hid (attrE ss k2 = 0) := by show _ = _; rw [HA.out, hb1, hb2', hb3]; rfl
              go_wp2_with (first
                | (go_at_call 73; with_reducible refine c1.mono ?_; rintro e u ⟨rfl, rfl⟩)
                | (go_at_call 74; with_reducible refine c2.mono ?_; rintro e u ⟨rfl, rfl⟩)
                | (at_builtin; refine wpList_append_own _ rfl (.tmp 65) (.tmp 71) 33 rfl wo.heap.size 9 i0 (.string ⟨#[]⟩) 1 16 Tryd.underlying33 si sz0 sz1 sz2 rfl (by decide) _ _ _ rfl (R.alloc _) ⟨wr.heap.size, 0, none⟩ 1 1 [.string y] rfl rfl (cell_one_new _ _ _) (by intro u hu; simp at hu; subst hu; rfl) ?c3 ?c4 ?c5 ?_))
              case c3 => unfold maxLen; omega
              case c4 => omega
              case c5 => have := G2.size; simp; omega
              intro v' w1 hown' hgrow _
              have R2 : w1.ownsRow wo.heap.size 9 1 v' (k2 + 1) (strsV (ss.take (k2 + 1))) := by rw [← HM.out]; exact hown'
              have G3 : Below wo.heap.size wo w1 := (G2.alloc G2.size _).grown hgrow (by have := G2.size; simp; omega) (fun r e => (R.lt r e).1)
              clear hown' hgrow R G2 f v0 v1
              go_wp2
              go_roundw
              case rel => exact ⟨k2 + 1, by omega, by go_num, moreE hno2 HV.out, R2, G3⟩
              case measure => simp [intOf]; omega
            · rw [hb3] at c2
              have hz : z = 25 := by
                have e : attrE ss k2 = 25 := by rw [HA.out, hb1, hb2', hb3]; rfl
                rw [HF.out (by rw [e]; decide), e]
              subst hz
              go_wp2_with (first
                | (go_at_call 73; with_reducible refine c1.mono ?_; rintro e u ⟨rfl, rfl⟩)
                | (go_at_call 74; with_reducible refine c2.mono ?_; rintro e u ⟨rfl, rfl⟩))
              go_ret
              exact ⟨rfl, gtrans B G2⟩
          · have hz : z = 22 := by
              have e : attrE ss k2 = 22 := by rw [HA.out, hb1, hb2']; rfl
              rw [HF.out (by rw [e]; decide), e]
            subst hz
            go_wp2_with (go_at_call 73; with_reducible refine c1.mono ?_; rintro e u ⟨rfl, rfl⟩)
            go_ret
            exact ⟨rfl, gtrans B G2⟩
        · obtain rfl : k2 = m := by omega
          have hz : z = 0 := by rw [HZ.out, firstE_none _ _ hno2]
          subst hz
          go_wp2
          go_ret
          exact ⟨rfl, gtrans B G2⟩

set_option maxRecDepth 100000 in
set_option maxHeartbeats 2000000 in
theorem refCheckSchema_any (ao : Option Addr) (n cap : Nat) (L : List Ty) (w : World) (h : IsTypes w ao n L) (K : KwAt w) :
    Calls Tryd.prog 32 #[.agg #[.slice ao n cap]] w fun e w' => e = .returned (.int .i64 (schE L)) ∧ Below w.heap.size w w' := by
  have hL := h.1
  have hn := h.2.1
  have B := galloc (Below.refl w.heap.size w) (.cells #[.slice ao n cap] 24)
  have O := One.new w (.slice ao n cap) 24
  obtain ⟨z, hz⟩ : ∃ z, z = schE L := ⟨_, rfl⟩
  rw [← hz]
  have HZ : Hid (z = if n = 0 ∨ 16 < n then 23 else firstE (typeE L) n) := by show _ = _; rw [hz]; unfold schE; rw [hL]
  clear hz
  go_enter Tryd.func32, Tryd.ntmps32
  go_upto_region 1 with fail
  generalize hV : w.alloc (.cells #[.slice ao n cap] 24) = V at B O ⊢
  clear hV
  replace h := h.keep B
  replace K := K.keep B
  have o0 := O.at0
  by_cases h0 : n < 1
  · have q0 : (n : Int) < 1 := by omega
    have hz : z = 23 := by rw [HZ.out, if_pos (.inl (by omega))]
    subst hz
    go_wp2
    go_ret
    exact ⟨rfl, B⟩
  have q0 : ¬ (n : Int) < 1 := by omega
  by_cases h16 : 16 < n
  · have q1 : (16 : Int) < (n : Int) := by omega
    have hz : z = 23 := by rw [HZ.out, if_pos (.inr h16)]
    subst hz
    go_wp2
    go_ret
    exact ⟨rfl, B⟩
  have q1 : ¬ (16 : Int) < (n : Int) := by omega
  have HZ : Hid (z = firstE (typeE L) n) := by show _ = _; rw [HZ.out, if_neg (by omega)]
  go_upto_region 4 with fail
  go_loopw [3] (fun i wr => ∃ k : Nat, k ≤ n ∧ i = .int .i64 k ∧ (∀ j, j < k → typeE L j = 0) ∧ Below V.heap.size V wr) (fun i _ => n - (intOf i).toNat)
  case atStart => exact ⟨0, Nat.zero_le _, rfl, fun j hj => absurd hj (Nat.not_lt_zero _), Below.refl _ _⟩
  case round =>
    obtain ⟨k, hk, rfl, hno, G⟩ := hrel
    have o1 := (O.keep G).at0
    by_cases hlt : k < n
    · have c := refCheckType_any ao n cap k L wr (h.keep G) hlt (K.keep G)
      have HF : Hid (∀ v, typeE L k = v → v ≠ 0 → z = v) := fun v hv hv0 => by
        rw [HZ.out, firstE_hit (typeE L) n k hlt (by rw [hv]; exact hv0) hno, hv]
      obtain ⟨v, hv⟩ : ∃ v, v = typeE L k := ⟨_, rfl⟩
      rw [← hv] at c
      by_cases hv0 : v = 0
      · have q3 : (v == 0) = true := by simpa using hv0
        have HW2 : Hid (typeE L k = 0) := by show _ = _; rw [← hv, hv0]
        clear hv0 hv
        go_wp2_with (go_at_call 56; with_reducible refine c.mono ?_; rintro e u ⟨rfl, g⟩)
        go_roundw
        case rel => exact ⟨k + 1, by omega, by go_num, moreE hno HW2.out, gtrans G g⟩
        case measure => simp [intOf]; omega
      · have q3 : (v == 0) = false := by simpa using hv0
        have HW2 : Hid (z = v) := HF.out v hv.symm hv0
        clear hv0 hv
        go_wp2_with (go_at_call 56; with_reducible refine c.mono ?_; rintro e u ⟨rfl, g⟩)
        go_ret
        exact ⟨by rw [HW2.out]; rfl, gtrans B (gtrans G g)⟩
    · obtain rfl : k = n := by omega
      have hz : z = 0 := by rw [HZ.out, firstE_none _ _ hno]
      subst hz
      go_wp2
      go_ret
      exact ⟨rfl, gtrans B G⟩

end Go.Proofs.YtkpnnofonocilaaDoor
