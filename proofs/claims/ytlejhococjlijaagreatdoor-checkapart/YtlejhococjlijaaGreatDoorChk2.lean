/- What event's and the document's CheckSchema come to: the same. -/
import Derived.Test.YtlejhococjlijaaGreatDoorChk
namespace Go.Proofs.YtlejhococjlijaaGreatDoor
open Go.RowKit Go.BigFrame
set_option linter.unusedVariables false
set_option linter.unusedSimpArgs false

theorem moreE {f : Nat → Int} {k : Nat} (h : ∀ j, j < k → f j = 0) (hk : f k = 0) : ∀ j, j < k + 1 → f j = 0 := by
  intro j hj
  rcases Nat.lt_or_ge j k with h1 | h1
  · exact h j h1
  · obtain rfl : j = k := by omega
    exact hk

set_option maxRecDepth 100000 in
set_option maxHeartbeats 2000000 in
theorem checkType_any (ao aj : Option Addr) (i cap m cj : Nat) (P : List Ty) (x : ByteArray) (ss : List ByteArray) (w : World) (h : IsTypes w ao i P) (hs : IsStrs w aj m ss) (hmc : m ≤ cj) (K : KwAt w) :
    Calls Tryz.prog 43 #[.slice ao i cap, .agg #[.string x, .slice aj m cj]] w fun e w' => e = .returned (.int .i64 (typeF P x ss)) ∧ Below w.heap.size w w' := by
  have hml := hs.1
  have hmx := hs.2.1
  have B := galloc (Below.refl w.heap.size w) (.cells #[.string x, .slice aj m cj] 59)
  have T := Two.new w (.string x) (.slice aj m cj) 59
  obtain ⟨z, hz⟩ : ∃ z, z = typeF P x ss := ⟨_, rfl⟩
  rw [← hz]
  have HZ : Hid (z = typeF P x ss) := hz
  clear hz
  go_enter Tryz.func43, Tryz.ntmps43
  go_upto_region 1 with fail
  generalize hV : w.alloc (.cells #[.string x, .slice aj m cj] 59) = V at B T ⊢
  clear hV
  replace h := h.keep B
  replace hs := hs.keep B
  replace K := K.keep B
  have t0 := T.at0
  have t1 := T.at1
  have c1 := checkTypeName_any ao i cap P x V h K
  obtain ⟨a, ha⟩ : ∃ a, a = nameE P x := ⟨_, rfl⟩
  rw [← ha] at c1
  by_cases h0 : a = 0
  · subst h0
    have HZ : Hid (z = if 8 < ss.length then 24 else firstE (attrE ss) ss.length) := by
      show _ = _
      rw [HZ.out]; unfold typeF; rw [← ha]; rfl
    clear ha
    by_cases h8 : 8 < m
    · have q8 : (8 : Int) < (m : Int) := by omega
      have hz : z = 24 := by rw [HZ.out, if_pos (by omega)]
      subst hz
      go_wp2_with (go_at_call 66; with_reducible refine c1.mono ?_; rintro e u ⟨rfl, g⟩; have T2 := T.keep g; have s0 := T2.at0; have s1 := T2.at1)
      go_ret
      exact ⟨rfl, gtrans B g⟩
    · have q8 : ¬ (8 : Int) < (m : Int) := by omega
      have HZ : Hid (z = firstE (attrE ss) m) := by show _ = _; rw [HZ.out, if_neg (by omega), hml]
      go_upto_region 7 with (go_at_call 66; with_reducible refine c1.mono ?_; rintro e u ⟨rfl, g⟩; have T2 := T.keep g; have s0 := T2.at0; have s1 := T2.at1)
      replace hs := hs.keep g
      replace K := K.keep g
      replace B := gtrans B g
      clear c1 g T t0 t1 h
      go_loopw [23] (fun i wr => ∃ k : Nat, k ≤ m ∧ i = .int .i64 k ∧ (∀ j, j < k → attrE ss j = 0) ∧ Below u.heap.size u wr) (fun i _ => m - (intOf i).toNat)
      case atStart => exact ⟨0, Nat.zero_le _, rfl, fun j hj => absurd hj (Nat.not_lt_zero _), Below.refl _ _⟩
      case round =>
        obtain ⟨k, hk, rfl, hno, G⟩ := hrel
        have T3 := T2.keep G
        have v0 := T3.at0
        have v1 := T3.at1
        by_cases hlt : k < m
        · have hs' := hs.keep G
          obtain ⟨_, _, q4⟩ := hs'
          rcases q4 with q4 | ⟨b, off, eb, hb, hcb⟩
          · omega
          subst eb
          have f := hcb k hlt
          have hsk := (hs.keep G).take k (by omega)
          have c2 := checkAttrName_any (some ⟨b, off, none⟩) k cj (ss.take k) (ss.getD k .empty) wr hsk (K.keep G)
          have HA : Hid (attrE ss k = if (!(nameB (ss.getD k .empty)) || ((ss.getD k .empty).toList == [116, 115])) = true then 22 else if hasN (ss.take k) (ss.getD k .empty) = true then 25 else 0) := rfl
          rw [← HA.out] at c2
          have g1 : (k : Int) ≤ (cj : Int) := by omega
          have g2 : (0 : Int) ≤ (k : Int) := by omega
          have HF : Hid (∀ v, attrE ss k = v → v ≠ 0 → z = v) := fun v hv hv0 => by
            rw [HZ.out, firstE_hit (attrE ss) m k hlt (by rw [hv]; exact hv0) hno, hv]
          generalize ss.getD k .empty = y at *
          obtain ⟨v, hv⟩ : ∃ v, v = attrE ss k := ⟨_, rfl⟩
          rw [← hv] at c2
          by_cases hv0 : v = 0
          · have q1 : (v == 0) = true := by simpa using hv0
            have HV : Hid (attrE ss k = 0) := by show _ = _; rw [← hv, hv0]
            clear hv hv0 hcb
            go_wp2_with (go_at_call 67; with_reducible refine c2.mono ?_; rintro e u3 ⟨rfl, g⟩)
            go_roundw
            case rel => first | exact ⟨k + 1, by omega, by go_num, moreE hno HV.out, gtrans G g⟩ | ((repeat apply Exists.intro); exact ⟨⟨k + 1, by omega, by go_num, moreE hno HV.out, gtrans G g⟩, rfl⟩)
            case measure => simp [intOf]; omega
          · have q1 : (v == 0) = false := by simpa using hv0
            have HV : Hid (z = v) := HF.out v hv.symm hv0
            clear hv hv0 hcb
            go_wp2_with (go_at_call 67; with_reducible refine c2.mono ?_; rintro e u3 ⟨rfl, g⟩)
            go_ret
            exact ⟨by rw [HV.out]; rfl, gtrans B (gtrans G g)⟩
        · obtain rfl : k = m := by omega
          have HV : Hid (z = 0) := by show _ = _; rw [HZ.out, firstE_none _ _ hno]
          go_wp2
          go_ret
          exact ⟨by rw [HV.out]; rfl, gtrans B G⟩
  · have q0 : (a == 0) = false := by simpa using h0
    have hz : z = a := by rw [HZ.out]; unfold typeF; rw [← ha, if_pos h0]
    subst hz
    clear ha h0
    go_wp2_with (go_at_call 66; with_reducible refine c1.mono ?_; rintro e u ⟨rfl, g⟩; have T2 := T.keep g; have s0 := T2.at0; have s1 := T2.at1)
    go_ret
    exact ⟨rfl, gtrans B g⟩

set_option maxRecDepth 100000 in
set_option maxHeartbeats 2000000 in
theorem checkSchema_any (ao : Option Addr) (n cap : Nat) (L : List Ty) (w : World) (h : IsTypes w ao n L) (hnc : n ≤ cap) (K : KwAt w) :
    Calls Tryz.prog 25 #[.agg #[.slice ao n cap]] w fun e w' => e = .returned (.int .i64 (schE L)) ∧ Below w.heap.size w w' := by
  have hL := h.1
  have hn := h.2.1
  have B := galloc (Below.refl w.heap.size w) (.cells #[.slice ao n cap] 34)
  have O := One.new w (.slice ao n cap) 34
  obtain ⟨z, hz⟩ : ∃ z, z = schE L := ⟨_, rfl⟩
  rw [← hz]
  have HZ : Hid (z = if n = 0 ∨ 16 < n then 23 else firstE (typeE L) n) := by show _ = _; rw [hz]; unfold schE; rw [hL]
  clear hz
  go_enter Tryz.func25, Tryz.ntmps25
  go_upto_region 1 with fail
  generalize hV : w.alloc (.cells #[.slice ao n cap] 34) = V at B O ⊢
  clear hV
  replace h := h.keep B
  replace K := K.keep B
  have o0 := O.at0
  by_cases h0 : n = 0
  · have q0 : ((n : Int) == 0) = true := by simp; omega
    have hz : z = 23 := by rw [HZ.out, if_pos (.inl h0)]
    subst hz
    clear h0
    go_wp2
    go_ret
    exact ⟨rfl, B⟩
  have q0 : ((n : Int) == 0) = false := by simp; omega
  by_cases h16 : 16 < n
  · have q1 : (16 : Int) < (n : Int) := by omega
    have hz : z = 23 := by rw [HZ.out, if_pos (.inr h16)]
    subst hz
    clear h0
    go_wp2
    go_ret
    exact ⟨rfl, B⟩
  have q1 : ¬ (16 : Int) < (n : Int) := by omega
  have HZ : Hid (z = firstE (typeE L) n) := by show _ = _; rw [HZ.out, if_neg (by omega)]
  clear h0
  go_upto_region 4 with fail
  go_loopw [19] (fun i wr => ∃ k : Nat, k ≤ n ∧ i = .int .i64 k ∧ (∀ j, j < k → typeE L j = 0) ∧ Below V.heap.size V wr) (fun i _ => n - (intOf i).toNat)
  case atStart => exact ⟨0, Nat.zero_le _, rfl, fun j hj => absurd hj (Nat.not_lt_zero _), Below.refl _ _⟩
  case round =>
    obtain ⟨k, hk, rfl, hno, G⟩ := hrel
    by_cases hlt : k < n
    · obtain ⟨_, _, q4⟩ := h.keep G
      rcases q4 with q4 | ⟨b, off, eb, hb, hcb⟩
      · omega
      subst eb
      obtain ⟨f1, aj, cj, f2, hmc, hs⟩ := hcb k hlt
      have htk := (h.keep G).take k (by omega)
      have HF : Hid (∀ v, typeE L k = v → v ≠ 0 → z = v) := fun v hv hv0 => by
        rw [HZ.out, firstE_hit (typeE L) n k hlt (by rw [hv]; exact hv0) hno, hv]
      obtain ⟨v, hv⟩ : ∃ v, v = typeE L k := ⟨_, rfl⟩
      have HV : Hid (v = typeF (L.take k) (L.getD k noTy).1 (L.getD k noTy).2) := hv
      have HW : Hid (v = typeE L k) := hv
      clear hv
      obtain ⟨x, hx⟩ : ∃ x, x = (L.getD k noTy).1 := ⟨_, rfl⟩
      obtain ⟨ss, hss⟩ : ∃ ss, ss = (L.getD k noTy).2 := ⟨_, rfl⟩
      rw [← hx] at f1
      rw [← hss] at f2 hmc hs
      have HV : Hid (v = typeF (L.take k) x ss) := by show _ = _; rw [HV.out, hx, hss]
      obtain ⟨m, hm⟩ : ∃ m, ss.length = m := ⟨_, rfl⟩
      rw [hm] at f2 hmc hs
      clear hcb hx hss
      go_upto_region 6 with fail
      have B5 := galloc (Below.refl wr.heap.size wr) (.cells #[.string x, .slice aj m cj] 59)
      have T5 := Two.new wr (.string x) (.slice aj m cj) 59
      have O5 := (O.keep G).alloc (.cells #[.string x, .slice aj m cj] 59)
      generalize hW5 : wr.alloc (.cells #[.string x, .slice aj m cj] 59) = W5 at B5 T5 O5 ⊢
      generalize hb5 : wr.heap.size = b5 at T5 ⊢
      clear hW5 hb5
      replace htk := htk.keep B5
      replace hs := hs.keep B5
      have K5 := K.keep (gtrans G B5)
      have y1 : ∀ z : Ext W5, Calls Tryz.prog 43 #[.slice (some ⟨b, off, none⟩) k cap, .agg #[.string x, .slice aj m cj]] z.X (fun e w'' => e = .returned (.int .i64 v) ∧ ∃ m : Ext W5, w'' = m.X) := fun z => by rw [HV.out]; exact ext_of (checkType_any _ aj k cap m cj (L.take k) x ss z.X (htk.keep z.h) (hs.keep z.h) hmc (K5.keep z.h))
      have p0 := fun (z : Ext W5) => (z.cell _ _ O5.lt).trans O5.at0
      have p1 := fun (z : Ext W5) => (z.cell _ _ T5.lt).trans T5.at0
      have p2 := fun (z : Ext W5) => (z.cell _ _ T5.lt).trans T5.at1
      have g1 : (k : Int) ≤ (cap : Int) := by omega
      have g2 : (0 : Int) ≤ (k : Int) := by omega
      have hne : Nonempty (Ext W5) := ⟨⟨_, Below.refl _ _⟩⟩
      clear htk hs K5 f1 f2
      by_cases hv0 : v = 0
      · have q3 : (v == 0) = true := by simpa using hv0
        have HW2 : Hid (typeE L k = 0) := by show _ = _; rw [← HW.out, hv0]
        clear hv0
        refine wp_region_ext (by kernel_rfl) (by kernel_rfl) ?_
        repeat (go_big_quiet_step (first | (go_at_call 43; with_reducible exact y1 _)))
        refine wpQuiet_nil ?_
        intro _ hw'
        obtain ⟨nxw, hw''⟩ := hw'
        subst hw''
        go_wp2
        go_roundw
        case rel => first | exact ⟨k + 1, by omega, by go_num, moreE hno HW2.out, gtrans G (gtrans B5 nxw.h)⟩ | ((repeat apply Exists.intro); exact ⟨⟨k + 1, by omega, by go_num, moreE hno HW2.out, gtrans G (gtrans B5 nxw.h)⟩, rfl⟩)
        case measure => simp [intOf]; omega
      · have q3 : (v == 0) = false := by simpa using hv0
        have HW2 : Hid (z = v) := HF.out v HW.out.symm hv0
        clear hv0
        refine wp_region_ext (by kernel_rfl) (by kernel_rfl) ?_
        repeat (go_big_quiet_step (first | (go_at_call 43; with_reducible exact y1 _)))
        refine wpQuiet_nil ?_
        intro _ hw'
        obtain ⟨nxw, hw''⟩ := hw'
        subst hw''
        go_wp2
        go_ret
        exact ⟨by rw [HW2.out]; rfl, gtrans B (gtrans G (gtrans B5 nxw.h))⟩
    · obtain rfl : k = n := by omega
      have HV : Hid (z = 0) := by show _ = _; rw [HZ.out, firstE_none _ _ hno]
      go_wp2
      go_ret
      exact ⟨by rw [HV.out]; rfl, gtrans B G⟩

end Go.Proofs.YtlejhococjlijaaGreatDoor
