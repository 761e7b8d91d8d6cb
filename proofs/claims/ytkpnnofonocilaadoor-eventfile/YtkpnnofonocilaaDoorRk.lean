/- What the document's attribute and named come to. -/
import Derived.Test.YtkpnnofonocilaaDoorRi
namespace Go.Proofs.YtkpnnofonocilaaDoor
open Go.RowKit Go.BigFrame
set_option linter.unusedVariables false
set_option linter.unusedSimpArgs false

theorem at_ext (s : ByteArray) (a e : Nat) (h : a < e) (he : e ≤ s.size) : at_ (s.extract a e) 0 = at_ s a := by
  rw [at_byte _ 0 (by rw [ByteArray.size_extract]; omega), at_byte s a (by omega)]
  have h1 := ext_list s a e h he
  rw [Lib.toList_data, Lib.toList_data] at h1
  have h2 : (s.extract a e).data[0]'(by show 0 < (s.extract a e).size; rw [ByteArray.size_extract]; omega) = s.data[a]'(Nat.lt_of_lt_of_le h he) := by
    rw [← Array.getElem_toList]
    simp only [h1]
    rfl
  exact congrArg (fun b : UInt8 => (b.toNat : Int)) h2
theorem wordAt_may (s : ByteArray) (P : List Rp) (hP : ∀ q ∈ P, OkR s q) (i n : Nat) (hn : P.length = n) : (decide (i < n) && ((P.getD i noRp).2.2 && !(digB (at_ s (P.getD i noRp).1)))) = (pAt s P i).may := by
  unfold pAt
  rw [hn]
  by_cases h : i < n
  · rw [if_pos h, decide_eq_true h, Bool.true_and]
    have ok := hP (P.getD i noRp) (by rw [List.getD_eq_getElem?_getD, List.getElem?_eq_getElem (by omega)]; exact List.getElem_mem _)
    generalize P.getD i noRp = q at *
    unfold rPc
    cases hw : q.2.2
    · rw [if_neg (by decide)]
      rfl
    · rw [if_pos rfl]
      show _ = ((0 : Int) == 0 && !(digB (at_ (s.extract q.1 q.2.1) 0)))
      rw [at_ext s q.1 q.2.1 ok.lt ok.le]
      rfl
  · rw [if_neg h, decide_eq_false h]
    rfl
/-- Where a word is: the piece, its cells, its bytes. -/
theorem may_at {s : ByteArray} {P : List Rp} (hP : ∀ q ∈ P, OkR s q) {i : Nat} {w : World} {ao : Option Addr} {n : Nat} (h : IsRps w ao n P) (hm : (pAt s P i).may = true) : i < n ∧ ∃ g a e, ao = some ⟨g, 0, none⟩ ∧ g < w.heap.size ∧ w.cell? ⟨g, i * 3, none⟩ = some (.int .i64 (a : Nat)) ∧ w.cell? ⟨g, i * 3 + 1, none⟩ = some (.int .i64 (e : Nat)) ∧ a < e ∧ e ≤ s.size ∧ (pAt s P i).w = s.extract a e := by
  obtain ⟨h1, h2, h4⟩ := h
  have hm' := hm
  unfold pAt at hm ⊢
  rw [h1] at hm ⊢
  by_cases hlt : i < n
  · rw [if_pos hlt] at hm ⊢
    refine ⟨hlt, ?_⟩
    rcases h4 with h4 | ⟨g, rfl, hg, hc⟩
    · omega
    obtain ⟨c0, c1, c2⟩ := hc i hlt
    have ok := hP (P.getD i noRp) (by rw [List.getD_eq_getElem?_getD, List.getElem?_eq_getElem (by omega)]; exact List.getElem_mem _)
    refine ⟨g, _, _, rfl, hg, c0, c1, ok.lt, ok.le, ?_⟩
    unfold rPc at hm ⊢
    split at hm
    · rename_i hw; rw [if_pos hw]; rfl
    · cases hm
  · rw [if_neg hlt] at hm
    cases hm

set_option maxRecDepth 100000 in
set_option maxHeartbeats 8000000 in
theorem refAttribute_any (s : ByteArray) (hs : s.size ≤ 4096) (ao : Option Addr) (n cap : Nat) (P : List Rp) (hP : ∀ q ∈ P, OkR s q) (i : Nat) (hi : i ≤ 20000) (bo : Option Addr) (m cb : Nat) (ss : List ByteArray) (hm8 : m ≤ 8) (w : World) (h : IsRps w ao n P) (A : IsStrs w bo m ss) (K : KwAt w) :
    Calls Tryd.prog 48 #[.string s, .slice ao n cap, .int .i64 i, .slice bo m cb] w fun e w' => e = .returned (.int .i64 (rdT ss (pAt s P i))) ∧ Below w.heap.size w w' := by
  have cW := refWordAt_any s hs ao n cap P hP i hi w h
  rw [wordAt_may s P hP i n h.1] at cW
  have hT : rdT ss (pAt s P i) = if (pAt s P i).may = false then 21 else if ss.length = 8 then 24 else atE ss (pAt s P i).w := rfl
  rw [A.1] at hT
  cases hm : (pAt s P i).may
  · rw [hm, if_pos rfl] at hT
    rw [hm] at cW
    have HT : Hid (rdT ss (pAt s P i) = 21) := hT
    clear hT
    go_enter Tryd.func48, Tryd.ntmps48
    go_wp2_with (go_at_call 72; (with_reducible refine cW.mono ?_); rintro e u1 ⟨rfl, g1⟩)
    go_ret
    exact ⟨by rw [HT.out]; rfl, g1⟩
  rw [hm, if_neg (by decide)] at hT
  rw [hm] at cW
  obtain ⟨hlt, g, a, e, rfl, hg, c0, c1, o1, o2, hw⟩ := may_at hP h hm
  rw [hw] at hT
  have HT : Hid (rdT ss (pAt s P i) = if m = 8 then 24 else atE ss (s.extract a e)) := hT
  generalize rdT ss (pAt s P i) = z at *
  have cN := fun (u : World) (G : Below w.heap.size w u) => refIsName_any (s.extract a e) u (K.keep G)
  have cI := fun (u : World) (G : Below w.heap.size w u) => refIn_any bo m cb ss (s.extract a e) u (A.keep G)
  have hx : atE ss (s.extract a e) = if (!(nameB (s.extract a e)) || ((s.extract a e).toList == [116, 115])) = true then 22 else if hasN ss (s.extract a e) = true then 25 else 0 := rfl
  rw [hx] at HT
  have g1 : (i : Int) < (n : Int) := by omega
  have g2 : (a : Int) ≤ (e : Int) := by omega
  have g3 : (e : Int) ≤ (s.size : Int) := by omega
  have g4 : (0 : Int) ≤ (a : Int) := by omega
  have g5 : (0 : Int) ≤ (i : Int) := by omega
  clear hT hw hx hm h hP
  go_enter Tryd.func48, Tryd.ntmps48
  go_wp2_with (go_at_call 72; (with_reducible refine cW.mono ?_); rintro e u1 ⟨rfl, G1⟩)
  clear cW
  have p0 := fun z : Ext u1 => (z.cell _ _ (Nat.lt_of_lt_of_le hg G1.size)).trans ((G1.cell (p := ⟨g, i * 3, none⟩) hg).trans c0)
  have p1 := fun z : Ext u1 => (z.cell _ _ (Nat.lt_of_lt_of_le hg G1.size)).trans ((G1.cell (p := ⟨g, i * 3 + 1, none⟩) hg).trans c1)
  have hne : Nonempty (Ext u1) := ⟨⟨_, Below.refl _ _⟩⟩
  clear c0 c1
  refine wp_region_ext (by kernel_rfl) (by kernel_rfl) ?_
  repeat (go_big_quiet_step (fail))
  refine wpQuiet_nil ?_
  intro _ hw'
  obtain ⟨nxw, hw''⟩ := hw'
  subst hw''
  have G2 := gtrans G1 nxw.h
  replace cN := cN _ G2
  clear p0 p1 hne
  generalize nxw.X = u2 at *
  generalize s.extract a e = x at *
  by_cases h8 : m = 8
  · rw [if_pos h8] at HT
    subst h8
    go_wp2
    go_ret
    exact ⟨by rw [HT.out]; rfl, G2⟩
  rw [if_neg h8] at HT
  have n8 : ¬ (8 : Int) ≤ (m : Int) := by omega
  cases h1 : nameB x
  · rw [h1] at cN HT
    go_wp2_with (go_at_call 73; (with_reducible refine cN.mono ?_); rintro e u3 ⟨rfl, rfl⟩)
    go_ret
    exact ⟨by rw [HT.out]; rfl, G2⟩
  · rw [h1] at cN HT
    cases h2 : (x.toList == [116, 115])
    · rw [h2] at HT
      have cI2 := cI _ G2
      cases h3 : hasN ss x
      all_goals
        rw [h3] at cI2 HT
        go_wp2_with (first
          | (go_at_call 73; (with_reducible refine cN.mono ?_); rintro e u3 ⟨rfl, rfl⟩)
          | (go_at_call 74; (with_reducible refine cI2.mono ?_); rintro e u3 ⟨rfl, rfl⟩))
        go_ret
        exact ⟨by rw [HT.out]; rfl, G2⟩
    · rw [h2] at HT
      go_wp2_with (go_at_call 73; (with_reducible refine cN.mono ?_); rintro e u3 ⟨rfl, rfl⟩)
      go_ret
      exact ⟨by rw [HT.out]; rfl, G2⟩

set_option maxRecDepth 100000 in
set_option maxHeartbeats 8000000 in
theorem refNamed_any (s : ByteArray) (hs : s.size ≤ 4096) (ao : Option Addr) (n cap : Nat) (P : List Rp) (hP : ∀ q ∈ P, OkR s q) (i : Nat) (hi : i ≤ 20000) (bo : Option Addr) (m cb : Nat) (L : List Ty) (w : World) (h : IsRps w ao n P) (T : IsTypes w bo m L) (K : KwAt w) :
    Calls Tryd.prog 47 #[.string s, .slice ao n cap, .int .i64 i, .slice bo m cb] w fun e w' => e = .returned (.int .i64 (if (pAt s P i).may = false then 21 else nameE L (pAt s P i).w)) ∧ Below w.heap.size w w' := by
  have cW := refWordAt_any s hs ao n cap P hP i hi w h
  rw [wordAt_may s P hP i n h.1] at cW
  cases hm : (pAt s P i).may
  · rw [hm] at cW
    rw [if_pos rfl]
    go_enter Tryd.func47, Tryd.ntmps47
    go_wp2_with (go_at_call 72; (with_reducible refine cW.mono ?_); rintro e u1 ⟨rfl, g1⟩)
    go_ret
    exact ⟨rfl, g1⟩
  rw [hm] at cW
  rw [if_neg (by decide)]
  obtain ⟨hlt, g, a, e, rfl, hg, c0, c1, o1, o2, hw⟩ := may_at hP h hm
  rw [hw]
  obtain ⟨z, hz⟩ : ∃ z, nameE L (s.extract a e) = z := ⟨_, rfl⟩
  rw [hz]
  have HT : Hid (z = if nameB (s.extract a e) = false then 22 else if 0 ≤ typeI L (s.extract a e) then 25 else 0) := hz.symm
  have cN := fun (u : World) (G : Below w.heap.size w u) => refIsName_any (s.extract a e) u (K.keep G)
  have g1 : (i : Int) < (n : Int) := by omega
  have g2 : (a : Int) ≤ (e : Int) := by omega
  have g3 : (e : Int) ≤ (s.size : Int) := by omega
  have g4 : (0 : Int) ≤ (a : Int) := by omega
  have g5 : (0 : Int) ≤ (i : Int) := by omega
  clear hz hw hm h hP
  go_enter Tryd.func47, Tryd.ntmps47
  go_wp2_with (go_at_call 72; (with_reducible refine cW.mono ?_); rintro e u1 ⟨rfl, G1⟩)
  clear cW
  have p0 := fun z : Ext u1 => (z.cell _ _ (Nat.lt_of_lt_of_le hg G1.size)).trans ((G1.cell (p := ⟨g, i * 3, none⟩) hg).trans c0)
  have p1 := fun z : Ext u1 => (z.cell _ _ (Nat.lt_of_lt_of_le hg G1.size)).trans ((G1.cell (p := ⟨g, i * 3 + 1, none⟩) hg).trans c1)
  have hne : Nonempty (Ext u1) := ⟨⟨_, Below.refl _ _⟩⟩
  clear c0 c1
  refine wp_region_ext (by kernel_rfl) (by kernel_rfl) ?_
  repeat (go_big_quiet_step (fail))
  refine wpQuiet_nil ?_
  intro _ hw'
  obtain ⟨nxw, hw''⟩ := hw'
  subst hw''
  have G2 := gtrans G1 nxw.h
  have cN2 := cN _ G2
  have T2 := T.keep G2
  clear p0 p1 hne cN T
  generalize nxw.X = u2 at *
  generalize s.extract a e = x at *
  cases h1 : nameB x
  · rw [h1] at cN2 HT
    go_wp2_with (go_at_call 73; (with_reducible refine cN2.mono ?_); rintro e u3 ⟨rfl, rfl⟩)
    go_ret
    exact ⟨by rw [HT.out]; rfl, G2⟩
  rw [h1, if_neg (by decide)] at HT
  rw [h1] at cN2
  obtain ⟨q1, q2, q4⟩ := T2
  go_wp2_with (go_at_call 73; (with_reducible refine cN2.mono ?_); rintro e u3 ⟨rfl, rfl⟩)
  clear cN2
  go_loop [10] (fun v => ∃ k : Nat, k ≤ m ∧ v = .int .i64 k ∧ (∀ j, j < k → hitB x (L.getD j noTy) = false)) (fun v => m - (intOf v).toNat)
  case atStart => exact ⟨0, Nat.zero_le _, rfl, fun j hj => absurd hj (Nat.not_lt_zero _)⟩
  case round =>
    obtain ⟨k, hk, rfl, hno⟩ := hrel
    by_cases hkl : k < m
    · rcases q4 with q4 | ⟨b, off, eb, hb, hcb⟩
      · omega
      subst eb
      have f := (hcb k hkl).1
      obtain ⟨y, hy⟩ : ∃ y, y = (L.getD k noTy).1 := ⟨_, rfl⟩
      rw [← hy] at f
      have HH : Hid (hitB x (L.getD k noTy) = (y.toList == x.toList)) := by show _ = _; unfold hitB; rw [hy]
      clear hcb hy
      cases hc : (y.toList == x.toList)
      · go_wp2
        go_round
        case rel => exact ⟨k + 1, by omega, by go_num, more (p := fun j => hitB x (L.getD j noTy)) hno (HH.out.trans hc)⟩
        case measure => simp [intOf]; omega
      · have e1 : typeI L x = k := typeI_hit _ _ k (by omega) (HH.out.trans hc) hno
        have HT2 : Hid (z = 25) := by show z = 25; rw [HT.out, e1, if_pos (by omega)]
        clear e1 HT
        go_wp2
        go_ret
        exact ⟨by rw [HT2.out]; rfl, G2⟩
    · obtain rfl : k = m := by omega
      have e1 : typeI L x = -1 := typeI_none _ _ (fun j hj => hno j (by omega))
      have HT2 : Hid (z = 0) := by show z = 0; rw [HT.out, e1, if_neg (by omega)]
      clear e1 HT
      go_wp2
      go_ret
      exact ⟨by rw [HT2.out]; rfl, G2⟩

end Go.Proofs.YtkpnnofonocilaaDoor
