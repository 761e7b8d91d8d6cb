/- What the document's ParseEvent comes to: the same as event's. -/
import Derived.Test.YtkpnnofonocilaaDoorWh2
namespace Go.Proofs.YtkpnnofonocilaaDoor
open Go.RowKit Go.BigFrame
set_option linter.unusedVariables false
set_option linter.unusedSimpArgs false

def evOf (t i y : Int) (l : List Int) : Ev := ⟨t, i, y, l.getD 0 0, l.getD 1 0, l.getD 2 0, l.getD 3 0, l.getD 4 0, l.getD 5 0, l.getD 6 0, l.getD 7 0⟩
theorem Evt.setL {w : World} {b : Nat} {t i y : Int} {l : List Int} (h : Evt w b (evOf t i y l)) (hl : l.length = 8) (k : Nat) (hk : k < 8) (v : Int) : Evt (w.setCell ⟨b, 3 + k, none⟩ (.int .i64 v)) b (evOf t i y (l.set k v)) := by
  obtain ⟨a0, a1, a2, a3, a4, a5, a6, a7, rfl⟩ := eight hl
  rcases (show k = 0 ∨ k = 1 ∨ k = 2 ∨ k = 3 ∨ k = 4 ∨ k = 5 ∨ k = 6 ∨ k = 7 from by omega) with rfl | rfl | rfl | rfl | rfl | rfl | rfl | rfl
  · exact h.set3 v
  · exact h.set4 v
  · exact h.set5 v
  · exact h.set6 v
  · exact h.set7 v
  · exact h.set8 v
  · exact h.set9 v
  · exact h.set10 v
theorem far_setE (g c : Nat) (hc : g ≠ c) (o : Nat) (u : World) (x0 x1 x2 x3 x4 x5 x6 x7 x8 x9 x10 : Value) : (((((((((((u.setCell ⟨c, 0, none⟩ x0).setCell ⟨c, 1, none⟩ x1).setCell ⟨c, 2, none⟩ x2).setCell ⟨c, 3, none⟩ x3).setCell ⟨c, 4, none⟩ x4).setCell ⟨c, 5, none⟩ x5).setCell ⟨c, 6, none⟩ x6).setCell ⟨c, 7, none⟩ x7).setCell ⟨c, 8, none⟩ x8).setCell ⟨c, 9, none⟩ x9).setCell ⟨c, 10, none⟩ x10).drew.cell? ⟨g, o, none⟩ = u.cell? ⟨g, o, none⟩ := by
  have one : ∀ (v : World) (p : Nat) (x : Value) (y : Option Value), v.cell? ⟨g, o, none⟩ = y → (v.setCell ⟨c, p, none⟩ x).cell? ⟨g, o, none⟩ = y := fun v p x y h => (cell_other v c p g o x hc).trans h
  have dr : ∀ (v : World) (y : Option Value), v.cell? ⟨g, o, none⟩ = y → v.drew.cell? ⟨g, o, none⟩ = y := fun v y h => h
  exact dr _ _ (one _ _ _ _ (one _ _ _ _ (one _ _ _ _ (one _ _ _ _ (one _ _ _ _ (one _ _ _ _ (one _ _ _ _ (one _ _ _ _ (one _ _ _ _ (one _ _ _ _ (one _ _ _ _ rfl)))))))))))
theorem wrap3 (i : Nat) (h : i ≤ 100) : IntKind.i64.wrap ((3 : Int) + (i : Int)) = (3 : Int) + (i : Int) := by
  unfold IntKind.wrap
  simp [IntKind.bits, IntKind.signed]
  omega
theorem nth_succ (s : ByteArray) (i : Nat) : nth s (i + 1) = wE s (nth s i) := itE_succ s i 0
/-- What is read, by the words' numbers. -/
theorem rdE_hd (s : ByteArray) (L : List Ty) : rdE s L = if (hdR s L).2.1 ≠ 0 then ((0, 0, 0, []), (hdR s L).2.1, nth s (hdR s L).2.2) else
    (((hdR s L).1.1, (hdR s L).1.2.1, (hdR s L).1.2.2.toNat, (rdV s (L.getD (hdR s L).1.2.2.toNat noTy).2.length (nth s 3)).1), (rdV s (L.getD (hdR s L).1.2.2.toNat noTy).2.length (nth s 3)).2) := by
  have e0 : nth s 0 = 0 := rfl
  have e1 : nth s 1 = wE s 0 := rfl
  have e2 : nth s 2 = wE s (wE s 0) := rfl
  have e3 : nth s 3 = wE s (wE s (wE s 0)) := rfl
  unfold rdE hdR
  rw [e0, e1, e2, e3]
  cases numO (wd s 0) with
  | none => rfl
  | some ts =>
    simp only
    cases safeB ts with
    | false => rfl
    | true =>
      simp only [Bool.true_eq_false, if_false]
      cases idO (wd s (wE s 0)) with
      | none => rfl
      | some id =>
        simp only
        by_cases h1 : wA s (wE s (wE s 0)) < s.size
        · simp only [if_neg (Decidable.not_not.2 h1)]
          by_cases h2 : typeI L (wd s (wE s (wE s 0))) < 0
          · simp only [if_pos h2]
            rfl
          · simp only [if_neg h2]
            rfl
        · simp only [if_pos h1]
          rfl
/-- A type that is found is there. -/
theorem hdR_ty {s : ByteArray} {L : List Ty} (h : (hdR s L).2.1 = 0) : 0 ≤ (hdR s L).1.2.2 ∧ (hdR s L).1.2.2.toNat < L.length := by
  unfold hdR at h ⊢
  cases h1 : numO (wd s (nth s 0)) with
  | none => rw [h1] at h; cases h
  | some ts =>
    rw [h1] at h
    simp only at h ⊢
    split at h
    · cases h
    · rename_i h2
      rw [if_neg h2]
      cases h3 : idO (wd s (nth s 1)) with
      | none => rw [h3] at h; cases h
      | some id =>
        rw [h3] at h
        simp only at h ⊢
        split at h
        · cases h
        · rename_i h4
          rw [if_neg h4]
          split at h
          · cases h
          · rename_i h5
            rw [if_neg h5]
            refine ⟨by show 0 ≤ typeI L (wd s (nth s 2)); omega, ?_⟩
            show (typeI L (wd s (nth s 2))).toNat < L.length
            unfold typeI at h5 ⊢
            split
            · rename_i h6; rw [Int.toNat_natCast]; exact h6
            · rename_i h6; rw [if_neg h6] at h5; omega

theorem hdR_k (s : ByteArray) (L : List Ty) : (hdR s L).2.2 ≤ 2 := by
  unfold hdR
  cases numO (wd s (nth s 0)) with
  | none => exact Nat.zero_le _
  | some ts =>
    simp only
    split
    · exact Nat.zero_le _
    · cases idO (wd s (nth s 1)) with
      | none => exact Nat.le_succ _
      | some id =>
        simp only
        split
        · exact Nat.le_refl _
        · split
          · exact Nat.le_refl _
          · exact Nat.zero_le _

set_option maxRecDepth 100000 in
set_option maxHeartbeats 16000000 in
theorem refParseEvent_any (ao : Option Addr) (n c : Nat) (L : List Ty) (s : ByteArray) (hs : s.size ≤ 2000000) (w : World) (T : IsTypes w ao n L) (K : KwAt w) :
    Calls Tryd.prog 18 #[.agg #[.slice ao n c], .string s] w fun r w' => r = .returned (.tuple #[.agg (evC (pE L s).1), .int .i64 (pE L s).2.1, .int .i64 (pE L s).2.2]) ∧ Below w.heap.size w w' := by
  obtain ⟨z, hz⟩ : ∃ z, pE L s = z := ⟨_, rfl⟩
  rw [hz]
  have hz' := hz.symm
  unfold pE at hz'
  rw [rdE_hd s L] at hz'
  clear hz
  have cC := fun (u : World) (g : Below w.heap.size w u) => refCheckSchema_any ao n c L u (T.keep g) (K.keep g)
  have B0 : Below w.heap.size w ((w.alloc (.cells #[.slice ao n c] 24)).alloc (.cells #[.int .i64 0, .int .u64 0, .int .i64 0, .int .i64 0, .int .i64 0, .int .i64 0, .int .i64 0, .int .i64 0, .int .i64 0, .int .i64 0, .int .i64 0] 44)) := galloc (galloc (Below.refl _ _) _) _
  have O0 : One ((w.alloc (.cells #[.slice ao n c] 24)).alloc (.cells #[.int .i64 0, .int .u64 0, .int .i64 0, .int .i64 0, .int .i64 0, .int .i64 0, .int .i64 0, .int .i64 0, .int .i64 0, .int .i64 0, .int .i64 0] 44)) w.heap.size (.slice ao n c) 24 := (One.new w _ _).alloc _
  have Z0 : Evt ((w.alloc (.cells #[.slice ao n c] 24)).alloc (.cells #[.int .i64 0, .int .u64 0, .int .i64 0, .int .i64 0, .int .i64 0, .int .i64 0, .int .i64 0, .int .i64 0, .int .i64 0, .int .i64 0, .int .i64 0] 44)) (w.heap.size + 1) zeroE := by
    have := Evt.new (w.alloc (.cells #[.slice ao n c] 24)) zeroE
    rw [show (w.alloc (.cells #[.slice ao n c] 24)).heap.size = w.heap.size + 1 by simp] at this
    exact this
  by_cases h1 : schE L = 0
  · rw [if_neg (by rw [h1]; decide)] at hz'
    have hL8 := sch_len L h1
    rw [h1] at cC
    have cWs := fun (u : World) => refWords_any s hs u
    have cH := fun (u : World) (bo : Option Addr) (m cb : Nat) (g : Below w.heap.size w u) (B : Nat) (hw : IsWs u s B bo m) => refHead_any s hs ao n c L bo m cb u (T.keep g) hw
    have hty := hdR_ty (s := s) (L := L)
    have hqk := hdR_k s L
    generalize hdR s L = q at *
    obtain ⟨⟨ts, id, ty⟩, qc, qk⟩ := q
    dsimp only at hz' cH hty hqk
    by_cases h2 : qc = 0
    · subst h2
      simp only [ne_eq, not_true_eq_false, if_false] at hz'
      obtain ⟨hty0, htyl⟩ := hty rfl
      obtain ⟨k, rfl⟩ : ∃ k : Nat, ty = (k : Int) := ⟨ty.toNat, by omega⟩
      rw [Int.toNat_natCast] at hz' htyl
      have hm8 := hL8 k htyl
      obtain ⟨T1, T2, T4⟩ := T
      rcases T4 with T4 | ⟨b2, off, eb, hb2, hcb⟩
      · omega
      subst eb
      obtain ⟨_, aj, cj, c2, _⟩ := hcb k (by omega)
      have q2 : (k : Int) < (n : Int) := by omega
      have q3 : (0 : Int) ≤ (k : Int) := by omega
      generalize (L.getD k noTy).2.length = m8 at *
      obtain ⟨y, hy⟩ : ∃ y, y = rdV s m8 (nth s 3) := ⟨_, rfl⟩
      rw [← hy] at hz'
      have HZ : Hid (z = if y.2.1 ≠ 0 then (zeroE, y.2.1, (wA s y.2.2 : Int)) else (mkEv (ts, id, k, y.1), 0, 0)) := hz'
      have HY : Hid (y = ([] ++ (rdV s (m8 - 0) (nth s (3 + 0))).1, (rdV s (m8 - 0) (nth s (3 + 0))).2)) := hy
      clear hz' hy
      go_enter Tryd.func18, Tryd.ntmps18
      go_wp2_with (first
        | (go_at_call 32; with_reducible refine (cC _ B0).mono ?_; rintro e1 u1 ⟨rfl, g1⟩; have G1 := gtrans B0 g1)
        | (go_at_call 33; with_reducible refine (cWs _).mono ?_; rintro e1 u2 ⟨v2, rfl, O2, hl2, g2⟩; obtain ⟨bo, mw, cb, rfl, W2⟩ := ws_of_own hs hl2 O2; have hz1 := (Z0.keep g1).lt; have G2 := gtrans G1 g2; have s2 := ((O0.keep g1).keep g2).at0; have cH2 := cH u2 bo mw cb G2 _ W2)
        | (go_at_call 34; with_reducible refine cH2.mono ?_; rintro e1 u3 ⟨rfl, g3⟩; simp only [evC]; have G3 := gtrans G2 g3; have s3 : ∀ o, (u3.alloc o).cell? ⟨w.heap.size, 0, none⟩ = some (.slice (some ⟨b2, off, none⟩) n c) := (fun o => ((((O0.keep g1).keep g2).keep g3).alloc o).at0); have c3 : ∀ o, (u3.alloc o).cell? ⟨b2, off + k * 2 + 1, none⟩ = some (.slice aj m8 cj) := (fun o => ((galloc G3 o).cell (p := ⟨b2, off + k * 2 + 1, none⟩) hb2).trans c2)))
      have E0 : Evt (u3.alloc (.cells #[.int .i64 ts, .int .u64 id, .int .i64 k, .int .i64 0, .int .i64 0, .int .i64 0, .int .i64 0, .int .i64 0, .int .i64 0, .int .i64 0, .int .i64 0] 44)) u3.heap.size (evOf ts id k (pad [])) := Evt.new u3 ⟨ts, id, k, 0, 0, 0, 0, 0, 0, 0, 0⟩
      have B3 := galloc (Below.refl u3.heap.size u3) (.cells #[.int .i64 ts, .int .u64 id, .int .i64 k, .int .i64 0, .int .i64 0, .int .i64 0, .int .i64 0, .int .i64 0, .int .i64 0, .int .i64 0, .int .i64 0] 44)
      have W3 := W2.keep g3
      have Z3 := ((Z0.keep g1).keep g2).keep g3
      have hwn := W2.small
      have z3 := Z3.lt
      generalize u3.alloc (.cells #[.int .i64 ts, .int .u64 id, .int .i64 k, .int .i64 0, .int .i64 0, .int .i64 0, .int .i64 0, .int .i64 0, .int .i64 0, .int .i64 0, .int .i64 0] 44) = X0 at *
      clear cC cWs cH hty B0 O0 Z0 g1 g2 g3 G1 G2 cH2 s2 s3 c3 O2 hl2 W2
      go_loopw [13] (fun vi wr => ∃ (i : Nat) (vs : List Int), vi = .int .i64 i ∧ i ≤ m8 ∧ vs.length = i ∧ Evt wr u3.heap.size (evOf ts id k (pad vs)) ∧ y = (vs ++ (rdV s (m8 - i) (nth s (3 + i))).1, (rdV s (m8 - i) (nth s (3 + i))).2) ∧ Below u3.heap.size u3 wr) (fun vi _ => m8 - (intOf vi).toNat)
      case atStart => exact ⟨0, [], rfl, Nat.zero_le _, rfl, E0, HY.out, B3⟩
      case round =>
        obtain ⟨i, vs, rfl, hi, hvs, Er, hyr, G⟩ := hrel
        clear HY E0 B3
        have Wr := W3.keep G
        have Zr := Z3.keep G
        have GW := gtrans G3 G
        have hiff := Wr.iff (3 + i)
        have hnl := nth_le s (3 + i)
        have hAl := wA_le s _ hnl
        by_cases hlt : i < m8
        · obtain ⟨d, hd⟩ : ∃ d, m8 - i = d + 1 := ⟨m8 - i - 1, by omega⟩
          rw [hd] at hyr
          by_cases hw : wA s (nth s (3 + i)) < s.size
          · have q4 : (3 : Int) + (i : Int) < (mw : Int) := by have := hiff.2 hw; omega
            rw [rdV, if_pos hw] at hyr
            have cW : Calls Tryd.prog 36 #[.string s, .slice bo mw cb, .int .i64 ((3 : Int) + (i : Int))] wr fun e w' => e = .returned (.string (wd s (nth s (3 + i)))) ∧ Below wr.heap.size wr w' := by
              have := refWordOf_any s hs bo mw cb (3 + i) (by omega) wr Wr
              rw [show ((3 + i : Nat) : Int) = (3 : Int) + (i : Int) by omega] at this
              exact this
            have cM := fun (u : World) => refNumber_any (wd s (nth s (3 + i))) (by have := wd_size s (nth s (3 + i)); omega) u
            generalize wd s (nth s (3 + i)) = x at *
            cases hv : numO x with
            | none =>
              rw [hv] at hyr cM
              have HZ2 : Hid (z = (zeroE, 26, (wA s (nth s (3 + i)) : Int))) := by show _ = _; rw [HZ.out, hyr]; rfl
              clear hyr HZ
              go_upto_region 16 with (first
                | (go_at_call 36; with_reducible refine cW.mono ?_; rintro e1 u5 ⟨rfl, g5⟩)
                | (go_at_call 35; with_reducible refine (cM _).mono ?_; rintro e1 u6 ⟨rfl, g6⟩))
              obtain ⟨g, rfl, hgB, hgl, d0, _⟩ := ((Wr.keep g5).keep g6).mem (3 + i) (hiff.2 hw)
              have gne : g ≠ w.heap.size + 1 := by omega
              have q5 : (0 : Int) ≤ (3 : Int) + (i : Int) := by omega
              have q6 : ((3 : Int) + (i : Int)).toNat = 3 + i := by omega
              have q7 : IntKind.i64.wrap ((3 : Int) + (i : Int)) = (3 : Int) + (i : Int) := wrap3 i (by omega)
              have Az := (Zr.keep g5).keep g6
              obtain ⟨k0, k1, k2, k3, k4, k5, k6, k7, k8, k9, k10⟩ := (show Evt _ (w.heap.size + 1) ⟨0, 0, 0, 0, 0, 0, 0, 0, 0, 0, 0⟩ from Az).all
              have f0 := Az.free 0
              have f1 := Az.free 1
              have f2 := Az.free 2
              have f3 := Az.free 3
              have f4 := Az.free 4
              have f5 := Az.free 5
              have f6 := Az.free 6
              have f7 := Az.free 7
              have f8 := Az.free 8
              have f9 := Az.free 9
              have f10 := Az.free 10
              have hS0 : u6.drew.cell? ⟨g, (3 + i) * 3, none⟩ = some (.int .i64 (wA s (nth s (3 + i)) : Nat)) := d0
              have hS1 : (((((((((((u6.setCell ⟨w.heap.size + 1, 0, none⟩ (.int .i64 0)).setCell ⟨w.heap.size + 1, 1, none⟩ (.int .u64 0)).setCell ⟨w.heap.size + 1, 2, none⟩ (.int .i64 0)).setCell ⟨w.heap.size + 1, 3, none⟩ (.int .i64 0)).setCell ⟨w.heap.size + 1, 4, none⟩ (.int .i64 0)).setCell ⟨w.heap.size + 1, 5, none⟩ (.int .i64 0)).setCell ⟨w.heap.size + 1, 6, none⟩ (.int .i64 0)).setCell ⟨w.heap.size + 1, 7, none⟩ (.int .i64 0)).setCell ⟨w.heap.size + 1, 8, none⟩ (.int .i64 0)).setCell ⟨w.heap.size + 1, 9, none⟩ (.int .i64 0)).setCell ⟨w.heap.size + 1, 10, none⟩ (.int .i64 0)).drew.cell? ⟨g, (3 + i) * 3, none⟩ = some (.int .i64 (wA s (nth s (3 + i)) : Nat)) := (far_setE g (w.heap.size + 1) gne _ u6 _ _ _ _ _ _ _ _ _ _ _).trans d0
              go_region_held3 (fun X => X.cell? ⟨g, (3 + i) * 3, none⟩ = some (.int .i64 (wA s (nth s (3 + i)) : Nat))) (first | (with_reducible exact hS0) | (with_reducible exact hS1) | go_keep) (fail)
              have Zf : Evt (((((((((((u6.setCell ⟨w.heap.size + 1, 0, none⟩ (.int .i64 0)).setCell ⟨w.heap.size + 1, 1, none⟩ (.int .u64 0)).setCell ⟨w.heap.size + 1, 2, none⟩ (.int .i64 0)).setCell ⟨w.heap.size + 1, 3, none⟩ (.int .i64 0)).setCell ⟨w.heap.size + 1, 4, none⟩ (.int .i64 0)).setCell ⟨w.heap.size + 1, 5, none⟩ (.int .i64 0)).setCell ⟨w.heap.size + 1, 6, none⟩ (.int .i64 0)).setCell ⟨w.heap.size + 1, 7, none⟩ (.int .i64 0)).setCell ⟨w.heap.size + 1, 8, none⟩ (.int .i64 0)).setCell ⟨w.heap.size + 1, 9, none⟩ (.int .i64 0)).setCell ⟨w.heap.size + 1, 10, none⟩ (.int .i64 0)).drew (w.heap.size + 1) ⟨0, 0, 0, 0, 0, 0, 0, 0, 0, 0, 0⟩ := (Az.setE 0 0 0 0 0 0 0 0 0 0 0).drew
              have Bf : Below w.heap.size w (((((((((((u6.setCell ⟨w.heap.size + 1, 0, none⟩ (.int .i64 0)).setCell ⟨w.heap.size + 1, 1, none⟩ (.int .u64 0)).setCell ⟨w.heap.size + 1, 2, none⟩ (.int .i64 0)).setCell ⟨w.heap.size + 1, 3, none⟩ (.int .i64 0)).setCell ⟨w.heap.size + 1, 4, none⟩ (.int .i64 0)).setCell ⟨w.heap.size + 1, 5, none⟩ (.int .i64 0)).setCell ⟨w.heap.size + 1, 6, none⟩ (.int .i64 0)).setCell ⟨w.heap.size + 1, 7, none⟩ (.int .i64 0)).setCell ⟨w.heap.size + 1, 8, none⟩ (.int .i64 0)).setCell ⟨w.heap.size + 1, 9, none⟩ (.int .i64 0)).setCell ⟨w.heap.size + 1, 10, none⟩ (.int .i64 0)).drew := (below_setE (c := w.heap.size + 1) (by omega) (gtrans (gtrans GW g5) g6) _ _ _ _ _ _ _ _ _ _ _).drew
              clear hS0 hS1 k0 k1 k2 k3 k4 k5 k6 k7 k8 k9 k10 f0 f1 f2 f3 f4 f5 f6 f7 f8 f9 f10 Az d0
              generalize (((((((((((u6.setCell ⟨w.heap.size + 1, 0, none⟩ (.int .i64 0)).setCell ⟨w.heap.size + 1, 1, none⟩ (.int .u64 0)).setCell ⟨w.heap.size + 1, 2, none⟩ (.int .i64 0)).setCell ⟨w.heap.size + 1, 3, none⟩ (.int .i64 0)).setCell ⟨w.heap.size + 1, 4, none⟩ (.int .i64 0)).setCell ⟨w.heap.size + 1, 5, none⟩ (.int .i64 0)).setCell ⟨w.heap.size + 1, 6, none⟩ (.int .i64 0)).setCell ⟨w.heap.size + 1, 7, none⟩ (.int .i64 0)).setCell ⟨w.heap.size + 1, 8, none⟩ (.int .i64 0)).setCell ⟨w.heap.size + 1, 9, none⟩ (.int .i64 0)).setCell ⟨w.heap.size + 1, 10, none⟩ (.int .i64 0)).drew = X at *
              go_wp2
              refine bodyPost_ret (results_row_tmp2 rfl _ _ (w.heap.size + 1) 44 _ (0, 0) _ rfl Zf Tryd.underlying44 rfl infoEv) rfl ⟨by rw [HZ2.out]; rfl, Bf⟩
            | some v =>
              rw [hv] at hyr cM
              simp only [Option.getD_some, Option.isSome_some] at cM
              have HY2 : Hid (y = ((vs ++ [v]) ++ (rdV s (m8 - (i + 1)) (nth s (3 + (i + 1)))).1, (rdV s (m8 - (i + 1)) (nth s (3 + (i + 1)))).2)) := by
                show _ = _
                rw [hyr, show m8 - (i + 1) = d by omega, show 3 + (i + 1) = (3 + i) + 1 by omega, nth_succ, List.append_assoc]
                rfl
              clear hyr
              go_upto_region 17 with (first
                | (go_at_call 36; with_reducible refine cW.mono ?_; rintro e1 u5 ⟨rfl, g5⟩)
                | (go_at_call 35; with_reducible refine (cM _).mono ?_; rintro e1 u6 ⟨rfl, g6⟩))
              have E6 := (Er.keep g5).keep g6
              have sc := E6.ats i (by omega)
              have sf := E6.free (3 + i)
              have q5 : (i : Int) < 8 := by omega
              have E7 := E6.setL (pad_len (by omega)) i (by omega) v
              rw [show (pad vs).set i v = pad (vs ++ [v]) from by rw [← hvs]; exact pad_snoc vs v (by omega)] at E7
              have G7 : Below u3.heap.size u3 (u6.setCell ⟨u3.heap.size, 3 + i, none⟩ (.int .i64 v)) := (gtrans (gtrans G g5) g6).setCell (Nat.le_refl _) _
              go_wp2
              go_roundw
              case rel => exact ⟨i + 1, vs ++ [v], by go_num, by omega, by rw [List.length_append, hvs]; rfl, E7, HY2.out, G7⟩
              case measure => simp [intOf]; omega
          · have q4 : ¬ (3 : Int) + (i : Int) < (mw : Int) := by have : ¬ (3 + i < mw) := fun h5 => hw (hiff.1 h5); omega
            rw [rdV, if_neg hw] at hyr
            have HZ2 : Hid (z = (zeroE, 28, (s.size : Int))) := by
              show _ = _
              rw [HZ.out, hyr, if_pos (by show (28 : Int) ≠ 0; decide)]
              show (zeroE, 28, (wA s (nth s (3 + i)) : Int)) = _
              rw [show wA s (nth s (3 + i)) = s.size by omega]
            clear hyr HZ
            have Az := Zr
            obtain ⟨k0, k1, k2, k3, k4, k5, k6, k7, k8, k9, k10⟩ := (show Evt _ (w.heap.size + 1) ⟨0, 0, 0, 0, 0, 0, 0, 0, 0, 0, 0⟩ from Az).all
            have f0 := Az.free 0
            have f1 := Az.free 1
            have f2 := Az.free 2
            have f3 := Az.free 3
            have f4 := Az.free 4
            have f5 := Az.free 5
            have f6 := Az.free 6
            have f7 := Az.free 7
            have f8 := Az.free 8
            have f9 := Az.free 9
            have f10 := Az.free 10
            go_wp2
            refine bodyPost_ret (results_row_tmp2 rfl _ _ (w.heap.size + 1) 44 _ (0, 0) _ rfl (Az.setE 0 0 0 0 0 0 0 0 0 0 0) Tryd.underlying44 rfl infoEv) rfl ⟨by rw [HZ2.out]; rfl, below_setE (by omega) (GW) _ _ _ _ _ _ _ _ _ _ _⟩
        · obtain rfl : i = m8 := by omega
          rw [Nat.sub_self, rdV, List.append_nil] at hyr
          by_cases hw : wA s (nth s (3 + i)) < s.size
          · have q4 : (3 : Int) + (i : Int) < (mw : Int) := by have := hiff.2 hw; omega
            rw [if_pos hw] at hyr
            have HZ2 : Hid (z = (zeroE, 28, (wA s (nth s (3 + i)) : Int))) := by show _ = _; rw [HZ.out, hyr]; rfl
            clear hyr HZ
            go_upto_region 19 with fail
            obtain ⟨g, rfl, hgB, hgl, d0, _⟩ := (Wr).mem (3 + i) (hiff.2 hw)
            have gne : g ≠ w.heap.size + 1 := by omega
            have q5 : (0 : Int) ≤ (3 : Int) + (i : Int) := by omega
            have q6 : ((3 : Int) + (i : Int)).toNat = 3 + i := by omega
            have q7 : IntKind.i64.wrap ((3 : Int) + (i : Int)) = (3 : Int) + (i : Int) := wrap3 i (by omega)
            have Az := Zr
            obtain ⟨k0, k1, k2, k3, k4, k5, k6, k7, k8, k9, k10⟩ := (show Evt _ (w.heap.size + 1) ⟨0, 0, 0, 0, 0, 0, 0, 0, 0, 0, 0⟩ from Az).all
            have f0 := Az.free 0
            have f1 := Az.free 1
            have f2 := Az.free 2
            have f3 := Az.free 3
            have f4 := Az.free 4
            have f5 := Az.free 5
            have f6 := Az.free 6
            have f7 := Az.free 7
            have f8 := Az.free 8
            have f9 := Az.free 9
            have f10 := Az.free 10
            have hS0 : wr.drew.cell? ⟨g, (3 + i) * 3, none⟩ = some (.int .i64 (wA s (nth s (3 + i)) : Nat)) := d0
            have hS1 : (((((((((((wr.setCell ⟨w.heap.size + 1, 0, none⟩ (.int .i64 0)).setCell ⟨w.heap.size + 1, 1, none⟩ (.int .u64 0)).setCell ⟨w.heap.size + 1, 2, none⟩ (.int .i64 0)).setCell ⟨w.heap.size + 1, 3, none⟩ (.int .i64 0)).setCell ⟨w.heap.size + 1, 4, none⟩ (.int .i64 0)).setCell ⟨w.heap.size + 1, 5, none⟩ (.int .i64 0)).setCell ⟨w.heap.size + 1, 6, none⟩ (.int .i64 0)).setCell ⟨w.heap.size + 1, 7, none⟩ (.int .i64 0)).setCell ⟨w.heap.size + 1, 8, none⟩ (.int .i64 0)).setCell ⟨w.heap.size + 1, 9, none⟩ (.int .i64 0)).setCell ⟨w.heap.size + 1, 10, none⟩ (.int .i64 0)).drew.cell? ⟨g, (3 + i) * 3, none⟩ = some (.int .i64 (wA s (nth s (3 + i)) : Nat)) := (far_setE g (w.heap.size + 1) gne _ wr _ _ _ _ _ _ _ _ _ _ _).trans d0
            go_region_held3 (fun X => X.cell? ⟨g, (3 + i) * 3, none⟩ = some (.int .i64 (wA s (nth s (3 + i)) : Nat))) (first | (with_reducible exact hS0) | (with_reducible exact hS1) | go_keep) (fail)
            have Zf : Evt (((((((((((wr.setCell ⟨w.heap.size + 1, 0, none⟩ (.int .i64 0)).setCell ⟨w.heap.size + 1, 1, none⟩ (.int .u64 0)).setCell ⟨w.heap.size + 1, 2, none⟩ (.int .i64 0)).setCell ⟨w.heap.size + 1, 3, none⟩ (.int .i64 0)).setCell ⟨w.heap.size + 1, 4, none⟩ (.int .i64 0)).setCell ⟨w.heap.size + 1, 5, none⟩ (.int .i64 0)).setCell ⟨w.heap.size + 1, 6, none⟩ (.int .i64 0)).setCell ⟨w.heap.size + 1, 7, none⟩ (.int .i64 0)).setCell ⟨w.heap.size + 1, 8, none⟩ (.int .i64 0)).setCell ⟨w.heap.size + 1, 9, none⟩ (.int .i64 0)).setCell ⟨w.heap.size + 1, 10, none⟩ (.int .i64 0)).drew (w.heap.size + 1) ⟨0, 0, 0, 0, 0, 0, 0, 0, 0, 0, 0⟩ := (Az.setE 0 0 0 0 0 0 0 0 0 0 0).drew
            have Bf : Below w.heap.size w (((((((((((wr.setCell ⟨w.heap.size + 1, 0, none⟩ (.int .i64 0)).setCell ⟨w.heap.size + 1, 1, none⟩ (.int .u64 0)).setCell ⟨w.heap.size + 1, 2, none⟩ (.int .i64 0)).setCell ⟨w.heap.size + 1, 3, none⟩ (.int .i64 0)).setCell ⟨w.heap.size + 1, 4, none⟩ (.int .i64 0)).setCell ⟨w.heap.size + 1, 5, none⟩ (.int .i64 0)).setCell ⟨w.heap.size + 1, 6, none⟩ (.int .i64 0)).setCell ⟨w.heap.size + 1, 7, none⟩ (.int .i64 0)).setCell ⟨w.heap.size + 1, 8, none⟩ (.int .i64 0)).setCell ⟨w.heap.size + 1, 9, none⟩ (.int .i64 0)).setCell ⟨w.heap.size + 1, 10, none⟩ (.int .i64 0)).drew := (below_setE (c := w.heap.size + 1) (by omega) (GW) _ _ _ _ _ _ _ _ _ _ _).drew
            clear hS0 hS1 k0 k1 k2 k3 k4 k5 k6 k7 k8 k9 k10 f0 f1 f2 f3 f4 f5 f6 f7 f8 f9 f10 Az d0
            generalize (((((((((((wr.setCell ⟨w.heap.size + 1, 0, none⟩ (.int .i64 0)).setCell ⟨w.heap.size + 1, 1, none⟩ (.int .u64 0)).setCell ⟨w.heap.size + 1, 2, none⟩ (.int .i64 0)).setCell ⟨w.heap.size + 1, 3, none⟩ (.int .i64 0)).setCell ⟨w.heap.size + 1, 4, none⟩ (.int .i64 0)).setCell ⟨w.heap.size + 1, 5, none⟩ (.int .i64 0)).setCell ⟨w.heap.size + 1, 6, none⟩ (.int .i64 0)).setCell ⟨w.heap.size + 1, 7, none⟩ (.int .i64 0)).setCell ⟨w.heap.size + 1, 8, none⟩ (.int .i64 0)).setCell ⟨w.heap.size + 1, 9, none⟩ (.int .i64 0)).setCell ⟨w.heap.size + 1, 10, none⟩ (.int .i64 0)).drew = X at *
            go_wp2
            refine bodyPost_ret (results_row_tmp2 rfl _ _ (w.heap.size + 1) 44 _ (0, 0) _ rfl Zf Tryd.underlying44 rfl infoEv) rfl ⟨by rw [HZ2.out]; rfl, Bf⟩
          · have q4 : ¬ (3 : Int) + (i : Int) < (mw : Int) := by have : ¬ (3 + i < mw) := fun h5 => hw (hiff.1 h5); omega
            rw [if_neg hw] at hyr
            have HZ2 : Hid (z = (mkEv (ts, id, k, vs), 0, 0)) := by show _ = _; rw [HZ.out, hyr]; rfl
            clear hyr HZ
            obtain ⟨a0, a1, a2, a3, a4, a5, a6, a7, hl8⟩ := eight (pad_len (l := vs) (by omega))
            have HE : Hid (mkEv (ts, id, k, vs) = ⟨ts, id, k, a0, a1, a2, a3, a4, a5, a6, a7⟩) := by show _ = _; unfold mkEv; dsimp only; rw [hl8]; rfl
            rw [hl8] at Er
            obtain ⟨o0, o1, o2, o3, o4, o5, o6, o7, o8, o9, o10⟩ := (show Evt wr u3.heap.size ⟨ts, id, k, a0, a1, a2, a3, a4, a5, a6, a7⟩ from Er).all
            have Az := Zr
            obtain ⟨k0, k1, k2, k3, k4, k5, k6, k7, k8, k9, k10⟩ := (show Evt _ (w.heap.size + 1) ⟨0, 0, 0, 0, 0, 0, 0, 0, 0, 0, 0⟩ from Az).all
            have f0 := Az.free 0
            have f1 := Az.free 1
            have f2 := Az.free 2
            have f3 := Az.free 3
            have f4 := Az.free 4
            have f5 := Az.free 5
            have f6 := Az.free 6
            have f7 := Az.free 7
            have f8 := Az.free 8
            have f9 := Az.free 9
            have f10 := Az.free 10
            go_wp2
            refine bodyPost_ret (results_row_tmp2 rfl _ _ (w.heap.size + 1) 44 _ (0, 0) _ rfl (Az.setE ts id k a0 a1 a2 a3 a4 a5 a6 a7) Tryd.underlying44 rfl infoEv) rfl ⟨by rw [HZ2.out, HE.out]; rfl, below_setE (by omega) GW _ _ _ _ _ _ _ _ _ _ _⟩
    · have HZ2 : Hid (z = (zeroE, qc, (wA s (nth s qk) : Int))) := by show _ = _; rw [hz', if_pos h2, if_pos h2]
      have q0 : (qc == 0) = false := by simpa using h2
      clear hz' hty
      go_enter Tryd.func18, Tryd.ntmps18
      go_wp2_with (first
        | (go_at_call 32; with_reducible refine (cC _ B0).mono ?_; rintro e1 u1 ⟨rfl, g1⟩; have G1 := gtrans B0 g1)
        | (go_at_call 33; with_reducible refine (cWs _).mono ?_; rintro e1 u2 ⟨v2, rfl, O2, hl2, g2⟩; obtain ⟨bo, mw, cb, rfl, W2⟩ := ws_of_own hs hl2 O2; have hz1 := (Z0.keep g1).lt; have G2 := gtrans G1 g2; have s2 := ((O0.keep g1).keep g2).at0; have cH2 := cH u2 bo mw cb G2 _ W2)
        | (go_at_call 34; with_reducible refine cH2.mono ?_; rintro e1 u3 ⟨rfl, g3⟩; simp only [evC]; have G3 := gtrans G2 g3; have W3 := W2.keep g3; have Z3 := ((Z0.keep g1).keep g2).keep g3))
      have B4 := galloc (Below.refl u3.heap.size u3) (.cells #[.int .i64 ts, .int .u64 id, .int .i64 ty, .int .i64 0, .int .i64 0, .int .i64 0, .int .i64 0, .int .i64 0, .int .i64 0, .int .i64 0, .int .i64 0] 44)
      refine (wsPlaceAt_any s hs bo mw cb qk (by omega) _ (W3.keep B4)).mono ?_
      rintro e5 u5 ⟨rfl, g5⟩
      have G5 := gtrans (gtrans G3 B4) g5
      have Az := (Z3.keep B4).keep g5
      obtain ⟨k0, k1, k2, k3, k4, k5, k6, k7, k8, k9, k10⟩ := (show Evt _ (w.heap.size + 1) ⟨0, 0, 0, 0, 0, 0, 0, 0, 0, 0, 0⟩ from Az).all
      have f0 := Az.free 0
      have f1 := Az.free 1
      have f2 := Az.free 2
      have f3 := Az.free 3
      have f4 := Az.free 4
      have f5 := Az.free 5
      have f6 := Az.free 6
      have f7 := Az.free 7
      have f8 := Az.free 8
      have f9 := Az.free 9
      have f10 := Az.free 10
      go_wp2
      refine bodyPost_ret (results_row_tmp2 rfl _ _ (w.heap.size + 1) 44 _ (0, 0) _ rfl (Az.setE 0 0 0 0 0 0 0 0 0 0 0) Tryd.underlying44 rfl infoEv) rfl ⟨by rw [HZ2.out]; rfl, below_setE (by omega) G5 _ _ _ _ _ _ _ _ _ _ _⟩
  · rw [if_pos h1] at hz'
    have HZ2 : Hid (z = (zeroE, schE L, 0)) := hz'
    clear hz'
    generalize schE L = q at *
    have q0 : (q == 0) = false := by simpa using h1
    go_enter Tryd.func18, Tryd.ntmps18
    go_wp2_with (go_at_call 32; with_reducible refine (cC _ B0).mono ?_; rintro e1 u1 ⟨rfl, g1⟩; have G1 := gtrans B0 g1; have Az := Z0.keep g1; obtain ⟨k0, k1, k2, k3, k4, k5, k6, k7, k8, k9, k10⟩ := (show Evt _ (w.heap.size + 1) ⟨0, 0, 0, 0, 0, 0, 0, 0, 0, 0, 0⟩ from Az).all; have f0 := Az.free 0; have f1 := Az.free 1; have f2 := Az.free 2; have f3 := Az.free 3; have f4 := Az.free 4; have f5 := Az.free 5; have f6 := Az.free 6; have f7 := Az.free 7; have f8 := Az.free 8; have f9 := Az.free 9; have f10 := Az.free 10)
    refine bodyPost_ret (results_row_tmp2 rfl _ _ (w.heap.size + 1) 44 _ (0, 0) _ rfl (Az.setE 0 0 0 0 0 0 0 0 0 0 0) Tryd.underlying44 rfl infoEv) rfl ⟨by rw [HZ2.out]; rfl, below_setE (by omega) G1 _ _ _ _ _ _ _ _ _ _ _⟩

end Go.Proofs.YtkpnnofonocilaaDoor
