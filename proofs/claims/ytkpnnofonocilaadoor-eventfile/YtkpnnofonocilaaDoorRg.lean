/- What the document's definition comes to. -/
import Derived.Test.YtkpnnofonocilaaDoorRk
import Derived.Test.YtkpnnofonocilaaDoorQt
import Derived.Test.YtkpnnofonocilaaDoorPs
import Derived.Deep.RegionLaw
import Derived.Deep.DrawnRows
import Derived.Deep.AppendLies
namespace Go.Proofs.YtkpnnofonocilaaDoor
open Go.RowKit Go.BigFrame
set_option linter.unusedVariables false
set_option linter.unusedSimpArgs false

attribute [local go_sem ↓] Go.wp_at_zero Go.wp_at_succ

theorem tail_drop' {α : Type} (l : List α) (i : Nat) : (l.drop i).tail = l.drop (i + 1) := by rw [List.tail_drop]
theorem pAt_in {s : ByteArray} {P : List Rp} {i : Nat} (h : (pAt s P i).k ≠ 2) : i < P.length := by
  unfold pAt at h
  split at h
  · assumption
  · exact absurd rfl h
theorem infoTy : (Tryd.prog.info? 35).map (·.size) = some 2 := by kernel_rfl
/-- The definition that begins with the piece i, by the pieces' numbers. -/
theorem rdD_at (s : ByteArray) (P : List Rp) (L : List Ty) (i : Nat) (h : i < P.length) : rdD L ((refL s P).drop i) =
    if (pAt s P i).isW tyW = false then ((refL s P).drop i, L, 21) else if L.length = 16 then ((refL s P).drop i, L, 23)
    else if (if (pAt s P (i + 1)).may = false then 21 else nameE L (pAt s P (i + 1)).w) ≠ 0 then ((refL s P).drop (i + 1), L, if (pAt s P (i + 1)).may = false then 21 else nameE L (pAt s P (i + 1)).w)
    else if (rdA ((refL s P).drop (i + 2))).2.2 ≠ 0 then ((rdA ((refL s P).drop (i + 2))).1, L, (rdA ((refL s P).drop (i + 2))).2.2)
    else ((rdA ((refL s P).drop (i + 2))).1, L ++ [((pAt s P (i + 1)).w, (rdA ((refL s P).drop (i + 2))).2.1)], 0) := by
  unfold rdD
  rw [tail_drop', tail_drop', hd_drop s P i (by omega), hd_drop s P (i + 1) (by omega)]
  split
  · rfl
  · split
    · rfl
    · cases hm : (pAt s P (i + 1)).may
      · simp
      · simp
theorem rdA_at (s : ByteArray) (P : List Rp) (j : Nat) (h : j ≤ P.length) : rdA ((refL s P).drop j) =
    if (pAt s P j).isM 40 = false then ((refL s P).drop j, [], 21) else if (pAt s P (j + 1)).isM 41 = true then ((refL s P).drop (j + 2), [], 0) else rdL 9 [] ((refL s P).drop (j + 1)) := by
  unfold rdA
  rw [tail_drop', tail_drop', hd_drop s P j h]
  split
  · rfl
  · rename_i h1
    have h2 : (pAt s P j).isM 40 = true := by cases e : (pAt s P j).isM 40; exact absurd e h1; rfl
    have := pAt_in (s := s) (P := P) (i := j) (by rw [isM_k h2]; decide)
    rw [hd_drop s P (j + 1) (by omega)]
theorem rdL_at (s : ByteArray) (P : List Rp) (f : Nat) (ss : List ByteArray) (k : Nat) (h : k ≤ P.length) : rdL (f + 1) ss ((refL s P).drop k) =
    if rdT ss (pAt s P k) ≠ 0 then ((refL s P).drop k, [], rdT ss (pAt s P k)) else if (pAt s P (k + 1)).isM 41 = true then ((refL s P).drop (k + 2), ss ++ [(pAt s P k).w], 0)
    else if (pAt s P (k + 1)).isM 44 = true then rdL f (ss ++ [(pAt s P k).w]) ((refL s P).drop (k + 2)) else ((refL s P).drop (k + 1), [], 21) := by
  rw [rdL]
  rw [tail_drop', tail_drop', hd_drop s P k h]
  split
  · rfl
  · rename_i h1
    have h2 := may_k (rdT_may (Decidable.byContradiction h1))
    have := pAt_in (s := s) (P := P) (i := k) (by rw [h2]; decide)
    rw [hd_drop s P (k + 1) (by omega)]

set_option maxRecDepth 100000 in
set_option maxHeartbeats 16000000 in
theorem refDefinition_any (s : ByteArray) (hs : s.size ≤ 4096) (ao : Option Addr) (n cap : Nat) (P : List Rp) (hP : ∀ q ∈ P, OkR s q) (i : Nat) (hi : i < n) (bo : Option Addr) (m cb : Nat) (L : List Ty) (hm16 : m ≤ 16) (w : World) (h : IsRps w ao n P) (T : IsTypes w bo m L) (K : KwAt w) :
    Calls Tryd.prog 27 #[.string s, .slice ao n cap, .int .i64 i, .slice bo m cb] w fun e w' => ∃ (nm : ByteArray) (av : Option Addr) (nv cv k : Nat), e = .returned (.tuple #[.agg #[.string nm, .slice av nv cv], .int .i64 k, .int .i64 (rdD L ((refL s P).drop i)).2.2]) ∧ k ≤ n ∧ (refL s P).drop k = (rdD L ((refL s P).drop i)).1 ∧ ((rdD L ((refL s P).drop i)).2.2 = 0 → ∃ ss, (rdD L ((refL s P).drop i)).2.1 = L ++ [(nm, ss)] ∧ w'.ownsRow w.heap.size 9 1 (.slice av nv cv) ss.length (strsV ss)) ∧ Below w.heap.size w w' := by
  obtain ⟨i0, si, sz0, sz1, sz2⟩ := info_partsS
  have hPn := h.1
  have hn := h.2.1
  have hz := rdD_at s P L i (by omega)
  rw [T.1] at hz
  obtain ⟨z, hz0⟩ : ∃ z, rdD L ((refL s P).drop i) = z := ⟨_, rfl⟩
  rw [hz0] at hz
  rw [hz0]
  clear hz0
  -- the two locals
  have W0 : Below w.heap.size w ((w.alloc (.cells #[.string ⟨#[]⟩, .slice none 0 0] 35)).alloc (.cells #[.string ⟨#[]⟩, .slice none 0 0] 35)) := galloc (galloc (Below.refl w.heap.size w) _) _
  have R0 : Two ((w.alloc (.cells #[.string ⟨#[]⟩, .slice none 0 0] 35)).alloc (.cells #[.string ⟨#[]⟩, .slice none 0 0] 35)) w.heap.size (.string ⟨#[]⟩) (.slice none 0 0) 35 := (Two.new w _ _ _).alloc _
  have T0 : Two ((w.alloc (.cells #[.string ⟨#[]⟩, .slice none 0 0] 35)).alloc (.cells #[.string ⟨#[]⟩, .slice none 0 0] 35)) (w.heap.size + 1) (.string ⟨#[]⟩) (.slice none 0 0) 35 := by
    have := Two.new (w.alloc (.cells #[.string ⟨#[]⟩, .slice none 0 0] 35)) (.string ⟨#[]⟩) (.slice none 0 0) 35
    rw [show (w.alloc (.cells #[.string ⟨#[]⟩, .slice none 0 0] 35)).heap.size = w.heap.size + 1 by simp] at this
    exact this
  have cI := fun (u : World) (G : Below w.heap.size w u) (j : Nat) (hj : j ≤ 20000) (x : ByteArray) => refIs_any s hs ao n cap P hP j hj x u (h.keep G)
  have cN := fun (u : World) (G : Below w.heap.size w u) (j : Nat) (hj : j ≤ 20000) => refNamed_any s hs ao n cap P hP j hj bo m cb L u (h.keep G) (T.keep G) (K.keep G)
  have cI0 : ∀ (u : World) (G : Below w.heap.size w u), Calls Tryd.prog 46 #[.string s, .slice ao n cap, .int .i64 i, .string ⟨#[116, 121, 112, 101]⟩] u fun e w' => e = .returned (.bool ((pAt s P i).isW tyW)) ∧ Below u.heap.size u w' := fun u G => by
    have := cI u G i (by omega) tyW
    rw [isP_word s P hP i] at this
    exact this
  have cN1 : ∀ (u : World) (G : Below w.heap.size w u), Calls Tryd.prog 47 #[.string s, .slice ao n cap, .int .i64 ((i : Int) + 1), .slice bo m cb] u fun e w' => e = .returned (.int .i64 (if (pAt s P (i + 1)).may = false then 21 else nameE L (pAt s P (i + 1)).w)) ∧ Below u.heap.size u w' := fun u G => by
    have := cN u G (i + 1) (by omega)
    rw [show ((i + 1 : Nat) : Int) = (i : Int) + 1 by omega] at this
    exact this
  have cIm : ∀ (u : World) (G : Below w.heap.size w u) (j : Nat) (hj : j ≤ 20000) (b : UInt8) (hb : inW (b.toNat : Int) = false), Calls Tryd.prog 46 #[.string s, .slice ao n cap, .int .i64 (j : Nat), .string ⟨#[b]⟩] u fun e w' => e = .returned (.bool ((pAt s P j).isM (b.toNat : Int))) ∧ Below u.heap.size u w' := fun u G j hj b hb => by
    have := cI u G j hj ⟨#[b]⟩
    rw [isP_mark s P hP j b hb] at this
    exact this
  clear cI cN
  cases h1 : (pAt s P i).isW tyW
  · rw [h1, if_pos rfl] at hz
    have HZ : Hid (z = ((refL s P).drop i, L, 21)) := hz
    clear hz cN1 cIm
    rw [h1] at cI0
    go_enter Tryd.func27, Tryd.ntmps27
    go_wp2_with (go_at_call 46; (with_reducible refine (cI0 _ W0).mono ?_); rintro e u1 ⟨rfl, g1⟩; have R1 := R0.keep g1; have T1 := T0.keep g1; have t0 := T1.at0; have t1 := T1.at1; have r0 := R1.at0; have r1 := R1.at1; have f0 := R1.free 0; have f1 := R1.free 1)
    refine bodyPost_ret (results_row_tmp2 rfl _ _ w.heap.size 35 #[.string ⟨#[]⟩, .slice none 0 0] (0, 0) _ rfl (R1.set (.string ⟨#[]⟩) (.slice none 0 0)) Tryd.underlying35 rfl infoTy) rfl ⟨⟨#[]⟩, none, 0, 0, i, by rw [HZ.out]; rfl, by omega, by rw [HZ.out], fun hc => (by rw [HZ.out] at hc; cases hc), ((gtrans W0 g1).setCell (Nat.le_refl _) _).setCell (Nat.le_refl _) _⟩
  rw [h1, if_neg (by decide)] at hz
  rw [h1] at cI0
  by_cases h2 : m = 16
  · rw [if_pos h2] at hz
    have HZ : Hid (z = ((refL s P).drop i, L, 23)) := hz
    clear hz cN1 cIm
    have g16 : (16 : Int) ≤ (m : Int) := by omega
    clear h2
    go_enter Tryd.func27, Tryd.ntmps27
    go_wp2_with (go_at_call 46; (with_reducible refine (cI0 _ W0).mono ?_); rintro e u1 ⟨rfl, g1⟩; have R1 := R0.keep g1; have T1 := T0.keep g1; have t0 := T1.at0; have t1 := T1.at1; have r0 := R1.at0; have r1 := R1.at1; have f0 := R1.free 0; have f1 := R1.free 1)
    refine bodyPost_ret (results_row_tmp2 rfl _ _ w.heap.size 35 #[.string ⟨#[]⟩, .slice none 0 0] (0, 0) _ rfl (R1.set (.string ⟨#[]⟩) (.slice none 0 0)) Tryd.underlying35 rfl infoTy) rfl ⟨⟨#[]⟩, none, 0, 0, i, by rw [HZ.out]; rfl, by omega, by rw [HZ.out], fun hc => (by rw [HZ.out] at hc; cases hc), ((gtrans W0 g1).setCell (Nat.le_refl _) _).setCell (Nat.le_refl _) _⟩
  rw [if_neg h2] at hz
  have g16 : ¬ (16 : Int) ≤ (m : Int) := by omega
  generalize hc : (if (pAt s P (i + 1)).may = false then 21 else nameE L (pAt s P (i + 1)).w) = c at *
  by_cases h3 : c = 0
  · subst h3
    rw [if_neg (by decide)] at hz
    have hmay : (pAt s P (i + 1)).may = true := by
      cases e : (pAt s P (i + 1)).may
      · rw [e, if_pos rfl] at hc; cases hc
      · rfl
    have hi1 : i + 1 < n := by rw [← hPn]; exact pAt_in (s := s) (by rw [may_k hmay]; decide)
    obtain ⟨nm, hnm⟩ : ∃ nm, nm = (pAt s P (i + 1)).w := ⟨_, rfl⟩
    rw [← hnm] at hz
    have hA := rdA_at s P (i + 2) (by omega)
    have cI2 : ∀ (u : World) (G : Below w.heap.size w u), Calls Tryd.prog 46 #[.string s, .slice ao n cap, .int .i64 ((i : Int) + 2), .string ⟨#[40]⟩] u fun e w' => e = .returned (.bool ((pAt s P (i + 2)).isM 40)) ∧ Below u.heap.size u w' := fun u G => by
      have := cIm u G (i + 2) (by omega) 40 rfl
      rw [show ((i + 2 : Nat) : Int) = (i : Int) + 2 by omega] at this
      exact this
    have cI3 : ∀ (u : World) (G : Below w.heap.size w u), Calls Tryd.prog 46 #[.string s, .slice ao n cap, .int .i64 ((i : Int) + 3), .string ⟨#[41]⟩] u fun e w' => e = .returned (.bool ((pAt s P (i + 3)).isM 41)) ∧ Below u.heap.size u w' := fun u G => by
      have := cIm u G (i + 3) (by omega) 41 rfl
      rw [show ((i + 3 : Nat) : Int) = (i : Int) + 3 by omega] at this
      exact this
    clear hc
    go_enter Tryd.func27, Tryd.ntmps27
    go_wp2_with (first
      | (go_at_call 46; (with_reducible refine (cI0 _ W0).mono ?_); rintro e u1 ⟨rfl, g1⟩; have G1 := gtrans W0 g1; have R1 := R0.keep g1; have T1 := T0.keep g1)
      | (go_at_call 47; (with_reducible refine (cN1 _ G1).mono ?_); rintro e u2 ⟨rfl, g2⟩; have G2 := gtrans G1 g2; have R2 := R1.keep g2; have T2 := T1.keep g2))
    clear cI0 cN1 W0 R0 T0 R1 T1 g1 g2 G1
    obtain ⟨_, g, a, e, rfl, hg, c0, c1, o1, o2, hw⟩ := may_at hP (h.keep G2) hmay
    rw [hw] at hnm
    have p0 := fun z : Ext u2 => (z.cell _ _ hg).trans c0
    have p1 := fun z : Ext u2 => (z.cell _ _ hg).trans c1
    have hne : Nonempty (Ext u2) := ⟨⟨_, Below.refl _ _⟩⟩
    have q1 : (i : Int) + 1 < (n : Int) := by omega
    have q2 : (a : Int) ≤ (e : Int) := by omega
    have q3 : (e : Int) ≤ (s.size : Int) := by omega
    have q4 : (0 : Int) ≤ (a : Int) := by omega
    have q5 : (0 : Int) ≤ (i : Int) := by omega
    have HN : Hid (s.extract a e = nm) := hnm.symm
    clear hnm hw c0 c1
    refine wp_region_ext_tail 14 (by kernel_rfl) (by kernel_rfl) ?_
    simp only [List.take_succ_cons, List.take_zero, List.drop_succ_cons, List.drop_zero]
    repeat (go_big_quiet_step (fail))
    refine wpQuiet_nil ?_
    intro _ hw'
    obtain ⟨nxw, hw''⟩ := hw'
    subst hw''
    have G3 := gtrans G2 nxw.h
    have R3 := R2.keep nxw.h
    have T3 := T2.keep nxw.h
    clear p0 p1 hne G2 R2 T2 hg
    generalize nxw.X = u3 at *
    rw [HN.out]
    clear HN q2 q3 q4 o1 o2
    have tf := T3.free 0
    have ta := T3.at0
    go_wp2_with (fail)
    have G4 : Below w.heap.size w (u3.setCell ⟨w.heap.size + 1, 0, none⟩ (.string nm)) := G3.setCell (by show w.heap.size ≤ w.heap.size + 1; omega) _
    have R4 := R3.other (p := ⟨w.heap.size + 1, 0, none⟩) (by show w.heap.size ≠ w.heap.size + 1; omega) (.string nm)
    have T4 := T3.set0 (.string nm)
    clear tf ta G3 R3 T3
    generalize u3.setCell ⟨w.heap.size + 1, 0, none⟩ (.string nm) = u4 at *
    cases h4 : (pAt s P (i + 2)).isM 40
    · rw [h4, if_pos rfl] at hA
      rw [hA, if_pos (by show (21 : Int) ≠ 0; decide)] at hz
      have HZ : Hid (z = ((refL s P).drop (i + 2), L, 21)) := hz
      clear hz hA cI3 cIm
      rw [h4] at cI2
      go_wp2_with (go_at_call 46; (with_reducible refine (cI2 _ G4).mono ?_); rintro e u5 ⟨rfl, g5⟩; have R5 := R4.keep g5; have T5 := T4.keep g5; have t0 := T5.at0; have t1 := T5.at1; have r0 := R5.at0; have r1 := R5.at1; have f0 := R5.free 0; have f1 := R5.free 1)
      refine bodyPost_ret (results_row_tmp2 rfl _ _ w.heap.size 35 #[.string nm, .slice none 0 0] (0, 0) _ rfl (R5.set (.string nm) (.slice none 0 0)) Tryd.underlying35 rfl infoTy) rfl ⟨nm, none, 0, 0, i + 2, by rw [HZ.out]; rfl, by omega, by rw [HZ.out], fun hc => (by rw [HZ.out] at hc; cases hc), ((gtrans G4 g5).setCell (Nat.le_refl _) _).setCell (Nat.le_refl _) _⟩
    rw [h4, if_neg (by decide)] at hA
    rw [h4] at cI2
    have hi2 : i + 2 < n := by rw [← hPn]; exact pAt_in (s := s) (by rw [isM_k h4]; decide)
    cases h5 : (pAt s P (i + 2 + 1)).isM 41
    · rw [h5, if_neg (by decide)] at hA
      rw [show i + 2 + 1 = i + 3 by omega] at hA h5
      rw [h5] at cI3
      rw [hA] at hz
      have HZ0 : Hid (z = if (rdL 9 [] ((refL s P).drop (i + 3))).2.2 ≠ 0 then ((rdL 9 [] ((refL s P).drop (i + 3))).1, L, (rdL 9 [] ((refL s P).drop (i + 3))).2.2) else ((rdL 9 [] ((refL s P).drop (i + 3))).1, L ++ [(nm, (rdL 9 [] ((refL s P).drop (i + 3))).2.1)], 0)) := hz
      clear hz hA
      obtain ⟨y, hy⟩ : ∃ y, y = rdL 9 [] ((refL s P).drop (i + 3)) := ⟨_, rfl⟩
      rw [← hy] at HZ0
      have HY : Hid (y = rdL 9 [] ((refL s P).drop (i + 3))) := hy
      clear hy
      go_wp2_with (first
        | (go_at_call 46; (with_reducible refine (cI2 _ G4).mono ?_); rintro e u5 ⟨rfl, g5⟩; have G5 := gtrans G4 g5; have R5 := R4.keep g5; have T5 := T4.keep g5)
        | (go_at_call 46; (with_reducible refine (cI3 _ G5).mono ?_); rintro e u6 ⟨rfl, g6⟩; have G6 := gtrans G5 g6; have R6 := R5.keep g6; have T6 := T5.keep g6))
      clear cI2 cI3 G4 G5 R4 R5 T4 T5 g5 g6
      have z6 : w.heap.size + 2 ≤ u6.heap.size := T6.lt
      go_loopw [12, 13] (fun ve vk wr => ∃ (f : Nat) (ss : List ByteArray) (k : Nat) (va ev : Value), ve = ev ∧ vk = .int .i64 k ∧ k ≤ n ∧ Two wr w.heap.size (.string ⟨#[]⟩) (.slice none 0 0) 35 ∧ Two wr (w.heap.size + 1) (.string nm) va 35 ∧ wr.ownsRow (w.heap.size + 2) 9 1 va ss.length (strsV ss) ∧ y = rdL f ss ((refL s P).drop k) ∧ ss.length + f = 9 ∧ 0 < f ∧ Below w.heap.size w wr) (fun _ vk _ => 20000 - (intOf vk).toNat)
      case atStart => exact ⟨9, [], i + 3, .slice none 0 0, _, rfl, by go_num, by omega, R6, T6, World.ownsRow_nil _ _ _ _, HY.out, rfl, by omega, G6⟩
      case round =>
        obtain ⟨f, ss, k, va, ev, rfl, rfl, hk, Rr, Tr, O, hyr, hsf, hf0, G⟩ := hrel
        clear HY R6 T6 G6 z6
        obtain ⟨f, rfl⟩ : ∃ f', f = f' + 1 := ⟨f - 1, by omega⟩
        obtain ⟨aa, ca, rfl, A⟩ := isStrs_own O
        have hyk := rdL_at s P f ss k (by omega)
        rw [← hyr] at hyk
        clear hyr
        have cA := refAttribute_any s hs (some ⟨g, 0, none⟩) n cap P hP k (by omega) aa ss.length ca ss (by omega) wr (h.keep G) A (K.keep G)
        have ta := Tr.at1
        have hkn : ¬ (n : Int) < (k : Int) := by omega
        have hkn2 : (k : Int) ≤ (n : Int) := by omega
        have hs8 : rdT ss (pAt s P k) = 0 → ss.length ≠ 8 := fun e1 e2 => by
          unfold rdT at e1
          rw [if_neg (by rw [rdT_may' e1]; decide), if_pos e2] at e1
          cases e1
        by_cases h6 : rdT ss (pAt s P k) = 0
        · rw [h6, if_neg (by decide)] at hyk
          rw [h6] at cA
          replace hs8 := hs8 h6
          have hmk := rdT_may h6
          have hkl : k < n := by rw [← hPn]; exact pAt_in (s := s) (by rw [may_k hmk]; decide)
          go_wp2_with (go_at_call 48; (with_reducible refine cA.mono ?_); rintro e u7 ⟨rfl, g7⟩; have G7 := gtrans G g7; have R7 := Rr.keep g7; have T7 := Tr.keep g7; have O7 := own_keep O g7)
          obtain ⟨_, g', a2, e2, hg', hgl, c0, c1, o1, o2, hw⟩ := may_at hP (h.keep G7) hmk
          cases hg'
          have p2 := T7.at1
          have k1 : (k : Int) < (n : Int) := by omega
          have k2 : (a2 : Int) ≤ (e2 : Int) := by omega
          have k3 : (e2 : Int) ≤ (s.size : Int) := by omega
          have k4 : (0 : Int) ≤ (a2 : Int) := by omega
          have k5 : (0 : Int) ≤ (k : Int) := by omega
          clear cA ta
          rw [hw] at hyk
          have O8 := O7
          have z8 := T7.lt
          have hgb : some g ≠ (Value.slice aa ss.length ca).ownBlock := fun e => by
            have := (O7.lt _ e.symm).1
            have hgw : g < w.heap.size := by
              obtain ⟨_, _, q⟩ := h
              rcases q with q | ⟨g', e', hl, _⟩
              · omega
              · cases e'; exact hl
            omega
          have hgne : g ≠ w.heap.size + 1 := by
            have hgw : g < w.heap.size := by
              obtain ⟨_, _, q⟩ := h
              rcases q with q | ⟨g', e', hl, _⟩
              · omega
              · cases e'; exact hl
            omega
          have hgt : some (w.heap.size + 1) ≠ (Value.slice aa ss.length ca).ownBlock := fun e => by
            have := (O7.lt _ e.symm).1
            omega
          have p3 := T7.free 1
          have p4 : ∀ o, (u7.alloc o).drew.frozen? ⟨w.heap.size + 1, 1, none⟩ = false := fun o => (T7.alloc o).drew.free 1
          have p5 : ∀ o, (u7.alloc o).drew.cell? ⟨w.heap.size + 1, 1, none⟩ = some (.slice aa ss.length ca) := fun o => (T7.alloc o).drew.at1
          have p6 : ∀ o, (u7.alloc o).drew.cell? ⟨g, k * 3, none⟩ = some (.int .i64 a2) := fun o => (Below.cell (galloc (Below.refl u7.heap.size u7) o) (p := ⟨g, k * 3, none⟩) hgl).trans c0
          have p7 : ∀ o, (u7.alloc o).drew.cell? ⟨g, k * 3 + 1, none⟩ = some (.int .i64 e2) := fun o => (Below.cell (galloc (Below.refl u7.heap.size u7) o) (p := ⟨g, k * 3 + 1, none⟩) hgl).trans c1
          have hone : ∀ u ∈ [Value.string (s.extract a2 e2)], u.oneCell' = true := by intro u hu; simp at hu; subst hu; rfl
          generalize hss : ss.length = ns at *
          go_region_law (refine step_append_lies _ rfl (.tmp 88) (.tmp 101) 33 rfl (w.heap.size + 2) 9 i0 (.string ⟨#[]⟩) 1 16 Tryd.underlying33 si sz0 sz1 sz2 rfl (by decide) (.slice aa ns ca) ns (strsV ss) (by simp [Act.eval, Act.put]) (O8.drew.alloc _) ⟨u7.heap.size, 0, none⟩ 1 1 [.string (s.extract a2 e2)] (by simp [Act.eval, Act.put]) rfl (cell_one_new _ _ _) hone (by decide) (by unfold maxLen; omega) (by omega) (by simp; omega) _ rfl ?_; intro g9 c9 w9 hown9 hgrow9 hat9 hlt9; have T9 : Two w9 (w.heap.size + 1) (.string nm) (.slice aa ns ca) 35 := (hgrow9.block _ (by simp; omega) hgt).trans (T7.alloc _); have t9 := T9.free 1; have s9 := T9.at1)
          all_goals
            have T10 := T9.set1 (.slice (some ⟨g9, 0, none⟩) (ns + 1) c9)
            have O10 : (w9.setCell ⟨w.heap.size + 1, 1, none⟩ (.slice (some ⟨g9, 0, none⟩) (ns + 1) c9)).ownsRow (w.heap.size + 2) 9 1 (.slice (some ⟨g9, 0, none⟩) (ns + 1) c9) (ns + 1) (strsV (ss ++ [s.extract a2 e2])) := by
              rw [strsV_snoc]
              exact own_of_block hown9 (fun g' _ hg' _ => Below.heap_setCell w9 _ _ g' (by show g' ≠ w.heap.size + 1; omega))
            have R9 : Two w9 w.heap.size (.string ⟨#[]⟩) (.slice none 0 0) 35 := (hgrow9.block _ (by simp; omega) (fun e => by have := (O7.lt _ e.symm).1; omega)).trans (R7.alloc _)
            have R10 := R9.other (p := ⟨w.heap.size + 1, 1, none⟩) (by show w.heap.size ≠ w.heap.size + 1; omega) (.slice (some ⟨g9, 0, none⟩) (ns + 1) c9)
            have G10 : Below w.heap.size w (w9.setCell ⟨w.heap.size + 1, 1, none⟩ (.slice (some ⟨g9, 0, none⟩) (ns + 1) c9)) :=
              gset ((G7.alloc G7.size _).drew.grown hgrow9 (by have := G7.size; simp; omega) (fun r e => by have := (O7.lt _ e).1; omega)) (by show w.heap.size ≤ w.heap.size + 1; omega) _
            generalize w9.setCell ⟨w.heap.size + 1, 1, none⟩ (.slice (some ⟨g9, 0, none⟩) (ns + 1) c9) = w10 at *
            generalize s.extract a2 e2 = x at *
            clear hown9 hgrow9 hat9 hlt9 T9 t9 s9 R9 hone hgb hgt hgne O8 O7 R7 T7 G7 p2 p3 p4 p5 p6 p7 c0 c1 hgl z8 k2 k3 k4 o1 o2 hw
            have cK1 : Calls Tryd.prog 46 #[.string s, .slice (some ⟨g, 0, none⟩) n cap, .int .i64 ((k : Int) + 1), .string ⟨#[41]⟩] w10 fun e w' => e = .returned (.bool ((pAt s P (k + 1)).isM 41)) ∧ Below w10.heap.size w10 w' := by
              have := cIm w10 G10 (k + 1) (by omega) 41 rfl
              rw [show ((k + 1 : Nat) : Int) = (k : Int) + 1 by omega] at this
              exact this
            have cK2 : ∀ (u : World) (G : Below w10.heap.size w10 u), Calls Tryd.prog 46 #[.string s, .slice (some ⟨g, 0, none⟩) n cap, .int .i64 ((k : Int) + 1), .string ⟨#[44]⟩] u fun e w' => e = .returned (.bool ((pAt s P (k + 1)).isM 44)) ∧ Below u.heap.size u w' := fun u Gu => by
              have := cIm u (gtrans G10 Gu) (k + 1) (by omega) 44 rfl
              rw [show ((k + 1 : Nat) : Int) = (k : Int) + 1 by omega] at this
              exact this
            have hss1 : (ss ++ [x]).length = ns + 1 := by rw [List.length_append, hss]; rfl
            cases h7 : (pAt s P (k + 1)).isM 41
            · rw [h7, if_neg (by decide)] at hyk
              rw [h7] at cK1
              cases h8 : (pAt s P (k + 1)).isM 44
              · rw [h8, if_neg (by decide)] at hyk
                rw [h8] at cK2
                have HZ : Hid (z = ((refL s P).drop (k + 1), L, 21)) := by show _ = _; rw [HZ0.out, hyk, if_pos (by show (21 : Int) ≠ 0; decide)]
                clear hyk HZ0
                go_wp2_with (first
                  | (go_at_call 46; (with_reducible refine cK1.mono ?_); rintro e u11 ⟨rfl, g11⟩; have R11 := R10.keep g11; have T11 := T10.keep g11)
                  | (go_at_call 46; (with_reducible refine (cK2 _ g11).mono ?_); rintro e u12 ⟨rfl, g12⟩; have R12 := R11.keep g12; have T12 := T11.keep g12; have t0 := T12.at0; have t1 := T12.at1; have r0 := R12.at0; have r1 := R12.at1; have f0 := R12.free 0; have f1 := R12.free 1))
                refine bodyPost_ret (results_row_tmp2 rfl _ _ w.heap.size 35 #[.string nm, .slice (some ⟨g9, 0, none⟩) (ns + 1) c9] (0, 0) _ rfl (R12.set (.string nm) (.slice (some ⟨g9, 0, none⟩) (ns + 1) c9)) Tryd.underlying35 rfl infoTy) rfl ⟨nm, _, _, _, k + 1, by rw [HZ.out]; rfl, by omega, by rw [HZ.out], fun hc => (by rw [HZ.out] at hc; cases hc), ((gtrans (gtrans G10 g11) g12).setCell (Nat.le_refl _) _).setCell (Nat.le_refl _) _⟩
              · rw [h8, if_pos rfl] at hyk
                rw [h8] at cK2
                have hk1 : k + 1 < n := by rw [← hPn]; exact pAt_in (s := s) (by rw [isM_k h8]; decide)
                have HY : Hid (y = rdL f (ss ++ [x]) ((refL s P).drop (k + 2))) := hyk
                clear hyk
                go_wp2_with (first
                  | (go_at_call 46; (with_reducible refine cK1.mono ?_); rintro e u11 ⟨rfl, g11⟩; have R11 := R10.keep g11; have T11 := T10.keep g11)
                  | (go_at_call 46; (with_reducible refine (cK2 _ g11).mono ?_); rintro e u12 ⟨rfl, g12⟩; have R12 := R11.keep g12; have T12 := T11.keep g12))
                go_roundw
                case rel => exact ⟨f, ss ++ [x], k + 2, _, _, rfl, by go_num, by omega, R12, T12, by rw [hss1]; exact own_keep (own_keep O10 g11) g12, HY.out, by rw [hss1]; omega, by omega, gtrans (gtrans G10 g11) g12⟩
                case measure => simp [intOf]; omega
            · rw [h7, if_pos rfl] at hyk
              rw [h7] at cK1
              have hk1 : k + 1 < n := by rw [← hPn]; exact pAt_in (s := s) (by rw [isM_k h7]; decide)
              have HZ : Hid (z = ((refL s P).drop (k + 2), L ++ [(nm, ss ++ [x])], 0)) := by show _ = _; rw [HZ0.out, hyk, if_neg (by show ¬ ((0 : Int) ≠ 0); decide)]
              clear hyk HZ0
              go_wp2_with (go_at_call 46; (with_reducible refine cK1.mono ?_); rintro e u11 ⟨rfl, g11⟩; have R11 := R10.keep g11; have T11 := T10.keep g11; have t0 := T11.at0; have t1 := T11.at1; have r0 := R11.at0; have r1 := R11.at1; have f0 := R11.free 0; have f1 := R11.free 1)
              refine bodyPost_ret (results_row_tmp2 rfl _ _ w.heap.size 35 #[.string nm, .slice (some ⟨g9, 0, none⟩) (ns + 1) c9] (0, 0) _ rfl (R11.set (.string nm) (.slice (some ⟨g9, 0, none⟩) (ns + 1) c9)) Tryd.underlying35 rfl infoTy) rfl ⟨nm, _, _, _, k + 2, by rw [HZ.out]; rfl, by omega, by rw [HZ.out], fun _ => ⟨ss ++ [x], by rw [HZ.out], ?_⟩, ((gtrans G10 g11).setCell (Nat.le_refl _) _).setCell (Nat.le_refl _) _⟩
              rw [hss1]
              exact own_mono (own_of_block (own_of_block (own_keep O10 g11) (fun g' _ hg' _ => Below.heap_setCell _ _ _ g' (by show g' ≠ w.heap.size; omega))) (fun g' _ hg' _ => Below.heap_setCell _ _ _ g' (by show g' ≠ w.heap.size; omega))) (by omega)
        · rw [if_pos h6] at hyk
          generalize rdT ss (pAt s P k) = q at *
          have q0 : (q == 0) = false := by simpa using h6
          have HZ : Hid (z = ((refL s P).drop k, L, q)) := by show _ = _; rw [HZ0.out, hyk, if_pos h6]
          clear hyk HZ0
          go_wp2_with (go_at_call 48; (with_reducible refine cA.mono ?_); rintro e u7 ⟨rfl, g7⟩; have G7 := gtrans G g7; have R7 := Rr.keep g7; have T7 := Tr.keep g7; have t0 := T7.at0; have t1 := T7.at1; have r0 := R7.at0; have r1 := R7.at1; have f0 := R7.free 0; have f1 := R7.free 1)
          refine bodyPost_ret (results_row_tmp2 rfl _ _ w.heap.size 35 #[.string nm, .slice aa ss.length ca] (0, 0) _ rfl (R7.set (.string nm) (.slice aa ss.length ca)) Tryd.underlying35 rfl infoTy) rfl ⟨nm, _, _, _, k, by rw [HZ.out]; rfl, by omega, by rw [HZ.out], fun hc => (by rw [HZ.out] at hc; exact absurd hc h6), (G7.setCell (Nat.le_refl _) _).setCell (Nat.le_refl _) _⟩
    · rw [h5, if_pos rfl] at hA
      rw [show i + 2 + 1 = i + 3 by omega] at h5
      rw [h5] at cI3
      rw [hA, if_neg (by show ¬ ((0 : Int) ≠ 0); decide)] at hz
      have hi3 : i + 3 < n := by rw [← hPn]; exact pAt_in (s := s) (by rw [isM_k h5]; decide)
      have HZ : Hid (z = ((refL s P).drop (i + 4), L ++ [(nm, [])], 0)) := hz
      clear hz hA
      go_wp2_with (first
        | (go_at_call 46; (with_reducible refine (cI2 _ G4).mono ?_); rintro e u5 ⟨rfl, g5⟩; have G5 := gtrans G4 g5; have R5 := R4.keep g5; have T5 := T4.keep g5)
        | (go_at_call 46; (with_reducible refine (cI3 _ G5).mono ?_); rintro e u6 ⟨rfl, g6⟩; have G6 := gtrans G5 g6; have R6 := R5.keep g6; have T6 := T5.keep g6; have t0 := T6.at0; have t1 := T6.at1; have r0 := R6.at0; have r1 := R6.at1; have f0 := R6.free 0; have f1 := R6.free 1))
      refine bodyPost_ret (results_row_tmp2 rfl _ _ w.heap.size 35 #[.string nm, .slice none 0 0] (0, 0) _ rfl (R6.set (.string nm) (.slice none 0 0)) Tryd.underlying35 rfl infoTy) rfl ⟨nm, none, 0, 0, i + 4, by rw [HZ.out]; rfl, by omega, by rw [HZ.out], fun _ => ⟨[], by rw [HZ.out], World.ownsRow_nil _ _ _ _⟩, (G6.setCell (Nat.le_refl _) _).setCell (Nat.le_refl _) _⟩
  · rw [if_pos h3] at hz
    have HZ : Hid (z = ((refL s P).drop (i + 1), L, c)) := hz
    have q0 : (c == 0) = false := by simpa using h3
    clear hz cIm hc
    go_enter Tryd.func27, Tryd.ntmps27
    go_wp2_with (first
      | (go_at_call 46; (with_reducible refine (cI0 _ W0).mono ?_); rintro e u1 ⟨rfl, g1⟩; have G1 := gtrans W0 g1; have R1 := R0.keep g1; have T1 := T0.keep g1)
      | (go_at_call 47; (with_reducible refine (cN1 _ G1).mono ?_); rintro e u2 ⟨rfl, g2⟩; have G2 := gtrans G1 g2; have R2 := R1.keep g2; have T2 := T1.keep g2; have t0 := T2.at0; have t1 := T2.at1; have r0 := R2.at0; have r1 := R2.at1; have f0 := R2.free 0; have f1 := R2.free 1))
    refine bodyPost_ret (results_row_tmp2 rfl _ _ w.heap.size 35 #[.string ⟨#[]⟩, .slice none 0 0] (0, 0) _ rfl (R2.set (.string ⟨#[]⟩) (.slice none 0 0)) Tryd.underlying35 rfl infoTy) rfl ⟨⟨#[]⟩, none, 0, 0, i + 1, by rw [HZ.out]; rfl, by omega, by rw [HZ.out], fun hc => (by rw [HZ.out] at hc; exact absurd hc h3), (G2.setCell (Nat.le_refl _) _).setCell (Nat.le_refl _) _⟩

end Go.Proofs.YtkpnnofonocilaaDoor
