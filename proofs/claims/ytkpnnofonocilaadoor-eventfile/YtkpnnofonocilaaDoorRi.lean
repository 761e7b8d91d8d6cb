/- What is asked of the document's pieces: is, wordAt, placeAt. -/
import Derived.Test.YtkpnnofonocilaaDoorRc
namespace Go.Proofs.YtkpnnofonocilaaDoor
open Go.RowKit Go.BigFrame
set_option linter.unusedVariables false
set_option linter.unusedSimpArgs false

/-- A row of the document's pieces in memory. -/
def IsRps (w : World) (ao : Option Addr) (n : Nat) (P : List Rp) : Prop := P.length = n ∧ n ≤ 10000 ∧ (n = 0 ∨ ∃ g, ao = some ⟨g, 0, none⟩ ∧ g < w.heap.size ∧ ∀ j, j < n →
  w.cell? ⟨g, j * 3, none⟩ = some (.int .i64 (P.getD j noRp).1) ∧ w.cell? ⟨g, j * 3 + 1, none⟩ = some (.int .i64 (P.getD j noRp).2.1) ∧ w.cell? ⟨g, j * 3 + 2, none⟩ = some (.bool (P.getD j noRp).2.2))
theorem IsRps.keep {w u : World} {ao : Option Addr} {n : Nat} {P : List Rp} (h : IsRps w ao n P) (G : Below w.heap.size w u) : IsRps u ao n P := by
  obtain ⟨h1, h2, h4⟩ := h
  refine ⟨h1, h2, ?_⟩
  rcases h4 with h4 | ⟨g, e, hb, hc⟩
  · exact .inl h4
  · exact .inr ⟨g, e, Nat.lt_of_lt_of_le hb G.size, fun j hj => ⟨(G.cell (p := ⟨g, j * 3, none⟩) hb).trans (hc j hj).1, (G.cell (p := ⟨g, j * 3 + 1, none⟩) hb).trans (hc j hj).2.1, (G.cell (p := ⟨g, j * 3 + 2, none⟩) hb).trans (hc j hj).2.2⟩⟩
theorem rps_of_own {w : World} {base : Nat} {v : Value} {P : List Rp} (hP : P.length ≤ 10000) (h : w.ownsRow base 81 3 v P.length (rpV P)) : ∃ ao cap, v = .slice ao P.length cap ∧ IsRps w ao P.length P := by
  obtain ⟨ao, cap, rfl, hn, hg⟩ := own_shape h
  refine ⟨ao, cap, rfl, rfl, hP, ?_⟩
  rcases hg with hg | ⟨g, rfl, hlt, _⟩
  · exact .inl hg
  refine .inr ⟨g, rfl, hlt, fun j hj => ?_⟩
  have hc : ∀ k, k < 3 → w.cell? ⟨g, j * 3 + k, none⟩ = (rpA (P.getD j noRp)).toList[k]? := fun k hk => by
    rw [World.ownsRow.cellAt h (j * 3 + k) (by omega), rpV_at P j hj k hk]
  exact ⟨hc 0 (by omega), hc 1 (by omega), hc 2 (by omega)⟩
structure OkR (s : ByteArray) (q : Rp) : Prop where
  lt : q.1 < q.2.1
  le : q.2.1 ≤ s.size
  wd : q.2.2 = true → ∀ j, q.1 ≤ j → j < q.2.1 → inW (at_ s j) = true
  mk1 : q.2.2 = false → q.2.1 = q.1 + 1 ∧ inW (at_ s q.1) = false
theorem cutL_ok (s : ByteArray) : ∀ n i, ∀ q ∈ cutL s n i, OkR s q := by
  intro n
  induction n with
  | zero => intro i q hq; simp [cutL] at hq
  | succ n ih =>
    intro i q hq
    unfold cutL at hq
    split at hq
    · rename_i h
      split at hq
      · exact ih _ q hq
      · split at hq
        · exact ih _ q hq
        · split at hq
          · rename_i hw
            rcases List.mem_cons.1 hq with rfl | hq
            · have g1 := scan_ge inW s s.size (i + 1)
              refine ⟨by show i < wdE s (i + 1); unfold wdE; omega, scan_le inW s s.size (i + 1) (by omega), fun _ j h1 h2 => ?_, fun e => by cases e⟩
              rcases Nat.lt_or_ge i j with e | e
              · exact scan_all inW s s.size (i + 1) j e h2
              · obtain rfl : j = i := Nat.le_antisymm e h1
                exact hw
            · exact ih _ q hq
          · rename_i hw
            rcases List.mem_cons.1 hq with rfl | hq
            · exact ⟨Nat.lt_succ_self _, h, fun e => (by cases e), fun _ => ⟨rfl, by cases e : inW (at_ s i); rfl; exact absurd e hw⟩⟩
            · exact ih _ q hq
    · cases hq
theorem cutL_len (s : ByteArray) : ∀ n i, (cutL s n i).length + i ≤ max s.size i := by
  intro n
  induction n with
  | zero => intro i; simp [cutL]; omega
  | succ n ih =>
    intro i
    unfold cutL
    split
    · rename_i h
      split
      · have := ih (i + 1); omega
      · split
        · have g1 := scan_ge notNl s s.size (i + 1)
          have g2 := scan_le notNl s s.size (i + 1) (by omega)
          have := ih (cmE s (i + 1))
          unfold cmE at this ⊢
          omega
        · split
          · have g1 := scan_ge inW s s.size (i + 1)
            have g2 := scan_le inW s s.size (i + 1) (by omega)
            have := ih (wdE s (i + 1))
            rw [List.length_cons]
            unfold wdE at this ⊢
            omega
          · have := ih (i + 1)
            rw [List.length_cons]
            omega
    · simp; omega
def pAt (s : ByteArray) (P : List Rp) (i : Nat) : Pc := if i < P.length then rPc s (P.getD i noRp) else eP s
theorem hd_drop (s : ByteArray) (P : List Rp) (i : Nat) (h : i ≤ P.length) : hd ((refL s P).drop i) = pAt s P i := by
  unfold pAt refL hd
  rw [List.headD_eq_head?_getD, List.head?_drop]
  split
  · rename_i h1
    rw [List.getElem?_append_left (by simpa using h1), List.getElem?_map, List.getElem?_eq_getElem h1]
    simp [List.getD, List.getElem?_eq_getElem h1]
  · obtain rfl : i = P.length := by omega
    rw [List.getElem?_append_right (by simp)]
    simp
/-- Is the piece there, and just that text? -/
def isP (s : ByteArray) (P : List Rp) (i : Nat) (x : ByteArray) : Bool := decide (i < P.length) && ((s.extract (P.getD i noRp).1 (P.getD i noRp).2.1).toList == x.toList)
theorem ext_list (s : ByteArray) (a e : Nat) (h : a < e) (he : e ≤ s.size) : (s.extract a e).toList = s.data[a]'(Nat.lt_of_lt_of_le h he) :: (s.extract (a + 1) e).toList := by
  rw [Lib.toList_data, Lib.toList_data]
  simp only [ByteArray.data_extract]
  rw [Array.toList_extract, Array.toList_extract]
  simp only [List.extract]
  rw [List.drop_eq_getElem_cons (by rw [Array.length_toList]; exact Nat.lt_of_lt_of_le h he), show e - a = (e - (a + 1)) + 1 by omega, List.take_succ_cons]
  simp
theorem isP_word (s : ByteArray) (P : List Rp) (hP : ∀ q ∈ P, OkR s q) (i : Nat) : isP s P i tyW = (pAt s P i).isW tyW := by
  unfold isP pAt
  by_cases h : i < P.length
  · rw [if_pos h, decide_eq_true h, Bool.true_and]
    have ok := hP (P.getD i noRp) (by rw [List.getD_eq_getElem?_getD, List.getElem?_eq_getElem h]; exact List.getElem_mem _)
    generalize P.getD i noRp = q at *
    unfold rPc
    cases hw : q.2.2
    · rw [if_neg (by decide)]
      obtain ⟨e1, _⟩ := ok.mk1 hw
      have := ext_list s q.1 q.2.1 ok.lt ok.le
      rw [this]
      show (_ == _) = false
      rw [beq_eq_false_iff_ne]
      intro h2
      have := congrArg List.length h2
      rw [show tyW.toList = [116, 121, 112, 101] from Lib.toList_data tyW] at this
      rw [List.length_cons, Lib.toList_data, Array.length_toList, ByteArray.data_extract, Array.size_extract] at this
      have e2 : min q.2.1 s.data.size - (q.1 + 1) = 0 := by omega
      rw [e2] at this
      cases this
    · rw [if_pos rfl]
      rfl
  · rw [if_neg h, decide_eq_false h]
    rfl
theorem isP_mark (s : ByteArray) (P : List Rp) (hP : ∀ q ∈ P, OkR s q) (i : Nat) (b : UInt8) (hb : inW (b.toNat : Int) = false) : isP s P i ⟨#[b]⟩ = (pAt s P i).isM (b.toNat : Int) := by
  unfold isP pAt
  by_cases h : i < P.length
  · rw [if_pos h, decide_eq_true h, Bool.true_and]
    have ok := hP (P.getD i noRp) (by rw [List.getD_eq_getElem?_getD, List.getElem?_eq_getElem h]; exact List.getElem_mem _)
    generalize P.getD i noRp = q at *
    have hq := Nat.lt_of_lt_of_le ok.lt ok.le
    have ha : at_ s q.1 = ((s.data[q.1]'hq).toNat : Int) := by
      exact at_byte s q.1 hq
    unfold rPc
    rw [ext_list s q.1 q.2.1 ok.lt ok.le]
    have hB : (⟨#[b]⟩ : ByteArray).toList = [b] := by rw [Lib.toList_data]
    rw [hB]
    cases hw : q.2.2
    · rw [if_neg (by decide)]
      obtain ⟨e1, _⟩ := ok.mk1 hw
      have he : (s.extract (q.1 + 1) q.2.1).toList = [] := by
        rw [Lib.toList_data, ByteArray.data_extract, e1]
        simp
      rw [he]
      show _ = ((1 : Int) == 1 && (at_ s q.1 == (b.toNat : Int)))
      rw [ha]
      generalize s.data[q.1]'hq = c
      by_cases hc : c = b
      · subst hc; simp
      · have : ¬ ((c.toNat : Int) = (b.toNat : Int)) := fun e => hc (UInt8.toNat_inj.1 (by omega))
        have e1 : (c == b) = false := by simpa using hc
        have e2 : ((c.toNat : Int) == (b.toNat : Int)) = false := by simpa using this
        simp [e1, e2]
    · rw [if_pos rfl]
      have hw1 := ok.wd hw q.1 (Nat.le_refl _) ok.lt
      rw [ha] at hw1
      show (_ == _) = false
      rw [beq_eq_false_iff_ne]
      intro h2
      have := (List.cons.inj h2).1
      rw [this, hb] at hw1
      cases hw1
  · rw [if_neg h, decide_eq_false h]
    rfl

set_option maxRecDepth 100000 in
set_option maxHeartbeats 4000000 in
theorem refIs_any (s : ByteArray) (hs : s.size ≤ 4096) (ao : Option Addr) (n cap : Nat) (P : List Rp) (hP : ∀ q ∈ P, OkR s q) (i : Nat) (hi : i ≤ 20000) (x : ByteArray) (w : World) (h : IsRps w ao n P) :
    Calls Tryd.prog 46 #[.string s, .slice ao n cap, .int .i64 i, .string x] w fun e w' => e = .returned (.bool (isP s P i x)) ∧ Below w.heap.size w w' := by
  obtain ⟨h1, h2, h4⟩ := h
  obtain ⟨z, hz⟩ : ∃ z, isP s P i x = z := ⟨_, rfl⟩
  rw [hz]
  have HZ : Hid ((decide (i < n) && ((s.extract (P.getD i noRp).1 (P.getD i noRp).2.1).toList == x.toList)) = z) := by show _ = z; rw [← hz, ← h1]; rfl
  clear hz
  have hne : Nonempty (Ext w) := ⟨⟨_, Below.refl _ _⟩⟩
  by_cases hlt : i < n
  · rcases h4 with h4 | ⟨g, rfl, hg, hc⟩
    · omega
    obtain ⟨c0, c1, c2⟩ := hc i hlt
    have ok := hP (P.getD i noRp) (by rw [List.getD_eq_getElem?_getD, List.getElem?_eq_getElem (by omega)]; exact List.getElem_mem _)
    have o1 := ok.lt
    have o2 := ok.le
    clear hc ok hP
    rw [decide_eq_true hlt, Bool.true_and] at HZ
    generalize P.getD i noRp = q at *
    obtain ⟨a, e, b⟩ := q
    dsimp only at *
    have p0 := fun z : Ext w => (z.cell _ _ hg).trans c0
    have p1 := fun z : Ext w => (z.cell _ _ hg).trans c1
    have g1 : (i : Int) < (n : Int) := by omega
    have g2 : (a : Int) ≤ (e : Int) := by omega
    have g3 : (e : Int) ≤ (s.size : Int) := by omega
    have g4 : (0 : Int) ≤ (a : Int) := by omega
    have g5 : (0 : Int) ≤ (i : Int) := by omega
    clear h1 c0 c1 c2
    cases hx : ((s.extract a e).toList == x.toList)
    all_goals
      rw [hx] at HZ
      go_enter Tryd.func46, Tryd.ntmps46
      go_wp2
      refine wp_region_ext (by kernel_rfl) (by kernel_rfl) ?_
      repeat (go_big_quiet_step (fail))
      refine wpQuiet_nil ?_
      intro _ hw'
      obtain ⟨nxw, hw''⟩ := hw'
      subst hw''
      go_wp2
      go_ret
      exact ⟨by rw [← HZ.out]; rfl, nxw.h⟩
  · rw [decide_eq_false hlt, Bool.false_and] at HZ
    clear h4
    have g1 : ¬ (i : Int) < (n : Int) := by omega
    go_enter Tryd.func46, Tryd.ntmps46
    go_wp2
    refine wp_region_ext (by kernel_rfl) (by kernel_rfl) ?_
    repeat (go_big_quiet_step (fail))
    refine wpQuiet_nil ?_
    intro _ hw'
    obtain ⟨nxw, hw''⟩ := hw'
    subst hw''
    go_wp2
    go_ret
    exact ⟨by rw [← HZ.out]; rfl, nxw.h⟩

set_option maxRecDepth 100000 in
set_option maxHeartbeats 4000000 in
theorem refWordAt_any (s : ByteArray) (hs : s.size ≤ 4096) (ao : Option Addr) (n cap : Nat) (P : List Rp) (hP : ∀ q ∈ P, OkR s q) (i : Nat) (hi : i ≤ 20000) (w : World) (h : IsRps w ao n P) :
    Calls Tryd.prog 72 #[.string s, .slice ao n cap, .int .i64 i] w fun e w' => e = .returned (.bool (decide (i < n) && ((P.getD i noRp).2.2 && !(digB (at_ s (P.getD i noRp).1))))) ∧ Below w.heap.size w w' := by
  obtain ⟨h1, h2, h4⟩ := h
  obtain ⟨z, hz⟩ : ∃ z, (decide (i < n) && ((P.getD i noRp).2.2 && !(digB (at_ s (P.getD i noRp).1)))) = z := ⟨_, rfl⟩
  rw [hz]
  have HZ : Hid ((decide (i < n) && ((P.getD i noRp).2.2 && !(digB (at_ s (P.getD i noRp).1)))) = z) := hz
  clear hz
  have hne : Nonempty (Ext w) := ⟨⟨_, Below.refl _ _⟩⟩
  by_cases hlt : i < n
  · rcases h4 with h4 | ⟨g, rfl, hg, hc⟩
    · omega
    obtain ⟨c0, c1, c2⟩ := hc i hlt
    have ok := hP (P.getD i noRp) (by rw [List.getD_eq_getElem?_getD, List.getElem?_eq_getElem (by omega)]; exact List.getElem_mem _)
    have o1 := ok.lt
    have o2 := ok.le
    clear hc ok hP
    rw [decide_eq_true hlt, Bool.true_and] at HZ
    generalize P.getD i noRp = q at *
    obtain ⟨a, e, b⟩ := q
    dsimp only at *
    have g1 : (i : Int) < (n : Int) := by omega
    have g5 : (0 : Int) ≤ (i : Int) := by omega
    have i0 : ∀ u : World, (Instr.index 9 (.string s) (.int .i64 a)).run Tryd.prog u = .ok (.int .u8 (at_ s a)) u := byteW s a (by omega) Tryd.prog 9 (by kernel_rfl)
    have cD := fun (u : World) => refDigit_any (at_ s a) u
    clear h1
    generalize at_ s a = c at *
    cases b
    · rw [Bool.false_and] at HZ
      go_enter Tryd.func72, Tryd.ntmps72
      go_wp2
      go_ret
      exact ⟨by rw [← HZ.out]; rfl, Below.refl _ _⟩
    · rw [Bool.true_and] at HZ
      cases hx : digB c
      all_goals
        rw [hx] at HZ cD
        go_enter Tryd.func72, Tryd.ntmps72
        go_wp2_with (go_at_call 71; with_reducible refine (cD _).mono ?_; rintro e4 u4' ⟨rfl, rfl⟩)
        go_ret
        exact ⟨by rw [← HZ.out]; rfl, Below.refl _ _⟩
  · rw [decide_eq_false hlt, Bool.false_and] at HZ
    clear h4
    have g1 : ¬ (i : Int) < (n : Int) := by omega
    go_enter Tryd.func72, Tryd.ntmps72
    go_wp2
    go_ret
    exact ⟨by rw [← HZ.out]; rfl, Below.refl _ _⟩
set_option maxRecDepth 100000 in
set_option maxHeartbeats 4000000 in
theorem refPlaceAt_any (s : ByteArray) (ao : Option Addr) (n cap : Nat) (P : List Rp) (i : Nat) (w : World) (h : IsRps w ao n P) :
    Calls Tryd.prog 28 #[.string s, .slice ao n cap, .int .i64 i] w fun e w' => e = .returned (.int .i64 (pAt s P i).a) ∧ Below w.heap.size w w' := by
  obtain ⟨h1, h2, h4⟩ := h
  unfold pAt
  rw [h1]
  by_cases hlt : i < n
  · rw [if_pos hlt]
    rcases h4 with h4 | ⟨g, rfl, hg, hc⟩
    · omega
    obtain ⟨c0, c1, c2⟩ := hc i hlt
    have e : (rPc s (P.getD i noRp)).a = ((P.getD i noRp).1 : Nat) := by unfold rPc; split <;> rfl
    rw [e]
    clear hc e
    generalize P.getD i noRp = q at *
    go_enter Tryd.func28, Tryd.ntmps28
    go_wp2
    go_ret
    exact ⟨rfl, Below.refl _ _⟩
  · rw [if_neg hlt]
    show Calls _ _ _ _ fun e w' => e = .returned (.int .i64 (s.size : Int)) ∧ _
    clear h4
    go_enter Tryd.func28, Tryd.ntmps28
    go_wp2
    go_ret
    exact ⟨rfl, Below.refl _ _⟩

end Go.Proofs.YtkpnnofonocilaaDoor
