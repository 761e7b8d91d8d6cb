/- The words of a line as the document cuts them. -/
import Derived.Test.YtkpnnofonocilaaDoorWv
import Derived.Test.YtkpnnofonocilaaDoorRc
namespace Go.Proofs.YtkpnnofonocilaaDoor
open Go.RowKit Go.BigFrame
set_option linter.unusedVariables false
set_option linter.unusedSimpArgs false

/-- The words from a place on. -/
def wdsL (s : ByteArray) : Nat → Nat → List Rp
  | 0, _ => []
  | n + 1, i => if i < s.size then (if i < scan ngB s s.size i then [(i, scan ngB s s.size i, true)] else []) ++ wdsL s n (scan ngB s s.size i + 1) else []
/-- Where the word behind so many words ends. -/
def itE (s : ByteArray) (e : Nat) : Nat → Nat
  | 0 => e
  | i + 1 => itE s (wE s e) i
theorem itE_succ (s : ByteArray) : ∀ i e, itE s e (i + 1) = wE s (itE s e i) := by
  intro i
  induction i with
  | zero => intro e; rfl
  | succ i ih => intro e; show itE s (wE s e) (i + 1) = _; rw [ih (wE s e)]; rfl
theorem itE_le (s : ByteArray) (i : Nat) : ∀ e, e ≤ s.size → itE s e i ≤ s.size := by
  induction i with
  | zero => intro e h; exact h
  | succ i ih => intro e h; exact ih _ (wE_le s e h).2
theorem out_A (s : ByteArray) (e : Nat) (h : s.size ≤ e) : wA s e = e ∧ wE s e = e := by
  have h1 : wA s e = e := scan_stop _ _ _ _ (by omega)
  refine ⟨h1, ?_⟩
  unfold wE
  rw [h1]
  exact scan_stop _ _ _ _ (by omega)
theorem out_it (s : ByteArray) (i : Nat) : ∀ e, s.size ≤ e → itE s e i = e := by
  induction i with
  | zero => intro e _; rfl
  | succ i ih => intro e h; show itE s (wE s e) i = e; rw [(out_A s e h).2]; exact ih e h
/-- Two places from which the same words are read. -/
def Same (s : ByteArray) (e f : Nat) : Prop := ∀ i, (wA s (itE s e i) < s.size ↔ wA s (itE s f i) < s.size) ∧ (wA s (itE s f i) < s.size → wA s (itE s e i) = wA s (itE s f i) ∧ wE s (itE s e i) = wE s (itE s f i))
theorem same_gap (s : ByteArray) (e : Nat) (h : e < s.size) (hg : gapB (at_ s e) = true) : Same s e (e + 1) := by
  have h1 : wA s e = wA s (e + 1) := scan_go gapB s e h hg
  have h2 : wE s e = wE s (e + 1) := by unfold wE; rw [h1]
  intro i
  cases i with
  | zero => exact ⟨by show wA s e < _ ↔ wA s (e + 1) < _; rw [h1], fun _ => ⟨h1, h2⟩⟩
  | succ i =>
    have : itE s e (i + 1) = itE s (e + 1) (i + 1) := by show itE s (wE s e) i = itE s (wE s (e + 1)) i; rw [h2]
    rw [this]
    exact ⟨Iff.rfl, fun _ => ⟨rfl, rfl⟩⟩
theorem same_end (s : ByteArray) (e : Nat) (h : s.size ≤ e) : Same s e (e + 1) := by
  intro i
  rw [out_it s i e h, out_it s i (e + 1) (by omega), (out_A s e h).1, (out_A s (e + 1) (by omega)).1]
  exact ⟨by omega, fun h2 => by omega⟩
theorem words_at (s : ByteArray) : ∀ n e, s.size ≤ e + n → ∀ i, (i < (wdsL s n e).length ↔ wA s (itE s e i) < s.size) ∧ (i < (wdsL s n e).length → (wdsL s n e).getD i noRp = (wA s (itE s e i), wE s (itE s e i), true)) := by
  intro n
  induction n with
  | zero =>
    intro e h i
    rw [out_it s i e (by omega), (out_A s e (by omega)).1]
    exact ⟨⟨fun h => (by simp [wdsL] at h), fun h2 => (by omega)⟩, fun h => (by simp [wdsL] at h)⟩
  | succ n ih =>
    intro e h i
    by_cases he : e < s.size
    · rw [wdsL, if_pos he]
      have hge := scan_ge ngB s s.size e
      have hle := scan_le ngB s s.size e (by omega)
      have hsame : Same s (scan ngB s s.size e) (scan ngB s s.size e + 1) := by
        by_cases hk : scan ngB s s.size e < s.size
        · have := scan_out ngB s s.size e (by omega) hk
          exact same_gap s _ hk (by cases hq : gapB (at_ s (scan ngB s s.size e)); rw [show ngB (at_ s (scan ngB s s.size e)) = !(gapB (at_ s (scan ngB s s.size e))) from rfl, hq] at this; cases this; rfl)
        · exact same_end s _ (by omega)
      have IH := ih (scan ngB s s.size e + 1) (by omega)
      by_cases hg : gapB (at_ s e) = true
      · have hk : scan ngB s s.size e = e := scan_stop _ _ _ _ (by unfold ngB; rw [hg]; simp)
        rw [if_neg (by omega), List.nil_append]
        rw [hk] at IH hsame ⊢
        obtain ⟨i1, i2⟩ := IH i
        obtain ⟨s1, s2⟩ := hsame i
        exact ⟨i1.trans s1.symm, fun hl => by rw [i2 hl, (s2 (i1.1 hl)).1, (s2 (i1.1 hl)).2]⟩
      · have hg' : gapB (at_ s e) = false := by cases hq : gapB (at_ s e); rfl; exact absurd hq hg
        have hA : wA s e = e := scan_stop _ _ _ _ (by rw [hg']; simp)
        have hE : wE s e = scan ngB s s.size e := by unfold wE; rw [hA]
        have hgt : e < scan ngB s s.size e := by
          have := wE_gt s e (by omega)
          rw [hE, hA] at this
          exact this
        rw [if_pos hgt]
        cases i with
        | zero =>
          refine ⟨⟨fun _ => by show wA s e < s.size; omega, fun _ => by simp⟩, fun _ => ?_⟩
          show (e, scan ngB s s.size e, true) = (wA s e, wE s e, true)
          rw [hA, hE]
        | succ i =>
          obtain ⟨i1, i2⟩ := IH i
          obtain ⟨s1, s2⟩ := hsame i
          have hit : itE s e (i + 1) = itE s (scan ngB s s.size e) i := by show itE s (wE s e) i = _; rw [hE]
          rw [hit]
          refine ⟨?_, fun hl => ?_⟩
          · rw [s1, ← i1]; simp
          · have hl' : i < (wdsL s n (scan ngB s s.size e + 1)).length := by simpa using hl
            rw [(s2 (i1.1 hl')).1, (s2 (i1.1 hl')).2, ← i2 hl']
            rfl
    · rw [wdsL, if_neg he, out_it s i e (by omega), (out_A s e (by omega)).1]
      exact ⟨⟨fun h => (by simp at h), fun h2 => (by omega)⟩, fun h => (by simp at h)⟩

set_option maxRecDepth 100000 in
set_option maxHeartbeats 8000000 in
theorem refWords_any (s : ByteArray) (hs : s.size ≤ 2000000) (w : World) :
    Calls Tryd.prog 33 #[.string s] w fun e w' => ∃ v, e = .returned v ∧ w'.ownsRow w.heap.size 81 3 v (wdsL s s.size 0).length (rpV (wdsL s s.size 0)) ∧ (wdsL s s.size 0).length ≤ s.size + 1 ∧ Below w.heap.size w w' := by
  obtain ⟨i3, ti, tz0, tz1, tz2⟩ := info_partsR
  obtain ⟨z, hz⟩ : ∃ z, wdsL s s.size 0 = z := ⟨_, rfl⟩
  rw [hz]
  have HZ0 : Hid (([] : List Rp) ++ wdsL s s.size 0 = z) := hz
  clear hz
  go_enter Tryd.func33, Tryd.ntmps33
  go_wp2
  go_loopw [3, 4] (fun vo vi wr => ∃ (n i : Nat) (o : List Rp), vi = .int .i64 i ∧ wr.ownsRow w.heap.size 81 3 vo o.length (rpV o) ∧ o ++ wdsL s n i = z ∧ s.size ≤ i + n ∧ i ≤ s.size + 1 ∧ o.length ≤ i ∧ Below w.heap.size w wr) (fun _ vi _ => s.size + 1 - (intOf vi).toNat)
  case atStart => exact ⟨s.size, 0, [], rfl, World.ownsRow_nil _ _ _ _, HZ0.out, by omega, Nat.zero_le _, Nat.zero_le _, Below.refl _ _⟩
  case round =>
    obtain ⟨n, i, o, rfl, O, hzc, hn, hi, ho, G⟩ := hrel
    clear HZ0
    obtain ⟨ao, oc, rfl⟩ : ∃ ao oc, u3 = .slice ao o.length oc := by obtain ⟨a, c, e, _⟩ := own_shape O; exact ⟨a, c, e⟩
    have zG := G.size
    by_cases hlt : i < s.size
    · obtain ⟨n, rfl⟩ : ∃ n', n = n' + 1 := ⟨n - 1, by omega⟩
      have hz1 : o ++ ((if i < scan ngB s s.size i then [(i, scan ngB s s.size i, true)] else []) ++ wdsL s n (scan ngB s s.size i + 1)) = z := by rw [← hzc, wdsL, if_pos hlt]
      clear hzc
      go_wp2
      go_loop [5] (fun x => ∃ k : Nat, x = .int .i64 k ∧ i ≤ k ∧ k ≤ s.size ∧ scan ngB s s.size k = scan ngB s s.size i) (fun x => s.size - (intOf x).toNat)
      case atStart => exact ⟨i, rfl, Nat.le_refl _, by omega, rfl⟩
      case round =>
        obtain ⟨k, rfl, hk1, hk2, hke⟩ := hrel
        have fin : k = scan ngB s s.size i → o ++ ((if i < k then [(i, k, true)] else []) ++ wdsL s n (k + 1)) = z := fun e => by rw [e]; exact hz1
        by_cases hend : k < s.size ∧ ngB (at_ s k) = true
        · obtain ⟨hkl, hg⟩ := hend
          have ik : ∀ u : World, (Instr.index 9 (.string s) (.int .i64 k)).run Tryd.prog u = .ok (.int .u8 (at_ s k)) u := byteW s k hkl Tryd.prog 9 (by kernel_rfl)
          have hke2 : scan ngB s s.size (k + 1) = scan ngB s s.size i := by rw [← hke]; exact (scan_go ngB s k hkl hg).symm
          have hab2 := at_lo s k
          have g1 : (at_ s k == 32) = false ∧ (at_ s k == 9) = false := by
            unfold ngB gapB at hg
            simp only [Bool.not_eq_true', decide_eq_false_iff_not] at hg
            simp only [beq_eq_false_iff_ne]
            omega
          obtain ⟨g2, g3⟩ := g1
          have g4 : (at_ s k != 32) = true := by rw [bne, g2]; rfl
          have g5 : (at_ s k != 9) = true := by rw [bne, g3]; rfl
          clear fin hg hz1
          generalize at_ s k = d at *
          go_wp2
          go_round
          case rel => exact ⟨k + 1, by go_num, by omega, by omega, hke2⟩
          case measure => simp [intOf]; omega
        · have hz2 := fin (by rw [← hke]; exact (scan_stop ngB s _ k hend).symm)
          clear hz1 fin hke
          by_cases hik : i < k
          · rw [if_pos hik] at hz2
            have q1 : (i : Int) < (k : Int) := by omega
            by_cases hkl : k < s.size
            · have ik : ∀ u : World, (Instr.index 9 (.string s) (.int .i64 k)).run Tryd.prog u = .ok (.int .u8 (at_ s k)) u := byteW s k hkl Tryd.prog 9 (by kernel_rfl)
              have hg : at_ s k = 32 ∨ at_ s k = 9 := by
                cases hq : gapB (at_ s k)
                · exact absurd ⟨hkl, by unfold ngB; rw [hq]; rfl⟩ hend
                · exact of_decide_eq_true hq
              clear hend
              generalize at_ s k = d at *
              rcases hg with rfl | rfl
              all_goals
                go_wp2_with (at_builtin; refine wpList_append_own _ rfl (.tmp 32) (.tmp 36) 65 rfl w.heap.size 81 i3 (.agg (rpA noRp)) 3 24 Tryd.underlying65 ti tz0 tz1 tz2 rfl (by decide) _ _ _ rfl (O.alloc _) ⟨wr.heap.size, 0, none⟩ 1 1 [.int .i64 i, .int .i64 k, .bool true] rfl rfl (new3r wr _ rfl _ _ _) (one_rp _ _ _) (by unfold maxLen; omega) (by omega) (by simp; omega) ?_)
                intro v8 w8 hown8 hgrow8 _
                have G8 : Below w.heap.size w w8 := (galloc G _).grown hgrow8 (by simp; omega) (fun r e => (O.lt _ e).1)
                have O8 : w8.ownsRow w.heap.size 81 3 v8 (o ++ [(i, k, true)]).length (rpV (o ++ [(i, k, true)])) := by rw [rpV_snoc, List.length_append]; exact hown8
                have hz8 : (o ++ [(i, k, true)]) ++ wdsL s n (k + 1) = z := by rw [List.append_assoc]; exact hz2
                clear hown8 hgrow8
                go_wp2
                go_roundw
                case rel => exact ⟨n, k + 1, o ++ [(i, k, true)], by go_num, O8, hz8, by omega, by omega, by rw [List.length_append]; show o.length + 1 ≤ _; omega, G8⟩
                case measure => simp [intOf]; omega
            · clear hend
              go_wp2_with (at_builtin; refine wpList_append_own _ rfl (.tmp 32) (.tmp 36) 65 rfl w.heap.size 81 i3 (.agg (rpA noRp)) 3 24 Tryd.underlying65 ti tz0 tz1 tz2 rfl (by decide) _ _ _ rfl (O.alloc _) ⟨wr.heap.size, 0, none⟩ 1 1 [.int .i64 i, .int .i64 k, .bool true] rfl rfl (new3r wr _ rfl _ _ _) (one_rp _ _ _) (by unfold maxLen; omega) (by omega) (by simp; omega) ?_)
              intro v8 w8 hown8 hgrow8 _
              have G8 : Below w.heap.size w w8 := (galloc G _).grown hgrow8 (by simp; omega) (fun r e => (O.lt _ e).1)
              have O8 : w8.ownsRow w.heap.size 81 3 v8 (o ++ [(i, k, true)]).length (rpV (o ++ [(i, k, true)])) := by rw [rpV_snoc, List.length_append]; exact hown8
              have hz8 : (o ++ [(i, k, true)]) ++ wdsL s n (k + 1) = z := by rw [List.append_assoc]; exact hz2
              clear hown8 hgrow8
              go_wp2
              go_roundw
              case rel => exact ⟨n, k + 1, o ++ [(i, k, true)], by go_num, O8, hz8, by omega, by omega, by rw [List.length_append]; show o.length + 1 ≤ _; omega, G8⟩
              case measure => simp [intOf]; omega
          · rw [if_neg hik, List.nil_append] at hz2
            obtain rfl : k = i := by omega
            have q1 : ¬ (k : Int) < (k : Int) := by omega
            have hkl : k < s.size := hlt
            have ik : ∀ u : World, (Instr.index 9 (.string s) (.int .i64 k)).run Tryd.prog u = .ok (.int .u8 (at_ s k)) u := byteW s k hkl Tryd.prog 9 (by kernel_rfl)
            have hg : at_ s k = 32 ∨ at_ s k = 9 := by
              cases hq : gapB (at_ s k)
              · exact absurd ⟨hkl, by unfold ngB; rw [hq]; rfl⟩ hend
              · exact of_decide_eq_true hq
            clear hend
            generalize at_ s k = d at *
            rcases hg with rfl | rfl
            all_goals
              go_wp2
              go_roundw
              case rel => exact ⟨n, k + 1, o, by go_num, O, hz2, by omega, by omega, by omega, G⟩
              case measure => simp [intOf]; omega
    · have hz1 : o = z := by
        rw [← hzc, show wdsL s n i = [] by cases n with | zero => rfl | succ n => rw [wdsL, if_neg hlt], List.append_nil]
      clear hzc
      go_wp2
      go_ret
      exact ⟨_, rfl, by rw [← hz1]; exact O, by rw [← hz1]; omega, G⟩

end Go.Proofs.YtkpnnofonocilaaDoor
