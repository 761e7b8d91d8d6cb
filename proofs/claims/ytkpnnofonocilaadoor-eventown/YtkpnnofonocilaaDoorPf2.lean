/- What event's piecesOf comes to. -/
import Derived.Test.YtkpnnofonocilaaDoorPf
namespace Go.Proofs.YtkpnnofonocilaaDoor
open Go.RowKit Go.BigFrame
set_option linter.unusedVariables false
set_option linter.unusedSimpArgs false

set_option maxRecDepth 100000 in
set_option maxHeartbeats 16000000 in
theorem piecesOf_any (s : ByteArray) (hs : s.size ≤ 4096) (w : World) :
    Calls Tryd.prog 23 #[.string s] w fun e w' => ∃ v, e = .returned v ∧ w'.ownsRow w.heap.size 63 4 v (pL s s.size 0 none false).length (pcV (pL s s.size 0 none false)) ∧ Below w.heap.size w w' := by
  obtain ⟨i3, ti, tz0, tz1, tz2⟩ := info_partsP
  obtain ⟨z, hz⟩ : ∃ z, pL s s.size 0 none false = z := ⟨_, rfl⟩
  rw [hz]
  have HZ0 : Hid (([] : List Pc) ++ pL s s.size 0 none false = z) := hz
  clear hz
  have cWP : ∀ (x : ByteArray) (a : Int) (u : World), Calls Tryd.prog 42 #[.string x, .int .i64 a] u fun e w' => e = .returned (.agg #[.int .i64 0, .string x, .int .i32 0, .int .i64 a]) ∧ Below u.heap.size u w' := fun x a u => wordPiece_any x a u
  go_enter Tryd.func23, Tryd.ntmps23
  go_wp2
  go_loopw [3, 4, 5] (fun vo vb vc wr => ∃ (n p : Nat) (bg : Option Nat) (cm : Bool) (o : List Pc), vb = .int .i64 (bgI bg) ∧ vc = .bool cm ∧ wr.heap[w.heap.size]? = some (.stringIter s p) ∧ wr.ownsRow w.heap.size 63 4 vo o.length (pcV o) ∧ o ++ pL s n p bg cm = z ∧ s.size ≤ p + n ∧ p ≤ s.size ∧ (cm = true → bg = none) ∧ (∀ b, bg = some b → b < p ∧ o.length ≤ 2 * b) ∧ o.length ≤ 2 * p ∧ Below w.heap.size w wr) (fun _ _ _ wr => s.size - wr.iterPos w.heap.size)
  case atStart => exact ⟨s.size, 0, none, false, [], rfl, rfl, World.iter_heap w s 0, World.ownsRow_nil _ _ _ _, HZ0.out, by omega, Nat.zero_le _, fun h => rfl, fun b e => (by cases e), Nat.zero_le _, galloc (Below.refl _ _) _⟩
  case round =>
    obtain ⟨n, p, bg, cm, o, rfl, rfl, hit, O, hzc, hn, hp, hcb, hbp, hol, G⟩ := hrel
    clear HZ0
    have hzw : w.heap.size < wr.heap.size := (Array.getElem?_eq_some_iff.1 hit).1
    by_cases hlt : p < s.size
    · obtain ⟨n, rfl⟩ : ∃ n', n = n' + 1 := ⟨n - 1, by omega⟩
      have hnx : ∀ ty, (Instr.next (.pointer (some ⟨w.heap.size, 0, none⟩)) true ty).run Tryd.prog wr = .ok (.tuple #[.bool true, .int .i64 p, .int .i32 (rn s p)]) (wr.iterAt w.heap.size s (nx s p)) := fun ty => Lib.run_next_any_at wr w.heap.size s p ty hit hlt
      have hq := nx_gt s p hlt
      have hit2 := Lib.iterAt_heap wr w.heap.size s p (nx s p) hit
      have O2 := own_iter O hit (nx s p)
      have G2 := Lib.below_iterAt G (Nat.le_refl _) s (nx s p)
      have hmz : wr.iterPos w.heap.size = p := by simp [World.iterPos, hit]
      have hwi : w.heap.size < (wr.iterAt w.heap.size s (nx s p)).heap.size := by rw [Lib.iterAt_size]; exact hzw
      have cI := fun (u : World) => inWord_any (rn s p) u
      have cB := fun (u : World) => isBlankR_any (rn s p) u
      have e_in := fun b (h : inW (rn s p) = true) => pL_in s n p b cm hlt h
      have e_wd := fun b (h : inW (rn s p) = false) => pL_word s n p b cm hlt h
      have e_no := pL_none s n p cm hlt
      have hr35 : inW (rn s p) = true → rn s p ≠ 35 ∧ blkB (rn s p) = false := fun h => ⟨fun e => by rw [e] at h; exact absurd h (by decide), by
        cases hb : blkB (rn s p)
        · rfl
        · unfold blkB at hb
          have hb' := of_decide_eq_true hb
          rcases hb' with e | e | e | e <;> (rw [e] at h; exact absurd h (by decide))⟩
      generalize nx s p = q at *
      generalize rn s p = r at *
      generalize wr.iterAt w.heap.size s q = wi at *
      have hmeas : ∀ u : World, u.heap[w.heap.size]? = some (.stringIter s q) → s.size - u.iterPos w.heap.size < s.size - wr.iterPos w.heap.size := fun u hu => by
        rw [hmz, show u.iterPos w.heap.size = q from by simp [World.iterPos, hu]]; omega
      have hpI : (p : Int) ≤ 4096 := by omega
      have hpS : (p : Int) ≤ (s.size : Int) := by omega
      obtain ⟨ao, oc, rfl⟩ : ∃ ao oc, u3 = .slice ao o.length oc := by obtain ⟨a, c, e, _⟩ := own_shape O; exact ⟨a, c, e⟩
      cases bg with
      | some b =>
        have hcm : cm = false := by
          cases cm
          · rfl
          · have := hcb rfl; cases this
        subst hcm
        obtain ⟨hb, hob⟩ := hbp b rfl
        have hbI : (b : Int) ≤ (p : Int) := by omega
        have hb0 : (0 : Int) ≤ (b : Int) := by omega
        rw [show bgI (some b) = (b : Int) from rfl]
        cases hw : inW r
        · rw [hw] at cI
          have e1 := e_wd b hw
          rw [e1] at hzc
          clear e_in e_wd e1
          go_wp2_with (first
            | (go_at_call 41; (with_reducible refine (cI _).mono ?_); rintro e4 u4' ⟨rfl, rfl⟩)
            | (go_at_call 42; (with_reducible refine (cWP _ _ _).mono ?_); rintro e5 u5' ⟨rfl, g5⟩)
            | (at_builtin; refine wpList_append_own _ rfl (.tmp 21) (.tmp 28) 56 rfl w.heap.size 63 i3 (.agg (pcA ⟨0, ⟨#[]⟩, 0, 0⟩)) 4 40 Tryd.underlying56 ti tz0 tz1 tz2 rfl (by decide) _ _ _ rfl ((own_keep O2 g5).alloc _) ⟨u5'.heap.size, 0, none⟩ 1 1 (pcA (wP s b p)).toList rfl rfl (new4p u5' _ rfl (wP s b p)) (one_pc _) (by unfold maxLen; omega) (by omega) (by have := g5.size; simp; omega) ?_))
          intro v6 w6 hown6 hgrow6 _
          have hit6 : w6.heap[w.heap.size]? = some (.stringIter s q) := (hgrow6.block _ (by have := g5.size; simp; omega) (own_not_iter O2 hit2)).trans ((Below.heap_alloc _ _ _ (by have := g5.size; omega)).trans ((g5.block _ (by omega)).trans hit2))
          have G6 : Below w.heap.size w w6 := (galloc (gtrans G2 g5) _).grown hgrow6 (by have := g5.size; simp; omega) (fun r e => (O2.lt _ e).1)
          have O6 : w6.ownsRow w.heap.size 63 4 v6 (o ++ [wP s b p]).length (pcV (o ++ [wP s b p])) := by rw [pcV_snoc, List.length_append]; exact hown6
          have hz6 : (o ++ [wP s b p]) ++ pL s (n + 1) p none false = z := by rw [List.append_assoc]; exact hzc
          have hol6 : (o ++ [wP s b p]).length ≤ 2 * p := by rw [List.length_append]; show o.length + 1 ≤ 2 * p; omega
          have zw6 : w.heap.size < w6.heap.size := (Array.getElem?_eq_some_iff.1 hit6).1
          obtain ⟨a6, c6, rfl⟩ : ∃ ao oc, v6 = .slice ao (o ++ [wP s b p]).length oc := by obtain ⟨a, c, e, _⟩ := own_shape O6; exact ⟨a, c, e⟩
          rw [e_no, if_neg (by decide)] at hz6
          clear hown6 hgrow6 hit2 hit O2 O e_no hzc hol
          generalize o ++ [wP s b p] = o6 at *
          by_cases h35 : r = 35
          · subst h35
            rw [if_pos rfl] at hz6
            go_wp2
            go_roundw
            case rel => exact ⟨n, q, none, true, o6, rfl, rfl, hit6, O6, hz6, by omega, hq.2, fun _ => rfl, fun b e => (by cases e), by omega, G6⟩
            case measure => exact hmeas _ hit6
          · have n35 : (r == 35) = false := by simpa using h35
            rw [if_neg h35, hw, if_neg (by decide)] at hz6
            cases hk : blkB r
            · rw [hk] at cB
              rw [hk, if_neg (by decide)] at hz6
              go_wp2_with (first
                | (go_at_call 41; (with_reducible refine (cI _).mono ?_); rintro e4 u4' ⟨rfl, rfl⟩)
                | (go_at_call 43; (with_reducible refine (cB _).mono ?_); rintro e4 u4' ⟨rfl, rfl⟩)
                | (at_builtin; refine wpList_append_own _ rfl (.tmp 47) (.tmp 51) 56 rfl w.heap.size 63 i3 (.agg (pcA ⟨0, ⟨#[]⟩, 0, 0⟩)) 4 40 Tryd.underlying56 ti tz0 tz1 tz2 rfl (by decide) _ _ _ rfl (O6.alloc _) ⟨w6.heap.size, 0, none⟩ 1 1 (pcA (mP r p)).toList rfl rfl (new4p w6 _ rfl (mP r p)) (one_pc _) (by unfold maxLen; omega) (by omega) (by simp; omega) ?_))
              intro v8 w8 hown8 hgrow8 _
              have hit8 : w8.heap[w.heap.size]? = some (.stringIter s q) := (hgrow8.block _ (by simp; omega) (own_not_iter O6 hit6)).trans ((Below.heap_alloc _ _ _ zw6).trans hit6)
              have G8 : Below w.heap.size w w8 := (galloc G6 _).grown hgrow8 (by simp; omega) (fun r e => (O6.lt _ e).1)
              have O8 : w8.ownsRow w.heap.size 63 4 v8 (o6 ++ [mP r p]).length (pcV (o6 ++ [mP r p])) := by rw [pcV_snoc, List.length_append]; exact hown8
              have hz8 : (o6 ++ [mP r p]) ++ pL s n q none false = z := by rw [List.append_assoc]; exact hz6
              clear hown8 hgrow8
              go_wp2
              go_roundw
              case rel => exact ⟨n, q, none, false, o6 ++ [mP r p], rfl, rfl, hit8, O8, hz8, by omega, hq.2, fun _ => rfl, fun b e => (by cases e), by rw [List.length_append]; show o6.length + 1 ≤ 2 * q; omega, G8⟩
              case measure => exact hmeas _ hit8
            · rw [hk] at cB
              rw [hk, if_pos rfl] at hz6
              go_wp2_with (first
                | (go_at_call 41; (with_reducible refine (cI _).mono ?_); rintro e4 u4' ⟨rfl, rfl⟩)
                | (go_at_call 43; (with_reducible refine (cB _).mono ?_); rintro e4 u4' ⟨rfl, rfl⟩))
              go_roundw
              case rel => exact ⟨n, q, none, false, o6, rfl, rfl, hit6, O6, hz6, by omega, hq.2, fun _ => rfl, fun b e => (by cases e), by omega, G6⟩
              case measure => exact hmeas _ hit6
        · rw [hw] at cI
          rw [e_in b hw] at hzc
          have hr := hr35 hw
          have n35 : (r == 35) = false := by simpa using hr.1
          clear e_in e_wd e_no
          go_wp2_with (go_at_call 41; (with_reducible refine (cI _).mono ?_); rintro e4 u4' ⟨rfl, rfl⟩)
          go_roundw
          case rel => exact ⟨n, q, some b, false, o, rfl, rfl, hit2, O2, hzc, by omega, hq.2, fun h => (by cases h), fun c e => (by cases e; exact ⟨by omega, by omega⟩), by omega, G2⟩
          case measure => exact hmeas _ hit2
      | none =>
        rw [show bgI none = -1 from rfl]
        rw [e_no] at hzc
        clear e_in e_wd e_no
        cases cm
        · rw [if_neg (by decide)] at hzc
          by_cases h35 : r = 35
          · subst h35
            rw [if_pos rfl] at hzc
            go_wp2
            go_roundw
            case rel => exact ⟨n, q, none, true, o, rfl, rfl, hit2, O2, hzc, by omega, hq.2, fun _ => rfl, fun b e => (by cases e), by omega, G2⟩
            case measure => exact hmeas _ hit2
          · have n35 : (r == 35) = false := by simpa using h35
            rw [if_neg h35] at hzc
            cases hw : inW r
            · rw [hw] at cI
              rw [hw, if_neg (by decide)] at hzc
              cases hk : blkB r
              · rw [hk] at cB
                rw [hk, if_neg (by decide)] at hzc
                go_wp2_with (first
                  | (go_at_call 41; (with_reducible refine (cI _).mono ?_); rintro e4 u4' ⟨rfl, rfl⟩)
                  | (go_at_call 43; (with_reducible refine (cB _).mono ?_); rintro e4 u4' ⟨rfl, rfl⟩)
                  | (at_builtin; refine wpList_append_own _ rfl (.tmp 47) (.tmp 51) 56 rfl w.heap.size 63 i3 (.agg (pcA ⟨0, ⟨#[]⟩, 0, 0⟩)) 4 40 Tryd.underlying56 ti tz0 tz1 tz2 rfl (by decide) _ _ _ rfl (O2.alloc _) ⟨wi.heap.size, 0, none⟩ 1 1 (pcA (mP r p)).toList rfl rfl (new4p wi _ rfl (mP r p)) (one_pc _) (by unfold maxLen; omega) (by omega) (by simp; omega) ?_))
                intro v8 w8 hown8 hgrow8 _
                have hit8 : w8.heap[w.heap.size]? = some (.stringIter s q) := (hgrow8.block _ (by simp; omega) (own_not_iter O2 hit2)).trans ((Below.heap_alloc _ _ _ (by omega)).trans hit2)
                have G8 : Below w.heap.size w w8 := (galloc G2 _).grown hgrow8 (by simp; omega) (fun r e => (O2.lt _ e).1)
                have O8 : w8.ownsRow w.heap.size 63 4 v8 (o ++ [mP r p]).length (pcV (o ++ [mP r p])) := by rw [pcV_snoc, List.length_append]; exact hown8
                have hz8 : (o ++ [mP r p]) ++ pL s n q none false = z := by rw [List.append_assoc]; exact hzc
                clear hown8 hgrow8
                go_wp2
                go_roundw
                case rel => exact ⟨n, q, none, false, o ++ [mP r p], rfl, rfl, hit8, O8, hz8, by omega, hq.2, fun _ => rfl, fun b e => (by cases e), by rw [List.length_append]; show o.length + 1 ≤ 2 * q; omega, G8⟩
                case measure => exact hmeas _ hit8
              · rw [hk] at cB
                rw [hk, if_pos rfl] at hzc
                go_wp2_with (first
                  | (go_at_call 41; (with_reducible refine (cI _).mono ?_); rintro e4 u4' ⟨rfl, rfl⟩)
                  | (go_at_call 43; (with_reducible refine (cB _).mono ?_); rintro e4 u4' ⟨rfl, rfl⟩))
                go_roundw
                case rel => exact ⟨n, q, none, false, o, rfl, rfl, hit2, O2, hzc, by omega, hq.2, fun _ => rfl, fun b e => (by cases e), by omega, G2⟩
                case measure => exact hmeas _ hit2
            · rw [hw] at cI
              rw [hw, if_pos rfl] at hzc
              go_wp2_with (go_at_call 41; (with_reducible refine (cI _).mono ?_); rintro e4 u4' ⟨rfl, rfl⟩)
              go_roundw
              case rel => exact ⟨n, q, some p, false, o, rfl, rfl, hit2, O2, hzc, by omega, hq.2, fun h => (by cases h), fun c e => (by cases e; exact ⟨by omega, by omega⟩), by omega, G2⟩
              case measure => exact hmeas _ hit2
        · rw [if_pos rfl] at hzc
          go_wp2
          go_roundw
          case rel => exact ⟨n, q, none, (r != 10), o, rfl, rfl, hit2, O2, hzc, by omega, hq.2, fun _ => rfl, fun b e => (by cases e), by omega, G2⟩
          case measure => exact hmeas _ hit2
    · have e_end := pL_end s n p bg cm hlt
      have hnx : ∀ ty, (Instr.next (.pointer (some ⟨w.heap.size, 0, none⟩)) true ty).run Tryd.prog wr = .ok (.tuple #[.bool false]) wr := fun ty => Lib.run_next_end_at wr w.heap.size s p ty hit hlt
      rw [e_end] at hzc
      obtain ⟨ao, oc, rfl⟩ : ∃ ao oc, u3 = .slice ao o.length oc := by obtain ⟨a, c, e, _⟩ := own_shape O; exact ⟨a, c, e⟩
      clear hit e_end
      cases bg with
      | some b =>
        obtain ⟨hb, hob⟩ := hbp b rfl
        have hbI : (b : Int) ≤ (s.size : Int) := by omega
        have hb0 : (0 : Int) ≤ (b : Int) := by omega
        have hzz : (o ++ [wP s b s.size]) ++ [eP s] = z := by rw [List.append_assoc]; exact hzc
        rw [show bgI (some b) = (b : Int) from rfl]
        go_wp2_with (first
          | (go_at_call 42; (with_reducible refine (cWP _ _ _).mono ?_); rintro e5 u5' ⟨rfl, g5⟩; have O5 := own_keep O g5; have z5 := g5.size)
          | (at_builtin; refine wpList_append_own _ rfl (.tmp 55) (.tmp 61) 56 rfl w.heap.size 63 i3 (.agg (pcA ⟨0, ⟨#[]⟩, 0, 0⟩)) 4 40 Tryd.underlying56 ti tz0 tz1 tz2 rfl (by decide) _ _ _ rfl (O5.alloc _) ⟨u5'.heap.size, 0, none⟩ 1 1 (pcA (wP s b s.size)).toList rfl rfl (new4p u5' _ rfl (wP s b s.size)) (one_pc _) (by unfold maxLen; omega) (by omega) (by simp; omega) ?_))
        intro v6 w6 hown6 hgrow6 _
        have G6 : Below w.heap.size w w6 := (galloc (gtrans G g5) _).grown hgrow6 (by simp; omega) (fun r e => (O.lt _ e).1)
        have O6 : w6.ownsRow w.heap.size 63 4 v6 (o ++ [wP s b s.size]).length (pcV (o ++ [wP s b s.size])) := by rw [pcV_snoc, List.length_append]; exact hown6
        have ho6 : (o ++ [wP s b s.size]).length ≤ 10000 := by rw [List.length_append]; show o.length + 1 ≤ _; omega
        obtain ⟨a6, c6, rfl⟩ : ∃ ao oc, v6 = .slice ao (o ++ [wP s b s.size]).length oc := by obtain ⟨a, c, e, _⟩ := own_shape O6; exact ⟨a, c, e⟩
        have z6 := G6.size
        clear hown6 hgrow6 hzc
        generalize o ++ [wP s b s.size] = o6 at *
        go_wp2_with (at_builtin; refine wpList_append_own _ rfl (.tmp 63) (.tmp 67) 56 rfl w.heap.size 63 i3 (.agg (pcA ⟨0, ⟨#[]⟩, 0, 0⟩)) 4 40 Tryd.underlying56 ti tz0 tz1 tz2 rfl (by decide) _ _ _ rfl (O6.alloc _) ⟨w6.heap.size, 0, none⟩ 1 1 (pcA (eP s)).toList rfl rfl (new4p w6 _ rfl (eP s)) (one_pc _) (by unfold maxLen; omega) (by omega) (by simp; omega) ?_)
        intro v8 w8 hown8 hgrow8 _
        have G8 : Below w.heap.size w w8 := (galloc G6 _).grown hgrow8 (by simp; omega) (fun r e => (O6.lt _ e).1)
        have O8 : w8.ownsRow w.heap.size 63 4 v8 (o6 ++ [eP s]).length (pcV (o6 ++ [eP s])) := by rw [pcV_snoc, List.length_append]; exact hown8
        clear hown8 hgrow8
        go_wp2
        go_ret
        exact ⟨v8, rfl, by rw [← hzz]; exact O8, G8⟩
      | none =>
        have hzz : o ++ [eP s] = z := hzc
        rw [show bgI none = -1 from rfl]
        go_wp2_with (at_builtin; refine wpList_append_own _ rfl (.tmp 63) (.tmp 67) 56 rfl w.heap.size 63 i3 (.agg (pcA ⟨0, ⟨#[]⟩, 0, 0⟩)) 4 40 Tryd.underlying56 ti tz0 tz1 tz2 rfl (by decide) _ _ _ rfl (O.alloc _) ⟨wr.heap.size, 0, none⟩ 1 1 (pcA (eP s)).toList rfl rfl (new4p wr _ rfl (eP s)) (one_pc _) (by unfold maxLen; omega) (by omega) (by simp; omega) ?_)
        intro v8 w8 hown8 hgrow8 _
        have G8 : Below w.heap.size w w8 := (galloc G _).grown hgrow8 (by simp; omega) (fun r e => (O.lt _ e).1)
        have O8 : w8.ownsRow w.heap.size 63 4 v8 (o ++ [eP s]).length (pcV (o ++ [eP s])) := by rw [pcV_snoc, List.length_append]; exact hown8
        clear hown8 hgrow8
        go_wp2
        go_ret
        exact ⟨v8, rfl, by rw [← hzz]; exact O8, G8⟩

end Go.Proofs.YtkpnnofonocilaaDoor
