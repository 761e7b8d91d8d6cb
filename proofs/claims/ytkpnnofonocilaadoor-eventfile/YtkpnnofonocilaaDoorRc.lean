/- What the document's cut comes to. -/
import Derived.Test.YtkpnnofonocilaaDoorCp
namespace Go.Proofs.YtkpnnofonocilaaDoor
open Go.RowKit Go.BigFrame
set_option linter.unusedVariables false
set_option linter.unusedSimpArgs false

def rpA (q : Rp) : Array Value := #[.int .i64 q.1, .int .i64 q.2.1, .bool q.2.2]
def noRp : Rp := (0, 0, false)
def rpV (P : List Rp) : List Value := P.flatMap fun q => (rpA q).toList
theorem rpV_snoc (l : List Rp) (p : Rp) : rpV (l ++ [p]) = rpV l ++ (rpA p).toList := by simp [rpV]
theorem rpV_len (l : List Rp) : (rpV l).length = l.length * 3 := by
  induction l with
  | nil => rfl
  | cons p r ih =>
    have e : rpV (p :: r) = (rpA p).toList ++ rpV r := rfl
    rw [e, List.length_append, ih, List.length_cons]
    show 3 + _ = _
    omega
theorem rpV_at (l : List Rp) : ∀ i, i < l.length → ∀ j, j < 3 → (rpV l)[i * 3 + j]? = (rpA (l.getD i noRp)).toList[j]? := by
  induction l with
  | nil => intro i hi; simp at hi
  | cons t r ih =>
    intro i hi j hj
    have e : rpV (t :: r) = (rpA t).toList ++ rpV r := rfl
    have hl : (rpA t).toList.length = 3 := rfl
    rw [e]
    cases i with
    | zero =>
      rw [Nat.zero_mul, Nat.zero_add, List.getElem?_append_left (by omega)]
      rfl
    | succ i =>
      rw [List.getElem?_append_right (by omega), hl, show (i + 1) * 3 + j - 3 = i * 3 + j by omega]
      rw [ih i (by simpa using hi) j hj]
      rfl
theorem infoRps : (Tryd.prog.info? 81).map (fun i => (i.zero, i.size, i.bytes)) = some (some (.agg (rpA noRp)), 3, 24) := by kernel_rfl
theorem info_partsR : ∃ i, Tryd.prog.info? 81 = some i ∧ i.zero = some (.agg (rpA noRp)) ∧ i.size = 3 ∧ i.bytes = 24 := by
  have h := infoRps
  cases hq : Tryd.prog.info? 81 with
  | none => simp [hq] at h
  | some i => simp [hq] at h; exact ⟨i, rfl, h.1, h.2.1, h.2.2⟩
theorem new3r (w : World) (b : Nat) (hb : b = w.heap.size) (x y : Int) (t : Bool) (j : Nat) (u : Value) (h : [Value.int .i64 x, .int .i64 y, .bool t][j]? = some u) : (w.alloc (.cells #[.int .i64 x, .int .i64 y, .bool t] 81)).cell? ((⟨b, 0, none⟩ : Addr).add j) = some u := by
  subst hb
  rw [Go.WideShapes.add_plain, Nat.zero_add, World.cell?_alloc_new]
  simpa using h
theorem one_rp (x y : Int) (t : Bool) : ∀ u ∈ [Value.int .i64 x, .int .i64 y, .bool t], u.oneCell' = true := by
  intro u hu
  simp at hu
  rcases hu with rfl | rfl | rfl <;> rfl
theorem blk_no {c : Int} (h : blkB c = false) : (c == 32) = false ∧ (c == 9) = false ∧ (c == 10) = false ∧ (c == 13) = false := by
  unfold blkB at h
  have := of_decide_eq_false h
  simp only [beq_eq_false_iff_ne]
  omega
theorem at_lo (s : ByteArray) (k : Nat) : 0 ≤ at_ s k ∧ at_ s k ≤ 255 := by unfold at_; have := (s.data.getD k 0).toNat_lt; omega

set_option maxRecDepth 100000 in
set_option maxHeartbeats 16000000 in
theorem refCut_any (s : ByteArray) (hs : s.size ≤ 4096) (w : World) :
    Calls Tryd.prog 26 #[.string s] w fun e w' => ∃ v, e = .returned v ∧ w'.ownsRow w.heap.size 81 3 v (cutL s s.size 0).length (rpV (cutL s s.size 0)) ∧ Below w.heap.size w w' := by
  obtain ⟨i3, ti, tz0, tz1, tz2⟩ := info_partsR
  obtain ⟨z, hz⟩ : ∃ z, cutL s s.size 0 = z := ⟨_, rfl⟩
  rw [hz]
  have HZ0 : Hid (([] : List Rp) ++ cutL s s.size 0 = z) := hz
  clear hz
  go_enter Tryd.func26, Tryd.ntmps26
  go_wp2
  go_loopw [3, 4] (fun vo vi wr => ∃ (n i : Nat) (o : List Rp), vi = .int .i64 i ∧ wr.ownsRow w.heap.size 81 3 vo o.length (rpV o) ∧ o ++ cutL s n i = z ∧ s.size ≤ i + n ∧ i ≤ s.size ∧ o.length ≤ i ∧ Below w.heap.size w wr) (fun _ vi _ => s.size - (intOf vi).toNat)
  case atStart => exact ⟨s.size, 0, [], rfl, World.ownsRow_nil _ _ _ _, HZ0.out, by omega, Nat.zero_le _, Nat.zero_le _, Below.refl _ _⟩
  case round =>
    obtain ⟨n, i, o, rfl, O, hzc, hn, hi, ho, G⟩ := hrel
    clear HZ0
    obtain ⟨ao, oc, rfl⟩ : ∃ ao oc, u3 = .slice ao o.length oc := by obtain ⟨a, c, e, _⟩ := own_shape O; exact ⟨a, c, e⟩
    have zG := G.size
    by_cases hlt : i < s.size
    · obtain ⟨n, rfl⟩ : ∃ n', n = n' + 1 := ⟨n - 1, by omega⟩
      have hz1 : o ++ (if blkB (at_ s i) = true then cutL s n (i + 1) else if at_ s i = 35 then cutL s n (cmE s (i + 1))
          else if inW (at_ s i) = true then (i, wdE s (i + 1), true) :: cutL s n (wdE s (i + 1)) else (i, i + 1, false) :: cutL s n (i + 1)) = z := by
        rw [← hzc, cutL, if_pos hlt]
      clear hzc
      have i0 : ∀ u : World, (Instr.index 9 (.string s) (.int .i64 i)).run Tryd.prog u = .ok (.int .u8 (at_ s i)) u := byteW s i hlt Tryd.prog 9 (by kernel_rfl)
      have hab := at_lo s i
      have cI := fun (u : World) => refInWord_any (at_ s i) u
      generalize at_ s i = c at *
      cases hb : blkB c
      · obtain ⟨b1, b2, b3, b4⟩ := blk_no hb
        rw [hb, if_neg (by decide)] at hz1
        by_cases h35 : c = 35
        · subst h35
          rw [if_pos rfl] at hz1
          clear cI hb b1 b2 b3 b4
          go_wp2
          go_loop [6] (fun x => ∃ k : Nat, x = .int .i64 k ∧ i + 1 ≤ k ∧ k ≤ s.size ∧ cmE s k = cmE s (i + 1)) (fun x => s.size - (intOf x).toNat)
          case atStart => exact ⟨i + 1, by go_num, Nat.le_refl _, by omega, rfl⟩
          case round =>
            obtain ⟨k, rfl, hk1, hk2, hke⟩ := hrel
            by_cases hkl : k < s.size
            · have ik : ∀ u : World, (Instr.index 9 (.string s) (.int .i64 k)).run Tryd.prog u = .ok (.int .u8 (at_ s k)) u := byteW s k hkl Tryd.prog 9 (by kernel_rfl)
              have hab2 := at_lo s k
              cases hc : (at_ s k == 10)
              · have hke2 : cmE s (k + 1) = cmE s (i + 1) := by
                  rw [← hke]
                  exact (scan_go notNl s k hkl (by unfold notNl; rw [bne, hc]; rfl)).symm
                generalize at_ s k = d at *
                go_wp2
                go_round
                case rel => exact ⟨k + 1, by go_num, by omega, by omega, hke2⟩
                case measure => simp [intOf]; omega
              · have hke2 : k = cmE s (i + 1) := by
                  rw [← hke]
                  exact (scan_stop notNl s _ k (by unfold notNl; rw [bne, hc]; simp)).symm
                rw [← hke2] at hz1
                clear hke hke2
                generalize at_ s k = d at *
                go_wp2
                go_roundw
                case rel => exact ⟨n, k, o, rfl, O, hz1, by omega, by omega, by omega, G⟩
                case measure => simp [intOf]; omega
            · have hke2 : k = cmE s (i + 1) := by
                rw [← hke]
                exact (scan_stop notNl s _ k (by omega)).symm
              rw [← hke2] at hz1
              clear hke hke2
              go_wp2
              go_roundw
              case rel => exact ⟨n, k, o, rfl, O, hz1, by omega, by omega, by omega, G⟩
              case measure => simp [intOf]; omega
        · have n35 : (c == 35) = false := by simpa using h35
          rw [if_neg h35] at hz1
          cases hw : inW c
          · rw [hw] at cI
            rw [hw, if_neg (by decide)] at hz1
            go_wp2_with (first
              | (go_at_call 45; (with_reducible refine (cI _).mono ?_); rintro e4 u4' ⟨rfl, rfl⟩)
              | (at_builtin; refine wpList_append_own _ rfl (.tmp 16) (.tmp 20) 65 rfl w.heap.size 81 i3 (.agg (rpA noRp)) 3 24 Tryd.underlying65 ti tz0 tz1 tz2 rfl (by decide) _ _ _ rfl (O.alloc _) ⟨wr.heap.size, 0, none⟩ 1 1 [.int .i64 i, .int .i64 ((i : Int) + 1), .bool false] rfl rfl (new3r wr _ rfl _ _ _) (one_rp _ _ _) (by unfold maxLen; omega) (by omega) (by simp; omega) ?_))
            intro v8 w8 hown8 hgrow8 _
            have G8 : Below w.heap.size w w8 := (galloc G _).grown hgrow8 (by simp; omega) (fun r e => (O.lt _ e).1)
            have O8 : w8.ownsRow w.heap.size 81 3 v8 (o ++ [(i, i + 1, false)]).length (rpV (o ++ [(i, i + 1, false)])) := by rw [rpV_snoc, List.length_append]; exact hown8
            have hz8 : (o ++ [(i, i + 1, false)]) ++ cutL s n (i + 1) = z := by rw [List.append_assoc]; exact hz1
            clear hown8 hgrow8
            go_wp2
            go_roundw
            case rel => exact ⟨n, i + 1, o ++ [(i, i + 1, false)], by go_num, O8, hz8, by omega, by omega, by rw [List.length_append]; show o.length + 1 ≤ _; omega, G8⟩
            case measure => simp [intOf]; omega
          · rw [hw] at cI
            rw [hw, if_pos rfl] at hz1
            go_wp2_with (first
              | (go_at_call 45; (with_reducible refine (cI _).mono ?_); rintro e4 u4' ⟨rfl, rfl⟩))
            clear cI
            go_loop [6] (fun x => ∃ k : Nat, x = .int .i64 k ∧ i + 1 ≤ k ∧ k ≤ s.size ∧ wdE s k = wdE s (i + 1)) (fun x => s.size - (intOf x).toNat)
            case atStart => exact ⟨i + 1, by go_num, Nat.le_refl _, by omega, rfl⟩
            case round =>
              obtain ⟨k, rfl, hk1, hk2, hke⟩ := hrel
              have fin : k = wdE s (i + 1) → o ++ (i, k, true) :: cutL s n k = z := fun e => by rw [e]; exact hz1
              by_cases hkl : k < s.size
              · have ik : ∀ u : World, (Instr.index 9 (.string s) (.int .i64 k)).run Tryd.prog u = .ok (.int .u8 (at_ s k)) u := byteW s k hkl Tryd.prog 9 (by kernel_rfl)
                have hab2 := at_lo s k
                have cK := fun (u : World) => refInWord_any (at_ s k) u
                cases hc : inW (at_ s k)
                · have hz2 := fin (by rw [← hke]; exact (scan_stop inW s _ k (by rw [hc]; simp)).symm)
                  rw [hc] at cK
                  clear hke hz1 fin hc
                  generalize at_ s k = d at *
                  go_wp2_with (first
                    | (go_at_call 45; (with_reducible refine (cK _).mono ?_); rintro e4 u4' ⟨rfl, rfl⟩)
                    | (at_builtin; refine wpList_append_own _ rfl (.tmp 67) (.tmp 71) 65 rfl w.heap.size 81 i3 (.agg (rpA noRp)) 3 24 Tryd.underlying65 ti tz0 tz1 tz2 rfl (by decide) _ _ _ rfl (O.alloc _) ⟨wr.heap.size, 0, none⟩ 1 1 [.int .i64 i, .int .i64 k, .bool true] rfl rfl (new3r wr _ rfl _ _ _) (one_rp _ _ _) (by unfold maxLen; omega) (by omega) (by simp; omega) ?_))
                  intro v8 w8 hown8 hgrow8 _
                  have G8 : Below w.heap.size w w8 := (galloc G _).grown hgrow8 (by simp; omega) (fun r e => (O.lt _ e).1)
                  have O8 : w8.ownsRow w.heap.size 81 3 v8 (o ++ [(i, k, true)]).length (rpV (o ++ [(i, k, true)])) := by rw [rpV_snoc, List.length_append]; exact hown8
                  have hz8 : (o ++ [(i, k, true)]) ++ cutL s n k = z := by rw [List.append_assoc]; exact hz2
                  clear hown8 hgrow8
                  go_wp2
                  go_roundw
                  case rel => exact ⟨n, k, o ++ [(i, k, true)], rfl, O8, hz8, by omega, by omega, by rw [List.length_append]; show o.length + 1 ≤ _; omega, G8⟩
                  case measure => simp [intOf]; omega
                · have hke2 : wdE s (k + 1) = wdE s (i + 1) := by rw [← hke]; exact (scan_go inW s k hkl hc).symm
                  rw [hc] at cK
                  clear fin hc
                  generalize at_ s k = d at *
                  go_wp2_with (go_at_call 45; (with_reducible refine (cK _).mono ?_); rintro e4 u4' ⟨rfl, rfl⟩)
                  go_round
                  case rel => exact ⟨k + 1, by go_num, by omega, by omega, hke2⟩
                  case measure => simp [intOf]; omega
              · have hz2 := fin (by rw [← hke]; exact (scan_stop inW s _ k (by omega)).symm)
                clear hke hz1 fin
                go_wp2_with (at_builtin; refine wpList_append_own _ rfl (.tmp 67) (.tmp 71) 65 rfl w.heap.size 81 i3 (.agg (rpA noRp)) 3 24 Tryd.underlying65 ti tz0 tz1 tz2 rfl (by decide) _ _ _ rfl (O.alloc _) ⟨wr.heap.size, 0, none⟩ 1 1 [.int .i64 i, .int .i64 k, .bool true] rfl rfl (new3r wr _ rfl _ _ _) (one_rp _ _ _) (by unfold maxLen; omega) (by omega) (by simp; omega) ?_)
                intro v8 w8 hown8 hgrow8 _
                have G8 : Below w.heap.size w w8 := (galloc G _).grown hgrow8 (by simp; omega) (fun r e => (O.lt _ e).1)
                have O8 : w8.ownsRow w.heap.size 81 3 v8 (o ++ [(i, k, true)]).length (rpV (o ++ [(i, k, true)])) := by rw [rpV_snoc, List.length_append]; exact hown8
                have hz8 : (o ++ [(i, k, true)]) ++ cutL s n k = z := by rw [List.append_assoc]; exact hz2
                clear hown8 hgrow8
                go_wp2
                go_roundw
                case rel => exact ⟨n, k, o ++ [(i, k, true)], rfl, O8, hz8, by omega, by omega, by rw [List.length_append]; show o.length + 1 ≤ _; omega, G8⟩
                case measure => simp [intOf]; omega
      · rw [hb, if_pos rfl] at hz1
        clear cI
        have hb' : c = 32 ∨ c = 9 ∨ c = 10 ∨ c = 13 := of_decide_eq_true hb
        clear hb
        rcases hb' with e | e | e | e
        all_goals
          subst e
          go_wp2
          go_roundw
          case rel => exact ⟨n, i + 1, o, by go_num, O, hz1, by omega, by omega, by omega, G⟩
          case measure => simp [intOf]; omega
    · have hz1 : o = z := by
        rw [← hzc, show cutL s n i = [] by cases n with | zero => rfl | succ n => rw [cutL, if_neg hlt], List.append_nil]
      clear hzc
      go_wp2
      go_ret
      exact ⟨_, rfl, by rw [← hz1]; exact O, G⟩

end Go.Proofs.YtkpnnofonocilaaDoor
