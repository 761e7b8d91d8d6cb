/- Tree, and the document's: is a row of nodes a well shaped tree? -/
import Derived.Test.YtlejhococjlijaaGreatDoorShb
namespace Go.Proofs.YtlejhococjlijaaGreatDoor
open Go.RowKit Go.BigFrame Go.Proofs.YtlejhococjlijaaGreatDoor.Ev
set_option linter.unusedVariables false
set_option linter.unusedSimpArgs false

theorem begsO_len : ∀ (ns : List Nd) (bs l : List Int), begsO ns bs = some l → l.length = bs.length + ns.length
  | [], bs, l, h => by simp [begsO] at h; subst h; simp
  | n :: t, bs, l, h => by
    unfold begsO at h
    cases hn : nodeO n bs with
    | none => rw [hn] at h; cases h
    | some b =>
      rw [hn] at h
      have := begsO_len t _ l h
      simp only [List.length_append, List.length_cons, List.length_nil] at this ⊢
      omega
/-- The way so far, and what is left. -/
theorem begsO_app (ns : List Nd) : ∀ (bs : List Int) (k : Nat), k < ns.length → begsO (ns.drop k) bs = match nodeO (ns.getD k noNd) bs with | some b => begsO (ns.drop (k + 1)) (bs ++ [b]) | none => none := by
  intro bs k hk
  rw [List.drop_eq_getElem_cons hk]
  rw [show ns.getD k noNd = ns[k] by simp [List.getD, List.getElem?_eq_getElem hk]]
  rfl

set_option maxRecDepth 100000 in
set_option maxHeartbeats 4000000 in
theorem shTree_any (ns : List Nd) (ao : Option Addr) (cap : Nat) (w : World) (K : KwAt w) (A : IsNds w ao ns) (hr : ns.length * 64 ≤ 140737488351232) (hf : ∀ k, (ns.getD k noNd).fit) :
    Calls Tryz.prog 35 #[.slice ao ns.length cap] w fun e w' => e = .returned (.bool (treeB ns)) ∧ Below w.heap.size w w' := by
  obtain ⟨i0, hi, hz0, hz1, hz2⟩ := of_info int_info
  obtain ⟨n, hn⟩ : ∃ n, ns.length = n := ⟨_, rfl⟩
  rw [hn] at hr ⊢
  go_enter Tryz.func35, Tryz.ntmps35
  obtain ⟨w0, hmk, O0, G0⟩ := run_make_own (P := Tryz.prog) w w.heap.size 49 3 i0 (.int .i64 0) 1 Tryz.underlying49 hi hz0 hz1 .i64 .i64 n (by rw [hz2]; omega) (by unfold maxLen; omega) (Nat.le_refl _)
  have B0 : Below w.heap.size w w0 := (Below.refl _ w).grown G0 (Nat.le_refl _) (fun r e => by cases e)
  go_wp2
  go_loopw [3, 13] (fun o x wr => ∃ (k : Nat) (bs : List Int), k ≤ n ∧ x = .int .i64 k ∧ bs.length = k ∧ Bgs bs ∧ begsO ns [] = begsO (ns.drop k) bs ∧ wr.ownsRow w.heap.size 3 1 o k (intsV bs) ∧ Below w.heap.size w wr) (fun _ x _ => n - (intOf x).toNat)
  case atStart => exact ⟨0, [], Nat.zero_le _, rfl, rfl, Bgs.nil, rfl, O0, B0⟩
  case round =>
    obtain ⟨k, bs, hk, rfl, hbl, hbs, hbeg, O, G⟩ := hrel
    have zG := G.size
    obtain ⟨vo, vc, rfl, hvc, _, _⟩ := own_form O
    by_cases hlt : k < n
    · obtain ⟨g, o, rfl, x0, x1, x2, x3, x4, x5⟩ := (A.keep G) k (by omega)
      have hst := begsO_app ns bs k (by omega)
      have hfk := hf k
      have HB : Hid (begsO ns [] = begsO (ns.drop k) bs) := hbeg
      generalize hy : ns.getD k noNd = y at *
      have c1 := beginOf_any y hfk bs hbs (by omega) vo vc (wr.alloc (.cells (ndA y) 29)) ((K.keep G).keep (galloc (Below.refl _ wr) _)) (ints_own (b := w.heap.size) (c := vc) (by rw [hbl]; exact O.alloc _))
      rw [hbl] at c1
      have N0 := NlAt.new wr y
      have HS : Hid (begsO (ns.drop k) bs = match nodeO y bs with | some b => begsO (ns.drop (k + 1)) (bs ++ [b]) | none => none) := hst
      clear A hbeg hst hy hmk
      have GA : Below w.heap.size w (wr.alloc (.cells (ndA y) 29)) := galloc G _
      have OA := O.alloc (.cells (ndA y) 29)
      simp only [ndA] at c1 GA OA
      cases hno : nodeO y bs with
      | none =>
        rw [hno] at c1
        have hans : treeB ns = false := by unfold treeB; rw [HB.out, HS.out, hno]
        have HA : Hid (treeB ns = false) := hans
        clear hans hno
        go_wp2_with (go_at_call 59; (with_reducible refine c1.mono ?_); rintro e u ⟨zz, rfl, hzz, g5⟩)
        go_ret
        exact ⟨congrArg (fun b => Ending.returned (Value.bool b)) HA.out.symm, gtrans GA g5⟩
      | some b =>
        rw [hno] at c1
        have hB2 := hbs.more hno
        have hstep : begsO ns [] = begsO (ns.drop (k + 1)) (bs ++ [b]) := by rw [HB.out, HS.out, hno]
        have HT : Hid (begsO ns [] = begsO (ns.drop (k + 1)) (bs ++ [b])) := hstep
        clear hstep hno HB HS
        go_wp2_with (first
          | (go_at_call 59; (with_reducible refine c1.mono ?_); rintro e u ⟨zz, rfl, hzz, g5⟩; obtain rfl := hzz b rfl; have O5 := own_keep OA g5; have G5 := gtrans GA g5; have z5 := G5.size)
          | (at_builtin; refine wpList_append_own _ rfl (.tmp 25) (.tmp 27) 49 rfl w.heap.size 3 i0 (.int .i64 0) 1 8 Tryz.underlying49 hi hz0 hz1 hz2 rfl (by decide) _ _ _ rfl (O5.alloc _) ⟨u.heap.size, 0, none⟩ 1 1 [_] rfl rfl (cell_one_new _ _ _) (int_one _) ?c3 ?c4 ?c5 ?_))
        case c3 => unfold maxLen; omega
        case c4 => omega
        case c5 => first | omega | (simp; omega)
        intro v' w1 hown' hgrow _
        rw [ints_more] at hown'
        have G9 : Below w.heap.size w w1 := (galloc G5 _).grown hgrow (by simp; omega) (fun r e => (O5.lt _ e).1)
        clear hgrow O O5 OA
        go_wp2
        go_roundw
        case rel => exact ⟨k + 1, _, by omega, by go_num, by simp [hbl], hB2, HT.out, hown', G9⟩
        case measure => simp [intOf]; omega
    · obtain rfl : k = n := by omega
      rw [List.drop_of_length_le (by omega)] at hbeg
      have hans : treeB ns = decide (0 < k ∧ bs.getD (k - 1) 0 = 0) := by unfold treeB; rw [hbeg]; simp only [begsO]; rw [hn]
      have HA : Hid (treeB ns = decide (0 < k ∧ bs.getD (k - 1) 0 = 0)) := hans
      clear hans hbeg hmk
      cases k with
      | zero =>
        go_wp2
        go_ret
        exact ⟨congrArg (fun b => Ending.returned (Value.bool b)) (by rw [HA.out]; rfl), G⟩
      | succ j =>
        obtain ⟨g', o', e', x0⟩ := ints_own (ds := bs) (b := w.heap.size) (c := vc) (by rw [hbl]; exact O) j (by omega)
        subst e'
        obtain ⟨z, hz⟩ : ∃ z, bs.getD j 0 = z := ⟨_, rfl⟩
        rw [hz] at x0
        have hd : decide (0 < j + 1 ∧ bs.getD (j + 1 - 1) 0 = 0) = (z == 0) := by
          rw [Nat.add_sub_cancel, hz]
          by_cases h0 : z = 0
          · simp [h0]
          · simp [h0]
        rw [hd] at HA
        clear hz hd O
        go_wp2
        go_ret
        exact ⟨congrArg (fun b => Ending.returned (Value.bool b)) HA.out.symm, G⟩

end Go.Proofs.YtlejhococjlijaaGreatDoor
