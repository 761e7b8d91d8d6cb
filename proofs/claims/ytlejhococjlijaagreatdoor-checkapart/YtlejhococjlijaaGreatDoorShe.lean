/- The document's begins and Tree. -/
import Derived.Test.YtlejhococjlijaaGreatDoorShd
namespace Go.Proofs.YtlejhococjlijaaGreatDoor
open Go.RowKit Go.BigFrame Go.Proofs.YtlejhococjlijaaGreatDoor.Ev
set_option linter.unusedVariables false
set_option linter.unusedSimpArgs false

set_option maxRecDepth 100000 in
set_option maxHeartbeats 8000000 in
theorem refBegins_any (ns : List Nd) (ao : Option Addr) (cap : Nat) (w : World) (K : KwAt w) (A : IsNds w ao ns) (hr : ns.length * 64 ≤ 140737488351232) (hf : ∀ k, (ns.getD k noNd).fit) :
    Calls Tryz.prog 24 #[.slice ao ns.length cap] w fun e w' => Below w.heap.size w w' ∧ ((begsO ns [] = none ∧ e = .returned (.tuple #[.slice none 0 0, .bool false])) ∨ ∃ bs v, begsO ns [] = some bs ∧ e = .returned (.tuple #[v, .bool true]) ∧ w'.ownsRow w.heap.size 3 1 v bs.length (intsV bs)) := by
  obtain ⟨i0, hi, hz0, hz1, hz2⟩ := of_info int_info
  obtain ⟨n, hn⟩ : ∃ n, ns.length = n := ⟨_, rfl⟩
  rw [hn] at hr ⊢
  go_enter Tryz.func24, Tryz.ntmps24
  go_wp2
  go_loopw [4, 5] (fun o x wr => ∃ (k : Nat) (bs : List Int), k ≤ n ∧ x = .int .i64 k ∧ bs.length = k ∧ Bgs bs ∧ begsO ns [] = begsO (ns.drop k) bs ∧ wr.ownsRow w.heap.size 3 1 o k (intsV bs) ∧ Below w.heap.size w wr) (fun _ x _ => n - (intOf x).toNat)
  case atStart => exact ⟨0, [], Nat.zero_le _, rfl, rfl, Bgs.nil, rfl, World.ownsRow_nil _ _ _ _, Below.refl _ _⟩
  case round =>
    obtain ⟨k, bs, hk, rfl, hbl, hbs, hbeg, O, G⟩ := hrel
    have zG := G.size
    obtain ⟨vo, vc, rfl, hvc, _, _⟩ := own_form O
    by_cases hlt : k < n
    · obtain ⟨g, o, rfl, x0, x1, x2, x3, x4, x5⟩ := (A.keep G) k (by omega)
      have hst := begsO_app ns bs k (by omega)
      have hfk := hf k
      have HB : Hid (begsO ns [] = begsO (ns.drop k) bs) := hbeg
      generalize hy : ns.getD k noNd = y at *
      have HS : Hid (begsO (ns.drop k) bs = match nodeO y bs with | some b => begsO (ns.drop (k + 1)) (bs ++ [b]) | none => none) := hst
      have GA : Below w.heap.size w (wr.alloc (.cells (ndA y) 29)) := galloc G _
      have OA := O.alloc (.cells (ndA y) 29)
      have NA := NlAt.new wr y
      have cL := refLeaf_any y hfk _ (K.keep GA)
      have cO := refOne_any y.op
      have cT := refTwo_any y.op
      obtain ⟨n0, n1, n2, n3, n4, n5⟩ := NA.at
      have hmoreN : ∀ (h : nodeO y bs = none), Hid (begsO ns [] = none) := fun h => by show _ = _; rw [HB.out, HS.out, h]
      have hmoreS : ∀ (b : Int) (h : nodeO y bs = some b), Hid (begsO ns [] = begsO (ns.drop (k + 1)) (bs ++ [b])) := fun b h => by show _ = _; rw [HB.out, HS.out, h]
      have hmoreB : ∀ (b : Int) (h : nodeO y bs = some b), Bgs (bs ++ [b]) := fun b h => hbs.more h
      obtain ⟨yo, yn, yv, yx, yl, yr⟩ := y
      simp only [ndA] at cL GA OA NA n0 n1 n2 n3 n4 n5
      dsimp only at *
      clear A hbeg hst hy HB HS
      by_cases hbare : ¬ (yn = 0 ∧ yv = eS ∧ yx = eS)
      · have hbn : bareN ⟨yo, yn, yv, yx, yl, yr⟩ = false := by unfold bareN; exact decide_eq_false hbare
        have hcase : yn ≠ 0 ∨ (yn = 0 ∧ yv ≠ eS) ∨ (yn = 0 ∧ yv = eS ∧ yx ≠ eS) := by
          by_cases e1 : yn = 0
          · by_cases e2 : yv = eS
            · exact .inr (.inr ⟨e1, e2, fun e3 => hbare ⟨e1, e2, e3⟩⟩)
            · exact .inr (.inl ⟨e1, e2⟩)
          · exact .inl e1
        clear hbare
        cases hlf : leafN ⟨yo, yn, yv, yx, yl, yr⟩
        · rw [hlf] at cL
          have hno : nodeO ⟨yo, yn, yv, yx, yl, yr⟩ bs = none := by unfold nodeO; rw [hlf, hbn]; simp
          have HN := hmoreN hno
          clear hmoreN hmoreS hmoreB hno hlf hbn
          rcases hcase with h | ⟨rfl, h⟩ | ⟨rfl, rfl, h⟩
          · have bn : (yn == 0) = false := beq_eq_false_iff_ne.2 h
            cases h12 : decide (yo = 12 ∨ yo = 13)
            · rw [h12] at cO
              cases h14 : decide (14 ≤ yo ∧ yo ≤ 26)
              · rw [h14] at cT
                go_wp2_with (first
                  | (go_at_call 40; (with_reducible refine cL.mono ?_); rintro e u ⟨rfl, g5⟩; have G5 := gtrans GA g5; have O5 := own_keep OA g5; have z5 := G5.size; obtain ⟨bc, bf⟩ := bcell g5; have y0 := (bc _ 0 NA.lt).trans n0; have y1 := (bc _ 1 NA.lt).trans n1; have y2 := (bc _ 2 NA.lt).trans n2; have y3 := (bc _ 3 NA.lt).trans n3; have y4 := (bc _ 4 NA.lt).trans n4; have y5 := (bc _ 5 NA.lt).trans n5)
                  | (go_at_call 41; (with_reducible refine (cO _).mono ?_); rintro e u6 ⟨rfl, rfl⟩)
                  | (go_at_call 42; (with_reducible refine (cT _).mono ?_); rintro e u6 ⟨rfl, rfl⟩))
                go_ret2
                first | exact ⟨gtrans GA g5, .inl ⟨HN.out, rfl⟩⟩ | exact ⟨gtrans GA g5, .inl ⟨HN.out, by rfl⟩⟩
              · rw [h14] at cT
                go_wp2_with (first
                  | (go_at_call 40; (with_reducible refine cL.mono ?_); rintro e u ⟨rfl, g5⟩; have G5 := gtrans GA g5; have O5 := own_keep OA g5; have z5 := G5.size; obtain ⟨bc, bf⟩ := bcell g5; have y0 := (bc _ 0 NA.lt).trans n0; have y1 := (bc _ 1 NA.lt).trans n1; have y2 := (bc _ 2 NA.lt).trans n2; have y3 := (bc _ 3 NA.lt).trans n3; have y4 := (bc _ 4 NA.lt).trans n4; have y5 := (bc _ 5 NA.lt).trans n5)
                  | (go_at_call 41; (with_reducible refine (cO _).mono ?_); rintro e u6 ⟨rfl, rfl⟩)
                  | (go_at_call 42; (with_reducible refine (cT _).mono ?_); rintro e u6 ⟨rfl, rfl⟩))
                have lnd : wr.heap.size < u.heap.size := Nat.lt_of_lt_of_le NA.lt g5.size
                have p4 := fun z : Ext u => (z.cell _ 4 lnd).trans y4
                have p5 := fun z : Ext u => (z.cell _ 5 lnd).trans y5
                have hne : Nonempty (Ext u) := ⟨⟨_, Below.refl _ _⟩⟩
                refine wp_region_ext (by kernel_rfl) (by kernel_rfl) ?_
                repeat (go_big_quiet_step (fail))
                refine wpQuiet_nil ?_
                intro _ hw'
                obtain ⟨nx2, hw''⟩ := hw'
                subst hw''
                go_wp2
                go_ret2
                exact ⟨gtrans G5 nx2.h, .inl ⟨HN.out, rfl⟩⟩
            · rw [h12] at cO
              go_wp2_with (first
                | (go_at_call 40; (with_reducible refine cL.mono ?_); rintro e u ⟨rfl, g5⟩; have G5 := gtrans GA g5; have O5 := own_keep OA g5; have z5 := G5.size; obtain ⟨bc, bf⟩ := bcell g5; have y0 := (bc _ 0 NA.lt).trans n0; have y1 := (bc _ 1 NA.lt).trans n1; have y2 := (bc _ 2 NA.lt).trans n2; have y3 := (bc _ 3 NA.lt).trans n3; have y4 := (bc _ 4 NA.lt).trans n4; have y5 := (bc _ 5 NA.lt).trans n5)
                | (go_at_call 41; (with_reducible refine (cO _).mono ?_); rintro e u6 ⟨rfl, rfl⟩)
                | (go_at_call 42; (with_reducible refine (cT _).mono ?_); rintro e u6 ⟨rfl, rfl⟩))
              go_ret2
              first | exact ⟨gtrans GA g5, .inl ⟨HN.out, rfl⟩⟩ | exact ⟨gtrans GA g5, .inl ⟨HN.out, by rfl⟩⟩
          · obtain ⟨q1, q2, q3⟩ := ne_toList h
            cases h12 : decide (yo = 12 ∨ yo = 13)
            · rw [h12] at cO
              cases h14 : decide (14 ≤ yo ∧ yo ≤ 26)
              · rw [h14] at cT
                go_wp2_with (first
                  | (go_at_call 40; (with_reducible refine cL.mono ?_); rintro e u ⟨rfl, g5⟩; have G5 := gtrans GA g5; have O5 := own_keep OA g5; have z5 := G5.size; obtain ⟨bc, bf⟩ := bcell g5; have y0 := (bc _ 0 NA.lt).trans n0; have y1 := (bc _ 1 NA.lt).trans n1; have y2 := (bc _ 2 NA.lt).trans n2; have y3 := (bc _ 3 NA.lt).trans n3; have y4 := (bc _ 4 NA.lt).trans n4; have y5 := (bc _ 5 NA.lt).trans n5)
                  | (go_at_call 41; (with_reducible refine (cO _).mono ?_); rintro e u6 ⟨rfl, rfl⟩)
                  | (go_at_call 42; (with_reducible refine (cT _).mono ?_); rintro e u6 ⟨rfl, rfl⟩))
                go_ret2
                first | exact ⟨gtrans GA g5, .inl ⟨HN.out, rfl⟩⟩ | exact ⟨gtrans GA g5, .inl ⟨HN.out, by rfl⟩⟩
              · rw [h14] at cT
                go_wp2_with (first
                  | (go_at_call 40; (with_reducible refine cL.mono ?_); rintro e u ⟨rfl, g5⟩; have G5 := gtrans GA g5; have O5 := own_keep OA g5; have z5 := G5.size; obtain ⟨bc, bf⟩ := bcell g5; have y0 := (bc _ 0 NA.lt).trans n0; have y1 := (bc _ 1 NA.lt).trans n1; have y2 := (bc _ 2 NA.lt).trans n2; have y3 := (bc _ 3 NA.lt).trans n3; have y4 := (bc _ 4 NA.lt).trans n4; have y5 := (bc _ 5 NA.lt).trans n5)
                  | (go_at_call 41; (with_reducible refine (cO _).mono ?_); rintro e u6 ⟨rfl, rfl⟩)
                  | (go_at_call 42; (with_reducible refine (cT _).mono ?_); rintro e u6 ⟨rfl, rfl⟩))
                have lnd : wr.heap.size < u.heap.size := Nat.lt_of_lt_of_le NA.lt g5.size
                have p4 := fun z : Ext u => (z.cell _ 4 lnd).trans y4
                have p5 := fun z : Ext u => (z.cell _ 5 lnd).trans y5
                have hne : Nonempty (Ext u) := ⟨⟨_, Below.refl _ _⟩⟩
                refine wp_region_ext (by kernel_rfl) (by kernel_rfl) ?_
                repeat (go_big_quiet_step (fail))
                refine wpQuiet_nil ?_
                intro _ hw'
                obtain ⟨nx2, hw''⟩ := hw'
                subst hw''
                go_wp2
                go_ret2
                exact ⟨gtrans G5 nx2.h, .inl ⟨HN.out, rfl⟩⟩
            · rw [h12] at cO
              go_wp2_with (first
                | (go_at_call 40; (with_reducible refine cL.mono ?_); rintro e u ⟨rfl, g5⟩; have G5 := gtrans GA g5; have O5 := own_keep OA g5; have z5 := G5.size; obtain ⟨bc, bf⟩ := bcell g5; have y0 := (bc _ 0 NA.lt).trans n0; have y1 := (bc _ 1 NA.lt).trans n1; have y2 := (bc _ 2 NA.lt).trans n2; have y3 := (bc _ 3 NA.lt).trans n3; have y4 := (bc _ 4 NA.lt).trans n4; have y5 := (bc _ 5 NA.lt).trans n5)
                | (go_at_call 41; (with_reducible refine (cO _).mono ?_); rintro e u6 ⟨rfl, rfl⟩)
                | (go_at_call 42; (with_reducible refine (cT _).mono ?_); rintro e u6 ⟨rfl, rfl⟩))
              go_ret2
              first | exact ⟨gtrans GA g5, .inl ⟨HN.out, rfl⟩⟩ | exact ⟨gtrans GA g5, .inl ⟨HN.out, by rfl⟩⟩
          · obtain ⟨q1, q2, q3⟩ := ne_toList h
            cases h12 : decide (yo = 12 ∨ yo = 13)
            · rw [h12] at cO
              cases h14 : decide (14 ≤ yo ∧ yo ≤ 26)
              · rw [h14] at cT
                go_wp2_with (first
                  | (go_at_call 40; (with_reducible refine cL.mono ?_); rintro e u ⟨rfl, g5⟩; have G5 := gtrans GA g5; have O5 := own_keep OA g5; have z5 := G5.size; obtain ⟨bc, bf⟩ := bcell g5; have y0 := (bc _ 0 NA.lt).trans n0; have y1 := (bc _ 1 NA.lt).trans n1; have y2 := (bc _ 2 NA.lt).trans n2; have y3 := (bc _ 3 NA.lt).trans n3; have y4 := (bc _ 4 NA.lt).trans n4; have y5 := (bc _ 5 NA.lt).trans n5)
                  | (go_at_call 41; (with_reducible refine (cO _).mono ?_); rintro e u6 ⟨rfl, rfl⟩)
                  | (go_at_call 42; (with_reducible refine (cT _).mono ?_); rintro e u6 ⟨rfl, rfl⟩))
                go_ret2
                first | exact ⟨gtrans GA g5, .inl ⟨HN.out, rfl⟩⟩ | exact ⟨gtrans GA g5, .inl ⟨HN.out, by rfl⟩⟩
              · rw [h14] at cT
                go_wp2_with (first
                  | (go_at_call 40; (with_reducible refine cL.mono ?_); rintro e u ⟨rfl, g5⟩; have G5 := gtrans GA g5; have O5 := own_keep OA g5; have z5 := G5.size; obtain ⟨bc, bf⟩ := bcell g5; have y0 := (bc _ 0 NA.lt).trans n0; have y1 := (bc _ 1 NA.lt).trans n1; have y2 := (bc _ 2 NA.lt).trans n2; have y3 := (bc _ 3 NA.lt).trans n3; have y4 := (bc _ 4 NA.lt).trans n4; have y5 := (bc _ 5 NA.lt).trans n5)
                  | (go_at_call 41; (with_reducible refine (cO _).mono ?_); rintro e u6 ⟨rfl, rfl⟩)
                  | (go_at_call 42; (with_reducible refine (cT _).mono ?_); rintro e u6 ⟨rfl, rfl⟩))
                have lnd : wr.heap.size < u.heap.size := Nat.lt_of_lt_of_le NA.lt g5.size
                have p4 := fun z : Ext u => (z.cell _ 4 lnd).trans y4
                have p5 := fun z : Ext u => (z.cell _ 5 lnd).trans y5
                have hne : Nonempty (Ext u) := ⟨⟨_, Below.refl _ _⟩⟩
                refine wp_region_ext (by kernel_rfl) (by kernel_rfl) ?_
                repeat (go_big_quiet_step (fail))
                refine wpQuiet_nil ?_
                intro _ hw'
                obtain ⟨nx2, hw''⟩ := hw'
                subst hw''
                go_wp2
                go_ret2
                exact ⟨gtrans G5 nx2.h, .inl ⟨HN.out, rfl⟩⟩
            · rw [h12] at cO
              go_wp2_with (first
                | (go_at_call 40; (with_reducible refine cL.mono ?_); rintro e u ⟨rfl, g5⟩; have G5 := gtrans GA g5; have O5 := own_keep OA g5; have z5 := G5.size; obtain ⟨bc, bf⟩ := bcell g5; have y0 := (bc _ 0 NA.lt).trans n0; have y1 := (bc _ 1 NA.lt).trans n1; have y2 := (bc _ 2 NA.lt).trans n2; have y3 := (bc _ 3 NA.lt).trans n3; have y4 := (bc _ 4 NA.lt).trans n4; have y5 := (bc _ 5 NA.lt).trans n5)
                | (go_at_call 41; (with_reducible refine (cO _).mono ?_); rintro e u6 ⟨rfl, rfl⟩)
                | (go_at_call 42; (with_reducible refine (cT _).mono ?_); rintro e u6 ⟨rfl, rfl⟩))
              go_ret2
              first | exact ⟨gtrans GA g5, .inl ⟨HN.out, rfl⟩⟩ | exact ⟨gtrans GA g5, .inl ⟨HN.out, by rfl⟩⟩
        · rw [hlf] at cL
          have hso : nodeO ⟨yo, yn, yv, yx, yl, yr⟩ bs = some (k : Int) := by unfold nodeO; rw [hlf, if_pos rfl, hbl]
          have HT := hmoreS _ hso
          have hB2 := hmoreB _ hso
          clear hmoreN hmoreS hmoreB hso hlf hbn
          rcases hcase with h | ⟨rfl, h⟩ | ⟨rfl, rfl, h⟩
          · have bn : (yn == 0) = false := beq_eq_false_iff_ne.2 h
            go_wp2_with (first
              | (go_at_call 40; (with_reducible refine cL.mono ?_); rintro e u ⟨rfl, g5⟩; have G5 := gtrans GA g5; have O5 := own_keep OA g5; have z5 := G5.size; obtain ⟨bc, bf⟩ := bcell g5; have y0 := (bc _ 0 NA.lt).trans n0; have y1 := (bc _ 1 NA.lt).trans n1; have y2 := (bc _ 2 NA.lt).trans n2; have y3 := (bc _ 3 NA.lt).trans n3; have y4 := (bc _ 4 NA.lt).trans n4; have y5 := (bc _ 5 NA.lt).trans n5)
              | (go_at_call 41; (with_reducible refine (cO _).mono ?_); rintro e u6 ⟨rfl, rfl⟩)
              | (go_at_call 42; (with_reducible refine (cT _).mono ?_); rintro e u6 ⟨rfl, rfl⟩)
              | (at_builtin; refine wpList_append_own _ rfl (.tmp 34) (.tmp 36) 49 rfl w.heap.size 3 i0 (.int .i64 0) 1 8 Tryz.underlying49 hi hz0 hz1 hz2 rfl (by decide) _ _ _ rfl (O5.alloc _) ⟨u.heap.size, 0, none⟩ 1 1 [_] rfl rfl (cell_one_new _ _ _) (int_one _) ?c3 ?c4 ?c5 ?_))
            case c3 => unfold maxLen; omega
            case c4 => omega
            case c5 => first | omega | (simp; omega)
            intro v' w1 hown' hgrow _
            rw [ints_more] at hown'
            have G9 : Below w.heap.size w w1 := (galloc G5 _).grown hgrow (by simp; omega) (fun r e => (O5.lt _ e).1)
            clear hgrow O O5 OA
            go_wp2
            go_roundw
            case rel => exact ⟨k + 1, _, by omega, by go_num, by simp [hbl], hB2, HT.out, hown', G9⟩
            case measure => simp [intOf]; omega
          · obtain ⟨q1, q2, q3⟩ := ne_toList h
            go_wp2_with (first
              | (go_at_call 40; (with_reducible refine cL.mono ?_); rintro e u ⟨rfl, g5⟩; have G5 := gtrans GA g5; have O5 := own_keep OA g5; have z5 := G5.size; obtain ⟨bc, bf⟩ := bcell g5; have y0 := (bc _ 0 NA.lt).trans n0; have y1 := (bc _ 1 NA.lt).trans n1; have y2 := (bc _ 2 NA.lt).trans n2; have y3 := (bc _ 3 NA.lt).trans n3; have y4 := (bc _ 4 NA.lt).trans n4; have y5 := (bc _ 5 NA.lt).trans n5)
              | (go_at_call 41; (with_reducible refine (cO _).mono ?_); rintro e u6 ⟨rfl, rfl⟩)
              | (go_at_call 42; (with_reducible refine (cT _).mono ?_); rintro e u6 ⟨rfl, rfl⟩)
              | (at_builtin; refine wpList_append_own _ rfl (.tmp 34) (.tmp 36) 49 rfl w.heap.size 3 i0 (.int .i64 0) 1 8 Tryz.underlying49 hi hz0 hz1 hz2 rfl (by decide) _ _ _ rfl (O5.alloc _) ⟨u.heap.size, 0, none⟩ 1 1 [_] rfl rfl (cell_one_new _ _ _) (int_one _) ?c3 ?c4 ?c5 ?_))
            case c3 => unfold maxLen; omega
            case c4 => omega
            case c5 => first | omega | (simp; omega)
            intro v' w1 hown' hgrow _
            rw [ints_more] at hown'
            have G9 : Below w.heap.size w w1 := (galloc G5 _).grown hgrow (by simp; omega) (fun r e => (O5.lt _ e).1)
            clear hgrow O O5 OA
            go_wp2
            go_roundw
            case rel => exact ⟨k + 1, _, by omega, by go_num, by simp [hbl], hB2, HT.out, hown', G9⟩
            case measure => simp [intOf]; omega
          · obtain ⟨q1, q2, q3⟩ := ne_toList h
            go_wp2_with (first
              | (go_at_call 40; (with_reducible refine cL.mono ?_); rintro e u ⟨rfl, g5⟩; have G5 := gtrans GA g5; have O5 := own_keep OA g5; have z5 := G5.size; obtain ⟨bc, bf⟩ := bcell g5; have y0 := (bc _ 0 NA.lt).trans n0; have y1 := (bc _ 1 NA.lt).trans n1; have y2 := (bc _ 2 NA.lt).trans n2; have y3 := (bc _ 3 NA.lt).trans n3; have y4 := (bc _ 4 NA.lt).trans n4; have y5 := (bc _ 5 NA.lt).trans n5)
              | (go_at_call 41; (with_reducible refine (cO _).mono ?_); rintro e u6 ⟨rfl, rfl⟩)
              | (go_at_call 42; (with_reducible refine (cT _).mono ?_); rintro e u6 ⟨rfl, rfl⟩)
              | (at_builtin; refine wpList_append_own _ rfl (.tmp 34) (.tmp 36) 49 rfl w.heap.size 3 i0 (.int .i64 0) 1 8 Tryz.underlying49 hi hz0 hz1 hz2 rfl (by decide) _ _ _ rfl (O5.alloc _) ⟨u.heap.size, 0, none⟩ 1 1 [_] rfl rfl (cell_one_new _ _ _) (int_one _) ?c3 ?c4 ?c5 ?_))
            case c3 => unfold maxLen; omega
            case c4 => omega
            case c5 => first | omega | (simp; omega)
            intro v' w1 hown' hgrow _
            rw [ints_more] at hown'
            have G9 : Below w.heap.size w w1 := (galloc G5 _).grown hgrow (by simp; omega) (fun r e => (O5.lt _ e).1)
            clear hgrow O O5 OA
            go_wp2
            go_roundw
            case rel => exact ⟨k + 1, _, by omega, by go_num, by simp [hbl], hB2, HT.out, hown', G9⟩
            case measure => simp [intOf]; omega
      · obtain ⟨rfl, rfl, rfl⟩ := Classical.not_not.1 hbare
        clear hbare
        have hbt : bareN ⟨yo, 0, eS, eS, yl, yr⟩ = true := rfl
        cases hlf : leafN ⟨yo, 0, eS, eS, yl, yr⟩
        · rw [hlf] at cL
          cases h12 : decide (yo = 12 ∨ yo = 13)
          · rw [h12] at cO
            have h12' := of_decide_eq_false h12
            cases h14 : decide (14 ≤ yo ∧ yo ≤ 26)
            · rw [h14] at cT
              have h14' := of_decide_eq_false h14
              have hno : nodeO ⟨yo, 0, eS, eS, yl, yr⟩ bs = none := by unfold nodeO; rw [hlf, if_neg (by simp), if_neg h12', if_neg h14']
              have HN := hmoreN hno
              clear hmoreN hmoreS hmoreB hno hlf
              try clear hk0
              try clear hkj e1
              go_wp2_with (first
                | (go_at_call 40; (with_reducible refine cL.mono ?_); rintro e u ⟨rfl, g5⟩; have G5 := gtrans GA g5; have O5 := own_keep OA g5; have z5 := G5.size; obtain ⟨bc, bf⟩ := bcell g5; have y0 := (bc _ 0 NA.lt).trans n0; have y1 := (bc _ 1 NA.lt).trans n1; have y2 := (bc _ 2 NA.lt).trans n2; have y3 := (bc _ 3 NA.lt).trans n3; have y4 := (bc _ 4 NA.lt).trans n4; have y5 := (bc _ 5 NA.lt).trans n5)
                | (go_at_call 41; (with_reducible refine (cO _).mono ?_); rintro e u6 ⟨rfl, rfl⟩)
                | (go_at_call 42; (with_reducible refine (cT _).mono ?_); rintro e u6 ⟨rfl, rfl⟩))
              go_ret2
              first | exact ⟨gtrans GA g5, .inl ⟨HN.out, rfl⟩⟩ | exact ⟨gtrans GA g5, .inl ⟨HN.out, by rfl⟩⟩
            · rw [h14] at cT
              have h14' := of_decide_eq_true h14
              by_cases hk0 : k = 0
              · have hk1 : (k : Int) < 1 := by omega
                have hno : nodeO ⟨yo, 0, eS, eS, yl, yr⟩ bs = none := node_two (g := false) h14' (by constructor; (intro h; cases h); (intro h; exact absurd (List.length_eq_zero_iff.1 (hbl.trans hk0)) h.2.1))
                have HN := hmoreN hno
                clear hmoreN hmoreS hmoreB hno hlf
                try clear hk0
                try clear hkj e1
                go_wp2_with (first
                  | (go_at_call 40; (with_reducible refine cL.mono ?_); rintro e u ⟨rfl, g5⟩; have G5 := gtrans GA g5; have O5 := own_keep OA g5; have z5 := G5.size; obtain ⟨bc, bf⟩ := bcell g5; have y0 := (bc _ 0 NA.lt).trans n0; have y1 := (bc _ 1 NA.lt).trans n1; have y2 := (bc _ 2 NA.lt).trans n2; have y3 := (bc _ 3 NA.lt).trans n3; have y4 := (bc _ 4 NA.lt).trans n4; have y5 := (bc _ 5 NA.lt).trans n5)
                  | (go_at_call 41; (with_reducible refine (cO _).mono ?_); rintro e u6 ⟨rfl, rfl⟩)
                  | (go_at_call 42; (with_reducible refine (cT _).mono ?_); rintro e u6 ⟨rfl, rfl⟩))
                have lnd : wr.heap.size < u.heap.size := Nat.lt_of_lt_of_le NA.lt g5.size
                have p4 := fun z : Ext u => (z.cell _ 4 lnd).trans y4
                have p5 := fun z : Ext u => (z.cell _ 5 lnd).trans y5
                have hne : Nonempty (Ext u) := ⟨⟨_, Below.refl _ _⟩⟩
                refine wp_region_ext (by kernel_rfl) (by kernel_rfl) ?_
                repeat (go_big_quiet_step (fail))
                refine wpQuiet_nil ?_
                intro _ hw'
                obtain ⟨nx2, hw''⟩ := hw'
                subst hw''
                go_wp2
                go_ret2
                exact ⟨gtrans G5 nx2.h, .inl ⟨HN.out, rfl⟩⟩
              · obtain ⟨j, hkj⟩ : ∃ j, k = j + 1 := ⟨k - 1, by omega⟩
                have hki : (k : Int) - 1 = (j : Int) := by omega
                have hnn : bs ≠ [] := fun e => by rw [e] at hbl; simp at hbl; omega
                have e1 : bs.length - 1 = j := by omega
                have hj1 : decide ((k : Int) < 1) = false := decide_eq_false (by omega)
                obtain ⟨gv, ov, ev, xv⟩ := ints_own (ds := bs) (b := w.heap.size) (c := vc) (by rw [hbl]; exact OA) j (by omega)
                subst ev
                have hzj := hbs j (by omega)
                have hjk : (j : Int) < (k : Int) := by omega
                obtain ⟨z, hz⟩ : ∃ z, bs.getD j 0 = z := ⟨_, rfl⟩
                rw [hz] at xv hzj
                by_cases hr1 : yr = (j : Int)
                · subst hr1
                  by_cases hzz : z < 1
                  · have dz1 : decide (z < 1) = true := decide_eq_true hzz
                    have hno : nodeO ⟨yo, 0, eS, eS, yl, (j : Int)⟩ bs = none := node_two (g := false) h14' (by rw [e1, hz]; constructor; (intro h; cases h); (intro h; omega))
                    have HN := hmoreN hno
                    clear hmoreN hmoreS hmoreB hno hlf
                    try clear hk0
                    try clear hkj e1
                    go_wp2_with (first
                      | (go_at_call 40; (with_reducible refine cL.mono ?_); rintro e u ⟨rfl, g5⟩; have G5 := gtrans GA g5; have O5 := own_keep OA g5; have z5 := G5.size; obtain ⟨bc, bf⟩ := bcell g5; have y0 := (bc _ 0 NA.lt).trans n0; have y1 := (bc _ 1 NA.lt).trans n1; have y2 := (bc _ 2 NA.lt).trans n2; have y3 := (bc _ 3 NA.lt).trans n3; have y4 := (bc _ 4 NA.lt).trans n4; have y5 := (bc _ 5 NA.lt).trans n5)
                      | (go_at_call 41; (with_reducible refine (cO _).mono ?_); rintro e u6 ⟨rfl, rfl⟩)
                      | (go_at_call 42; (with_reducible refine (cT _).mono ?_); rintro e u6 ⟨rfl, rfl⟩))
                    have xv5 := (bc _ _ (lt_of_cell xv)).trans xv
                    have pv := fun z : Ext u => (z.cell _ _ (lt_of_cell xv5)).trans xv5
                    have lnd : wr.heap.size < u.heap.size := Nat.lt_of_lt_of_le NA.lt g5.size
                    have p4 := fun z : Ext u => (z.cell _ 4 lnd).trans y4
                    have p5 := fun z : Ext u => (z.cell _ 5 lnd).trans y5
                    have hne : Nonempty (Ext u) := ⟨⟨_, Below.refl _ _⟩⟩
                    refine wp_region_ext (by kernel_rfl) (by kernel_rfl) ?_
                    repeat (go_big_quiet_step (fail))
                    refine wpQuiet_nil ?_
                    intro _ hw'
                    obtain ⟨nx2, hw''⟩ := hw'
                    subst hw''
                    go_wp2
                    go_ret2
                    exact ⟨gtrans G5 nx2.h, .inl ⟨HN.out, rfl⟩⟩
                  · obtain ⟨m, rfl⟩ : ∃ m : Nat, z = (m : Int) + 1 := ⟨(z - 1).toNat, by omega⟩
                    have dz1 : decide ((m : Int) + 1 < 1) = false := decide_eq_false (by omega)
                    by_cases hl1 : yl = (m : Int)
                    · subst hl1
                      obtain ⟨gv', ov', ev', xm⟩ := ints_own (ds := bs) (b := w.heap.size) (c := vc) (by rw [hbl]; exact OA) m (by omega)
                      simp only [Option.some.injEq, Addr.mk.injEq, and_true] at ev'
                      obtain ⟨rfl, rfl⟩ := ev'
                      have hso : nodeO ⟨yo, 0, eS, eS, (m : Int), (j : Int)⟩ bs = some (bs.getD m 0) := by
                        have h9 := node_two (n := ⟨yo, 0, eS, eS, (m : Int), (j : Int)⟩) (bs := bs) (g := true) h14' (by rw [e1, hz]; dsimp only; constructor; (intro _; exact ⟨hbt, hnn, by omega, by omega, by omega⟩); (intro _; rfl))
                        rw [e1, hz, show ((m : Int) + 1 - 1).toNat = m by omega] at h9
                        exact h9
                      have HT := hmoreS _ hso
                      have hB2 := hmoreB _ hso
                      have hmj : (m : Int) < (k : Int) := by omega
                      obtain ⟨z2, hzq⟩ : ∃ z2, bs.getD m 0 = z2 := ⟨_, rfl⟩
                      rw [hzq] at xm HT hB2
                      clear hmoreN hmoreS hmoreB hso hlf
                      try clear hk0
                      try clear hkj e1
                      go_wp2_with (first
                        | (go_at_call 40; (with_reducible refine cL.mono ?_); rintro e u ⟨rfl, g5⟩; have G5 := gtrans GA g5; have O5 := own_keep OA g5; have z5 := G5.size; obtain ⟨bc, bf⟩ := bcell g5; have y0 := (bc _ 0 NA.lt).trans n0; have y1 := (bc _ 1 NA.lt).trans n1; have y2 := (bc _ 2 NA.lt).trans n2; have y3 := (bc _ 3 NA.lt).trans n3; have y4 := (bc _ 4 NA.lt).trans n4; have y5 := (bc _ 5 NA.lt).trans n5)
                        | (go_at_call 41; (with_reducible refine (cO _).mono ?_); rintro e u6 ⟨rfl, rfl⟩)
                        | (go_at_call 42; (with_reducible refine (cT _).mono ?_); rintro e u6 ⟨rfl, rfl⟩))
                      have xv5 := (bc _ _ (lt_of_cell xv)).trans xv
                      have pv := fun z : Ext u => (z.cell _ _ (lt_of_cell xv5)).trans xv5
                      have xm5 := (bc _ _ (lt_of_cell xm)).trans xm
                      have lnd : wr.heap.size < u.heap.size := Nat.lt_of_lt_of_le NA.lt g5.size
                      have p4 := fun z : Ext u => (z.cell _ 4 lnd).trans y4
                      have p5 := fun z : Ext u => (z.cell _ 5 lnd).trans y5
                      have hne : Nonempty (Ext u) := ⟨⟨_, Below.refl _ _⟩⟩
                      refine wp_region_ext (by kernel_rfl) (by kernel_rfl) ?_
                      repeat (go_big_quiet_step (fail))
                      refine wpQuiet_nil ?_
                      intro _ hw'
                      obtain ⟨nx2, hw''⟩ := hw'
                      subst hw''
                      have x5 := (nx2.cell _ _ (lt_of_cell xm5)).trans xm5
                      have p4x := p4 nx2
                      have OX := own_keep O5 nx2.h
                      have GX := gtrans G5 nx2.h
                      have zX := GX.size
                      obtain ⟨X, hX⟩ : ∃ X, nx2.X = X := ⟨_, rfl⟩
                      rw [hX] at x5 p4x OX GX zX ⊢
                      go_wp2_with (at_builtin; refine wpList_append_own _ rfl (.tmp 104) (.tmp 110) 49 rfl w.heap.size 3 i0 (.int .i64 0) 1 8 Tryz.underlying49 hi hz0 hz1 hz2 rfl (by decide) _ _ _ rfl (OX.alloc _) ⟨X.heap.size, 0, none⟩ 1 1 [_] rfl rfl (cell_one_new _ _ _) (int_one _) ?c3 ?c4 ?c5 ?_)
                      case c3 => unfold maxLen; omega
                      case c4 => omega
                      case c5 => first | omega | (simp; omega)
                      intro v' w1 hown' hgrow _
                      rw [ints_more] at hown'
                      have G9 : Below w.heap.size w w1 := (galloc GX _).grown hgrow (by simp; omega) (fun r e => (OX.lt _ e).1)
                      clear hgrow O O5 OA OX
                      go_wp2
                      go_roundw
                      case rel => exact ⟨k + 1, _, by omega, by go_num, by simp [hbl], hB2, HT.out, hown', G9⟩
                      case measure => simp [intOf]; omega
                    · have bl1 : (yl == (m : Int)) = false := beq_eq_false_iff_ne.2 hl1
                      have hno : nodeO ⟨yo, 0, eS, eS, yl, (j : Int)⟩ bs = none := node_two (g := false) h14' (by rw [e1, hz]; dsimp only; constructor; (intro h; cases h); (intro h; omega))
                      have HN := hmoreN hno
                      clear hmoreN hmoreS hmoreB hno hlf
                      try clear hk0
                      try clear hkj e1
                      go_wp2_with (first
                        | (go_at_call 40; (with_reducible refine cL.mono ?_); rintro e u ⟨rfl, g5⟩; have G5 := gtrans GA g5; have O5 := own_keep OA g5; have z5 := G5.size; obtain ⟨bc, bf⟩ := bcell g5; have y0 := (bc _ 0 NA.lt).trans n0; have y1 := (bc _ 1 NA.lt).trans n1; have y2 := (bc _ 2 NA.lt).trans n2; have y3 := (bc _ 3 NA.lt).trans n3; have y4 := (bc _ 4 NA.lt).trans n4; have y5 := (bc _ 5 NA.lt).trans n5)
                        | (go_at_call 41; (with_reducible refine (cO _).mono ?_); rintro e u6 ⟨rfl, rfl⟩)
                        | (go_at_call 42; (with_reducible refine (cT _).mono ?_); rintro e u6 ⟨rfl, rfl⟩))
                      have xv5 := (bc _ _ (lt_of_cell xv)).trans xv
                      have pv := fun z : Ext u => (z.cell _ _ (lt_of_cell xv5)).trans xv5
                      have lnd : wr.heap.size < u.heap.size := Nat.lt_of_lt_of_le NA.lt g5.size
                      have p4 := fun z : Ext u => (z.cell _ 4 lnd).trans y4
                      have p5 := fun z : Ext u => (z.cell _ 5 lnd).trans y5
                      have hne : Nonempty (Ext u) := ⟨⟨_, Below.refl _ _⟩⟩
                      refine wp_region_ext (by kernel_rfl) (by kernel_rfl) ?_
                      repeat (go_big_quiet_step (fail))
                      refine wpQuiet_nil ?_
                      intro _ hw'
                      obtain ⟨nx2, hw''⟩ := hw'
                      subst hw''
                      go_wp2
                      go_ret2
                      exact ⟨gtrans G5 nx2.h, .inl ⟨HN.out, rfl⟩⟩
                · have br1 : (yr == (j : Int)) = false := beq_eq_false_iff_ne.2 hr1
                  have br2 : (yr != (j : Int)) = true := by simp [bne, br1]
                  have br3 : decide (yr = (j : Int)) = false := decide_eq_false hr1
                  have br4 : decide (yr ≠ (j : Int)) = true := decide_eq_true hr1
                  have hno : nodeO ⟨yo, 0, eS, eS, yl, yr⟩ bs = none := node_two (g := false) h14' (by constructor; (intro h; cases h); (intro h; dsimp only at h; omega))
                  have HN := hmoreN hno
                  clear hmoreN hmoreS hmoreB hno hlf
                  try clear hk0
                  try clear hkj e1
                  go_wp2_with (first
                    | (go_at_call 40; (with_reducible refine cL.mono ?_); rintro e u ⟨rfl, g5⟩; have G5 := gtrans GA g5; have O5 := own_keep OA g5; have z5 := G5.size; obtain ⟨bc, bf⟩ := bcell g5; have y0 := (bc _ 0 NA.lt).trans n0; have y1 := (bc _ 1 NA.lt).trans n1; have y2 := (bc _ 2 NA.lt).trans n2; have y3 := (bc _ 3 NA.lt).trans n3; have y4 := (bc _ 4 NA.lt).trans n4; have y5 := (bc _ 5 NA.lt).trans n5)
                    | (go_at_call 41; (with_reducible refine (cO _).mono ?_); rintro e u6 ⟨rfl, rfl⟩)
                    | (go_at_call 42; (with_reducible refine (cT _).mono ?_); rintro e u6 ⟨rfl, rfl⟩))
                  have xv5 := (bc _ _ (lt_of_cell xv)).trans xv
                  have pv := fun z : Ext u => (z.cell _ _ (lt_of_cell xv5)).trans xv5
                  have lnd : wr.heap.size < u.heap.size := Nat.lt_of_lt_of_le NA.lt g5.size
                  have p4 := fun z : Ext u => (z.cell _ 4 lnd).trans y4
                  have p5 := fun z : Ext u => (z.cell _ 5 lnd).trans y5
                  have hne : Nonempty (Ext u) := ⟨⟨_, Below.refl _ _⟩⟩
                  refine wp_region_ext (by kernel_rfl) (by kernel_rfl) ?_
                  repeat (go_big_quiet_step (fail))
                  refine wpQuiet_nil ?_
                  intro _ hw'
                  obtain ⟨nx2, hw''⟩ := hw'
                  subst hw''
                  go_wp2
                  go_ret2
                  exact ⟨gtrans G5 nx2.h, .inl ⟨HN.out, rfl⟩⟩
          · rw [h12] at cO
            have h12' := of_decide_eq_true h12
            by_cases hk0 : k = 0
            · have hk1 : (k : Int) < 1 := by omega
              have hno : nodeO ⟨yo, 0, eS, eS, yl, yr⟩ bs = none := node_one (g := false) h12' (by constructor; (intro h; cases h); (intro h; exact absurd (List.length_eq_zero_iff.1 (hbl.trans hk0)) h.2.1))
              have HN := hmoreN hno
              clear hmoreN hmoreS hmoreB hno hlf
              try clear hk0
              try clear hkj e1
              go_wp2_with (first
                | (go_at_call 40; (with_reducible refine cL.mono ?_); rintro e u ⟨rfl, g5⟩; have G5 := gtrans GA g5; have O5 := own_keep OA g5; have z5 := G5.size; obtain ⟨bc, bf⟩ := bcell g5; have y0 := (bc _ 0 NA.lt).trans n0; have y1 := (bc _ 1 NA.lt).trans n1; have y2 := (bc _ 2 NA.lt).trans n2; have y3 := (bc _ 3 NA.lt).trans n3; have y4 := (bc _ 4 NA.lt).trans n4; have y5 := (bc _ 5 NA.lt).trans n5)
                | (go_at_call 41; (with_reducible refine (cO _).mono ?_); rintro e u6 ⟨rfl, rfl⟩)
                | (go_at_call 42; (with_reducible refine (cT _).mono ?_); rintro e u6 ⟨rfl, rfl⟩))
              go_ret2
              first | exact ⟨gtrans GA g5, .inl ⟨HN.out, rfl⟩⟩ | exact ⟨gtrans GA g5, .inl ⟨HN.out, by rfl⟩⟩
            · obtain ⟨j, hkj⟩ : ∃ j, k = j + 1 := ⟨k - 1, by omega⟩
              have hki : (k : Int) - 1 = (j : Int) := by omega
              have hnn : bs ≠ [] := fun e => by rw [e] at hbl; simp at hbl; omega
              have e1 : bs.length - 1 = j := by omega
              have hj1 : decide ((k : Int) < 1) = false := decide_eq_false (by omega)
              by_cases hl1 : yl = (j : Int)
              · subst hl1
                by_cases hr1 : yr = -1
                · subst hr1
                  obtain ⟨gv, ov, ev, xv⟩ := ints_own (ds := bs) (b := w.heap.size) (c := vc) (by rw [hbl]; exact OA) j (by omega)
                  subst ev
                  have hso : nodeO ⟨yo, 0, eS, eS, (j : Int), -1⟩ bs = some (bs.getD j 0) := by
                    have h9 := node_one (n := ⟨yo, 0, eS, eS, (j : Int), -1⟩) (bs := bs) (g := true) h12' (by dsimp only; constructor; (intro _; exact ⟨hbt, hnn, by omega, rfl⟩); (intro _; rfl))
                    rw [e1] at h9
                    exact h9
                  have HT := hmoreS _ hso
                  have hB2 := hmoreB _ hso
                  obtain ⟨z2, hzq⟩ : ∃ z2, bs.getD j 0 = z2 := ⟨_, rfl⟩
                  rw [hzq] at xv HT hB2
                  clear hmoreN hmoreS hmoreB hso hlf
                  try clear hk0
                  try clear hkj e1
                  go_wp2_with (first
                    | (go_at_call 40; (with_reducible refine cL.mono ?_); rintro e u ⟨rfl, g5⟩; have G5 := gtrans GA g5; have O5 := own_keep OA g5; have z5 := G5.size; obtain ⟨bc, bf⟩ := bcell g5; have y0 := (bc _ 0 NA.lt).trans n0; have y1 := (bc _ 1 NA.lt).trans n1; have y2 := (bc _ 2 NA.lt).trans n2; have y3 := (bc _ 3 NA.lt).trans n3; have y4 := (bc _ 4 NA.lt).trans n4; have y5 := (bc _ 5 NA.lt).trans n5; have xv5 := (bc _ _ (lt_of_cell xv)).trans xv)
                    | (go_at_call 41; (with_reducible refine (cO _).mono ?_); rintro e u6 ⟨rfl, rfl⟩)
                    | (go_at_call 42; (with_reducible refine (cT _).mono ?_); rintro e u6 ⟨rfl, rfl⟩)
                    | (at_builtin; refine wpList_append_own _ rfl (.tmp 60) (.tmp 66) 49 rfl w.heap.size 3 i0 (.int .i64 0) 1 8 Tryz.underlying49 hi hz0 hz1 hz2 rfl (by decide) _ _ _ rfl (O5.alloc _) ⟨u.heap.size, 0, none⟩ 1 1 [_] rfl rfl (cell_one_new _ _ _) (int_one _) ?c3 ?c4 ?c5 ?_))
                  case c3 => unfold maxLen; omega
                  case c4 => omega
                  case c5 => first | omega | (simp; omega)
                  intro v' w1 hown' hgrow _
                  rw [ints_more] at hown'
                  have G9 : Below w.heap.size w w1 := (galloc G5 _).grown hgrow (by simp; omega) (fun r e => (O5.lt _ e).1)
                  clear hgrow O O5 OA
                  go_wp2
                  go_roundw
                  case rel => exact ⟨k + 1, _, by omega, by go_num, by simp [hbl], hB2, HT.out, hown', G9⟩
                  case measure => simp [intOf]; omega
                · have br1 : (yr == -1) = false := beq_eq_false_iff_ne.2 hr1
                  have br2 : (yr != -1) = true := by simp [bne, br1]
                  have br3 : decide (yr = -1) = false := decide_eq_false hr1
                  have hno : nodeO ⟨yo, 0, eS, eS, (j : Int), yr⟩ bs = none := node_one (g := false) h12' (by constructor; (intro h; cases h); (intro h; exact absurd h.2.2.2 hr1))
                  have HN := hmoreN hno
                  clear hmoreN hmoreS hmoreB hno hlf
                  try clear hk0
                  try clear hkj e1
                  go_wp2_with (first
                    | (go_at_call 40; (with_reducible refine cL.mono ?_); rintro e u ⟨rfl, g5⟩; have G5 := gtrans GA g5; have O5 := own_keep OA g5; have z5 := G5.size; obtain ⟨bc, bf⟩ := bcell g5; have y0 := (bc _ 0 NA.lt).trans n0; have y1 := (bc _ 1 NA.lt).trans n1; have y2 := (bc _ 2 NA.lt).trans n2; have y3 := (bc _ 3 NA.lt).trans n3; have y4 := (bc _ 4 NA.lt).trans n4; have y5 := (bc _ 5 NA.lt).trans n5)
                    | (go_at_call 41; (with_reducible refine (cO _).mono ?_); rintro e u6 ⟨rfl, rfl⟩)
                    | (go_at_call 42; (with_reducible refine (cT _).mono ?_); rintro e u6 ⟨rfl, rfl⟩))
                  go_ret2
                  first | exact ⟨gtrans GA g5, .inl ⟨HN.out, rfl⟩⟩ | exact ⟨gtrans GA g5, .inl ⟨HN.out, by rfl⟩⟩
              · have bl1 : (yl == (j : Int)) = false := beq_eq_false_iff_ne.2 hl1
                have hno : nodeO ⟨yo, 0, eS, eS, yl, yr⟩ bs = none := node_one (g := false) h12' (by constructor; (intro h; cases h); (intro h; dsimp only at h; omega))
                have HN := hmoreN hno
                clear hmoreN hmoreS hmoreB hno hlf
                try clear hk0
                try clear hkj e1
                go_wp2_with (first
                  | (go_at_call 40; (with_reducible refine cL.mono ?_); rintro e u ⟨rfl, g5⟩; have G5 := gtrans GA g5; have O5 := own_keep OA g5; have z5 := G5.size; obtain ⟨bc, bf⟩ := bcell g5; have y0 := (bc _ 0 NA.lt).trans n0; have y1 := (bc _ 1 NA.lt).trans n1; have y2 := (bc _ 2 NA.lt).trans n2; have y3 := (bc _ 3 NA.lt).trans n3; have y4 := (bc _ 4 NA.lt).trans n4; have y5 := (bc _ 5 NA.lt).trans n5)
                  | (go_at_call 41; (with_reducible refine (cO _).mono ?_); rintro e u6 ⟨rfl, rfl⟩)
                  | (go_at_call 42; (with_reducible refine (cT _).mono ?_); rintro e u6 ⟨rfl, rfl⟩))
                go_ret2
                first | exact ⟨gtrans GA g5, .inl ⟨HN.out, rfl⟩⟩ | exact ⟨gtrans GA g5, .inl ⟨HN.out, by rfl⟩⟩
        · rw [hlf] at cL
          have hso : nodeO ⟨yo, 0, eS, eS, yl, yr⟩ bs = some (k : Int) := by unfold nodeO; rw [hlf, if_pos rfl, hbl]
          have HT := hmoreS _ hso
          have hB2 := hmoreB _ hso
          clear hmoreN hmoreS hmoreB hso hlf
          try clear hk0
          try clear hkj e1
          go_wp2_with (first
            | (go_at_call 40; (with_reducible refine cL.mono ?_); rintro e u ⟨rfl, g5⟩; have G5 := gtrans GA g5; have O5 := own_keep OA g5; have z5 := G5.size; obtain ⟨bc, bf⟩ := bcell g5; have y0 := (bc _ 0 NA.lt).trans n0; have y1 := (bc _ 1 NA.lt).trans n1; have y2 := (bc _ 2 NA.lt).trans n2; have y3 := (bc _ 3 NA.lt).trans n3; have y4 := (bc _ 4 NA.lt).trans n4; have y5 := (bc _ 5 NA.lt).trans n5)
            | (go_at_call 41; (with_reducible refine (cO _).mono ?_); rintro e u6 ⟨rfl, rfl⟩)
            | (go_at_call 42; (with_reducible refine (cT _).mono ?_); rintro e u6 ⟨rfl, rfl⟩)
            | (at_builtin; refine wpList_append_own _ rfl (.tmp 34) (.tmp 36) 49 rfl w.heap.size 3 i0 (.int .i64 0) 1 8 Tryz.underlying49 hi hz0 hz1 hz2 rfl (by decide) _ _ _ rfl (O5.alloc _) ⟨u.heap.size, 0, none⟩ 1 1 [_] rfl rfl (cell_one_new _ _ _) (int_one _) ?c3 ?c4 ?c5 ?_))
          case c3 => unfold maxLen; omega
          case c4 => omega
          case c5 => first | omega | (simp; omega)
          intro v' w1 hown' hgrow _
          rw [ints_more] at hown'
          have G9 : Below w.heap.size w w1 := (galloc G5 _).grown hgrow (by simp; omega) (fun r e => (O5.lt _ e).1)
          clear hgrow O O5 OA
          go_wp2
          go_roundw
          case rel => exact ⟨k + 1, _, by omega, by go_num, by simp [hbl], hB2, HT.out, hown', G9⟩
          case measure => simp [intOf]; omega

    · obtain rfl : k = n := by omega
      rw [List.drop_of_length_le (by omega)] at hbeg
      go_wp2
      go_ret2
      exact ⟨G, .inr ⟨bs, _, hbeg, rfl, by rw [hbl]; exact O⟩⟩

end Go.Proofs.YtlejhococjlijaaGreatDoor
