/- What code.Run comes to: the walk. And what goes with it: 3 texts in one. -/
import Derived.Test.YtnolbpekdikamaaGreatDoorJb21
import Derived.Deep.RegionHeld3
import Derived.Deep.CutRange
import Derived.Deep.AppendLies
namespace Go.Proofs.YtnolbpekdikamaaGreatDoor
open Go.RowKit Go.BigFrame
set_option linter.unusedVariables false
set_option linter.unusedSimpArgs false

set_option maxRecDepth 100000 in
set_option maxHeartbeats 8000000 in
theorem run_any (p : Prg) (hp : p.ok) (E : Envr) (hE : E.ok) (ai : Option Addr) (ci : Nat) (ac : Option Addr) (cc : Nat) (al : Option Addr) (cl : Nat) (w : World) (IP : IsPr w p ai ci ac cc) (IE : IsEnv w E al cl) (T : TbAt w) :
    Calls Tryz.prog 12 #[prgA p ai ci ac cc, envA al cl E] w fun e w' => e = .returned (.tuple #[VA (runV p E).1, .int .i64 (runV p E).2]) ∧ Below w.heap.size w w' := by
  obtain ⟨M, hM, hmk0⟩ := run_make_cap (P := Tryz.prog) 84 51 Tryz.underlying84 nf_val 16 (by decide) (by decide)
  have hmk : ∀ w : World, (Instr.makeSlice 84 (.int .i64 0) (.int .i64 16)).run Tryz.prog w = .ok (.slice (some ⟨w.heap.size, 0, none⟩) 0 16) (w.alloc (.cells M 51)) := hmk0
  clear hmk0
  have hpn := hp.n
  obtain ⟨i9, j9, j0, j1, j2⟩ := nf_info nf_val
  have P0 := (((Bk.new w #[.slice ai p.code.length ci, .slice ac p.cols.length cc] 48).alloc (.cells #[.slice al E.lists.length cl, .int .i64 E.each, .int .i64 E.at_] 34)).alloc (.cells #[.bool false, .int .i64 0] 51)).alloc (.cells M 51)
  have E0 := ((Bk.newE (w := w.alloc (.cells #[.slice ai p.code.length ci, .slice ac p.cols.length cc] 48)) (g := w.heap.size + 1) (by simp) #[.slice al E.lists.length cl, .int .i64 E.each, .int .i64 E.at_] 34).alloc (.cells #[.bool false, .int .i64 0] 51)).alloc (.cells M 51)
  have R0 := (Bk.newE (w := (w.alloc (.cells #[.slice ai p.code.length ci, .slice ac p.cols.length cc] 48)).alloc (.cells #[.slice al E.lists.length cl, .int .i64 E.each, .int .i64 E.at_] 34)) (g := w.heap.size + 2) (by simp) #[.bool false, .int .i64 0] 51).alloc (.cells M 51)
  have B0 := galloc (galloc (galloc (galloc (Below.refl w.heap.size w) (.cells #[.slice ai p.code.length ci, .slice ac p.cols.length cc] 48)) (.cells #[.slice al E.lists.length cl, .int .i64 E.each, .int .i64 E.at_] 34)) (.cells #[.bool false, .int .i64 0] 51)) (.cells M 51)
  have O0 := World.ownsRow_made (base := w.heap.size + 3) (e := 51) (size := 2) (((w.alloc (.cells #[.slice ai p.code.length ci, .slice ac p.cols.length cc] 48)).alloc (.cells #[.slice al E.lists.length cl, .int .i64 E.each, .int .i64 E.at_] 34)).alloc (.cells #[.bool false, .int .i64 0] 51)) M 16 (by simp) (by decide) hM
  rw [show (((w.alloc (.cells #[.slice ai p.code.length ci, .slice ac p.cols.length cc] 48)).alloc (.cells #[.slice al E.lists.length cl, .int .i64 E.each, .int .i64 E.at_] 34)).alloc (.cells #[.bool false, .int .i64 0] 51)).heap.size = w.heap.size + 1 + 1 + 1 by simp] at O0
  obtain ⟨⟨⟨xk, xn⟩, xe⟩, hx⟩ : ∃ x, runV p E = x := ⟨_, rfl⟩
  rw [hx]
  have HX : Hid (runW p.code p.cols E 0 [] = ((xk, xn), xe)) := hx
  clear hx
  go_enter Tryz.func12, Tryz.ntmps12
  go_wp2
  go_step3
  go_wp2
  go_step3
  go_wp2
  generalize (((w.alloc (.cells #[.slice ai p.code.length ci, .slice ac p.cols.length cc] 48)).alloc (.cells #[.slice al E.lists.length cl, .int .i64 E.each, .int .i64 E.at_] 34)).alloc (.cells #[.bool false, .int .i64 0] 51)).alloc (.cells M 51) = Z at *
  clear hmk
  go_loopw [6, 7] (fun v i wr => RunL p E ((xk, xn), xe) w ai ci ac cc al cl v i wr) (fun _ i _ => p.code.length - (intOf i).toNat)
  case atStart => exact ⟨⟨0, [], Nat.zero_le _, rfl, Nat.le_refl _, fitS_nil, HX.out, O0, P0, E0, R0, B0⟩⟩
  case round =>
    clear O0 P0 E0 R0 B0 HX
    obtain ⟨⟨k, st, hk, rfl, hsk, hfit, hR, MM⟩⟩ := hrel
    have HR := show Hid (_ = _) from hR
    clear hR
    have zr := MM.rb.lt
    obtain ⟨ao, cap, rfl, hcap, _, _⟩ := own_form MM.own
    have hob := MM.own.lt
    have nb : ∀ b, (b < w.heap.size + 3 ∨ b = wr.heap.size) → some b ≠ (Value.slice ao st.length cap).ownBlock := fun b hb e => by have := hob _ e.symm; omega
    clear hob
    by_cases hlt : k < p.code.length
    · have hki : (k : Int) < (p.code.length : Int) := by omega
      obtain ⟨g, o, rfl, hg, hcc⟩ := ((IP.keep MM.g).f).form (by rw [fl_len insC_sz]; omega)
      have A := in_at hcc k hlt
      have hio := hp.i k
      obtain ⟨⟨c, it, co, n, tz⟩, hin⟩ : ∃ i, p.code.getD k noIn = i := ⟨_, rfl⟩
      rw [hin] at A hio
      have HIN := show Hid (_ = _) from hin
      obtain ⟨c0, c1, c2, c3, c4⟩ := A
      dsimp only at c0 c1 c2 c3 c4
      clear hcc hin
      have hpb0 := MM.pb.at2.1
      have MX := MM.keep (galloc (Below.refl wr.heap.size wr) (.cells #[.int .i64 c, .int .i64 it, .int .i64 co, .int .i64 n, .int .i64 tz] 87))
      have IX := Bk.new wr #[.int .i64 c, .int .i64 it, .int .i64 co, .int .i64 n, .int .i64 tz] 87
      go_upto_region 5 with fail
      generalize wr.alloc (.cells #[.int .i64 c, .int .i64 it, .int .i64 co, .int .i64 n, .int .i64 tz] 87) = X at *
      clear c0 c1 c2 c3 c4 hpb0 MM
      have zx := IX.lt
      obtain ⟨i0, i1, i2, i3, i4⟩ := IX.at5
      have TX := T.keep MX.g
      have pb0 := MX.pb.at2.1
      have pb1 := MX.pb.at2.2
      obtain ⟨eb0, eb1, eb2⟩ := MX.eb.at3
      have rb0 : X.cell? ⟨w.heap.size + 1 + 1, 0, none⟩ = _ := MX.rb.at2.1
      have rb1 : X.cell? ⟨w.heap.size + 1 + 1, 1, none⟩ = _ := MX.rb.at2.2
      have rf : ∀ o, X.frozen? ⟨w.heap.size + 1 + 1, o, none⟩ = false := MX.rb.free
      have cr := isReady_any c st.length X TX.o
      by_cases hrdy : 0 < c ∧ c < 27 ∧ ndsI c ≤ st.length
      · rw [decide_eq_true hrdy] at cr
        have hnr : ¬ ¬ (0 < c ∧ c < 27 ∧ ndsI c ≤ st.length) := fun h => h hrdy
        obtain ⟨hr0, hr1, hr2⟩ := hrdy
        by_cases h1 : c = 1
        · subst h1
          have hs : stepP p.code p.cols E k st = some (k + 1, st ++ [(true, n)]) := by rw [stepP_of HIN.out, if_neg hnr, if_pos rfl]
          clear hnr hr0 hr1 hr2
          go_wp2_with (first
            | (go_at_call 25; (with_reducible refine cr.mono ?_); rintro _ _ ⟨rfl, rfl⟩)
            | (go_at_call 26; (with_reducible refine (cknown_any n X).mono ?_); rintro _ u ⟨rfl, g1⟩; have MU := MX.keep g1)
            | (at_builtin; refine wpList_append_own _ rfl (.tmp 54) (.tmp 58) 84 rfl (w.heap.size + 3) 51 i9 (.agg #[.bool false, .int .i64 0]) 2 16 Tryz.underlying84 j9 j0 j1 j2 rfl (by decide) _ _ _ rfl (MU.own.alloc _) ⟨u.heap.size, 0, none⟩ 1 1 [.bool true, .int .i64 n] rfl rfl (two_newE rfl _ _ _) (fun y hy => by simp at hy; rcases hy with rfl | rfl <;> rfl) ?c3 ?c4 ?c5 ?_))
          case c3 => unfold maxLen; omega
          case c4 => omega
          case c5 => have := MU.rb.lt; simp; omega
          intro v' w1 own' hgrow _
          have O2 : w1.ownsRow (w.heap.size + 3) 51 2 v' (st ++ [(true, n)]).length (fl valC (st ++ [(true, n)])) := by rw [fl_app, List.length_append]; exact own'
          have M2 := (MU.keep (galloc (Below.refl u.heap.size u) (.cells #[.bool true, .int .i64 n] 51))).grown O2 hgrow
          have fin : RunL p E ((xk, xn), xe) w (some ⟨g, o, none⟩) ci ac cc al cl v' (.int .i64 ((k : Int) + 1)) w1 := ⟨⟨k + 1, st ++ [(true, n)], by omega, by go_num, by simp; omega, stepP_fits hE hp.i hfit hs, (runW_go hlt hs (by omega)).symm.trans HR.out, M2⟩⟩
          clear O2 own' hgrow M2 MU MX HR HIN hs hfit IP IE T TX
          go_wp2
          go_roundw
          case rel => exact fin
          case measure => simp [intOf]; omega
        by_cases h4 : c = 4
        · subst h4
          have hs : stepP p.code p.cols E k st = some (k + 1, st ++ [(true, ((lstO E it).length : Int))]) := by rw [stepP_of HIN.out, if_neg hnr, if_neg h1, if_pos rfl]
          clear hnr hr0 hr1 hr2
          have hcn := count_any E al cl it X (IE.n.keep MX.g) (by have := (lstO_ok hE it).2.1; omega)
          generalize (lstO E it).length = ln at hcn hs
          go_wp2_with (first
            | (go_at_call 25; (with_reducible refine cr.mono ?_); rintro _ _ ⟨rfl, rfl⟩)
            | (go_at_call 27; (with_reducible refine hcn.mono ?_); rintro _ u ⟨rfl, g1⟩; have MU := MX.keep g1)
            | (at_builtin; refine wpList_append_own _ rfl (.tmp 62) (.tmp 67) 84 rfl (w.heap.size + 3) 51 i9 (.agg #[.bool false, .int .i64 0]) 2 16 Tryz.underlying84 j9 j0 j1 j2 rfl (by decide) _ _ _ rfl (MU.own.alloc _) ⟨u.heap.size, 0, none⟩ 1 1 [.bool true, .int .i64 (ln : Int)] rfl rfl (two_newE rfl _ _ _) (fun y hy => by simp at hy; rcases hy with rfl | rfl <;> rfl) ?c3 ?c4 ?c5 ?_))
          case c3 => unfold maxLen; omega
          case c4 => omega
          case c5 => have := MU.rb.lt; simp; omega
          intro v' w1 own' hgrow _
          have O2 : w1.ownsRow (w.heap.size + 3) 51 2 v' (st ++ [(true, (ln : Int))]).length (fl valC (st ++ [(true, (ln : Int))])) := by rw [fl_app, List.length_append]; exact own'
          have M2 := (MU.keep (galloc (Below.refl u.heap.size u) (.cells #[.bool true, .int .i64 (ln : Int)] 51))).grown O2 hgrow
          have fin : RunL p E ((xk, xn), xe) w (some ⟨g, o, none⟩) ci ac cc al cl v' (.int .i64 ((k : Int) + 1)) w1 := ⟨⟨k + 1, st ++ [(true, (ln : Int))], by omega, by go_num, by simp; omega, stepP_fits hE hp.i hfit hs, (runW_go hlt hs (by omega)).symm.trans HR.out, M2⟩⟩
          clear O2 own' hgrow M2 MU MX HR HIN hs hfit IP IE T TX
          go_wp2
          go_roundw
          case rel => exact fin
          case measure => simp [intOf]; omega
        have e1 : (c == 1) = false := beq_eq_false_iff_ne.2 h1
        have e4 : (c == 4) = false := beq_eq_false_iff_ne.2 h4
        by_cases h10 : c < 10
        · by_cases hco : 0 ≤ co ∧ co < (p.cols.length : Int)
          · obtain ⟨jc, rfl⟩ : ∃ jc : Nat, co = jc := ⟨co.toNat, by omega⟩
            have hjc : jc < p.cols.length := by omega
            have hs : stepP p.code p.cols E k st = some (k + 1, st ++ [menV (plcO (p.cols.getD jc [])) (opI c) E it]) := by rw [stepP_of HIN.out, if_neg hnr, if_neg h1, if_neg h4, if_pos h10, if_pos hco]; rfl
            obtain ⟨gc, oc, acl, ccl, rfl, x0, hfc, hsc⟩ := (IP.c.keep MX.g) jc hjc
            have hkl := hp.k jc
            have hgc : gc < w.heap.size := by
              obtain ⟨gc', oc', _, _, e', x', _⟩ := IP.c jc hjc
              cases e'
              exact lt_of_cell x'
            have cm : ∀ Y, Below X.heap.size X Y → Calls Tryz.prog 28 #[.int .i64 (opI c), envA al cl E, .int .i64 it, plcF acl (p.cols.getD jc []).length ccl] Y (fun e' w'' => e' = .returned (VA (menV (plcO (p.cols.getD jc [])) (opI c) E it)) ∧ Below Y.heap.size Y w'') := fun Y G => mention_any (opI c) E al cl it acl ccl (p.cols.getD jc []) Y (hfc.keep G) (by omega) (IE.n.keep (gtrans MX.g G)) hE
            have co' := fun Y => opOf_any c Y hr0 hr1
            generalize (p.cols.getD jc []).length = nc at cm x0
            obtain ⟨⟨mk, mn⟩, hmv⟩ : ∃ x, menV (plcO (p.cols.getD jc [])) (opI c) E it = x := ⟨_, rfl⟩
            rw [hmv] at cm hs
            generalize opI c = oi at cm co'
            have f1 : (jc : Int) < (p.cols.length : Int) := hco.2
            have f2 : ¬ (jc : Int) < 0 := by omega
            have hSn : ∀ Y, Below X.heap.size X Y → Y.cell? ⟨wr.heap.size, 0, none⟩ = some (.int .i64 c) ∧ Y.cell? ⟨wr.heap.size, 1, none⟩ = some (.int .i64 it) ∧ Y.cell? ⟨wr.heap.size, 2, none⟩ = some (.int .i64 (jc : Int)) ∧ Y.cell? ⟨w.heap.size, 1, none⟩ = some (.slice (some ⟨gc, oc, none⟩) p.cols.length cc) ∧ Y.cell? ⟨w.heap.size + 1, 0, none⟩ = some (.slice al E.lists.length cl) ∧ Y.cell? ⟨w.heap.size + 1, 1, none⟩ = some (.int .i64 E.each) ∧ Y.cell? ⟨w.heap.size + 1, 2, none⟩ = some (.int .i64 E.at_) ∧ Y.cell? ⟨gc, oc + jc, none⟩ = some (.slice acl nc ccl) := fun Y G => ⟨(G.cell (p := ⟨wr.heap.size, 0, none⟩) zx).trans i0, (G.cell (p := ⟨wr.heap.size, 1, none⟩) zx).trans i1, (G.cell (p := ⟨wr.heap.size, 2, none⟩) zx).trans i2, (G.cell (p := ⟨w.heap.size, 1, none⟩) (lt_of_cell pb1)).trans pb1, (G.cell (p := ⟨w.heap.size + 1, 0, none⟩) (lt_of_cell eb0)).trans eb0, (G.cell (p := ⟨w.heap.size + 1, 1, none⟩) (lt_of_cell eb1)).trans eb1, (G.cell (p := ⟨w.heap.size + 1, 2, none⟩) (lt_of_cell eb2)).trans eb2, (G.cell (p := ⟨gc, oc + jc, none⟩) (lt_of_cell x0)).trans x0⟩
            have Gd := (Below.refl X.heap.size X).drew
            have hSd := hSn _ Gd
            clear hnr hco hfc hmv HIN hr2 IP IE
            go_upto_if 69 with (first | (go_at_call 25; (with_reducible refine cr.mono ?_); rintro _ _ ⟨rfl, rfl⟩))
            go_cut [69] from 70 to 76 (fun s wx => s = .bool true ∧ wx = X)
            case first =>
              rcases (show c = 2 ∨ c = 3 ∨ c = 5 ∨ c = 6 ∨ c = 7 ∨ c = 8 ∨ c = 9 by omega) with rfl | rfl | rfl | rfl | rfl | rfl | rfl
              all_goals
                go_wp2
                go_meet
                case rel => exact ⟨rfl, rfl⟩
            case rest =>
              obtain ⟨rfl, rfl⟩ := hcut
              go_wp2
              go_region_held3 (fun Y : World => Y.cell? ⟨wr.heap.size, 0, none⟩ = some (.int .i64 c) ∧ Y.cell? ⟨wr.heap.size, 1, none⟩ = some (.int .i64 it) ∧ Y.cell? ⟨wr.heap.size, 2, none⟩ = some (.int .i64 (jc : Int)) ∧ Y.cell? ⟨w.heap.size, 1, none⟩ = some (.slice (some ⟨gc, oc, none⟩) p.cols.length cc) ∧ Y.cell? ⟨w.heap.size + 1, 0, none⟩ = some (.slice al E.lists.length cl) ∧ Y.cell? ⟨w.heap.size + 1, 1, none⟩ = some (.int .i64 E.each) ∧ Y.cell? ⟨w.heap.size + 1, 2, none⟩ = some (.int .i64 E.at_) ∧ Y.cell? ⟨gc, oc + jc, none⟩ = some (.slice acl nc ccl)) (first | (with_reducible exact hSd) | (with_reducible exact hSu) | (with_reducible exact hSa) | (with_reducible exact hS6)) (first
                | (go_at_call 29; (with_reducible refine (co' _).mono ?_); rintro _ _ ⟨rfl, rfl⟩)
                | (go_at_call 28; (with_reducible refine (cm _ Gd).mono ?_); rintro _ u ⟨rfl, g1⟩; have GU := gtrans Gd g1; have hSu := hSn u GU; have MU := MX.keep GU; have hSa := hSn _ (galloc GU (.cells #[.bool mk, .int .i64 mn] 51)))
                | (refine step_append_lies _ rfl (.tmp 88) (.tmp 103) 84 rfl (w.heap.size + 3) 51 i9 (.agg #[.bool false, .int .i64 0]) 2 16 Tryz.underlying84 j9 j0 j1 j2 rfl (by decide) (.slice ao st.length cap) st.length (fl valC st) (by simp [Act.eval, Act.put]) (MU.own.alloc _) ⟨u.heap.size, 0, none⟩ 1 1 [.bool mk, .int .i64 mn] (by simp [Act.eval, Act.put]) rfl (two_newE rfl _ _ _) (fun y hy => by simp at hy; rcases hy with rfl | rfl <;> rfl) (by decide) (by unfold maxLen; omega) (by omega) (by have := MU.rb.lt; simp; omega) _ rfl ?_; intro g6 c6 w1 own' hgrow _ _; have hS6 := show _ ∧ _ ∧ _ ∧ _ ∧ _ ∧ _ ∧ _ ∧ _ from ⟨hgrow.cell hSa.1 (nb wr.heap.size (.inr rfl)), hgrow.cell hSa.2.1 (nb wr.heap.size (.inr rfl)), hgrow.cell hSa.2.2.1 (nb wr.heap.size (.inr rfl)), hgrow.cell hSa.2.2.2.1 (nb w.heap.size (.inl (by omega))), hgrow.cell hSa.2.2.2.2.1 (nb (w.heap.size + 1) (.inl (by omega))), hgrow.cell hSa.2.2.2.2.2.1 (nb (w.heap.size + 1) (.inl (by omega))), hgrow.cell hSa.2.2.2.2.2.2.1 (nb (w.heap.size + 1) (.inl (by omega))), hgrow.cell hSa.2.2.2.2.2.2.2 (nb gc (.inl (by omega)))⟩))
              all_goals
                have O2 : w1.ownsRow (w.heap.size + 3) 51 2 (.slice (some ⟨g6, 0, none⟩) (st.length + 1) c6) (st ++ [(mk, mn)]).length (fl valC (st ++ [(mk, mn)])) := by rw [fl_app, List.length_append]; exact own'
                have M2 := (MU.keep (galloc (Below.refl u.heap.size u) (.cells #[.bool mk, .int .i64 mn] 51))).grown O2 hgrow
                have fin : RunL p E ((xk, xn), xe) w (some ⟨g, o, none⟩) ci (some ⟨gc, oc, none⟩) cc al cl (.slice (some ⟨g6, 0, none⟩) (st.length + 1) c6) (.int .i64 ((k : Int) + 1)) w1 := ⟨⟨k + 1, st ++ [(mk, mn)], by omega, by go_num, by simp; omega, stepP_fits hE hp.i hfit hs, (runW_go hlt hs (by omega)).symm.trans HR.out, M2⟩⟩
                clear O2 own' hgrow M2 MU MX HR hs hfit T TX cm co' hSn hSd hSu hSa hS6 Gd GU i0 i1 i2 i3 i4 pb0 pb1 eb0 eb1 eb2 rb0 rb1 x0
                go_wp2
                go_roundw
                case rel => exact fin
                case measure => simp [intOf]; omega
          · have hs : stepP p.code p.cols E k st = none := by rw [stepP_of HIN.out, if_neg hnr, if_neg h1, if_neg h4, if_pos h10, if_neg hco]
            clear hnr hr2
            by_cases hc0 : co < 0
            · rcases (show c = 2 ∨ c = 3 ∨ c = 5 ∨ c = 6 ∨ c = 7 ∨ c = 8 ∨ c = 9 by omega) with rfl | rfl | rfl | rfl | rfl | rfl | rfl
              all_goals
                clear hco
                obtain ⟨hx1, rfl⟩ := Prod.mk.inj ((runW_bad hlt hs).symm.trans HR.out)
                obtain ⟨rfl, rfl⟩ := Prod.mk.inj hx1
                clear HR HIN
                go_wp2_with (first | (go_at_call 25; (with_reducible refine cr.mono ?_); rintro _ _ ⟨rfl, rfl⟩))
                rw [Exit.noGoto_ret]
                refine bodyPost_ret (v := .tuple #[VA noV2, .int .i64 70]) (by simp [results, Tryz.results12, go_sem, rb0, rb1]) rfl ⟨rfl, ?_⟩
                first | exact MX.g | exact gset (gset MX.g (by simp; omega) _) (by simp; omega) _
            · have hc1 : (p.cols.length : Int) ≤ co := by omega
              rcases (show c = 2 ∨ c = 3 ∨ c = 5 ∨ c = 6 ∨ c = 7 ∨ c = 8 ∨ c = 9 by omega) with rfl | rfl | rfl | rfl | rfl | rfl | rfl
              all_goals
                clear hco
                obtain ⟨hx1, rfl⟩ := Prod.mk.inj ((runW_bad hlt hs).symm.trans HR.out)
                obtain ⟨rfl, rfl⟩ := Prod.mk.inj hx1
                clear HR HIN
                go_wp2_with (first | (go_at_call 25; (with_reducible refine cr.mono ?_); rintro _ _ ⟨rfl, rfl⟩))
                rw [Exit.noGoto_ret]
                refine bodyPost_ret (v := .tuple #[VA noV2, .int .i64 70]) (by simp [results, Tryz.results12, go_sem, rb0, rb1]) rfl ⟨rfl, ?_⟩
                first | exact MX.g | exact gset (gset MX.g (by simp; omega) _) (by simp; omega) _
        have e2 : (c == 2) = false := beq_eq_false_iff_ne.2 (by omega)
        have e3 : (c == 3) = false := beq_eq_false_iff_ne.2 (by omega)
        have e5 : (c == 5) = false := beq_eq_false_iff_ne.2 (by omega)
        have e6 : (c == 6) = false := beq_eq_false_iff_ne.2 (by omega)
        have e7 : (c == 7) = false := beq_eq_false_iff_ne.2 (by omega)
        have e8 : (c == 8) = false := beq_eq_false_iff_ne.2 (by omega)
        have e9 : (c == 9) = false := beq_eq_false_iff_ne.2 (by omega)
        by_cases h10 : c = 10
        · subst h10
          obtain ⟨j, hj⟩ : ∃ j, st.length = j + 1 := ⟨st.length - 1, by have := show ndsI 10 = 1 from rfl; omega⟩
          have hs : stepP p.code p.cols E k st = some (k + 1, st.set j (negW (st.getD j noV2))) := by rw [stepP_of HIN.out, if_neg hnr, if_neg (by decide), if_neg (by decide), if_neg (by decide), if_pos rfl]; unfold topV; rw [hj]; rfl
          obtain ⟨gs, caps, hv, hgs, hgb, hcs, hfz, hcl⟩ := MX.form (by omega)
          obtain ⟨s0, s1⟩ := hcl j (by omega)
          have hfj := hfit j
          obtain ⟨⟨tk, tn⟩, htv⟩ : ∃ x, st.getD j noV2 = x := ⟨_, rfl⟩
          rw [htv] at s0 s1 hs hfj
          dsimp only at s0 s1
          have cc' := neg_any tk tn X hfj
          obtain ⟨⟨yk, yn⟩, hyv⟩ : ∃ x, negW (tk, tn) = x := ⟨_, rfl⟩
          have hy1 : negW (tk, tn) = _ := hyv
          unfold negW at hy1
          obtain ⟨hyk, hyn⟩ := Prod.mk.inj hy1
          dsimp only at hyk hyn
          rw [hyk, hyn] at cc'
          rw [hyv] at hs
          cases hv
          have hs3 := MX.set rfl j (by omega) (yk, yn)
          clear hnr hr0 hr1 hr2 hcl htv hy1 hyk hyn hyv
          rw [hj, show ((j + 1 : Nat) : Int) = (j : Int) + 1 by omega] at cr
          rw [hj]
          go_wp2_with (first
            | (go_at_call 25; (with_reducible refine cr.mono ?_); rintro _ _ ⟨rfl, rfl⟩)
            | (go_at_call 31; (with_reducible refine cc'.mono ?_); rintro _ u ⟨rfl, g1⟩; have MU := MX.keep g1; obtain ⟨gs', caps', hv', hgs', hgb', hcs', hfz', hcl'⟩ := MU.form (by omega); cases hv'; obtain ⟨s0', s1'⟩ := hcl' j (by omega)))
          have M1 := MU
          rw [hj] at M1
          have M2 := M1.set hj j (by omega) (yk, yn)
          have fin : RunL p E ((xk, xn), xe) w (some ⟨g, o, none⟩) ci ac cc al cl (.slice (some ⟨gs, 0, none⟩) (j + 1) cap) (.int .i64 ((k : Int) + 1)) ((u.setCell ⟨gs, j * 2, none⟩ (.bool yk)).setCell ⟨gs, j * 2 + 1, none⟩ (.int .i64 yn)) := ⟨⟨k + 1, st.set j (yk, yn), by omega, by go_num, by rw [List.length_set]; omega, stepP_fits hE hp.i hfit hs, (runW_go hlt hs (by omega)).symm.trans HR.out, M2⟩⟩
          clear s0 s1 M1 M2 MX
          go_wp2
          go_roundw
          case rel => exact fin
          case measure => simp [intOf]; omega
        by_cases h11 : c = 11
        · subst h11
          obtain ⟨j, hj⟩ : ∃ j, st.length = j + 1 := ⟨st.length - 1, by have := show ndsI 11 = 1 from rfl; omega⟩
          have hs : stepP p.code p.cols E k st = some (k + 1, st.set j (notW (st.getD j noV2))) := by rw [stepP_of HIN.out, if_neg hnr, if_neg (by decide), if_neg (by decide), if_neg (by decide), if_neg (by decide), if_pos rfl]; unfold topV; rw [hj]; rfl
          obtain ⟨gs, caps, hv, hgs, hgb, hcs, hfz, hcl⟩ := MX.form (by omega)
          obtain ⟨s0, s1⟩ := hcl j (by omega)
          have hfj := hfit j
          obtain ⟨⟨tk, tn⟩, htv⟩ : ∃ x, st.getD j noV2 = x := ⟨_, rfl⟩
          rw [htv] at s0 s1 hs hfj
          dsimp only at s0 s1
          have cc' := not_any tk tn X TX.n
          obtain ⟨⟨yk, yn⟩, hyv⟩ : ∃ x, notW (tk, tn) = x := ⟨_, rfl⟩
          have hy1 : notW (tk, tn) = _ := hyv
          unfold notW at hy1
          obtain ⟨hyk, hyn⟩ := Prod.mk.inj hy1
          dsimp only at hyk hyn
          rw [hyk, hyn] at cc'
          rw [hyv] at hs
          cases hv
          have hs3 := MX.set rfl j (by omega) (yk, yn)
          clear hnr hr0 hr1 hr2 hcl htv hy1 hyk hyn hyv
          rw [hj, show ((j + 1 : Nat) : Int) = (j : Int) + 1 by omega] at cr
          rw [hj]
          go_wp2_with (first
            | (go_at_call 25; (with_reducible refine cr.mono ?_); rintro _ _ ⟨rfl, rfl⟩)
            | (go_at_call 32; (with_reducible refine cc'.mono ?_); rintro _ u ⟨rfl, g1⟩; have MU := MX.keep g1; obtain ⟨gs', caps', hv', hgs', hgb', hcs', hfz', hcl'⟩ := MU.form (by omega); cases hv'; obtain ⟨s0', s1'⟩ := hcl' j (by omega)))
          have M1 := MU
          rw [hj] at M1
          have M2 := M1.set hj j (by omega) (yk, yn)
          have fin : RunL p E ((xk, xn), xe) w (some ⟨g, o, none⟩) ci ac cc al cl (.slice (some ⟨gs, 0, none⟩) (j + 1) cap) (.int .i64 ((k : Int) + 1)) ((u.setCell ⟨gs, j * 2, none⟩ (.bool yk)).setCell ⟨gs, j * 2 + 1, none⟩ (.int .i64 yn)) := ⟨⟨k + 1, st.set j (yk, yn), by omega, by go_num, by rw [List.length_set]; omega, stepP_fits hE hp.i hfit hs, (runW_go hlt hs (by omega)).symm.trans HR.out, M2⟩⟩
          clear s0 s1 M1 M2 MX
          go_wp2
          go_roundw
          case rel => exact fin
          case measure => simp [intOf]; omega
        have e10 : (c == 10) = false := beq_eq_false_iff_ne.2 h10
        have e11 : (c == 11) = false := beq_eq_false_iff_ne.2 h11
        by_cases h25 : 25 ≤ c
        · obtain ⟨j, hj⟩ : ∃ j, st.length = j + 1 := ⟨st.length - 1, by have : ndsI c = 1 := by { unfold ndsI; rw [if_neg (by omega), if_pos (by omega)] }; omega⟩
          obtain ⟨gs, caps, hv, hgs, hgb, hcs, hfz, hcl⟩ := MX.form (by omega)
          obtain ⟨s0, s1⟩ := hcl j (by omega)
          by_cases hto : (k : Int) < tz ∧ tz ≤ (p.code.length : Int)
          · obtain ⟨ht0, ht1⟩ := hto
            have htp : topV st = st.getD j noV2 := by unfold topV; rw [hj]; rfl
            obtain ⟨⟨tk, tn⟩, htv⟩ : ∃ x, st.getD j noV2 = x := ⟨_, rfl⟩
            rw [htv] at s0 s1 htp
            dsimp only at s0 s1
            have cj : ∀ z : Ext X, Calls Tryz.prog 33 #[.int .i64 c, VA (tk, tn)] z.X (fun e' w'' => e' = .returned (.bool (jmpB c (tk, tn))) ∧ ∃ m : Ext X, w'' = m.X) := fun z => ext_of (jumps_any c (tk, tn) z.X)
            have hs : stepP p.code p.cols E k st = if jmpB c (tk, tn) = true then some (tz.toNat, st) else some (k + 1, st) := by rw [stepP_of HIN.out, if_neg hnr, if_neg h1, if_neg h4, if_neg (by omega), if_neg h10, if_neg h11, if_pos h25, if_pos ⟨ht0, ht1⟩, htp]
            have hne : Nonempty (Ext X) := ⟨⟨_, Below.refl _ _⟩⟩
            have p0 := fun z : Ext X => (z.cell _ _ zx).trans i0
            have p1 := fun z : Ext X => (z.cell _ _ (lt_of_cell s0)).trans s0
            have p2 := fun z : Ext X => (z.cell _ _ (lt_of_cell s1)).trans s1
            cases hv
            have f1 : ¬ tz ≤ (k : Int) := by omega
            have f2 : ¬ (p.code.length : Int) < tz := by omega
            rw [hj, show ((j + 1 : Nat) : Int) = (j : Int) + 1 by omega] at cr
            rw [hj]
            have M0 := MX
            rw [hj] at M0
            clear hcl htv
            cases hjm : jmpB c (tk, tn)
            · rw [hjm, if_neg (by decide)] at hs
              rw [hjm] at cj
              go_upto_if 125 with (first | (go_at_call 25; (with_reducible refine cr.mono ?_); rintro _ _ ⟨rfl, rfl⟩))
              go_cut [125] from 126 to 127 (fun s wx => s = .bool true ∧ wx = X)
              case first =>
                rcases (show c = 25 ∨ c = 26 by omega) with rfl | rfl
                all_goals
                  go_wp2
                  go_meet
                  case rel => exact ⟨rfl, rfl⟩
              case rest =>
                obtain ⟨rfl, rfl⟩ := hcut
                go_wp2
                refine wp_region_ext (by kernel_rfl) (by kernel_rfl) ?_
                repeat (go_big_quiet_step (first | (go_at_call 33; with_reducible exact cj _)))
                refine wpQuiet_nil ?_
                intro _ hw'
                obtain ⟨nx, hw''⟩ := hw'
                subst hw''
                have fin : RunL p E ((xk, xn), xe) w (some ⟨g, o, none⟩) ci ac cc al cl (.slice (some ⟨gs, 0, none⟩) (j + 1) cap) (.int .i64 ((k : Int) + 1)) nx.X := ⟨⟨k + 1, st, by omega, by go_num, by omega, hfit, (runW_go hlt hs (by omega)).symm.trans HR.out, M0.keep nx.h⟩⟩
                generalize nx.X = u at *
                clear s0 s1 cj p0 p1 p2 M0 MX
                go_wp2
                go_roundw
                case rel => exact fin
                case measure => simp [intOf]; omega
            · rw [hjm, if_pos rfl] at hs
              rw [hjm] at cj
              obtain ⟨q, hq⟩ : ∃ q : Nat, tz = q := ⟨tz.toNat, by omega⟩
              have hq2 : tz.toNat = q := by omega
              rw [hq2] at hs
              go_upto_if 125 with (first | (go_at_call 25; (with_reducible refine cr.mono ?_); rintro _ _ ⟨rfl, rfl⟩))
              go_cut [125] from 126 to 127 (fun s wx => s = .bool true ∧ wx = X)
              case first =>
                rcases (show c = 25 ∨ c = 26 by omega) with rfl | rfl
                all_goals
                  go_wp2
                  go_meet
                  case rel => exact ⟨rfl, rfl⟩
              case rest =>
                obtain ⟨rfl, rfl⟩ := hcut
                go_wp2
                refine wp_region_ext (by kernel_rfl) (by kernel_rfl) ?_
                repeat (go_big_quiet_step (first | (go_at_call 33; with_reducible exact cj _)))
                refine wpQuiet_nil ?_
                intro _ hw'
                obtain ⟨nx, hw''⟩ := hw'
                subst hw''
                have fin : RunL p E ((xk, xn), xe) w (some ⟨g, o, none⟩) ci ac cc al cl (.slice (some ⟨gs, 0, none⟩) (j + 1) cap) (.int .i64 (q : Int)) nx.X := ⟨⟨q, st, by omega, rfl, by omega, hfit, (runW_go hlt hs (by omega)).symm.trans HR.out, M0.keep nx.h⟩⟩
                have I5 := ((IX.keep nx.h).at5).2.2.2.2
                generalize nx.X = u at *
                clear s0 s1 cj p0 p1 p2 M0 MX
                have hqk : k < q := by omega
                go_wp2
                go_roundw
                case rel => exact fin
                case measure => simp [intOf]; omega
          · have hs : stepP p.code p.cols E k st = none := by rw [stepP_of HIN.out, if_neg hnr, if_neg h1, if_neg h4, if_neg (by omega), if_neg h10, if_neg h11, if_pos h25, if_neg hto]
            clear hcl s0 s1 hj hv hgs hgb hcs hfz
            by_cases hc0 : tz ≤ (k : Int)
            · rcases (show c = 25 ∨ c = 26 by omega) with rfl | rfl
              all_goals
                clear hto
                obtain ⟨hx1, rfl⟩ := Prod.mk.inj ((runW_bad hlt hs).symm.trans HR.out)
                obtain ⟨rfl, rfl⟩ := Prod.mk.inj hx1
                clear HR HIN
                go_wp2_with (first | (go_at_call 25; (with_reducible refine cr.mono ?_); rintro _ _ ⟨rfl, rfl⟩))
                rw [Exit.noGoto_ret]
                refine bodyPost_ret (v := .tuple #[VA noV2, .int .i64 70]) (by simp [results, Tryz.results12, go_sem, rb0, rb1]) rfl ⟨rfl, ?_⟩
                first | exact MX.g | exact gset (gset MX.g (by simp; omega) _) (by simp; omega) _
            · have hc1 : (p.code.length : Int) < tz := by omega
              rcases (show c = 25 ∨ c = 26 by omega) with rfl | rfl
              all_goals
                clear hto
                obtain ⟨hx1, rfl⟩ := Prod.mk.inj ((runW_bad hlt hs).symm.trans HR.out)
                obtain ⟨rfl, rfl⟩ := Prod.mk.inj hx1
                clear HR HIN
                go_wp2_with (first | (go_at_call 25; (with_reducible refine cr.mono ?_); rintro _ _ ⟨rfl, rfl⟩))
                rw [Exit.noGoto_ret]
                refine bodyPost_ret (v := .tuple #[VA noV2, .int .i64 70]) (by simp [results, Tryz.results12, go_sem, rb0, rb1]) rfl ⟨rfl, ?_⟩
                first | exact MX.g | exact gset (gset MX.g (by simp; omega) _) (by simp; omega) _
        have e25 : (c == 25) = false := beq_eq_false_iff_ne.2 (by omega)
        have e26 : (c == 26) = false := beq_eq_false_iff_ne.2 (by omega)
        obtain ⟨j, hj⟩ : ∃ j, st.length = j + 2 := ⟨st.length - 2, by have : ndsI c = 2 := by { unfold ndsI; rw [if_neg (by omega), if_neg (by omega)] }; omega⟩
        obtain ⟨gs, caps, hv, hgs, hgb, hcs, hfz, hcl⟩ := MX.form (by omega)
        obtain ⟨s0, s1⟩ := hcl j (by omega)
        obtain ⟨s2, s3⟩ := hcl (j + 1) (by omega)
        have hfj := hfit j
        have hfj1 := hfit (j + 1)
        have htp : topV st = st.getD (j + 1) noV2 := by unfold topV; rw [hj]; rfl
        have hsp : sndV st = st.getD j noV2 := by unfold sndV; rw [hj]; rfl
        obtain ⟨⟨tk, tn⟩, htv⟩ : ∃ x, st.getD (j + 1) noV2 = x := ⟨_, rfl⟩
        obtain ⟨⟨sk, sn⟩, hsv⟩ : ∃ x, st.getD j noV2 = x := ⟨_, rfl⟩
        rw [htv] at s2 s3 htp hfj1
        rw [hsv] at s0 s1 hsp hfj
        dsimp only at s0 s1 s2 s3
        have hoi : opI c = c + 2 := by unfold opI; rw [if_neg (by omega), if_neg (by omega), if_neg (by omega)]
        have ca := apply_one (c + 2) (sk, sn) (tk, tn) hfj hfj1
        obtain ⟨⟨yk, yn⟩, hyv⟩ : ∃ x, applyV (c + 2) (sk, sn) (tk, tn) = x := ⟨_, rfl⟩
        rw [hyv] at ca
        have hs : stepP p.code p.cols E k st = some (k + 1, (st.set j (yk, yn)).take (j + 1)) := by
          rw [stepP_of HIN.out, if_neg hnr, if_neg h1, if_neg h4, if_neg (by omega), if_neg h10, if_neg h11, if_neg h25, htp, hsp, hyv, hj]
          rfl
        have co' := fun Y => opOf_any c Y hr0 hr1
        rw [hoi] at co'
        have cA : ∀ z : Ext X, Calls Tryz.prog 34 #[.int .i64 (c + 2), VA (sk, sn), VA (tk, tn)] z.X (fun e' w'' => e' = .returned (VA (yk, yn)) ∧ ∃ m : Ext X, w'' = m.X) := fun z => ext_of (ca z.X (TX.t.keep z.h))
        have cO : ∀ z : Ext X, Calls Tryz.prog 29 #[.int .i64 c] z.X (fun e' w'' => e' = .returned (.int .i64 (c + 2)) ∧ ∃ m : Ext X, w'' = m.X) := fun z => ext_of ((co' z.X).mono fun e u ⟨he, hu⟩ => ⟨he, hu ▸ Below.refl _ _⟩)
        generalize c + 2 = oi at cA cO
        have hne : Nonempty (Ext X) := ⟨⟨_, Below.refl _ _⟩⟩
        have p0 := fun z : Ext X => (z.cell _ _ zx).trans i0
        have p1 := fun z : Ext X => (z.cell _ _ (lt_of_cell s0)).trans s0
        have p2 := fun z : Ext X => (z.cell _ _ (lt_of_cell s1)).trans s1
        have p3 := fun z : Ext X => (z.cell _ _ (lt_of_cell s2)).trans s2
        have p4 := fun z : Ext X => (z.cell _ _ (lt_of_cell s3)).trans s3
        cases hv
        rw [hj, show ((j + 2 : Nat) : Int) = (j : Int) + 2 by omega] at cr
        rw [hj]
        have M0 := MX
        rw [hj] at M0
        have hjj : j + 2 ≤ cap := by omega
        have hk2 : k + 1 ≤ p.code.length := by omega
        have hk3 : st.length ≤ k := hsk
        clear hcl htv hsv hyv hfz hcs hr2 hnr h1 h4 h10 h11 h25 co' ca hoi htp hsp
        go_wp2_with (first | (go_at_call 25; (with_reducible refine cr.mono ?_); rintro _ _ ⟨rfl, rfl⟩))
        refine wp_region_ext_tail 17 (by kernel_rfl) (by kernel_rfl) ?_
        simp only [List.take_succ_cons, List.take_zero, List.drop_succ_cons, List.drop_zero]
        repeat (go_big_quiet_step (first | (go_at_call 29; with_reducible exact cO _) | (go_at_call 34; with_reducible exact cA _)))
        refine wpQuiet_nil ?_
        intro _ hw'
        obtain ⟨nx, hw''⟩ := hw'
        subst hw''
        have MU := M0.keep nx.h
        generalize nx.X = u at *
        obtain ⟨gs', caps', hv', hgs', hgb', hcs', hfz', hcl'⟩ := MU.form (by omega)
        rw [hj] at hv'
        cases hv'
        obtain ⟨q0, q1⟩ := hcl' j (by omega)
        have M2 := MU.set hj j (by omega) (yk, yn)
        have M3 := M2.pop (by rw [List.length_set]; omega)
        have fin : RunL p E ((xk, xn), xe) w (some ⟨g, o, none⟩) ci ac cc al cl (.slice (some ⟨gs, 0, none⟩) (j + 1) cap) (.int .i64 ((k : Int) + 1)) ((u.setCell ⟨gs, j * 2, none⟩ (.bool yk)).setCell ⟨gs, j * 2 + 1, none⟩ (.int .i64 yn)) := ⟨⟨k + 1, (st.set j (yk, yn)).take (j + 1), hk2, by go_num, by rw [List.length_take, List.length_set]; omega, stepP_fits hE hp.i hfit hs, (runW_go hlt hs (by omega)).symm.trans HR.out, M3⟩⟩
        clear p0 p1 p2 p3 p4 cA cO M0 MX M2 M3 s0 s1 s2 s3 hcl' nx
        go_wp2
        go_roundw
        case rel => exact fin
        case measure => simp [intOf]; omega
      · rw [decide_eq_false hrdy] at cr
        have hs : stepP p.code p.cols E k st = none := by rw [stepP_of HIN.out, if_pos hrdy]
        clear hrdy
        obtain ⟨hx1, rfl⟩ := Prod.mk.inj ((runW_bad hlt hs).symm.trans HR.out)
        obtain ⟨rfl, rfl⟩ := Prod.mk.inj hx1
        clear HR HIN
        go_wp2_with (first | (go_at_call 25; (with_reducible refine cr.mono ?_); rintro _ _ ⟨rfl, rfl⟩))
        rw [Exit.noGoto_ret]
        refine bodyPost_ret (v := .tuple #[VA noV2, .int .i64 70]) (by simp [results, Tryz.results12, go_sem, rb0, rb1]) rfl ⟨rfl, ?_⟩
        first | exact MX.g | exact gset (gset MX.g (by simp; omega) _) (by simp; omega) _
    · obtain rfl : k = p.code.length := by omega
      have hend := (runW_end (cols := p.cols) (E := E) (st := st) hlt).symm.trans HR.out
      have hnk : ¬ ((p.code.length : Int) < (p.code.length : Int)) := by omega
      have pb0 := MM.pb.at2.1
      have rb0 : wr.cell? ⟨w.heap.size + 1 + 1, 0, none⟩ = _ := MM.rb.at2.1
      have rb1 : wr.cell? ⟨w.heap.size + 1 + 1, 1, none⟩ = _ := MM.rb.at2.2
      have rf : ∀ o, wr.frozen? ⟨w.heap.size + 1 + 1, o, none⟩ = false := MM.rb.free
      by_cases h1 : st.length = 1
      · unfold endV at hend
        rw [if_pos h1] at hend
        obtain ⟨hx1, rfl⟩ := Prod.mk.inj hend
        obtain ⟨gs, caps, hv, hgs, hgb, hcs, hfz, hcl⟩ := MM.form (by omega)
        obtain ⟨s0, s1⟩ := hcl 0 (by omega)
        rw [hx1] at s0 s1
        dsimp only at s0 s1
        rw [Nat.zero_mul] at s0 s1
        cases hv
        rw [h1]
        clear hcl hx1 hend HR hlt
        go_wp2
        try rw [Exit.noGoto_ret]
        refine bodyPost_ret (v := .tuple #[VA (xk, xn), .int .i64 0]) (by simp [results, Tryz.results12, go_sem, rb0, rb1]) rfl ⟨rfl, ?_⟩
        exact gset (gset MM.g (by simp; omega) _) (by simp; omega) _
      · unfold endV at hend
        rw [if_neg h1] at hend
        obtain ⟨hx1, rfl⟩ := Prod.mk.inj hend
        obtain ⟨rfl, rfl⟩ := Prod.mk.inj hx1
        have h2 : ((st.length : Int) != 1) = true := by simp; omega
        clear hx1 hend HR hlt
        go_wp2
        try rw [Exit.noGoto_ret]
        refine bodyPost_ret (v := .tuple #[VA noV2, .int .i64 70]) (by simp [results, Tryz.results12, go_sem, rb0, rb1]) rfl ⟨rfl, ?_⟩
        first | exact MM.g | exact gset (gset MM.g (by simp; omega) _) (by simp; omega) _

end Go.Proofs.YtnolbpekdikamaaGreatDoor
namespace Go.Proofs.YtnolbpekdikamaaGreatDoor
open Go.RowKit Go.BigFrame
set_option linter.unusedVariables false
set_option linter.unusedSimpArgs false

def holdsC (p : Prg) (E : Envr) : Bool := ((runV p E).2 == 0) && (rd (runV p E).1.1 (runV p E).1.2 == 2)
set_option maxRecDepth 100000 in
set_option maxHeartbeats 4000000 in
theorem holdsC_any (p : Prg) (hp : p.ok) (E : Envr) (hE : E.ok) (ai : Option Addr) (ci : Nat) (ac : Option Addr) (cc : Nat) (al : Option Addr) (cl : Nat) (w : World) (IP : IsPr w p ai ci ac cc) (IE : IsEnv w E al cl) (T : TbAt w) :
    Calls Tryz.prog 19 #[prgA p ai ci ac cc, envA al cl E] w fun e w' => e = .returned (.bool (holdsC p E)) ∧ Below w.heap.size w w' := by
  have B0 := galloc (galloc (Below.refl w.heap.size w) (.cells #[.slice ai p.code.length ci, .slice ac p.cols.length cc] 48)) (.cells #[.slice al E.lists.length cl, .int .i64 E.each, .int .i64 E.at_] 34)
  have cr := run_any p hp E hE ai ci ac cc al cl _ (IP.keep B0) (IE.keep B0) (T.keep B0)
  unfold holdsC
  obtain ⟨⟨⟨xk, xn⟩, xe⟩, hx⟩ : ∃ x, runV p E = x := ⟨_, rfl⟩
  rw [hx] at cr ⊢
  dsimp only at cr ⊢
  have ct := fun u => true_any xk xn u
  generalize hrd : (rd xk xn == 2) = rb at ct ⊢
  clear hx hrd
  cases he : (xe == 0)
  · go_enter Tryz.func19, Tryz.ntmps19
    go_wp2_with (first
      | (go_at_call 12; (with_reducible refine cr.mono ?_); rintro _ u ⟨rfl, gu⟩))
    go_ret
    exact ⟨rfl, galloc (gtrans B0 gu) _⟩
  · go_enter Tryz.func19, Tryz.ntmps19
    go_wp2_with (first
      | (go_at_call 12; (with_reducible refine cr.mono ?_); rintro _ u ⟨rfl, gu⟩)
      | (go_at_call 40; (with_reducible refine (ct _).mono ?_); rintro _ u2 ⟨rfl, gu2⟩))
    go_ret
    exact ⟨rfl, gtrans (galloc (gtrans B0 gu) _) gu2⟩

end Go.Proofs.YtnolbpekdikamaaGreatDoor
namespace Go.Proofs.YtnolbpekdikamaaGreatDoor
open Go.RowKit Go.BigFrame Go.Proofs.YtnolbpekdikamaaGreatDoor.Ev
set_option linter.unusedVariables false
set_option linter.unusedSimpArgs false

abbrev bA1 : ByteArray := ⟨#[65]⟩
abbrev ba1 : ByteArray := ⟨#[97]⟩
abbrev bx1 : ByteArray := ⟨#[120]⟩
def awL : List Ty := [(bA1, [bx1])]
def awI : It := ⟨false, [bA1], ba1, 1, 1⟩
def awQ : Qy := ⟨[awI], 0, 0, [], 0, eS, []⟩
def awN : List Nd := [⟨4, 0, ba1, bx1, -1, -1⟩, ⟨5, 0, ba1, eS, -1, -1⟩, ⟨15, 0, eS, eS, 0, 1⟩]
def awV : Ev := ⟨1, 0, 0, 7, 0, 0, 0, 0, 0, 0, 0⟩
def awE : Envr := ⟨[[awV]], -1, 0⟩
theorem awV_ok : awV.ok := ⟨by decide, by decide, by decide, by decide, fun j hj => by rcases (show j = 0 ∨ j = 1 ∨ j = 2 ∨ j = 3 ∨ j = 4 ∨ j = 5 ∨ j = 6 ∨ j = 7 from by omega) with rfl | rfl | rfl | rfl | rfl | rfl | rfl | rfl <;> decide, fun j hj => by rcases (show j = 0 ∨ j = 1 ∨ j = 2 ∨ j = 3 ∨ j = 4 ∨ j = 5 ∨ j = 6 ∨ j = 7 from by omega) with rfl | rfl | rfl | rfl | rfl | rfl | rfl | rfl <;> decide⟩
theorem awE_ok : awE.ok := ⟨by decide, fun k => by
  rcases k with _ | k
  · decide
  · simp [awE], fun k j => by
  rcases k with _ | k
  · rcases j with _ | j
    · exact awV_ok
    · simp [awE]; exact zeroE_ok
  · simp [awE]; exact zeroE_ok, by decide, by decide, fun k => by
  rcases k with _ | k
  · decide
  · simp [awE]⟩
theorem awI_fit : awI.fit := ⟨⟨by decide, by decide⟩, ⟨by decide, by decide⟩, by decide, by decide, fun k => by
  rcases k with _ | k
  · decide
  · simp [awI]; decide⟩
theorem awQ_fit : awQ.fit := ⟨by decide, fun k => by
  rcases k with _ | k
  · exact awI_fit
  · simp [awQ]; exact noIt_fit, ⟨by decide, by decide⟩, ⟨by decide, by decide⟩, ⟨by decide, by decide⟩, by decide, ⟨by decide, fun k => by simp [awQ]; exact noNd_fit⟩, by decide, fun k => by simp [awQ]; exact ⟨by decide, fun k => by simp; exact noNd_fit⟩⟩
theorem awN_fit : ∀ k, (awN.getD k noNd).fit := fun k => by
  rcases k with _ | k
  · exact ⟨⟨by decide, by decide⟩, ⟨by decide, by decide⟩, ⟨by decide, by decide⟩, ⟨by decide, by decide⟩, by decide, by decide⟩
  rcases k with _ | k
  · exact ⟨⟨by decide, by decide⟩, ⟨by decide, by decide⟩, ⟨by decide, by decide⟩, ⟨by decide, by decide⟩, by decide, by decide⟩
  rcases k with _ | k
  · exact ⟨⟨by decide, by decide⟩, ⟨by decide, by decide⟩, ⟨by decide, by decide⟩, ⟨by decide, by decide⟩, by decide, by decide⟩
  · simp [awN]; exact noNd_fit
theorem aw_run : runB (itemF awQ.items awQ.items.length) awN = true := by kernel_rfl
theorem aw_val : evalV awL awQ awE awN = (true, 6) := by kernel_rfl
theorem aw_join : joinL 15 [⟨4, 0, ba1, bx1, -1, -1⟩] [⟨5, 0, ba1, eS, -1, -1⟩] = awN := by kernel_rfl
theorem aw_prog : runV (cmpG awL awQ awN) awE = ((true, 6), 0) := by rw [(cmpG_run awL awQ awE aw_run).2, aw_val]
theorem aw_holds : holdsC (cmpG awL awQ awN) awE = true := by unfold holdsC; rw [aw_prog]; decide
theorem aw_ok : (cmpG awL awQ awN).ok := cmpG_ok awL awQ awN_fit (by decide) (by decide)
/-! In memory. -/
theorem aw_sch {w : World} {s0 s1 : Nat} {t0 t1 : TypeId} (K0 : Bk w s0 #[.string bx1] t0) (K1 : Bk w s1 #[.string bA1, .slice (some ⟨s0, 0, none⟩) 1 1] t1) : IsTypes w (some ⟨s1, 0, none⟩) 1 awL := by
  refine ⟨rfl, by decide, .inr ⟨s1, 0, rfl, K1.lt, fun j hj => ?_⟩⟩
  obtain rfl : j = 0 := by omega
  refine ⟨K1.at2.1, some ⟨s0, 0, none⟩, 1, K1.at2.2, by decide, rfl, by decide, .inr ⟨s0, 0, rfl, K0.lt, fun i hi => ?_⟩⟩
  obtain rfl : i = 0 := by have : i < 1 := hi; omega
  exact cell_of_row w s0 0 _ _ _ K0
theorem aw_qry {w : World} {s0 s1 : Nat} {t0 t1 : TypeId} (K0 : Bk w s0 #[.string bA1] t0) (K1 : Bk w s1 #[.bool false, .slice (some ⟨s0, 0, none⟩) 1 1, .string ba1, .int .i64 1, .int .i64 1] t1) :
    IsQ w awQ #[.slice (some ⟨s1, 0, none⟩) 1 1, .int .i64 0, .int .i64 0, .slice none 0 0, .int .i64 0, .string eS, .slice none 0 0] (some ⟨s1, 0, none⟩) 1 none 0 none 0 := by
  refine ⟨rfl, fun i hi => ?_, fun i hi => absurd hi (Nat.not_lt_zero _), fun i hi => absurd hi (Nat.not_lt_zero _), ⟨by decide, fun h => by cases h⟩, ⟨by decide, fun _ => ⟨rfl, rfl⟩⟩, ⟨by decide, fun _ => ⟨rfl, rfl⟩⟩⟩
  obtain rfl : i = 0 := by have : i < 1 := hi; omega
  obtain ⟨c0, c1, c2, c3, c4⟩ := K1.at5
  refine ⟨s1, 0, rfl, some ⟨s0, 0, none⟩, 1, c0, c1, c2, c3, c4, fun j hj => ?_, by decide, fun h => by cases h⟩
  obtain rfl : j = 0 := by have : j < 1 := hj; omega
  exact ⟨s0, 0, rfl, cell_of_row w s0 0 _ _ _ K0⟩
theorem aw_env {w : World} {s0 s1 : Nat} {t0 t1 : TypeId} (K0 : Bk w s0 (evC awV) t0) (K1 : Bk w s1 #[.slice (some ⟨s0, 0, none⟩) 1 1] t1) : IsEnv w awE (some ⟨s1, 0, none⟩) 1 := by
  refine ⟨fun i hi => ?_, ⟨by decide, fun h => by cases h⟩⟩
  obtain rfl : i = 0 := by have : i < 1 := hi; omega
  refine ⟨s1, 0, some ⟨s0, 0, none⟩, 1, rfl, cell_of_row w s1 0 _ _ _ K1, fun j u hj => ⟨s0, 0, rfl, ?_⟩, ⟨by decide, fun h => by cases h⟩⟩
  have hjl := (List.getElem?_eq_some_iff.1 hj).1
  have e : fl evC (awE.lists.getD 0 []) = (evC awV).toList := rfl
  rw [e] at hj
  rw [Nat.zero_add, ← hj]
  exact (cell_of_row w s0 j _ _ _ K0).trans (by simp)

end Go.Proofs.YtnolbpekdikamaaGreatDoor
