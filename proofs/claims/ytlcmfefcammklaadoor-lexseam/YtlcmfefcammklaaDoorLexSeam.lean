/- For every two texts the law LexSeam returns true: of a text, a line feed and another text Lex tells what follows from what it tells of the two. The listed variables hold what their texts lay (the card ties that to the text). No other condition. -/
import Derived.Test.YtlcmfefcammklaaDoorSe2
import Derived.Test.YtlcmfefcammklaaDoorAl
import Derived.Test.YtlcmfefcammklaaDoorEr
import Derived.Test.YtlcmfefcammklaaDoorCards
import Derived.Test.YtlcmfefcammklaaDoorTie
import Derived.Carry
import Derived.ChangeMaps5
import Derived.SizedLaws
import Derived.Lib.SmallJoins
import Derived.Deep.DeepHandedRow
import Derived.Lay
namespace Go.Proofs.YtlcmfefcammklaaDoor.lexSeam
open Go.ChangeShapes Go.WideShapes Go.ChangeAt Go.RowKit Go.BigFrame
set_option linter.unusedVariables false
set_option linter.unusedSimpArgs false

theorem new4q (w : World) (b : Nat) (hb : b = w.heap.size) (t : Tok) (j : Nat) (u : Value) (h : (tokA t).toList[j]? = some u) : (w.alloc (.cells (tokA t) 30)).cell? ((⟨b, 0, none⟩ : Addr).add j) = some u := by subst hb; exact new4 w t j u h
theorem one_tok (t : Tok) : ∀ u ∈ (tokA t).toList, u.oneCell' = true := by
  intro u hu
  simp [tokA] at hu
  rcases hu with rfl | rfl | rfl | rfl <;> rfl
theorem shL_take (d : Nat) (m : List Tok) (k : Nat) (h : k < m.length) : shL d (m.take (k + 1)) = shL d (m.take k) ++ [shT d (m.getD k noTok)] := by
  unfold shL
  rw [List.take_add_one, List.getElem?_eq_getElem h, List.map_append, List.getD_eq_getElem?_getD, List.getElem?_eq_getElem h]
  rfl
/-- append of a whole row onto nothing. -/
theorem wpList_append_row {w : World} {ops : Array Oper} {rest : List Oper} {o : Oper} {a : Act} {Q : Exit → Act → World → Prop} (hgd : o.guard = none) (s x : Operand)
    (ho : o.op = .call { callee := .builtin .append, args := #[s, x], argTypes := #[24, 24] }) (hs : a.eval s = .slice none 0 0)
    (xv : Value) (base m : Nat) (ts : List Tok) (hm : m = ts.length) (hx : a.eval x = xv) (hown : w.ownsRow base 30 4 xv m (toksV ts)) (hl : m ≤ 8192)
    (h : ∀ v' w', w'.ownsRow w.heap.size 30 4 v' m (toksV ts) → w.grownBy w' none → wpList Tryd.prog ops Q rest (a.put o.dst v') w') : wpList Tryd.prog ops Q (o :: rest) a w := by
  obtain ⟨i3, ti, tz0, tz1, tz2⟩ := info_partsTk
  rcases id hown.2 with ⟨hv, h0⟩ | ⟨g, cap, cur, hv, hb, hh, r⟩
  · refine wpList_plain hgd fun K hK' => ?_
    have hrun := run_append_owned_none (P := Tryd.prog) w w.heap.size 24 o.type 30 i3 4 Tryd.underlying24 ti (.slice none 0 0) 0 [] (World.ownsRow_nil _ _ _ _)
    rw [hv] at hx
    subst h0
    have hts : ts = [] := List.length_eq_zero_iff.1 hm.symm
    subst hts
    unfold Oper.wp
    simp [execOp, ho, resolve, invoke, builtin, hs, hx, hrun, Result.andThen]
    exact hK' _ _ (h _ _ (World.ownsRow_nil _ _ _ _) (World.grownBy.refl _ _))
  · rw [hv] at hx hown
    refine wpList_append_own (w := w) hgd s x 24 ho w.heap.size 30 i3 (.agg (tokA noTok)) 4 40 Tryd.underlying24 ti tz0 tz1 tz2 rfl (by decide) (.slice none 0 0) 0 [] hs (World.ownsRow_nil _ _ _ _) ⟨g, 0, none⟩ m cap (toksV ts) hx hown.1 (fun j u hj => ?_) ?_ ?_ ?_ (Nat.le_refl _) (fun v' w' h1 h2 _ => ?_)
    · have hjl := (List.getElem?_eq_some_iff.1 hj).1
      rw [hown.1] at hjl
      rw [Go.WideShapes.add_plain, Nat.zero_add, World.ownsRow.cellAt hown j hjl]
      exact hj
    · intro u hu
      unfold toksV at hu
      obtain ⟨y, _, hy⟩ := List.mem_flatMap.1 hu
      simp [tokA] at hy
      rcases hy with rfl | rfl | rfl | rfl <;> rfl
    · unfold maxLen; omega
    · omega
    · rw [Nat.zero_add] at h1
      exact h v' w' h1 h2

set_option maxRecDepth 100000 in
set_option maxHeartbeats 4000000 in
theorem walk (a : ByteArray) (ha : a.size ≤ 140737488351232) (b : ByteArray) (hb : b.size ≤ 140737488351232) (w : World) (K : KwAt w) (Sg : SgAt w) (E : ErAt w) : Calls Tryd.prog 4 #[.string a, .string b] w fun e w' => e = .returned (.bool true) ∧ Below w.heap.size w w' := by
  have cA := alive_any w K Sg E
  have cL := fun (x : ByteArray) (hx : x.size ≤ 9223372036854775807) (u : World) (g : Below w.heap.size w u) => lexLex_any x hx u (K.keep g) (Sg.keep g) (E.keep g)
  have hts : (a ++ nlS ++ b).size = a.size + 1 + b.size := by rw [app_size, app_size, nl_size]
  have hcat1 : ∀ u : World, (Op.stringOp .add a ⟨#[10]⟩).run Tryd.prog u = .ok (.string (a ++ nlS)) u := fun u => run_string_add_sum u a nlS (by rw [nl_size]; omega)
  have hcat2 : ∀ u : World, (Op.stringOp .add (a ++ nlS) b).run Tryd.prog u = .ok (.string (a ++ nlS ++ b)) u := fun u => run_string_add_sum u (a ++ nlS) b (by rw [app_size, nl_size]; omega)
  have cT := cL (a ++ nlS ++ b) (by omega)
  have cLa := cL a (by omega)
  have cLb := cL b (by omega)
  clear cL
  obtain ⟨t, ht⟩ : ∃ t, t = a ++ nlS ++ b := ⟨_, rfl⟩
  have HT : Hid (t = a ++ nlS ++ b) := ht
  rw [← ht] at hts hcat2 cT
  obtain ⟨an, han⟩ : ∃ an, an = a ++ nlS := ⟨_, rfl⟩
  rw [← han] at hcat1 hcat2
  clear ht han
  by_cases hbig : 8192 < t.size
  · have h1 : (8192 : Int) < (t.size : Int) := by omega
    clear cT cLa cLb
    go_enter Tryd.func4, Tryd.ntmps4
    go_wp2_with (first
      | (go_at_call 11; (with_reducible refine cA.mono ?_); rintro e u ⟨rfl, g0⟩))
    go_ret
    exact ⟨by first | rfl | simp, g0⟩
  have h1 : (t.size : Int) ≤ 8192 := by omega
  have hsm := seam a b (by omega)
  rw [← HT.out] at hsm
  rcases hsm with ⟨c, p, hc, ea, et⟩ | ⟨l, ea, hsm⟩
  · rw [ea] at cLa
    rw [et] at cT
    dsimp only at cLa cT
    have h4 : (c != 0) = true := by simpa using hc
    go_enter Tryd.func4, Tryd.ntmps4
    go_wp2_with (first
      | (go_at_call 11; (with_reducible refine cA.mono ?_); rintro e u ⟨rfl, g0⟩)
      | (go_at_call_of 10 t; (with_reducible refine (cT _ (gtrans (gtrans g0 g1) g2)).mono ?_); rintro e u3 ⟨v3, rfl, O3, g3⟩; obtain ⟨co, cap3, rfl, A3⟩ := toks_of_own O3)
      | (go_at_call_of 10 b; (with_reducible refine (cLb _ (gtrans g0 g1)).mono ?_); rintro e u2 ⟨v2, rfl, O2, g2⟩)
      | (go_at_call_of 10 a; (with_reducible refine (cLa _ g0).mono ?_); rintro e u1 ⟨v1, rfl, O1, g1⟩))
    go_ret
    exact ⟨by first | rfl | simp, gtrans (gtrans (gtrans g0 g1) g2) g3⟩
  · rw [ea] at cLa
    dsimp only at cLa
    have hl4 : l.length ≤ 400 := by have := lexO_len a; rw [ea] at this; exact this
    rcases hsm with ⟨c, q, hc, eb, hl0⟩ | ⟨m, eb, hm⟩
    · rw [eb] at cLb
      dsimp only at cLb
      have h4 : (c != 0) = true := by simpa using hc
      by_cases hl : l = []
      · subst hl
        have et := hl0 rfl
        rw [et] at cT
        dsimp only at cT
        have hpl : ((a.size + 1 + q : Nat) : Int) = (q : Int) + (a.size : Int) + 1 := by omega
        rw [hpl] at cT
        have hq9 : q ≤ 8192 := by
          rcases lexO_ways (s := b) (by omega) with ⟨us, _, h9⟩ | ⟨q9, us, _, h8, _, h9⟩
          · rw [eb] at h9; simp only [Prod.mk.injEq] at h9; exact absurd h9.2.1 hc
          · rw [eb] at h9; simp only [Prod.mk.injEq] at h9; omega
        clear hl0 et hpl
        go_enter Tryd.func4, Tryd.ntmps4
        go_wp2_with (first
          | (go_at_call 11; (with_reducible refine cA.mono ?_); rintro e u ⟨rfl, g0⟩)
          | (go_at_call_of 10 t; (with_reducible refine (cT _ (gtrans (gtrans g0 g1) g2)).mono ?_); rintro e u3 ⟨v3, rfl, O3, g3⟩; obtain ⟨co, cap3, rfl, A3⟩ := toks_of_own O3)
          | (go_at_call_of 10 b; (with_reducible refine (cLb _ (gtrans g0 g1)).mono ?_); rintro e u2 ⟨v2, rfl, O2, g2⟩; obtain ⟨bo, cap2, rfl, A2⟩ := toks_of_own O2)
          | (go_at_call_of 10 a; (with_reducible refine (cLa _ g0).mono ?_); rintro e u1 ⟨v1, rfl, O1, g1⟩; obtain ⟨ao, cap1, rfl, A1⟩ := toks_of_own O1))
        go_ret
        exact ⟨by first | rfl | simp, gtrans (gtrans (gtrans g0 g1) g2) g3⟩
      · have hlp : (0 : Int) < (l.length : Int) := by have := List.length_pos_iff.2 hl; omega
        clear hl0
        generalize lexO t = z at *
        obtain ⟨zs, zc, zp⟩ := z
        dsimp only at cT
        go_enter Tryd.func4, Tryd.ntmps4
        go_wp2_with (first
          | (go_at_call 11; (with_reducible refine cA.mono ?_); rintro e u ⟨rfl, g0⟩)
          | (go_at_call_of 10 t; (with_reducible refine (cT _ (gtrans (gtrans g0 g1) g2)).mono ?_); rintro e u3 ⟨v3, rfl, O3, g3⟩; obtain ⟨co, cap3, rfl, A3⟩ := toks_of_own O3)
          | (go_at_call_of 10 b; (with_reducible refine (cLb _ (gtrans g0 g1)).mono ?_); rintro e u2 ⟨v2, rfl, O2, g2⟩; obtain ⟨bo, cap2, rfl, A2⟩ := toks_of_own O2)
          | (go_at_call_of 10 a; (with_reducible refine (cLa _ g0).mono ?_); rintro e u1 ⟨v1, rfl, O1, g1⟩; obtain ⟨ao, cap1, rfl, A1⟩ := toks_of_own O1))
        go_ret
        exact ⟨by first | rfl | simp, gtrans (gtrans (gtrans g0 g1) g2) g3⟩
    · rw [eb] at cLb
      dsimp only at cLb
      have hm4 : m.length ≤ 400 := by have := lexO_len b; rw [eb] at this; exact this
      rcases hm with ⟨h400, et⟩ | ⟨h400, p, et⟩
      · obtain ⟨L, hL⟩ : ∃ L, L = l ++ shL (a.size + 1) m := ⟨_, rfl⟩
        rw [← hL] at et
        have HL : Hid (L = l ++ shL (a.size + 1) m) := hL
        have hLl : L.length = l.length + m.length := by rw [hL, List.length_append, shL_len]
        clear hL
        rw [et] at cT
        dsimp only at cT
        have h4' : (l.length : Int) + (m.length : Int) ≤ 400 := by omega
        have hat : ∀ k, k < m.length → ∃ r : Nat, (m.getD k noTok).a = (r : Int) ∧ r < b.size := by
          rcases lexO_ways (s := b) (by omega) with ⟨us, hPu, h9⟩ | ⟨q9, us, _, h8, _, h9⟩
          · rw [eb] at h9
            simp only [Prod.mk.injEq] at h9
            obtain rfl := h9.1
            intro k hk
            obtain ⟨r, h6, h7, _⟩ := hPu.tok k (Nat.zero_le _) hk
            exact ⟨r, h6, h7⟩
          · rw [eb] at h9
            simp only [Prod.mk.injEq] at h9
            exact absurd h9.2.1.symm (errC_ne b q9).1
        obtain ⟨i3, ti, tz0, tz1, tz2⟩ := info_partsTk
        have HLl : Hid (L.length = l.length + m.length) := hLl
        clear hLl
        go_enter Tryd.func4, Tryd.ntmps4
        go_wp2_with (first
          | (go_at_call 11; (with_reducible refine cA.mono ?_); rintro e u ⟨rfl, g0⟩)
          | (go_at_call_of 10 t; (with_reducible refine (cT _ (gtrans (gtrans g0 g1) g2)).mono ?_); rintro e u3 ⟨v3, rfl, O3, g3⟩; obtain ⟨co, cap3, rfl, A3⟩ := toks_of_own O3)
          | (go_at_call_of 10 b; (with_reducible refine (cLb _ (gtrans g0 g1)).mono ?_); rintro e u2 ⟨v2, rfl, O2, g2⟩; obtain ⟨bo, cap2, rfl, A2⟩ := toks_of_own O2)
          | (go_at_call_of 10 a; (with_reducible refine (cLa _ g0).mono ?_); rintro e u1 ⟨v1, rfl, O1, g1⟩; obtain ⟨ao, cap1, rfl, A1⟩ := toks_of_own O1)
          | (at_builtin; refine wpList_append_row rfl (.tmp 97) (.tmp 98) rfl rfl _ _ l.length l rfl rfl (own_keep (own_keep O1 g2) g3) (by omega) ?_))
        intro v4 w4 O4 G4
        have B4 : Below u3.heap.size u3 w4 := (Below.refl _ u3).grown G4 (Nat.le_refl _) (fun r e => by cases e)
        have A2' := A2.keep g3
        clear A1 A2 O1 O2
        go_wp2
        go_loopw [15, 16] (fun v x wr => ∃ k : Nat, k ≤ m.length ∧ x = .int .i64 k ∧ wr.ownsRow u3.heap.size 30 4 v (l.length + k) (toksV (l ++ shL (a.size + 1) (m.take k))) ∧ Below u3.heap.size u3 wr) (fun _ x _ => m.length - (intOf x).toNat)
        case atStart => exact ⟨0, Nat.zero_le _, rfl, by rw [List.take_zero, show shL (a.size + 1) [] = [] from rfl, List.append_nil]; exact O4, B4⟩
        case round =>
          obtain ⟨k, hk, rfl, O5, G5⟩ := hrel
          by_cases hlt : k < m.length
          · obtain ⟨g, o, rfl, x0, x1, x2, x3⟩ := (A2'.keep G5) k hlt
            obtain ⟨r, hr, hrb⟩ := hat k hlt
            rw [hr] at x3
            have hr2 : (r : Int) ≤ 8192 := by omega
            have hnext := shL_take (a.size + 1) m k hlt
            have hcast : ((a.size + 1 : Nat) : Int) = (a.size : Int) + 1 := by omega
            have hsh : shT (a.size + 1) (m.getD k noTok) = ⟨(m.getD k noTok).k, (m.getD k noTok).t, (m.getD k noTok).n, (r : Int) + (a.size : Int) + 1⟩ := by unfold shT; rw [hr, hcast, Int.add_assoc]
            rw [hsh] at hnext
            generalize m.getD k noTok = y at *
            obtain ⟨tt, htt⟩ : ∃ tt : Tok, tt = ⟨y.k, y.t, y.n, (r : Int) + (a.size : Int) + 1⟩ := ⟨_, rfl⟩
            rw [← htt] at hnext
            have HN : Hid (shL (a.size + 1) (m.take (k + 1)) = shL (a.size + 1) (m.take k) ++ [tt]) := hnext
            have hs5 := G5.size
            clear hnext hsh
            go_wp2_with (at_builtin; refine wpList_append_own _ rfl (.tmp 117) (.tmp 119) 24 rfl u3.heap.size 30 i3 (.agg (tokA noTok)) 4 40 Tryd.underlying24 ti tz0 tz1 tz2 rfl (by decide) _ _ _ rfl ((O5.alloc _).alloc _) ⟨wr.heap.size + 1, 0, none⟩ 1 1 (tokA ⟨y.k, y.t, y.n, (r : Int) + (a.size : Int) + 1⟩).toList (by go_num) rfl (new4q _ _ (by simp) _) (one_tok _) ?c3 ?c4 ?c5 ?_)
            case c3 => unfold maxLen; omega
            case c4 => omega
            case c5 => simp; omega
            intro v6 w6 hown' hgrow _
            have hown2 : w6.ownsRow u3.heap.size 30 4 v6 (l.length + (k + 1)) (toksV (l ++ shL (a.size + 1) (m.take (k + 1)))) := by
              rw [HN.out, htt, ← List.append_assoc, show ∀ (q : List Tok) (x : Tok), toksV (q ++ [x]) = toksV q ++ (tokA x).toList from fun q x => by simp [toksV]]
              exact hown'
            have G9 : Below u3.heap.size u3 w6 := (galloc (galloc G5 _) _).grown hgrow (by simp; omega) (fun r e => (O5.lt _ e).1)
            clear hown' hgrow O5
            go_wp2
            go_roundw
            case rel => exact ⟨k + 1, by omega, by go_num, hown2, G9⟩
            case measure => simp [intOf]; omega
          · obtain rfl : k = m.length := by omega
            rw [List.take_length, ← HL.out, ← HLl.out] at O5
            obtain ⟨wo, cap6, rfl, A6⟩ := toks_of_own O5
            have c9 := same_true L (by have := HLl.out; omega) co wo cap3 cap6 wr (A3.keep G5) A6
            go_wp2_with (go_at_call 12; (with_reducible refine c9.mono ?_); rintro e u9 ⟨rfl, g9⟩)
            go_ret
            exact ⟨by first | rfl | simp, gtrans (gtrans (gtrans (gtrans (gtrans g0 g1) g2) g3) G5) g9⟩
      · rw [et] at cT
        dsimp only at cT
        have h4' : (400 : Int) < (l.length : Int) + (m.length : Int) := by omega
        go_enter Tryd.func4, Tryd.ntmps4
        go_wp2_with (first
          | (go_at_call 11; (with_reducible refine cA.mono ?_); rintro e u ⟨rfl, g0⟩)
          | (go_at_call_of 10 t; (with_reducible refine (cT _ (gtrans (gtrans g0 g1) g2)).mono ?_); rintro e u3 ⟨v3, rfl, O3, g3⟩; obtain ⟨co, cap3, rfl, A3⟩ := toks_of_own O3)
          | (go_at_call_of 10 b; (with_reducible refine (cLb _ (gtrans g0 g1)).mono ?_); rintro e u2 ⟨v2, rfl, O2, g2⟩; obtain ⟨bo, cap2, rfl, A2⟩ := toks_of_own O2)
          | (go_at_call_of 10 a; (with_reducible refine (cLa _ g0).mono ?_); rintro e u1 ⟨v1, rfl, O1, g1⟩; obtain ⟨ao, cap1, rfl, A1⟩ := toks_of_own O1))
        go_ret
        exact ⟨by first | rfl | simp, gtrans (gtrans (gtrans g0 g1) g2) g3⟩

theorem own : ownKnob Tryd.prog.godebug = none := by kernel_rfl
theorem laidOut : laidOutB Tryd.prog = true := by kernel_rfl

theorem gKw : Tryd.prog.globalNamed "sluice/api.Keywords" = some 1 := by kernel_rfl
theorem tabs {W : World} (h : laidMetH Tryd.prog Rows.lexSeamRow.laid W) : KwAt W := by
  have h0 : laidMet Tryd.prog Rows.lexSeamRow.laid W := (Go.MakeChecks.laidMetH_plain _ _ _ (by kernel_rfl)).mp h
  exact kwAt_of (tabS (bss := kwl) gKw (by kernel_rfl) Tryd.underlying46 Tryd.underlying9 (by kernel_rfl) (laidMet_tail (laidMet_tail (laidMet_tail (laidMet_tail (laidMet_tail h0))))))
theorem gSg : Tryd.prog.globalNamed "sluice/lex.signs" = some 0 := by kernel_rfl
theorem tabSg {W : World} (h : laidMetH Tryd.prog Rows.lexSeamRow.laid W) : SgAt W := by
  have h0 : laidMet Tryd.prog Rows.lexSeamRow.laid W := (Go.MakeChecks.laidMetH_plain _ _ _ (by kernel_rfl)).mp h
  exact sgAt_of (tabS (bss := sgl) gSg (by kernel_rfl) Tryd.underlying45 Tryd.underlying9 (by kernel_rfl) (laidMet_tail (laidMet_tail (laidMet_tail (laidMet_tail (laidMet_tail (laidMet_tail h0)))))))
theorem gEr : Tryd.prog.globalNamed "strconv.ErrRange" = some 6 := by kernel_rfl
theorem tabE {W : World} (h : laidMetH Tryd.prog Rows.lexSeamRow.laid W) : ErAt W := by
  have h0 : laidMet Tryd.prog Rows.lexSeamRow.laid W := (Go.MakeChecks.laidMetH_plain _ _ _ (by kernel_rfl)).mp h
  exact ifaceAt gEr (by kernel_rfl) ⟨_, Tryd.underlying51⟩ (laidMet_tail (laidMet_tail (laidMet_tail h0)))

set_option maxRecDepth 100000 in
theorem contract (H : Type) (enc : TypeId × Value → H) (W : World) (base : Nat) (args : Array Value) (ds gs : List (DataW H)) (before : List MemPlace)
    (hval : ∀ (j : Nat) t v, Tryd.f4.params[j]? = some t → args[j]? = some v → Value.okWide Tryd.prog W .any base t v)
    (hsz : (DataW.weightsEach Tryd.prog (Tryd.f4.params.toList ++ Rows.lexSeamSpec.plain.varTypes Tryd.prog) (ds ++ gs)).all (· ≤ reachBytes) = true)
    (hW : DataW.Whole enc Tryd.prog Tryd.f4.params.toList Rows.lexSeamSpec.vars false W args.toList ds gs before) (hL : laidMetH Tryd.prog Rows.lexSeamRow.laid W) :
    Calls Tryd.prog 4 args W fun e W' => ∃ v, e = .returned v ∧ Rows.lexSeamSpec.post enc Tryd.prog Tryd.f4 false true false false W args v W' := by
  have hW' := hW
  obtain ⟨p, q, hA0, hV, rfl, hfz, hnd⟩ := hW
  have hA : DataW.TrodAll enc Tryd.prog W 0 (fun _ => true) true Tryd.f4.params.toList args.toList ds p := hA0
  rw [Tryd.params4] at hA hval hsz
  obtain ⟨v0, vs0, d0, ds0, p0, q0, hargs, rfl, rfl, h0, r0⟩ := trodAll_cons hA
  obtain ⟨v1, vs1, d1, ds1, p1, q1, rfl, rfl, rfl, h1, r1⟩ := trodAll_cons r0
  obtain ⟨rfl, rfl, rfl⟩ := trodAll_nil r1
  obtain rfl : args = #[v0, v1] := by cases args; simp_all
  obtain ⟨rfl, rfl⟩ := trodVars_none hV
  have k0 := h0
  have lt0 : ∀ x ∈ p0, x.block < W.heap.size := by obtain ⟨m, hm⟩ := k0; exact DataW.trod_lt m _ _ _ hm
  obtain ⟨s0, e0, g0, _, _⟩ := Go.ChangeMaps.open_string Tryd.underlying9 (hval 0 9 v0 rfl rfl) h0
  subst e0
  have w0 : s0.size ≤ 140737488351232 := by
    have h1 := sized_string hsz (j := 0) (t := 9) rfl (congrArg some g0)
    have h2 : s0.data.toList.length = s0.size := Array.length_toList
    unfold reachBytes at h1
    omega
  have k1 := h1
  have lt1 : ∀ x ∈ p1, x.block < W.heap.size := by obtain ⟨m, hm⟩ := k1; exact DataW.trod_lt m _ _ _ hm
  obtain ⟨s1, e1, g1, _, _⟩ := Go.ChangeMaps.open_string Tryd.underlying9 (hval 1 9 v1 rfl rfl) h1
  subst e1
  have w1 : s1.size ≤ 140737488351232 := by
    have h1 := sized_string hsz (j := 1) (t := 9) rfl (congrArg some g1)
    have h2 : s1.data.toList.length = s1.size := Array.length_toList
    unfold reachBytes at h1
    omega
  clear hA0
  refine (walk s0 w0 s1 w1 W (tabs hL) (tabSg hL) (tabE hL)).mono fun e W' ⟨he, bel⟩ => ?_
  subst he
  exact ⟨_, rfl, _, _, _, [], _, [], hW', trodAll_mk1 (shut_bool Tryd.underlying4 _), (trodAll_cons_mk (Below.trod laidOut (by kernel_rfl) (of_decide_eq_true (by kernel_rfl)) k0 bel lt0) (trodAll_cons_mk (Below.trod laidOut (by kernel_rfl) (of_decide_eq_true (by kernel_rfl)) k1 bel lt1) trodAll_mk0)), rfl, bel.frame _, fun h => by cases h⟩

/-- For the world of the witness: the settled one, the tables holding what their text lays. -/
def put (c : Array Value) : Obj → Obj
  | .cells _ t frozen => .cells c t frozen
  | x => x
theorem laid_met (os : Os) : laidMet Tryd.prog Rows.lexSeamRow.laid ((World.laidAll Tryd.prog os Rows.lexSeamRow.laid).forCall (fun _ _ => 0) ⟨#[], #[.string ByteArray.empty, .string ByteArray.empty], []⟩).memory :=
  laidMet_laidAll _ (by kernel_rfl) (by kernel_rfl)
theorem reads (os : Os) {H : Type} (enc : TypeId × Value → H) : ∃ places, DataW.whole enc Tryd.prog ((World.laidAll Tryd.prog os Rows.lexSeamRow.laid).forCall (fun _ _ => 0) ⟨#[], #[.string ByteArray.empty, .string ByteArray.empty], []⟩).memory Tryd.f4.params.toList Rows.lexSeamSpec.vars false (#[.string ByteArray.empty, .string ByteArray.empty] : Array Value).toList 8 = some ([.lit (.string []), .lit (.string [])], [], places) :=
  ⟨[], by kernel_rfl⟩

set_option maxRecDepth 100000 in
theorem lifted (os : Os) (started : os.Started) (H : Type) (enc : TypeId × Value → H) (F : Stop.Interp) :
    ReturnsInHanded {} Tryd.checked os 4 .any ((OpenSpec.ofChange Rows.lexSeamSpec).preRow enc Tryd.prog Tryd.f4 Rows.lexSeamRow.domain false Rows.lexSeamRow.laid) (((OpenSpec.ofChange Rows.lexSeamSpec).at F).post enc Tryd.prog Tryd.f4 false true false false) := by
  obtain ⟨places, hx⟩ := reads os enc
  refine returnsInHanded_of_row (C := Tryd.checked) (s := OpenSpec.ofChange Rows.lexSeamSpec) own started (by kernel_rfl) Tryd.func4
    ⟨(World.laidAll Tryd.prog os Rows.lexSeamRow.laid), fun _ _ => 0, ⟨#[], #[.string ByteArray.empty, .string ByteArray.empty], []⟩, World.laidAll_os _ _ _, World.shaped_of_ZipB (by kernel_rfl) (by kernel_rfl), rfl, (Input.okWide_of_okWideB (show Input.okWideB Tryd.prog ((World.laidAll Tryd.prog os Rows.lexSeamRow.laid).forCall (fun _ _ => 0) ⟨#[], #[.string ByteArray.empty, .string ByteArray.empty], []⟩) 4 ⟨#[], #[.string ByteArray.empty, .string ByteArray.empty], []⟩ = true by kernel_rfl)).2,
      OpenSpec.preRow_of_cond 8 hx (by kernel_rfl) (fun k hk => by cases hk) (by kernel_rfl) (laid_met os),
      by simp only [Assume.holds]; exact ⟨by simp, by simp, by simp, by simp, by simp⟩⟩ ?_
  intro W base args ds gs before hval hW _ _ hsz hL _ _
  exact contract H enc W base args ds gs before hval hsz hW hL

theorem said : Rows.LexSeamSaid :=
  OpenClaim.holds_of_cond 4 Tryd.f4 rfl rfl rfl rfl rfl rfl rfl ⟨rfl, rfl, rfl, rfl, rfl⟩ rfl rfl rfl rfl rfl (by kernel_rfl) Tryd.func4 (by kernel_rfl)
    (of_decide_eq_true (by kernel_rfl)) (by unfold Func.isWrapper; first | (rw [if_pos (by decide +kernel)]; kernel_rfl) | (rw [if_neg (by decide +kernel)]; exact ⟨rfl, rfl⟩))
    (fun os started H enc _ F => by rw [OpenClaim.pre_eq_preRow]; exact lifted os started H enc F)

theorem plain (f : FuncId) (fn : Func) (hf : Tryd.pinned.checked.prog.funcNamed "sluice/sluicelaw3.LexSeam" = some f) (hfn : Tryd.pinned.checked.prog.funcs[f]? = some fn) :
    true = Tryd.pinned.checked.prog.looks [] ∧ ∀ (j : Nat) t, fn.params[j]? = some t → Tryd.pinned.checked.prog.wantsStandIn t = false := by
  obtain rfl : f = 4 := Option.some.inj ((show Tryd.prog.funcNamed "sluice/sluicelaw3.LexSeam" = some 4 by kernel_rfl).symm.trans hf) |>.symm
  obtain rfl : fn = Tryd.f4 := (Option.some.inj (Tryd.func4.symm.trans hfn)).symm
  refine ⟨by kernel_rfl, fun j t ht => ?_⟩
  rw [Tryd.params4] at ht
  have hm : t = 9 := by simpa using Array.mem_of_getElem? ht
  rw [hm]
  exact (show Tryd.prog.wantsStandIn 9 = false by kernel_rfl)

end Go.Proofs.YtlcmfefcammklaaDoor.lexSeam
namespace Go.Proofs.YtlcmfefcammklaaDoor
theorem lexSeam_holds : Rows.LexSeamCardSaid :=
  Claim7.holds_tied_plain_at .later [] _ _ _ _ lexSeam.said (fun _ h => by cases h) (by kernel_rfl) (fun _ h => by cases h) lexSeam_row_tie rfl ⟨rfl, rfl⟩ (by kernel_rfl) rfl lexSeam.plain (by kernel_rfl)
#print axioms lexSeam_holds
end Go.Proofs.YtlcmfefcammklaaDoor
