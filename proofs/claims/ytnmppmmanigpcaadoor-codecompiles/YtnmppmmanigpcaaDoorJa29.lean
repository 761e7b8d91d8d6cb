/- The document's Compile. And what goes with it: 1 texts in one. -/
import Derived.Test.YtnmppmmanigpcaaDoorJa28
namespace Go.Proofs.YtnmppmmanigpcaaDoor
open Go.RowKit Go.BigFrame Go.Proofs.YtnmppmmanigpcaaDoor.Ev
set_option linter.unusedVariables false
set_option linter.unusedSimpArgs false

theorem cols_rows (L : List Ty) (M : ByteArray → Option Int) (ns : List Nd) (k : Nat) : (treK L M ns k).cols.map Prod.snd = (nmK L M ns k).map (colRow L) := by
  show _ = ((treK L M ns k).cols.map Prod.fst).map (colRow L)
  rw [List.map_map]
  exact List.map_congr_left fun e he => treK_cols L M ns k e he
/-- The first of a column's places. -/
def rowK (L : List Ty) (x : ByteArray) (k : Nat) : List Int := (List.range k).map fun i : Nat => attrI L (i : Int) x
theorem rowK_succ (L : List Ty) (x : ByteArray) (k : Nat) : rowK L x (k + 1) = rowK L x k ++ [attrI L (k : Int) x] := by
  unfold rowK
  rw [List.range_succ, List.map_append]
  rfl
theorem fl_intC : ∀ l : List Int, fl intC l = intsV l
  | [] => rfl
  | a :: t => by
    show _ :: fl intC t = _ :: intsV t
    rw [fl_intC t]
theorem rowK_len (L : List Ty) (x : ByteArray) (k : Nat) : (rowK L x k).length = k := by unfold rowK; simp
set_option maxRecDepth 100000 in
set_option maxHeartbeats 8000000 in
theorem refCompile_any (L : List Ty) (sa : Option Addr) (sc : Nat) (q : Qy) (hq : q.fit) (qs : Array Value) (ai : Option Addr) (ci : Nat) (aw : Option Addr) (cw : Nat) (ar : Option Addr) (cr : Nat) (ns : List Nd) (hf : ∀ k, (ns.getD k noNd).fit) (ao : Option Addr) (cap : Nat) (w : World) (K : KwAt w) (A : IsTypes w sa L.length L) (AQ : IsQ w q qs ai ci aw cw ar cr) (AN : IsNds w ao ns) (hr : ns.length * 64 ≤ 140737488351232) (hL : L.length * 40 ≤ 140737488351232) :
    Calls Tryd.prog 13 #[.agg #[.slice sa L.length sc], .agg qs, .slice ao ns.length cap] w fun e w' => ∃ ac cc av cv, e = .returned (prgA (cmpG L q ns) ac cc av cv) ∧ IsPr w' (cmpG L q ns) ac cc av cv ∧ Below w.heap.size w w' := by
  obtain ⟨he, _⟩ := id AQ
  subst he
  obtain ⟨i0, hi0, hz0, hz1, hzz⟩ := nf_info nf_int
  have B0 := galloc (galloc (galloc (Below.refl w.heap.size w) (.cells #[.slice sa L.length sc] 24)) (.cells #[.slice ai q.items.length ci, .int .i64 q.mode, .int .i64 q.after, .slice aw q.wh.length cw, .int .i64 q.within, .string q.by_, .slice ar q.ret.length cr] 31)) (.cells #[.slice none 0 0, .slice none 0 0] 40)
  have b0 := ((Bk.new w #[.slice sa L.length sc] 24).alloc (.cells #[.slice ai q.items.length ci, .int .i64 q.mode, .int .i64 q.after, .slice aw q.wh.length cw, .int .i64 q.within, .string q.by_, .slice ar q.ret.length cr] 31)).alloc (.cells #[.slice none 0 0, .slice none 0 0] 40)
  have b1 := (Bk.newE (w := w.alloc (.cells #[.slice sa L.length sc] 24)) (g := w.heap.size + 1) (by simp) #[.slice ai q.items.length ci, .int .i64 q.mode, .int .i64 q.after, .slice aw q.wh.length cw, .int .i64 q.within, .string q.by_, .slice ar q.ret.length cr] 31).alloc (.cells #[.slice none 0 0, .slice none 0 0] 40)
  have b2 := Bk.newE (w := (w.alloc (.cells #[.slice sa L.length sc] 24)).alloc (.cells #[.slice ai q.items.length ci, .int .i64 q.mode, .int .i64 q.after, .slice aw q.wh.length cw, .int .i64 q.within, .string q.by_, .slice ar q.ret.length cr] 31)) (g := w.heap.size + 2) (by simp) #[.slice none 0 0, .slice none 0 0] 40
  have hV : (((w.alloc (.cells #[.slice sa L.length sc] 24)).alloc (.cells #[.slice ai q.items.length ci, .int .i64 q.mode, .int .i64 q.after, .slice aw q.wh.length cw, .int .i64 q.within, .string q.by_, .slice ar q.ret.length cr] 31)).alloc (.cells #[.slice none 0 0, .slice none 0 0] 40)).heap.size = w.heap.size + 3 := by simp
  have cR := fun (u : World) (g : Below w.heap.size w u) => refRunnable_any q hq ns ao cap _ ai ci aw cw ar cr u (K.keep g) (AQ.keep g) (AN.keep g) hr hf
  cases hrun : runB (itemF q.items q.items.length) ns with
  | false =>
    have hG : cmpG L q ns = ⟨[], []⟩ := by unfold cmpG cmpS; rw [hrun]; rfl
    rw [hG]
    rw [hrun] at cR
    clear hG hrun
    go_enter Tryd.func13, Tryd.ntmps13
    go_upto_region 1 with fail
    generalize ((w.alloc _).alloc _).alloc _ = V at *
    obtain ⟨q0, q1, q2, q3, q4, q5, q6⟩ := b1.at7
    go_upto_region 3 with (go_at_call 26; (with_reducible refine (cR V B0).mono ?_); rintro e u1 ⟨rfl, g1⟩)
    have r2 := b2.keep g1
    obtain ⟨r0, r1⟩ := r2.at2
    have f0 := r2.free 0
    have f1 := r2.free 1
    have G1 := gtrans B0 g1
    have RE : Bk ((u1.setCell ⟨w.heap.size + 2, 0, none⟩ (.slice none 0 0)).setCell ⟨w.heap.size + 2, 1, none⟩ (.slice none 0 0)) (w.heap.size + 2) #[.slice none 0 0, .slice none 0 0] 40 := (r2.set 0 _).set 1 _
    obtain ⟨e0, e1⟩ := RE.at2
    have GE := gset (gset G1 (p := ⟨w.heap.size + 2, 0, none⟩) (by dsimp only; omega) (.slice none 0 0)) (p := ⟨w.heap.size + 2, 1, none⟩) (by dsimp only; omega) (.slice none 0 0)
    clear RE
    go_wp2
    exact bodyPost_ret (v := .agg #[.slice none 0 0, .slice none 0 0]) (by simp [results, Tryd.results13, go_sem, e0, e1]) rfl ⟨none, 0, none, 0, rfl, ⟨Flat.nil _ _, ⟨Nat.le_refl _, fun _ => ⟨rfl, rfl⟩⟩, fun i hi => absurd hi (Nat.not_lt_zero _), ⟨Nat.le_refl _, fun _ => ⟨rfl, rfl⟩⟩⟩, GE⟩
  | true =>
    obtain ⟨M, hMM⟩ : ∃ M, itemF q.items q.items.length = M := ⟨_, rfl⟩
    rw [hrun] at cR
    have hG : cmpG L q ns = ⟨(treK L M ns ns.length).code, (nmK L M ns ns.length).map (colRow L)⟩ := by
      unfold cmpG cmpS
      rw [if_pos hrun, hMM, cols_rows]
    rw [hG]
    have hM : ∀ v i, M v = some i → itmI q.items v = i := fun v i h => by unfold itmI; rw [hMM, h]; rfl
    rw [hMM] at hrun
    have ht : treeB ns = true := by unfold runB at hrun; rw [Bool.and_eq_true] at hrun; exact hrun.1
    have cN := fun (u : World) (g : Below w.heap.size w u) => refNames_any L M ns ao cap u (AN.keep g) hr
    have cC := fun (u : World) (g : Below w.heap.size w u) (lo : Option Addr) (lc : Nat) (AS : IsSs u lo (nmK L M ns ns.length)) => refCode_any L M q hq hM _ ai ci aw cw ar cr ns hf ht hrun lo lc ao cap u (AQ.keep g) AS (AN.keep g) hr
    have hnl := nm_len L M ns ns.length
    clear hG hM hMM ht hrun
    generalize nmK L M ns ns.length = nm at *
    generalize (treK L M ns ns.length).code = C at *
    go_enter Tryd.func13, Tryd.ntmps13
    go_upto_region 1 with fail
    generalize ((w.alloc _).alloc _).alloc _ = V at *
    obtain ⟨q0, q1, q2, q3, q4, q5, q6⟩ := b1.at7
    go_upto_region 4 with (first | (go_at_call 26; (with_reducible refine (cR V B0).mono ?_); rintro e u1 ⟨rfl, g1⟩))
    have B1 := gtrans B0 g1
    go_upto_region 5 with (first | (go_at_call 27; (with_reducible refine (cN u1 B1).mono ?_); rintro e u2 ⟨v2, rfl, O2, g2⟩))
    have B2 := gtrans B1 g2
    obtain ⟨lo, lc, rfl, _, _, _⟩ := own_form O2
    obtain ⟨q0, q1, q2, q3, q4, q5, q6⟩ := ((b1.keep g1).keep g2).at7
    have cCc := cC u2 B2 lo lc (own_ss O2)
    go_upto_region 6 with (first | (go_at_call 28; (with_reducible refine cCc.mono ?_); rintro e u3 ⟨gc, rfl, O3, g3⟩))
    have hz2 := B2.size
    have hz3 := g3.size
    have B3 := gtrans B2 g3
    have BY := galloc B3 (.cells #[.slice (some ⟨gc, 0, none⟩) C.length C.length, .slice none 0 0] 40)
    have PY := Bk.new u3 #[.slice (some ⟨gc, 0, none⟩) C.length C.length, .slice none 0 0] 40
    have OY := (own_keep O3 (galloc (Below.refl _ u3) (.cells #[.slice (some ⟨gc, 0, none⟩) C.length C.length, .slice none 0 0] 40))).mono (show w.heap.size ≤ u2.heap.size + 1 by omega)
    have NY := (own_keep (own_keep O2 g3) (galloc (Below.refl _ u3) (.cells #[.slice (some ⟨gc, 0, none⟩) C.length C.length, .slice none 0 0] 40))).mono (show w.heap.size ≤ u1.heap.size by have := B1.size; omega)
    have RY := (((b2.keep g1).keep g2).keep g3).alloc (.cells #[.slice (some ⟨gc, 0, none⟩) C.length C.length, .slice none 0 0] 40)
    have SY := (((b0.keep g1).keep g2).keep g3).alloc (.cells #[.slice (some ⟨gc, 0, none⟩) C.length C.length, .slice none 0 0] 40)
    have hlt2 := (((b2.keep g1).keep g2).keep g3).lt
    obtain ⟨bp, hbp⟩ : ∃ b, u3.heap.size = b := ⟨_, rfl⟩
    rw [hbp] at PY hlt2 ⊢
    generalize u3.alloc _ = Y at *
    clear cR cN cC cCc q0 q1 q2 q3 q4 q5 q6 O2 O3 b0 b1 b2 B0 B1 B2 B3 g1 g2 g3 hV
    go_wp2
    go_loopw [10, 11, 12, 13] (fun iv _ _ _ wr => ∃ (i : Nat) (vc : Value) (ws : List Value), i ≤ nm.length ∧ iv = .int .i64 (i : Int) ∧ Bk wr bp #[.slice (some ⟨gc, 0, none⟩) C.length C.length, vc] 40 ∧ ONst wr w.heap.size 60 3 1 intC vc ((nm.take i).map (colRow L)) ws ∧ wr.ownsRow w.heap.size 74 5 (.slice (some ⟨gc, 0, none⟩) C.length C.length) C.length (fl insC C) ∧ wr.ownsRow w.heap.size 9 1 (.slice lo nm.length lc) nm.length (ssV nm) ∧ Bk wr (w.heap.size + 2) #[.slice none 0 0, .slice none 0 0] 40 ∧ Bk wr w.heap.size #[.slice sa L.length sc] 24 ∧ Below w.heap.size w wr) (fun iv _ _ _ _ => nm.length - (intOf iv).toNat)
    case atStart => exact ⟨0, _, [], Nat.zero_le _, rfl, PY, ONst.nil _ _ _ _ _ _, OY, NY, RY, SY, BY⟩
    case round =>
      obtain ⟨i, vc, ws, hi, rfl, P, N, O, NM, R, S, G⟩ := hrel
      by_cases hlt : i < nm.length
      · have hki : (i : Int) < (nm.length : Int) := by omega
        obtain ⟨x, hx⟩ : ∃ x, nm.getD i eS = x := ⟨_, rfl⟩
        obtain ⟨gn, on, hno, c0⟩ := (own_ss NM) i hlt
        cases hno
        rw [hx] at c0
        have htk : nm.take (i + 1) = nm.take i ++ [x] := by rw [List.take_succ_eq_append_getElem hlt, ← hx, List.getD_eq_getElem?_getD, List.getElem?_eq_getElem hlt]; rfl
        have s0 := S.one1
        have HTK := show Hid (_ = _) from htk
        have HLT := show Hid (i < nm.length) from hlt
        clear htk hx hlt
        obtain ⟨w3, rfl⟩ : ∃ w3, w3 = wr := ⟨_, rfl⟩
        go_upto_region 11 with fail
        go_loopw [11, 12, 13] (fun cv nv _ wx => ∃ k : Nat, k ≤ L.length ∧ nv = .int .i64 (k : Int) ∧ wx.ownsRow w3.heap.size 3 1 cv k (intsV (rowK L x k)) ∧ Below w3.heap.size w3 wx) (fun _ nv _ _ => L.length - (intOf nv).toNat)
        case atStart => exact ⟨0, Nat.zero_le _, rfl, World.ownsRow_nil _ _ _ _, Below.refl _ _⟩
        case round =>
          obtain ⟨k, hk, rfl, OR, GI⟩ := hrel
          have s1 := (S.keep GI).one1
          have n0 := (GI.cell (lt_of_cell c0)).trans c0
          by_cases hkl : k < L.length
          · have hki2 : (k : Int) < (L.length : Int) := by omega
            have cA := fun z : Ext wr => ext_of (refAttrOf_any sa L.length sc L (k : Int) x z.X (A.keep (gtrans (gtrans G GI) z.h)))
            have hne : Nonempty (Ext wr) := ⟨⟨_, Below.refl _ _⟩⟩
            have t0 := fun z : Ext wr => (z.cell _ _ (lt_of_cell s1)).trans s1
            have t1 := fun z : Ext wr => (z.cell _ _ (lt_of_cell n0)).trans n0
            obtain ⟨pl, hpl⟩ : ∃ z, attrI L (k : Int) x = z := ⟨_, rfl⟩
            have hrs := rowK_succ L x k
            rw [hpl] at cA hrs
            have HRS := show Hid (_ = _) from hrs
            have hLk : k + 1 ≤ 3518437208781 := by omega
            clear hpl hrs
            go_upto_region 13 with fail
            refine wp_region_ext (by kernel_rfl) (by kernel_rfl) ?_
            repeat (go_big_quiet_step (first | (go_at_call 29; with_reducible exact cA _)))
            refine wpQuiet_nil ?_
            intro _ hw'
            obtain ⟨nz, hw''⟩ := hw'
            subst hw''
            have O1 := own_keep OR nz.h
            have G1 := gtrans GI nz.h
            have hzw := G1.size
            clear cA hne t0 t1 s1 n0 OR GI
            generalize nz.X = X at *
            go_wp2_with (at_builtin; refine wpList_append_own _ rfl (.tmp 47) (.tmp 49) 60 rfl w3.heap.size 3 i0 (.int .i64 0) 1 8 Tryd.underlying60 hi0 hz0 hz1 hzz rfl (by decide) _ _ _ rfl (O1.alloc _) ⟨X.heap.size, 0, none⟩ 1 1 [.int .i64 pl] rfl rfl (one_newE rfl _ _) (fun u hu => by simp at hu; subst hu; rfl) ?c3 ?c4 ?c5 ?_)
            case c3 => unfold maxLen; omega
            case c4 => omega
            case c5 => simp; omega
            intro v' w1 own' hgrow _
            have O2 : w1.ownsRow w3.heap.size 3 1 v' (k + 1) (intsV (rowK L x (k + 1))) := by
              rw [HRS.out]
              unfold intsV at own' ⊢
              rw [List.map_append]
              exact own'
            have G2 := (galloc G1 (.cells #[.int .i64 pl] 3)).grown hgrow (by simp; omega) (fun r e => by have := (O1.lt _ e).1; omega)
            have HO := show Hid _ from O2
            clear own' hgrow O2 O1 HRS
            go_wp2
            go_roundw
            case rel => exact ⟨k + 1, hkl, by go_num, HO.out, G2⟩
            case measure => simp [intOf] <;> omega
          · obtain rfl : k = L.length := by omega
            have hkk : ¬ ((L.length : Int) < (L.length : Int)) := by omega
            obtain ⟨ra, rc, rfl, _, _, _⟩ := own_form OR
            have hil : ((nm.take i).map (colRow L)).length = i := by rw [List.length_map, List.length_take]; have := HLT.out; omega
            have NO := N.own
            rw [hil] at NO
            obtain ⟨av, cv, rfl, _, _, _⟩ := own_form NO
            have hwb : w.heap.size ≤ w3.heap.size := G.size
            have GY := galloc (Below.refl wr.heap.size wr) (.cells #[.slice ra L.length rc] 60)
            have G2 := gtrans GI GY
            have bn := Bk.new wr #[.slice ra L.length rc] 60
            have hnews := World.news_of_block bn
            have OY := own_keep NO G2
            have hbY : w.heap.size ≤ (wr.alloc (.cells #[.slice ra L.length rc] 60)).heap.size := Nat.le_trans hwb G2.size
            have PYY := P.keep G2
            obtain ⟨z0, z1⟩ := (P.keep GI).at2
            have hon : ∀ u ∈ [(Value.slice ra L.length rc)], u.oneCell' = true := fun u hu => by simp at hu; subst hu; rfl
            have hrr1 : i + 1 ≤ 9223372036854775807 := by have := HLT.out; omega
            have hrr2 : ((i + 1) + (i + 1) / 4 + 192) * 24 ≤ 281474976710656 := by have := HLT.out; omega
            have ROY : (wr.alloc (.cells #[.slice ra L.length rc] 60)).ownsRow w.heap.size 3 1 (.slice ra (colRow L x).length rc) (colRow L x).length (fl intC (colRow L x)) := by
              rw [colRow_len, fl_intC]
              exact (own_keep OR GY).mono hwb
            have hap : ∀ g, (Value.slice ra (colRow L x).length rc).ownBlock = some g → w3.heap.size ≤ g := fun g e => (OR.lt g (by rw [colRow_len] at e; exact e)).1
            have OYc := own_keep O G2
            have NMY := own_keep NM G2
            have RY2 := R.keep G2
            have SY2 := S.keep G2
            have key : ∀ (g c3 : Nat) (w6 : World), w6.ownsRow w.heap.size 60 1 (.slice (some ⟨g, 0, none⟩) (i + 1) c3) (i + 1) (ws ++ [.slice ra L.length rc]) → (wr.alloc (.cells #[.slice ra L.length rc] 60)).grownBy w6 (Value.slice av i cv).ownBlock →
                Bk w6 bp #[.slice (some ⟨gc, 0, none⟩) C.length C.length, .slice av i cv] 40 ∧ ∃ (i' : Nat) (vc : Value) (ws : List Value), i' ≤ nm.length ∧ Value.int .i64 ((i : Int) + 1) = .int .i64 (i' : Int) ∧ Bk (w6.setCell ⟨bp, 1, none⟩ (.slice (some ⟨g, 0, none⟩) (i + 1) c3)) bp #[.slice (some ⟨gc, 0, none⟩) C.length C.length, vc] 40 ∧ ONst (w6.setCell ⟨bp, 1, none⟩ (.slice (some ⟨g, 0, none⟩) (i + 1) c3)) w.heap.size 60 3 1 intC vc ((nm.take i').map (colRow L)) ws ∧ (w6.setCell ⟨bp, 1, none⟩ (.slice (some ⟨g, 0, none⟩) (i + 1) c3)).ownsRow w.heap.size 74 5 (.slice (some ⟨gc, 0, none⟩) C.length C.length) C.length (fl insC C) ∧ (w6.setCell ⟨bp, 1, none⟩ (.slice (some ⟨g, 0, none⟩) (i + 1) c3)).ownsRow w.heap.size 9 1 (.slice (some ⟨gn, on, none⟩) nm.length lc) nm.length (ssV nm) ∧ Bk (w6.setCell ⟨bp, 1, none⟩ (.slice (some ⟨g, 0, none⟩) (i + 1) c3)) (w.heap.size + 2) #[.slice none 0 0, .slice none 0 0] 40 ∧ Bk (w6.setCell ⟨bp, 1, none⟩ (.slice (some ⟨g, 0, none⟩) (i + 1) c3)) w.heap.size #[.slice sa L.length sc] 24 ∧ Below w.heap.size w (w6.setCell ⟨bp, 1, none⟩ (.slice (some ⟨g, 0, none⟩) (i + 1) c3)) := by
              intro g c3 w6 O6 G6
              have p6 := bk_far PYY OY (by decide) G6
              refine ⟨p6, i + 1, .slice (some ⟨g, 0, none⟩) (i + 1) c3, ws ++ [.slice ra (colRow L x).length rc], HLT.out, rfl, p6.set 1 _, ?_, ty_set (ty_far OY OYc (by decide) G6) p6 (by decide) 1 _, ty_set (ty_far OY NMY (by decide) G6) p6 (by decide) 1 _, ?_, ?_, ?_⟩
              · have N6 := N.snoc (u := w6) (v' := .slice (some ⟨g, 0, none⟩) (i + 1) c3) (colRow L x) ra rc w3.heap.size (ty_far OY ROY (by decide) G6) (fun s1 v n xs o => ty_far OY (own_keep o G2) (by decide) G6) hap (Nat.le_refl _) (by rw [hil, colRow_len]; exact O6)
                have N7 := N6.map (u := w6.setCell ⟨bp, 1, none⟩ (.slice (some ⟨g, 0, none⟩) (i + 1) c3)) fun e1 s1 v n xs he o => ty_set o p6 (by rcases he with rfl | rfl <;> decide) 1 _
                rw [HTK.out, List.map_append]
                exact N7
              · exact ((But.refl bp w6).set 1 _ (w.heap.size + 2) (by omega)).trans (bk_far RY2 OY (by decide) G6)
              · exact ((But.refl bp w6).set 1 _ w.heap.size (by omega)).trans (bk_far SY2 OY (by decide) G6)
              · exact gset ((gtrans G G2).grown G6 hbY (fun r e => (OY.lt r e).1)) (p := ⟨bp, 1, none⟩) (by dsimp only; omega) _
            have HLN : Hid (i < nm.length) := HLT
            clear NO PYY ROY hap OYc NMY RY2 SY2 N O NM R S P G OR GI n0 hil
            go_wp2_with (first
              | (at_builtin; refine wpList_append_one rfl (.tmp 52) (.tmp 54) rfl Tryd.underlying38 nfSl rfl (by decide) (.slice av i cv) w.heap.size i _ rfl OY hbY ⟨wr.heap.size, 0, none⟩ 1 [.slice ra L.length rc] rfl rfl hnews hon hrr1 hrr2 ?_; intro g c3 w6 O6 G6 hg; obtain ⟨p6, P8⟩ := key g c3 w6 O6 G6; obtain ⟨y0, y1⟩ := p6.at2; have y2 := p6.free 1))
            go_roundw
            case rel => exact P8
            case measure => have := HLN.out; simp [intOf] <;> omega
      · obtain rfl : i = nm.length := by omega
        have hnn : ¬ ((nm.length : Int) < (nm.length : Int)) := by omega
        rw [List.take_length] at N
        obtain ⟨av, cv, hvc, _⟩ := own_form N.own
        rw [List.length_map] at hvc
        subst hvc
        obtain ⟨p0, p1⟩ := P.at2
        obtain ⟨r0, r1⟩ := R.at2
        have f0 := R.free 0
        have f1 := R.free 1
        have RE : Bk ((wr.setCell ⟨w.heap.size + 2, 0, none⟩ (.slice (some ⟨gc, 0, none⟩) C.length C.length)).setCell ⟨w.heap.size + 2, 1, none⟩ (.slice av nm.length cv)) (w.heap.size + 2) #[.slice (some ⟨gc, 0, none⟩) C.length C.length, .slice av nm.length cv] 40 := (R.set 0 _).set 1 _
        have R1 : Bk (wr.setCell ⟨w.heap.size + 2, 0, none⟩ (.slice (some ⟨gc, 0, none⟩) C.length C.length)) (w.heap.size + 2) #[.slice (some ⟨gc, 0, none⟩) C.length C.length, .slice none 0 0] 40 := R.set 0 _
        have far : ∀ {e1 : TypeId} {sz : Nat} {v : Value} {n : Nat} {xs : List Value}, 40 ≠ e1 → wr.ownsRow w.heap.size e1 sz v n xs → ((wr.setCell ⟨w.heap.size + 2, 0, none⟩ (.slice (some ⟨gc, 0, none⟩) C.length C.length)).setCell ⟨w.heap.size + 2, 1, none⟩ (.slice av nm.length cv)).ownsRow w.heap.size e1 sz v n xs := fun {e1 sz v n xs} he o => ty_set (ty_set o R he 0 _) R1 he 1 _
        have OF := far (by decide) O
        have NF := N.map (u := (wr.setCell ⟨w.heap.size + 2, 0, none⟩ (.slice (some ⟨gc, 0, none⟩) C.length C.length)).setCell ⟨w.heap.size + 2, 1, none⟩ (.slice av nm.length cv)) fun e1 s1 v n xs he o => far (by rcases he with rfl | rfl <;> decide) o
        have GE := gset (gset G (p := ⟨w.heap.size + 2, 0, none⟩) (by dsimp only; omega) (.slice (some ⟨gc, 0, none⟩) C.length C.length)) (p := ⟨w.heap.size + 2, 1, none⟩) (by dsimp only; omega) (.slice av nm.length cv)
        obtain ⟨e0, e1⟩ := RE.at2
        have hml : (nm.map (colRow L)).length = nm.length := List.length_map ..
        have NS : Nst ((wr.setCell ⟨w.heap.size + 2, 0, none⟩ (.slice (some ⟨gc, 0, none⟩) C.length C.length)).setCell ⟨w.heap.size + 2, 1, none⟩ (.slice av nm.length cv)) av intC (nm.map (colRow L)) := (show ONst _ w.heap.size 60 3 1 intC (.slice av (nm.map (colRow L)).length cv) (nm.map (colRow L)) ws from by rw [hml]; exact NF).nst
        have SL : Sl av (nm.map (colRow L)).length cv := by
          have := NF.own
          rw [hml] at this ⊢
          exact own_sl this
        have fin : IsPr ((wr.setCell ⟨w.heap.size + 2, 0, none⟩ (.slice (some ⟨gc, 0, none⟩) C.length C.length)).setCell ⟨w.heap.size + 2, 1, none⟩ (.slice av nm.length cv)) ⟨C, nm.map (colRow L)⟩ (some ⟨gc, 0, none⟩) C.length av cv := ⟨own_flat OF, own_sl OF, NS, SL⟩
        have HF := show Hid _ from fin
        have HML := show Hid _ from hml
        clear RE R1 far OF NF hml NS SL fin N O NM S P R
        go_wp2
        exact bodyPost_ret (v := .agg #[.slice (some ⟨gc, 0, none⟩) C.length C.length, .slice av nm.length cv]) (by simp [results, Tryd.results13, go_sem, e0, e1]) rfl ⟨some ⟨gc, 0, none⟩, C.length, av, cv, by show _ = Ending.returned (.agg #[.slice _ _ _, .slice av (nm.map (colRow L)).length cv]); rw [HML.out], HF.out, GE⟩

end Go.Proofs.YtnmppmmanigpcaaDoor
