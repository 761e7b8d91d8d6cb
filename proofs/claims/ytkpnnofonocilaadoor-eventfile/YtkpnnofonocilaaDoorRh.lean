/- What the document's ParseSchema comes to: the same as event's. -/
import Derived.Test.YtkpnnofonocilaaDoorRg
namespace Go.Proofs.YtkpnnofonocilaaDoor
open Go.RowKit Go.BigFrame
set_option linter.unusedVariables false
set_option linter.unusedSimpArgs false

def scR (s : ByteArray) : List Ty × Int × Int := if 4096 < s.size then ([], 20, 4096) else rdO (refL s (cutL s s.size 0))
theorem scR_eq (s : ByteArray) : scR s = scO s := by
  unfold scR scO
  split
  · rfl
  · have h := rdS_sim 17 [] _ _ (sim_cut s s.size 0 s.size s.size (by omega) (Nat.zero_le _) (by omega) (by omega))
    unfold rdO
    rw [h.1, h.2.place]
theorem pAt_k {s : ByteArray} {P : List Rp} {i : Nat} (h : i < P.length) : (pAt s P i).k ≠ 2 := by
  unfold pAt rPc
  rw [if_pos h]
  split
  · show (0 : Int) ≠ 2; decide
  · show (1 : Int) ≠ 2; decide
theorem pAt_end {s : ByteArray} {P : List Rp} : pAt s P P.length = eP s := by unfold pAt; rw [if_neg (Nat.lt_irrefl _)]
theorem ty_apart {w : World} {base : Nat} {v : Value} {n : Nat} {xs : List Value} {b : Nat} (h : w.ownsRow base 35 2 v n xs) (hb : b < base) : some b ≠ v.ownBlock := fun e => by
  have := (h.lt _ e.symm).1
  omega
theorem new2b (w : World) (b : Nat) (hb : b = w.heap.size) (x y : Value) (t : TypeId) (j : Nat) (u : Value) (h : [x, y][j]? = some u) : (w.alloc (.cells #[x, y] t)).cell? ((⟨b, 0, none⟩ : Addr).add j) = some u := by
  subst hb
  exact new2 w x y t j u h
theorem OwnT.nil (base : Nat) (w : World) : OwnT base w (.slice none 0 0) 0 [] := ⟨rfl, [], World.ownsRow_nil _ _ _ _, fun j hj => absurd hj (Nat.not_lt_zero _)⟩

set_option maxRecDepth 100000 in
set_option maxHeartbeats 16000000 in
theorem refParseSchema_any (s : ByteArray) (hs : s.size ≤ 9223372036854775807) (w : World) (K : KwAt w) :
    Calls Tryd.prog 10 #[.string s] w fun e w' => ∃ v, e = .returned (.tuple #[.agg #[v], .int .i64 (scR s).2.1, .int .i64 (scR s).2.2]) ∧ OwnT w.heap.size w' v (scR s).1.length (scR s).1 ∧ Below w.heap.size w w' := by
  obtain ⟨i3, ti, tz0, tz1, tz2⟩ := info_partsT
  have hz : scR s = if 4096 < s.size then ([], 20, 4096) else rdO (refL s (cutL s s.size 0)) := rfl
  by_cases hbig : 4096 < s.size
  · rw [if_pos hbig] at hz
    have HZ : Hid (scR s = ([], 20, 4096)) := hz
    have hb : (4096 : Int) < (s.size : Int) := by omega
    clear hz
    go_enter Tryd.func10, Tryd.ntmps10
    go_wp2
    refine bodyPost_ret (results_row_tmp2 rfl _ _ w.heap.size 24 #[.slice none 0 0] (0, 0) _ rfl (heap_alloc_new _ _) Tryd.underlying24 rfl infoSch) rfl ⟨.slice none 0 0, by rw [HZ.out]; rfl, by rw [HZ.out]; exact OwnT.nil _ _, galloc (Below.refl _ _) _⟩
  rw [if_neg hbig] at hz
  have hb : ¬ (4096 : Int) < (s.size : Int) := by omega
  have hs4 : s.size ≤ 4096 := by omega
  have cC := fun (u : World) => refCut_any s hs4 u
  have hP := cutL_ok s s.size 0
  have hPl := cutL_len s s.size 0
  generalize cutL s s.size 0 = P at *
  have hz2 : scR s = if (rdS 17 [] (refL s P)).2.2 ≠ 0 then ([], (rdS 17 [] (refL s P)).2.2, (hd (rdS 17 [] (refL s P)).1).a) else ((rdS 17 [] (refL s P)).2.1, 0, 0) := hz
  clear hz
  obtain ⟨y, hy⟩ : ∃ y, y = rdS 17 [] (refL s P) := ⟨_, rfl⟩
  rw [← hy] at hz2
  have HY : Hid (y = rdS 17 [] ((refL s P).drop 0)) := hy
  have HZ : Hid (scR s = if y.2.2 ≠ 0 then ([], y.2.2, (hd y.1).a) else (y.2.1, 0, 0)) := hz2
  clear hz2 hy
  generalize scR s = z at *
  have W0 := galloc (Below.refl w.heap.size w) (.cells #[.slice none 0 0] 24)
  have Z0 := One.new w (.slice none 0 0) 24
  go_enter Tryd.func10, Tryd.ntmps10
  go_wp2_with (go_at_call 26; (with_reducible refine (cC _).mono ?_); rintro e u1 ⟨v1, rfl, O1, g1⟩; obtain ⟨ap, cp, rfl, R1⟩ := rps_of_own (by omega) O1; have G1 := gtrans W0 g1; have Z1 := Z0.keep g1)
  have B2 := galloc (Below.refl u1.heap.size u1) (.cells #[.slice none 0 0] 24)
  have S2 := One.new u1 (.slice none 0 0) 24
  have z1 := Z1.lt
  have hs2 : (u1.alloc (.cells #[.slice none 0 0] 24)).heap.size = u1.heap.size + 1 := by simp
  generalize u1.alloc (.cells #[.slice none 0 0] 24) = u2 at *
  clear cC O1 g1 Z0 W0
  go_loopw [7] (fun vi wr => ∃ (f i : Nat) (L : List Ty) (v : Value), vi = .int .i64 i ∧ i ≤ P.length ∧ One wr u1.heap.size v 24 ∧ OwnT (u1.heap.size + 1) wr v L.length L ∧ y = rdS f L ((refL s P).drop i) ∧ L.length + f = 17 ∧ 0 < f ∧ Below u1.heap.size u1 wr ∧ u1.heap.size + 1 ≤ wr.heap.size) (fun _ wr => 17 - lenA ((wr.cell? ⟨u1.heap.size, 0, none⟩).getD (.slice none 0 0)))
  case atStart => exact ⟨17, 0, [], .slice none 0 0, rfl, Nat.zero_le _, S2, OwnT.nil _ _, HY.out, rfl, by omega, B2, by omega⟩
  case round =>
    obtain ⟨f, i, L, v, rfl, hi, Sr, Tr, hyr, hLf, hf0, G, hsz⟩ := hrel
    clear HY S2 B2 hs2
    obtain ⟨f, rfl⟩ : ∃ f', f = f' + 1 := ⟨f - 1, by omega⟩
    have hyk : y = if (hd ((refL s P).drop i)).k = 2 then ((refL s P).drop i, L, if L.length = 0 then 23 else 0) else if (rdD L ((refL s P).drop i)).2.2 ≠ 0 then rdD L ((refL s P).drop i) else rdS f (rdD L ((refL s P).drop i)).2.1 (rdD L ((refL s P).drop i)).1 := hyr
    rw [hd_drop s P i hi] at hyk
    clear hyr
    obtain ⟨ao, tc, rfl, Ty⟩ := Tr.types
    have s0 := Sr.at0
    have sf := Sr.free
    have Zr := Z1.keep G
    have GW := gtrans G1 G
    by_cases hlt : i < P.length
    · rw [if_neg (pAt_k hlt)] at hyk
      have cD := refDefinition_any s hs4 ap P.length cp P hP i hlt ao L.length tc L (by omega) wr (R1.keep G) Ty (K.keep GW)
      have hlen := rdD_len (L := L) (l := (refL s P).drop i)
      generalize rdD L ((refL s P).drop i) = q at *
      obtain ⟨ql, qL, qc⟩ := q
      dsimp only at cD hyk hlen
      by_cases hq : qc = 0
      · subst hq
        rw [if_neg (by decide)] at hyk
        obtain ⟨hlen1, hlen2⟩ := hlen rfl
        have hn16 : L.length ≤ 16 := by omega
        generalize hn : L.length = n at *
        go_wp2_with (first
          | (go_at_call 27; (with_reducible refine cD.mono ?_); rintro e u3 ⟨nm, a3, n3, c3, k, rfl, hk, hdr, hown, g3⟩; obtain ⟨ss, hqL, O3⟩ := hown rfl; obtain rfl : n3 = ss.length := (by obtain ⟨_, _, e, _⟩ := own_shape O3; exact (Value.slice.inj e).2.1); have S3 := Sr.keep g3; have s3 : ∀ o, (u3.alloc o).cell? ⟨u1.heap.size, 0, none⟩ = some (.slice ao n tc) := fun o => (S3.alloc o).at0; have z3 := g3.size; obtain ⟨hTl, cells, C1, C2⟩ := Tr.keep g3; have hone : ∀ u ∈ [Value.string nm, .slice a3 ss.length c3], u.oneCell' = true := (by intro u hu; simp at hu; rcases hu with rfl | rfl <;> rfl))
          | (at_builtin; refine wpList_append_own _ rfl (.tmp 40) (.tmp 42) 22 rfl (u1.heap.size + 1) 35 i3 (.agg #[.string ⟨#[]⟩, .slice none 0 0]) 2 40 Tryd.underlying22 ti tz0 tz1 tz2 rfl (by decide) _ _ _ rfl ((C1.alloc _).alloc _) ⟨u3.heap.size + 1, 0, none⟩ 1 1 [.string nm, .slice a3 ss.length c3] rfl rfl (new2b _ _ (by simp) _ _ _) hone (by unfold maxLen; omega) (by omega) (by simp; omega) ?_))
        intro v10 w10 hown10 hgrow10 _
        obtain ⟨a10, c10, rfl, _⟩ := own_shape hown10
        have S10 : One w10 u1.heap.size (.slice ao n tc) 24 := (hgrow10.block _ (by simp; omega) (ty_apart C1 (by omega))).trans ((S3.alloc _).alloc _)
        have t1 := S10.at0
        have t2 := S10.free
        have far : ∀ (g' : Nat) (cur : Array Value), u1.heap.size + 1 ≤ g' → u3.heap[g']? = some (.cells cur 9 (0, 0)) → (w10.setCell ⟨u1.heap.size, 0, none⟩ (.slice a10 (n + 1) c10)).heap[g']? = u3.heap[g']? := by
          intro g' cur k1 k2
          have k3 := lt_of_block k2
          rw [Below.heap_setCell w10 _ _ g' (by show g' ≠ u1.heap.size; omega), hgrow10.block g' (by simp; omega) (row_apart C1 k2), Below.heap_alloc _ _ _ (by simp; omega), Below.heap_alloc _ _ _ k3]
        have hcl : cells.length = n * 2 := C1.1
        have T11 : OwnT (u1.heap.size + 1) (w10.setCell ⟨u1.heap.size, 0, none⟩ (.slice a10 (n + 1) c10)) (.slice a10 (n + 1) c10) (n + 1) (L ++ [(nm, ss)]) := by
          refine ⟨by simp [hTl], cells ++ [.string nm, .slice a3 ss.length c3], own_of_block hown10 (fun g' _ hg' _ => Below.heap_setCell w10 _ _ g' (by show g' ≠ u1.heap.size; omega)), fun j hj => ?_⟩
          rcases Nat.lt_or_ge j n with e | e
          · obtain ⟨d1, aj, cj, d2, d3⟩ := C2 j e
            rw [show (L ++ [(nm, ss)]).getD j noTy = L.getD j noTy from by rw [List.getD_eq_getElem?_getD, List.getElem?_append_left (by omega), ← List.getD_eq_getElem?_getD]]
            exact ⟨by rw [List.getElem?_append_left (by omega)]; exact d1, aj, cj, by rw [List.getElem?_append_left (by omega)]; exact d2, own_of_block d3 far⟩
          · obtain rfl : j = n := by omega
            rw [show (L ++ [(nm, ss)]).getD j noTy = (nm, ss) from by rw [List.getD_eq_getElem?_getD, List.getElem?_append_right (by omega), hTl, Nat.sub_self]; rfl]
            refine ⟨by rw [List.getElem?_append_right (by omega), hcl, Nat.sub_self]; rfl, a3, c3, ?_, own_of_block (own_mono O3 (by omega)) far⟩
            rw [List.getElem?_append_right (by omega), hcl, show j * 2 + 1 - j * 2 = 1 by omega]; rfl
        have S11 := S10.set (.slice a10 (n + 1) c10)
        have G11 : Below u1.heap.size u1 (w10.setCell ⟨u1.heap.size, 0, none⟩ (.slice a10 (n + 1) c10)) :=
          gset (((gtrans G g3).alloc (gtrans G g3).size _ |>.alloc (by have := (gtrans G g3).size; simp; omega) _).grown hgrow10 (by have := (gtrans G g3).size; simp; omega) (fun r e => by have := (C1.lt _ e).1; omega)) (Nat.le_refl _) _
        have z11 : u1.heap.size + 1 ≤ (w10.setCell ⟨u1.heap.size, 0, none⟩ (.slice a10 (n + 1) c10)).heap.size := by
          have := hgrow10.size
          simp at this ⊢
          omega
        have hL1 : (L ++ [(nm, ss)]).length = n + 1 := by rw [List.length_append, hn]; rfl
        have HY2 : Hid (y = rdS f (L ++ [(nm, ss)]) ((refL s P).drop k)) := by show _ = _; rw [hyk, hqL, hdr]
        clear far hown10 hgrow10 hyk C1 C2 O3 hone
        go_wp2
        go_roundw
        case rel => exact ⟨f, k, L ++ [(nm, ss)], _, rfl, hk, S11, by rw [hL1]; exact T11, HY2.out, by rw [hL1]; omega, by omega, G11, z11⟩
        case measure =>
          have e2 := S11.at0
          show 17 - lenA (((w10.setCell ⟨u1.heap.size, 0, none⟩ (.slice a10 (n + 1) c10)).cell? ⟨u1.heap.size, 0, none⟩).getD (.slice none 0 0)) < 17 - lenA ((wr.cell? ⟨u1.heap.size, 0, none⟩).getD (.slice none 0 0))
          rw [e2, s0]
          show 17 - (n + 1) < 17 - n
          omega
      · rw [if_pos hq] at hyk
        have q0 : (qc == 0) = false := by simpa using hq
        have HZ2 : Hid (z = ([], qc, (hd ql).a)) := by show _ = _; rw [HZ.out, hyk, if_pos hq]
        clear hyk HZ hlen
        go_wp2_with (first
          | (go_at_call 27; (with_reducible refine cD.mono ?_); rintro e u3 ⟨nm, a3, n3, c3, k, rfl, hk, hdr, hown, g3⟩; have Z3 := (Zr.keep g3).alloc (.cells #[.string nm, .slice a3 n3 c3] 35); have G3 := galloc (gtrans GW g3) (.cells #[.string nm, .slice a3 n3 c3] 35); have cA := refPlaceAt_any s ap P.length cp P k _ (((R1.keep G).keep g3).keep (galloc (Below.refl u3.heap.size u3) (.cells #[.string nm, .slice a3 n3 c3] 35))))
          | (go_at_call 28; (with_reducible refine cA.mono ?_); rintro e u4 ⟨rfl, g4⟩; have Z4 := Z3.keep g4; have f4 := Z4.free; have p4 := Z4.at0))
        have Z5 := Z4.set (.slice none 0 0)
        refine bodyPost_ret (results_row_tmp2 rfl _ _ w.heap.size 24 #[.slice none 0 0] (0, 0) _ rfl Z5 Tryd.underlying24 rfl infoSch) rfl ⟨.slice none 0 0, ?_, by rw [HZ2.out]; exact OwnT.nil _ _, (gtrans G3 g4).setCell (Nat.le_refl _) _⟩
        rw [HZ2.out, ← hdr, hd_drop s P k hk]
        rfl
    · obtain rfl : i = P.length := by omega
      rw [pAt_end, if_pos (show (eP s).k = 2 from rfl)] at hyk
      by_cases h0 : L.length = 0
      · have HZ2 : Hid (z = ([], 23, (s.size : Int))) := by
          show _ = _
          rw [HZ.out, hyk, if_pos h0, if_pos (by show (23 : Int) ≠ 0; decide)]
          show ([], 23, (hd ((refL s P).drop P.length)).a) = _
          rw [hd_drop s P P.length (Nat.le_refl _), pAt_end]
          rfl
        clear hyk HZ
        have f4 := Zr.free
        have p4 := Zr.at0
        generalize hn : L.length = n at *
        subst h0
        go_wp2
        have Z5 := Zr.set (.slice none 0 0)
        refine bodyPost_ret (results_row_tmp2 rfl _ _ w.heap.size 24 #[.slice none 0 0] (0, 0) _ rfl Z5 Tryd.underlying24 rfl infoSch) rfl ⟨.slice none 0 0, by rw [HZ2.out]; rfl, by rw [HZ2.out]; exact OwnT.nil _ _, GW.setCell (Nat.le_refl _) _⟩
      · have HZ2 : Hid (z = (L, 0, 0)) := by
          show _ = _
          rw [HZ.out, hyk, if_neg h0, if_neg (by show ¬ ((0 : Int) ≠ 0); decide)]
        clear hyk HZ
        have f4 := Zr.free
        have p4 := Zr.at0
        generalize hn : L.length = n at *
        have n0 : ((n : Int) == 0) = false := by rw [beq_eq_false_iff_ne]; omega
        go_wp2
        have Z5 := Zr.set (.slice ao n tc)
        refine bodyPost_ret (results_row_tmp2 rfl _ _ w.heap.size 24 #[.slice ao n tc] (0, 0) _ rfl Z5 Tryd.underlying24 rfl infoSch) rfl ⟨.slice ao n tc, by rw [HZ2.out]; rfl, ?_, GW.setCell (Nat.le_refl _) _⟩
        rw [HZ2.out]
        show OwnT _ _ _ L.length L
        rw [hn]
        exact (Tr.other (p := ⟨w.heap.size, 0, none⟩) (by show w.heap.size < _; have := G1.size; omega) _).mono (by have := G1.size; omega)

end Go.Proofs.YtkpnnofonocilaaDoor
