/- The pieces glued. -/
import Derived.Test.YtpodpahipapbaaaDoorSia
namespace Go.Proofs.YtpodpahipapbaaaDoor
open Go.RowKit Go.BigFrame
set_option linter.unusedVariables false
set_option linter.unusedSimpArgs false

theorem toksV_len (ts : List Tok) : (toksV ts).length = ts.length * 4 := by
  induction ts with
  | nil => rfl
  | cons y r ih =>
    have e : toksV (y :: r) = (tokA y).toList ++ toksV r := rfl
    rw [e, List.length_append, ih, List.length_cons]
    show 4 + _ = _
    omega
theorem toksV_app (a b : List Tok) : toksV (a ++ b) = toksV a ++ toksV b := by unfold toksV; exact List.flatMap_append
/-- append of a whole row of tokens onto a row of one's own. -/
theorem wpList_append_it {w : World} {ops : Array Oper} {rest : List Oper} {o : Oper} {a : Act} {Q : Exit → Act → World → Prop} (hgd : o.guard = none) (s x : Operand)
    (ho : o.op = .call { callee := .builtin .append, args := #[s, x], argTypes := #[34, 34] }) (v : Value) (base n : Nat) (xs : List Value) (hs : a.eval s = v) (O : w.ownsRow base 57 4 v n xs) (hb : base ≤ w.heap.size)
    (ao : Option Addr) (cap : Nat) (ts : List Tok) (hx : a.eval x = .slice ao ts.length cap) (hnone : ao = none → ts.length = 0 ∧ cap = 0) (A : IsToks w ao ts) (hl : n + ts.length ≤ 200000000)
    (h : ∀ v' w', w'.ownsRow base 57 4 v' (n + ts.length) (xs ++ toksV ts) → w.grownBy w' v.ownBlock → wpList Tryd.prog ops Q rest (a.put o.dst v') w') : wpList Tryd.prog ops Q (o :: rest) a w := by
  obtain ⟨i3, ti, tz0, tz1, tz2⟩ := info_partsTk
  have hlen := toksV_len ts
  cases ao with
  | none =>
    obtain ⟨h0, rfl⟩ := hnone rfl
    refine wpList_plain hgd fun K hK' => ?_
    have hrun := run_append_owned_none (P := Tryd.prog) w base 34 o.type 57 i3 4 Tryd.underlying34 ti v n xs O
    have hts : ts = [] := List.length_eq_zero_iff.1 h0
    subst hts
    replace hx : a.eval x = .slice none 0 0 := hx
    unfold Oper.wp
    simp [execOp, ho, resolve, invoke, builtin, hs, hx, hrun, Result.andThen]
    refine hK' _ _ (h _ _ ?_ (World.grownBy.refl _ _))
    rw [show toksV [] = [] from rfl, List.append_nil]
    exact O
  | some ad =>
    refine wpList_append_own (w := w) hgd s x 34 ho base 57 i3 (.agg (tokA noTok)) 4 40 Tryd.underlying34 ti tz0 tz1 tz2 rfl (by decide) v n xs hs O ad ts.length cap (toksV ts) hx hlen (fun j u hj => ?_) ?_ ?_ ?_ hb (fun v' w' h1 h2 _ => h v' w' h1 h2)
    · have hjl := (List.getElem?_eq_some_iff.1 hj).1
      rw [hlen] at hjl
      obtain ⟨q, r, rfl, hr⟩ : ∃ q r, j = q * 4 + r ∧ r < 4 := ⟨j / 4, j % 4, by omega, by omega⟩
      rw [toksV_at ts q (by omega) r hr] at hj
      obtain ⟨g, off, e, c0, c1, c2, c3⟩ := A q (by omega)
      cases e
      rw [Go.WideShapes.add_plain]
      rcases (show r = 0 ∨ r = 1 ∨ r = 2 ∨ r = 3 from by omega) with rfl | rfl | rfl | rfl
      · rw [← Nat.add_assoc, Nat.add_zero, c0, ← hj]; rfl
      · rw [← Nat.add_assoc, c1, ← hj]; rfl
      · rw [← Nat.add_assoc, c2, ← hj]; rfl
      · rw [← Nat.add_assoc, c3, ← hj]; rfl
    · intro u hu
      unfold toksV at hu
      obtain ⟨y, _, hy⟩ := List.mem_flatMap.1 hu
      simp [tokA] at hy
      rcases hy with rfl | rfl | rfl | rfl <;> rfl
    · unfold maxLen; omega
    · omega
/-- A row of pieces in memory. -/
def IsPcs (w : World) (ao : Option Addr) (ps : List Pce) : Prop := ∀ i, i < ps.length → ∃ g o t c, ao = some ⟨g, o, none⟩ ∧ w.cell? ⟨g, o + i * 2, none⟩ = some (.slice t (ps.getD i noP).ts.length c) ∧ w.cell? ⟨g, o + i * 2 + 1, none⟩ = some (.int .i64 (ps.getD i noP).d) ∧ IsToks w t (ps.getD i noP).ts ∧ (t = none → (ps.getD i noP).ts.length = 0 ∧ c = 0)
theorem IsPcs.keep {w u : World} {ao : Option Addr} {ps : List Pce} (h : IsPcs w ao ps) (G : Below w.heap.size w u) : IsPcs u ao ps := fun i hi => by
  obtain ⟨g, o, t, c, e, a0, a1, a2, a3⟩ := h i hi
  exact ⟨g, o, t, c, e, (G.cell (p := ⟨_, _, none⟩) (lt_of_cell a0)).trans a0, (G.cell (p := ⟨_, _, none⟩) (lt_of_cell a1)).trans a1, a2.keep G, a3⟩
theorem glueP_take (ps : List Pce) (k : Nat) (h : k < ps.length) : glueP (ps.take (k + 1)) = stepP (glueP (ps.take k)) (ps.getD k noP) := by
  unfold glueP
  rw [List.take_add_one, List.foldl_append]
  simp [List.getD, List.getElem?_eq_getElem h]
set_option maxRecDepth 100000 in
set_option maxHeartbeats 8000000 in
theorem glue_any (ps : List Pce) (hk8 : ps.length ≤ 1000000) (hT : ∀ k, k ≤ ps.length → (glueP (ps.take k)).ts.length ≤ 100000000) (ao : Option Addr) (cap : Nat) (w : World) (A : IsPcs w ao ps) : Calls Tryd.prog 25 #[.slice ao ps.length cap] w fun e w' => ∃ v, e = .returned v ∧ PcA w' w.heap.size v (glueP ps) ∧ Below w.heap.size w w' := by
  obtain ⟨n, hn⟩ : ∃ n, ps.length = n := ⟨_, rfl⟩
  rw [hn] at hk8 hT ⊢
  go_enter Tryd.func25, Tryd.ntmps25
  go_wp2
  have T1 := (Two.new w (.slice none 0 0) (.int .i64 0) 36).alloc (.cells #[.slice none 0 0, .int .i64 0] 36)
  have T2 := Two.new (w.alloc (.cells #[.slice none 0 0, .int .i64 0] 36)) (.slice none 0 0) (.int .i64 0) 36
  rw [show (w.alloc (.cells #[.slice none 0 0, .int .i64 0] 36)).heap.size = w.heap.size + 1 by simp] at T2
  have GV := galloc (galloc (Below.refl w.heap.size w) (.cells #[.slice none 0 0, .int .i64 0] 36)) (.cells #[.slice none 0 0, .int .i64 0] 36)
  generalize hV : (w.alloc (.cells #[.slice none 0 0, .int .i64 0] 36)).alloc (.cells #[.slice none 0 0, .int .i64 0] 36) = V at *
  have zV : V.heap.size = w.heap.size + 2 := by rw [← hV]; simp
  clear hV
  go_loopw [5, 8] (fun _ x wr => ∃ (k : Nat) (v : Value), k ≤ n ∧ x = .int .i64 k ∧ Two wr w.heap.size (.slice none 0 0) (.int .i64 0) 36 ∧ Two wr (w.heap.size + 1) v (.int .i64 (glueP (ps.take k)).d) 36 ∧ wr.ownsRow (w.heap.size + 2) 57 4 v (glueP (ps.take k)).ts.length (toksV (glueP (ps.take k)).ts) ∧ Below w.heap.size w wr) (fun _ x _ => n - (intOf x).toNat)
  case atStart => exact ⟨0, .slice none 0 0, Nat.zero_le _, rfl, T1, T2, World.ownsRow_nil _ _ _ _, GV⟩
  case round =>
    obtain ⟨k, v, hk, rfl, P1, P2, O, G⟩ := hrel
    have zG := G.size
    have z2 := P2.lt
    by_cases hlt : k < n
    · obtain ⟨g, o, t, c, rfl, x0, x1, xt, xn⟩ := (A.keep G) k (by omega)
      have hnx := glueP_take ps k (by omega)
      have hT1 := hT (k + 1) (by omega)
      rw [hnx] at hT1
      have HX : Hid (glueP (ps.take (k + 1)) = stepP (glueP (ps.take k)) (ps.getD k noP)) := hnx
      clear hnx A
      generalize ps.getD k noP = y at *
      generalize glueP (ps.take k) = q at *
      obtain ⟨yt, yd⟩ := y
      obtain ⟨qt, qd⟩ := q
      simp only [stepP] at HX hT1
      dsimp only at *
      rw [List.length_append] at hT1
      have N1 := Two.new wr (.slice t yt.length c) (.int .i64 yd) 36
      have P1a := P1.alloc (.cells #[.slice t yt.length c, .int .i64 yd] 36)
      have P2a := P2.alloc (.cells #[.slice t yt.length c, .int .i64 yd] 36)
      have Oa := O.alloc (.cells #[.slice t yt.length c, .int .i64 yd] 36)
      have Ga := galloc G (.cells #[.slice t yt.length c, .int .i64 yd] 36)
      have ta := xt.keep (galloc (Below.refl _ wr) (.cells #[.slice t yt.length c, .int .i64 yd] 36))
      have za : (wr.alloc (.cells #[.slice t yt.length c, .int .i64 yd] 36)).heap.size = wr.heap.size + 1 := by simp
      obtain ⟨vo, vc, rfl⟩ := own_shape O
      have p0 := P2a.at0
      have m0 := N1.at0
      go_wp2_with (at_builtin; refine wpList_append_it rfl (.tmp 13) (.tmp 15) rfl _ (w.heap.size + 2) _ _ rfl Oa (by omega) t c yt rfl xn ta (by omega) ?_)
      intro v' w1 hown' hgrow
      rw [← toksV_app, ← List.length_append] at hown'
      obtain ⟨m, hm⟩ : ∃ m, (qt ++ yt).length = m := ⟨_, rfl⟩
      rw [hm] at hown'
      have HM : Hid ((qt ++ yt).length = m) := hm
      clear hm
      have hap : ∀ r, (Value.slice vo qt.length vc).ownBlock = some r → w.heap.size + 2 ≤ r := fun r e => (O.lt _ e).1
      have hap2 : ∀ r, (Value.slice vo qt.length vc).ownBlock = some r → r < wr.heap.size := fun r e => (O.lt _ e).2
      have P1' : Two w1 w.heap.size (.slice none 0 0) (.int .i64 0) 36 := (hgrow.block _ (by rw [za]; omega) (fun e => by have := hap _ e.symm; omega)).trans P1a
      have P2' : Two w1 (w.heap.size + 1) (.slice vo qt.length vc) (.int .i64 qd) 36 := (hgrow.block _ (by rw [za]; omega) (fun e => by have := hap _ e.symm; omega)).trans P2a
      have N1' : Two w1 wr.heap.size (.slice t yt.length c) (.int .i64 yd) 36 := (hgrow.block _ (by rw [za]; omega) (fun e => by have := hap2 _ e.symm; omega)).trans N1
      have G9 : Below w.heap.size w w1 := Ga.grown hgrow (by rw [za]; omega) (fun r e => by have := hap _ e; omega)
      obtain ⟨uo, uc, rfl⟩ := own_shape hown'
      have p3 := P2'.at0
      have p4 := P2'.free 0
      have P2s := P2'.set0 (.slice uo m uc)
      have P1s := P1'.other (p := ⟨w.heap.size + 1, 0, none⟩) (by show w.heap.size ≠ w.heap.size + 1; omega) (.slice uo m uc)
      have N1s := N1'.other (p := ⟨w.heap.size + 1, 0, none⟩) (by show wr.heap.size ≠ w.heap.size + 1; omega) (.slice uo m uc)
      have Os := own_of_block hown' (u := w1.setCell ⟨w.heap.size + 1, 0, none⟩ (.slice uo m uc)) (fun g' _ hg' _ => Below.heap_setCell w1 _ _ g' (by show g' ≠ w.heap.size + 1; omega))
      have Gs := gset G9 (p := ⟨w.heap.size + 1, 0, none⟩) (by show w.heap.size ≤ w.heap.size + 1; omega) (.slice uo m uc)
      generalize hw2 : w1.setCell ⟨w.heap.size + 1, 0, none⟩ (.slice uo m uc) = w2 at P2s P1s N1s Os Gs
      have p5 := P2s.at1
      have p6 := P2s.free 1
      have m1 := N1s.at1
      have P2t := P2s.set1 (.int .i64 (maxI qd yd))
      have P1t := P1s.other (p := ⟨w.heap.size + 1, 1, none⟩) (by show w.heap.size ≠ w.heap.size + 1; omega) (.int .i64 (maxI qd yd))
      have Ot := own_of_block Os (u := w2.setCell ⟨w.heap.size + 1, 1, none⟩ (.int .i64 (maxI qd yd))) (fun g' _ hg' _ => Below.heap_setCell w2 _ _ g' (by show g' ≠ w.heap.size + 1; omega))
      have Gt := gset Gs (p := ⟨w.heap.size + 1, 1, none⟩) (by show w.heap.size ≤ w.heap.size + 1; omega) (.int .i64 (maxI qd yd))
      clear hgrow O P1 P2 P1' P2' G9 hown' N1 N1' P1a P2a Oa Ga ta xt
      have hmx : maxI qd yd = if qd < yd then yd else qd := rfl
      by_cases hd : qd < yd
      · have hm2 : maxI qd yd = yd := by rw [hmx, if_pos hd]
        rw [hm2] at P2t P1t Ot Gt
        have HX2 : Hid (glueP (ps.take (k + 1)) = ⟨qt ++ yt, yd⟩) := by show _ = _; rw [HX.out, hm2]
        clear hmx hm2 HX
        go_wp2
        go_roundw
        case rel => exact ⟨k + 1, _, by omega, by go_num, P1t, by rw [HX2.out]; exact P2t, by rw [HX2.out]; show World.ownsRow _ _ _ _ _ (qt ++ yt).length _; rw [HM.out]; exact Ot, Gt⟩
        case measure => simp [intOf]; omega
      · have hm2 : maxI qd yd = qd := by rw [hmx, if_neg hd]
        rw [hm2] at P2t P1t Ot Gt
        have HX2 : Hid (glueP (ps.take (k + 1)) = ⟨qt ++ yt, qd⟩) := by show _ = _; rw [HX.out, hm2]
        clear hmx hm2 HX
        go_wp2
        go_roundw
        case rel => exact ⟨k + 1, _, by omega, by go_num, P1t, by rw [HX2.out]; exact P2t, by rw [HX2.out]; show World.ownsRow _ _ _ _ _ (qt ++ yt).length _; rw [HM.out]; exact Ot, Gt⟩
        case measure => simp [intOf]; omega
    · obtain rfl : k = n := by omega
      rw [List.take_of_length_le (by omega)] at O P2
      have p0 := P2.at0
      have p1 := P2.at1
      have f0 := P1.free 0
      have f1 := P1.free 1
      have p2 := P1.at0
      have p3 := P1.at1
      obtain ⟨q, hq⟩ : ∃ q, glueP ps = q := ⟨_, rfl⟩
      rw [hq] at O p1 P2
      have HQ : Hid (glueP ps = q) := hq
      clear hq
      obtain ⟨qt, qd⟩ := q
      dsimp only at O p1 P2
      obtain ⟨vo, vc, rfl⟩ := own_shape O
      go_wp2
      have P3 := P1.set (.slice vo qt.length vc) (.int .i64 qd)
      have O3 := own_of_block O (u := (wr.setCell ⟨w.heap.size, 0, none⟩ (.slice vo qt.length vc)).setCell ⟨w.heap.size, 1, none⟩ (.int .i64 qd)) (fun g' _ hg' _ => (Below.heap_setCell _ _ _ g' (by show g' ≠ w.heap.size; omega)).trans (Below.heap_setCell _ _ _ g' (by show g' ≠ w.heap.size; omega)))
      have G3 := gset (gset G (p := ⟨w.heap.size, 0, none⟩) (Nat.le_refl _) (.slice vo qt.length vc)) (p := ⟨w.heap.size, 1, none⟩) (Nat.le_refl _) (.int .i64 qd)
      have r0 := P3.at0
      have r1 := P3.at1
      refine bodyPost_ret (v := .agg #[.slice vo qt.length vc, .int .i64 qd]) (by simp [results, Tryd.results25, go_sem, r0, r1]) rfl ⟨_, rfl, ?_, G3⟩
      rw [HQ.out]
      exact ⟨_, rfl, own_mono O3 (by omega)⟩

end Go.Proofs.YtpodpahipapbaaaDoor
