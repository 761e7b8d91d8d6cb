/- The law CodeSkips, where the joined tree is not too long. And what goes with it: 1 texts in one. -/
import Derived.Test.YtbcomgfdbanjlaaDoorJc24
namespace Go.Proofs.YtbcomgfdbanjlaaDoor
open Go.RowKit Go.BigFrame Go.Proofs.YtbcomgfdbanjlaaDoor.Ev
set_option linter.unusedVariables false
set_option linter.unusedSimpArgs false

/-- At the round k: the code from an9 + 1 on is spoilt up to k. -/
structure SkI (u : World) (g gn pci : Nat) (pc : Option Addr) (gm pcc bq an9 : Nat) (G : Prg) (ws : List Value) (x : Value) (wr : World) : Prop where
  ex : ∃ (k : Nat) (C : List Ins), an9 + 1 ≤ k ∧ k ≤ gn ∧ x = .int .i64 (k : Int) ∧ C.length = gn ∧ (∀ j, j ≤ an9 → C.getD j noIn = G.code.getD j noIn) ∧ (∀ j, an9 < j → j < k → C.getD j noIn = ⟨99, 0, 0, 0, 0⟩) ∧ (∀ j, (C.getD j noIn).ok) ∧
    wr.ownsRow u.heap.size 67 5 (.slice (some ⟨g, 0, none⟩) gn pci) gn (fl insC C) ∧ Bk wr bq #[.slice (some ⟨g, 0, none⟩) gn pci, .slice pc gm pcc] 40 ∧ ONst wr u.heap.size 70 3 1 intC (.slice pc gm pcc) G.cols ws ∧ Below u.heap.size u wr
theorem skF0 (qi : Option Addr) (an qci : Nat) (qc : Option Addr) (am qcc : Nat) (u : World) : (Instr.field 40 (.agg #[.slice qi an qci, .slice qc am qcc]) 0).run Tryd.prog u = .ok (.slice qi an qci) u := by
  simp [Instr.field, run_underlying Tryd.underlying40, go_sem, asAgg]
set_option maxRecDepth 100000 in
set_option maxHeartbeats 16000000 in
theorem codeSkips_walk (sa : Option Addr) (sc : Nat) (L : List Ty) (q : Qy) (hq : q.fit) (cs : Array Value) (ai : Option Addr) (ci : Nat) (aw : Option Addr) (cw : Nat) (ar : Option Addr) (cr : Nat) (orb : Bool) (a b : List Nd) (ao : Option Addr) (ca : Nat) (bo : Option Addr) (cb : Nat) (hno : ao = none → a.length = 0 ∧ ca = 0) (E : Envr) (al : Option Addr) (cl : Nat) (w : World) (K : KwAt w) (T : TbAt w) (A : IsTypes w sa L.length L) (AQ : IsQ w q cs ai ci aw cw ar cr) (NA : IsNds w ao a) (NB : IsNds w bo b) (IE : IsEnv w E al cl)
    (hE0 : (∀ k, (E.lists.getD k []).length ≤ 2147483647) → E.ok) (hEn : E.lists.length * 24 ≤ 140737488351232) (hEl : ∀ k, (E.lists.getD k []).length * 88 ≤ 140737488351232) (fa : ∀ k, (a.getD k noNd).fit) (fb : ∀ k, (b.getD k noNd).fit) (hab : (a.length + b.length + 1) * 64 ≤ 140737488351232) (hL : L.length * 8 ≤ 140737488351232) :
    Calls Tryd.prog 6 #[.agg #[.slice sa L.length sc], .agg cs, .bool orb, .slice ao a.length ca, .slice bo b.length cb, envA al cl E] w fun e w' => e = .returned (.bool true) ∧ Below w.heap.size w w' := by
  have hcs := AQ.eq
  subst hcs
  have hra : a.length * 64 ≤ 140737488351232 := by omega
  have hrb : b.length * 64 ≤ 140737488351232 := by omega
  have hjl : (joinL 25 a b).length * 64 ≤ 140737488351232 := by have := joinL_len 25 a b; omega
  have hbig : a.length + b.length ≤ 4611686018427387904 := by omega
  have fj := joinL_fit (⟨by decide, by decide⟩ : fI 25) fa fb hbig
  have B1 := galloc (Below.refl w.heap.size w) (.cells #[.slice sa L.length sc] 24)
  have B2 := galloc B1 (.cells #[.slice ai q.items.length ci, .int .i64 q.mode, .int .i64 q.after, .slice aw q.wh.length cw, .int .i64 q.within, .string q.by_, .slice ar q.ret.length cr] 31)
  have B3 := galloc B2 (.cells #[.slice al E.lists.length cl, .int .i64 E.each, .int .i64 E.at_] 49)
  have k1 := ((Bk.new w #[.slice sa L.length sc] 24).alloc (.cells #[.slice ai q.items.length ci, .int .i64 q.mode, .int .i64 q.after, .slice aw q.wh.length cw, .int .i64 q.within, .string q.by_, .slice ar q.ret.length cr] 31)).alloc (.cells #[.slice al E.lists.length cl, .int .i64 E.each, .int .i64 E.at_] 49)
  have k2 := (Bk.newE (w := w.alloc (.cells #[.slice sa L.length sc] 24)) (g := w.heap.size + 1) (by simp) #[.slice ai q.items.length ci, .int .i64 q.mode, .int .i64 q.after, .slice aw q.wh.length cw, .int .i64 q.within, .string q.by_, .slice ar q.ret.length cr] 31).alloc (.cells #[.slice al E.lists.length cl, .int .i64 E.each, .int .i64 E.at_] 49)
  have k3 := Bk.newE (w := (w.alloc (.cells #[.slice sa L.length sc] 24)).alloc (.cells #[.slice ai q.items.length ci, .int .i64 q.mode, .int .i64 q.after, .slice aw q.wh.length cw, .int .i64 q.within, .string q.by_, .slice ar q.ret.length cr] 31)) (g := w.heap.size + 2) (by simp) #[.slice al E.lists.length cl, .int .i64 E.each, .int .i64 E.at_] 49
  go_enter Tryd.func6, Tryd.ntmps6
  go_upto_region 1 with fail
  generalize ((w.alloc _).alloc _).alloc _ = V at *
  obtain ⟨q0, q1, q2, q3, q4, q5, q6⟩ := k2.at7
  have c1 := qBeyond_any q hq _ ai ci aw cw ar cr V (AQ.keep B3)
  have cj := fun (u : World) (g : Below w.heap.size w u) => joined_any 25 a b ao ca bo cb u hno (NA.keep g) (NB.keep g) hab
  obtain ⟨J, hJ⟩ : ∃ J, joinL 25 a b = J := ⟨_, rfl⟩
  have HJ := show Hid (_ = _) from hJ
  rw [hJ] at cj hjl fj
  obtain ⟨jn, hjn⟩ : ∃ n, J.length = n := ⟨_, rfl⟩
  clear hJ
  have c2 := fun (u : World) (vo : Option Addr) (vc : Nat) (g : IsNds u vo J) => beyond_any J vo vc u g hjl fj
  rw [hjn] at cj c2
  have c3 := fun (u : World) (g : Below w.heap.size w u) => beyond7_any E.lists al cl u (IE.n.keep g) (by omega) (fun k => by have := hEl k; omega)
  have nd9 : ∀ (u : World) (bb : Nat) (vo : Option Addr) (vc : Nat), u.ownsRow bb 72 6 (.slice vo jn vc) jn (ndsV J) → IsNds u vo J := fun u bb vo vc O => by
    rw [← hjn] at O
    exact nds_of_own O
  go_upto_region 3 with (first
    | (go_at_call 7; (with_reducible refine c1.mono ?_); rintro e u1 ⟨bb, rfl, g1⟩; have G1 := gtrans B3 g1; have Q3 := k3.keep g1; obtain ⟨t0, t1, t2⟩ := Q3.at3; have cj1 := cj _ G1; cases bb)
    | (go_at_call 25; (with_reducible refine cj1.mono ?_); rintro e u2 ⟨v2, rfl, O2, g2⟩; obtain ⟨vo, vc, rfl, _, _, _⟩ := own_form O2; have G2 := gtrans G1 g2; have c22 := c2 u2 vo vc (nd9 _ _ _ _ O2))
    | (go_at_call 8; (with_reducible refine c22.mono ?_); rintro e u3 ⟨bb, rfl, g3⟩; have G3 := gtrans G2 g3; have P3 := (Q3.keep g2).keep g3; obtain ⟨s0, s1, s2⟩ := P3.at3; cases bb)
    | (go_at_call 20; (with_reducible refine (c3 _ G3).mono ?_); rintro e u4 ⟨⟨bb, rfl, hbb⟩, rfl⟩; cases bb))
  all_goals try (go_ret; (first | exact ⟨rfl, G1⟩ | exact ⟨rfl, G3⟩))
  have hE := hE0 (hbb (by first | trivial | rfl))
  have cw9 := awake_any _ (K.keep G3) (T.keep G3)
  go_upto_region 5 with (first
    | (go_at_call 21; (with_reducible refine cw9.mono ?_); rintro e u5 ⟨rfl, g5⟩))
  have G5 := gtrans G3 g5
  have j1 := (((k1.keep g1).keep g2).keep g3).keep g5
  have j2 := (((k2.keep g1).keep g2).keep g3).keep g5
  have j3 := (((k3.keep g1).keep g2).keep g3).keep g5
  -- behind awake
  have K5 := K.keep G5
  have T5 := T.keep G5
  have A5 := A.keep G5
  have Q5 := AQ.keep G5
  have NA5 := NA.keep G5
  have NB5 := NB.keep G5
  have I5 := IE.keep G5
  have cNa := fun (u : World) (g : Below u5.heap.size u5 u) => runnable_any q hq a ao ca _ ai ci aw cw ar cr u (K5.keep g) (Q5.keep g) (NA5.keep g) hra fa
  have cNb := fun (u : World) (g : Below u5.heap.size u5 u) => runnable_any q hq b bo cb _ ai ci aw cw ar cr u (K5.keep g) (Q5.keep g) (NB5.keep g) hrb fb
  have cTa := fun (u : World) (g : Below u5.heap.size u5 u) => IsTruth_any a ao ca u (NA5.keep g) hra
  have cTb := fun (u : World) (g : Below u5.heap.size u5 u) => IsTruth_any b bo cb u (NB5.keep g) hrb
  have cEa := fun (u : World) (g : Below u5.heap.size u5 u) => eval_any sa sc L q hq _ ai ci aw cw ar cr a ao ca E al cl u (K5.keep g) (T5.keep g) (A5.keep g) (Q5.keep g) (NA5.keep g) (I5.keep g) fa hra hE
  have cCa := fun (u : World) (g : Below u5.heap.size u5 u) => Calls.mono (compile_any sa sc L q hq _ ai ci aw cw ar cr a ao ca u (K5.keep g) (A5.keep g) (Q5.keep g) (NA5.keep g) fa hra hL) fun e w' h => h.pr
  obtain ⟨ra, hra9⟩ : ∃ x, runB (itemF q.items q.items.length) a = x := ⟨_, rfl⟩
  obtain ⟨rb, hrb9⟩ : ∃ x, runB (itemF q.items q.items.length) b = x := ⟨_, rfl⟩
  obtain ⟨ta, hta⟩ : ∃ x, lastT a = x := ⟨_, rfl⟩
  obtain ⟨tb, htb⟩ : ∃ x, lastT b = x := ⟨_, rfl⟩
  have HRA := show Hid (_ = _) from hra9
  have HRB := show Hid (_ = _) from hrb9
  have HTA := show Hid (_ = _) from hta
  have HTB := show Hid (_ = _) from htb
  rw [hra9] at cNa
  rw [hrb9] at cNb
  rw [hta] at cTa
  rw [htb] at cTb
  clear k1 k2 k3 g1 g2 g3 g5 G1 G2 G3 c1 c2 c22 c3 cw9 q0 q1 q2 q3 q4 q5 q6 t0 t1 t2 s0 s1 s2 Q3 P3 hbb B1 B2 B3 A AQ IE K T cj cj1 O2 NA NB hra9 hrb9 hta htb HJ hjl fj nd9
  obtain ⟨q0, q1, q2, q3, q4, q5, q6⟩ := j2.at7
  have cNa5 := cNa u5 (Below.refl _ _)
  cases ra with
  | false =>
    go_wp2_with (first
      | (go_at_call 23; (with_reducible refine cNa5.mono ?_); rintro e u6 ⟨rfl, g6⟩; have cNb6 := cNb u6 g6; have z2 := j2.keep g6; obtain ⟨y0, y1, y2, y3, y4, y5, y6⟩ := z2.at7)
      | (go_at_call 23; (with_reducible refine cNb6.mono ?_); rintro e u7 ⟨rfl, g7⟩; have g67 := gtrans g6 g7; have cTa7 := cTa u7 g67)
      | (go_at_call 26; (with_reducible refine cTa7.mono ?_); rintro e u8 ⟨rfl, g8⟩; have g68 := gtrans g67 g8; have cTb8 := cTb u8 g68)
      | (go_at_call 26; (with_reducible refine cTb8.mono ?_); rintro e u9 ⟨rfl, g9⟩; have g69 := gtrans g68 g9))
    go_ret
    exact ⟨rfl, gtrans G5 g6⟩
  | true =>
  cases rb with
  | false =>
    go_wp2_with (first
      | (go_at_call 23; (with_reducible refine cNa5.mono ?_); rintro e u6 ⟨rfl, g6⟩; have cNb6 := cNb u6 g6; have z2 := j2.keep g6; obtain ⟨y0, y1, y2, y3, y4, y5, y6⟩ := z2.at7)
      | (go_at_call 23; (with_reducible refine cNb6.mono ?_); rintro e u7 ⟨rfl, g7⟩; have g67 := gtrans g6 g7; have cTa7 := cTa u7 g67)
      | (go_at_call 26; (with_reducible refine cTa7.mono ?_); rintro e u8 ⟨rfl, g8⟩; have g68 := gtrans g67 g8; have cTb8 := cTb u8 g68)
      | (go_at_call 26; (with_reducible refine cTb8.mono ?_); rintro e u9 ⟨rfl, g9⟩; have g69 := gtrans g68 g9))
    go_ret
    exact ⟨rfl, gtrans G5 g67⟩
  | true =>
  cases ta with
  | false =>
    go_wp2_with (first
      | (go_at_call 23; (with_reducible refine cNa5.mono ?_); rintro e u6 ⟨rfl, g6⟩; have cNb6 := cNb u6 g6; have z2 := j2.keep g6; obtain ⟨y0, y1, y2, y3, y4, y5, y6⟩ := z2.at7)
      | (go_at_call 23; (with_reducible refine cNb6.mono ?_); rintro e u7 ⟨rfl, g7⟩; have g67 := gtrans g6 g7; have cTa7 := cTa u7 g67)
      | (go_at_call 26; (with_reducible refine cTa7.mono ?_); rintro e u8 ⟨rfl, g8⟩; have g68 := gtrans g67 g8; have cTb8 := cTb u8 g68)
      | (go_at_call 26; (with_reducible refine cTb8.mono ?_); rintro e u9 ⟨rfl, g9⟩; have g69 := gtrans g68 g9))
    go_ret
    exact ⟨rfl, gtrans G5 g68⟩
  | true =>
  cases tb with
  | false =>
    go_wp2_with (first
      | (go_at_call 23; (with_reducible refine cNa5.mono ?_); rintro e u6 ⟨rfl, g6⟩; have cNb6 := cNb u6 g6; have z2 := j2.keep g6; obtain ⟨y0, y1, y2, y3, y4, y5, y6⟩ := z2.at7)
      | (go_at_call 23; (with_reducible refine cNb6.mono ?_); rintro e u7 ⟨rfl, g7⟩; have g67 := gtrans g6 g7; have cTa7 := cTa u7 g67)
      | (go_at_call 26; (with_reducible refine cTa7.mono ?_); rintro e u8 ⟨rfl, g8⟩; have g68 := gtrans g67 g8; have cTb8 := cTb u8 g68)
      | (go_at_call 26; (with_reducible refine cTb8.mono ?_); rintro e u9 ⟨rfl, g9⟩; have g69 := gtrans g68 g9))
    go_ret
    exact ⟨rfl, gtrans G5 g69⟩
  | true =>
  obtain ⟨op, hop⟩ : ∃ op : Int, op = (if orb = true then 26 else 25) := ⟨_, rfl⟩
  have ho : op = 25 ∨ op = 26 := by rw [hop]; cases orb <;> simp
  have HOP := show Hid (_ = _) from hop
  go_upto_if 55 with (first
      | (go_at_call 23; (with_reducible refine cNa5.mono ?_); rintro e u6 ⟨rfl, g6⟩; have cNb6 := cNb u6 g6; have z2 := j2.keep g6; obtain ⟨y0, y1, y2, y3, y4, y5, y6⟩ := z2.at7)
      | (go_at_call 23; (with_reducible refine cNb6.mono ?_); rintro e u7 ⟨rfl, g7⟩; have g67 := gtrans g6 g7; have cTa7 := cTa u7 g67)
      | (go_at_call 26; (with_reducible refine cTa7.mono ?_); rintro e u8 ⟨rfl, g8⟩; have g68 := gtrans g67 g8; have cTb8 := cTb u8 g68)
      | (go_at_call 26; (with_reducible refine cTb8.mono ?_); rintro e u9 ⟨rfl, g9⟩; have g69 := gtrans g68 g9))
  go_cut [13] from 13 to 13 (fun s wx => s = .int .i64 op ∧ wx = u9)
  case first =>
    cases orb with
    | true =>
      have e9 : op = 26 := hop
      subst e9
      clear hop
      go_wp2
      go_meet
      case rel => exact ⟨rfl, rfl⟩
    | false =>
      have e9 : op = 25 := hop
      subst e9
      clear hop
      go_wp2
      go_meet
      case rel => exact ⟨rfl, rfl⟩
  case rest =>
    obtain ⟨rfl, hwx⟩ := hcut
    have hwx' := hwx.symm
    subst hwx'
    clear hwx hop
    have G9 := gtrans G5 g69
    have a1 := j1.keep g69
    have a2 := j2.keep g69
    have a3 := j3.keep g69
    have cJ0 := fun (u : World) (g : Below u9.heap.size u9 u) => joined_any op a b ao ca bo cb u hno (NA5.keep (gtrans g69 g)) (NB5.keep (gtrans g69 g)) hab
    obtain ⟨J2, hJ2⟩ : ∃ J, joinL op a b = J := ⟨_, rfl⟩
    have fj2 : ∀ k, (J2.getD k noNd).fit := by rw [← hJ2]; exact joinL_fit (by rcases ho with rfl | rfl <;> exact ⟨by decide, by decide⟩) fa fb hbig
    have hjl2 : J2.length * 64 ≤ 140737488351232 := by rw [← hJ2]; have := joinL_len op a b; omega
    obtain ⟨jn2, hjn2⟩ : ∃ n, J2.length = n := ⟨_, rfl⟩
    rw [hJ2, hjn2] at cJ0
    have cJ := cJ0
    have cC0 := fun (u : World) (g : Below u9.heap.size u9 u) (vo : Option Addr) (vc : Nat) (N : IsNds u vo J2) => Calls.mono (compile_any sa sc L q hq _ ai ci aw cw ar cr J2 vo vc u (K5.keep (gtrans g69 g)) (A5.keep (gtrans g69 g)) (Q5.keep (gtrans g69 g)) N fj2 hjl2 hL) fun e w' h => h.pr
    have HSK : Hid ((cmpG L q a).code.length + 1 < (cmpG L q J2).code.length ∧ ∀ C : List Ins, C.length = (cmpG L q J2).code.length → (∀ j, j ≤ (cmpG L q a).code.length → C.getD j noIn = (cmpG L q J2).code.getD j noIn) → C.getD ((cmpG L q a).code.length + 1) noIn = ⟨99, 0, 0, 0, 0⟩ → runW C (cmpG L q J2).cols E 0 [] = if jmpB op (evalV L q E a) = true then (evalV L q E a, 0) else (noV2, 70)) := by
      rw [← hJ2]
      exact skip_prog L q E HRA.out HRB.out ho HTA.out HTB.out hbig
    have okG := cmpG_ok L q fj2 hjl2 hL
    obtain ⟨G, hG⟩ : ∃ G, cmpG L q J2 = G := ⟨_, rfl⟩
    obtain ⟨gn, hgn⟩ : ∃ n, G.code.length = n := ⟨_, rfl⟩
    obtain ⟨gm, hgm⟩ : ∃ n, G.cols.length = n := ⟨_, rfl⟩
    obtain ⟨an9, han⟩ : ∃ n, (cmpG L q a).code.length = n := ⟨_, rfl⟩
    obtain ⟨am9, ham⟩ : ∃ n, (cmpG L q a).cols.length = n := ⟨_, rfl⟩
    obtain ⟨⟨xk, xn⟩, hxa⟩ : ∃ x, evalV L q E a = x := ⟨_, rfl⟩
    unfold prgA at cC0 cCa
    rw [hG] at okG HSK
    rw [hG, hgn, hgm, hjn2] at cC0
    rw [hgn, han, hxa] at HSK
    rw [hxa] at cEa
    rw [han, ham] at cCa
    have cC := cC0
    have nd2 : ∀ (u : World) (bb : Nat) (vo : Option Addr) (vc : Nat), u.ownsRow bb 72 6 (.slice vo jn2 vc) jn2 (ndsV J2) → IsNds u vo J2 := fun u bb vo vc O => by
      rw [← hjn2] at O
      exact nds_of_own O
    clear j1 j2 j3 q0 q1 q2 q3 q4 q5 q6 y0 y1 y2 y3 y4 y5 y6 z2 cJ0 cC0 cNa cNb cTa cTb cNa5 cNb6 cTa7 cTb8 NA5 NB5 hG hJ2 han ham hxa
    go_upto_region 10 with fail
    go_cut [14] from 56 to 62 (fun s14 wx => ∃ bq pi pci pc pcc ws, s14 = .pointer (some ⟨bq, 0, none⟩) ∧ Bk wx bq #[.slice pi gn pci, .slice pc gm pcc] 40 ∧ wx.ownsRow u9.heap.size 67 5 (.slice pi gn pci) gn (fl insC G.code) ∧ ONst wx u9.heap.size 70 3 1 intC (.slice pc gm pcc) G.cols ws ∧ Below u9.heap.size u9 wx)
    case first =>
      have c0 := a1.one1
      obtain ⟨q0, q1, q2, q3, q4, q5, q6⟩ := a2.at7
      have hne0 : Nonempty (Ext u9) := ⟨⟨_, Below.refl _ _⟩⟩
      have p3 := fun z : Ext u9 => (z.cell _ _ (lt_of_cell q0)).trans q0
      have p4 := fun z : Ext u9 => (z.cell _ _ (lt_of_cell q1)).trans q1
      have p5 := fun z : Ext u9 => (z.cell _ _ (lt_of_cell q2)).trans q2
      have p6 := fun z : Ext u9 => (z.cell _ _ (lt_of_cell q3)).trans q3
      have p7 := fun z : Ext u9 => (z.cell _ _ (lt_of_cell q4)).trans q4
      have p8 := fun z : Ext u9 => (z.cell _ _ (lt_of_cell q5)).trans q5
      have p9 := fun z : Ext u9 => (z.cell _ _ (lt_of_cell q6)).trans q6
      have pa := fun z : Ext u9 => (z.cell _ _ (lt_of_cell c0)).trans c0
      refine wp_region_held (S := fun X => ∃ n : Ext u9, X = n.X) (by kernel_rfl) ?_
      have hX0 : Below u9.heap.size u9 { u9 with drawn := u9.drawn + 1 } := (Below.refl _ u9).drew
      obtain ⟨X, hXe⟩ : ∃ X, { u9 with drawn := u9.drawn + 1 } = X := ⟨_, rfl⟩
      have hX : Below u9.heap.size u9 X := hXe ▸ hX0
      rw [hXe]
      clear hX0 hXe
      refine anyH_pick (g := 4) [0, 1, 2, 3, 4] (by kernel_rfl) (fun c a d v w h => by cases d <;> exact h) ⟨⟨X, hX⟩, rfl⟩ rfl (by kernel_rfl) ?_
      simp only [pickL, List.filterMap_cons, List.filterMap_nil, List.getElem?_toArray, List.getElem?_cons_zero, List.getElem?_cons_succ]
      refine (show wpQuiet _ _ _ _ [_, _, _, _, _] _ from ?_)
      repeat (go_big_quiet_step (fail))
      refine wpQuiet_nil ?_
      refine wpAnyH_all (rs := [5, 7]) (by kernel_rfl) (by decide) ?_
      intro i hi
      simp only [List.mem_cons, List.not_mem_nil, or_false] at hi
      rcases hi with rfl | rfl
      · refine wpOp_callG (some 61) rfl rfl rfl 25 #[.int .i64 op, .slice ao a.length ca, .slice bo b.length cb] (by kernel_rfl) _ (cJ X hX) ?_
        rintro e Y ⟨v9, rfl, O9, gY⟩
        obtain ⟨vo, vc, rfl, _, _, _⟩ := own_form O9
        have N9 := nd2 _ _ _ _ O9
        have hY := hX.trans (gY.mono hX.size)
        refine ⟨_, rfl, ⟨⟨Y, hY⟩, rfl⟩, ?_⟩
        simp only [Act.put, List.setIfInBounds_toArray, List.set_cons_succ, List.set_cons_zero]
        refine wpAnyH_all (rs := [6, 7]) (by kernel_rfl) (by decide) ?_
        intro i hi
        simp only [List.mem_cons, List.not_mem_nil, or_false] at hi
        rcases hi with rfl | rfl
        · refine wpOp_callG (some 62) rfl rfl rfl 13 #[.agg #[.slice sa L.length sc], .agg #[.slice ai q.items.length ci, .int .i64 q.mode, .int .i64 q.after, .slice aw q.wh.length cw, .int .i64 q.within, .string q.by_, .slice ar q.ret.length cr], .slice vo jn2 vc] (by kernel_rfl) _ (cC Y hY vo vc N9) ?_
          rintro e Z ⟨pi, pci, pc, pcc, ws, rfl, IPZ, gZ, OZ, PZ9⟩
          have hZ := hY.trans (gZ.mono hY.size)
          have OZ1 := World.ownsRow.mono OZ (show u9.heap.size ≤ _ from hY.size)
          have PZ1 := PZ9.mono (show u9.heap.size ≤ _ from hY.size)
          refine ⟨_, rfl, ⟨⟨Z, hZ⟩, rfl⟩, ?_⟩
          simp only [Act.put, List.setIfInBounds_toArray, List.set_cons_succ, List.set_cons_zero]
          refine wpAnyH_all (rs := [7]) (by kernel_rfl) (by decide) ?_
          intro i hi
          simp only [List.mem_cons, List.not_mem_nil, or_false] at hi
          subst hi
          refine wpOp_val (v := .pointer (some ⟨Z.heap.size, 0, none⟩)) (w' := Z.alloc (.cells #[.slice none 0 0, .slice none 0 0] 40)) (some 14) rfl rfl rfl (by kernel_rfl) ?_
          have alZ1 := galloc (Below.refl Z.heap.size Z) (.cells #[.slice none 0 0, .slice none 0 0] 40)
          have hZ1 := hZ.trans (alZ1.mono hZ.size)
          have bZ1 := Bk.new Z #[.slice none 0 0, .slice none 0 0] 40
          refine ⟨⟨⟨_, hZ1⟩, rfl⟩, ?_⟩
          simp only [Act.put, List.setIfInBounds_toArray, List.set_cons_succ, List.set_cons_zero]
          refine wpAnyH_all (rs := [8]) (by kernel_rfl) (by decide) ?_
          intro i hi
          simp only [List.mem_cons, List.not_mem_nil, or_false] at hi
          subst hi
          have tt : World.there (Z.alloc (.cells #[.slice none 0 0, .slice none 0 0] 40)) Z.heap.size 0 2 := fun j hj => by
            rcases (show j = 0 ∨ j = 1 by omega) with rfl | rfl
            · exact ⟨by rw [Nat.add_zero, bZ1.at2.1]; rfl, bZ1.free _⟩
            · exact ⟨by rw [Nat.zero_add, bZ1.at2.2]; rfl, bZ1.free _⟩
          have hW2 : Below u9.heap.size u9 (World.setCells (Z.alloc (.cells #[.slice none 0 0, .slice none 0 0] 40)) Z.heap.size 0 [.slice pi gn pci, .slice pc gm pcc]) := gsetCells hZ1 (show u9.heap.size ≤ Z.heap.size by have := hZ1.size; have := hZ.size; omega) _ _
          have bW2 : Bk (World.setCells (Z.alloc (.cells #[.slice none 0 0, .slice none 0 0] 40)) Z.heap.size 0 [.slice pi gn pci, .slice pc gm pcc]) Z.heap.size #[.slice pi gn pci, .slice pc gm pcc] 40 := Bk.setCells (cs' := #[.slice pi gn pci, .slice pc gm pcc]) bZ1 rfl
          have oW2 : World.ownsRow (World.setCells (Z.alloc (.cells #[.slice none 0 0, .slice none 0 0] 40)) Z.heap.size 0 [.slice pi gn pci, .slice pc gm pcc]) u9.heap.size 67 5 (.slice pi gn pci) gn (fl insC G.code) := ty_set (ty_set (own_keep OZ1 alZ1) bZ1 (by decide) 0 (.slice pi gn pci)) (bZ1.set 0 (.slice pi gn pci)) (by decide) 1 (.slice pc gm pcc)
          have nW2 : ONst (World.setCells (Z.alloc (.cells #[.slice none 0 0, .slice none 0 0] 40)) Z.heap.size 0 [.slice pi gn pci, .slice pc gm pcc]) u9.heap.size 70 3 1 intC (.slice pc gm pcc) G.cols ws := ((PZ1.keep alZ1).map (u := World.setCell (Z.alloc (.cells #[.slice none 0 0, .slice none 0 0] 40)) ⟨Z.heap.size, 0, none⟩ (.slice pi gn pci)) fun e s1 v n xs he o => ty_set o bZ1 (by rcases he with rfl | rfl <;> decide) 0 _).map (u := World.setCells (Z.alloc (.cells #[.slice none 0 0, .slice none 0 0] 40)) Z.heap.size 0 [.slice pi gn pci, .slice pc gm pcc]) fun e s1 v n xs he o => ty_set o (bZ1.set 0 (.slice pi gn pci)) (by rcases he with rfl | rfl <;> decide) 1 _
          refine wpOp_store none rfl rfl rfl 40 (.tmp 14) (.tmp 62) rfl Z.heap.size 0 #[.slice pi gn pci, .slice pc gm pcc] rfl rfl tt (by kernel_rfl) (by kernel_rfl) ?_
          refine ⟨⟨⟨_, hW2⟩, rfl⟩, ?_⟩
          simp only [Act.put, List.setIfInBounds_toArray, List.set_cons_succ, List.set_cons_zero]
          refine wpAnyH_done (by kernel_rfl) ?_ _
          try simp only [Exit.then]
          go_step
          go_meet
          case rel => exact ⟨Z.heap.size, pi, pci, pc, pcc, ws, rfl, bW2, oW2, nW2, hW2⟩
        · refine wpOp_val (v := .pointer (some ⟨Y.heap.size, 0, none⟩)) (w' := Y.alloc (.cells #[.slice none 0 0, .slice none 0 0] 40)) (some 14) rfl rfl rfl (by kernel_rfl) ?_
          have alY1 := galloc (Below.refl Y.heap.size Y) (.cells #[.slice none 0 0, .slice none 0 0] 40)
          have hY1 := hY.trans (alY1.mono hY.size)
          have bY1 := Bk.new Y #[.slice none 0 0, .slice none 0 0] 40
          refine ⟨⟨⟨_, hY1⟩, rfl⟩, ?_⟩
          simp only [Act.put, List.setIfInBounds_toArray, List.set_cons_succ, List.set_cons_zero]
          refine wpAnyH_all (rs := [6]) (by kernel_rfl) (by decide) ?_
          intro i hi
          simp only [List.mem_cons, List.not_mem_nil, or_false] at hi
          subst hi
          refine wpOp_callG (some 62) rfl rfl rfl 13 #[.agg #[.slice sa L.length sc], .agg #[.slice ai q.items.length ci, .int .i64 q.mode, .int .i64 q.after, .slice aw q.wh.length cw, .int .i64 q.within, .string q.by_, .slice ar q.ret.length cr], .slice vo jn2 vc] (by kernel_rfl) _ (cC (Y.alloc (.cells #[.slice none 0 0, .slice none 0 0] 40)) hY1 vo vc (N9.keep alY1)) ?_
          rintro e Z ⟨pi, pci, pc, pcc, ws, rfl, IPZ, gZ, OZ, PZ9⟩
          have hZ := hY1.trans (gZ.mono hY1.size)
          have OZ1 := World.ownsRow.mono OZ (show u9.heap.size ≤ _ from hY1.size)
          have PZ1 := PZ9.mono (show u9.heap.size ≤ _ from hY1.size)
          refine ⟨_, rfl, ⟨⟨Z, hZ⟩, rfl⟩, ?_⟩
          simp only [Act.put, List.setIfInBounds_toArray, List.set_cons_succ, List.set_cons_zero]
          refine wpAnyH_all (rs := [8]) (by kernel_rfl) (by decide) ?_
          intro i hi
          simp only [List.mem_cons, List.not_mem_nil, or_false] at hi
          subst hi
          have tt : World.there Z Y.heap.size 0 2 := fun j hj => by
            rcases (show j = 0 ∨ j = 1 by omega) with rfl | rfl
            · exact ⟨by rw [Nat.add_zero, (bY1.keep gZ).at2.1]; rfl, (bY1.keep gZ).free _⟩
            · exact ⟨by rw [Nat.zero_add, (bY1.keep gZ).at2.2]; rfl, (bY1.keep gZ).free _⟩
          have hW2 : Below u9.heap.size u9 (World.setCells Z Y.heap.size 0 [.slice pi gn pci, .slice pc gm pcc]) := gsetCells hZ (show u9.heap.size ≤ Y.heap.size by have := hZ.size; have := hY.size; omega) _ _
          have bW2 : Bk (World.setCells Z Y.heap.size 0 [.slice pi gn pci, .slice pc gm pcc]) Y.heap.size #[.slice pi gn pci, .slice pc gm pcc] 40 := Bk.setCells (cs' := #[.slice pi gn pci, .slice pc gm pcc]) (bY1.keep gZ) rfl
          have oW2 : World.ownsRow (World.setCells Z Y.heap.size 0 [.slice pi gn pci, .slice pc gm pcc]) u9.heap.size 67 5 (.slice pi gn pci) gn (fl insC G.code) := ty_set (ty_set OZ1 (bY1.keep gZ) (by decide) 0 (.slice pi gn pci)) ((bY1.keep gZ).set 0 (.slice pi gn pci)) (by decide) 1 (.slice pc gm pcc)
          have nW2 : ONst (World.setCells Z Y.heap.size 0 [.slice pi gn pci, .slice pc gm pcc]) u9.heap.size 70 3 1 intC (.slice pc gm pcc) G.cols ws := (PZ1.map (u := World.setCell Z ⟨Y.heap.size, 0, none⟩ (.slice pi gn pci)) fun e s1 v n xs he o => ty_set o (bY1.keep gZ) (by rcases he with rfl | rfl <;> decide) 0 _).map (u := World.setCells Z Y.heap.size 0 [.slice pi gn pci, .slice pc gm pcc]) fun e s1 v n xs he o => ty_set o ((bY1.keep gZ).set 0 (.slice pi gn pci)) (by rcases he with rfl | rfl <;> decide) 1 _
          refine wpOp_store none rfl rfl rfl 40 (.tmp 14) (.tmp 62) rfl Y.heap.size 0 #[.slice pi gn pci, .slice pc gm pcc] rfl rfl tt (by kernel_rfl) (by kernel_rfl) ?_
          refine ⟨⟨⟨_, hW2⟩, rfl⟩, ?_⟩
          simp only [Act.put, List.setIfInBounds_toArray, List.set_cons_succ, List.set_cons_zero]
          refine wpAnyH_done (by kernel_rfl) ?_ _
          try simp only [Exit.then]
          go_step
          go_meet
          case rel => exact ⟨Y.heap.size, pi, pci, pc, pcc, ws, rfl, bW2, oW2, nW2, hW2⟩
      · refine wpOp_val (v := .pointer (some ⟨X.heap.size, 0, none⟩)) (w' := X.alloc (.cells #[.slice none 0 0, .slice none 0 0] 40)) (some 14) rfl rfl rfl (by kernel_rfl) ?_
        have alX1 := galloc (Below.refl X.heap.size X) (.cells #[.slice none 0 0, .slice none 0 0] 40)
        have hX1 := hX.trans (alX1.mono hX.size)
        have bX1 := Bk.new X #[.slice none 0 0, .slice none 0 0] 40
        refine ⟨⟨⟨_, hX1⟩, rfl⟩, ?_⟩
        simp only [Act.put, List.setIfInBounds_toArray, List.set_cons_succ, List.set_cons_zero]
        refine wpAnyH_all (rs := [5]) (by kernel_rfl) (by decide) ?_
        intro i hi
        simp only [List.mem_cons, List.not_mem_nil, or_false] at hi
        subst hi
        refine wpOp_callG (some 61) rfl rfl rfl 25 #[.int .i64 op, .slice ao a.length ca, .slice bo b.length cb] (by kernel_rfl) _ (cJ (X.alloc (.cells #[.slice none 0 0, .slice none 0 0] 40)) hX1) ?_
        rintro e Y ⟨v9, rfl, O9, gY⟩
        obtain ⟨vo, vc, rfl, _, _, _⟩ := own_form O9
        have N9 := nd2 _ _ _ _ O9
        have hY := hX1.trans (gY.mono hX1.size)
        refine ⟨_, rfl, ⟨⟨Y, hY⟩, rfl⟩, ?_⟩
        simp only [Act.put, List.setIfInBounds_toArray, List.set_cons_succ, List.set_cons_zero]
        refine wpAnyH_all (rs := [6]) (by kernel_rfl) (by decide) ?_
        intro i hi
        simp only [List.mem_cons, List.not_mem_nil, or_false] at hi
        subst hi
        refine wpOp_callG (some 62) rfl rfl rfl 13 #[.agg #[.slice sa L.length sc], .agg #[.slice ai q.items.length ci, .int .i64 q.mode, .int .i64 q.after, .slice aw q.wh.length cw, .int .i64 q.within, .string q.by_, .slice ar q.ret.length cr], .slice vo jn2 vc] (by kernel_rfl) _ (cC Y hY vo vc N9) ?_
        rintro e Z ⟨pi, pci, pc, pcc, ws, rfl, IPZ, gZ, OZ, PZ9⟩
        have hZ := hY.trans (gZ.mono hY.size)
        have OZ1 := World.ownsRow.mono OZ (show u9.heap.size ≤ _ from hY.size)
        have PZ1 := PZ9.mono (show u9.heap.size ≤ _ from hY.size)
        refine ⟨_, rfl, ⟨⟨Z, hZ⟩, rfl⟩, ?_⟩
        simp only [Act.put, List.setIfInBounds_toArray, List.set_cons_succ, List.set_cons_zero]
        refine wpAnyH_all (rs := [8]) (by kernel_rfl) (by decide) ?_
        intro i hi
        simp only [List.mem_cons, List.not_mem_nil, or_false] at hi
        subst hi
        have tt : World.there Z X.heap.size 0 2 := fun j hj => by
          rcases (show j = 0 ∨ j = 1 by omega) with rfl | rfl
          · exact ⟨by rw [Nat.add_zero, ((bX1.keep gY).keep gZ).at2.1]; rfl, ((bX1.keep gY).keep gZ).free _⟩
          · exact ⟨by rw [Nat.zero_add, ((bX1.keep gY).keep gZ).at2.2]; rfl, ((bX1.keep gY).keep gZ).free _⟩
        have hW2 : Below u9.heap.size u9 (World.setCells Z X.heap.size 0 [.slice pi gn pci, .slice pc gm pcc]) := gsetCells hZ (show u9.heap.size ≤ X.heap.size by have := hZ.size; have := hX.size; omega) _ _
        have bW2 : Bk (World.setCells Z X.heap.size 0 [.slice pi gn pci, .slice pc gm pcc]) X.heap.size #[.slice pi gn pci, .slice pc gm pcc] 40 := Bk.setCells (cs' := #[.slice pi gn pci, .slice pc gm pcc]) ((bX1.keep gY).keep gZ) rfl
        have oW2 : World.ownsRow (World.setCells Z X.heap.size 0 [.slice pi gn pci, .slice pc gm pcc]) u9.heap.size 67 5 (.slice pi gn pci) gn (fl insC G.code) := ty_set (ty_set OZ1 ((bX1.keep gY).keep gZ) (by decide) 0 (.slice pi gn pci)) (((bX1.keep gY).keep gZ).set 0 (.slice pi gn pci)) (by decide) 1 (.slice pc gm pcc)
        have nW2 : ONst (World.setCells Z X.heap.size 0 [.slice pi gn pci, .slice pc gm pcc]) u9.heap.size 70 3 1 intC (.slice pc gm pcc) G.cols ws := (PZ1.map (u := World.setCell Z ⟨X.heap.size, 0, none⟩ (.slice pi gn pci)) fun e s1 v n xs he o => ty_set o ((bX1.keep gY).keep gZ) (by rcases he with rfl | rfl <;> decide) 0 _).map (u := World.setCells Z X.heap.size 0 [.slice pi gn pci, .slice pc gm pcc]) fun e s1 v n xs he o => ty_set o (((bX1.keep gY).keep gZ).set 0 (.slice pi gn pci)) (by rcases he with rfl | rfl <;> decide) 1 _
        refine wpOp_store none rfl rfl rfl 40 (.tmp 14) (.tmp 62) rfl X.heap.size 0 #[.slice pi gn pci, .slice pc gm pcc] rfl rfl tt (by kernel_rfl) (by kernel_rfl) ?_
        refine ⟨⟨⟨_, hW2⟩, rfl⟩, ?_⟩
        simp only [Act.put, List.setIfInBounds_toArray, List.set_cons_succ, List.set_cons_zero]
        refine wpAnyH_done (by kernel_rfl) ?_ _
        try simp only [Exit.then]
        go_step
        go_meet
        case rel => exact ⟨X.heap.size, pi, pci, pc, pcc, ws, rfl, bW2, oW2, nW2, hW2⟩
    case rest =>
      obtain ⟨bq, pi, pci, pc, pcc, ws, rfl, PB, OC, NC, GW⟩ := hcut
      have d1 := a1.keep GW
      have d2 := a2.keep GW
      have d3 := a3.keep GW
      have c0 := d1.one1
      obtain ⟨q0, q1, q2, q3, q4, q5, q6⟩ := d2.at7
      obtain ⟨hsk1, hsk2⟩ := HSK.out
      have HS2 := show Hid _ from hsk2
      have hgz : gn * 40 ≤ 140737488351232 := by have := okG.n; rw [hgn] at this; exact this
      have hle : ¬ (gn : Int) ≤ (an9 : Int) + 1 := by omega
      have cCa9 := cCa wc (gtrans g69 GW)
      have skf := skF0
      clear hsk2 HSK cJ cC cCa nd2
      go_upto_region 12 with (first
        | (go_at_call 13; (with_reducible refine cCa9.mono ?_); rintro e w1 ⟨qi, qci, qc, qcc, ws2, rfl, _, h1, _, _⟩))
      obtain ⟨x0, x1⟩ := (PB.keep h1).at2
      clear c0 q0 q1 q2 q3 q4 q5 q6
      go_upto_region 15 with fail
      have PB1 := PB.keep h1
      have OC1 := own_keep OC h1
      have NC1 := NC.keep h1
      have GW1 := gtrans GW h1
      have HOK : Hid (∀ j, (G.code.getD j noIn).ok) := okG.i
      obtain ⟨g, rfl, hg1, hg2⟩ : ∃ g, pi = some ⟨g, 0, none⟩ ∧ g < w1.heap.size ∧ u9.heap.size ≤ g := by
        obtain ⟨ao', c', e', _, _, hh⟩ := own_form OC1
        rcases hh with hh | ⟨g, e4, h4, h5⟩
        · omega
        · cases e'
          exact ⟨g, e4, h4, h5⟩
      have hz9 := (d1.lt)
      clear x0 x1 d1 d2 d3 PB OC NC GW h1 cCa9 skf
      go_loopw [16] (fun x wr => SkI u9 g gn pci pc gm pcc bq an9 G ws x wr) (fun x _ => gn - (intOf x).toNat)
      case atStart => exact ⟨an9 + 1, G.code, Nat.le_refl _, by omega, by simp, hgn, fun j _ => rfl, fun j h1 h2 => by omega, HOK.out, OC1, PB1, NC1, GW1⟩
      case round =>
        obtain ⟨k, C, hk1, hk2, rfl, hCl, hC1, hC2, hC3, OK, PK, NK, GK⟩ := hrel
        obtain ⟨x0, x1⟩ := PK.at2
        by_cases hlt : k < gn
        · have hki : (k : Int) < (gn : Int) := by omega
          obtain ⟨cur, hcur⟩ : ∃ cur, Bk wr g cur 67 := by
            rcases OK.2 with ⟨h1, _⟩ | ⟨g', c2, cur, h1, _, hh, _⟩
            · cases h1
            · cases h1; exact ⟨cur, hh⟩
          have hgb : g ≠ bq := fun h => by
            subst h
            have := PK
            unfold Bk at hcur this
            rw [hcur] at this
            simp at this
          have O5 := own_put insC_sz (by rw [hCl]; exact OK) k (by omega) (⟨99, 0, 0, 0, 0⟩ : Ins)
          rw [List.length_set, hCl] at O5
          have B5 := gsetCells GK hg2 (insC ⟨99, 0, 0, 0, 0⟩).toList (k * 5)
          have hblk : ∀ j, j ≠ g → (World.setCells wr g (k * 5) (insC ⟨99, 0, 0, 0, 0⟩).toList).heap[j]? = wr.heap[j]? := fun j hj => setCells_blk g _ _ _ j hj
          have P5 : Bk (World.setCells wr g (k * 5) (insC ⟨99, 0, 0, 0, 0⟩).toList) bq #[.slice (some ⟨g, 0, none⟩) gn pci, .slice pc gm pcc] 40 := (hblk bq (fun h => hgb h.symm)).trans PK
          have N5 := NK.map (u := World.setCells wr g (k * 5) (insC ⟨99, 0, 0, 0, 0⟩).toList) fun e s1 v n xs he o => own_of_block o fun j c9 _ hh => hblk j (fun h => by
            subst h
            unfold Bk at hcur
            rw [hcur] at hh
            simp at hh
            rcases he with rfl | rfl <;> exact absurd hh.2 (by decide))
          have fin : SkI u9 g gn pci pc gm pcc bq an9 G ws (.int .i64 ((k : Int) + 1)) (World.setCells wr g (k * 5) (insC ⟨99, 0, 0, 0, 0⟩).toList) := by
            refine ⟨k + 1, C.set k ⟨99, 0, 0, 0, 0⟩, by omega, by omega, by go_num, by rw [List.length_set, hCl], fun j hj => ?_, fun j h1 h2 => ?_, fun j => ?_, O5, P5, N5, B5⟩
            · rw [List.getD_eq_getElem?_getD, List.getElem?_set_ne (by omega), ← List.getD_eq_getElem?_getD]
              exact hC1 j hj
            · by_cases e : j = k
              · subst e
                rw [List.getD_eq_getElem?_getD, List.getElem?_set_self (by omega)]
                rfl
              · rw [List.getD_eq_getElem?_getD, List.getElem?_set_ne (by omega), ← List.getD_eq_getElem?_getD]
                exact hC2 j h1 (by omega)
            · by_cases e : j = k
              · subst e
                rw [List.getD_eq_getElem?_getD, List.getElem?_set_self (by omega)]
                exact ⟨by decide, by decide⟩
              · rw [List.getD_eq_getElem?_getD, List.getElem?_set_ne (by omega), ← List.getD_eq_getElem?_getD]
                exact hC3 j
          have HF := show Hid _ from fin
          have hfl := fun i hi => fl_at insC_sz noIn C k i (by omega) hi
          have y0 := (World.ownsRow.cellAt OK (k * 5) (by omega)).trans (hfl 0 (by omega))
          have y1 := (World.ownsRow.cellAt OK (k * 5 + 1) (by omega)).trans (hfl 1 (by omega))
          have y2 := (World.ownsRow.cellAt OK (k * 5 + 2) (by omega)).trans (hfl 2 (by omega))
          have y3 := (World.ownsRow.cellAt OK (k * 5 + 3) (by omega)).trans (hfl 3 (by omega))
          have y4 := (World.ownsRow.cellAt OK (k * 5 + 4) (by omega)).trans (hfl 4 (by omega))
          have z0 := World.ownsRow.frozenAt OK (k * 5)
          have z1 := World.ownsRow.frozenAt OK (k * 5 + 1)
          have z2 := World.ownsRow.frozenAt OK (k * 5 + 2)
          have z3 := World.ownsRow.frozenAt OK (k * 5 + 3)
          have z4 := World.ownsRow.frozenAt OK (k * 5 + 4)
          replace y0 : wr.cell? ⟨g, k * 5, none⟩ = some (.int .i64 (C.getD k noIn).code) := y0
          replace y1 : wr.cell? ⟨g, k * 5 + 1, none⟩ = some (.int .i64 (C.getD k noIn).item) := y1
          replace y2 : wr.cell? ⟨g, k * 5 + 2, none⟩ = some (.int .i64 (C.getD k noIn).col) := y2
          replace y3 : wr.cell? ⟨g, k * 5 + 3, none⟩ = some (.int .i64 (C.getD k noIn).n) := y3
          replace y4 : wr.cell? ⟨g, k * 5 + 4, none⟩ = some (.int .i64 (C.getD k noIn).to) := y4
          clear fin O5 P5 N5 B5 hblk hfl hC1 hC2 hC3 OK NK hcur
          go_wp2
          go_roundw
          case rel => exact HF.out
          case measure => simp [intOf]; omega
        · obtain rfl : k = gn := by omega
          have f1 := a1.keep GK
          have f2 := a2.keep GK
          have f3 := a3.keep GK
          have c0 := f1.one1
          obtain ⟨q0, q1, q2, q3, q4, q5, q6⟩ := f2.at7
          obtain ⟨t0, t1, t2⟩ := f3.at3
          have cEa9 := cEa wr (gtrans g69 GK)
          have hrv : runV ⟨C, G.cols⟩ E = if jmpB op (xk, xn) = true then ((xk, xn), 0) else (noV2, 70) := HS2.out C hCl (fun j hj => hC1 j hj) (hC2 (an9 + 1) (by omega) hsk1)
          have HRV := show Hid (_ = _) from hrv
          clear hrv
          clear a1 a2 a3 cEa hC1 hC2 HS2
          go_upto_region 19 with (first
            | (go_at_call 22; (with_reducible refine cEa9.mono ?_); rintro e va ⟨rfl, ha⟩))
          have H7 := galloc ha (.cells #[.bool xk, .int .i64 xn] 53)
          have V7 := Bk.new va #[.bool xk, .int .i64 xn] 53
          have P7 := PK.keep H7
          have O7 := own_keep OK H7
          have N7 := NK.keep H7
          have l3 := f3.keep H7
          have G7 := gtrans GK H7
          clear c0 q0 q1 q2 q3 q4 q5 q6 t0 t1 t2 cEa9 x0 x1 PK OK NK f1 f2 f3 ha PB1 OC1 NC1
          generalize va.alloc _ = U7 at *
          obtain ⟨t0, t1, t2⟩ := l3.at3
          obtain ⟨x0, x1⟩ := P7.at2
          have hok : (⟨C, G.cols⟩ : Prg).ok := ⟨by show C.length * 40 ≤ _; rw [hCl]; exact hgz, okG.c, okG.k, hC3⟩
          rw [← hgm] at N7
          have IPr : IsPr U7 ⟨C, G.cols⟩ (some ⟨g, 0, none⟩) pci pc pcc := ⟨own_flat O7, by show Sl _ C.length _; rw [hCl]; exact own_sl O7, N7.nst, own_sl N7.own⟩
          have cR := run_any ⟨C, G.cols⟩ hok E hE (some ⟨g, 0, none⟩) pci pc pcc al cl U7 IPr (I5.keep (gtrans g69 G7)) (T5.keep (gtrans g69 G7))
          rw [HRV.out] at cR
          unfold prgA at cR
          dsimp only at cR
          rw [hCl, hgm] at cR
          have ct := fun u => true_any xk xn u
          have hpi : (an9 : Int) + 1 < (k : Int) := by omega
          obtain ⟨rb, hrb⟩ : ∃ x, (rd xk xn == 2) = x := ⟨_, rfl⟩
          have hjm : jmpB op (xk, xn) = (xk && (rb == orb)) := by
            unfold jmpB
            dsimp only
            rw [hrb, HOP.out]
            cases orb <;> rfl
          rw [hrb] at ct
          rw [hjm] at cR
          clear hjm hrb HRV HOP
          cases xk with
          | false =>
            rw [if_neg (show ¬ ((false && (rb == orb)) = true) by simp)] at cR
            unfold noV2 at cR
            unfold VA at cR
            dsimp only at cR
            go_upto_region 20 with (first
              | (go_at_call 24; (with_reducible refine cR.mono ?_); rintro e u8 ⟨rfl, g8⟩))
            have A8 := galloc g8 (.cells #[.bool false, .int .i64 0] 53)
            have GG := gtrans (gtrans G9 G7) A8
            obtain ⟨v0, v1⟩ := (V7.keep A8).at2
            obtain ⟨y0, y1⟩ := (Bk.new u8 #[.bool false, .int .i64 0] 53).at2
            clear cR t0 t1 t2 x0 x1
            generalize u8.alloc _ = U8 at *
            go_wp2
            go_ret
            exact ⟨rfl, gtrans G5 (gtrans g69 (gtrans G7 A8))⟩
          | true =>
            cases rb <;> cases orb
            all_goals
              first
                | rw [if_pos (by rfl)] at cR
                | (rw [if_neg (by decide)] at cR; unfold noV2 at cR)
              unfold VA at cR
              dsimp only at cR
            · go_upto_region 20 with (first
                | (go_at_call 24; (with_reducible refine cR.mono ?_); rintro e u8 ⟨rfl, g8⟩))
              have A8 := galloc g8 (.cells #[.bool true, .int .i64 xn] 53)
              have V8 := V7.keep A8
              have Y8 := Bk.new u8 #[.bool true, .int .i64 xn] 53
              obtain ⟨v0, v1⟩ := V8.at2
              clear cR t0 t1 t2 x0 x1
              generalize u8.alloc _ = U8 at *
              have ct8 := ct U8
              go_wp2_with (first
                | (go_at_call 30; (with_reducible refine ct8.mono ?_); rintro e w8 ⟨rfl, n8⟩; obtain ⟨z0, z1⟩ := (V8.keep n8).at2; obtain ⟨y0, y1⟩ := (Y8.keep n8).at2))
              go_ret
              exact ⟨rfl, gtrans G5 (gtrans g69 (gtrans G7 (gtrans A8 n8)))⟩
            · go_upto_region 20 with (first
                | (go_at_call 24; (with_reducible refine cR.mono ?_); rintro e u8 ⟨rfl, g8⟩))
              have A8 := galloc g8 (.cells #[.bool false, .int .i64 0] 53)
              have V8 := V7.keep A8
              have Y8 := Bk.new u8 #[.bool false, .int .i64 0] 53
              obtain ⟨v0, v1⟩ := V8.at2
              clear cR t0 t1 t2 x0 x1
              generalize u8.alloc _ = U8 at *
              have ct8 := ct U8
              go_wp2_with (first
                | (go_at_call 30; (with_reducible refine ct8.mono ?_); rintro e w8 ⟨rfl, n8⟩; obtain ⟨z0, z1⟩ := (V8.keep n8).at2; obtain ⟨y0, y1⟩ := (Y8.keep n8).at2))
              go_ret
              exact ⟨rfl, gtrans G5 (gtrans g69 (gtrans G7 (gtrans A8 n8)))⟩
            · go_upto_region 20 with (first
                | (go_at_call 24; (with_reducible refine cR.mono ?_); rintro e u8 ⟨rfl, g8⟩))
              have A8 := galloc g8 (.cells #[.bool false, .int .i64 0] 53)
              have V8 := V7.keep A8
              have Y8 := Bk.new u8 #[.bool false, .int .i64 0] 53
              obtain ⟨v0, v1⟩ := V8.at2
              clear cR t0 t1 t2 x0 x1
              generalize u8.alloc _ = U8 at *
              have ct8 := ct U8
              go_wp2_with (first
                | (go_at_call 30; (with_reducible refine ct8.mono ?_); rintro e w8 ⟨rfl, n8⟩; obtain ⟨z0, z1⟩ := (V8.keep n8).at2; obtain ⟨y0, y1⟩ := (Y8.keep n8).at2))
              go_ret
              exact ⟨rfl, gtrans G5 (gtrans g69 (gtrans G7 (gtrans A8 n8)))⟩
            · go_upto_region 20 with (first
                | (go_at_call 24; (with_reducible refine cR.mono ?_); rintro e u8 ⟨rfl, g8⟩))
              have A8 := galloc g8 (.cells #[.bool true, .int .i64 xn] 53)
              have V8 := V7.keep A8
              have Y8 := Bk.new u8 #[.bool true, .int .i64 xn] 53
              obtain ⟨v0, v1⟩ := V8.at2
              clear cR t0 t1 t2 x0 x1
              generalize u8.alloc _ = U8 at *
              have ct8 := ct U8
              go_wp2_with (first
                | (go_at_call 30; (with_reducible refine ct8.mono ?_); rintro e w8 ⟨rfl, n8⟩; obtain ⟨z0, z1⟩ := (V8.keep n8).at2; obtain ⟨y0, y1⟩ := (Y8.keep n8).at2))
              go_ret
              exact ⟨rfl, gtrans G5 (gtrans g69 (gtrans G7 (gtrans A8 n8)))⟩

end Go.Proofs.YtbcomgfdbanjlaaDoor
