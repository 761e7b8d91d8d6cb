/- The document's Tree; the law ShowTrees, walked. And what goes with it: 4 texts in one. -/
import Derived.Test.YtglagbedgjkdbaaGreatDoorJa29
import Derived.Deep.RegionHeld
import Derived.ChangeArms
import Derived.ChangeSame
import Derived.SliceStrings
import Derived.SizedLaws
namespace Go.Proofs.YtglagbedgjkdbaaGreatDoor
open Go.RowKit Go.BigFrame Go.Proofs.YtglagbedgjkdbaaGreatDoor.Ev
set_option linter.unusedVariables false
set_option linter.unusedSimpArgs false

set_option maxRecDepth 100000 in
set_option maxHeartbeats 4000000 in
theorem refTree_any (ns : List Nd) (ao : Option Addr) (cap : Nat) (w : World) (K : KwAt w) (A : IsNds w ao ns) (hr : ns.length * 64 ≤ 140737488351232) (hf : ∀ k, (ns.getD k noNd).fit) :
    Calls Tryz.prog 68 #[.slice ao ns.length cap] w fun e w' => e = .returned (.bool (treeB ns)) ∧ Below w.heap.size w w' := by
  have c1 := refBegins_any ns ao cap w K A hr hf
  obtain ⟨n, hn⟩ : ∃ n, ns.length = n := ⟨_, rfl⟩
  obtain ⟨v, hv⟩ : ∃ v, treeB ns = v := ⟨_, rfl⟩
  rw [hn] at hr c1 ⊢
  rw [hv]
  have HV : Hid (treeB ns = v) := hv
  clear hv
  cases hb : begsO ns [] with
  | none =>
    have hf : false = v := by rw [← HV.out]; unfold treeB; rw [hb]
    subst hf
    clear HV
    go_enter Tryz.func68, Tryz.ntmps68
    go_wp2_with (go_at_call 101; (with_reducible refine c1.mono ?_); rintro e u ⟨g, hc⟩; replace hc : e = .returned (.tuple #[.slice none 0 0, .bool false]) := (by rcases hc with ⟨_, h⟩ | ⟨bs, v, h, _⟩; exact h; (rw [hb] at h; cases h)); subst hc)
    go_ret
    exact ⟨rfl, g⟩
  | some bs =>
    have hlen := begsO_len ns [] bs hb
    have hbl : bs.length = n := by simp at hlen; omega
    have hans : decide (0 < n ∧ bs.getD (n - 1) 0 = 0) = v := by rw [← HV.out]; unfold treeB; rw [hb]; simp only; rw [hn]
    have HA : Hid (decide (0 < n ∧ bs.getD (n - 1) 0 = 0) = v) := hans
    clear hans HV
    by_cases h0 : n = 0
    · have hi0 : ¬ (0 : Int) < (n : Int) := by omega
      have d0 : decide ((0 : Int) < (n : Int)) = false := decide_eq_false hi0
      have hf : false = v := by rw [← HA.out, decide_eq_false (by omega)]
      subst hf
      clear h0
      go_enter Tryz.func68, Tryz.ntmps68
      go_wp2_with (go_at_call 101; (with_reducible refine c1.mono ?_); rintro e u ⟨g, hc⟩; replace hc : ∃ vv, e = .returned (.tuple #[vv, .bool true]) ∧ u.ownsRow w.heap.size 3 1 vv bs.length (intsV bs) := (by rcases hc with ⟨h, _⟩ | ⟨bs', v, h, h2, h3⟩; (rw [hb] at h; cases h); (rw [hb] at h; cases h; exact ⟨v, h2, h3⟩)); obtain ⟨vv, rfl, O⟩ := hc)
      go_ret
      exact ⟨rfl, g⟩
    · obtain ⟨j, hj⟩ : ∃ j, n = j + 1 := ⟨n - 1, by omega⟩
      have hji : (n : Int) - 1 = (j : Int) := by omega
      have hjn : (j : Int) < (n : Int) := by omega
      have hi0 : (0 : Int) < (n : Int) := by omega
      obtain ⟨z, hz⟩ : ∃ z, bs.getD j 0 = z := ⟨_, rfl⟩
      have hf : (z == 0) = v := by
        rw [← HA.out, show n - 1 = j by omega, hz]
        by_cases hz0 : z = 0
        · simp [hz0]; omega
        · simp [hz0]
      subst hf
      clear HA
      have HJ : Hid (n = j + 1) := hj
      clear hj h0
      go_enter Tryz.func68, Tryz.ntmps68
      go_wp2_with (go_at_call 101; (with_reducible refine c1.mono ?_); rintro e u ⟨g, hc⟩; replace hc : ∃ vv, e = .returned (.tuple #[vv, .bool true]) ∧ u.ownsRow w.heap.size 3 1 vv bs.length (intsV bs) := (by rcases hc with ⟨h, _⟩ | ⟨bs', v, h, h2, h3⟩; (rw [hb] at h; cases h); (rw [hb] at h; cases h; exact ⟨v, h2, h3⟩)); obtain ⟨vv, rfl, O⟩ := hc; obtain ⟨vo, vc, rfl, hvc, _, _⟩ := own_form O; obtain ⟨gv, ov, ev, xv⟩ := ints_own (ds := bs) O j (by have := HJ.out; omega); subst ev; rw [hz] at xv; rw [hbl] at O ⊢; clear O)
      go_ret
      exact ⟨rfl, g⟩


end Go.Proofs.YtglagbedgjkdbaaGreatDoor
namespace Go.Proofs.YtglagbedgjkdbaaGreatDoor
open Go.RowKit Go.BigFrame Go.Proofs.YtglagbedgjkdbaaGreatDoor.Ev
set_option linter.unusedVariables false
set_option linter.unusedSimpArgs false

def conjO (ns : List Nd) : List Int := if treeB ns = true then (conjL ns).map (fun i : Nat => (i : Int)) else []
set_option maxRecDepth 100000 in
set_option maxHeartbeats 4000000 in
theorem conjuncts_any (ns : List Nd) (ao : Option Addr) (cap : Nat) (w : World) (A : IsNds w ao ns) (hr : ns.length * 64 ≤ 140737488351232) (hf : ∀ k, (ns.getD k noNd).fit) (K : KwAt w) :
    Calls Tryz.prog 13 #[.slice ao ns.length cap] w fun e w' => ∃ v, e = .returned v ∧ w'.ownsRow w.heap.size 3 1 v (conjO ns).length (intsV (conjO ns)) ∧ Below w.heap.size w w' := by
  have c1 := shTree_any ns ao cap w K A hr hf
  unfold conjO
  cases hT : treeB ns
  · rw [hT] at c1
    rw [if_neg (by decide)]
    go_enter Tryz.func13, Tryz.ntmps13
    go_wp2_with (go_at_call 31; (with_reducible refine c1.mono ?_); rintro e u ⟨rfl, g⟩)
    go_ret
    exact ⟨_, rfl, World.ownsRow_nil _ _ _ _, g⟩
  · rw [hT] at c1
    rw [if_pos rfl, List.length_map]
    have c2 := fun (u : World) (g : Below w.heap.size w u) => topmost_any ns hT ao cap u (A.keep g) hr
    generalize intsV ((conjL ns).map fun i : Nat => (i : Int)) = xs at *
    go_enter Tryz.func13, Tryz.ntmps13
    go_wp2_with (first
      | (go_at_call 31; (with_reducible refine c1.mono ?_); rintro e u ⟨rfl, g⟩)
      | (go_at_call 38; (with_reducible refine (c2 _ g).mono ?_); rintro e u2 ⟨v, rfl, O, g2⟩))
    go_ret
    exact ⟨_, rfl, World.ownsRow.mono O g.size, gtrans g g2⟩
end Go.Proofs.YtglagbedgjkdbaaGreatDoor
namespace Go.Proofs.YtglagbedgjkdbaaGreatDoor
open Go.RowKit Go.BigFrame Go.Proofs.YtglagbedgjkdbaaGreatDoor.Ev
set_option linter.unusedVariables false
set_option linter.unusedSimpArgs false

/-- A program in memory, its lengths as letters. -/
structure PrS (w : World) (G : Prg) (pi : Option Addr) (n pci : Nat) (pc : Option Addr) (m pcc : Nat) : Prop where
  n : n = G.code.length
  m : m = G.cols.length
  p : IsPr w G pi pci pc pcc
theorem compile_prS (sa : Option Addr) (sc : Nat) (L : List Ty) (q : Qy) (hq : q.fit) (cs : Array Value) (ai : Option Addr) (ci : Nat) (aw : Option Addr) (cw : Nat) (ar : Option Addr) (cr : Nat) (ns : List Nd) (ao : Option Addr) (cap : Nat) (w : World) (K : KwAt w) (A : IsTypes w sa L.length L) (AQ : IsQ w q cs ai ci aw cw ar cr) (AN : IsNds w ao ns)
    (hf : ∀ k, (ns.getD k noNd).fit) (hr : ns.length * 64 ≤ 140737488351232) (hL : L.length * 8 ≤ 140737488351232) :
    Calls Tryz.prog 12 #[.agg #[.slice sa L.length sc], .agg cs, .slice ao ns.length cap] w fun e w' => ∃ pi n pci pc m pcc, e = .returned (.agg #[.slice pi n pci, .slice pc m pcc]) ∧ PrS w' (cmpG L q ns) pi n pci pc m pcc ∧ Below w.heap.size w w' := by
  refine (compile_any sa sc L q hq cs ai ci aw cw ar cr ns ao cap w K A AQ AN hf hr hL).mono fun e w' h => ?_
  obtain ⟨pi, pci, pc, pcc, ws, e1, h1, h2, _⟩ := h.pr
  exact ⟨pi, _, pci, pc, _, pcc, e1, ⟨rfl, rfl, h1⟩, h2⟩
theorem holds_prS {w : World} (L : List Ty) (q : Qy) (ns : List Nd) (hok : (cmpG L q ns).ok) (E : Envr) (hE : E.ok) {pi : Option Addr} {n pci : Nat} {pc : Option Addr} {m pcc : Nat} (al : Option Addr) (cl : Nat) (P : PrS w (cmpG L q ns) pi n pci pc m pcc) (IE : IsEnv w E al cl) (T : TbAt w) :
    Calls Tryz.prog 11 #[.agg #[.slice pi n pci, .slice pc m pcc], envA al cl E] w fun e w' => e = .returned (.bool (tru (evalV L q E ns))) ∧ Below w.heap.size w w' := by
  obtain ⟨rfl, rfl, p⟩ := P
  have c := holdsC_any (cmpG L q ns) hok E hE pi pci pc pcc al cl w p IE T
  rw [holds_eq L q E ns] at c
  exact c
theorem subL_fit {ns : List Nd} (hf : ∀ k, (ns.getD k noNd).fit) (hl : ns.length * 64 ≤ 140737488351232) {f r : Nat} (hr : r < ns.length) (hfr : f ≤ r) (k : Nat) : ((subL ns f r).getD k noNd).fit := by
  by_cases h : f + k ≤ r
  · rw [subL_at hr h]
    obtain ⟨h1, h2, h3, h4, h5, h6⟩ := hf (f + k)
    have key : ∀ a : Int, fI a → fI (shI f a) := fun a ha => by
      unfold shI
      unfold fI at ha ⊢
      split
      · exact ha
      · omega
    exact ⟨h1, h2, key _ h3, key _ h4, h5, h6⟩
  · rw [List.getD_eq_getElem?_getD, List.getElem?_eq_none (by rw [subL_len hr hfr]; omega)]
    exact noNd_fit
/-- At the round k: all is true just if the first k conjuncts are. -/
structure CjI (u : World) (R : List Nat) (F : Nat → Bool) (a x : Value) (wr : World) : Prop where
  ex : ∃ k : Nat, k ≤ R.length ∧ x = .int .i64 (k : Int) ∧ a = .bool ((R.take k).all F)
  g : Below u.heap.size u wr
set_option maxRecDepth 100000 in
set_option maxHeartbeats 16000000 in
theorem codeConjuncts_walk (sa : Option Addr) (sc : Nat) (L : List Ty) (q : Qy) (hq : q.fit) (cs : Array Value) (ai : Option Addr) (ci : Nat) (aw : Option Addr) (cw : Nat) (ar : Option Addr) (cr : Nat) (ns : List Nd) (ao : Option Addr) (cap : Nat) (hcap : ns.length ≤ cap) (E : Envr) (al : Option Addr) (cl : Nat) (w : World) (K : KwAt w) (T : TbAt w) (A : IsTypes w sa L.length L) (AQ : IsQ w q cs ai ci aw cw ar cr) (AN : IsNds w ao ns) (IE : IsEnv w E al cl)
    (hE0 : (∀ k, (E.lists.getD k []).length ≤ 2147483647) → E.ok) (hEn : E.lists.length * 24 ≤ 140737488351232) (hEl : ∀ k, (E.lists.getD k []).length * 88 ≤ 140737488351232) (hf : ∀ k, (ns.getD k noNd).fit) (hr : ns.length * 64 ≤ 140737488351232) (hL : L.length * 8 ≤ 140737488351232) :
    Calls Tryz.prog 3 #[.agg #[.slice sa L.length sc], .agg cs, .slice ao ns.length cap, envA al cl E] w fun e w' => e = .returned (.bool true) ∧ Below w.heap.size w w' := by
  have hcs := AQ.eq
  subst hcs
  have B1 := galloc (Below.refl w.heap.size w) (.cells #[.slice sa L.length sc] 24)
  have B2 := galloc B1 (.cells #[.slice ai q.items.length ci, .int .i64 q.mode, .int .i64 q.after, .slice aw q.wh.length cw, .int .i64 q.within, .string q.by_, .slice ar q.ret.length cr] 31)
  have B3 := galloc B2 (.cells #[.slice al E.lists.length cl, .int .i64 E.each, .int .i64 E.at_] 34)
  have k1 := ((Bk.new w #[.slice sa L.length sc] 24).alloc (.cells #[.slice ai q.items.length ci, .int .i64 q.mode, .int .i64 q.after, .slice aw q.wh.length cw, .int .i64 q.within, .string q.by_, .slice ar q.ret.length cr] 31)).alloc (.cells #[.slice al E.lists.length cl, .int .i64 E.each, .int .i64 E.at_] 34)
  have k2 := (Bk.newE (w := w.alloc (.cells #[.slice sa L.length sc] 24)) (g := w.heap.size + 1) (by simp) #[.slice ai q.items.length ci, .int .i64 q.mode, .int .i64 q.after, .slice aw q.wh.length cw, .int .i64 q.within, .string q.by_, .slice ar q.ret.length cr] 31).alloc (.cells #[.slice al E.lists.length cl, .int .i64 E.each, .int .i64 E.at_] 34)
  have k3 := Bk.newE (w := (w.alloc (.cells #[.slice sa L.length sc] 24)).alloc (.cells #[.slice ai q.items.length ci, .int .i64 q.mode, .int .i64 q.after, .slice aw q.wh.length cw, .int .i64 q.within, .string q.by_, .slice ar q.ret.length cr] 31)) (g := w.heap.size + 2) (by simp) #[.slice al E.lists.length cl, .int .i64 E.each, .int .i64 E.at_] 34
  go_enter Tryz.func3, Tryz.ntmps3
  go_upto_region 1 with fail
  generalize ((w.alloc _).alloc _).alloc _ = V at *
  obtain ⟨q0, q1, q2, q3, q4, q5, q6⟩ := k2.at7
  have c1 := qBeyond_any q hq _ ai ci aw cw ar cr V (AQ.keep B3)
  have c2 := fun (u : World) (g : Below w.heap.size w u) => beyond_any ns ao cap u (AN.keep g) hr hf
  have c3 := fun (u : World) (g : Below w.heap.size w u) => beyond7_any E.lists al cl u (IE.n.keep g) (by omega) (fun k => by have := hEl k; omega)
  go_upto_region 3 with (first
    | (go_at_call 5; (with_reducible refine c1.mono ?_); rintro e u1 ⟨bb, rfl, g1⟩; have G1 := gtrans B3 g1; have Q3 := k3.keep g1; obtain ⟨t0, t1, t2⟩ := Q3.at3; cases bb)
    | (go_at_call 6; (with_reducible refine (c2 _ G1).mono ?_); rintro e u2 ⟨bb, rfl, g2⟩; have G2 := gtrans G1 g2; have P3 := Q3.keep g2; obtain ⟨s0, s1, s2⟩ := P3.at3; cases bb)
    | (go_at_call 7; (with_reducible refine (c3 _ G2).mono ?_); rintro e u3 ⟨⟨bb, rfl, hbb⟩, rfl⟩; cases bb))
  all_goals try (go_ret; (first | exact ⟨rfl, G1⟩ | exact ⟨rfl, G2⟩))
  have hE := hE0 (hbb (by first | trivial | rfl))
  have ca := awake_any _ (K.keep G2) (T.keep G2)
  go_upto_region 5 with (first
    | (go_at_call 8; (with_reducible refine ca.mono ?_); rintro e u4 ⟨rfl, g4⟩))
  have G4 := gtrans G2 g4
  have j1 := ((k1.keep g1).keep g2).keep g4
  have j2 := ((k2.keep g1).keep g2).keep g4
  have j3 := ((k3.keep g1).keep g2).keep g4
  have A4 := A.keep G4
  have Q4 := AQ.keep G4
  have N4 := AN.keep G4
  have I4 := IE.keep G4
  have K4 := K.keep G4
  have T4 := T.keep G4
  have cE := fun (u : World) (g : Below u4.heap.size u4 u) (sn : List Nd) (so : Option Addr) (sp : Nat) (N : IsNds u so sn) (f : ∀ k, (sn.getD k noNd).fit) (r : sn.length * 64 ≤ 140737488351232) => eval_any sa sc L q hq _ ai ci aw cw ar cr sn so sp E al cl u (K4.keep g) (T4.keep g) (A4.keep g) (Q4.keep g) N (I4.keep g) f r hE
  have cC := fun (u : World) (g : Below u4.heap.size u4 u) (sn : List Nd) (so : Option Addr) (sp : Nat) (N : IsNds u so sn) (f : ∀ k, (sn.getD k noNd).fit) (r : sn.length * 64 ≤ 140737488351232) => compile_prS sa sc L q hq _ ai ci aw cw ar cr sn so sp u (K4.keep g) (A4.keep g) (Q4.keep g) N f r hL
  have cN := fun (u : World) (g : Below u4.heap.size u4 u) => runnable_any q hq ns ao cap _ ai ci aw cw ar cr u (K4.keep g) (Q4.keep g) (N4.keep g) hr hf
  have cT := fun (u : World) (g : Below u4.heap.size u4 u) => IsTruth_any ns ao cap u (N4.keep g) hr
  have cJ := fun (u : World) (g : Below u4.heap.size u4 u) => conjuncts_any ns ao cap u (N4.keep g) hr hf (K4.keep g)
  have cS := fun (u : World) (g : Below u4.heap.size u4 u) (r : Int) => csub_any ns r ao cap hcap u (N4.keep g) hr hf (K4.keep g)
  clear k1 k2 k3 g1 g2 g4 G1 G2 c1 c2 c3 ca q0 q1 q2 q3 q4 q5 q6 t0 t1 t2 s0 s1 s2 Q3 P3 hbb B1 B2 B3 A AQ AN IE K T
  obtain ⟨q0, q1, q2, q3, q4, q5, q6⟩ := j2.at7
  obtain ⟨rb, hrb⟩ : ∃ rb, runB (itemF q.items q.items.length) ns = rb := ⟨_, rfl⟩
  have HB : Hid (runB (itemF q.items q.items.length) ns = rb) := hrb
  rw [hrb] at cN
  obtain ⟨tb, htb⟩ : ∃ tb, lastT ns = tb := ⟨_, rfl⟩
  rw [htb] at cT
  clear hrb htb
  have cN4 := cN u4 (Below.refl _ _)
  cases rb with
  | false =>
    go_wp2_with (first
      | (go_at_call 9; (with_reducible refine cN4.mono ?_); rintro e u6 ⟨rfl, g6⟩; have cT6 := cT u6 g6)
      | (go_at_call 10; (with_reducible refine cT6.mono ?_); rintro e u7 ⟨rfl, g7⟩))
    go_ret
    exact ⟨rfl, gtrans G4 g6⟩
  | true =>
  cases tb with
  | false =>
    go_wp2_with (first
      | (go_at_call 9; (with_reducible refine cN4.mono ?_); rintro e u6 ⟨rfl, g6⟩; have cT6 := cT u6 g6)
      | (go_at_call 10; (with_reducible refine cT6.mono ?_); rintro e u7 ⟨rfl, g7⟩))
    go_ret
    exact ⟨rfl, gtrans G4 (gtrans g6 g7)⟩
  | true =>
  go_upto_region 7 with (first
      | (go_at_call 9; (with_reducible refine cN4.mono ?_); rintro e u6 ⟨rfl, g6⟩; have cT6 := cT u6 g6)
      | (go_at_call 10; (with_reducible refine cT6.mono ?_); rintro e u7 ⟨rfl, g7⟩))
  have g67 := gtrans g6 g7
  have i1 := j1.keep g67
  have i2 := j2.keep g67
  have i3 := j3.keep g67
  clear q0 q1 q2 q3 q4 q5 q6 cN4 cT6 cN cT
  -- what is pure
  have hrun := HB.out
  have hT := (run_split hrun).1
  obtain ⟨hbs, _, _, KN⟩ := tree_bs hT
  have hall := conj_eval L q E hrun hbs
  have hpos := conj_pos hT
  have hmem : ∀ r ∈ conjL ns, r < ns.length := fun r hr => by
    unfold conjL at hr
    rw [List.mem_filter, List.mem_range] at hr
    exact hr.1
  have hsub : ∀ r ∈ conjL ns, subO ns (r : Int) = subL ns (bg (bsOf ns) r) r := fun r hr => by
    unfold subO plB
    rw [hT, Int.toNat_natCast, if_pos]
    have := hmem r hr
    simp
    omega
  have hcj : conjO ns = (conjL ns).map (fun i : Nat => (i : Int)) := by unfold conjO; rw [if_pos hT]
  have hcl : (conjO ns).length = (conjL ns).length := by rw [hcj, List.length_map]
  have hRl : (conjL ns).length ≤ ns.length := by unfold conjL; exact Nat.le_trans (List.length_filter_le _ _) (by simp)
  have hsfit : ∀ r ∈ conjL ns, ∀ k, ((subO ns (r : Int)).getD k noNd).fit := fun r hr k => by
    rw [hsub r hr]
    exact subL_fit hf (by assumption) (hmem r hr) (KN r (hmem r hr)).le k
  have hslen : ∀ r ∈ conjL ns, (subO ns (r : Int)).length * 64 ≤ 140737488351232 := fun r hr => by
    rw [hsub r hr]
    have : (subL ns (bg (bsOf ns) r) r).length ≤ ns.length := by unfold subL; rw [List.length_map, List.length_take, List.length_drop]; omega
    omega
  rw [hcl] at cJ
  have hxs : intsV (conjO ns) = ((conjL ns).map (fun i : Nat => (i : Int))).map (fun i => .int .i64 i) := by rw [hcj]; rfl
  rw [hxs] at cJ
  obtain ⟨R, hR⟩ : ∃ R, conjL ns = R := ⟨_, rfl⟩
  obtain ⟨F, hF⟩ : ∃ F : Nat → Bool, F = fun r : Nat => tru (evalV L q E (subO ns (r : Int))) := ⟨_, rfl⟩
  have hall2 : tru (evalV L q E ns) = R.all F := by
    rw [hall, hR, hF]
    rw [Bool.eq_iff_iff, List.all_eq_true, List.all_eq_true]
    constructor
    · intro h r hr
      have := h r hr
      rw [← hsub r (hR ▸ hr)] at this
      exact this
    · intro h r hr
      have := h r hr
      rw [hsub r (hR ▸ hr)] at this
      exact this
  rw [hR] at cJ hpos hmem hsfit hslen hRl
  have HALL := show Hid (_ = _) from hall2
  have HPOS := show Hid (_ < _) from hpos
  have HFIT := show Hid (∀ r ∈ R, ∀ k, ((subO ns (r : Int)).getD k noNd).fit) from hsfit
  have HLEN := show Hid (∀ r ∈ R, (subO ns (r : Int)).length * 64 ≤ 140737488351232) from hslen
  have HRL := show Hid (R.length ≤ ns.length) from hRl
  have HFF := show Hid (F = fun r : Nat => tru (evalV L q E (subO ns (r : Int)))) from hF
  have okW := cmpG_ok L q hf hr hL
  have cH := fun (u : World) (g : Below u4.heap.size u4 u) (sn : List Nd) (f : ∀ k, (sn.getD k noNd).fit) (r : sn.length * 64 ≤ 140737488351232) (pi : Option Addr) (n pci : Nat) (pc : Option Addr) (m pcc : Nat) (P : PrS u (cmpG L q sn) pi n pci pc m pcc) => holds_prS L q sn (cmpG_ok L q f r hL) E hE al cl P (I4.keep g) (T4.keep g)
  obtain ⟨wv, hwv⟩ : ∃ wv, tru (evalV L q E ns) = wv := ⟨_, rfl⟩
  have HWV := show Hid (_ = _) from hwv
  have cHW := fun (u : World) (g : Below u4.heap.size u4 u) => cH u g ns hf hr
  rw [hwv] at cHW
  clear hall hall2 hpos hmem hsub hcj hcl hsfit hslen hxs hRl hF hbs hT hrun hwv hR KN
  have c0 := i1.one1
  obtain ⟨q0, q1, q2, q3, q4, q5, q6⟩ := i2.at7
  obtain ⟨t0, t1, t2⟩ := i3.at3
  have hne0 : Nonempty (Ext u7) := ⟨⟨_, Below.refl _ _⟩⟩
  have p0 := fun z : Ext u7 => (z.cell _ _ (lt_of_cell t0)).trans t0
  have p1 := fun z : Ext u7 => (z.cell _ _ (lt_of_cell t1)).trans t1
  have p2 := fun z : Ext u7 => (z.cell _ _ (lt_of_cell t2)).trans t2
  have p3 := fun z : Ext u7 => (z.cell _ _ (lt_of_cell q0)).trans q0
  have p4 := fun z : Ext u7 => (z.cell _ _ (lt_of_cell q1)).trans q1
  have p5 := fun z : Ext u7 => (z.cell _ _ (lt_of_cell q2)).trans q2
  have p6 := fun z : Ext u7 => (z.cell _ _ (lt_of_cell q3)).trans q3
  have p7 := fun z : Ext u7 => (z.cell _ _ (lt_of_cell q4)).trans q4
  have p8 := fun z : Ext u7 => (z.cell _ _ (lt_of_cell q5)).trans q5
  have p9 := fun z : Ext u7 => (z.cell _ _ (lt_of_cell q6)).trans q6
  have pa := fun z : Ext u7 => (z.cell _ _ (lt_of_cell c0)).trans c0
  refine wp_region_held (S := fun X => ∃ n : Ext u7, X = n.X) (by kernel_rfl) ?_
  have hX0 : Below u7.heap.size u7 { u7 with drawn := u7.drawn + 1 } := (Below.refl _ u7).drew
  obtain ⟨X, hXe⟩ : ∃ X, { u7 with drawn := u7.drawn + 1 } = X := ⟨_, rfl⟩
  have hX : Below u7.heap.size u7 X := hXe ▸ hX0
  rw [hXe]
  clear hX0 hXe
  refine anyH_pick (g := 3) [0, 1, 2, 4] (by kernel_rfl) (fun c a d v w h => by cases d <;> exact h) ⟨⟨X, hX⟩, rfl⟩ rfl (by kernel_rfl) ?_
  simp only [pickL, List.filterMap_cons, List.filterMap_nil, List.getElem?_toArray, List.getElem?_cons_zero, List.getElem?_cons_succ]
  refine (show wpQuiet _ _ _ _ [_, _, _, _] _ from ?_)
  repeat (go_big_quiet_step (fail))
  refine wpQuiet_nil ?_
  refine wpAnyH_all (rs := [3]) (by kernel_rfl) (by decide) ?_
  intro i hi
  simp only [List.mem_cons, List.not_mem_nil, or_false] at hi
  subst hi
  refine wpOp_callG (some 40) rfl rfl (by kernel_rfl) 12 #[.agg #[.slice sa L.length sc], .agg #[.slice ai q.items.length ci, .int .i64 q.mode, .int .i64 q.after, .slice aw q.wh.length cw, .int .i64 q.within, .string q.by_, .slice ar q.ret.length cr], .slice ao ns.length cap] (by kernel_rfl) _ (cC X (gtrans g67 hX) ns ao cap (N4.keep (gtrans g67 hX)) hf hr) ?_
  rintro e Y ⟨pi, pn, pci, pc, pm, pcc, rfl, PY, gY⟩
  have hY := hX.trans (gY.mono hX.size)
  refine ⟨_, rfl, ⟨⟨Y, hY⟩, rfl⟩, ?_⟩
  simp only [Act.put, List.setIfInBounds_toArray, List.set_cons_succ, List.set_cons_zero]
  refine wpAnyH_all (rs := [5]) (by kernel_rfl) (by decide) ?_
  intro i hi
  simp only [List.mem_cons, List.not_mem_nil, or_false] at hi
  subst hi
  refine wpOp_callG (some 42) rfl rfl (by kernel_rfl) 11 #[.agg #[.slice pi pn pci, .slice pc pm pcc], .agg #[.slice al E.lists.length cl, .int .i64 E.each, .int .i64 E.at_]] (by kernel_rfl) _ (cHW Y (gtrans g67 hY) _ _ _ _ _ _ PY) ?_
  rintro e Z ⟨rfl, gZ⟩
  have hZ := hY.trans (gZ.mono hY.size)
  refine ⟨_, rfl, ⟨⟨Z, hZ⟩, rfl⟩, ?_⟩
  simp only [Act.put, List.setIfInBounds_toArray, List.set_cons_succ, List.set_cons_zero]
  refine anyH_pick (g := 0) [6] (by kernel_rfl) (fun c a d v w h => by cases d <;> exact h) ⟨⟨Z, hZ⟩, rfl⟩ rfl (by kernel_rfl) ?_
  simp only [pickL, List.filterMap_cons, List.filterMap_nil, List.getElem?_toArray, List.getElem?_cons_zero, List.getElem?_cons_succ]
  refine (show wpQuiet _ _ _ _ [_] _ from ?_)
  repeat (go_big_quiet_step (fail))
  refine wpQuiet_nil ?_
  refine wpAnyH_done (by kernel_rfl) ?_ _
  try simp only [Exit.then]
  go_step
  have gz := gtrans g67 hZ
  have y1 := i1.keep hZ
  have y2 := i2.keep hZ
  have y3 := i3.keep hZ
  have cJZ := cJ Z gz
  clear p0 p1 p2 p3 p4 p5 p6 p7 p8 p9 pa hne0 q0 q1 q2 q3 q4 q5 q6 t0 t1 t2 c0 cJ cHW PY hX hY gY gZ i1 i2 i3 j1 j2 j3 okW
  go_upto_region 10 with (first
    | (go_at_call 13; (with_reducible refine cJZ.mono ?_); rintro e ur ⟨vr, rfl, OR, gr⟩; obtain ⟨ro, rc, rfl, _, _, hh9⟩ := own_form OR))
  obtain ⟨g, rfl⟩ : ∃ g, ro = some ⟨g, 0, none⟩ := by
    rcases hh9 with h | ⟨g, h, _⟩
    · have := HPOS.out
      omega
    · exact ⟨g, h⟩
  clear hh9
  have gR := gtrans gz gr
  have x1 := y1.keep gr
  have x2 := y2.keep gr
  have x3 := y3.keep gr
  clear cJZ y1 y2 y3 gr hZ
  go_upto_region 11 with fail
  go_loopw [10, 12, 13, 14] (fun a x _ _ wr => CjI ur R F a x wr) (fun _ x _ _ _ => R.length - (intOf x).toNat)
  case atStart => exact ⟨⟨0, by omega, rfl, by simp⟩, Below.refl _ _⟩
  case round =>
    obtain ⟨⟨k, hk, rfl, rfl⟩, gk⟩ := hrel
    have GK := gtrans gR gk
    have O9 := own_keep OR gk
    have d1 := x1.keep gk
    have d2 := x2.keep gk
    have d3 := x3.keep gk
    obtain ⟨ab, hab⟩ : ∃ b, (R.take k).all F = b := ⟨_, rfl⟩
    by_cases hlt : k < R.length
    · have hki : (k : Int) < (R.length : Int) := by omega
      obtain ⟨r, hr9⟩ : ∃ r, R.getD k 0 = r := ⟨_, rfl⟩
      have hRk : R[k]? = some r := by
        rw [← hr9, List.getD_eq_getElem?_getD, List.getElem?_eq_getElem hlt]
        rfl
      have hrm : r ∈ R := List.mem_of_getElem? hRk
      have hstep : (R.take (k + 1)).all F = (ab && F r) := by
        rw [List.take_add_one, hRk, List.all_append, hab]
        simp
      have y0 := World.ownsRow.cellAt O9 k (by simp; exact hlt)
      rw [List.getElem?_map, List.getElem?_map, hRk] at y0
      replace y0 : wr.cell? ⟨g, k, none⟩ = some (.int .i64 (r : Int)) := y0
      have cS1 := cS wr GK (r : Int)
      have fs := HFIT.out r hrm
      have ls := HLEN.out r hrm
      have hFr : F r = tru (evalV L q E (subO ns (r : Int))) := by rw [HFF.out]
      clear hRk hrm cS
      generalize subO ns (r : Int) = sn at *
      rw [hab]
      go_upto_region 14 with (first
        | (go_at_call 14; (with_reducible refine cS1.mono ?_); rintro e u1 ⟨v1, rfl, O1, h1⟩; obtain ⟨so, sp, rfl, _, _, _⟩ := own_form O1))
      have N1 : IsNds u1 so sn := nds_of_own O1
      have b1 := d1.keep h1
      have b2 := d2.keep h1
      have b3 := d3.keep h1
      have G1 := gtrans GK h1
      have gk1 := gtrans gk h1
      have c0 := b1.one1
      obtain ⟨q0, q1, q2, q3, q4, q5, q6⟩ := b2.at7
      obtain ⟨t0, t1, t2⟩ := b3.at3
      clear y0 cS1 O1 d1 d2 d3 O9
      have hne0 : Nonempty (Ext u1) := ⟨⟨_, Below.refl _ _⟩⟩
      have p0 := fun z : Ext u1 => (z.cell _ _ (lt_of_cell t0)).trans t0
      have p1 := fun z : Ext u1 => (z.cell _ _ (lt_of_cell t1)).trans t1
      have p2 := fun z : Ext u1 => (z.cell _ _ (lt_of_cell t2)).trans t2
      have p3 := fun z : Ext u1 => (z.cell _ _ (lt_of_cell q0)).trans q0
      have p4 := fun z : Ext u1 => (z.cell _ _ (lt_of_cell q1)).trans q1
      have p5 := fun z : Ext u1 => (z.cell _ _ (lt_of_cell q2)).trans q2
      have p6 := fun z : Ext u1 => (z.cell _ _ (lt_of_cell q3)).trans q3
      have p7 := fun z : Ext u1 => (z.cell _ _ (lt_of_cell q4)).trans q4
      have p8 := fun z : Ext u1 => (z.cell _ _ (lt_of_cell q5)).trans q5
      have p9 := fun z : Ext u1 => (z.cell _ _ (lt_of_cell q6)).trans q6
      have pa := fun z : Ext u1 => (z.cell _ _ (lt_of_cell c0)).trans c0
      refine wp_region_held (S := fun X => ∃ n : Ext u1, X = n.X) (by kernel_rfl) ?_
      have hX0 : Below u1.heap.size u1 { u1 with drawn := u1.drawn + 1 } := (Below.refl _ u1).drew
      obtain ⟨X, hXe⟩ : ∃ X, { u1 with drawn := u1.drawn + 1 } = X := ⟨_, rfl⟩
      have hX : Below u1.heap.size u1 X := hXe ▸ hX0
      rw [hXe]
      clear hX0 hXe
      refine anyH_pick (g := 3) [0, 1, 2, 4] (by kernel_rfl) (fun c a d v w h => by cases d <;> exact h) ⟨⟨X, hX⟩, rfl⟩ rfl (by kernel_rfl) ?_
      simp only [pickL, List.filterMap_cons, List.filterMap_nil, List.getElem?_toArray, List.getElem?_cons_zero, List.getElem?_cons_succ]
      refine (show wpQuiet _ _ _ _ [_, _, _, _] _ from ?_)
      repeat (go_big_quiet_step (fail))
      refine wpQuiet_nil ?_
      refine wpAnyH_all (rs := [3]) (by kernel_rfl) (by decide) ?_
      intro i hi
      simp only [List.mem_cons, List.not_mem_nil, or_false] at hi
      subst hi
      refine wpOp_callG (some 60) rfl rfl (by kernel_rfl) 12 #[.agg #[.slice sa L.length sc], .agg #[.slice ai q.items.length ci, .int .i64 q.mode, .int .i64 q.after, .slice aw q.wh.length cw, .int .i64 q.within, .string q.by_, .slice ar q.ret.length cr], .slice so sn.length sp] (by kernel_rfl) _ (cC X (gtrans G1 hX) sn so sp (N1.keep hX) fs ls) ?_
      rintro e Y ⟨pi, pn, pci, pc, pm, pcc, rfl, PY, gY⟩
      have hY := hX.trans (gY.mono hX.size)
      refine ⟨_, rfl, ⟨⟨Y, hY⟩, rfl⟩, ?_⟩
      simp only [Act.put, List.setIfInBounds_toArray, List.set_cons_succ, List.set_cons_zero]
      refine wpAnyH_all (rs := [5]) (by kernel_rfl) (by decide) ?_
      intro i hi
      simp only [List.mem_cons, List.not_mem_nil, or_false] at hi
      subst hi
      have cHs := cH Y (gtrans G1 hY) sn fs ls _ _ _ _ _ _ PY
      rw [← hFr] at cHs
      refine wpOp_callG (some 62) rfl rfl (by kernel_rfl) 11 #[.agg #[.slice pi pn pci, .slice pc pm pcc], .agg #[.slice al E.lists.length cl, .int .i64 E.each, .int .i64 E.at_]] (by kernel_rfl) _ cHs ?_
      rintro e Z ⟨rfl, gZ⟩
      have hZ := hY.trans (gZ.mono hY.size)
      refine ⟨_, rfl, ⟨⟨Z, hZ⟩, rfl⟩, ?_⟩
      simp only [Act.put, List.setIfInBounds_toArray, List.set_cons_succ, List.set_cons_zero]
      refine anyH_pick (g := 0) [6] (by kernel_rfl) (fun c a d v w h => by cases d <;> exact h) ⟨⟨Z, hZ⟩, rfl⟩ rfl (by kernel_rfl) ?_
      simp only [pickL, List.filterMap_cons, List.filterMap_nil, List.getElem?_toArray, List.getElem?_cons_zero, List.getElem?_cons_succ]
      refine (show wpQuiet _ _ _ _ [_] _ from ?_)
      repeat (go_big_quiet_step (fail))
      refine wpQuiet_nil ?_
      refine wpAnyH_done (by kernel_rfl) ?_ _
      try simp only [Exit.then]
      go_step
      have e1 := b1.keep hZ
      have e2 := b2.keep hZ
      have e3 := b3.keep hZ
      have N2 := N1.keep hZ
      have GZ := gtrans G1 hZ
      have gkZ := gtrans gk1 hZ
      clear p0 p1 p2 p3 p4 p5 p6 p7 p8 p9 pa hne0 q0 q1 q2 q3 q4 q5 q6 t0 t1 t2 c0 b1 b2 b3 N1 PY hX hY gY gZ hZ cHs
      have c0 := e1.one1
      obtain ⟨q0, q1, q2, q3, q4, q5, q6⟩ := e2.at7
      obtain ⟨t0, t1, t2⟩ := e3.at3
      have cEs := cE Z GZ sn so sp N2 fs ls
      obtain ⟨⟨xk, xn⟩, hx⟩ : ∃ x, evalV L q E sn = x := ⟨_, rfl⟩
      rw [hx] at cEs hFr
      unfold VA at cEs
      dsimp only at cEs
      unfold tru at hFr
      dsimp only at hFr
      have ct := fun u => true_any xk xn u
      rw [← hFr] at ct
      generalize F r = fb at *
      clear hFr hx cE cC cH HFF HFIT HLEN
      cases fb <;> cases ab
      all_goals
        go_wp2_with (first
          | (go_at_call 16; (with_reducible refine cEs.mono ?_); rintro e u8 ⟨rfl, g8⟩; have ct8 := ct u8)
          | (go_at_call 15; (with_reducible refine ct8.mono ?_); rintro e u9 ⟨rfl, g9⟩))
        go_roundw
        case rel => exact ⟨⟨k + 1, by omega, by go_num, by rw [hstep]; rfl⟩, gtrans gkZ (gtrans g8 g9)⟩
        case measure => simp [intOf]; omega
    · obtain rfl : k = R.length := by omega
      rw [List.take_length, ← HALL.out, HWV.out] at hab
      subst hab
      have hgt : (0 : Int) < (R.length : Int) := by have := HPOS.out; omega
      have hgt2 : 0 < R.length := HPOS.out
      have c0 := d1.one1
      obtain ⟨q0, q1, q2, q3, q4, q5, q6⟩ := d2.at7
      obtain ⟨t0, t1, t2⟩ := d3.at3
      have cEs := cE wr GK ns ao cap (N4.keep GK) hf hr
      obtain ⟨⟨xk, xn⟩, hx⟩ : ∃ x, evalV L q E ns = x := ⟨_, rfl⟩
      have hw := HWV.out
      rw [hx] at cEs hw
      unfold VA at cEs
      dsimp only at cEs
      unfold tru at hw
      dsimp only at hw
      have ct := fun u => true_any xk xn u
      rw [hw] at ct
      have hal : (R.take R.length).all F = wv := by rw [List.take_length, ← HALL.out, HWV.out]
      rw [hal]
      clear hw hx cE cC cH HFF HFIT HLEN hal cS
      cases wv
      all_goals
        go_wp2_with (first
          | (go_at_call 16; (with_reducible refine cEs.mono ?_); rintro e u8 ⟨rfl, g8⟩; have ct8 := ct u8)
          | (go_at_call 15; (with_reducible refine ct8.mono ?_); rintro e u9 ⟨rfl, g9⟩))
        go_ret
        exact ⟨rfl, gtrans G4 (gtrans GK (gtrans g8 g9))⟩

end Go.Proofs.YtglagbedgjkdbaaGreatDoor
namespace Go.Proofs.YtglagbedgjkdbaaGreatDoor
open Go.ChangeShapes Go.WideShapes Go.ChangeAt Go.RowKit Go.BigFrame
set_option linter.unusedVariables false
set_option linter.unusedSimpArgs false

theorem weightsAll_mem {H : Type} {P : Program} {e : TypeId} : ∀ {l : List (DataW H)} {d : DataW H}, d ∈ l → ∀ n ∈ d.weights P e, n ∈ DataW.weightsAll P e l
  | d0 :: l, d, hd, n, hn => by
    simp only [DataW.weightsAll, List.mem_append]
    rcases List.mem_cons.1 hd with rfl | hd
    · exact .inl hn
    · exact .inr (weightsAll_mem hd n hn)
theorem spot_none {w : World} {a : Addr} {v : Value} (h : w.cell? a = some v) : ∃ b off, a = ⟨b, off, none⟩ := by
  obtain ⟨b, off, spot⟩ := a
  have : spot = none := by simpa using World.cell?_spot h
  subst this
  exact ⟨b, off, rfl⟩
theorem add_add (a : Addr) (m j : Nat) : (a.add m).add j = a.add (m + j) := by
  unfold Addr.add
  by_cases hm : m = 0
  · subst hm; simp
  · by_cases hj : j = 0
    · subst hj; simp
    · rw [if_neg hm, if_neg hj, if_neg (by omega)]
      simp [Nat.add_assoc]
theorem bytesS : Tryz.prog.bytesOf 9 = 16 := by kernel_rfl
theorem bytesT : Tryz.prog.bytesOf 68 = 40 := by kernel_rfl
theorem cellsT : Tryz.prog.cellsOf 68 = 2 := by kernel_rfl
theorem cellsS : Tryz.prog.cellsOf 9 = 1 := by kernel_rfl
theorem cellsL : Tryz.prog.cellsOf 66 = 1 := by kernel_rfl

section
variable {H : Type} {enc : TypeId × Value → H} {w : World} {spare : Nat → Bool} {held : Bool}

theorem open_attrs {fuel : Nat} {v : Value} {y : DataW H × List MemPlace} (h : DataW.trod enc Tryz.prog w 0 spare held fuel 66 [v] = some y) (hw : ∀ n ∈ y.1.weights Tryz.prog 66, n ≤ reachBytes) :
    ∃ ao cap ss, v = .slice ao ss.length cap ∧ ss.length ≤ cap ∧ IsStrs w ao ss.length ss ∧ ss.length * 16 ≤ 140737488351232 := by
  rcases open_strings Tryz.underlying66 Tryz.underlying9 cellsS h with ⟨hcs, _⟩ | ⟨a, len, cap, ss, hcs, _, hl, hm, hlen, hx, hcell, _⟩
  · simp only [List.cons.injEq, and_true] at hcs
    exact ⟨none, 0, [], hcs, by simp, ⟨rfl, by simp, .inl rfl⟩, by simp⟩
  · simp only [List.cons.injEq, and_true] at hcs
    have hge : len ≤ ss.length := by split at hlen <;> omega
    have htl : (ss.take len).length = len := by simp; omega
    refine ⟨some a, cap, ss.take len, by rw [htl]; exact hcs, by omega, ⟨rfl, by unfold maxLen at hm; omega, ?_⟩, ?_⟩
    · rw [htl]
      rcases Nat.eq_zero_or_pos len with h0 | h0
      · exact .inl h0
      obtain ⟨b, off, e⟩ := spot_none (hcell 0 (by omega))
      obtain ⟨ab, ao, asp⟩ := a
      simp only [Addr.add] at e
      refine .inr ⟨ab, ao, ?_, ?_, ?_⟩
      · cases asp with
        | none => rfl
        | some s => have := World.cell?_spot (hcell 0 (by omega)); simp [Addr.add] at this
      · have h5 := lt_of_cell (hcell 0 (by omega))
        cases asp with
        | none => rw [add_plain] at h5; exact h5
        | some s => have := World.cell?_spot (hcell 0 (by omega)); simp [Addr.add] at this
      · intro j hj
        have := hcell j (by omega)
        cases asp with
        | none => rw [add_plain] at this; rw [this]; simp [List.getD, hj]
        | some s => have := World.cell?_spot (hcell 0 (by omega)); simp [Addr.add] at this
    · have := hw ((strs (ss.take len) : List (DataW H)).length * 16 + (strs (ss.drop len) : List (DataW H)).length * 16) (by rw [hx]; simp [DataW.weights, Tryz.underlying66, bytesS, Nat.add_mul])
      unfold reachBytes at this
      simp [strs] at this ⊢
      omega

set_option maxRecDepth 100000 in
theorem open_types {fuel : Nat} {v : Value} {y : DataW H × List MemPlace} (h : DataW.trod enc Tryz.prog w 0 spare held fuel 22 [v] = some y) (hw : ∀ n ∈ y.1.weights Tryz.prog 22, n ≤ reachBytes) :
    ∃ ao n cap L, v = .slice ao n cap ∧ n ≤ cap ∧ IsTypes w ao n L ∧ n * 40 ≤ 140737488351232 ∧ ∀ j, (L.getD j noTy).2.length * 16 ≤ 140737488351232 := by
  rcases DataW.trod_slice Tryz.underlying22 h with ⟨hcs, _⟩ | ⟨a, len, cap, elems, rest, fu, _, hcs, hx, _, hl, hm, hlen, hel, _, _⟩
  · simp only [List.cons.injEq, and_true] at hcs
    exact ⟨none, 0, 0, [], hcs, by simp, ⟨rfl, by simp, .inl rfl⟩, by simp, fun j => by simp [noTy]⟩
  · simp only [List.cons.injEq, and_true] at hcs
    have hw0 := hw ((elems.map (·.1)).length * 40 + (rest.map (·.1)).length * 40) (by rw [hx]; simp [DataW.weights, Tryz.underlying22, bytesT, Nat.add_mul])
    have each : ∀ i, i < len → ∃ t : Ty, w.cell? (a.add (i * 2)) = some (.string t.1) ∧ ∃ aj cj, w.cell? (a.add (i * 2 + 1)) = some (.slice aj t.2.length cj) ∧ t.2.length ≤ cj ∧ IsStrs w aj t.2.length t.2 ∧ t.2.length * 16 ≤ 140737488351232 := by
      intro i hi
      have h1 := hel i hi
      rw [cellsT, List.getElem?_eq_getElem (by omega), Option.bind_eq_some_iff] at h1
      obtain ⟨cs', h2, h3⟩ := h1
      obtain ⟨_, hcl, hce⟩ := World.cells?_some h2
      obtain ⟨y0, y1, m, e1, _, g0, g1⟩ := trod_struct2 Tryz.underlying68 h3
      obtain ⟨c0, c1, rfl⟩ : ∃ c0 c1, cs' = [c0, c1] := by
        match cs', hcl with
        | [c0, c1], _ => exact ⟨c0, c1, rfl⟩
      have g0' : DataW.trod enc Tryz.prog w 0 spare held m 9 [c0] = some y0 := g0
      have g1' : DataW.trod enc Tryz.prog w 0 spare held m 66 [c1] = some y1 := g1
      obtain ⟨s, e2, _, _⟩ := DataW.trod_string Tryz.underlying9 g0'
      simp only [List.cons.injEq, and_true] at e2
      subst e2
      have hmem : (elems[i]'(by omega)).1 ∈ elems.map (·.1) := List.mem_map_of_mem (List.getElem_mem _)
      have hw1 : ∀ n ∈ y1.1.weights Tryz.prog 66, n ≤ reachBytes := fun n hn => by
        refine hw n ?_
        rw [hx]
        simp only [DataW.weights, Tryz.underlying22, List.mem_cons, List.mem_append]
        refine .inr (.inl (weightsAll_mem hmem n ?_))
        rw [e1]
        simp only [DataW.weights, Tryz.underlying68, DataW.weightsEach, List.mem_append]
        simp [DataW.weightsEach, hn]
      obtain ⟨aj, cj, ss, e3, e6, e4, e5⟩ := open_attrs g1' hw1
      subst e3
      have k0 := hce 0 (by omega)
      have k1 := hce 1 (by omega)
      have ad : ∀ j, (a.add (i * 2)).add j = a.add (i * 2 + j) := fun j => add_add a _ j
      rw [ad] at k0 k1
      exact ⟨(s, ss), by simpa using k0, aj, cj, by simpa using k1, e6, e4, e5⟩
    have each' : ∀ i : Nat, ∃ t : Ty, i < len → w.cell? (a.add (i * 2)) = some (.string t.1) ∧ ∃ aj cj, w.cell? (a.add (i * 2 + 1)) = some (.slice aj t.2.length cj) ∧ t.2.length ≤ cj ∧ IsStrs w aj t.2.length t.2 ∧ t.2.length * 16 ≤ 140737488351232 := fun i => by
      by_cases hi : i < len
      · obtain ⟨t, ht⟩ := each i hi; exact ⟨t, fun _ => ht⟩
      · exact ⟨noTy, fun h => absurd h hi⟩
    obtain ⟨f, hf⟩ : ∃ f : Nat → Ty, ∀ i, i < len → w.cell? (a.add (i * 2)) = some (.string (f i).1) ∧ ∃ aj cj, w.cell? (a.add (i * 2 + 1)) = some (.slice aj (f i).2.length cj) ∧ (f i).2.length ≤ cj ∧ IsStrs w aj (f i).2.length (f i).2 ∧ (f i).2.length * 16 ≤ 140737488351232 := ⟨fun j => Classical.choose (each' j), fun j hj => Classical.choose_spec (each' j) hj⟩
    have hget : ∀ j, j < len → ((List.range len).map f).getD j noTy = f j := fun j hj => by simp [List.getD, hj]
    refine ⟨some a, len, cap, (List.range len).map f, hcs, hl, ⟨by simp, by unfold maxLen at hm; omega, ?_⟩, ?_, fun j => ?_⟩
    · rcases Nat.eq_zero_or_pos len with h0 | h0
      · exact .inl h0
      obtain ⟨ab, ao, asp⟩ := a
      cases asp with
      | some s => have := World.cell?_spot (hf 0 h0).1; simp [Addr.add] at this
      | none =>
        refine .inr ⟨ab, ao, rfl, ?_, fun j hj => ?_⟩
        · have h5 := lt_of_cell (hf 0 h0).1
          rw [add_plain] at h5
          exact h5
        · obtain ⟨e1, aj, cj, e2, e6, e3, _⟩ := hf j hj
          rw [hget j hj]
          rw [add_plain] at e1 e2
          exact ⟨e1, aj, cj, by rw [Nat.add_assoc]; exact e2, e6, e3⟩
    · unfold reachBytes at hw0
      simp at hw0
      omega
    · by_cases hj : j < len
      · rw [hget j hj]
        obtain ⟨_, aj, cj, _, _, _, e⟩ := hf j hj
        exact e
      · have : ((List.range len).map f).getD j noTy = noTy := by simp [List.getD, hj]
        rw [this]; decide

end

end Go.Proofs.YtglagbedgjkdbaaGreatDoor
