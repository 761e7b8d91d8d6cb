/- The document's Tree; the law ShowTrees, walked. And what goes with it: 3 texts in one. -/
import Derived.Test.YtnmppmmanigpcaaDoorJa24
namespace Go.Proofs.YtnmppmmanigpcaaDoor
open Go.RowKit Go.BigFrame Go.Proofs.YtnmppmmanigpcaaDoor.Ev
set_option linter.unusedVariables false
set_option linter.unusedSimpArgs false

set_option maxRecDepth 100000 in
set_option maxHeartbeats 4000000 in
theorem refTree_any (ns : List Nd) (ao : Option Addr) (cap : Nat) (w : World) (K : KwAt w) (A : IsNds w ao ns) (hr : ns.length * 64 ≤ 140737488351232) (hf : ∀ k, (ns.getD k noNd).fit) :
    Calls Tryd.prog 52 #[.slice ao ns.length cap] w fun e w' => e = .returned (.bool (treeB ns)) ∧ Below w.heap.size w w' := by
  have c1 := refBegins_any ns ao cap w K A hr hf
  obtain ⟨n, hn⟩ : ∃ n, ns.length = n := ⟨_, rfl⟩
  obtain ⟨v, hv⟩ : ∃ v, treeB ns = v := ⟨_, rfl⟩
  rw [hn] at hr c1 ⊢
  rw [hv]
  have HV : Hid (treeB ns = v) := hv
  clear hv
  cases hb : begsO ns [] with
  | none =>
    have hf : false = v := by rw [← HV.out]; unfold treeB; rw [hb]
    subst hf
    clear HV
    go_enter Tryd.func52, Tryd.ntmps52
    go_wp2_with (go_at_call 83; (with_reducible refine c1.mono ?_); rintro e u ⟨g, hc⟩; replace hc : e = .returned (.tuple #[.slice none 0 0, .bool false]) := (by rcases hc with ⟨_, h⟩ | ⟨bs, v, h, _⟩; exact h; (rw [hb] at h; cases h)); subst hc)
    go_ret
    exact ⟨rfl, g⟩
  | some bs =>
    have hlen := begsO_len ns [] bs hb
    have hbl : bs.length = n := by simp at hlen; omega
    have hans : decide (0 < n ∧ bs.getD (n - 1) 0 = 0) = v := by rw [← HV.out]; unfold treeB; rw [hb]; simp only; rw [hn]
    have HA : Hid (decide (0 < n ∧ bs.getD (n - 1) 0 = 0) = v) := hans
    clear hans HV
    by_cases h0 : n = 0
    · have hi0 : ¬ (0 : Int) < (n : Int) := by omega
      have d0 : decide ((0 : Int) < (n : Int)) = false := decide_eq_false hi0
      have hf : false = v := by rw [← HA.out, decide_eq_false (by omega)]
      subst hf
      clear h0
      go_enter Tryd.func52, Tryd.ntmps52
      go_wp2_with (go_at_call 83; (with_reducible refine c1.mono ?_); rintro e u ⟨g, hc⟩; replace hc : ∃ vv, e = .returned (.tuple #[vv, .bool true]) ∧ u.ownsRow w.heap.size 3 1 vv bs.length (intsV bs) := (by rcases hc with ⟨h, _⟩ | ⟨bs', v, h, h2, h3⟩; (rw [hb] at h; cases h); (rw [hb] at h; cases h; exact ⟨v, h2, h3⟩)); obtain ⟨vv, rfl, O⟩ := hc)
      go_ret
      exact ⟨rfl, g⟩
    · obtain ⟨j, hj⟩ : ∃ j, n = j + 1 := ⟨n - 1, by omega⟩
      have hji : (n : Int) - 1 = (j : Int) := by omega
      have hjn : (j : Int) < (n : Int) := by omega
      have hi0 : (0 : Int) < (n : Int) := by omega
      obtain ⟨z, hz⟩ : ∃ z, bs.getD j 0 = z := ⟨_, rfl⟩
      have hf : (z == 0) = v := by
        rw [← HA.out, show n - 1 = j by omega, hz]
        by_cases hz0 : z = 0
        · simp [hz0]; omega
        · simp [hz0]
      subst hf
      clear HA
      have HJ : Hid (n = j + 1) := hj
      clear hj h0
      go_enter Tryd.func52, Tryd.ntmps52
      go_wp2_with (go_at_call 83; (with_reducible refine c1.mono ?_); rintro e u ⟨g, hc⟩; replace hc : ∃ vv, e = .returned (.tuple #[vv, .bool true]) ∧ u.ownsRow w.heap.size 3 1 vv bs.length (intsV bs) := (by rcases hc with ⟨h, _⟩ | ⟨bs', v, h, h2, h3⟩; (rw [hb] at h; cases h); (rw [hb] at h; cases h; exact ⟨v, h2, h3⟩)); obtain ⟨vv, rfl, O⟩ := hc; obtain ⟨vo, vc, rfl, hvc, _, _⟩ := own_form O; obtain ⟨gv, ov, ev, xv⟩ := ints_own (ds := bs) O j (by have := HJ.out; omega); subst ev; rw [hz] at xv; rw [hbl] at O ⊢; clear O)
      go_ret
      exact ⟨rfl, g⟩


end Go.Proofs.YtnmppmmanigpcaaDoor
namespace Go.Proofs.YtnmppmmanigpcaaDoor
open Go.RowKit Go.BigFrame Go.Proofs.YtnmppmmanigpcaaDoor.Ev
set_option linter.unusedVariables false
set_option linter.unusedSimpArgs false

set_option maxRecDepth 100000 in
set_option maxHeartbeats 8000000 in
theorem refItemOf7_any (q : Qy) (hq : q.fit) (s : ByteArray) (hs : s.size ≤ 140737488351232) (cs : Array Value) (ai : Option Addr) (ci : Nat) (aw : Option Addr) (cw : Nat) (ar : Option Addr) (cr : Nat) (w : World) (A : IsQ w q cs ai ci aw cw ar cr) :
    Calls Tryd.prog 54 #[.agg cs, .string s] w fun e w' => e = .returned (.int .i64 (itmI q.items s)) ∧ Below w.heap.size w w' := by
  obtain ⟨he, Ai, _, _, si, _, _⟩ := A
  subst he
  have hnn := hq.n
  have B0 := galloc (Below.refl w.heap.size w) (.cells #[.slice ai q.items.length ci, .int .i64 q.mode, .int .i64 q.after, .slice aw q.wh.length cw, .int .i64 q.within, .string q.by_, .slice ar q.ret.length cr] 31)
  have S0 := Bk.new w #[.slice ai q.items.length ci, .int .i64 q.mode, .int .i64 q.after, .slice aw q.wh.length cw, .int .i64 q.within, .string q.by_, .slice ar q.ret.length cr] 31
  go_enter Tryd.func54, Tryd.ntmps54
  go_wp2
  generalize w.alloc (.cells #[.slice ai q.items.length ci, .int .i64 q.mode, .int .i64 q.after, .slice aw q.wh.length cw, .int .i64 q.within, .string q.by_, .slice ar q.ret.length cr] 31) = V at *
  go_loopw [5] (fun x wr => ∃ k : Nat, k ≤ q.items.length ∧ x = .int .i64 k ∧ itemF q.items k s = none ∧ Below V.heap.size V wr) (fun x _ => q.items.length - (intOf x).toNat)
  case atStart => exact ⟨0, Nat.zero_le _, rfl, rfl, Below.refl _ _⟩
  case round =>
    obtain ⟨k, hk, rfl, hF, G⟩ := hrel
    obtain ⟨s0, _⟩ := (S0.keep G).at7
    by_cases hlt : k < q.items.length
    · have hki : (k : Int) < (q.items.length : Int) := by omega
      obtain ⟨g, o, e1, a, c, x0, x1, x2, x3, x4, I, sl⟩ := (Ai.keep (gtrans B0 G)) k hlt
      rw [e1] at s0
      have hstep : itemF q.items (k + 1) s = if s = (q.items.getD k noIt).v then some (k : Int) else none := by
        show (match itemF q.items k s with | some i => some i | none => _) = _
        rw [hF]
      have hvz := (hq.its k).v
      have hmono : itemF q.items (k + 1) s = some (k : Int) → itmI q.items s = (k : Int) := fun h => by
        have go : ∀ m, k + 1 ≤ m → itemF q.items m s = some (k : Int) := by
          intro m hm
          induction m with
          | zero => omega
          | succ m ih =>
            by_cases e : m = k
            · subst e; exact h
            · show (match itemF q.items m s with | some i => some i | none => _) = _
              rw [ih (by omega)]
        unfold itmI
        rw [go _ (by omega)]
        rfl
      generalize (q.items.getD k noIt).v = iv at *
      by_cases e : s = iv
      · rw [if_pos e] at hstep
        have hI := show Hid (_ = _) from hmono hstep
        subst e
        clear hF hstep hmono x0 x1 x3 x4
        go_wp2
        go_ret
        exact ⟨by rw [hI.out]; rfl, gtrans B0 G⟩
      · rw [if_neg e] at hstep
        have ne1 : s.toList ≠ iv.toList := fun h => e (bytes_eqU.1 h)
        have ne2 : iv.toList ≠ s.toList := fun h => e (bytes_eqU.1 h.symm)
        have nb1 : (s.toList == iv.toList) = false := beq_eq_false_iff_ne.2 ne1
        have nb2 : (iv.toList == s.toList) = false := beq_eq_false_iff_ne.2 ne2
        have hS := show Hid (_ = _) from hstep
        clear hF hstep hmono x0 x1 x3 x4
        go_wp2
        go_roundw
        case rel => exact ⟨k + 1, by omega, by go_num, hS.out, by first | exact G | exact G.drew⟩
        case measure => simp [intOf]; omega
    · have hkn : k = q.items.length := by omega
      subst hkn
      have hI : Hid (itmI q.items s = -1) := by show _ = _; unfold itmI; rw [hF]; rfl
      clear hF
      go_wp2
      go_ret
      exact ⟨by rw [hI.out]; rfl, gtrans B0 G⟩

set_option maxHeartbeats 2000000 in
theorem refTruth7_any (op : Int) (w : World) : Calls Tryd.prog 84 #[.int .i64 op] w fun e w' => e = .returned (.bool (kTr op)) ∧ w' = w := by
  by_cases h2 : op = 2
  · subst h2
    go_enter Tryd.func84, Tryd.ntmps84
    go_wp2
    go_ret
    exact ⟨rfl, rfl⟩
  have e2 : (op == 2) = false := beq_eq_false_iff_ne.2 h2
  by_cases h3 : op = 3
  · subst h3
    go_enter Tryd.func84, Tryd.ntmps84
    go_wp2
    go_ret
    exact ⟨rfl, rfl⟩
  have e3 : (op == 3) = false := beq_eq_false_iff_ne.2 h3
  by_cases h13 : op = 13
  · subst h13
    go_enter Tryd.func84, Tryd.ntmps84
    go_wp2
    go_ret
    exact ⟨rfl, rfl⟩
  have e13 : (op == 13) = false := beq_eq_false_iff_ne.2 h13
  by_cases h25 : op = 25
  · subst h25
    go_enter Tryd.func84, Tryd.ntmps84
    go_wp2
    go_ret
    exact ⟨rfl, rfl⟩
  have e25 : (op == 25) = false := beq_eq_false_iff_ne.2 h25
  by_cases h26 : op = 26
  · subst h26
    go_enter Tryd.func84, Tryd.ntmps84
    go_wp2
    go_ret
    exact ⟨rfl, rfl⟩
  have e26 : (op == 26) = false := beq_eq_false_iff_ne.2 h26
  by_cases h19 : 19 ≤ op
  · by_cases h24 : op ≤ 24
    · have hv : kTr op = true := decide_eq_true (.inr (.inr (.inr ⟨h19, h24⟩)))
      rw [hv]
      clear hv
      go_enter Tryd.func84, Tryd.ntmps84
      go_wp2
      go_ret
      exact ⟨rfl, rfl⟩
    · have hv : kTr op = false := decide_eq_false (by omega)
      rw [hv]
      clear hv
      go_enter Tryd.func84, Tryd.ntmps84
      go_wp2
      go_ret
      exact ⟨rfl, rfl⟩
  · have hv : kTr op = false := decide_eq_false (by omega)
    rw [hv]
    clear hv
    go_enter Tryd.func84, Tryd.ntmps84
    go_wp2
    go_ret
    exact ⟨rfl, rfl⟩
theorem refMentions_any (op : Int) (w : World) : Calls Tryd.prog 53 #[.int .i64 op] w fun e w' => e = .returned (.bool (kMent op)) ∧ w' = w := by
  by_cases h4 : 4 ≤ op
  · by_cases h11 : op ≤ 11
    · have hv : kMent op = true := decide_eq_true ⟨h4, h11⟩
      rw [hv]
      clear hv
      go_enter Tryd.func53, Tryd.ntmps53
      go_wp2
      go_ret
      exact ⟨rfl, rfl⟩
    · have hv : kMent op = false := decide_eq_false (by omega)
      rw [hv]
      clear hv
      go_enter Tryd.func53, Tryd.ntmps53
      go_wp2
      go_ret
      exact ⟨rfl, rfl⟩
  · have hv : kMent op = false := decide_eq_false (by omega)
    rw [hv]
    clear hv
    go_enter Tryd.func53, Tryd.ntmps53
    go_wp2
    go_ret
    exact ⟨rfl, rfl⟩
theorem kKid_none (t : List Nd) (op : Int) : kKid t op (-1) = false := rfl
theorem kKid_nat (t : List Nd) (op : Int) (j : Nat) : kKid t op (j : Int) = (kTr (t.getD j noNd).op != kJoin op) := by
  unfold kKid
  rw [decide_eq_true (Int.natCast_nonneg j), Bool.true_and, Int.toNat_natCast]
theorem kFit_eq (t : List Nd) (n : Nd) : kFit t n = (!kKid t n.op n.l && !kKid t n.op n.r) := by
  unfold kFit
  cases kKid t n.op n.l <;> cases kKid t n.op n.r <;> rfl
set_option maxRecDepth 100000 in
set_option maxHeartbeats 8000000 in
theorem refFits_any (ns : List Nd) (ht : treeB ns = true) (k : Nat) (hk : k < ns.length) (ao : Option Addr) (cap : Nat) (w : World) (AN : IsNds w ao ns) (hr : ns.length * 64 ≤ 140737488351232) :
    Calls Tryd.prog 55 #[.slice ao ns.length cap, .int .i64 (k : Int)] w fun e w' => e = .returned (.bool (kFit ns (ns.getD k noNd))) ∧ Below w.heap.size w w' := by
  obtain ⟨_, _, _, KN⟩ := tree_bs ht
  have K := KN k hk
  have B1 := galloc (Below.refl w.heap.size w) (.cells (ndA (ns.getD k noNd)) 63)
  have N1 := Bk.new w (ndA (ns.getD k noNd)) 63
  have AN1 := AN.keep B1
  obtain ⟨g, o, rfl, x0, x1, x2, x3, x4, x5⟩ := AN k hk
  have hop : ∀ j : Nat, j < ns.length → (w.alloc (.cells (ndA (ns.getD k noNd)) 63)).cell? ⟨g, o + j * 6, none⟩ = some (.int .i64 (ns.getD j noNd).op) := fun j hj => by
    obtain ⟨g', o', e', y0, _⟩ := AN1 j hj
    cases e'
    exact y0
  have hki : (k : Int) < (ns.length : Int) := by omega
  obtain ⟨n, hn⟩ : ∃ n, ns.length = n := ⟨_, rfl⟩
  rw [hn] at hki hr hop hk
  rw [hn, kFit_eq]
  have hkl := hop
  obtain ⟨_, ⟨ho1, ho2⟩, hhow⟩ := K
  generalize ns.getD k noNd = y at *
  obtain ⟨yop, yn, yv, yx, yl, yr⟩ := y
  unfold ndA at *
  dsimp only at *
  rcases hhow with ⟨h11, _, rfl, rfl⟩ | ⟨h12, hk0, rfl, rfl, _⟩ | ⟨h14, hk0, hb1, rfl, rfl, _⟩
  · rw [kKid_none]
    have e12 : (yop == 12) = false := beq_eq_false_iff_ne.2 (by omega)
    have e13 : (yop == 13) = false := beq_eq_false_iff_ne.2 (by omega)
    have e25 : (yop == 25) = false := beq_eq_false_iff_ne.2 (by omega)
    have e26 : (yop == 26) = false := beq_eq_false_iff_ne.2 (by omega)
    have h14 : ¬ 14 ≤ yop := by omega
    clear hop hkl hn
    go_enter Tryd.func55, Tryd.ntmps55
    go_upto_region 2 with fail
    generalize w.alloc _ = V at *
    obtain ⟨m0, m1, m2, m3, m4, m5⟩ := N1.at6
    go_wp2
    go_ret
    exact ⟨rfl, B1⟩
  · obtain ⟨j, hj⟩ : ∃ j, k - 1 = j := ⟨_, rfl⟩
    rw [hj] at N1 B1 hop ⊢
    have c0 := hop j (by omega)
    have hji : (j : Int) < (n : Int) := by omega
    rw [kKid_none, kKid_nat]
    have ct := fun u => refTruth7_any (ns.getD j noNd).op u
    generalize (ns.getD j noNd).op = zop at *
    clear hop hkl hn
    rcases h12 with rfl | rfl
    all_goals
      go_enter Tryd.func55, Tryd.ntmps55
      go_upto_region 2 with fail
      generalize w.alloc _ = V at *
      obtain ⟨m0, m1, m2, m3, m4, m5⟩ := N1.at6
      go_wp2_with (go_at_call 84; (with_reducible refine (ct _).mono ?_); rintro e u ⟨rfl, hu⟩; have hu' := hu.symm; subst hu')
      go_ret
      exact ⟨by cases kTr zop <;> rfl, B1⟩
  · obtain ⟨jr, hjr⟩ : ∃ j, k - 1 = j := ⟨_, rfl⟩
    rw [hjr] at N1 B1 hop hb1 ⊢
    obtain ⟨jl, hjl⟩ : ∃ j, bg (bsOf ns) jr - 1 = j := ⟨_, rfl⟩
    have hle := (KN jr (by omega)).le
    rw [hjl] at N1 B1 hop ⊢
    have c0 := hop jl (by omega)
    have c1 := hop jr (by omega)
    have hli : (jl : Int) < (n : Int) := by omega
    have hri : (jr : Int) < (n : Int) := by omega
    rw [kKid_nat, kKid_nat]
    have ctl := fun u => refTruth7_any (ns.getD jl noNd).op u
    have ctr := fun u => refTruth7_any (ns.getD jr noNd).op u
    generalize (ns.getD jl noNd).op = lop at *
    generalize (ns.getD jr noNd).op = rop at *
    generalize kTr lop = tl at *
    generalize kTr rop = tr at *
    clear hop hkl hn
    by_cases h25 : yop = 25 ∨ yop = 26
    · have hJ : kJoin yop = true := decide_eq_true (.inr h25)
      rw [hJ]
      have e12 : (yop == 12) = false := beq_eq_false_iff_ne.2 (by omega)
      have e13 : (yop == 13) = false := beq_eq_false_iff_ne.2 (by omega)
      have h24 : ¬ yop ≤ 24 := by omega
      clear hJ
      rcases h25 with rfl | rfl
      all_goals
        cases tl <;> cases tr
        all_goals
          go_enter Tryd.func55, Tryd.ntmps55
          go_upto_region 2 with fail
          generalize w.alloc _ = V at *
          obtain ⟨m0, m1, m2, m3, m4, m5⟩ := N1.at6
          go_wp2_with (first
            | (go_at_call 84; (with_reducible refine (ctl _).mono ?_); rintro e u ⟨rfl, hu⟩; have hu' := hu.symm; subst hu')
            | (go_at_call 84; (with_reducible refine (ctr _).mono ?_); rintro e u ⟨rfl, hu⟩; have hu' := hu.symm; subst hu'))
          go_ret
          exact ⟨rfl, B1⟩
    · have hJ : kJoin yop = false := decide_eq_false (by omega)
      rw [hJ]
      have e12 : (yop == 12) = false := beq_eq_false_iff_ne.2 (by omega)
      have e13 : (yop == 13) = false := beq_eq_false_iff_ne.2 (by omega)
      have h24 : yop ≤ 24 := by omega
      clear hJ h25
      cases tl <;> cases tr
      all_goals
        go_enter Tryd.func55, Tryd.ntmps55
        go_upto_region 2 with fail
        generalize w.alloc _ = V at *
        obtain ⟨m0, m1, m2, m3, m4, m5⟩ := N1.at6
        go_wp2_with (first
          | (go_at_call 84; (with_reducible refine (ctl _).mono ?_); rintro e u ⟨rfl, hu⟩; have hu' := hu.symm; subst hu')
          | (go_at_call 84; (with_reducible refine (ctr _).mono ?_); rintro e u ⟨rfl, hu⟩; have hu' := hu.symm; subst hu'))
        go_ret
        exact ⟨rfl, B1⟩
set_option maxRecDepth 100000 in
set_option maxHeartbeats 16000000 in
theorem refRunnable_any (q : Qy) (hq : q.fit) (ns : List Nd) (ao : Option Addr) (cap : Nat) (cs : Array Value) (ai : Option Addr) (ci : Nat) (aw : Option Addr) (cw : Nat) (ar : Option Addr) (cr : Nat) (w : World) (K : KwAt w) (AQ : IsQ w q cs ai ci aw cw ar cr) (AN : IsNds w ao ns) (hr : ns.length * 64 ≤ 140737488351232) (hf : ∀ k, (ns.getD k noNd).fit) :
    Calls Tryd.prog 26 #[.agg cs, .slice ao ns.length cap] w fun e w' => e = .returned (.bool (runB (itemF q.items q.items.length) ns)) ∧ Below w.heap.size w w' := by
  obtain ⟨he, _⟩ := id AQ
  subst he
  have B0 := galloc (Below.refl w.heap.size w) (.cells #[.slice ai q.items.length ci, .int .i64 q.mode, .int .i64 q.after, .slice aw q.wh.length cw, .int .i64 q.within, .string q.by_, .slice ar q.ret.length cr] 31)
  have Q0 := Bk.new w #[.slice ai q.items.length ci, .int .i64 q.mode, .int .i64 q.after, .slice aw q.wh.length cw, .int .i64 q.within, .string q.by_, .slice ar q.ret.length cr] 31
  obtain ⟨M, hMM⟩ : ∃ M, itemF q.items q.items.length = M := ⟨_, rfl⟩
  have cI := fun (s : ByteArray) (hs : s.size ≤ 140737488351232) (u : World) (G : Below w.heap.size w u) => refItemOf7_any q hq s hs _ ai ci aw cw ar cr u (AQ.keep G)
  unfold itmI at cI
  rw [hMM] at cI
  rw [hMM]
  have hM0 : ∀ s i, M s = some i → 0 ≤ i := fun s i h => by rw [← hMM] at h; exact (itemF_some h).1
  clear hMM
  have c1 := refTree_any ns ao cap _ (K.keep B0) (AN.keep B0) hr hf
  cases ht : treeB ns with
  | false =>
    have hv : runB M ns = false := by unfold runB; rw [ht]; rfl
    rw [hv]
    rw [ht] at c1
    clear hv ht
    go_enter Tryd.func26, Tryd.ntmps26
    go_wp2_with (first | (go_at_call 52; (with_reducible refine c1.mono ?_); rintro e u ⟨rfl, g1⟩))
    go_ret
    exact ⟨rfl, gtrans B0 g1⟩
  | true =>
    rw [ht] at c1
    have HT : Hid (treeB ns = true) := ht
    clear ht
    obtain ⟨v, hv⟩ : ∃ v, runB M ns = v := ⟨_, rfl⟩
    rw [hv]
    have HV : Hid (runB M ns = v) := hv
    clear hv
    go_enter Tryd.func26, Tryd.ntmps26
    go_upto_region 5 with (first | (go_at_call 52; (with_reducible refine c1.mono ?_); rintro e u ⟨rfl, g1⟩))
    have Qu := Q0.keep g1
    have Gu := gtrans B0 g1
    have Nu := AN.keep Gu
    clear c1
    obtain ⟨n, hn⟩ : ∃ n, ns.length = n := ⟨_, rfl⟩
    have cF := fun (k : Nat) (hk : k < n) (z : World) (G : Below u.heap.size u z) => refFits_any ns HT.out k (by omega) ao cap z (Nu.keep G) hr
    rw [hn] at hr cF ⊢
    go_loopw [6] (fun x wr => ∃ k : Nat, k ≤ n ∧ x = .int .i64 (k : Int) ∧ runK M ns k ∧ Below u.heap.size u wr) (fun x _ => n - (intOf x).toNat)
    case atStart => exact ⟨0, Nat.zero_le _, rfl, fun i hi => absurd hi (Nat.not_lt_zero _), Below.refl _ _⟩
    case round =>
      obtain ⟨k, hk, rfl, hK, G⟩ := hrel
      by_cases hlt : k < n
      · have hkn : k < ns.length := by omega
        have hki : (k : Int) < (n : Int) := by omega
        obtain ⟨g, o, rfl, x0, x1, x2, x3, x4, x5⟩ := (Nu.keep G) k hkn
        have Q1 := Qu.keep G
        obtain ⟨t0, t1, t2, t3, t4, t5, t6⟩ := Q1.at7
        have hfk := (hf k).v
        have HN : Hid (runN M ns (ns.getD k noNd) = (kFit ns (ns.getD k noNd) && (!kMent (ns.getD k noNd).op || (M (ns.getD k noNd).v).isSome))) := rfl
        have hgo : runN M ns (ns.getD k noNd) = true → runK M ns (k + 1) := fun h i hi => by
          by_cases e : i = k
          · subst e; exact h
          · exact hK i (by omega)
        have hno : runN M ns (ns.getD k noNd) = false → v = false := fun h => by
          have := run_not hkn h
          rw [HV.out] at this
          exact this
        have HG := show Hid (_ → _) from hgo
        have HO := show Hid (_ → _) from hno
        have cF1 := cF k hlt
        have cI1 := cI (ns.getD k noNd).v hfk
        obtain ⟨fb, hfb⟩ : ∃ b, kFit ns (ns.getD k noNd) = b := ⟨_, rfl⟩
        rw [hfb] at cF1 HN
        generalize ns.getD k noNd = y at *
        obtain ⟨yop, yn, yv, yx, yl, yr⟩ := y
        dsimp only at *
        obtain ⟨iv, hiv⟩ : ∃ iv, (M yv).getD (-1) = iv := ⟨_, rfl⟩
        rw [hiv] at cI1
        have hneg : (M yv).isSome = !decide (iv < 0) := by
          rw [← hiv]
          cases hm : M yv with
          | none => rfl
          | some i =>
            have := hM0 yv i hm
            show true = !decide (i < 0)
            rw [decide_eq_false (by omega)]
            rfl
        have HNG := show Hid (_ = _) from hneg
        clear hgo hno hfb hiv hneg cI cF hf
        have hne0 : Nonempty (Ext wr) := ⟨⟨_, Below.refl _ _⟩⟩
        have p0 := fun z : Ext wr => (z.cell _ _ (lt_of_cell x0)).trans x0
        have p2 := fun z : Ext wr => (z.cell _ _ (lt_of_cell x2)).trans x2
        have r0 := fun z : Ext wr => (z.cell _ _ (lt_of_cell t0)).trans t0
        have r1 := fun z : Ext wr => (z.cell _ _ (lt_of_cell t1)).trans t1
        have r2 := fun z : Ext wr => (z.cell _ _ (lt_of_cell t2)).trans t2
        have r3 := fun z : Ext wr => (z.cell _ _ (lt_of_cell t3)).trans t3
        have r4 := fun z : Ext wr => (z.cell _ _ (lt_of_cell t4)).trans t4
        have r5 := fun z : Ext wr => (z.cell _ _ (lt_of_cell t5)).trans t5
        have r6 := fun z : Ext wr => (z.cell _ _ (lt_of_cell t6)).trans t6
        have GU := gtrans Gu G
        have y1 := fun z : Ext wr => ext_of ((refMentions_any yop z.X).mono fun e w' h => (⟨h.1, by rw [h.2]; exact Below.refl _ _⟩ : _ ∧ Below z.X.heap.size z.X w'))
        have y2 := fun z : Ext wr => ext_of (cI1 z.X (gtrans GU z.h))
        obtain ⟨mb, hmb⟩ : ∃ b, kMent yop = b := ⟨_, rfl⟩
        rw [hmb] at HN y1
        cases mb with
        | false =>
          go_upto_region 7 with fail
          refine wp_region_ext (by kernel_rfl) (by kernel_rfl) ?_
          repeat (go_big_quiet_step (first | (go_at_call 53; with_reducible exact y1 _) | (go_at_call 54; with_reducible exact y2 _)))
          refine wpQuiet_nil ?_
          intro _ hw'
          obtain ⟨nz, hw''⟩ := hw'
          subst hw''
          have GX := gtrans G nz.h
          have cX := cF1 nz.X GX
          generalize nz.X = X at *
          cases fb with
          | false =>
            have hvf : v = false := HO.out (by rw [HN.out]; rfl)
            subst hvf
            go_wp2_with (go_at_call 55; (with_reducible refine cX.mono ?_); rintro e u2 ⟨rfl, g2⟩)
            go_ret
            exact ⟨rfl, gtrans (gtrans Gu GX) g2⟩
          | true =>
            have hnext := HG.out (by rw [HN.out]; rfl)
            have HX := show Hid _ from hnext
            clear hnext
            go_wp2_with (go_at_call 55; (with_reducible refine cX.mono ?_); rintro e u2 ⟨rfl, g2⟩)
            go_roundw
            case rel => exact ⟨k + 1, by omega, by go_num, HX.out, gtrans GX g2⟩
            case measure => simp [intOf]; omega
        | true =>
          by_cases hi0 : iv < 0
          · have hvf : v = false := HO.out (by rw [HN.out, HNG.out, decide_eq_true hi0]; cases fb <;> rfl)
            subst hvf
            go_upto_region 7 with fail
            refine wp_region_ext (by kernel_rfl) (by kernel_rfl) ?_
            repeat (go_big_quiet_step (first | (go_at_call 53; with_reducible exact y1 _) | (go_at_call 54; with_reducible exact y2 _)))
            refine wpQuiet_nil ?_
            intro _ hw'
            obtain ⟨nz, hw''⟩ := hw'
            subst hw''
            have GX := gtrans G nz.h
            have cX := cF1 nz.X GX
            generalize nz.X = X at *
            go_wp2
            go_ret
            exact ⟨rfl, gtrans Gu GX⟩
          · have hsm : (M yv).isSome = true := by rw [HNG.out, decide_eq_false hi0]; rfl
            have HSM := show Hid (_ = _) from hsm
            clear hsm
            go_upto_region 7 with fail
            refine wp_region_ext (by kernel_rfl) (by kernel_rfl) ?_
            repeat (go_big_quiet_step (first | (go_at_call 53; with_reducible exact y1 _) | (go_at_call 54; with_reducible exact y2 _)))
            refine wpQuiet_nil ?_
            intro _ hw'
            obtain ⟨nz, hw''⟩ := hw'
            subst hw''
            have GX := gtrans G nz.h
            have cX := cF1 nz.X GX
            generalize nz.X = X at *
            cases fb with
            | false =>
              have hvf : v = false := HO.out (by rw [HN.out]; rfl)
              subst hvf
              go_wp2_with (go_at_call 55; (with_reducible refine cX.mono ?_); rintro e u2 ⟨rfl, g2⟩)
              go_ret
              exact ⟨rfl, gtrans (gtrans Gu GX) g2⟩
            | true =>
              have hnext := HG.out (by rw [HN.out]; rw [HSM.out]; rfl)
              have HX := show Hid _ from hnext
              clear hnext
              go_wp2_with (go_at_call 55; (with_reducible refine cX.mono ?_); rintro e u2 ⟨rfl, g2⟩)
              go_roundw
              case rel => exact ⟨k + 1, by omega, by go_num, HX.out, gtrans GX g2⟩
              case measure => simp [intOf]; omega
      · obtain rfl : k = n := by omega
        have hv : v = true := HV.out.symm.trans (run_all HT.out (by rw [hn]; exact hK))
        subst hv
        go_wp2
        go_ret
        exact ⟨rfl, gtrans Gu G⟩

end Go.Proofs.YtnmppmmanigpcaaDoor
namespace Go.Proofs.YtnmppmmanigpcaaDoor
open Go.RowKit Go.BigFrame Go.Proofs.YtnmppmmanigpcaaDoor.Ev
set_option linter.unusedVariables false
set_option linter.unusedSimpArgs false

set_option maxRecDepth 100000 in
set_option maxHeartbeats 4000000 in
theorem refColumn_any (l : List ByteArray) (U : Uniq l) (x : ByteArray) (lo : Option Addr) (lc : Nat) (w : World) (A : IsSs w lo l) (hl : l.length ≤ 140737488351232) :
    Calls Tryd.prog 56 #[.slice lo l.length lc, .string x] w fun e w' => e = .returned (.int .i64 (colI l x)) ∧ Below w.heap.size w w' := by
  obtain ⟨n, hn⟩ : ∃ n, l.length = n := ⟨_, rfl⟩
  have HN := show Hid (_ = _) from hn
  rw [hn] at hl ⊢
  obtain ⟨z, hz⟩ : ∃ z, colI l x = z := ⟨_, rfl⟩
  rw [hz]
  have HZ := show Hid (_ = _) from hz
  clear hn hz
  go_enter Tryd.func56, Tryd.ntmps56
  go_wp2
  go_loopw [5] (fun i wr => (∃ k : Nat, k ≤ n ∧ i = .int .i64 (k : Int) ∧ ∀ j, j < k → l.getD j eS ≠ x) ∧ Below w.heap.size w wr) (fun i _ => n - (intOf i).toNat)
  case atStart => exact ⟨⟨0, Nat.zero_le _, rfl, fun j hj => absurd hj (Nat.not_lt_zero _)⟩, Below.refl _ _⟩
  case round =>
    obtain ⟨⟨k, hk, rfl, hno⟩, G⟩ := hrel
    by_cases hlt : k < n
    · have hki : (k : Int) < (n : Int) := by omega
      obtain ⟨g, o, rfl, c0⟩ := (A.keep G) k (by rw [HN.out]; exact hlt)
      by_cases e : l.getD k eS = x
      · have hv : z = (k : Int) := by
          rw [← HZ.out, ← e]
          unfold colI
          rw [colF_at U (by rw [HN.out]; exact hlt)]
          rfl
        rw [e] at c0
        have HV := show Hid (_ = _) from hv
        clear hno A hv e U
        go_wp2
        go_ret
        exact ⟨by rw [HV.out]; rfl, G⟩
      · have hno2 : ∀ j, j < k + 1 → l.getD j eS ≠ x := fun j hj => by
          by_cases ej : j = k
          · subst ej; exact e
          · exact hno j (by omega)
        have HNO := show Hid (∀ j, j < k + 1 → l.getD j eS ≠ x) from hno2
        have ne1 : (l.getD k eS).toList ≠ x.toList := fun h => e (bytes_eqU.1 h)
        have nb1 : ((l.getD k eS).toList == x.toList) = false := beq_eq_false_iff_ne.2 ne1
        generalize l.getD k eS = y at *
        clear hno hno2 A e U
        go_wp2
        go_roundw
        case rel => exact ⟨⟨k + 1, by omega, by go_num, HNO.out⟩, by first | exact G | exact G.drew⟩
        case measure => simp [intOf]; omega
    · obtain rfl : k = n := by omega
      have hv : z = -1 := by
        rw [← HZ.out]
        unfold colI
        rw [colF_none.2 fun j hj => hno j (by rw [← HN.out]; exact hj)]
        rfl
      have HV := show Hid (_ = _) from hv
      clear hno A hv U
      go_wp2
      go_ret
      exact ⟨by rw [HV.out]; rfl, G⟩
theorem colI_neg {l : List ByteArray} {x : ByteArray} : colI l x < 0 ↔ colF l x = none := by
  unfold colI
  cases h : colF l x with
  | none => exact ⟨fun _ => rfl, fun _ => by decide⟩
  | some i =>
    have := colF_lt h
    constructor
    · intro h2
      have : i < 0 := h2
      omega
    · intro h2; cases h2
theorem nm_len (L : List Ty) (M : ByteArray → Option Int) (ns : List Nd) : ∀ k, (nmK L M ns k).length ≤ k
  | 0 => Nat.le_refl _
  | k + 1 => by
    rw [nm_succ]
    have := nm_len L M ns k
    split
    · rw [List.length_append, List.length_singleton]; omega
    · omega
set_option maxRecDepth 100000 in
set_option maxHeartbeats 8000000 in
theorem refNames_any (L : List Ty) (M : ByteArray → Option Int) (ns : List Nd) (ao : Option Addr) (cap : Nat) (w : World) (A : IsNds w ao ns) (hr : ns.length * 64 ≤ 140737488351232) :
    Calls Tryd.prog 27 #[.slice ao ns.length cap] w fun e w' => ∃ v, e = .returned v ∧ w'.ownsRow w.heap.size 9 1 v (nmK L M ns ns.length).length (ssV (nmK L M ns ns.length)) ∧ Below w.heap.size w w' := by
  obtain ⟨i0, hi, hz0, hz1, hz2⟩ := nf_info nf_str
  obtain ⟨n, hn⟩ : ∃ n, ns.length = n := ⟨_, rfl⟩
  have HN := show Hid (_ = _) from hn
  rw [hn] at hr ⊢
  clear hn
  go_enter Tryd.func27, Tryd.ntmps27
  go_wp2
  go_loopw [3, 4, 5] (fun v i _ wr => (∃ k : Nat, k ≤ n ∧ i = .int .i64 (k : Int) ∧ wr.ownsRow w.heap.size 9 1 v (nmK L M ns k).length (ssV (nmK L M ns k))) ∧ Below w.heap.size w wr) (fun _ i _ _ => n - (intOf i).toNat)
  case atStart => exact ⟨⟨0, Nat.zero_le _, rfl, World.ownsRow_nil _ _ _ _⟩, Below.refl _ _⟩
  case round =>
    obtain ⟨⟨k, hk, rfl, O⟩, G⟩ := hrel
    by_cases hlt : k < n
    · have hki : (k : Int) < (n : Int) := by omega
      obtain ⟨g, o, rfl, x0, x1, x2, x3, x4, x5⟩ := (A.keep G) k (by rw [HN.out]; exact hlt)
      have hs := nm_succ (L := L) (M := M) (ns := ns) k
      have hl := nm_len L M ns k
      obtain ⟨oa, oc, rfl, _, _, _⟩ := own_form O
      have cc := refColumn_any (nmK L M ns k) (nm_uniq k) (ns.getD k noNd).x oa oc wr (own_ss O) (by omega)
      have cm := fun u => refMentions_any (ns.getD k noNd).op u
      have hneg := colI_neg (l := nmK L M ns k) (x := (ns.getD k noNd).x)
      have hsz := G.size
      unfold hasCol at hs
      generalize ns.getD k noNd = y at *
      obtain ⟨yop, yn, yv, yx, yl, yr⟩ := y
      dsimp only at *
      by_cases hm : kMent yop = true
      · by_cases h5 : yop = 5
        · subst h5
          rw [if_neg (fun e => absurd e.1 (by simp))] at hs
          have HS := show Hid (_ = _) from hs
          have HO := show Hid _ from O
          clear hs cc hneg O A x1 x2 x4 x5
          go_wp2_with (go_at_call 53; (with_reducible refine (cm _).mono ?_); rintro e u ⟨rfl, hu⟩; have hu' := hu.symm; subst hu')
          go_roundw
          case rel => exact ⟨⟨k + 1, by omega, by go_num, by rw [HS.out]; exact HO.out⟩, G⟩
          case measure => simp [intOf]; omega
        · have e5 : (yop == 5) = false := beq_eq_false_iff_ne.2 h5
          have h5b : (yop != 5) = true := by simp [h5]
          rw [hm] at cm hs
          by_cases hc : colI (nmK L M ns k) yx < 0
          · rw [if_pos ⟨by rw [decide_eq_false h5]; rfl, hneg.1 hc⟩] at hs
            have HS := show Hid (_ = _) from hs
            have hlen : (nmK L M ns (k + 1)).length = (nmK L M ns k).length + 1 := by rw [hs, List.length_append]; rfl
            have HL := show Hid (_ = _) from hlen
            have hsv : ssV (nmK L M ns (k + 1)) = ssV (nmK L M ns k) ++ [.string yx] := by rw [hs]; unfold ssV; rw [List.map_append]; rfl
            have HSV := show Hid (_ = _) from hsv
            generalize colI (nmK L M ns k) yx = z at *
            clear hs hlen hsv hneg A x1 x2 x4 x5
            generalize (nmK L M ns k).length = m at *
            go_wp2_with (first
              | (go_at_call 53; (with_reducible refine (cm _).mono ?_); rintro e u ⟨rfl, hu⟩; have hu' := hu.symm; subst hu')
              | (go_at_call 56; (with_reducible refine cc.mono ?_); rintro e u1 ⟨rfl, g1⟩; have y3 := (g1.cell (p := ⟨_, _, none⟩) (lt_of_cell x3)).trans x3; have O1 := own_keep O g1; have hzg := g1.size)
              | (at_builtin; refine wpList_append_own _ rfl (.tmp 33) (.tmp 39) 64 rfl w.heap.size 9 i0 (.string ⟨#[]⟩) 1 16 Tryd.underlying64 hi hz0 hz1 hz2 rfl (by decide) _ _ _ rfl (O1.alloc _) ⟨u1.heap.size, 0, none⟩ 1 1 [.string yx] rfl rfl (one_newE rfl _ _) (fun u hu => by simp at hu; subst hu; rfl) ?c3 ?c4 ?c5 ?_))
            case c3 => unfold maxLen; omega
            case c4 => omega
            case c5 => simp; omega
            intro v' w1 own' hgrow _
            have O2 : w1.ownsRow w.heap.size 9 1 v' (nmK L M ns (k + 1)).length (ssV (nmK L M ns (k + 1))) := by rw [HL.out, HSV.out]; exact own'
            have G2 := (galloc (gtrans G g1) (.cells #[.string yx] 9)).grown hgrow (by simp; omega) (fun r e => by have := (O1.lt _ e).1; omega)
            have HO := show Hid _ from O2
            clear own' hgrow O2 O1 O
            go_wp2
            go_roundw
            case rel => exact ⟨⟨k + 1, by omega, by go_num, HO.out⟩, G2⟩
            case measure => simp [intOf]; omega
          · rw [if_neg (fun e => hc (hneg.2 e.2))] at hs
            have HS := show Hid (_ = _) from hs
            have HO := show Hid _ from O
            generalize colI (nmK L M ns k) yx = z at *
            clear hneg A x1 x2 x4 x5 hs O
            go_wp2_with (first
              | (go_at_call 53; (with_reducible refine (cm _).mono ?_); rintro e u ⟨rfl, hu⟩; have hu' := hu.symm; subst hu')
              | (go_at_call 56; (with_reducible refine cc.mono ?_); rintro e u1 ⟨rfl, g1⟩))
            go_roundw
            case rel => exact ⟨⟨k + 1, by omega, by go_num, by rw [HS.out]; exact own_keep HO.out g1⟩, gtrans G g1⟩
            case measure => simp [intOf]; omega
      · have hm2 : kMent yop = false := by cases h : kMent yop with
          | true => exact absurd h hm
          | false => rfl
        rw [if_neg (fun e => by have := e.1; rw [hm2] at this; cases this)] at hs
        have HO := show Hid _ from O
        rw [hm2] at cm
        have hs2 := show Hid (_ = _) from hs
        clear hs cc hneg O A x1 x2 x4 x5 hm
        go_wp2_with (go_at_call 53; (with_reducible refine (cm _).mono ?_); rintro e u ⟨rfl, hu⟩; have hu' := hu.symm; subst hu')
        go_roundw
        case rel => exact ⟨⟨k + 1, by omega, by go_num, by rw [hs2.out]; exact HO.out⟩, G⟩
        case measure => simp [intOf]; omega
    · obtain rfl : k = n := by omega
      go_wp2
      go_ret
      exact ⟨_, rfl, O, G⟩

end Go.Proofs.YtnmppmmanigpcaaDoor
