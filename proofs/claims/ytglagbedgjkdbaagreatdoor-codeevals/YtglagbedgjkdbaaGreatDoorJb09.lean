/- The document's Tree; the law ShowTrees, walked. And what goes with it: 5 texts in one. -/
import Derived.Test.YtglagbedgjkdbaaGreatDoorJb08
import Derived.WalkKit
import Derived.WalkSpells
import Derived.WalkLawsBesides
import Derived.Deep.RegionWith
import Derived.ProofKit
import Derived.Shelf.Spec.BitsCarry
namespace Go.Proofs.YtglagbedgjkdbaaGreatDoor
open Go.RowKit Go.BigFrame Go.Proofs.YtglagbedgjkdbaaGreatDoor.Ev
set_option linter.unusedVariables false
set_option linter.unusedSimpArgs false

set_option maxRecDepth 100000 in
set_option maxHeartbeats 4000000 in
theorem refTree_any (ns : List Nd) (ao : Option Addr) (cap : Nat) (w : World) (K : KwAt w) (A : IsNds w ao ns) (hr : ns.length * 64 ≤ 140737488351232) (hf : ∀ k, (ns.getD k noNd).fit) :
    Calls Tryz.prog 68 #[.slice ao ns.length cap] w fun e w' => e = .returned (.bool (treeB ns)) ∧ Below w.heap.size w w' := by
  have c1 := refBegins_any ns ao cap w K A hr hf
  obtain ⟨n, hn⟩ : ∃ n, ns.length = n := ⟨_, rfl⟩
  obtain ⟨v, hv⟩ : ∃ v, treeB ns = v := ⟨_, rfl⟩
  rw [hn] at hr c1 ⊢
  rw [hv]
  have HV : Hid (treeB ns = v) := hv
  clear hv
  cases hb : begsO ns [] with
  | none =>
    have hf : false = v := by rw [← HV.out]; unfold treeB; rw [hb]
    subst hf
    clear HV
    go_enter Tryz.func68, Tryz.ntmps68
    go_wp2_with (go_at_call 101; (with_reducible refine c1.mono ?_); rintro e u ⟨g, hc⟩; replace hc : e = .returned (.tuple #[.slice none 0 0, .bool false]) := (by rcases hc with ⟨_, h⟩ | ⟨bs, v, h, _⟩; exact h; (rw [hb] at h; cases h)); subst hc)
    go_ret
    exact ⟨rfl, g⟩
  | some bs =>
    have hlen := begsO_len ns [] bs hb
    have hbl : bs.length = n := by simp at hlen; omega
    have hans : decide (0 < n ∧ bs.getD (n - 1) 0 = 0) = v := by rw [← HV.out]; unfold treeB; rw [hb]; simp only; rw [hn]
    have HA : Hid (decide (0 < n ∧ bs.getD (n - 1) 0 = 0) = v) := hans
    clear hans HV
    by_cases h0 : n = 0
    · have hi0 : ¬ (0 : Int) < (n : Int) := by omega
      have d0 : decide ((0 : Int) < (n : Int)) = false := decide_eq_false hi0
      have hf : false = v := by rw [← HA.out, decide_eq_false (by omega)]
      subst hf
      clear h0
      go_enter Tryz.func68, Tryz.ntmps68
      go_wp2_with (go_at_call 101; (with_reducible refine c1.mono ?_); rintro e u ⟨g, hc⟩; replace hc : ∃ vv, e = .returned (.tuple #[vv, .bool true]) ∧ u.ownsRow w.heap.size 3 1 vv bs.length (intsV bs) := (by rcases hc with ⟨h, _⟩ | ⟨bs', v, h, h2, h3⟩; (rw [hb] at h; cases h); (rw [hb] at h; cases h; exact ⟨v, h2, h3⟩)); obtain ⟨vv, rfl, O⟩ := hc)
      go_ret
      exact ⟨rfl, g⟩
    · obtain ⟨j, hj⟩ : ∃ j, n = j + 1 := ⟨n - 1, by omega⟩
      have hji : (n : Int) - 1 = (j : Int) := by omega
      have hjn : (j : Int) < (n : Int) := by omega
      have hi0 : (0 : Int) < (n : Int) := by omega
      obtain ⟨z, hz⟩ : ∃ z, bs.getD j 0 = z := ⟨_, rfl⟩
      have hf : (z == 0) = v := by
        rw [← HA.out, show n - 1 = j by omega, hz]
        by_cases hz0 : z = 0
        · simp [hz0]; omega
        · simp [hz0]
      subst hf
      clear HA
      have HJ : Hid (n = j + 1) := hj
      clear hj h0
      go_enter Tryz.func68, Tryz.ntmps68
      go_wp2_with (go_at_call 101; (with_reducible refine c1.mono ?_); rintro e u ⟨g, hc⟩; replace hc : ∃ vv, e = .returned (.tuple #[vv, .bool true]) ∧ u.ownsRow w.heap.size 3 1 vv bs.length (intsV bs) := (by rcases hc with ⟨h, _⟩ | ⟨bs', v, h, h2, h3⟩; (rw [hb] at h; cases h); (rw [hb] at h; cases h; exact ⟨v, h2, h3⟩)); obtain ⟨vv, rfl, O⟩ := hc; obtain ⟨vo, vc, rfl, hvc, _, _⟩ := own_form O; obtain ⟨gv, ov, ev, xv⟩ := ints_own (ds := bs) O j (by have := HJ.out; omega); subst ev; rw [hz] at xv; rw [hbl] at O ⊢; clear O)
      go_ret
      exact ⟨rfl, g⟩


end Go.Proofs.YtglagbedgjkdbaaGreatDoor
namespace Go.Proofs.YtglagbedgjkdbaaGreatDoor
open Go.RowKit Go.BigFrame Go.Proofs.YtglagbedgjkdbaaGreatDoor.Ev
set_option linter.unusedVariables false
set_option linter.unusedSimpArgs false

set_option maxRecDepth 100000 in
set_option maxHeartbeats 8000000 in
theorem refItemOf7_any (q : Qy) (hq : q.fit) (s : ByteArray) (hs : s.size ≤ 140737488351232) (cs : Array Value) (ai : Option Addr) (ci : Nat) (aw : Option Addr) (cw : Nat) (ar : Option Addr) (cr : Nat) (w : World) (A : IsQ w q cs ai ci aw cw ar cr) :
    Calls Tryz.prog 70 #[.agg cs, .string s] w fun e w' => e = .returned (.int .i64 (itmI q.items s)) ∧ Below w.heap.size w w' := by
  obtain ⟨he, Ai, _, _, si, _, _⟩ := A
  subst he
  have hnn := hq.n
  have B0 := galloc (Below.refl w.heap.size w) (.cells #[.slice ai q.items.length ci, .int .i64 q.mode, .int .i64 q.after, .slice aw q.wh.length cw, .int .i64 q.within, .string q.by_, .slice ar q.ret.length cr] 31)
  have S0 := Bk.new w #[.slice ai q.items.length ci, .int .i64 q.mode, .int .i64 q.after, .slice aw q.wh.length cw, .int .i64 q.within, .string q.by_, .slice ar q.ret.length cr] 31
  go_enter Tryz.func70, Tryz.ntmps70
  go_wp2
  generalize w.alloc (.cells #[.slice ai q.items.length ci, .int .i64 q.mode, .int .i64 q.after, .slice aw q.wh.length cw, .int .i64 q.within, .string q.by_, .slice ar q.ret.length cr] 31) = V at *
  go_loopw [5] (fun x wr => ∃ k : Nat, k ≤ q.items.length ∧ x = .int .i64 k ∧ itemF q.items k s = none ∧ Below V.heap.size V wr) (fun x _ => q.items.length - (intOf x).toNat)
  case atStart => exact ⟨0, Nat.zero_le _, rfl, rfl, Below.refl _ _⟩
  case round =>
    obtain ⟨k, hk, rfl, hF, G⟩ := hrel
    obtain ⟨s0, _⟩ := (S0.keep G).at7
    by_cases hlt : k < q.items.length
    · have hki : (k : Int) < (q.items.length : Int) := by omega
      obtain ⟨g, o, e1, a, c, x0, x1, x2, x3, x4, I, sl⟩ := (Ai.keep (gtrans B0 G)) k hlt
      rw [e1] at s0
      have hstep : itemF q.items (k + 1) s = if s = (q.items.getD k noIt).v then some (k : Int) else none := by
        show (match itemF q.items k s with | some i => some i | none => _) = _
        rw [hF]
      have hvz := (hq.its k).v
      have hmono : itemF q.items (k + 1) s = some (k : Int) → itmI q.items s = (k : Int) := fun h => by
        have go : ∀ m, k + 1 ≤ m → itemF q.items m s = some (k : Int) := by
          intro m hm
          induction m with
          | zero => omega
          | succ m ih =>
            by_cases e : m = k
            · subst e; exact h
            · show (match itemF q.items m s with | some i => some i | none => _) = _
              rw [ih (by omega)]
        unfold itmI
        rw [go _ (by omega)]
        rfl
      generalize (q.items.getD k noIt).v = iv at *
      by_cases e : s = iv
      · rw [if_pos e] at hstep
        have hI := show Hid (_ = _) from hmono hstep
        subst e
        clear hF hstep hmono x0 x1 x3 x4
        go_wp2
        go_ret
        exact ⟨by rw [hI.out]; rfl, gtrans B0 G⟩
      · rw [if_neg e] at hstep
        have ne1 : s.toList ≠ iv.toList := fun h => e (bytes_eqU.1 h)
        have ne2 : iv.toList ≠ s.toList := fun h => e (bytes_eqU.1 h.symm)
        have nb1 : (s.toList == iv.toList) = false := beq_eq_false_iff_ne.2 ne1
        have nb2 : (iv.toList == s.toList) = false := beq_eq_false_iff_ne.2 ne2
        have hS := show Hid (_ = _) from hstep
        clear hF hstep hmono x0 x1 x3 x4
        go_wp2
        go_roundw
        case rel => exact ⟨k + 1, by omega, by go_num, hS.out, by first | exact G | exact G.drew⟩
        case measure => simp [intOf]; omega
    · have hkn : k = q.items.length := by omega
      subst hkn
      have hI : Hid (itmI q.items s = -1) := by show _ = _; unfold itmI; rw [hF]; rfl
      clear hF
      go_wp2
      go_ret
      exact ⟨by rw [hI.out]; rfl, gtrans B0 G⟩

set_option maxHeartbeats 2000000 in
theorem refTruth7_any (op : Int) (w : World) : Calls Tryz.prog 102 #[.int .i64 op] w fun e w' => e = .returned (.bool (kTr op)) ∧ w' = w := by
  by_cases h2 : op = 2
  · subst h2
    go_enter Tryz.func102, Tryz.ntmps102
    go_wp2
    go_ret
    exact ⟨rfl, rfl⟩
  have e2 : (op == 2) = false := beq_eq_false_iff_ne.2 h2
  by_cases h3 : op = 3
  · subst h3
    go_enter Tryz.func102, Tryz.ntmps102
    go_wp2
    go_ret
    exact ⟨rfl, rfl⟩
  have e3 : (op == 3) = false := beq_eq_false_iff_ne.2 h3
  by_cases h13 : op = 13
  · subst h13
    go_enter Tryz.func102, Tryz.ntmps102
    go_wp2
    go_ret
    exact ⟨rfl, rfl⟩
  have e13 : (op == 13) = false := beq_eq_false_iff_ne.2 h13
  by_cases h25 : op = 25
  · subst h25
    go_enter Tryz.func102, Tryz.ntmps102
    go_wp2
    go_ret
    exact ⟨rfl, rfl⟩
  have e25 : (op == 25) = false := beq_eq_false_iff_ne.2 h25
  by_cases h26 : op = 26
  · subst h26
    go_enter Tryz.func102, Tryz.ntmps102
    go_wp2
    go_ret
    exact ⟨rfl, rfl⟩
  have e26 : (op == 26) = false := beq_eq_false_iff_ne.2 h26
  by_cases h19 : 19 ≤ op
  · by_cases h24 : op ≤ 24
    · have hv : kTr op = true := decide_eq_true (.inr (.inr (.inr ⟨h19, h24⟩)))
      rw [hv]
      clear hv
      go_enter Tryz.func102, Tryz.ntmps102
      go_wp2
      go_ret
      exact ⟨rfl, rfl⟩
    · have hv : kTr op = false := decide_eq_false (by omega)
      rw [hv]
      clear hv
      go_enter Tryz.func102, Tryz.ntmps102
      go_wp2
      go_ret
      exact ⟨rfl, rfl⟩
  · have hv : kTr op = false := decide_eq_false (by omega)
    rw [hv]
    clear hv
    go_enter Tryz.func102, Tryz.ntmps102
    go_wp2
    go_ret
    exact ⟨rfl, rfl⟩
theorem refMentions_any (op : Int) (w : World) : Calls Tryz.prog 69 #[.int .i64 op] w fun e w' => e = .returned (.bool (kMent op)) ∧ w' = w := by
  by_cases h4 : 4 ≤ op
  · by_cases h11 : op ≤ 11
    · have hv : kMent op = true := decide_eq_true ⟨h4, h11⟩
      rw [hv]
      clear hv
      go_enter Tryz.func69, Tryz.ntmps69
      go_wp2
      go_ret
      exact ⟨rfl, rfl⟩
    · have hv : kMent op = false := decide_eq_false (by omega)
      rw [hv]
      clear hv
      go_enter Tryz.func69, Tryz.ntmps69
      go_wp2
      go_ret
      exact ⟨rfl, rfl⟩
  · have hv : kMent op = false := decide_eq_false (by omega)
    rw [hv]
    clear hv
    go_enter Tryz.func69, Tryz.ntmps69
    go_wp2
    go_ret
    exact ⟨rfl, rfl⟩
theorem kKid_none (t : List Nd) (op : Int) : kKid t op (-1) = false := rfl
theorem kKid_nat (t : List Nd) (op : Int) (j : Nat) : kKid t op (j : Int) = (kTr (t.getD j noNd).op != kJoin op) := by
  unfold kKid
  rw [decide_eq_true (Int.natCast_nonneg j), Bool.true_and, Int.toNat_natCast]
theorem kFit_eq (t : List Nd) (n : Nd) : kFit t n = (!kKid t n.op n.l && !kKid t n.op n.r) := by
  unfold kFit
  cases kKid t n.op n.l <;> cases kKid t n.op n.r <;> rfl
set_option maxRecDepth 100000 in
set_option maxHeartbeats 8000000 in
theorem refFits_any (ns : List Nd) (ht : treeB ns = true) (k : Nat) (hk : k < ns.length) (ao : Option Addr) (cap : Nat) (w : World) (AN : IsNds w ao ns) (hr : ns.length * 64 ≤ 140737488351232) :
    Calls Tryz.prog 71 #[.slice ao ns.length cap, .int .i64 (k : Int)] w fun e w' => e = .returned (.bool (kFit ns (ns.getD k noNd))) ∧ Below w.heap.size w w' := by
  obtain ⟨_, _, _, KN⟩ := tree_bs ht
  have K := KN k hk
  have B1 := galloc (Below.refl w.heap.size w) (.cells (ndA (ns.getD k noNd)) 64)
  have N1 := Bk.new w (ndA (ns.getD k noNd)) 64
  have AN1 := AN.keep B1
  obtain ⟨g, o, rfl, x0, x1, x2, x3, x4, x5⟩ := AN k hk
  have hop : ∀ j : Nat, j < ns.length → (w.alloc (.cells (ndA (ns.getD k noNd)) 64)).cell? ⟨g, o + j * 6, none⟩ = some (.int .i64 (ns.getD j noNd).op) := fun j hj => by
    obtain ⟨g', o', e', y0, _⟩ := AN1 j hj
    cases e'
    exact y0
  have hki : (k : Int) < (ns.length : Int) := by omega
  obtain ⟨n, hn⟩ : ∃ n, ns.length = n := ⟨_, rfl⟩
  rw [hn] at hki hr hop hk
  rw [hn, kFit_eq]
  have hkl := hop
  obtain ⟨_, ⟨ho1, ho2⟩, hhow⟩ := K
  generalize ns.getD k noNd = y at *
  obtain ⟨yop, yn, yv, yx, yl, yr⟩ := y
  unfold ndA at *
  dsimp only at *
  rcases hhow with ⟨h11, _, rfl, rfl⟩ | ⟨h12, hk0, rfl, rfl, _⟩ | ⟨h14, hk0, hb1, rfl, rfl, _⟩
  · rw [kKid_none]
    have e12 : (yop == 12) = false := beq_eq_false_iff_ne.2 (by omega)
    have e13 : (yop == 13) = false := beq_eq_false_iff_ne.2 (by omega)
    have e25 : (yop == 25) = false := beq_eq_false_iff_ne.2 (by omega)
    have e26 : (yop == 26) = false := beq_eq_false_iff_ne.2 (by omega)
    have h14 : ¬ 14 ≤ yop := by omega
    clear hop hkl hn
    go_enter Tryz.func71, Tryz.ntmps71
    go_upto_region 2 with fail
    generalize w.alloc _ = V at *
    obtain ⟨m0, m1, m2, m3, m4, m5⟩ := N1.at6
    go_wp2
    go_ret
    exact ⟨rfl, B1⟩
  · obtain ⟨j, hj⟩ : ∃ j, k - 1 = j := ⟨_, rfl⟩
    rw [hj] at N1 B1 hop ⊢
    have c0 := hop j (by omega)
    have hji : (j : Int) < (n : Int) := by omega
    rw [kKid_none, kKid_nat]
    have ct := fun u => refTruth7_any (ns.getD j noNd).op u
    generalize (ns.getD j noNd).op = zop at *
    clear hop hkl hn
    rcases h12 with rfl | rfl
    all_goals
      go_enter Tryz.func71, Tryz.ntmps71
      go_upto_region 2 with fail
      generalize w.alloc _ = V at *
      obtain ⟨m0, m1, m2, m3, m4, m5⟩ := N1.at6
      go_wp2_with (go_at_call 102; (with_reducible refine (ct _).mono ?_); rintro e u ⟨rfl, hu⟩; have hu' := hu.symm; subst hu')
      go_ret
      exact ⟨by cases kTr zop <;> rfl, B1⟩
  · obtain ⟨jr, hjr⟩ : ∃ j, k - 1 = j := ⟨_, rfl⟩
    rw [hjr] at N1 B1 hop hb1 ⊢
    obtain ⟨jl, hjl⟩ : ∃ j, bg (bsOf ns) jr - 1 = j := ⟨_, rfl⟩
    have hle := (KN jr (by omega)).le
    rw [hjl] at N1 B1 hop ⊢
    have c0 := hop jl (by omega)
    have c1 := hop jr (by omega)
    have hli : (jl : Int) < (n : Int) := by omega
    have hri : (jr : Int) < (n : Int) := by omega
    rw [kKid_nat, kKid_nat]
    have ctl := fun u => refTruth7_any (ns.getD jl noNd).op u
    have ctr := fun u => refTruth7_any (ns.getD jr noNd).op u
    generalize (ns.getD jl noNd).op = lop at *
    generalize (ns.getD jr noNd).op = rop at *
    generalize kTr lop = tl at *
    generalize kTr rop = tr at *
    clear hop hkl hn
    by_cases h25 : yop = 25 ∨ yop = 26
    · have hJ : kJoin yop = true := decide_eq_true (.inr h25)
      rw [hJ]
      have e12 : (yop == 12) = false := beq_eq_false_iff_ne.2 (by omega)
      have e13 : (yop == 13) = false := beq_eq_false_iff_ne.2 (by omega)
      have h24 : ¬ yop ≤ 24 := by omega
      clear hJ
      rcases h25 with rfl | rfl
      all_goals
        cases tl <;> cases tr
        all_goals
          go_enter Tryz.func71, Tryz.ntmps71
          go_upto_region 2 with fail
          generalize w.alloc _ = V at *
          obtain ⟨m0, m1, m2, m3, m4, m5⟩ := N1.at6
          go_wp2_with (first
            | (go_at_call 102; (with_reducible refine (ctl _).mono ?_); rintro e u ⟨rfl, hu⟩; have hu' := hu.symm; subst hu')
            | (go_at_call 102; (with_reducible refine (ctr _).mono ?_); rintro e u ⟨rfl, hu⟩; have hu' := hu.symm; subst hu'))
          go_ret
          exact ⟨rfl, B1⟩
    · have hJ : kJoin yop = false := decide_eq_false (by omega)
      rw [hJ]
      have e12 : (yop == 12) = false := beq_eq_false_iff_ne.2 (by omega)
      have e13 : (yop == 13) = false := beq_eq_false_iff_ne.2 (by omega)
      have h24 : yop ≤ 24 := by omega
      clear hJ h25
      cases tl <;> cases tr
      all_goals
        go_enter Tryz.func71, Tryz.ntmps71
        go_upto_region 2 with fail
        generalize w.alloc _ = V at *
        obtain ⟨m0, m1, m2, m3, m4, m5⟩ := N1.at6
        go_wp2_with (first
          | (go_at_call 102; (with_reducible refine (ctl _).mono ?_); rintro e u ⟨rfl, hu⟩; have hu' := hu.symm; subst hu')
          | (go_at_call 102; (with_reducible refine (ctr _).mono ?_); rintro e u ⟨rfl, hu⟩; have hu' := hu.symm; subst hu'))
        go_ret
        exact ⟨rfl, B1⟩
set_option maxRecDepth 100000 in
set_option maxHeartbeats 16000000 in
theorem refRunnable_any (q : Qy) (hq : q.fit) (ns : List Nd) (ao : Option Addr) (cap : Nat) (cs : Array Value) (ai : Option Addr) (ci : Nat) (aw : Option Addr) (cw : Nat) (ar : Option Addr) (cr : Nat) (w : World) (K : KwAt w) (AQ : IsQ w q cs ai ci aw cw ar cr) (AN : IsNds w ao ns) (hr : ns.length * 64 ≤ 140737488351232) (hf : ∀ k, (ns.getD k noNd).fit) :
    Calls Tryz.prog 45 #[.agg cs, .slice ao ns.length cap] w fun e w' => e = .returned (.bool (runB (itemF q.items q.items.length) ns)) ∧ Below w.heap.size w w' := by
  obtain ⟨he, _⟩ := id AQ
  subst he
  have B0 := galloc (Below.refl w.heap.size w) (.cells #[.slice ai q.items.length ci, .int .i64 q.mode, .int .i64 q.after, .slice aw q.wh.length cw, .int .i64 q.within, .string q.by_, .slice ar q.ret.length cr] 31)
  have Q0 := Bk.new w #[.slice ai q.items.length ci, .int .i64 q.mode, .int .i64 q.after, .slice aw q.wh.length cw, .int .i64 q.within, .string q.by_, .slice ar q.ret.length cr] 31
  obtain ⟨M, hMM⟩ : ∃ M, itemF q.items q.items.length = M := ⟨_, rfl⟩
  have cI := fun (s : ByteArray) (hs : s.size ≤ 140737488351232) (u : World) (G : Below w.heap.size w u) => refItemOf7_any q hq s hs _ ai ci aw cw ar cr u (AQ.keep G)
  unfold itmI at cI
  rw [hMM] at cI
  rw [hMM]
  have hM0 : ∀ s i, M s = some i → 0 ≤ i := fun s i h => by rw [← hMM] at h; exact (itemF_some h).1
  clear hMM
  have c1 := refTree_any ns ao cap _ (K.keep B0) (AN.keep B0) hr hf
  cases ht : treeB ns with
  | false =>
    have hv : runB M ns = false := by unfold runB; rw [ht]; rfl
    rw [hv]
    rw [ht] at c1
    clear hv ht
    go_enter Tryz.func45, Tryz.ntmps45
    go_wp2_with (first | (go_at_call 68; (with_reducible refine c1.mono ?_); rintro e u ⟨rfl, g1⟩))
    go_ret
    exact ⟨rfl, gtrans B0 g1⟩
  | true =>
    rw [ht] at c1
    have HT : Hid (treeB ns = true) := ht
    clear ht
    obtain ⟨v, hv⟩ : ∃ v, runB M ns = v := ⟨_, rfl⟩
    rw [hv]
    have HV : Hid (runB M ns = v) := hv
    clear hv
    go_enter Tryz.func45, Tryz.ntmps45
    go_upto_region 5 with (first | (go_at_call 68; (with_reducible refine c1.mono ?_); rintro e u ⟨rfl, g1⟩))
    have Qu := Q0.keep g1
    have Gu := gtrans B0 g1
    have Nu := AN.keep Gu
    clear c1
    obtain ⟨n, hn⟩ : ∃ n, ns.length = n := ⟨_, rfl⟩
    have cF := fun (k : Nat) (hk : k < n) (z : World) (G : Below u.heap.size u z) => refFits_any ns HT.out k (by omega) ao cap z (Nu.keep G) hr
    rw [hn] at hr cF ⊢
    go_loopw [6] (fun x wr => ∃ k : Nat, k ≤ n ∧ x = .int .i64 (k : Int) ∧ runK M ns k ∧ Below u.heap.size u wr) (fun x _ => n - (intOf x).toNat)
    case atStart => exact ⟨0, Nat.zero_le _, rfl, fun i hi => absurd hi (Nat.not_lt_zero _), Below.refl _ _⟩
    case round =>
      obtain ⟨k, hk, rfl, hK, G⟩ := hrel
      by_cases hlt : k < n
      · have hkn : k < ns.length := by omega
        have hki : (k : Int) < (n : Int) := by omega
        obtain ⟨g, o, rfl, x0, x1, x2, x3, x4, x5⟩ := (Nu.keep G) k hkn
        have Q1 := Qu.keep G
        obtain ⟨t0, t1, t2, t3, t4, t5, t6⟩ := Q1.at7
        have hfk := (hf k).v
        have HN : Hid (runN M ns (ns.getD k noNd) = (kFit ns (ns.getD k noNd) && (!kMent (ns.getD k noNd).op || (M (ns.getD k noNd).v).isSome))) := rfl
        have hgo : runN M ns (ns.getD k noNd) = true → runK M ns (k + 1) := fun h i hi => by
          by_cases e : i = k
          · subst e; exact h
          · exact hK i (by omega)
        have hno : runN M ns (ns.getD k noNd) = false → v = false := fun h => by
          have := run_not hkn h
          rw [HV.out] at this
          exact this
        have HG := show Hid (_ → _) from hgo
        have HO := show Hid (_ → _) from hno
        have cF1 := cF k hlt
        have cI1 := cI (ns.getD k noNd).v hfk
        obtain ⟨fb, hfb⟩ : ∃ b, kFit ns (ns.getD k noNd) = b := ⟨_, rfl⟩
        rw [hfb] at cF1 HN
        generalize ns.getD k noNd = y at *
        obtain ⟨yop, yn, yv, yx, yl, yr⟩ := y
        dsimp only at *
        obtain ⟨iv, hiv⟩ : ∃ iv, (M yv).getD (-1) = iv := ⟨_, rfl⟩
        rw [hiv] at cI1
        have hneg : (M yv).isSome = !decide (iv < 0) := by
          rw [← hiv]
          cases hm : M yv with
          | none => rfl
          | some i =>
            have := hM0 yv i hm
            show true = !decide (i < 0)
            rw [decide_eq_false (by omega)]
            rfl
        have HNG := show Hid (_ = _) from hneg
        clear hgo hno hfb hiv hneg cI cF hf
        have hne0 : Nonempty (Ext wr) := ⟨⟨_, Below.refl _ _⟩⟩
        have p0 := fun z : Ext wr => (z.cell _ _ (lt_of_cell x0)).trans x0
        have p2 := fun z : Ext wr => (z.cell _ _ (lt_of_cell x2)).trans x2
        have r0 := fun z : Ext wr => (z.cell _ _ (lt_of_cell t0)).trans t0
        have r1 := fun z : Ext wr => (z.cell _ _ (lt_of_cell t1)).trans t1
        have r2 := fun z : Ext wr => (z.cell _ _ (lt_of_cell t2)).trans t2
        have r3 := fun z : Ext wr => (z.cell _ _ (lt_of_cell t3)).trans t3
        have r4 := fun z : Ext wr => (z.cell _ _ (lt_of_cell t4)).trans t4
        have r5 := fun z : Ext wr => (z.cell _ _ (lt_of_cell t5)).trans t5
        have r6 := fun z : Ext wr => (z.cell _ _ (lt_of_cell t6)).trans t6
        have GU := gtrans Gu G
        have y1 := fun z : Ext wr => ext_of ((refMentions_any yop z.X).mono fun e w' h => (⟨h.1, by rw [h.2]; exact Below.refl _ _⟩ : _ ∧ Below z.X.heap.size z.X w'))
        have y2 := fun z : Ext wr => ext_of (cI1 z.X (gtrans GU z.h))
        obtain ⟨mb, hmb⟩ : ∃ b, kMent yop = b := ⟨_, rfl⟩
        rw [hmb] at HN y1
        cases mb with
        | false =>
          go_upto_region 7 with fail
          refine wp_region_ext (by kernel_rfl) (by kernel_rfl) ?_
          repeat (go_big_quiet_step (first | (go_at_call 69; with_reducible exact y1 _) | (go_at_call 70; with_reducible exact y2 _)))
          refine wpQuiet_nil ?_
          intro _ hw'
          obtain ⟨nz, hw''⟩ := hw'
          subst hw''
          have GX := gtrans G nz.h
          have cX := cF1 nz.X GX
          generalize nz.X = X at *
          cases fb with
          | false =>
            have hvf : v = false := HO.out (by rw [HN.out]; rfl)
            subst hvf
            go_wp2_with (go_at_call 71; (with_reducible refine cX.mono ?_); rintro e u2 ⟨rfl, g2⟩)
            go_ret
            exact ⟨rfl, gtrans (gtrans Gu GX) g2⟩
          | true =>
            have hnext := HG.out (by rw [HN.out]; rfl)
            have HX := show Hid _ from hnext
            clear hnext
            go_wp2_with (go_at_call 71; (with_reducible refine cX.mono ?_); rintro e u2 ⟨rfl, g2⟩)
            go_roundw
            case rel => exact ⟨k + 1, by omega, by go_num, HX.out, gtrans GX g2⟩
            case measure => simp [intOf]; omega
        | true =>
          by_cases hi0 : iv < 0
          · have hvf : v = false := HO.out (by rw [HN.out, HNG.out, decide_eq_true hi0]; cases fb <;> rfl)
            subst hvf
            go_upto_region 7 with fail
            refine wp_region_ext (by kernel_rfl) (by kernel_rfl) ?_
            repeat (go_big_quiet_step (first | (go_at_call 69; with_reducible exact y1 _) | (go_at_call 70; with_reducible exact y2 _)))
            refine wpQuiet_nil ?_
            intro _ hw'
            obtain ⟨nz, hw''⟩ := hw'
            subst hw''
            have GX := gtrans G nz.h
            have cX := cF1 nz.X GX
            generalize nz.X = X at *
            go_wp2
            go_ret
            exact ⟨rfl, gtrans Gu GX⟩
          · have hsm : (M yv).isSome = true := by rw [HNG.out, decide_eq_false hi0]; rfl
            have HSM := show Hid (_ = _) from hsm
            clear hsm
            go_upto_region 7 with fail
            refine wp_region_ext (by kernel_rfl) (by kernel_rfl) ?_
            repeat (go_big_quiet_step (first | (go_at_call 69; with_reducible exact y1 _) | (go_at_call 70; with_reducible exact y2 _)))
            refine wpQuiet_nil ?_
            intro _ hw'
            obtain ⟨nz, hw''⟩ := hw'
            subst hw''
            have GX := gtrans G nz.h
            have cX := cF1 nz.X GX
            generalize nz.X = X at *
            cases fb with
            | false =>
              have hvf : v = false := HO.out (by rw [HN.out]; rfl)
              subst hvf
              go_wp2_with (go_at_call 71; (with_reducible refine cX.mono ?_); rintro e u2 ⟨rfl, g2⟩)
              go_ret
              exact ⟨rfl, gtrans (gtrans Gu GX) g2⟩
            | true =>
              have hnext := HG.out (by rw [HN.out]; rw [HSM.out]; rfl)
              have HX := show Hid _ from hnext
              clear hnext
              go_wp2_with (go_at_call 71; (with_reducible refine cX.mono ?_); rintro e u2 ⟨rfl, g2⟩)
              go_roundw
              case rel => exact ⟨k + 1, by omega, by go_num, HX.out, gtrans GX g2⟩
              case measure => simp [intOf]; omega
      · obtain rfl : k = n := by omega
        have hv : v = true := HV.out.symm.trans (run_all HT.out (by rw [hn]; exact hK))
        subst hv
        go_wp2
        go_ret
        exact ⟨rfl, gtrans Gu G⟩

end Go.Proofs.YtglagbedgjkdbaaGreatDoor
namespace Go.Proofs.YtglagbedgjkdbaaGreatDoor
open Go.RowKit
set_option linter.unusedVariables false

def hiOf (x : Int) : Int := (x / 18446744073709551616) % 18446744073709551616
def loOf (x : Int) : Int := x % 18446744073709551616
def carry (x y : Int) : Int := (loOf x + loOf y) / 18446744073709551616
def borrow (x y : Int) : Int := if loOf x < loOf y then 1 else 0
def fitsB (x : Int) : Bool := decide (-9223372036854775808 ≤ x ∧ x ≤ 9223372036854775807)

def fitN (x : Int) : Int := if fitsB x = true then x else 0
theorem fitN_yes (x : Int) (h : fitsB x = true) : fitN x = x := by simp [fitN, h]
theorem fitN_no (x : Int) (h : fitsB x = false) : fitN x = 0 := by simp [fitN, h]
theorem fits_iff (x : Int) : fitsB x = true ↔ -9223372036854775808 ≤ x ∧ x ≤ 9223372036854775807 := by simp [fitsB]
theorem fits_not (x : Int) : fitsB x = false ↔ ¬ (-9223372036854775808 ≤ x ∧ x ≤ 9223372036854775807) := by simp [fitsB]

theorem hi_nn (x : Int) : 0 ≤ hiOf x := by unfold hiOf; omega
theorem lo_nn (x : Int) : 0 ≤ loOf x := by unfold loOf; omega
theorem hi_lt (x : Int) : hiOf x < 18446744073709551616 := by unfold hiOf; omega
theorem lo_lt (x : Int) : loOf x < 18446744073709551616 := by unfold loOf; omega
theorem carry_nn (x y : Int) : 0 ≤ carry x y := by unfold carry loOf; omega
theorem carry_le (x y : Int) : carry x y ≤ 1 := by unfold carry loOf; omega
theorem borrow_nn (x y : Int) : 0 ≤ borrow x y := by unfold borrow; split <;> omega
theorem borrow_le (x y : Int) : borrow x y ≤ 1 := by unfold borrow; split <;> omega

theorem add_lo (x y : Int) : (loOf x + loOf y + 0) % 18446744073709551616 = loOf (x + y) := by unfold loOf; omega
theorem add_ca (x y : Int) : (loOf x + loOf y + 0) / 18446744073709551616 = carry x y := by unfold carry; rw [Int.add_zero]
theorem add_hi (x y : Int) : (hiOf x + hiOf y + carry x y) % 18446744073709551616 = hiOf (x + y) := by unfold hiOf carry loOf; omega

theorem sub_lo (x y : Int) (X Y : Nat) (hX : loOf x = X) (hY : loOf y = Y) : (((X + 18446744073709551616 - Y - 0) % 18446744073709551616 : Nat) : Int) = loOf (x - y) := by
  unfold loOf at *; omega
theorem sub_bo (x y : Int) (X Y : Nat) (hX : loOf x = X) (hY : loOf y = Y) : ((if X < Y + 0 then 1 else 0 : Nat) : Int) = borrow x y := by
  unfold borrow; rw [hX, hY]
  by_cases h : X < Y
  · rw [if_pos (by omega), if_pos (by omega)]; rfl
  · rw [if_neg (by omega), if_neg (by omega)]; rfl
theorem sub_hi (x y : Int) (X Y B : Nat) (hX : hiOf x = X) (hY : hiOf y = Y) (hB : borrow x y = B) : (((X + 18446744073709551616 - Y - B) % 18446744073709551616 : Nat) : Int) = hiOf (x - y) := by
  unfold borrow at hB
  unfold hiOf loOf at *
  split at hB <;> omega

theorem hi_small (n : Int) (h1 : -9223372036854775808 ≤ n) (h2 : n ≤ 9223372036854775807) : IntKind.u64.wrap (n / 9223372036854775808) = hiOf n := by
  rw [IntKind.wrap_u64]; unfold hiOf; omega
theorem lo_small (n : Int) : IntKind.u64.wrap n = loOf n := by
  rw [IntKind.wrap_u64]; unfold loOf; omega
/-- The number whose low half is x's, read as a signed one. -/
theorem wrap_lo (x : Int) : wrap64 (loOf x) = (x + 9223372036854775808) % 18446744073709551616 - 9223372036854775808 := by
  unfold wrap64 loOf; omega
theorem lo_back (x : Int) (h : fitsB x = true) : wrap64 (loOf x) = x := by
  rw [fits_iff] at h; rw [wrap_lo]; omega
theorem wrap_lo_lo (x : Int) : loOf (wrap64 (loOf x)) = loOf x := by rw [wrap_lo]; unfold loOf; omega
theorem wrap_lo_hi (x : Int) (h : fitsB x = false) (h1 : -170141183460469231731687303715884105728 ≤ x) (h2 : x < 170141183460469231731687303715884105728) : ¬ hiOf (wrap64 (loOf x)) = hiOf x := by
  rw [fits_not] at h; rw [wrap_lo]; unfold hiOf; omega
theorem wrap_ge (x : Int) : -9223372036854775808 ≤ wrap64 x := by unfold wrap64; omega
theorem wrap_le (x : Int) : wrap64 x ≤ 9223372036854775807 := by unfold wrap64; omega

/-- A known result, or none: of two operands (known or not) and the number that the document names. -/
def opK (ka kb : Bool) (x : Int) : Bool := ka && (kb && fitsB x)
def opN (ka kb : Bool) (x : Int) : Int := if ka = true ∧ kb = true then fitN x else 0
theorem opK_tt (x : Int) : opK true true x = fitsB x := rfl
theorem opN_tt (x : Int) : opN true true x = fitN x := by simp [opN]
theorem opK_f1 (kb : Bool) (x : Int) : opK false kb x = false := rfl
theorem opN_f1 (kb : Bool) (x : Int) : opN false kb x = 0 := by simp [opN]
theorem opK_f2 (ka : Bool) (x : Int) : opK ka false x = false := by cases ka <;> rfl
theorem opN_f2 (ka : Bool) (x : Int) : opN ka false x = 0 := by simp [opN]
theorem opK_no (ka kb : Bool) (x : Int) (h : (ka && kb) = false) : opK ka kb x = false := by cases ka <;> cases kb <;> simp_all [opK]
theorem opN_no (ka kb : Bool) (x : Int) (h : (ka && kb) = false) : opN ka kb x = 0 := by cases ka <;> cases kb <;> simp_all [opN]
theorem fitN_fits (x : Int) : fitsB (fitN x) = true := by
  unfold fitN; split
  · assumption
  · rfl
theorem opN_fits (ka kb : Bool) (x : Int) : fitsB (opN ka kb x) = true := by
  unfold opN; split
  · exact fitN_fits x
  · rfl

end Go.Proofs.YtglagbedgjkdbaaGreatDoor
namespace Go.Proofs.YtglagbedgjkdbaaGreatDoor
open Go.RowKit
set_option linter.unusedVariables false

theorem fits_wf {a : Int} (h : (Lit.int .i64 a).wf = true) : fitsB a = true := by
  rw [fits_iff]; simp [Lit.wf] at h; exact h

set_option maxHeartbeats 400000 in
theorem known_any (n : Int) (w : World) :
    Calls Tryz.prog 83 #[.int .i64 n] w fun e w' => e = .returned (.agg #[.bool true, .int .i64 n]) ∧ Below w.heap.size w w' := by
  go_enter Tryz.func83, Tryz.ntmps83
  go_wp2
  exact bodyPost_ret (v := .agg #[.bool true, .int .i64 n]) (by simp [results, Tryz.results83, go_sem]) rfl ⟨rfl, (Below.refl _ _).alloc (Nat.le_refl _) _⟩

end Go.Proofs.YtglagbedgjkdbaaGreatDoor
namespace Go.Proofs.YtglagbedgjkdbaaGreatDoor
open Go.RowKit
set_option linter.unusedVariables false

theorem add64_lo (x y : Int) (w : World) :
    (callFunc 142 #[.int .u64 (loOf x), .int .u64 (loOf y), .int .u64 0]).run Tryz.prog w = .ok (.value (.tuple #[.int .u64 (loOf (x + y)), .int .u64 (carry x y)])) w := by
  rw [run_callFunc_extern Tryz.func142 (by kernel_rfl) (by kernel_rfl) (by kernel_rfl) (e := add64Entry) (by kernel_rfl), run_add64 _ _ _ (lo_nn x) (lo_nn y) (by omega) (by omega), add_lo, add_ca]
  rfl

theorem add64_hi (x y : Int) (w : World) :
    (callFunc 142 #[.int .u64 (hiOf x), .int .u64 (hiOf y), .int .u64 (carry x y)]).run Tryz.prog w = .ok (.value (.tuple #[.int .u64 (hiOf (x + y)), .int .u64 ((hiOf x + hiOf y + carry x y) / 18446744073709551616)])) w := by
  rw [run_callFunc_extern Tryz.func142 (by kernel_rfl) (by kernel_rfl) (by kernel_rfl) (e := add64Entry) (by kernel_rfl), run_add64 _ _ _ (hi_nn x) (hi_nn y) (carry_nn x y) (carry_le x y), add_hi]
  rfl

theorem sub64_lo (x y : Int) (w : World) :
    (callFunc 141 #[.int .u64 (loOf x), .int .u64 (loOf y), .int .u64 0]).run Tryz.prog w = .ok (.value (.tuple #[.int .u64 (loOf (x - y)), .int .u64 (borrow x y)])) w := by
  rw [run_callFunc_extern Tryz.func141 (by kernel_rfl) (by kernel_rfl) (by kernel_rfl) (e := sub64Entry) (by kernel_rfl)]
  obtain ⟨X, hX⟩ := Int.eq_ofNat_of_zero_le (lo_nn x)
  obtain ⟨Y, hY⟩ := Int.eq_ofNat_of_zero_le (lo_nn y)
  have h0 := run_sub64 (P := Tryz.prog) X Y 0 (by omega) w
  have e0 : ((0 : Nat) : Int) = 0 := rfl
  rw [sub_lo x y X Y hX hY, sub_bo x y X Y hX hY, e0] at h0
  rw [hX, hY, h0]
  rfl

theorem sub64_hi (x y : Int) : ∃ j, ∀ w,
    (callFunc 141 #[.int .u64 (hiOf x), .int .u64 (hiOf y), .int .u64 (borrow x y)]).run Tryz.prog w = .ok (.value (.tuple #[.int .u64 (hiOf (x - y)), .int .u64 j])) w := by
  obtain ⟨X, hX⟩ := Int.eq_ofNat_of_zero_le (hi_nn x)
  obtain ⟨Y, hY⟩ := Int.eq_ofNat_of_zero_le (hi_nn y)
  obtain ⟨B, hB⟩ := Int.eq_ofNat_of_zero_le (borrow_nn x y)
  refine ⟨((if X < Y + B then 1 else 0 : Nat) : Int), fun w => ?_⟩
  rw [run_callFunc_extern Tryz.func141 (by kernel_rfl) (by kernel_rfl) (by kernel_rfl) (e := sub64Entry) (by kernel_rfl)]
  have h0 := run_sub64 (P := Tryz.prog) X Y B (by have := borrow_le x y; omega) w
  rw [sub_hi x y X Y B hX hY hB] at h0
  rw [hX, hY, hB, h0]
  rfl

set_option maxHeartbeats 400000 in
theorem both_any (ka kb : Bool) (a b : Int) (w : World) :
    Calls Tryz.prog 117 #[.agg #[.bool ka, .int .i64 a], .agg #[.bool kb, .int .i64 b]] w fun e w' => e = .returned (.bool (ka && kb)) ∧ Below w.heap.size w w' := by
  cases ka
  all_goals
    go_enter Tryz.func117, Tryz.ntmps117
    go_wp2
    go_ret
    exact ⟨rfl, ((Below.refl _ _).alloc (Nat.le_refl _) _).alloc (by simp) _⟩

set_option maxHeartbeats 400000 in
theorem widen_any (n : Int) (w : World) (h1 : -9223372036854775808 ≤ n) (h2 : n ≤ 9223372036854775807) :
    Calls Tryz.prog 118 #[.int .i64 n] w fun e w' => e = .returned (.agg #[.int .u64 (hiOf n), .int .u64 (loOf n)]) ∧ Below w.heap.size w w' := by
  have e1 := hi_small n h1 h2
  have e2 := lo_small n
  go_enter Tryz.func118, Tryz.ntmps118
  go_wp2
  refine bodyPost_ret (v := .agg #[.int .u64 (hiOf n), .int .u64 (loOf n)]) (by simp [results, Tryz.results118, go_sem]) rfl ⟨rfl, (Below.refl _ _).alloc (Nat.le_refl _) _⟩

set_option maxHeartbeats 400000 in
theorem plus_any (x y : Int) (w : World) :
    Calls Tryz.prog 121 #[.agg #[.int .u64 (hiOf x), .int .u64 (loOf x)], .agg #[.int .u64 (hiOf y), .int .u64 (loOf y)]] w fun e w' => e = .returned (.agg #[.int .u64 (hiOf (x + y)), .int .u64 (loOf (x + y))]) ∧ Below w.heap.size w w' := by
  have e1 := add64_lo x y
  have e2 := add64_hi x y
  go_enter Tryz.func121, Tryz.ntmps121
  go_wp2
  exact bodyPost_ret (v := .agg #[.int .u64 (hiOf (x + y)), .int .u64 (loOf (x + y))]) (by simp [results, Tryz.results121, go_sem]) rfl ⟨rfl, (((Below.refl _ _).alloc (Nat.le_refl _) _).alloc (by simp) _).alloc (by simp; omega) _⟩

set_option maxHeartbeats 400000 in
theorem minus_any (x y : Int) (w : World) :
    Calls Tryz.prog 119 #[.agg #[.int .u64 (hiOf x), .int .u64 (loOf x)], .agg #[.int .u64 (hiOf y), .int .u64 (loOf y)]] w fun e w' => e = .returned (.agg #[.int .u64 (hiOf (x - y)), .int .u64 (loOf (x - y))]) ∧ Below w.heap.size w w' := by
  have e1 := sub64_lo x y
  obtain ⟨j, e2⟩ := sub64_hi x y
  go_enter Tryz.func119, Tryz.ntmps119
  go_wp2
  exact bodyPost_ret (v := .agg #[.int .u64 (hiOf (x - y)), .int .u64 (loOf (x - y))]) (by simp [results, Tryz.results119, go_sem]) rfl ⟨rfl, (((Below.refl _ _).alloc (Nat.le_refl _) _).alloc (by simp) _).alloc (by simp; omega) _⟩

set_option maxHeartbeats 400000 in
theorem narrow_yes (x : Int) (w : World) (h : fitsB x = true) :
    Calls Tryz.prog 120 #[.agg #[.int .u64 (hiOf x), .int .u64 (loOf x)]] w fun e w' => e = .returned (.agg #[.bool true, .int .i64 x]) ∧ Below w.heap.size w w' := by
  have hx := (fits_iff x).1 h
  have e1 := lo_back x h
  go_enter Tryz.func120, Tryz.ntmps120
  go_wp2
  go_region_with (go_at_call 118; refine (widen_any _ _ hx.1 hx.2).mono ?_; rintro e w1 ⟨rfl, hb⟩; obtain ⟨hc, hf⟩ := bcell hb)
  all_goals
    obtain ⟨hc, hf⟩ := bcell hb
    have hz : w.heap.size + 1 < w1.heap.size := by have := hb.size; simp at this; omega
    go_wp2_with (go_at_call 83; refine (known_any _ _).mono ?_; rintro e w2 ⟨rfl, hb2⟩; obtain ⟨hc2, hf2⟩ := bcell hb2; have hz2 := hb2.size)
    refine bodyPost_ret (v := .agg #[.bool true, .int .i64 x]) (by simp [results, Tryz.results120, go_sem, hc, hc2, hz]) rfl ⟨rfl, ?_⟩
    exact ((((((Below.refl _ _).alloc (Nat.le_refl _) _).alloc (by simp) _).drew.trans (hb.mono (by simp; omega))).trans (hb2.mono (by omega))).setCell (by simp) _).setCell (by simp) _

set_option maxHeartbeats 400000 in
theorem narrow_no (x : Int) (w : World) (h : fitsB x = false) (h1 : -170141183460469231731687303715884105728 ≤ x) (h2 : x < 170141183460469231731687303715884105728) :
    Calls Tryz.prog 120 #[.agg #[.int .u64 (hiOf x), .int .u64 (loOf x)]] w fun e w' => e = .returned (.agg #[.bool false, .int .i64 0]) ∧ Below w.heap.size w w' := by
  have e1 := wrap_ge (loOf x)
  have e2 := wrap_le (loOf x)
  have e3 := wrap_lo_hi x h h1 h2
  go_enter Tryz.func120, Tryz.ntmps120
  go_wp2
  go_region_with (go_at_call 118; refine (widen_any _ _ e1 e2).mono ?_; rintro e w1 ⟨rfl, hb⟩; obtain ⟨hc, hf⟩ := bcell hb)
  all_goals
    obtain ⟨hc, hf⟩ := bcell hb
    have hz : w.heap.size + 1 < w1.heap.size := by have := hb.size; simp at this; omega
    go_wp2_with (go_at_call 83; refine (known_any _ _).mono ?_; rintro e w2 ⟨rfl, hb2⟩; obtain ⟨hc2, hf2⟩ := bcell hb2; have hz2 := hb2.size)
    refine bodyPost_ret (v := .agg #[.bool false, .int .i64 0]) (by simp [results, Tryz.results120, go_sem, hc]) rfl ⟨rfl, ?_⟩
    exact (((((Below.refl _ _).alloc (Nat.le_refl _) _).alloc (by simp) _).drew.trans (hb.mono (by simp; omega))).setCell (by simp) _).setCell (by simp) _

theorem narrow_any (x : Int) (w : World) (h1 : -170141183460469231731687303715884105728 ≤ x) (h2 : x < 170141183460469231731687303715884105728) :
    Calls Tryz.prog 120 #[.agg #[.int .u64 (hiOf x), .int .u64 (loOf x)]] w fun e w' => e = .returned (.agg #[.bool (fitsB x), .int .i64 (fitN x)]) ∧ Below w.heap.size w w' := by
  cases h : fitsB x
  · rw [fitN_no x h]; exact narrow_no x w h h1 h2
  · rw [fitN_yes x h]; exact narrow_yes x w h

end Go.Proofs.YtglagbedgjkdbaaGreatDoor
