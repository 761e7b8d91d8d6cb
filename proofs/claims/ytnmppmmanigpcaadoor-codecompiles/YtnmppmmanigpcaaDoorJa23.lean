/- The law's own truth, itemOf, runnable. And what goes with it: 2 texts in one. -/
import Derived.Test.YtnmppmmanigpcaaDoorJa22
import Derived.Deep.CutRange
namespace Go.Proofs.YtnmppmmanigpcaaDoor
open Go.RowKit Go.BigFrame Go.Proofs.YtnmppmmanigpcaaDoor.Ev
set_option linter.unusedVariables false
set_option linter.unusedSimpArgs false

theorem bytes_eqU {a b : ByteArray} : a.toList = b.toList ↔ a = b := by
  rw [ByteArray.toList_eq, ByteArray.toList_eq, Array.toList_inj]
  exact ⟨fun h => ByteArray.ext h, fun h => by rw [h]⟩
/-- The number of a variable's item; -1: none. -/
def itmI (l : List It) (s : ByteArray) : Int := (itemF l l.length s).getD (-1)
theorem itemF_some {l : List It} : ∀ {k : Nat} {s : ByteArray} {i : Int}, itemF l k s = some i → 0 ≤ i ∧ i < (k : Int) ∧ s = (l.getD i.toNat noIt).v ∧ ∀ j : Nat, (j : Int) < i → s ≠ (l.getD j noIt).v
  | 0, s, i, h => by cases h
  | k + 1, s, i, h => by
    unfold itemF at h
    cases hk : itemF l k s with
    | some j =>
      rw [hk] at h
      cases h
      obtain ⟨h1, h2, h3, h4⟩ := itemF_some hk
      exact ⟨h1, by omega, h3, h4⟩
    | none =>
      rw [hk] at h
      simp only at h
      split at h
      · rename_i e
        cases h
        refine ⟨by omega, by omega, by rw [Int.toNat_natCast]; exact e, fun j hj => ?_⟩
        exact itemF_none hk j (by omega)
      · cases h
where
  itemF_none {l : List It} : ∀ {k : Nat} {s : ByteArray}, itemF l k s = none → ∀ j, j < k → s ≠ (l.getD j noIt).v
  | 0, s, _, j, hj => by omega
  | k + 1, s, h, j, hj => by
    unfold itemF at h
    cases hk : itemF l k s with
    | some i => rw [hk] at h; cases h
    | none =>
      rw [hk] at h
      simp only at h
      split at h
      · cases h
      · rename_i e
        by_cases ej : j = k
        · subst ej; exact e
        · exact itemF_none hk j (by omega)
set_option maxRecDepth 100000 in
set_option maxHeartbeats 8000000 in
theorem lawItemOf_any (q : Qy) (hq : q.fit) (s : ByteArray) (hs : s.size ≤ 140737488351232) (cs : Array Value) (ai : Option Addr) (ci : Nat) (aw : Option Addr) (cw : Nat) (ar : Option Addr) (cr : Nat) (w : World) (A : IsQ w q cs ai ci aw cw ar cr) :
    Calls Tryd.prog 35 #[.agg cs, .string s] w fun e w' => e = .returned (.int .i64 (itmI q.items s)) ∧ Below w.heap.size w w' := by
  obtain ⟨he, Ai, _, _, si, _, _⟩ := A
  subst he
  have hnn := hq.n
  have B0 := galloc (Below.refl w.heap.size w) (.cells #[.slice ai q.items.length ci, .int .i64 q.mode, .int .i64 q.after, .slice aw q.wh.length cw, .int .i64 q.within, .string q.by_, .slice ar q.ret.length cr] 31)
  have S0 := Bk.new w #[.slice ai q.items.length ci, .int .i64 q.mode, .int .i64 q.after, .slice aw q.wh.length cw, .int .i64 q.within, .string q.by_, .slice ar q.ret.length cr] 31
  go_enter Tryd.func35, Tryd.ntmps35
  go_wp2
  generalize w.alloc (.cells #[.slice ai q.items.length ci, .int .i64 q.mode, .int .i64 q.after, .slice aw q.wh.length cw, .int .i64 q.within, .string q.by_, .slice ar q.ret.length cr] 31) = V at *
  go_loopw [5] (fun x wr => ∃ k : Nat, k ≤ q.items.length ∧ x = .int .i64 k ∧ itemF q.items k s = none ∧ Below V.heap.size V wr) (fun x _ => q.items.length - (intOf x).toNat)
  case atStart => exact ⟨0, Nat.zero_le _, rfl, rfl, Below.refl _ _⟩
  case round =>
    obtain ⟨k, hk, rfl, hF, G⟩ := hrel
    obtain ⟨s0, _⟩ := (S0.keep G).at7
    by_cases hlt : k < q.items.length
    · have hki : (k : Int) < (q.items.length : Int) := by omega
      obtain ⟨g, o, e1, a, c, x0, x1, x2, x3, x4, I, sl⟩ := (Ai.keep (gtrans B0 G)) k hlt
      rw [e1] at s0
      have hstep : itemF q.items (k + 1) s = if s = (q.items.getD k noIt).v then some (k : Int) else none := by
        show (match itemF q.items k s with | some i => some i | none => _) = _
        rw [hF]
      have hvz := (hq.its k).v
      have hmono : itemF q.items (k + 1) s = some (k : Int) → itmI q.items s = (k : Int) := fun h => by
        have go : ∀ m, k + 1 ≤ m → itemF q.items m s = some (k : Int) := by
          intro m hm
          induction m with
          | zero => omega
          | succ m ih =>
            by_cases e : m = k
            · subst e; exact h
            · show (match itemF q.items m s with | some i => some i | none => _) = _
              rw [ih (by omega)]
        unfold itmI
        rw [go _ (by omega)]
        rfl
      generalize (q.items.getD k noIt).v = iv at *
      by_cases e : s = iv
      · rw [if_pos e] at hstep
        have hI := show Hid (_ = _) from hmono hstep
        subst e
        clear hF hstep hmono x0 x1 x3 x4
        go_wp2
        go_ret
        exact ⟨by rw [hI.out]; rfl, gtrans B0 G⟩
      · rw [if_neg e] at hstep
        have ne1 : s.toList ≠ iv.toList := fun h => e (bytes_eqU.1 h)
        have ne2 : iv.toList ≠ s.toList := fun h => e (bytes_eqU.1 h.symm)
        have nb1 : (s.toList == iv.toList) = false := beq_eq_false_iff_ne.2 ne1
        have nb2 : (iv.toList == s.toList) = false := beq_eq_false_iff_ne.2 ne2
        have hS := show Hid (_ = _) from hstep
        clear hF hstep hmono x0 x1 x3 x4
        go_wp2
        go_roundw
        case rel => exact ⟨k + 1, by omega, by go_num, hS.out, by first | exact G | exact G.drew⟩
        case measure => simp [intOf]; omega
    · have hkn : k = q.items.length := by omega
      subst hkn
      have hI : Hid (itmI q.items s = -1) := by show _ = _; unfold itmI; rw [hF]; rfl
      clear hF
      go_wp2
      go_ret
      exact ⟨by rw [hI.out]; rfl, gtrans B0 G⟩

def ltB (op : Int) : Bool := decide (op = 2 ∨ op = 3 ∨ op = 13 ∨ 19 ≤ op)
set_option maxHeartbeats 1000000 in
theorem lawTruth_any (op : Int) (w : World) : Calls Tryd.prog 36 #[.int .i64 op] w fun e w' => e = .returned (.bool (ltB op)) ∧ w' = w := by
  by_cases h2 : op = 2
  · subst h2
    go_enter Tryd.func36, Tryd.ntmps36
    go_wp2
    go_ret
    exact ⟨rfl, rfl⟩
  have e2 : (op == 2) = false := beq_eq_false_iff_ne.2 h2
  by_cases h3 : op = 3
  · subst h3
    go_enter Tryd.func36, Tryd.ntmps36
    go_wp2
    go_ret
    exact ⟨rfl, rfl⟩
  have e3 : (op == 3) = false := beq_eq_false_iff_ne.2 h3
  by_cases h13 : op = 13
  · subst h13
    go_enter Tryd.func36, Tryd.ntmps36
    go_wp2
    go_ret
    exact ⟨rfl, rfl⟩
  have e13 : (op == 13) = false := beq_eq_false_iff_ne.2 h13
  by_cases h19 : 19 ≤ op
  · have hv : ltB op = true := decide_eq_true (.inr (.inr (.inr h19)))
    rw [hv]
    clear hv
    go_enter Tryd.func36, Tryd.ntmps36
    go_wp2
    go_ret
    exact ⟨rfl, rfl⟩
  · have hv : ltB op = false := decide_eq_false (by omega)
    rw [hv]
    clear hv
    go_enter Tryd.func36, Tryd.ntmps36
    go_wp2
    go_ret
    exact ⟨rfl, rfl⟩
theorem ltB_tr {op : Int} (h : 1 ≤ op ∧ op ≤ 26) : ltB op = kTr op := by
  unfold ltB kTr
  exact decide_eq_decide.2 (by omega)
/-- A node of a well shaped tree names a variable just if it is a mention. -/
theorem tree_var {ns : List Nd} (ht : treeB ns = true) {i : Nat} (hi : i < ns.length) : ((ns.getD i noNd).v = eS) ↔ kMent (ns.getD i noNd).op = false := by
  obtain ⟨bs, hb, _⟩ := tree_begs ht
  obtain ⟨_, h2⟩ := begs_at ns [] bs hb
  have h3 := h2 i hi
  have hne : ∀ {s : ByteArray}, nameB s = true → s ≠ eS := fun {s} h e => by
    subst e
    exact absurd h (by decide)
  have hm : kMent (ns.getD i noNd).op = false ↔ ¬ (4 ≤ (ns.getD i noNd).op ∧ (ns.getD i noNd).op ≤ 11) := decide_eq_false_iff_not
  rw [hm]
  by_cases hf : leafN (ns.getD i noNd) = true
  · have hx := (leafN_iff _).1 hf
    constructor
    · intro hv
      rcases hx with ⟨_, _, h⟩
      rcases h with h | h | h | h
      · omega
      · omega
      · exact absurd hv (hne h.2.2.1)
      · exact absurd hv (hne h.2.2.1)
    · intro hn
      rcases hx with ⟨_, _, h⟩
      rcases h with h | h | h | h
      · exact h.2.2.1
      · exact h.2.2.1
      · exact absurd h.1 (by omega)
      · exact absurd h.1 (by omega)
  · unfold nodeO at h3
    rw [if_neg hf] at h3
    have hbare : bareN (ns.getD i noNd) = true ∧ 12 ≤ (ns.getD i noNd).op := by
      split at h3
      · split at h3
        · rename_i h1 h4; exact ⟨h4.1, by omega⟩
        · cases h3
      · split at h3
        · split at h3
          · rename_i h1 h4 h5; exact ⟨h5.1, by omega⟩
          · cases h3
        · cases h3
    have hb2 := of_decide_eq_true hbare.1
    exact ⟨fun _ => by omega, fun _ => hb2.2.1⟩

set_option maxRecDepth 100000 in
set_option maxHeartbeats 16000000 in
theorem runnable_any (q : Qy) (hq : q.fit) (ns : List Nd) (ao : Option Addr) (cap : Nat) (cs : Array Value) (ai : Option Addr) (ci : Nat) (aw : Option Addr) (cw : Nat) (ar : Option Addr) (cr : Nat) (w : World) (K : KwAt w) (AQ : IsQ w q cs ai ci aw cw ar cr) (AN : IsNds w ao ns) (hr : ns.length * 64 ≤ 140737488351232) (hf : ∀ k, (ns.getD k noNd).fit) :
    Calls Tryd.prog 21 #[.agg cs, .slice ao ns.length cap] w fun e w' => e = .returned (.bool (runB (itemF q.items q.items.length) ns)) ∧ Below w.heap.size w w' := by
  obtain ⟨he, _⟩ := id AQ
  subst he
  have B0 := galloc (Below.refl w.heap.size w) (.cells #[.slice ai q.items.length ci, .int .i64 q.mode, .int .i64 q.after, .slice aw q.wh.length cw, .int .i64 q.within, .string q.by_, .slice ar q.ret.length cr] 31)
  have Q0 := Bk.new w #[.slice ai q.items.length ci, .int .i64 q.mode, .int .i64 q.after, .slice aw q.wh.length cw, .int .i64 q.within, .string q.by_, .slice ar q.ret.length cr] 31
  have hM : itemF q.items q.items.length = itemF q.items q.items.length := rfl
  obtain ⟨M, hMM⟩ : ∃ M, itemF q.items q.items.length = M := ⟨_, rfl⟩
  have cI := fun (s : ByteArray) (hs : s.size ≤ 140737488351232) (u : World) (G : Below w.heap.size w u) => lawItemOf_any q hq s hs _ ai ci aw cw ar cr u (AQ.keep G)
  unfold itmI at cI
  rw [hMM] at cI
  rw [hMM]
  have hM0 : ∀ s i, M s = some i → 0 ≤ i := fun s i h => by rw [← hMM] at h; exact (itemF_some h).1
  clear hM hMM
  have c1 := shTree_any ns ao cap _ (K.keep B0) (AN.keep B0) hr hf
  cases ht : treeB ns with
  | false =>
    have hv : runB M ns = false := by unfold runB; rw [ht]; rfl
    rw [hv]
    rw [ht] at c1
    clear hv ht
    go_enter Tryd.func21, Tryd.ntmps21
    go_wp2_with (first | (go_at_call 34; (with_reducible refine c1.mono ?_); rintro e u ⟨rfl, g1⟩))
    go_ret
    exact ⟨rfl, gtrans B0 g1⟩
  | true =>
    rw [ht] at c1
    have HT : Hid (treeB ns = true) := ht
    clear ht
    obtain ⟨v, hv⟩ : ∃ v, runB M ns = v := ⟨_, rfl⟩
    rw [hv]
    have HV : Hid (runB M ns = v) := hv
    clear hv
    go_enter Tryd.func21, Tryd.ntmps21
    go_upto_region 5 with (first | (go_at_call 34; (with_reducible refine c1.mono ?_); rintro e u ⟨rfl, g1⟩))
    have Qu := Q0.keep g1
    have Gu := gtrans B0 g1
    have Nu := AN.keep Gu
    clear c1
    obtain ⟨n, hn⟩ : ∃ n, ns.length = n := ⟨_, rfl⟩
    rw [hn] at hr ⊢
    go_loopw [6, 7, 8] (fun x _ _ wr => ∃ k : Nat, k ≤ n ∧ x = .int .i64 (k : Int) ∧ runK M ns k ∧ Below u.heap.size u wr) (fun x _ _ _ => n - (intOf x).toNat)
    case atStart => exact ⟨0, Nat.zero_le _, rfl, fun i hi => absurd hi (Nat.not_lt_zero _), Below.refl _ _⟩
    case round =>
      obtain ⟨k, hk, rfl, hK, G⟩ := hrel
      by_cases hlt : k < n
      · have hkn : k < ns.length := by omega
        have hki : (k : Int) < (n : Int) := by omega
        obtain ⟨hA, hB, ho1, ho2⟩ := tree_bnd HT.out hkn
        have hvar := tree_var HT.out hkn
        obtain ⟨g, o, rfl, x0, x1, x2, x3, x4, x5⟩ := (Nu.keep G) k hkn
        have G1 := galloc G (.cells (ndA (ns.getD k noNd)) 63)
        have N1 := Bk.new wr (ndA (ns.getD k noNd)) 63
        have Q1 := (Qu.keep G).alloc (.cells (ndA (ns.getD k noNd)) 63)
        have hfk := hf k
        have Nw := Nu.keep G1
        -- the operands' own operators
        have hop : ∀ z : Int, 0 ≤ z → z < (k : Int) → ∃ j : Nat, z = (j : Int) ∧ ltB (ns.getD z.toNat noNd).op = kTr (ns.getD z.toNat noNd).op ∧ (wr.alloc (.cells (ndA (ns.getD k noNd)) 63)).cell? ⟨g, o + j * 6, none⟩ = some (.int .i64 (ns.getD z.toNat noNd).op) := fun z h1 h2 => by
          obtain ⟨j, rfl⟩ : ∃ j : Nat, z = (j : Int) := ⟨z.toNat, by omega⟩
          obtain ⟨g', o', e', y0, _⟩ := Nw j (by omega)
          cases e'
          rw [Int.toNat_natCast]
          exact ⟨j, rfl, ltB_tr (by have := tree_bnd HT.out (show j < ns.length by omega); exact this.2.2), y0⟩
        have HN : Hid (runN M ns (ns.getD k noNd) = (kFit ns (ns.getD k noNd) && (!kMent (ns.getD k noNd).op || (M (ns.getD k noNd).v).isSome))) := rfl
        have hgo : runN M ns (ns.getD k noNd) = true → runK M ns (k + 1) := fun h i hi => by
          by_cases e : i = k
          · subst e; exact h
          · exact hK i (by omega)
        have hno : runN M ns (ns.getD k noNd) = false → v = false := fun h => by
          have := run_not hkn h
          rw [HV.out] at this
          exact this
        have HG := show Hid (_ → _) from hgo
        have HO := show Hid (_ → _) from hno
        have hjo : (decide ((ns.getD k noNd).op = 13 ∨ 25 ≤ (ns.getD k noNd).op)) = kJoin (ns.getD k noNd).op := by
          unfold kJoin
          exact decide_eq_decide.2 (by omega)
        unfold kFit kKid at HN
        generalize ns.getD k noNd = y at *
        obtain ⟨yop, yn, yv, yx, yl, yr⟩ := y
        unfold ndA at *
        dsimp only at *
        have nA : ¬ (k : Int) ≤ yl := by omega
        have nB : ¬ (k : Int) ≤ yr := by omega
        have hvz := hfk.v
        dsimp only at hvz
        have cIk := cI yv hvz _ (gtrans Gu G1)
        clear cI hf hgo hno
        go_upto_region 8 with fail
        generalize wr.alloc _ = V at *
        obtain ⟨m0, m1, m2, m3, m4, m5⟩ := N1.at6
        obtain ⟨t0, t1, t2, t3, t4, t5, t6⟩ := Q1.at7
        go_upto_region 10 with fail
        go_cut [42] from 33 to 42 (fun s wx => ((s = .bool true ∧ v = false) ∨ (s = .bool false ∧ (kMent yop = true → (M yv).isSome = true))) ∧ Below V.heap.size V wx)
        case first =>
          by_cases hv0 : yv = eS
          · have nm : kMent yop = false := hvar.1 hv0
            have e1 : yv.toList = [] := by rw [hv0, ByteArray.toList_eq]
            have e0 : yv.toList.isEmpty = true := by rw [e1]; rfl
            clear cIk e1 hv0
            go_wp2
            go_meet
            case rel => exact ⟨.inr ⟨rfl, (fun h => by rw [nm] at h; cases h)⟩, Below.refl _ _⟩
          · have nm : kMent yop = true := by
              cases h : kMent yop with
              | true => rfl
              | false => exact absurd (hvar.2 h) hv0
            have e1 : yv.toList ≠ [] := fun h => hv0 (bytes_eqU.1 (h.trans (by rw [ByteArray.toList_eq])))
            have e0 : yv.toList.isEmpty = false := by cases h : yv.toList with
              | nil => exact absurd h e1
              | cons _ _ => rfl
            cases hMv : M yv with
            | none =>
              rw [hMv] at cIk
              have hvf : v = false := HO.out (by rw [HN.out, nm, hMv]; exact Bool.and_false _)
              have HVF := show Hid _ from hvf
              have q1 : ((none : Option Int).getD (-1)) < 0 := by decide
              clear hMv hvf
              go_wp2_with (first | (go_at_call 35; (with_reducible refine cIk.mono ?_); rintro e u2 ⟨rfl, g2⟩))
              go_meet
              case rel => exact ⟨.inl ⟨rfl, HVF.out⟩, g2⟩
            | some i =>
              rw [hMv] at cIk
              have hi0 := hM0 yv i hMv
              have HMv : Hid ((M yv).isSome = true) := by show (M yv).isSome = true; rw [hMv]; rfl
              have q1 : ¬ ((some i : Option Int).getD (-1)) < 0 := by show ¬ i < 0; omega
              generalize (some i : Option Int).getD (-1) = z at cIk q1
              clear hMv
              go_wp2_with (first | (go_at_call 35; (with_reducible refine cIk.mono ?_); rintro e u2 ⟨rfl, g2⟩))
              go_meet
              case rel => exact ⟨.inr ⟨by simp [q1], fun _ => HMv.out⟩, g2⟩
        case rest =>
          obtain ⟨hms, G2⟩ := hcut
          have N2 := N1.keep G2
          have GG := gtrans (gtrans Gu G1) G2
          rcases hms with ⟨rfl, hvf⟩ | ⟨rfl, hms⟩
          · subst hvf
            go_wp2
            go_ret
            exact ⟨rfl, GG⟩
          obtain ⟨m0, m1, m2, m3, m4, m5⟩ := N2.at6
          go_upto_region 12 with fail
          go_cut [8] from 43 to 50 (fun s wx => s = .bool (kJoin yop) ∧ wx = wc)
          case first =>
            by_cases h13 : yop = 13
            · have h13' : (yop == 13) = true := beq_iff_eq.2 h13
              have hd : kJoin yop = true := hjo.symm.trans (decide_eq_true (.inl h13))
              clear h13
              go_wp2
              go_meet
              case rel => exact ⟨by rw [hd], rfl⟩
            have e13 : (yop == 13) = false := beq_eq_false_iff_ne.2 h13
            by_cases h25 : 25 ≤ yop
            · have hd : kJoin yop = true := hjo.symm.trans (decide_eq_true (.inr h25))
              go_wp2
              go_meet
              case rel => exact ⟨by rw [hd], rfl⟩
            · have hd : kJoin yop = false := hjo.symm.trans (decide_eq_false (by omega))
              go_wp2
              go_meet
              case rel => exact ⟨by rw [hd], rfl⟩
          case rest =>
            obtain ⟨rfl, hwx⟩ := hcut
            have hwx' := hwx.symm
            subst hwx'
            clear hwx

            obtain ⟨byl, hbyl⟩ : ∃ b, (decide (0 ≤ yl) && (kTr (ns.getD yl.toNat noNd).op != kJoin yop)) = b := ⟨_, rfl⟩
            have HByl : Hid ((decide (0 ≤ yl) && (kTr (ns.getD yl.toNat noNd).op != kJoin yop)) = byl) := hbyl
            clear hbyl
            obtain ⟨m0, m1, m2, m3, m4, m5⟩ := N2.at6
            go_upto_region 13 with fail
            go_cut [64] from 51 to 64 (fun s wx => s = .bool byl ∧ wx = wc)
            case first =>
              have hby := HByl.out
              by_cases h0 : 0 ≤ yl
              · obtain ⟨j, rfl, e1, e2⟩ := hop yl h0 (by omega)
                rw [decide_eq_true h0, Bool.true_and] at hby
                have ct := lawTruth_any (ns.getD (j : Int).toNat noNd).op wc
                have e3 := (G2.cell (p := ⟨_, _, none⟩) (lt_of_cell e2)).trans e2
                generalize (ns.getD (j : Int).toNat noNd).op = zop at *
                clear e2
                go_wp2_with (first | (go_at_call 36; (with_reducible refine ct.mono ?_); rintro e u2 ⟨rfl, hu⟩; have hu' := hu.symm; subst hu'))
                go_meet
                case rel => exact ⟨by rw [← hby]; rfl, rfl⟩
              · rw [decide_eq_false h0, Bool.false_and] at hby
                subst hby
                go_wp2
                go_meet
                case rel => exact ⟨rfl, rfl⟩
            case rest =>
              obtain ⟨rfl, hwx⟩ := hcut
              have hwx' := hwx.symm
              subst hwx'
              clear hwx
              cases byl with
              | true =>
                have hvf : v = false := HO.out (by rw [HN.out, HByl.out]; rfl)
                subst hvf
                go_wp2
                go_ret
                exact ⟨rfl, GG⟩
              | false =>
              obtain ⟨byr, hbyr⟩ : ∃ b, (decide (0 ≤ yr) && (kTr (ns.getD yr.toNat noNd).op != kJoin yop)) = b := ⟨_, rfl⟩
              have HByr : Hid ((decide (0 ≤ yr) && (kTr (ns.getD yr.toNat noNd).op != kJoin yop)) = byr) := hbyr
              clear hbyr
              obtain ⟨m0, m1, m2, m3, m4, m5⟩ := N2.at6
              go_upto_region 15 with fail
              go_cut [78] from 65 to 78 (fun s wx => s = .bool byr ∧ wx = wc)
              case first =>
                have hby := HByr.out
                by_cases h0 : 0 ≤ yr
                · obtain ⟨j, rfl, e1, e2⟩ := hop yr h0 (by omega)
                  rw [decide_eq_true h0, Bool.true_and] at hby
                  have ct := lawTruth_any (ns.getD (j : Int).toNat noNd).op wc
                  have e3 := (G2.cell (p := ⟨_, _, none⟩) (lt_of_cell e2)).trans e2
                  generalize (ns.getD (j : Int).toNat noNd).op = zop at *
                  clear e2
                  go_wp2_with (first | (go_at_call 36; (with_reducible refine ct.mono ?_); rintro e u2 ⟨rfl, hu⟩; have hu' := hu.symm; subst hu'))
                  go_meet
                  case rel => exact ⟨by rw [← hby]; rfl, rfl⟩
                · rw [decide_eq_false h0, Bool.false_and] at hby
                  subst hby
                  go_wp2
                  go_meet
                  case rel => exact ⟨rfl, rfl⟩
              case rest =>
                obtain ⟨rfl, hwx⟩ := hcut
                have hwx' := hwx.symm
                subst hwx'
                clear hwx
                cases byr with
                | true =>
                  have hvf : v = false := HO.out (by rw [HN.out, HByl.out, HByr.out]; rfl)
                  subst hvf
                  go_wp2
                  go_ret
                  exact ⟨rfl, GG⟩
                | false =>
                  have hrun : runN M ns ⟨yop, yn, yv, yx, yl, yr⟩ = true := by
                    rw [HN.out, HByl.out, HByr.out]
                    cases hm : kMent yop with
                    | false => rfl
                    | true => rw [hms hm]; rfl
                  have hnext := HG.out hrun
                  have HX := show Hid _ from hnext
                  have GU := gtrans G1 G2
                  clear hrun hnext
                  go_wp2
                  go_roundw
                  case rel => exact ⟨k + 1, by omega, by go_num, HX.out, GU⟩
                  case measure => simp [intOf]; omega
      · obtain rfl : k = n := by omega
        have hv : v = true := HV.out.symm.trans (run_all HT.out (by rw [hn]; exact hK))
        subst hv
        have hp0 : 0 < k := by
          obtain ⟨_, _, hp⟩ := tree_begs HT.out
          omega
        have hpos : (0 : Int) < (k : Int) := by omega
        clear hlt
        go_wp2
        go_ret
        exact ⟨rfl, gtrans Gu G⟩

end Go.Proofs.YtnmppmmanigpcaaDoor
namespace Go.Proofs.YtnmppmmanigpcaaDoor
open Go.RowKit Go.BigFrame Go.Proofs.YtnmppmmanigpcaaDoor.Ev
set_option linter.unusedVariables false
set_option linter.unusedSimpArgs false

set_option maxRecDepth 100000 in
set_option maxHeartbeats 4000000 in
theorem refOne_any (o : Int) (w : World) : Calls Tryd.prog 98 #[.int .i64 o] w fun e w' => e = .returned (.bool (decide (o = 12 ∨ o = 13))) ∧ w = w' := by
  obtain ⟨v, hv⟩ : ∃ v, decide (o = 12 ∨ o = 13) = v := ⟨_, rfl⟩
  rw [hv]
  by_cases h1 : o = 12
  · subst h1
    obtain rfl : true = v := hv
    go_enter Tryd.func98, Tryd.ntmps98
    go_wp2
    go_ret
    exact ⟨rfl, rfl⟩
  · have b1 : (o == 12) = false := beq_eq_false_iff_ne.2 h1
    by_cases h2 : o = 13
    · subst h2
      obtain rfl : true = v := hv
      go_enter Tryd.func98, Tryd.ntmps98
      go_wp2
      go_ret
      exact ⟨rfl, rfl⟩
    · have b2 : (o == 13) = false := beq_eq_false_iff_ne.2 h2
      obtain rfl : false = v := by rw [← hv, decide_eq_false (by omega)]
      clear hv
      go_enter Tryd.func98, Tryd.ntmps98
      go_wp2
      go_ret
      exact ⟨rfl, rfl⟩
set_option maxRecDepth 100000 in
set_option maxHeartbeats 4000000 in
theorem refTwo_any (o : Int) (w : World) : Calls Tryd.prog 99 #[.int .i64 o] w fun e w' => e = .returned (.bool (decide (14 ≤ o ∧ o ≤ 26))) ∧ w = w' := by
  obtain ⟨v, hv⟩ : ∃ v, decide (14 ≤ o ∧ o ≤ 26) = v := ⟨_, rfl⟩
  rw [hv]
  by_cases h1 : 14 ≤ o
  · by_cases h2 : o ≤ 26
    · obtain rfl : true = v := by rw [← hv, decide_eq_true ⟨h1, h2⟩]
      clear hv
      go_enter Tryd.func99, Tryd.ntmps99
      go_wp2
      go_ret
      exact ⟨rfl, rfl⟩
    · have d2 : decide (o ≤ 26) = false := decide_eq_false h2
      obtain rfl : false = v := by rw [← hv, decide_eq_false (by omega)]
      clear hv
      go_enter Tryd.func99, Tryd.ntmps99
      go_wp2
      go_ret
      exact ⟨rfl, rfl⟩
  · have d1 : decide (14 ≤ o) = false := decide_eq_false h1
    obtain rfl : false = v := by rw [← hv, decide_eq_false (by omega)]
    clear hv
    go_enter Tryd.func99, Tryd.ntmps99
    go_wp2
    go_ret
    exact ⟨rfl, rfl⟩

theorem ne_toList {s : ByteArray} (h : s ≠ eS) : (s.toList == ([] : List UInt8)) = false ∧ (s == (⟨#[]⟩ : ByteArray)) = false ∧ s.toList ≠ [] := by
  have h0 : eS.toList = [] := by rw [ByteArray.toList_eq]
  have h1 : s.toList ≠ [] := fun e => h (bytes_inj.1 (by rw [e, h0]))
  exact ⟨beq_eq_false_iff_ne.2 h1, by rw [beq_toListBytes, h0]; exact beq_eq_false_iff_ne.2 h1, h1⟩
set_option maxRecDepth 100000 in
set_option maxHeartbeats 8000000 in
theorem refLeaf_any (n : Nd) (hf : n.fit) (w : World) (K : KwAt w) :
    Calls Tryd.prog 97 #[.agg (ndA n)] w fun e w' => e = .returned (.bool (leafN n)) ∧ Below w.heap.size w w' := by
  have B0 := galloc (Below.refl w.heap.size w) (.cells (ndA n) 63)
  have N0 := NlAt.new w n
  obtain ⟨v, hv⟩ : ∃ v, leafN n = v := ⟨_, rfl⟩
  rw [hv]
  have HV : Hid (leafN n = v) := hv
  clear hv
  go_enter Tryd.func97, Tryd.ntmps97
  go_upto_region 1 with fail
  generalize hV : w.alloc (.cells (ndA n) 63) = V at *
  obtain ⟨a0, a1, a2, a3, a4, a5⟩ := N0.at
  obtain ⟨yo, yn, yv, yx, yl, yr⟩ := n
  dsimp only at *
  have cV := refIsName_any yv V (K.keep B0)
  have cX := refIsName_any yx V (K.keep B0)
  clear hV N0
  by_cases hl : yl ≠ -1
  · have bl : (yl == -1) = false := beq_eq_false_iff_ne.2 hl
    obtain rfl : false = v := by rw [← HV.out]; unfold leafN; simp [hl]
    clear HV
    go_wp2
    go_ret
    exact ⟨rfl, B0⟩
  replace hl : yl = -1 := Classical.not_not.1 hl
  by_cases hr : yr ≠ -1
  · have br : (yr == -1) = false := beq_eq_false_iff_ne.2 hr
    obtain rfl : false = v := by rw [← HV.out]; unfold leafN; simp [hr]
    clear HV
    subst hl
    go_wp2
    go_ret
    exact ⟨rfl, B0⟩
  replace hr : yr = -1 := Classical.not_not.1 hr
  subst hl
  subst hr
  by_cases h1 : yo = 1
  · subst h1
    by_cases hn : 0 ≤ yn
    · by_cases hv : yv = eS
      · subst hv
        by_cases hx : yx = eS
        · subst hx
          obtain rfl : true = v := by rw [← HV.out]; unfold leafN; simp [hn]
          clear HV
          go_wp2
          go_ret
          exact ⟨rfl, B0⟩
        · obtain ⟨q1, q2, q3⟩ := ne_toList hx
          obtain rfl : false = v := by rw [← HV.out]; unfold leafN; simp [hx]
          clear HV
          go_wp2
          go_ret
          exact ⟨rfl, B0⟩
      · obtain ⟨q1, q2, q3⟩ := ne_toList hv
        obtain rfl : false = v := by rw [← HV.out]; unfold leafN; simp [hv]
        clear HV
        go_wp2
        go_ret
        exact ⟨rfl, B0⟩
    · have dn : decide (0 ≤ yn) = false := decide_eq_false hn
      obtain rfl : false = v := by rw [← HV.out]; unfold leafN; simp [hn]
      clear HV
      go_wp2
      go_ret
      exact ⟨rfl, B0⟩
  by_cases h2 : yo = 2
  · subst h2
    by_cases hn : yn = 0
    · subst hn
      by_cases hv : yv = eS
      · subst hv
        by_cases hx : yx = eS
        · subst hx
          obtain rfl : true = v := by rw [← HV.out]; unfold leafN; simp
          clear HV
          go_wp2
          go_ret
          exact ⟨rfl, B0⟩
        · obtain ⟨q1, q2, q3⟩ := ne_toList hx
          obtain rfl : false = v := by rw [← HV.out]; unfold leafN; simp [hx]
          clear HV
          go_wp2
          go_ret
          exact ⟨rfl, B0⟩
      · obtain ⟨q1, q2, q3⟩ := ne_toList hv
        obtain rfl : false = v := by rw [← HV.out]; unfold leafN; simp [hv]
        clear HV
        go_wp2
        go_ret
        exact ⟨rfl, B0⟩
    · have bn : (yn == 0) = false := beq_eq_false_iff_ne.2 hn
      obtain rfl : false = v := by rw [← HV.out]; unfold leafN; simp [hn]
      clear HV
      go_wp2
      go_ret
      exact ⟨rfl, B0⟩
  by_cases h3 : yo = 3
  · subst h3
    by_cases hn : yn = 0
    · subst hn
      by_cases hv : yv = eS
      · subst hv
        by_cases hx : yx = eS
        · subst hx
          obtain rfl : true = v := by rw [← HV.out]; unfold leafN; simp
          clear HV
          go_wp2
          go_ret
          exact ⟨rfl, B0⟩
        · obtain ⟨q1, q2, q3⟩ := ne_toList hx
          obtain rfl : false = v := by rw [← HV.out]; unfold leafN; simp [hx]
          clear HV
          go_wp2
          go_ret
          exact ⟨rfl, B0⟩
      · obtain ⟨q1, q2, q3⟩ := ne_toList hv
        obtain rfl : false = v := by rw [← HV.out]; unfold leafN; simp [hv]
        clear HV
        go_wp2
        go_ret
        exact ⟨rfl, B0⟩
    · have bn : (yn == 0) = false := beq_eq_false_iff_ne.2 hn
      obtain rfl : false = v := by rw [← HV.out]; unfold leafN; simp [hn]
      clear HV
      go_wp2
      go_ret
      exact ⟨rfl, B0⟩
  by_cases h5 : yo = 5
  · subst h5
    by_cases hn : yn = 0
    · subst hn
      cases hv : nameB yv
      · rw [hv] at cV
        obtain rfl : false = v := by rw [← HV.out]; unfold leafN; simp [hv]
        clear HV
        go_wp2_with (first
          | (go_at_call 111; (with_reducible refine cV.mono ?_); rintro e u ⟨rfl, rfl⟩)
          | (go_at_call 111; (with_reducible refine cX.mono ?_); rintro e u ⟨rfl, rfl⟩))
        go_ret
        exact ⟨rfl, B0⟩
      · rw [hv] at cV
        by_cases hx : yx = eS
        · subst hx
          obtain rfl : true = v := by rw [← HV.out]; unfold leafN; simp [hv]
          clear HV
          go_wp2_with (first
            | (go_at_call 111; (with_reducible refine cV.mono ?_); rintro e u ⟨rfl, rfl⟩)
            | (go_at_call 111; (with_reducible refine cX.mono ?_); rintro e u ⟨rfl, rfl⟩))
          go_ret
          exact ⟨rfl, B0⟩
        · obtain ⟨q1, q2, q3⟩ := ne_toList hx
          obtain rfl : false = v := by rw [← HV.out]; unfold leafN; simp [hx]
          clear HV
          go_wp2_with (first
            | (go_at_call 111; (with_reducible refine cV.mono ?_); rintro e u ⟨rfl, rfl⟩)
            | (go_at_call 111; (with_reducible refine cX.mono ?_); rintro e u ⟨rfl, rfl⟩))
          go_ret
          exact ⟨rfl, B0⟩
    · have bn : (yn == 0) = false := beq_eq_false_iff_ne.2 hn
      obtain rfl : false = v := by rw [← HV.out]; unfold leafN; simp [hn]
      clear HV
      go_wp2
      go_ret
      exact ⟨rfl, B0⟩
  by_cases hq : yo = 4 ∨ yo = 6 ∨ yo = 7 ∨ yo = 8 ∨ yo = 9 ∨ yo = 10 ∨ yo = 11
  · by_cases hn : yn = 0
    · subst hn
      cases hv : nameB yv
      · rw [hv] at cV
        rcases hq with rfl | rfl | rfl | rfl | rfl | rfl | rfl
        all_goals
          obtain rfl : false = v := by rw [← HV.out]; unfold leafN; simp [hv]
          clear HV
          go_wp2_with (first
            | (go_at_call 111; (with_reducible refine cV.mono ?_); rintro e u ⟨rfl, rfl⟩)
            | (go_at_call 111; (with_reducible refine cX.mono ?_); rintro e u ⟨rfl, rfl⟩))
          go_ret
          exact ⟨rfl, B0⟩
      · rw [hv] at cV
        cases hx : nameB yx
        · rw [hx] at cX
          rcases hq with rfl | rfl | rfl | rfl | rfl | rfl | rfl
          all_goals
            obtain rfl : false = v := by rw [← HV.out]; unfold leafN; simp [hx]
            clear HV
            go_wp2_with (first
              | (go_at_call 111; (with_reducible refine cV.mono ?_); rintro e u ⟨rfl, rfl⟩)
              | (go_at_call 111; (with_reducible refine cX.mono ?_); rintro e u ⟨rfl, rfl⟩))
            go_ret
            exact ⟨rfl, B0⟩
        · rw [hx] at cX
          rcases hq with rfl | rfl | rfl | rfl | rfl | rfl | rfl
          all_goals
            obtain rfl : true = v := by rw [← HV.out]; unfold leafN; simp [hv, hx]
            clear HV
            go_wp2_with (first
              | (go_at_call 111; (with_reducible refine cV.mono ?_); rintro e u ⟨rfl, rfl⟩)
              | (go_at_call 111; (with_reducible refine cX.mono ?_); rintro e u ⟨rfl, rfl⟩))
            go_ret
            exact ⟨rfl, B0⟩
    · have bn : (yn == 0) = false := beq_eq_false_iff_ne.2 hn
      rcases hq with rfl | rfl | rfl | rfl | rfl | rfl | rfl
      all_goals
        obtain rfl : false = v := by rw [← HV.out]; unfold leafN; simp [hn]
        clear HV
        go_wp2
        go_ret
        exact ⟨rfl, B0⟩
  have b1 : (yo == 1) = false := beq_eq_false_iff_ne.2 (by omega)
  have b2 : (yo == 2) = false := beq_eq_false_iff_ne.2 (by omega)
  have b3 : (yo == 3) = false := beq_eq_false_iff_ne.2 (by omega)
  have b4 : (yo == 4) = false := beq_eq_false_iff_ne.2 (by omega)
  have b5 : (yo == 5) = false := beq_eq_false_iff_ne.2 (by omega)
  have b6 : (yo == 6) = false := beq_eq_false_iff_ne.2 (by omega)
  have b7 : (yo == 7) = false := beq_eq_false_iff_ne.2 (by omega)
  have b8 : (yo == 8) = false := beq_eq_false_iff_ne.2 (by omega)
  have b9 : (yo == 9) = false := beq_eq_false_iff_ne.2 (by omega)
  have b10 : (yo == 10) = false := beq_eq_false_iff_ne.2 (by omega)
  have b11 : (yo == 11) = false := beq_eq_false_iff_ne.2 (by omega)
  obtain rfl : false = v := by rw [← HV.out]; unfold leafN; rw [decide_eq_false]; intro h; dsimp only at h; omega
  clear HV
  go_wp2
  go_ret
  exact ⟨rfl, B0⟩

end Go.Proofs.YtnmppmmanigpcaaDoor
