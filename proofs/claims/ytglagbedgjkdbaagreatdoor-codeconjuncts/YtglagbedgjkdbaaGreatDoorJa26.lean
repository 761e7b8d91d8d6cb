/- The law's own truth, itemOf, runnable. And what goes with it: 4 texts in one. -/
import Derived.Test.YtglagbedgjkdbaaGreatDoorJa25
import Derived.Deep.CutRange
import Derived.Laws.OwnMore
import Derived.Deep.Onto
namespace Go.Proofs.YtglagbedgjkdbaaGreatDoor
open Go.RowKit Go.BigFrame Go.Proofs.YtglagbedgjkdbaaGreatDoor.Ev
set_option linter.unusedVariables false
set_option linter.unusedSimpArgs false

theorem bytes_eqU {a b : ByteArray} : a.toList = b.toList ↔ a = b := by
  rw [ByteArray.toList_eq, ByteArray.toList_eq, Array.toList_inj]
  exact ⟨fun h => ByteArray.ext h, fun h => by rw [h]⟩
/-- The number of a variable's item; -1: none. -/
def itmI (l : List It) (s : ByteArray) : Int := (itemF l l.length s).getD (-1)
theorem itemF_some {l : List It} : ∀ {k : Nat} {s : ByteArray} {i : Int}, itemF l k s = some i → 0 ≤ i ∧ i < (k : Int) ∧ s = (l.getD i.toNat noIt).v ∧ ∀ j : Nat, (j : Int) < i → s ≠ (l.getD j noIt).v
  | 0, s, i, h => by cases h
  | k + 1, s, i, h => by
    unfold itemF at h
    cases hk : itemF l k s with
    | some j =>
      rw [hk] at h
      cases h
      obtain ⟨h1, h2, h3, h4⟩ := itemF_some hk
      exact ⟨h1, by omega, h3, h4⟩
    | none =>
      rw [hk] at h
      simp only at h
      split at h
      · rename_i e
        cases h
        refine ⟨by omega, by omega, by rw [Int.toNat_natCast]; exact e, fun j hj => ?_⟩
        exact itemF_none hk j (by omega)
      · cases h
where
  itemF_none {l : List It} : ∀ {k : Nat} {s : ByteArray}, itemF l k s = none → ∀ j, j < k → s ≠ (l.getD j noIt).v
  | 0, s, _, j, hj => by omega
  | k + 1, s, h, j, hj => by
    unfold itemF at h
    cases hk : itemF l k s with
    | some i => rw [hk] at h; cases h
    | none =>
      rw [hk] at h
      simp only at h
      split at h
      · cases h
      · rename_i e
        by_cases ej : j = k
        · subst ej; exact e
        · exact itemF_none hk j (by omega)
set_option maxRecDepth 100000 in
set_option maxHeartbeats 8000000 in
theorem lawItemOf_any (q : Qy) (hq : q.fit) (s : ByteArray) (hs : s.size ≤ 140737488351232) (cs : Array Value) (ai : Option Addr) (ci : Nat) (aw : Option Addr) (cw : Nat) (ar : Option Addr) (cr : Nat) (w : World) (A : IsQ w q cs ai ci aw cw ar cr) :
    Calls Tryz.prog 32 #[.agg cs, .string s] w fun e w' => e = .returned (.int .i64 (itmI q.items s)) ∧ Below w.heap.size w w' := by
  obtain ⟨he, Ai, _, _, si, _, _⟩ := A
  subst he
  have hnn := hq.n
  have B0 := galloc (Below.refl w.heap.size w) (.cells #[.slice ai q.items.length ci, .int .i64 q.mode, .int .i64 q.after, .slice aw q.wh.length cw, .int .i64 q.within, .string q.by_, .slice ar q.ret.length cr] 31)
  have S0 := Bk.new w #[.slice ai q.items.length ci, .int .i64 q.mode, .int .i64 q.after, .slice aw q.wh.length cw, .int .i64 q.within, .string q.by_, .slice ar q.ret.length cr] 31
  go_enter Tryz.func32, Tryz.ntmps32
  go_wp2
  generalize w.alloc (.cells #[.slice ai q.items.length ci, .int .i64 q.mode, .int .i64 q.after, .slice aw q.wh.length cw, .int .i64 q.within, .string q.by_, .slice ar q.ret.length cr] 31) = V at *
  go_loopw [5] (fun x wr => ∃ k : Nat, k ≤ q.items.length ∧ x = .int .i64 k ∧ itemF q.items k s = none ∧ Below V.heap.size V wr) (fun x _ => q.items.length - (intOf x).toNat)
  case atStart => exact ⟨0, Nat.zero_le _, rfl, rfl, Below.refl _ _⟩
  case round =>
    obtain ⟨k, hk, rfl, hF, G⟩ := hrel
    obtain ⟨s0, _⟩ := (S0.keep G).at7
    by_cases hlt : k < q.items.length
    · have hki : (k : Int) < (q.items.length : Int) := by omega
      obtain ⟨g, o, e1, a, c, x0, x1, x2, x3, x4, I, sl⟩ := (Ai.keep (gtrans B0 G)) k hlt
      rw [e1] at s0
      have hstep : itemF q.items (k + 1) s = if s = (q.items.getD k noIt).v then some (k : Int) else none := by
        show (match itemF q.items k s with | some i => some i | none => _) = _
        rw [hF]
      have hvz := (hq.its k).v
      have hmono : itemF q.items (k + 1) s = some (k : Int) → itmI q.items s = (k : Int) := fun h => by
        have go : ∀ m, k + 1 ≤ m → itemF q.items m s = some (k : Int) := by
          intro m hm
          induction m with
          | zero => omega
          | succ m ih =>
            by_cases e : m = k
            · subst e; exact h
            · show (match itemF q.items m s with | some i => some i | none => _) = _
              rw [ih (by omega)]
        unfold itmI
        rw [go _ (by omega)]
        rfl
      generalize (q.items.getD k noIt).v = iv at *
      by_cases e : s = iv
      · rw [if_pos e] at hstep
        have hI := show Hid (_ = _) from hmono hstep
        subst e
        clear hF hstep hmono x0 x1 x3 x4
        go_wp2
        go_ret
        exact ⟨by rw [hI.out]; rfl, gtrans B0 G⟩
      · rw [if_neg e] at hstep
        have ne1 : s.toList ≠ iv.toList := fun h => e (bytes_eqU.1 h)
        have ne2 : iv.toList ≠ s.toList := fun h => e (bytes_eqU.1 h.symm)
        have nb1 : (s.toList == iv.toList) = false := beq_eq_false_iff_ne.2 ne1
        have nb2 : (iv.toList == s.toList) = false := beq_eq_false_iff_ne.2 ne2
        have hS := show Hid (_ = _) from hstep
        clear hF hstep hmono x0 x1 x3 x4
        go_wp2
        go_roundw
        case rel => exact ⟨k + 1, by omega, by go_num, hS.out, by first | exact G | exact G.drew⟩
        case measure => simp [intOf]; omega
    · have hkn : k = q.items.length := by omega
      subst hkn
      have hI : Hid (itmI q.items s = -1) := by show _ = _; unfold itmI; rw [hF]; rfl
      clear hF
      go_wp2
      go_ret
      exact ⟨by rw [hI.out]; rfl, gtrans B0 G⟩

def ltB (op : Int) : Bool := decide (op = 2 ∨ op = 3 ∨ op = 13 ∨ 19 ≤ op)
set_option maxHeartbeats 1000000 in
theorem lawTruth_any (op : Int) (w : World) : Calls Tryz.prog 33 #[.int .i64 op] w fun e w' => e = .returned (.bool (ltB op)) ∧ w' = w := by
  by_cases h2 : op = 2
  · subst h2
    go_enter Tryz.func33, Tryz.ntmps33
    go_wp2
    go_ret
    exact ⟨rfl, rfl⟩
  have e2 : (op == 2) = false := beq_eq_false_iff_ne.2 h2
  by_cases h3 : op = 3
  · subst h3
    go_enter Tryz.func33, Tryz.ntmps33
    go_wp2
    go_ret
    exact ⟨rfl, rfl⟩
  have e3 : (op == 3) = false := beq_eq_false_iff_ne.2 h3
  by_cases h13 : op = 13
  · subst h13
    go_enter Tryz.func33, Tryz.ntmps33
    go_wp2
    go_ret
    exact ⟨rfl, rfl⟩
  have e13 : (op == 13) = false := beq_eq_false_iff_ne.2 h13
  by_cases h19 : 19 ≤ op
  · have hv : ltB op = true := decide_eq_true (.inr (.inr (.inr h19)))
    rw [hv]
    clear hv
    go_enter Tryz.func33, Tryz.ntmps33
    go_wp2
    go_ret
    exact ⟨rfl, rfl⟩
  · have hv : ltB op = false := decide_eq_false (by omega)
    rw [hv]
    clear hv
    go_enter Tryz.func33, Tryz.ntmps33
    go_wp2
    go_ret
    exact ⟨rfl, rfl⟩
theorem ltB_tr {op : Int} (h : 1 ≤ op ∧ op ≤ 26) : ltB op = kTr op := by
  unfold ltB kTr
  exact decide_eq_decide.2 (by omega)
/-- A node of a well shaped tree names a variable just if it is a mention. -/
theorem tree_var {ns : List Nd} (ht : treeB ns = true) {i : Nat} (hi : i < ns.length) : ((ns.getD i noNd).v = eS) ↔ kMent (ns.getD i noNd).op = false := by
  obtain ⟨bs, hb, _⟩ := tree_begs ht
  obtain ⟨_, h2⟩ := begs_at ns [] bs hb
  have h3 := h2 i hi
  have hne : ∀ {s : ByteArray}, nameB s = true → s ≠ eS := fun {s} h e => by
    subst e
    exact absurd h (by decide)
  have hm : kMent (ns.getD i noNd).op = false ↔ ¬ (4 ≤ (ns.getD i noNd).op ∧ (ns.getD i noNd).op ≤ 11) := decide_eq_false_iff_not
  rw [hm]
  by_cases hf : leafN (ns.getD i noNd) = true
  · have hx := (leafN_iff _).1 hf
    constructor
    · intro hv
      rcases hx with ⟨_, _, h⟩
      rcases h with h | h | h | h
      · omega
      · omega
      · exact absurd hv (hne h.2.2.1)
      · exact absurd hv (hne h.2.2.1)
    · intro hn
      rcases hx with ⟨_, _, h⟩
      rcases h with h | h | h | h
      · exact h.2.2.1
      · exact h.2.2.1
      · exact absurd h.1 (by omega)
      · exact absurd h.1 (by omega)
  · unfold nodeO at h3
    rw [if_neg hf] at h3
    have hbare : bareN (ns.getD i noNd) = true ∧ 12 ≤ (ns.getD i noNd).op := by
      split at h3
      · split at h3
        · rename_i h1 h4; exact ⟨h4.1, by omega⟩
        · cases h3
      · split at h3
        · split at h3
          · rename_i h1 h4 h5; exact ⟨h5.1, by omega⟩
          · cases h3
        · cases h3
    have hb2 := of_decide_eq_true hbare.1
    exact ⟨fun _ => by omega, fun _ => hb2.2.1⟩

set_option maxRecDepth 100000 in
set_option maxHeartbeats 16000000 in
theorem runnable_any (q : Qy) (hq : q.fit) (ns : List Nd) (ao : Option Addr) (cap : Nat) (cs : Array Value) (ai : Option Addr) (ci : Nat) (aw : Option Addr) (cw : Nat) (ar : Option Addr) (cr : Nat) (w : World) (K : KwAt w) (AQ : IsQ w q cs ai ci aw cw ar cr) (AN : IsNds w ao ns) (hr : ns.length * 64 ≤ 140737488351232) (hf : ∀ k, (ns.getD k noNd).fit) :
    Calls Tryz.prog 9 #[.agg cs, .slice ao ns.length cap] w fun e w' => e = .returned (.bool (runB (itemF q.items q.items.length) ns)) ∧ Below w.heap.size w w' := by
  obtain ⟨he, _⟩ := id AQ
  subst he
  have B0 := galloc (Below.refl w.heap.size w) (.cells #[.slice ai q.items.length ci, .int .i64 q.mode, .int .i64 q.after, .slice aw q.wh.length cw, .int .i64 q.within, .string q.by_, .slice ar q.ret.length cr] 31)
  have Q0 := Bk.new w #[.slice ai q.items.length ci, .int .i64 q.mode, .int .i64 q.after, .slice aw q.wh.length cw, .int .i64 q.within, .string q.by_, .slice ar q.ret.length cr] 31
  have hM : itemF q.items q.items.length = itemF q.items q.items.length := rfl
  obtain ⟨M, hMM⟩ : ∃ M, itemF q.items q.items.length = M := ⟨_, rfl⟩
  have cI := fun (s : ByteArray) (hs : s.size ≤ 140737488351232) (u : World) (G : Below w.heap.size w u) => lawItemOf_any q hq s hs _ ai ci aw cw ar cr u (AQ.keep G)
  unfold itmI at cI
  rw [hMM] at cI
  rw [hMM]
  have hM0 : ∀ s i, M s = some i → 0 ≤ i := fun s i h => by rw [← hMM] at h; exact (itemF_some h).1
  clear hM hMM
  have c1 := shTree_any ns ao cap _ (K.keep B0) (AN.keep B0) hr hf
  cases ht : treeB ns with
  | false =>
    have hv : runB M ns = false := by unfold runB; rw [ht]; rfl
    rw [hv]
    rw [ht] at c1
    clear hv ht
    go_enter Tryz.func9, Tryz.ntmps9
    go_wp2_with (first | (go_at_call 31; (with_reducible refine c1.mono ?_); rintro e u ⟨rfl, g1⟩))
    go_ret
    exact ⟨rfl, gtrans B0 g1⟩
  | true =>
    rw [ht] at c1
    have HT : Hid (treeB ns = true) := ht
    clear ht
    obtain ⟨v, hv⟩ : ∃ v, runB M ns = v := ⟨_, rfl⟩
    rw [hv]
    have HV : Hid (runB M ns = v) := hv
    clear hv
    go_enter Tryz.func9, Tryz.ntmps9
    go_upto_region 5 with (first | (go_at_call 31; (with_reducible refine c1.mono ?_); rintro e u ⟨rfl, g1⟩))
    have Qu := Q0.keep g1
    have Gu := gtrans B0 g1
    have Nu := AN.keep Gu
    clear c1
    obtain ⟨n, hn⟩ : ∃ n, ns.length = n := ⟨_, rfl⟩
    rw [hn] at hr ⊢
    go_loopw [6, 7, 8] (fun x _ _ wr => ∃ k : Nat, k ≤ n ∧ x = .int .i64 (k : Int) ∧ runK M ns k ∧ Below u.heap.size u wr) (fun x _ _ _ => n - (intOf x).toNat)
    case atStart => exact ⟨0, Nat.zero_le _, rfl, fun i hi => absurd hi (Nat.not_lt_zero _), Below.refl _ _⟩
    case round =>
      obtain ⟨k, hk, rfl, hK, G⟩ := hrel
      by_cases hlt : k < n
      · have hkn : k < ns.length := by omega
        have hki : (k : Int) < (n : Int) := by omega
        obtain ⟨hA, hB, ho1, ho2⟩ := tree_bnd HT.out hkn
        have hvar := tree_var HT.out hkn
        obtain ⟨g, o, rfl, x0, x1, x2, x3, x4, x5⟩ := (Nu.keep G) k hkn
        have G1 := galloc G (.cells (ndA (ns.getD k noNd)) 64)
        have N1 := Bk.new wr (ndA (ns.getD k noNd)) 64
        have Q1 := (Qu.keep G).alloc (.cells (ndA (ns.getD k noNd)) 64)
        have hfk := hf k
        have Nw := Nu.keep G1
        -- the operands' own operators
        have hop : ∀ z : Int, 0 ≤ z → z < (k : Int) → ∃ j : Nat, z = (j : Int) ∧ ltB (ns.getD z.toNat noNd).op = kTr (ns.getD z.toNat noNd).op ∧ (wr.alloc (.cells (ndA (ns.getD k noNd)) 64)).cell? ⟨g, o + j * 6, none⟩ = some (.int .i64 (ns.getD z.toNat noNd).op) := fun z h1 h2 => by
          obtain ⟨j, rfl⟩ : ∃ j : Nat, z = (j : Int) := ⟨z.toNat, by omega⟩
          obtain ⟨g', o', e', y0, _⟩ := Nw j (by omega)
          cases e'
          rw [Int.toNat_natCast]
          exact ⟨j, rfl, ltB_tr (by have := tree_bnd HT.out (show j < ns.length by omega); exact this.2.2), y0⟩
        have HN : Hid (runN M ns (ns.getD k noNd) = (kFit ns (ns.getD k noNd) && (!kMent (ns.getD k noNd).op || (M (ns.getD k noNd).v).isSome))) := rfl
        have hgo : runN M ns (ns.getD k noNd) = true → runK M ns (k + 1) := fun h i hi => by
          by_cases e : i = k
          · subst e; exact h
          · exact hK i (by omega)
        have hno : runN M ns (ns.getD k noNd) = false → v = false := fun h => by
          have := run_not hkn h
          rw [HV.out] at this
          exact this
        have HG := show Hid (_ → _) from hgo
        have HO := show Hid (_ → _) from hno
        have hjo : (decide ((ns.getD k noNd).op = 13 ∨ 25 ≤ (ns.getD k noNd).op)) = kJoin (ns.getD k noNd).op := by
          unfold kJoin
          exact decide_eq_decide.2 (by omega)
        unfold kFit kKid at HN
        generalize ns.getD k noNd = y at *
        obtain ⟨yop, yn, yv, yx, yl, yr⟩ := y
        unfold ndA at *
        dsimp only at *
        have nA : ¬ (k : Int) ≤ yl := by omega
        have nB : ¬ (k : Int) ≤ yr := by omega
        have hvz := hfk.v
        dsimp only at hvz
        have cIk := cI yv hvz _ (gtrans Gu G1)
        clear cI hf hgo hno
        go_upto_region 8 with fail
        generalize wr.alloc _ = V at *
        obtain ⟨m0, m1, m2, m3, m4, m5⟩ := N1.at6
        obtain ⟨t0, t1, t2, t3, t4, t5, t6⟩ := Q1.at7
        go_upto_region 10 with fail
        go_cut [42] from 33 to 42 (fun s wx => ((s = .bool true ∧ v = false) ∨ (s = .bool false ∧ (kMent yop = true → (M yv).isSome = true))) ∧ Below V.heap.size V wx)
        case first =>
          by_cases hv0 : yv = eS
          · have nm : kMent yop = false := hvar.1 hv0
            have e1 : yv.toList = [] := by rw [hv0, ByteArray.toList_eq]
            have e0 : yv.toList.isEmpty = true := by rw [e1]; rfl
            clear cIk e1 hv0
            go_wp2
            go_meet
            case rel => exact ⟨.inr ⟨rfl, (fun h => by rw [nm] at h; cases h)⟩, Below.refl _ _⟩
          · have nm : kMent yop = true := by
              cases h : kMent yop with
              | true => rfl
              | false => exact absurd (hvar.2 h) hv0
            have e1 : yv.toList ≠ [] := fun h => hv0 (bytes_eqU.1 (h.trans (by rw [ByteArray.toList_eq])))
            have e0 : yv.toList.isEmpty = false := by cases h : yv.toList with
              | nil => exact absurd h e1
              | cons _ _ => rfl
            cases hMv : M yv with
            | none =>
              rw [hMv] at cIk
              have hvf : v = false := HO.out (by rw [HN.out, nm, hMv]; exact Bool.and_false _)
              have HVF := show Hid _ from hvf
              have q1 : ((none : Option Int).getD (-1)) < 0 := by decide
              clear hMv hvf
              go_wp2_with (first | (go_at_call 32; (with_reducible refine cIk.mono ?_); rintro e u2 ⟨rfl, g2⟩))
              go_meet
              case rel => exact ⟨.inl ⟨rfl, HVF.out⟩, g2⟩
            | some i =>
              rw [hMv] at cIk
              have hi0 := hM0 yv i hMv
              have HMv : Hid ((M yv).isSome = true) := by show (M yv).isSome = true; rw [hMv]; rfl
              have q1 : ¬ ((some i : Option Int).getD (-1)) < 0 := by show ¬ i < 0; omega
              generalize (some i : Option Int).getD (-1) = z at cIk q1
              clear hMv
              go_wp2_with (first | (go_at_call 32; (with_reducible refine cIk.mono ?_); rintro e u2 ⟨rfl, g2⟩))
              go_meet
              case rel => exact ⟨.inr ⟨by simp [q1], fun _ => HMv.out⟩, g2⟩
        case rest =>
          obtain ⟨hms, G2⟩ := hcut
          have N2 := N1.keep G2
          have GG := gtrans (gtrans Gu G1) G2
          rcases hms with ⟨rfl, hvf⟩ | ⟨rfl, hms⟩
          · subst hvf
            go_wp2
            go_ret
            exact ⟨rfl, GG⟩
          obtain ⟨m0, m1, m2, m3, m4, m5⟩ := N2.at6
          go_upto_region 12 with fail
          go_cut [8] from 43 to 50 (fun s wx => s = .bool (kJoin yop) ∧ wx = wc)
          case first =>
            by_cases h13 : yop = 13
            · have h13' : (yop == 13) = true := beq_iff_eq.2 h13
              have hd : kJoin yop = true := hjo.symm.trans (decide_eq_true (.inl h13))
              clear h13
              go_wp2
              go_meet
              case rel => exact ⟨by rw [hd], rfl⟩
            have e13 : (yop == 13) = false := beq_eq_false_iff_ne.2 h13
            by_cases h25 : 25 ≤ yop
            · have hd : kJoin yop = true := hjo.symm.trans (decide_eq_true (.inr h25))
              go_wp2
              go_meet
              case rel => exact ⟨by rw [hd], rfl⟩
            · have hd : kJoin yop = false := hjo.symm.trans (decide_eq_false (by omega))
              go_wp2
              go_meet
              case rel => exact ⟨by rw [hd], rfl⟩
          case rest =>
            obtain ⟨rfl, hwx⟩ := hcut
            have hwx' := hwx.symm
            subst hwx'
            clear hwx

            obtain ⟨byl, hbyl⟩ : ∃ b, (decide (0 ≤ yl) && (kTr (ns.getD yl.toNat noNd).op != kJoin yop)) = b := ⟨_, rfl⟩
            have HByl : Hid ((decide (0 ≤ yl) && (kTr (ns.getD yl.toNat noNd).op != kJoin yop)) = byl) := hbyl
            clear hbyl
            obtain ⟨m0, m1, m2, m3, m4, m5⟩ := N2.at6
            go_upto_region 13 with fail
            go_cut [64] from 51 to 64 (fun s wx => s = .bool byl ∧ wx = wc)
            case first =>
              have hby := HByl.out
              by_cases h0 : 0 ≤ yl
              · obtain ⟨j, rfl, e1, e2⟩ := hop yl h0 (by omega)
                rw [decide_eq_true h0, Bool.true_and] at hby
                have ct := lawTruth_any (ns.getD (j : Int).toNat noNd).op wc
                have e3 := (G2.cell (p := ⟨_, _, none⟩) (lt_of_cell e2)).trans e2
                generalize (ns.getD (j : Int).toNat noNd).op = zop at *
                clear e2
                go_wp2_with (first | (go_at_call 33; (with_reducible refine ct.mono ?_); rintro e u2 ⟨rfl, hu⟩; have hu' := hu.symm; subst hu'))
                go_meet
                case rel => exact ⟨by rw [← hby]; rfl, rfl⟩
              · rw [decide_eq_false h0, Bool.false_and] at hby
                subst hby
                go_wp2
                go_meet
                case rel => exact ⟨rfl, rfl⟩
            case rest =>
              obtain ⟨rfl, hwx⟩ := hcut
              have hwx' := hwx.symm
              subst hwx'
              clear hwx
              cases byl with
              | true =>
                have hvf : v = false := HO.out (by rw [HN.out, HByl.out]; rfl)
                subst hvf
                go_wp2
                go_ret
                exact ⟨rfl, GG⟩
              | false =>
              obtain ⟨byr, hbyr⟩ : ∃ b, (decide (0 ≤ yr) && (kTr (ns.getD yr.toNat noNd).op != kJoin yop)) = b := ⟨_, rfl⟩
              have HByr : Hid ((decide (0 ≤ yr) && (kTr (ns.getD yr.toNat noNd).op != kJoin yop)) = byr) := hbyr
              clear hbyr
              obtain ⟨m0, m1, m2, m3, m4, m5⟩ := N2.at6
              go_upto_region 15 with fail
              go_cut [78] from 65 to 78 (fun s wx => s = .bool byr ∧ wx = wc)
              case first =>
                have hby := HByr.out
                by_cases h0 : 0 ≤ yr
                · obtain ⟨j, rfl, e1, e2⟩ := hop yr h0 (by omega)
                  rw [decide_eq_true h0, Bool.true_and] at hby
                  have ct := lawTruth_any (ns.getD (j : Int).toNat noNd).op wc
                  have e3 := (G2.cell (p := ⟨_, _, none⟩) (lt_of_cell e2)).trans e2
                  generalize (ns.getD (j : Int).toNat noNd).op = zop at *
                  clear e2
                  go_wp2_with (first | (go_at_call 33; (with_reducible refine ct.mono ?_); rintro e u2 ⟨rfl, hu⟩; have hu' := hu.symm; subst hu'))
                  go_meet
                  case rel => exact ⟨by rw [← hby]; rfl, rfl⟩
                · rw [decide_eq_false h0, Bool.false_and] at hby
                  subst hby
                  go_wp2
                  go_meet
                  case rel => exact ⟨rfl, rfl⟩
              case rest =>
                obtain ⟨rfl, hwx⟩ := hcut
                have hwx' := hwx.symm
                subst hwx'
                clear hwx
                cases byr with
                | true =>
                  have hvf : v = false := HO.out (by rw [HN.out, HByl.out, HByr.out]; rfl)
                  subst hvf
                  go_wp2
                  go_ret
                  exact ⟨rfl, GG⟩
                | false =>
                  have hrun : runN M ns ⟨yop, yn, yv, yx, yl, yr⟩ = true := by
                    rw [HN.out, HByl.out, HByr.out]
                    cases hm : kMent yop with
                    | false => rfl
                    | true => rw [hms hm]; rfl
                  have hnext := HG.out hrun
                  have HX := show Hid _ from hnext
                  have GU := gtrans G1 G2
                  clear hrun hnext
                  go_wp2
                  go_roundw
                  case rel => exact ⟨k + 1, by omega, by go_num, HX.out, GU⟩
                  case measure => simp [intOf]; omega
      · obtain rfl : k = n := by omega
        have hv : v = true := HV.out.symm.trans (run_all HT.out (by rw [hn]; exact hK))
        subst hv
        have hp0 : 0 < k := by
          obtain ⟨_, _, hp⟩ := tree_begs HT.out
          omega
        have hpos : (0 : Int) < (k : Int) := by omega
        clear hlt
        go_wp2
        go_ret
        exact ⟨rfl, gtrans Gu G⟩

end Go.Proofs.YtglagbedgjkdbaaGreatDoor
namespace Go.Proofs.YtglagbedgjkdbaaGreatDoor
open Go.RowKit Go.BigFrame
set_option linter.unusedVariables false
set_option linter.unusedSimpArgs false

def entI (zs : List Int) (i : Int) : Int := if i < 0 ∨ (zs.length : Int) ≤ i then 0 else zs.getD i.toNat 0
def entR (l : List (List Int)) (i : Int) : List Int := if i < 0 ∨ (l.length : Int) ≤ i then [] else l.getD i.toNat []
theorem Blk4 (w : World) (a b c d : Value) (t : TypeId) : (w.alloc (.cells #[a, b, c, d] t)).cell? ⟨w.heap.size, 2, none⟩ = some c ∧ (w.alloc (.cells #[a, b, c, d] t)).cell? ⟨w.heap.size, 3, none⟩ = some d := ⟨by simp, by simp⟩
/-- A flaw: its code, part, index, sub. -/
structure Fw where
  code : Int
  part : Int
  ix : Int
  sub : Int
structure Fw.fit (f : Fw) : Prop where
  code : fI f.code
  part : fI f.part
  ix : fI f.ix
  sub : fI f.sub
def fwA (f : Fw) : Array Value := #[.int .i64 f.code, .int .i64 f.part, .int .i64 f.ix, .int .i64 f.sub]
def plaO (s : Sps) (f : Fw) : Int :=
  if f.part = 1 then entI s.items f.ix else if f.part = 2 then s.within else if f.part = 3 then s.by_ else if f.part = 4 then entI s.wh f.ix else if f.part = 5 then entI (entR s.ret f.ix) f.sub else 0
theorem entR_small {s : Sps} (hs : s.fit) (i : Int) : (entR s.ret i).length * 8 ≤ 140737488351232 := by
  unfold entR
  split
  · simp
  · exact hs.ret _
end Go.Proofs.YtglagbedgjkdbaaGreatDoor
namespace Go.Proofs.YtglagbedgjkdbaaGreatDoor
open Go.RowKit Go.BigFrame
set_option linter.unusedVariables false
set_option linter.unusedSimpArgs false

theorem nf_int : (Tryz.prog.info? 3).map (fun i => (i.zero, i.size, i.bytes)) = some (some (.int .i64 0), 1, 8) := by kernel_rfl
theorem ints_at (zs : List Int) (j : Nat) (u : Value) (h : (intsV zs)[j]? = some u) : j < zs.length ∧ u = .int .i64 (zs.getD j 0) := by
  have hj := (List.getElem?_eq_some_iff.1 h).1
  rw [show (intsV zs).length = zs.length by simp [intsV]] at hj
  refine ⟨hj, ?_⟩
  unfold intsV at h
  rw [List.getElem?_map, List.getElem?_eq_getElem hj] at h
  simp only [Option.map_some, Option.some.injEq] at h
  rw [← h, List.getD_eq_getElem?_getD, List.getElem?_eq_getElem hj]
  rfl
/-- append of a whole row of numbers onto a row of one's own. -/
theorem wpList_append_ints {w : World} {ops : Array Oper} {rest : List Oper} {o : Oper} {a : Act} {Q : Exit → Act → World → Prop} (hgd : o.guard = none) (s x : Operand)
    (ho : o.op = .call { callee := .builtin .append, args := #[s, x], argTypes := #[46, 46] }) (v : Value) (base n : Nat) (xs : List Value) (hs : a.eval s = v) (O : w.ownsRow base 3 1 v n xs) (hb : base ≤ w.heap.size)
    (ao : Option Addr) (cap : Nat) (ts : List Int) (hx : a.eval x = .slice ao ts.length cap) (hsl : Sl ao ts.length cap) (A : IsInts w ao ts) (hl : (n + ts.length) * 8 ≤ 140737488351232)
    (h : ∀ v' w', w'.ownsRow base 3 1 v' (n + ts.length) (xs ++ intsV ts) → w.grownBy w' v.ownBlock → wpList Tryz.prog ops Q rest (a.put o.dst v') w') : wpList Tryz.prog ops Q (o :: rest) a w := by
  obtain ⟨i3, ti, tz0, tz1, tz2⟩ := nf_info nf_int
  have hlen : (intsV ts).length = ts.length := by simp [intsV]
  cases ao with
  | none =>
    obtain ⟨h0, rfl⟩ := hsl.2 rfl
    refine wpList_plain hgd fun K hK' => ?_
    have hrun := run_append_owned_none (P := Tryz.prog) w base 46 o.type 3 i3 1 Tryz.underlying46 ti v n xs O
    have hts : ts = [] := List.length_eq_zero_iff.1 h0
    subst hts
    replace hx : a.eval x = .slice none 0 0 := hx
    unfold Oper.wp
    simp [execOp, ho, resolve, invoke, builtin, hs, hx, hrun, Result.andThen]
    refine hK' _ _ (h _ _ ?_ (World.grownBy.refl _ _))
    rw [show intsV [] = [] from rfl, List.append_nil]
    exact O
  | some ad =>
    refine wpList_append_own (w := w) hgd s x 46 ho base 3 i3 (.int .i64 0) 1 8 Tryz.underlying46 ti tz0 tz1 tz2 rfl (by decide) v n xs hs O ad ts.length cap (intsV ts) hx (by rw [hlen, Nat.mul_one]) (fun j u hj => ?_) (fun u hu => ?_) (by unfold maxLen; omega) (by omega) hb (fun v' w' h1 h2 _ => h v' w' h1 h2)
    · obtain ⟨hj2, rfl⟩ := ints_at ts j u hj
      obtain ⟨g, off, e, c0⟩ := A j hj2
      cases e
      rw [Go.WideShapes.add_plain]
      exact c0
    · unfold intsV at hu
      obtain ⟨z, _, rfl⟩ := List.mem_map.1 hu
      rfl
/-- A local of five cells. -/
def Fv (w : World) (b : Nat) (c0 c1 c2 c3 c4 : Value) (t : TypeId) : Prop := w.heap[b]? = some (.cells #[c0, c1, c2, c3, c4] t (0, 0))
section
variable {w u : World} {b : Nat} {c0 c1 c2 c3 c4 : Value} {t : TypeId}
theorem Fv.lt (h : Fv w b c0 c1 c2 c3 c4 t) : b < w.heap.size := lt_of_block h
theorem Fv.at (h : Fv w b c0 c1 c2 c3 c4 t) : w.cell? ⟨b, 0, none⟩ = some c0 ∧ w.cell? ⟨b, 1, none⟩ = some c1 ∧ w.cell? ⟨b, 2, none⟩ = some c2 ∧ w.cell? ⟨b, 3, none⟩ = some c3 ∧ w.cell? ⟨b, 4, none⟩ = some c4 := ⟨cell_of_row w b 0 _ _ _ h, cell_of_row w b 1 _ _ _ h, cell_of_row w b 2 _ _ _ h, cell_of_row w b 3 _ _ _ h, cell_of_row w b 4 _ _ _ h⟩
theorem Fv.free (h : Fv w b c0 c1 c2 c3 c4 t) (o : Nat) : w.frozen? ⟨b, o, none⟩ = false := by unfold Fv at h; simp [World.frozen?, h]
theorem Fv.new (w : World) (c0 c1 c2 c3 c4 : Value) (t : TypeId) : Fv (w.alloc (.cells #[c0, c1, c2, c3, c4] t)) w.heap.size c0 c1 c2 c3 c4 t := by
  show (w.heap.push _)[w.heap.size]? = _
  simp
theorem Fv.keep (h : Fv w b c0 c1 c2 c3 c4 t) (G : Below w.heap.size w u) : Fv u b c0 c1 c2 c3 c4 t := (G.block b h.lt).trans h
theorem Fv.alloc (h : Fv w b c0 c1 c2 c3 c4 t) (o : Obj) : Fv (w.alloc o) b c0 c1 c2 c3 c4 t := (Below.heap_alloc w o b h.lt).trans h
theorem Fv.other (h : Fv w b c0 c1 c2 c3 c4 t) {b' : Nat} (hne : b' ≠ b) (o : Nat) (v : Value) : Fv (w.setCell ⟨b', o, none⟩ v) b c0 c1 c2 c3 c4 t := by
  unfold Fv at h ⊢
  rw [← h]
  show (w.heap.modify b' _)[b]? = _
  rw [Array.getElem?_modify, if_neg hne]
theorem Fv.go (w : World) (cs : Array Value) (o : Nat) (a : Value) (h : w.heap[b]? = some (.cells cs t (0, 0))) : (w.setCell ⟨b, o, none⟩ a).heap[b]? = some (.cells (cs.setIfInBounds o a) t (0, 0)) := by
  have hlt := lt_of_block h
  have h' : w.heap[b] = .cells cs t (0, 0) := by simpa [Array.getElem?_eq_getElem hlt] using h
  show (w.heap.modify b _)[b]? = _
  rw [Array.getElem?_eq_getElem (by simpa using hlt), Array.getElem_modify_self, h']
  rfl
theorem Fv.set0 (h : Fv w b c0 c1 c2 c3 c4 t) (v : Value) : Fv (w.setCell ⟨b, 0, none⟩ v) b v c1 c2 c3 c4 t := Fv.go w _ 0 v h
theorem Fv.set1 (h : Fv w b c0 c1 c2 c3 c4 t) (v : Value) : Fv (w.setCell ⟨b, 1, none⟩ v) b c0 v c2 c3 c4 t := Fv.go w _ 1 v h
theorem Fv.set2 (h : Fv w b c0 c1 c2 c3 c4 t) (v : Value) : Fv (w.setCell ⟨b, 2, none⟩ v) b c0 c1 v c3 c4 t := Fv.go w _ 2 v h
theorem Fv.set3 (h : Fv w b c0 c1 c2 c3 c4 t) (v : Value) : Fv (w.setCell ⟨b, 3, none⟩ v) b c0 c1 c2 v c4 t := Fv.go w _ 3 v h
theorem Fv.set4 (h : Fv w b c0 c1 c2 c3 c4 t) (v : Value) : Fv (w.setCell ⟨b, 4, none⟩ v) b c0 c1 c2 c3 v t := Fv.go w _ 4 v h
end
theorem own_ints {w : World} {b : Nat} {ao : Option Addr} {c : Nat} {zs : List Int} (h : w.ownsRow b 3 1 (.slice ao zs.length c) zs.length (intsV zs)) : IsInts w ao zs := fun i hi => by
  rcases h.2 with ⟨h1, h2⟩ | ⟨g, c', cur, h1, _, _, _, _⟩
  · omega
  · cases h1
    refine ⟨g, 0, rfl, ?_⟩
    rw [Nat.zero_add, World.ownsRow.cellAt h i (by omega)]
    simp [intsV, List.getD, List.getElem?_eq_getElem hi]
/-- A row of rows of numbers of one's own. -/
theorem own_iss {w : World} {b b' : Nat} {ao : Option Addr} {c : Nat} {l : List (List Int)} {vs : List Value} (hl : vs.length = l.length) (h : w.ownsRow b 46 1 (.slice ao l.length c) l.length vs) (hin : ∀ j, j < l.length → ∃ a c', vs[j]? = some (.slice a (l.getD j []).length c') ∧ w.ownsRow b' 3 1 (.slice a (l.getD j []).length c') (l.getD j []).length (intsV (l.getD j []))) : IsIss w ao l := fun i hi => by
  obtain ⟨a, c', e, O⟩ := hin i hi
  rcases h.2 with ⟨h1, h2⟩ | ⟨g, c2, cur, h1, _, _, _, _⟩
  · omega
  · cases h1
    refine ⟨g, 0, a, c', rfl, ?_, own_ints O, own_sl O⟩
    rw [Nat.zero_add, World.ownsRow.cellAt h i (by omega)]
    exact e
theorem nf_ints : (Tryz.prog.info? 46).map (fun i => (i.zero, i.size, i.bytes)) = some (some (.slice none 0 0), 1, 24) := by kernel_rfl
end Go.Proofs.YtglagbedgjkdbaaGreatDoor
namespace Go.Proofs.YtglagbedgjkdbaaGreatDoor
open Go.RowKit Go.BigFrame
set_option linter.unusedVariables false
set_option linter.unusedSimpArgs false

def qyA (q : Qy) (ai : Option Addr) (ci : Nat) (aw : Option Addr) (cw : Nat) (ar : Option Addr) (cr : Nat) : Array Value := #[.slice ai q.items.length ci, .int .i64 q.mode, .int .i64 q.after, .slice aw q.wh.length cw, .int .i64 q.within, .string q.by_, .slice ar q.ret.length cr]
set_option maxRecDepth 100000 in
set_option maxHeartbeats 8000000 in
theorem qBeyond_any (q : Qy) (hq : q.fit) (cs : Array Value) (ai : Option Addr) (ci : Nat) (aw : Option Addr) (cw : Nat) (ar : Option Addr) (cr : Nat) (w : World) (A : IsQ w q cs ai ci aw cw ar cr) :
    Calls Tryz.prog 5 #[.agg cs] w fun e w' => ∃ bb, e = .returned (.bool bb) ∧ Below w.heap.size w w' := by
  obtain ⟨he, Ai, Aw, Ar, si, sw, sr⟩ := A
  subst he
  have hr := hq.r
  have c1 := fun (u : World) (g : Below w.heap.size w u) => beyond_any q.wh aw cw u (Aw.keep g) hq.wh.1 hq.wh.2
  have B0 := galloc (Below.refl w.heap.size w) (.cells #[.slice ai q.items.length ci, .int .i64 q.mode, .int .i64 q.after, .slice aw q.wh.length cw, .int .i64 q.within, .string q.by_, .slice ar q.ret.length cr] 31)
  have S0 := Bk.new w #[.slice ai q.items.length ci, .int .i64 q.mode, .int .i64 q.after, .slice aw q.wh.length cw, .int .i64 q.within, .string q.by_, .slice ar q.ret.length cr] 31
  go_enter Tryz.func5, Tryz.ntmps5
  go_wp2_with (go_at_call 6; (with_reducible refine (c1 _ B0).mono ?_); rintro e u1 ⟨b1, rfl, g1⟩)
  have G1 := gtrans B0 g1
  have S1 := S0.keep g1
  go_loopw [3, 4, 5] (fun d x _ wr => ∃ (k : Nat) (bb : Bool), k ≤ q.ret.length ∧ x = .int .i64 k ∧ d = .bool bb ∧ Bk wr w.heap.size #[.slice ai q.items.length ci, .int .i64 q.mode, .int .i64 q.after, .slice aw q.wh.length cw, .int .i64 q.within, .string q.by_, .slice ar q.ret.length cr] 31 ∧ Below w.heap.size w wr) (fun _ x _ _ => q.ret.length - (intOf x).toNat)
  case atStart => exact ⟨0, b1, Nat.zero_le _, rfl, rfl, S1, G1⟩
  case round =>
    obtain ⟨k, bb, hk, rfl, rfl, S, G⟩ := hrel
    obtain ⟨_, _, _, _, _, _, s6⟩ := S.at7
    by_cases hlt : k < q.ret.length
    · obtain ⟨g, o, a, c, rfl, x0, I, sl⟩ := (Ar.keep G) k hlt
      have hki : (k : Int) < (q.ret.length : Int) := by omega
      have c2 := beyond_any (q.ret.getD k []) a c wr I (hq.ret k).1 (hq.ret k).2
      generalize q.ret.getD k [] = rk at *
      go_wp2_with (go_at_call 6; (with_reducible refine c2.mono ?_); rintro e u2 ⟨b2, rfl, g2⟩)
      all_goals
        go_roundw
        case rel => exact ⟨k + 1, _, by omega, by go_num, rfl, S.keep g2, gtrans G g2⟩
        case measure => simp [intOf]; omega
    · have hkn : k = q.ret.length := by omega
      subst hkn
      go_wp2
      go_ret
      exact ⟨_, rfl, G⟩

end Go.Proofs.YtglagbedgjkdbaaGreatDoor
