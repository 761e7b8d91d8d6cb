/- The document's Size, Sub and Conjuncts. -/
import Derived.Test.YtbedpgamjaemoaaDoorCth
namespace Go.Proofs.YtbedpgamjaemoaaDoor
open Go.RowKit Go.BigFrame Go.Proofs.YtbedpgamjaemoaaDoor.Ev
set_option linter.unusedVariables false
set_option linter.unusedSimpArgs false

/-- How many of the first k places are within. -/
def cntN (ns : List Nd) (root : Int) (k : Nat) : Nat := if 0 ≤ root ∧ root < (ns.length : Int) then min k (root.toNat + 1) - bg (bsOf ns) root.toNat else 0
theorem cnt_step {ns : List Nd} (K : ∀ i, i < ns.length → Kin ns (bsOf ns) i) (root : Int) (k : Nat) : cntN ns root (k + 1) = cntN ns root k + (if inB ns (bsOf ns) root k = true then 1 else 0) := by
  unfold cntN inB
  by_cases h : 0 ≤ root ∧ root < (ns.length : Int)
  · rw [if_pos h, if_pos h]
    have := (K root.toNat (by omega)).le
    by_cases h2 : bg (bsOf ns) root.toNat ≤ k ∧ (k : Int) ≤ root
    · rw [if_pos (decide_eq_true ⟨h.1, h.2, h2.1, h2.2⟩)]
      omega
    · rw [if_neg (by rw [decide_eq_true_eq]; omega)]
      omega
  · rw [if_neg h, if_neg h, if_neg (by rw [decide_eq_true_eq]; omega)]
theorem cnt_zero (ns : List Nd) (root : Int) : cntN ns root 0 = 0 := by unfold cntN; split <;> omega
theorem cnt_le (ns : List Nd) (root : Int) (k : Nat) : cntN ns root k ≤ k := by unfold cntN; split <;> omega
theorem cnt_full {ns : List Nd} (hT : treeB ns = true) (root : Int) : (cntN ns root ns.length : Int) = sizeO ns root := by
  obtain ⟨_, _, _, K⟩ := tree_bs hT
  unfold cntN sizeO plB
  rw [hT, Bool.and_true]
  by_cases h : 0 ≤ root ∧ root < (ns.length : Int)
  · have := (K root.toNat (by omega)).le
    rw [if_pos h, if_pos (decide_eq_true h)]
    omega
  · rw [if_neg h, if_neg (by rw [decide_eq_true_eq]; exact h)]
    rfl
set_option maxRecDepth 100000 in
set_option maxHeartbeats 8000000 in
theorem refSize_any (ns : List Nd) (root : Int) (ao : Option Addr) (cap : Nat) (w : World) (A : IsNds w ao ns) (hr : ns.length * 64 ≤ 140737488351232) (hf : ∀ k, (ns.getD k noNd).fit) (Kw : KwAt w) :
    Calls Tryd.prog 12 #[.slice ao ns.length cap, .int .i64 root] w fun e w' => e = .returned (.int .i64 (sizeO ns root)) ∧ Below w.heap.size w w' := by
  have c1 := refTree_any ns ao cap w Kw A hr hf
  cases hT : treeB ns
  · rw [hT] at c1
    have h0 : sizeO ns root = 0 := by unfold sizeO plB; rw [hT, Bool.and_false, if_neg (by decide)]
    rw [h0]
    go_enter Tryd.func12, Tryd.ntmps12
    go_wp2_with (go_at_call 23; (with_reducible refine c1.mono ?_); rintro e u ⟨rfl, g⟩)
    go_ret
    exact ⟨rfl, g⟩
  rw [hT] at c1
  have c2 := fun (u : World) (g : Below w.heap.size w u) => below_any ns hT root ao cap u (A.keep g) hr
  obtain ⟨_, _, _, K⟩ := tree_bs hT
  have hst := cnt_step K root
  have hz := cnt_zero ns root
  have hle := cnt_le ns root
  rw [← cnt_full hT root]
  obtain ⟨n, hn⟩ : ∃ n, ns.length = n := ⟨_, rfl⟩
  rw [hn] at c1 c2 hr ⊢
  generalize inB ns (bsOf ns) root = q at *
  generalize cntN ns root = cn at *
  clear K
  go_enter Tryd.func12, Tryd.ntmps12
  go_wp2_with (first
    | (go_at_call 23; (with_reducible refine c1.mono ?_); rintro e u ⟨rfl, g⟩)
    | (go_at_call 24; (with_reducible refine (c2 _ g).mono ?_); rintro e u2 ⟨bi, rfl, hbi, RI, g2⟩))
  have G2 := gtrans g g2
  have hbi2 : w.heap.size ≤ bi := Nat.le_trans g.size hbi
  clear c1 c2
  go_loopw [7, 8] (fun y x wr => ∃ k : Nat, k ≤ n ∧ x = .int .i64 k ∧ y = .int .i64 (cn k : Int) ∧ wr.rowIs bi 4 n (fun j => .bool (q j)) ∧ Below w.heap.size w wr) (fun _ x _ => n - (intOf x).toNat)
  case atStart => exact ⟨0, Nat.zero_le _, rfl, by rw [hz]; rfl, RI, G2⟩
  case round =>
    obtain ⟨k, hk, rfl, rfl, R, G⟩ := hrel
    by_cases hlt : k < n
    · have x1 := R.cell (i := k) hlt
      have hki : (k : Int) < (n : Int) := by omega
      have hs := hst k
      have hl := hle k
      generalize q k = qk at *
      clear hst hle hz
      generalize hc1 : cn (k + 1) = c1 at *
      generalize cn k = c0 at *
      cases qk
      · rw [if_neg (by decide), Nat.add_zero] at hs
        subst hs
        go_wp2
        go_roundw
        case rel => exact ⟨k + 1, by omega, by go_num, by rw [hc1], R, G⟩
        case measure => first | (simp [intOf]; omega) | omega
      · rw [if_pos rfl] at hs
        subst hs
        go_wp2
        go_roundw
        case rel => exact ⟨k + 1, by omega, by go_num, by rw [hc1]; go_num, R, G⟩
        case measure => first | (simp [intOf]; omega) | omega
    · obtain rfl : k = n := by omega
      go_wp2
      go_ret
      exact ⟨rfl, G⟩
/-- Where the first place within lies, when k places have been gone through. -/
def fstN (ns : List Nd) (root : Int) (k : Nat) : Int := if cntN ns root k = 0 then -1 else (bg (bsOf ns) root.toNat : Int)
theorem fst_in {ns : List Nd} (K : ∀ i, i < ns.length → Kin ns (bsOf ns) i) (root : Int) (k : Nat) (h : inB ns (bsOf ns) root k = true) : (if fstN ns root k < 0 then (k : Int) else fstN ns root k) = (bg (bsOf ns) root.toNat : Int) ∧ fstN ns root (k + 1) = (bg (bsOf ns) root.toNat : Int) ∧ k = bg (bsOf ns) root.toNat + cntN ns root k ∧ k < ns.length := by
  have hs := cnt_step K root k
  rw [if_pos h] at hs
  have h' := of_decide_eq_true h
  have hc : cntN ns root k = k - bg (bsOf ns) root.toNat := by
    unfold cntN
    rw [if_pos ⟨h'.1, h'.2.1⟩]
    omega
  refine ⟨?_, ?_, by omega, by omega⟩
  · unfold fstN
    by_cases h0 : cntN ns root k = 0
    · rw [if_pos h0, if_pos (by decide)]
      omega
    · rw [if_neg h0, if_neg (by omega)]
  · unfold fstN
    rw [if_neg (by omega)]
theorem fst_out {ns : List Nd} (K : ∀ i, i < ns.length → Kin ns (bsOf ns) i) (root : Int) (k : Nat) (h : inB ns (bsOf ns) root k = false) : cntN ns root (k + 1) = cntN ns root k ∧ fstN ns root (k + 1) = fstN ns root k := by
  have hs := cnt_step K root k
  rw [if_neg (by rw [h]; decide)] at hs
  replace hs : cntN ns root (k + 1) = cntN ns root k := hs
  exact ⟨hs, by unfold fstN; rw [hs]⟩
/-- The first m nodes of the subtree. -/
def outL (ns : List Nd) (b m : Nat) : List Nd := ((ns.drop b).take m).map (shN b)
theorem out_len (ns : List Nd) (b m : Nat) (h : b + m ≤ ns.length) : (outL ns b m).length = m := by unfold outL; simp; omega
theorem out_more (ns : List Nd) (b m : Nat) (h : b + m < ns.length) : outL ns b m ++ [shN b (ns.getD (b + m) noNd)] = outL ns b (m + 1) := by
  unfold outL
  rw [List.take_add_one, List.map_append, List.getElem?_drop, List.getD_eq_getElem?_getD, List.getElem?_eq_getElem h]
  rfl
theorem nds_app (a b : List Nd) : ndsV (a ++ b) = ndsV a ++ ndsV b := by unfold ndsV; exact List.flatMap_append
theorem out_full {ns : List Nd} (hT : treeB ns = true) (root : Int) : outL ns (bg (bsOf ns) root.toNat) (cntN ns root ns.length) = subO ns root := by
  obtain ⟨_, _, _, K⟩ := tree_bs hT
  unfold outL subO cntN plB
  rw [hT, Bool.and_true]
  by_cases h : 0 ≤ root ∧ root < (ns.length : Int)
  · rw [if_pos h, if_pos (decide_eq_true h)]
    unfold subL
    rw [show min ns.length (root.toNat + 1) = root.toNat + 1 by omega]
  · rw [if_neg h, if_neg (by rw [decide_eq_true_eq]; exact h)]
    simp
theorem nd_newE {w : World} {g : Nat} (hg : g = w.heap.size) (p : Nd) (j : Nat) (u : Value) (h : (ndA p).toList[j]? = some u) : (w.alloc (.cells (ndA p) 34)).cell? ((⟨g, 0, none⟩ : Addr).add j) = some u := by subst hg; exact nd_new w p j u h
set_option maxRecDepth 100000 in
set_option maxHeartbeats 8000000 in
theorem refSub_any (ns : List Nd) (root : Int) (ao : Option Addr) (cap : Nat) (w : World) (A : IsNds w ao ns) (hr : ns.length * 64 ≤ 140737488351232) (hf : ∀ k, (ns.getD k noNd).fit) (Kw : KwAt w) :
    Calls Tryd.prog 10 #[.slice ao ns.length cap, .int .i64 root] w fun e w' => ∃ v, e = .returned v ∧ w'.ownsRow w.heap.size 34 6 v (subO ns root).length (ndsV (subO ns root)) ∧ Below w.heap.size w w' := by
  have c1 := refTree_any ns ao cap w Kw A hr hf
  obtain ⟨i0, hi, hz0, hz1, hz2⟩ := of_info nd_info
  cases hT : treeB ns
  · rw [hT] at c1
    have h0 : subO ns root = [] := by unfold subO plB; rw [hT, Bool.and_false, if_neg (by decide)]
    rw [h0]
    go_enter Tryd.func10, Tryd.ntmps10
    go_wp2_with (go_at_call 23; (with_reducible refine c1.mono ?_); rintro e u ⟨rfl, g⟩)
    go_ret
    exact ⟨_, rfl, World.ownsRow_nil _ _ _ _, g⟩
  rw [hT] at c1
  have c2 := fun (u : World) (g : Below w.heap.size w u) => below_any ns hT root ao cap u (A.keep g) hr
  obtain ⟨_, _, _, K⟩ := tree_bs hT
  have hin := fst_in K root
  have hout := fst_out K root
  have hz := cnt_zero ns root
  have hle := cnt_le ns root
  have hfull := out_full hT root
  have hst := cnt_step K root
  obtain ⟨n, hn⟩ : ∃ n, ns.length = n := ⟨_, rfl⟩
  rw [hn] at c1 c2 hr hfull hin
  rw [hn]
  generalize inB ns (bsOf ns) root = q at *
  have hf0 : fstN ns root 0 = -1 := by unfold fstN; rw [hz, if_pos rfl]
  generalize fstN ns root = fn at *
  generalize cntN ns root = cn at *
  generalize bg (bsOf ns) root.toNat = b at *
  clear K
  go_enter Tryd.func10, Tryd.ntmps10
  go_wp2_with (first
    | (go_at_call 23; (with_reducible refine c1.mono ?_); rintro e u ⟨rfl, g⟩)
    | (go_at_call 24; (with_reducible refine (c2 _ g).mono ?_); rintro e u2 ⟨bi, rfl, hbi, RI, g2⟩))
  have G2 := gtrans g g2
  have hbi2 : w.heap.size ≤ bi := Nat.le_trans g.size hbi
  have lbi := RI.lt
  clear c1 c2
  go_loopw [7, 8, 9] (fun o f x wr => ∃ k : Nat, k ≤ n ∧ x = .int .i64 k ∧ f = .int .i64 (fn k) ∧ wr.ownsRow u2.heap.size 34 6 o (cn k) (ndsV (outL ns b (cn k))) ∧ Below u2.heap.size u2 wr) (fun _ _ x _ => n - (intOf x).toNat)
  case atStart => exact ⟨0, Nat.zero_le _, rfl, by rw [hf0], by rw [hz]; exact World.ownsRow_nil _ _ _ _, Below.refl _ _⟩
  case round =>
    obtain ⟨k, hk, rfl, rfl, O, G⟩ := hrel
    have R := RI.of_block (G.block bi lbi)
    have zG := G.size
    by_cases hlt : k < n
    · have x1 := R.cell (i := k) hlt
      have hki : (k : Int) < (n : Int) := by omega
      have hl := hle k
      cases hq : q k
      · rw [hq] at x1
        obtain ⟨e1, e2⟩ := hout k hq
        clear hst hle hz hin hout hq hf0
        go_wp2
        go_roundw
        case rel => exact ⟨k + 1, by omega, by go_num, by rw [e2], by rw [e1]; exact O, G⟩
        case measure => first | (simp [intOf]; omega) | omega
      · rw [hq] at x1
        obtain ⟨e1, e2, e3, _⟩ := hin k hq
        have e4 := hst k
        rw [if_pos hq] at e4
        obtain ⟨g', o', rfl, y0, y1, y2, y3, y4, y5⟩ := ((A.keep G2).keep G) k (by omega)
        have hfk := hf k
        have hmore := out_more ns b (cn k) (by omega)
        rw [← e3] at hmore
        obtain ⟨hl1, hl2⟩ := hfk.l
        obtain ⟨hr1, hr2⟩ := hfk.r
        obtain ⟨vo, vc, rfl, hvc, _, _⟩ := own_form O
        have hN : ∀ l' r', shI b (ns.getD k noNd).l = l' → shI b (ns.getD k noNd).r = r' → ndsV (outL ns b (cn k)) ++ (ndA ⟨(ns.getD k noNd).op, (ns.getD k noNd).n, (ns.getD k noNd).v, (ns.getD k noNd).x, l', r'⟩).toList = ndsV (outL ns b (cn k + 1)) := fun l' r' h1 h2 => by
          rw [← hmore, nds_app, ← h1, ← h2]
          show _ = _ ++ ((ndA _).toList ++ [])
          rw [List.append_nil]
          rfl
        unfold shI at hN
        have hbk : b ≤ k := by omega
        have HE := show Hid (cn (k + 1) = cn k + 1) from e4
        have HF := show Hid (fn (k + 1) = (b : Int)) from e2
        have hck : cn k ≤ k := hl
        clear hmore e4 e2 hst hle hz hin hout hq hf0 hfull hfk
        generalize ns.getD k noNd = y at *
        obtain ⟨yo, yn, yv, yx, yl, yr⟩ := y
        dsimp only at y0 y1 y2 y3 y4 y5 hl1 hl2 hr1 hr2 hN
        by_cases hff : fn k < 0
        · rw [if_pos hff] at e1
          obtain rfl : k = b := by omega
          clear e1 e3
          generalize fn k = fk at *
          by_cases h1 : yl < 0
          · skip
            have d1 : decide (0 ≤ yl) = false := decide_eq_false (by omega)
            by_cases h2 : yr < 0
            · have d2 : decide (0 ≤ yr) = false := decide_eq_false (by omega)
              have HN := show Hid (_ = _) from hN yl yr (if_pos h1) (if_pos h2)
              clear hN
              go_wp2_with (at_builtin; refine wpList_append_own _ rfl (.tmp 52) (.tmp 54) 22 rfl u2.heap.size 34 i0 (.agg (ndA noNd)) 6 64 Tryd.underlying22 hi hz0 hz1 hz2 rfl (by decide) _ _ _ rfl ((O.alloc _).alloc _) ⟨wr.heap.size + 1, 0, none⟩ 1 1 (ndA ⟨yo, yn, yv, yx, yl, yr⟩).toList rfl rfl (nd_newE (by simp) ⟨yo, yn, yv, yx, yl, yr⟩) (nd_one _) ?c3 ?c4 ?c5 ?_)
              case c3 => unfold maxLen; omega
              case c4 => omega
              case c5 => first | omega | (simp; omega)
              intro v' w1 hown' hgrow _
              rw [HN.out] at hown'
              have GW : Below u2.heap.size u2 w1 := (galloc (galloc G _) _).grown hgrow (by first | omega | (simp; omega)) (fun r e => (O.lt _ e).1)
              clear hgrow
              go_wp2
              go_roundw
              case rel => exact ⟨k + 1, by omega, by go_num, by rw [HF.out], by rw [HE.out]; exact hown', GW⟩
              case measure => first | (simp [intOf]; omega) | omega
            · have d2 : decide (0 ≤ yr) = true := decide_eq_true (by omega)
              have d2b : 0 ≤ yr := by omega
              have HN := show Hid (_ = _) from hN yl (yr - (k : Int)) (if_pos h1) (if_neg h2)
              clear hN
              go_wp2_with (at_builtin; refine wpList_append_own _ rfl (.tmp 52) (.tmp 54) 22 rfl u2.heap.size 34 i0 (.agg (ndA noNd)) 6 64 Tryd.underlying22 hi hz0 hz1 hz2 rfl (by decide) _ _ _ rfl ((O.alloc _).alloc _) ⟨wr.heap.size + 1, 0, none⟩ 1 1 (ndA ⟨yo, yn, yv, yx, yl, (yr - (k : Int))⟩).toList rfl rfl (nd_newE (by simp) ⟨yo, yn, yv, yx, yl, (yr - (k : Int))⟩) (nd_one _) ?c3 ?c4 ?c5 ?_)
              case c3 => unfold maxLen; omega
              case c4 => omega
              case c5 => first | omega | (simp; omega)
              intro v' w1 hown' hgrow _
              rw [HN.out] at hown'
              have GW : Below u2.heap.size u2 w1 := (galloc (galloc G _) _).grown hgrow (by first | omega | (simp; omega)) (fun r e => (O.lt _ e).1)
              clear hgrow
              go_wp2
              go_roundw
              case rel => exact ⟨k + 1, by omega, by go_num, by rw [HF.out], by rw [HE.out]; exact hown', GW⟩
              case measure => first | (simp [intOf]; omega) | omega
          · have d1 : decide (0 ≤ yl) = true := decide_eq_true (by omega)
            have d1b : 0 ≤ yl := by omega
            by_cases h2 : yr < 0
            · have d2 : decide (0 ≤ yr) = false := decide_eq_false (by omega)
              have HN := show Hid (_ = _) from hN (yl - (k : Int)) yr (if_neg h1) (if_pos h2)
              clear hN
              go_wp2_with (at_builtin; refine wpList_append_own _ rfl (.tmp 52) (.tmp 54) 22 rfl u2.heap.size 34 i0 (.agg (ndA noNd)) 6 64 Tryd.underlying22 hi hz0 hz1 hz2 rfl (by decide) _ _ _ rfl ((O.alloc _).alloc _) ⟨wr.heap.size + 1, 0, none⟩ 1 1 (ndA ⟨yo, yn, yv, yx, (yl - (k : Int)), yr⟩).toList rfl rfl (nd_newE (by simp) ⟨yo, yn, yv, yx, (yl - (k : Int)), yr⟩) (nd_one _) ?c3 ?c4 ?c5 ?_)
              case c3 => unfold maxLen; omega
              case c4 => omega
              case c5 => first | omega | (simp; omega)
              intro v' w1 hown' hgrow _
              rw [HN.out] at hown'
              have GW : Below u2.heap.size u2 w1 := (galloc (galloc G _) _).grown hgrow (by first | omega | (simp; omega)) (fun r e => (O.lt _ e).1)
              clear hgrow
              go_wp2
              go_roundw
              case rel => exact ⟨k + 1, by omega, by go_num, by rw [HF.out], by rw [HE.out]; exact hown', GW⟩
              case measure => first | (simp [intOf]; omega) | omega
            · have d2 : decide (0 ≤ yr) = true := decide_eq_true (by omega)
              have d2b : 0 ≤ yr := by omega
              have HN := show Hid (_ = _) from hN (yl - (k : Int)) (yr - (k : Int)) (if_neg h1) (if_neg h2)
              clear hN
              go_wp2_with (at_builtin; refine wpList_append_own _ rfl (.tmp 52) (.tmp 54) 22 rfl u2.heap.size 34 i0 (.agg (ndA noNd)) 6 64 Tryd.underlying22 hi hz0 hz1 hz2 rfl (by decide) _ _ _ rfl ((O.alloc _).alloc _) ⟨wr.heap.size + 1, 0, none⟩ 1 1 (ndA ⟨yo, yn, yv, yx, (yl - (k : Int)), (yr - (k : Int))⟩).toList rfl rfl (nd_newE (by simp) ⟨yo, yn, yv, yx, (yl - (k : Int)), (yr - (k : Int))⟩) (nd_one _) ?c3 ?c4 ?c5 ?_)
              case c3 => unfold maxLen; omega
              case c4 => omega
              case c5 => first | omega | (simp; omega)
              intro v' w1 hown' hgrow _
              rw [HN.out] at hown'
              have GW : Below u2.heap.size u2 w1 := (galloc (galloc G _) _).grown hgrow (by first | omega | (simp; omega)) (fun r e => (O.lt _ e).1)
              clear hgrow
              go_wp2
              go_roundw
              case rel => exact ⟨k + 1, by omega, by go_num, by rw [HF.out], by rw [HE.out]; exact hown', GW⟩
              case measure => first | (simp [intOf]; omega) | omega
        · rw [if_neg hff] at e1
          have dff : decide (fn k < 0) = false := decide_eq_false hff
          rw [e1] at dff hff ⊢
          clear e1 e3
          by_cases h1 : yl < 0
          · skip
            have d1 : decide (0 ≤ yl) = false := decide_eq_false (by omega)
            by_cases h2 : yr < 0
            · have d2 : decide (0 ≤ yr) = false := decide_eq_false (by omega)
              have HN := show Hid (_ = _) from hN yl yr (if_pos h1) (if_pos h2)
              clear hN
              go_wp2_with (at_builtin; refine wpList_append_own _ rfl (.tmp 52) (.tmp 54) 22 rfl u2.heap.size 34 i0 (.agg (ndA noNd)) 6 64 Tryd.underlying22 hi hz0 hz1 hz2 rfl (by decide) _ _ _ rfl ((O.alloc _).alloc _) ⟨wr.heap.size + 1, 0, none⟩ 1 1 (ndA ⟨yo, yn, yv, yx, yl, yr⟩).toList rfl rfl (nd_newE (by simp) ⟨yo, yn, yv, yx, yl, yr⟩) (nd_one _) ?c3 ?c4 ?c5 ?_)
              case c3 => unfold maxLen; omega
              case c4 => omega
              case c5 => first | omega | (simp; omega)
              intro v' w1 hown' hgrow _
              rw [HN.out] at hown'
              have GW : Below u2.heap.size u2 w1 := (galloc (galloc G _) _).grown hgrow (by first | omega | (simp; omega)) (fun r e => (O.lt _ e).1)
              clear hgrow
              go_wp2
              go_roundw
              case rel => exact ⟨k + 1, by omega, by go_num, by rw [HF.out], by rw [HE.out]; exact hown', GW⟩
              case measure => first | (simp [intOf]; omega) | omega
            · have d2 : decide (0 ≤ yr) = true := decide_eq_true (by omega)
              have d2b : 0 ≤ yr := by omega
              have HN := show Hid (_ = _) from hN yl (yr - (b : Int)) (if_pos h1) (if_neg h2)
              clear hN
              go_wp2_with (at_builtin; refine wpList_append_own _ rfl (.tmp 52) (.tmp 54) 22 rfl u2.heap.size 34 i0 (.agg (ndA noNd)) 6 64 Tryd.underlying22 hi hz0 hz1 hz2 rfl (by decide) _ _ _ rfl ((O.alloc _).alloc _) ⟨wr.heap.size + 1, 0, none⟩ 1 1 (ndA ⟨yo, yn, yv, yx, yl, (yr - (b : Int))⟩).toList rfl rfl (nd_newE (by simp) ⟨yo, yn, yv, yx, yl, (yr - (b : Int))⟩) (nd_one _) ?c3 ?c4 ?c5 ?_)
              case c3 => unfold maxLen; omega
              case c4 => omega
              case c5 => first | omega | (simp; omega)
              intro v' w1 hown' hgrow _
              rw [HN.out] at hown'
              have GW : Below u2.heap.size u2 w1 := (galloc (galloc G _) _).grown hgrow (by first | omega | (simp; omega)) (fun r e => (O.lt _ e).1)
              clear hgrow
              go_wp2
              go_roundw
              case rel => exact ⟨k + 1, by omega, by go_num, by rw [HF.out], by rw [HE.out]; exact hown', GW⟩
              case measure => first | (simp [intOf]; omega) | omega
          · have d1 : decide (0 ≤ yl) = true := decide_eq_true (by omega)
            have d1b : 0 ≤ yl := by omega
            by_cases h2 : yr < 0
            · have d2 : decide (0 ≤ yr) = false := decide_eq_false (by omega)
              have HN := show Hid (_ = _) from hN (yl - (b : Int)) yr (if_neg h1) (if_pos h2)
              clear hN
              go_wp2_with (at_builtin; refine wpList_append_own _ rfl (.tmp 52) (.tmp 54) 22 rfl u2.heap.size 34 i0 (.agg (ndA noNd)) 6 64 Tryd.underlying22 hi hz0 hz1 hz2 rfl (by decide) _ _ _ rfl ((O.alloc _).alloc _) ⟨wr.heap.size + 1, 0, none⟩ 1 1 (ndA ⟨yo, yn, yv, yx, (yl - (b : Int)), yr⟩).toList rfl rfl (nd_newE (by simp) ⟨yo, yn, yv, yx, (yl - (b : Int)), yr⟩) (nd_one _) ?c3 ?c4 ?c5 ?_)
              case c3 => unfold maxLen; omega
              case c4 => omega
              case c5 => first | omega | (simp; omega)
              intro v' w1 hown' hgrow _
              rw [HN.out] at hown'
              have GW : Below u2.heap.size u2 w1 := (galloc (galloc G _) _).grown hgrow (by first | omega | (simp; omega)) (fun r e => (O.lt _ e).1)
              clear hgrow
              go_wp2
              go_roundw
              case rel => exact ⟨k + 1, by omega, by go_num, by rw [HF.out], by rw [HE.out]; exact hown', GW⟩
              case measure => first | (simp [intOf]; omega) | omega
            · have d2 : decide (0 ≤ yr) = true := decide_eq_true (by omega)
              have d2b : 0 ≤ yr := by omega
              have HN := show Hid (_ = _) from hN (yl - (b : Int)) (yr - (b : Int)) (if_neg h1) (if_neg h2)
              clear hN
              go_wp2_with (at_builtin; refine wpList_append_own _ rfl (.tmp 52) (.tmp 54) 22 rfl u2.heap.size 34 i0 (.agg (ndA noNd)) 6 64 Tryd.underlying22 hi hz0 hz1 hz2 rfl (by decide) _ _ _ rfl ((O.alloc _).alloc _) ⟨wr.heap.size + 1, 0, none⟩ 1 1 (ndA ⟨yo, yn, yv, yx, (yl - (b : Int)), (yr - (b : Int))⟩).toList rfl rfl (nd_newE (by simp) ⟨yo, yn, yv, yx, (yl - (b : Int)), (yr - (b : Int))⟩) (nd_one _) ?c3 ?c4 ?c5 ?_)
              case c3 => unfold maxLen; omega
              case c4 => omega
              case c5 => first | omega | (simp; omega)
              intro v' w1 hown' hgrow _
              rw [HN.out] at hown'
              have GW : Below u2.heap.size u2 w1 := (galloc (galloc G _) _).grown hgrow (by first | omega | (simp; omega)) (fun r e => (O.lt _ e).1)
              clear hgrow
              go_wp2
              go_roundw
              case rel => exact ⟨k + 1, by omega, by go_num, by rw [HF.out], by rw [HE.out]; exact hown', GW⟩
              case measure => first | (simp [intOf]; omega) | omega
    · obtain rfl : k = n := by omega
      rw [hfull] at O
      have hl9 : (subO ns root).length = cn k := by have := O.1; rw [nds_len] at this; omega
      rw [← hl9] at O
      clear hst hle hz hin hout hf0
      go_wp2
      go_ret
      exact ⟨_, rfl, World.ownsRow.mono O G2.size, gtrans G2 G⟩

end Go.Proofs.YtbedpgamjaemoaaDoor
