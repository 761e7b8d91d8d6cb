/- For every line of steps the law NumRuns returns true: each value, built on the program's own answers, is the document's. num's tables hold what their texts lay (the card ties that to the text). No other condition. -/
import Derived.Test.YtompfpeankcfeaaDoorTold
import Derived.Test.YtompfpeankcfeaaDoorOpenSt
import Derived.Test.YtompfpeankcfeaaDoorDoorTab
import Derived.Test.YtompfpeankcfeaaDoorCards
import Derived.Test.YtompfpeankcfeaaDoorTie
import Derived.OpenShut
import Derived.Carry
import Derived.Deep.DeepHandedRow
namespace Go.Proofs.YtompfpeankcfeaaDoor
open Go.ChangeShapes Go.WideShapes Go.ChangeAt Go.RowKit Go.BigFrame
set_option linter.unusedVariables false
set_option linter.unusedSimpArgs false

def valsV : List V2 → List Value
  | [] => []
  | x :: r => .bool x.1 :: .int .i64 x.2 :: valsV r
theorem valsV_append (a b : List V2) : valsV (a ++ b) = valsV a ++ valsV b := by
  induction a with
  | nil => rfl
  | cons x a ih => simp [valsV, ih]
theorem valsV_length (a : List V2) : (valsV a).length = a.length * 2 := by
  induction a with
  | nil => rfl
  | cons x a ih => simp only [valsV, List.length_cons, ih]; omega
theorem valsV_at (a : List V2) (j : Nat) (h : j < a.length) : (valsV a)[j * 2]? = some (.bool (a.getD j noV).1) ∧ (valsV a)[j * 2 + 1]? = some (.int .i64 (a.getD j noV).2) := by
  induction a generalizing j with
  | nil => simp at h
  | cons x a ih =>
    cases j with
    | zero => simp [valsV]
    | succ j =>
      have := ih j (by simpa using h)
      have e1 : (j + 1) * 2 = j * 2 + 2 := by omega
      rw [e1]
      simpa [valsV] using this
theorem vals_of_own {w : World} {base : Nat} {v : Value} {n : Nat} {vs : List V2} (h : w.ownsRow base 25 2 v n (valsV vs)) (hf : ∀ j, fitsB (vs.getD j noV).2 = true) : ∃ ao cap, v = .slice ao n cap ∧ IsVals w ao n vs := by
  obtain ⟨h1, h2⟩ := h
  have hl : vs.length = n := by rw [valsV_length] at h1; omega
  rcases h2 with ⟨rfl, rfl⟩ | ⟨g, cap, cur, rfl, hb, hh, hc, hm, hs, ht⟩
  · exact ⟨none, 0, rfl, hl, by omega, hf, .inl rfl⟩
  · refine ⟨_, cap, rfl, hl, by unfold maxLen at hm; omega, hf, .inr ⟨g, 0, rfl, lt_of_block hh, fun j hj => ?_⟩⟩
    have key : ∀ i x, (valsV vs)[i]? = some x → w.cell? ⟨g, i, none⟩ = some x := fun i x hx => by
      have hi := (List.getElem?_eq_some_iff.1 hx).1
      rw [cell_of_row w g i cur _ (0, 0) hh]
      have e1 : cur.toList[i]? = (valsV vs)[i]? := by rw [← ht, List.getElem?_take, if_pos (by omega)]
      have e2 : cur[i]? = cur.toList[i]? := by simp
      rw [e2, e1, hx]
    obtain ⟨e1, e2⟩ := valsV_at vs j (by omega)
    rw [Nat.zero_add]
    exact ⟨key _ _ e1, key _ _ e2⟩
theorem own_keepV {w u : World} {base : Nat} {e : TypeId} {size : Nat} {v : Value} {n : Nat} {xs : List Value} (h : w.ownsRow base e size v n xs) (G : Below w.heap.size w u) : u.ownsRow base e size v n xs := by
  obtain ⟨h1, h2⟩ := h
  refine ⟨h1, ?_⟩
  rcases h2 with h2 | ⟨g, cap, cur, rfl, hb, hh, r⟩
  · exact .inl h2
  · exact .inr ⟨g, cap, cur, rfl, hb, (G.block g (lt_of_block hh)).trans hh, r⟩
theorem fits_snoc (vs : List V2) (x : V2) (h : ∀ j, fitsB (vs.getD j noV).2 = true) (hx : fitsB x.2 = true) : ∀ j, fitsB ((vs ++ [x]).getD j noV).2 = true := by
  intro j
  rcases Nat.lt_or_ge j vs.length with e | e
  · have : (vs ++ [x]).getD j noV = vs.getD j noV := by simp [List.getD, List.getElem?_append_left e]
    rw [this]; exact h j
  · rcases Nat.eq_or_lt_of_le e with e | e
    · subst e
      have : (vs ++ [x]).getD vs.length noV = x := by simp [List.getD]
      rw [this]; exact hx
    · have : (vs ++ [x]).getD j noV = noV := by simp [List.getD, List.getElem?_eq_none (show (vs ++ [x]).length ≤ j by simp; omega)]
      rw [this]; decide
theorem infoV : (Tryd.prog.info? 25).map (fun i => (i.zero, i.size, i.bytes)) = some (some (.agg #[.bool false, .int .i64 0]), 2, 16) := by kernel_rfl
theorem info_partsV : ∃ i, Tryd.prog.info? 25 = some i ∧ i.zero = some (.agg #[.bool false, .int .i64 0]) ∧ i.size = 2 ∧ i.bytes = 16 := by
  have h := infoV
  cases hq : Tryd.prog.info? 25 with
  | none => simp [hq] at h
  | some i => simp [hq] at h; exact ⟨i, rfl, h.1, h.2.1, h.2.2⟩
theorem new2 (w : World) (x y : Value) (t : TypeId) (j : Nat) (u : Value) (h : [x, y][j]? = some u) : (w.alloc (.cells #[x, y] t)).cell? ((⟨w.heap.size, 0, none⟩ : Addr).add j) = some u := by
  rw [add_plain, Nat.zero_add, World.cell?_alloc_new]
  simpa using h
theorem one_val (k : Bool) (y : Int) : ∀ u ∈ [Value.bool k, Value.int .i64 y], u.oneCell' = true := by
  intro u hu; simp at hu; rcases hu with rfl | rfl <;> rfl

end Go.Proofs.YtompfpeankcfeaaDoor
namespace Go.Proofs.YtompfpeankcfeaaDoor.numRuns
open Go.ChangeShapes Go.WideShapes Go.ChangeAt Go.RowKit Go.BigFrame

set_option maxRecDepth 100000 in
set_option maxHeartbeats 4000000 in
theorem walk (ao : Option Addr) (n cap : Nat) (st : List Stp) (w : World) (TS : Tabs w) (TN : TabN w) (h : IsSteps w ao n st) (hr : n * 40 ≤ 140737488351232) :
    Calls Tryd.prog 4 #[.slice ao n cap] w fun e w' => e = .returned (.bool true) ∧ Below w.heap.size w w' := by
  obtain ⟨i3, ti, tz0, tz1, tz2⟩ := info_partsV
  have hn := h.2.1
  have c := add_any true true 2 3 w (by decide) (by decide)
  rw [show opK true true (2 + 3) = true from rfl, show opN true true (2 + 3) = 5 from rfl] at c
  go_enter Tryd.func4, Tryd.ntmps4
  go_upto_region 2 with (go_at_call 9; with_reducible refine c.mono ?_; rintro e u ⟨rfl, g⟩)
  clear c
  have B1 := galloc g (.cells #[.bool true, .int .i64 5] 25)
  have F5 := Two.new u (.bool true) (.int .i64 5) 25
  generalize hW1 : u.alloc (.cells #[.bool true, .int .i64 5] 25) = W1 at B1 F5 ⊢
  generalize hbu : u.heap.size = bu at F5 ⊢
  clear hW1 g hbu
  have f0 := F5.at0
  have f1 := F5.at1
  by_cases hbig : 2147483647 < n
  · have q : (2147483647 : Int) < (n : Int) := by omega
    go_wp2
    go_ret
    exact ⟨rfl, B1⟩
  have q : ¬ (2147483647 : Int) < (n : Int) := by omega
  go_upto_region 9 with fail
  clear f0 f1 F5
  go_loopw [4, 5, 6] (fun v1 v2 i wr => ∃ (k : Nat) (vs : List V2), k ≤ n ∧ i = .int .i64 k ∧ (∀ j, fitsB (vs.getD j noV).2 = true) ∧ wr.ownsRow W1.heap.size 25 2 v1 k (valsV vs) ∧ wr.ownsRow W1.heap.size 25 2 v2 k (valsV vs) ∧ (v1.ownBlock = none ∨ v1.ownBlock ≠ v2.ownBlock) ∧ Below w.heap.size w wr ∧ W1.heap.size ≤ wr.heap.size) (fun _ _ i _ => n - (intOf i).toNat)
  case atStart => exact ⟨0, [], Nat.zero_le _, rfl, fun j => by simp [noV]; decide, World.ownsRow_nil _ _ _ _, World.ownsRow_nil _ _ _ _, .inl rfl, B1, Nat.le_refl _⟩
  case round =>
    obtain ⟨k, vs, hk, rfl, hfv, D1, D2, hap, G, hsz⟩ := hrel
    by_cases hlt : k < n
    · obtain ⟨_, _, hst, q4⟩ := h.keep G
      rcases q4 with q4 | ⟨b, off, eb, hb, hcb⟩
      · omega
      subst eb
      obtain ⟨s0, s1, s2, s3, s4⟩ := hcb k hlt
      obtain ⟨w0, w1, w2, w4⟩ := hst k
      obtain ⟨s, hs⟩ : ∃ s, s = st.getD k noS := ⟨_, rfl⟩
      rw [← hs] at s0 s1 s2 s3 s4 w0 w1 w2 w4
      clear hcb hs hst
      obtain ⟨op, si, sj, kv, nv⟩ := s
      obtain ⟨a1, c1, rfl, V1⟩ := vals_of_own D1 hfv
      obtain ⟨a2, c2, rfl, V2⟩ := vals_of_own D2 hfv
      have hl1 := V1.1
      have ca := asked_any a1 k c1 vs op si sj (kv, nv) wr V1 w1 w2 (fun _ => by omega) (TS.keep G) (TN.keep G)
      have hrf := askedV_fits vs hfv (by omega) op si sj (kv, nv) w4
      have ct := fun (u : World) (g : Below wr.heap.size wr u) => told_any a2 k c2 vs op si sj (kv, nv) u (V2.keep g) w1 w2 (fun _ => by omega)
      obtain ⟨r, hrr⟩ : ∃ r, r = askedV vs op si sj (kv, nv) := ⟨_, rfl⟩
      rw [← hrr] at ca ct hrf
      clear hrr
      obtain ⟨rk, rn⟩ := r
      go_upto_region 12 with (go_at_call 7; with_reducible refine ca.mono ?_; rintro e u ⟨rfl, g⟩)
      have E1 := galloc g (.cells #[.bool rk, .int .i64 rn] 25)
      have T1 := Two.new u (.bool rk) (.int .i64 rn) 25
      have l1 : wr.heap.size ≤ u.heap.size := g.size
      generalize hU1 : u.alloc (.cells #[.bool rk, .int .i64 rn] 25) = U1 at E1 T1 ⊢
      generalize hb1 : u.heap.size = bv at T1 l1 ⊢
      have ct1 := ct U1 E1
      replace s0 := (E1.cell (p := ⟨b, off + k * 5, none⟩) hb).trans s0
      replace s1 := (E1.cell (p := ⟨b, off + k * 5 + 1, none⟩) hb).trans s1
      replace s2 := (E1.cell (p := ⟨b, off + k * 5 + 2, none⟩) hb).trans s2
      replace s3 := (E1.cell (p := ⟨b, off + k * 5 + 3, none⟩) hb).trans s3
      replace s4 := (E1.cell (p := ⟨b, off + k * 5 + 4, none⟩) hb).trans s4
      clear hU1 hb1 g ca ct u
      go_upto_region 13 with (go_at_call 10; with_reducible refine ct1.mono ?_; rintro e u ⟨rfl, g⟩)
      clear ct1 s0 s1 s2 s3 s4
      have E2 := galloc (gtrans E1 g) (.cells #[.bool rk, .int .i64 rn] 25)
      have T2 := Two.new u (.bool rk) (.int .i64 rn) 25
      replace T1 := (T1.keep g).alloc (.cells #[.bool rk, .int .i64 rn] 25)
      have l2 : wr.heap.size ≤ u.heap.size := (gtrans E1 g).size
      generalize hU2 : u.alloc (.cells #[.bool rk, .int .i64 rn] 25) = U2 at E2 T1 T2 ⊢
      generalize hb2 : u.heap.size = bw at T2 l2 ⊢
      clear hU2 hb2 g E1
      have t0 := T1.at0
      have t1 := T1.at1
      have t2 := T2.at0
      have t3 := T2.at1
      have D1' := own_keepV D1 E2
      have D2' := own_keepV D2 E2
      have hsz2 := E2.size
      go_upto_region 16 with (at_builtin; refine wpList_append_lies _ rfl (.tmp 44) (.tmp 46) 29 rfl W1.heap.size 25 i3 (.agg #[.bool false, .int .i64 0]) 2 16 Tryd.underlying29 ti tz0 tz1 tz2 rfl (by decide) _ k (valsV vs) rfl (D1'.alloc _) ⟨U2.heap.size, 0, none⟩ 1 1 [.bool rk, .int .i64 rn] rfl rfl (new2 _ _ _ _) (one_val rk rn) (by decide) ?c3 ?c4 ?c5 _ rfl ?_)
      case c3 => unfold maxLen; omega
      case c4 => omega
      case c5 => simp; omega
      intro g1 c3 w6 hown6 hgrow6 hat6 hlt6
      have n1 := fun r e => (D1.lt r e)
      have n2 := fun r e => (D2.lt r e)
      have D26 : w6.ownsRow W1.heap.size 25 2 (.slice a2 k c2) k (valsV vs) := (D2'.alloc _).kept hgrow6 (by
        rcases hap with e | e
        · rw [e]
          cases h5 : (Value.slice a2 k c2).ownBlock with
          | none => exact .inl rfl
          | some r => exact .inr (by simp)
        · exact .inr (Ne.symm e))
      have T26 : Two w6 bw (.bool rk) (.int .i64 rn) 25 := (hgrow6.block bw (by have := T2.lt; simp; omega) (fun e => by have := (n1 _ e.symm).2; omega)).trans (T2.alloc _)
      have G6 : Below w.heap.size w w6 := ((gtrans G E2).alloc (by have := (gtrans G E2).size; omega) _).grown hgrow6 (by have := (gtrans G E2).size; simp; omega) (fun r e => by have := (n1 r e).1; have := B1.size; omega)
      have hs6 : U2.heap.size + 1 ≤ w6.heap.size := by have := hgrow6.size; simpa using this
      have hH6 : (Value.slice a1 k c1).ownBlock = some g1 ∨ g1 = U2.heap.size + 1 := by rcases hat6 with e | e; exact .inl e; exact .inr (by first | exact e | simpa using e)
      clear hat6 hgrow6 t0 t1 t2 t3 D1' D2' T1 T2
      have t2 := T26.at0
      have t3 := T26.at1
      go_upto_region 10 with (at_builtin; refine wpList_append_lies _ rfl (.tmp 48) (.tmp 50) 29 rfl W1.heap.size 25 i3 (.agg #[.bool false, .int .i64 0]) 2 16 Tryd.underlying29 ti tz0 tz1 tz2 rfl (by decide) _ k (valsV vs) rfl (D26.alloc _) ⟨w6.heap.size, 0, none⟩ 1 1 [.bool rk, .int .i64 rn] rfl rfl (new2 _ _ _ _) (one_val rk rn) (by decide) ?c3 ?c4 ?c5 _ rfl ?_)
      case c3 => unfold maxLen; omega
      case c4 => omega
      case c5 => simp; omega
      intro g2 c4 w7 hown7 hgrow7 hat7 hlt7
      have hne : ∀ r, (Value.slice a2 k c2).ownBlock = some r → r ≠ g1 := fun r e e2 => by
        subst e2
        rcases hH6 with h5 | h5
        · rcases hap with h6 | h6
          · rw [h6] at h5; cases h5
          · exact h6 (h5.trans e.symm)
        · have := (n2 r e).2; omega
      have D17 : w7.ownsRow W1.heap.size 25 2 (.slice (some ⟨g1, 0, none⟩) (k + 1) c3) (k + 1) (valsV (vs ++ [(rk, rn)])) := by
        rw [valsV_append]
        refine (hown6.alloc _).kept hgrow7 (.inr ?_)
        intro e
        exact hne g1 e.symm rfl
      have D27 : w7.ownsRow W1.heap.size 25 2 (.slice (some ⟨g2, 0, none⟩) (k + 1) c4) (k + 1) (valsV (vs ++ [(rk, rn)])) := by
        rw [valsV_append]; exact hown7
      have hap7 : g1 ≠ g2 := fun e => by
        rcases hat7 with h5 | h5
        · exact hne g2 h5 e.symm
        · try simp at h5
          omega
      have G7 : Below w.heap.size w w7 := (G6.alloc G6.size _).grown hgrow7 (by have := G6.size; simp; omega) (fun r e => by have := (n2 r e).1; have := B1.size; omega)
      have hs7 : W1.heap.size ≤ w7.heap.size := by have := hgrow7.size; simp at this; omega
      clear hown6 hown7 hgrow7 hat7 D26 T26 t2 t3 G6 D1 D2 G V1 V2
      go_wp2
      go_roundw
      case rel => exact ⟨k + 1, vs ++ [(rk, rn)], by omega, by go_num, fits_snoc vs _ hfv hrf, D17, D27, .inr (by simp [Value.ownBlock]; exact hap7), G7, hs7⟩
      case measure => simp [intOf]; omega
    · obtain rfl : k = n := by omega
      go_wp2
      go_ret
      exact ⟨rfl, G⟩

theorem own : ownKnob Tryd.prog.godebug = none := by kernel_rfl
theorem laidOut : laidOutB Tryd.prog = true := by kernel_rfl

theorem gAnd : Tryd.prog.globalNamed "sluice/num.andTable" = some 0 := by kernel_rfl
theorem gOr : Tryd.prog.globalNamed "sluice/num.orTable" = some 1 := by kernel_rfl
theorem gNot : Tryd.prog.globalNamed "sluice/num.notTable" = some 2 := by kernel_rfl
theorem tabs {W : World} (h : laidMetH Tryd.prog Rows.numRunsRow.laid W) : Tabs W := by
  have h0 : laidMet Tryd.prog Rows.numRunsRow.laid W := h
  have h1 := laidMet_tail h0
  have ca := tab33 (z := fun i j => minI i j) gAnd (by kernel_rfl) Tryd.underlying52 Tryd.underlying51 Tryd.underlying50 (by kernel_rfl) (by kernel_rfl) (by kernel_rfl) h0
  have co := tab33 (z := fun i j => maxI i j) gOr (by kernel_rfl) Tryd.underlying52 Tryd.underlying51 Tryd.underlying50 (by kernel_rfl) (by kernel_rfl) (by kernel_rfl) h1
  exact ⟨block_of (co 0 0 (by omega) (by omega)), ca, co⟩
theorem tabN {W : World} (h : laidMetH Tryd.prog Rows.numRunsRow.laid W) : TabN W := by
  have h0 : laidMet Tryd.prog Rows.numRunsRow.laid W := h
  have h2 := laidMet_tail (laidMet_tail h0)
  have cn := tab3 (z := fun i => notI i) gNot (by kernel_rfl) Tryd.underlying51 Tryd.underlying50 (by kernel_rfl) (by kernel_rfl) h2
  exact ⟨block_of (cn 0 (by omega)), fun i hi => (cn i hi).trans (by rw [notI_eq i hi])⟩

set_option maxRecDepth 100000 in
theorem contract (H : Type) (enc : TypeId × Value → H) (W : World) (base : Nat) (args : Array Value) (ds gs : List (DataW H)) (before : List MemPlace)
    (hval : ∀ (j : Nat) t v, Tryd.f4.params[j]? = some t → args[j]? = some v → Value.okWide Tryd.prog W .any base t v)
    (hsz : (DataW.weightsEach Tryd.prog (Tryd.f4.params.toList ++ Rows.numRunsSpec.plain.varTypes Tryd.prog) (ds ++ gs)).all (· ≤ reachBytes) = true)
    (hW : DataW.Whole enc Tryd.prog Tryd.f4.params.toList Rows.numRunsSpec.vars false W args.toList ds gs before) (hL : laidMetH Tryd.prog Rows.numRunsRow.laid W) :
    Calls Tryd.prog 4 args W fun e W' => ∃ v, e = .returned v ∧ Rows.numRunsSpec.post enc Tryd.prog Tryd.f4 false true false false W args v W' := by
  have hW' := hW
  obtain ⟨p, q, hA0, hV, rfl, hfz, hnd⟩ := hW
  have hA : DataW.TrodAll enc Tryd.prog W 0 (fun _ => true) true Tryd.f4.params.toList args.toList ds p := hA0
  rw [Tryd.params4] at hA hval hsz
  obtain ⟨v0, vs0, d0, ds0, p0, q0, hargs, rfl, rfl, h0, r0⟩ := trodAll_cons hA
  obtain ⟨rfl, rfl, rfl⟩ := trodAll_nil r0
  obtain rfl : args = #[v0] := by cases args; simp_all
  obtain ⟨rfl, rfl⟩ := trodVars_none hV
  have k0 := h0
  have lt0 : ∀ x ∈ p0, x.block < W.heap.size := by obtain ⟨m, hm⟩ := k0; exact DataW.trod_lt m _ _ _ hm
  obtain ⟨ao0, n0, cap0, st0, e0, w0, wr0⟩ : ∃ ao n cap st, v0 = .slice ao n cap ∧ IsSteps W ao n st ∧ n * 40 ≤ 140737488351232 := by
    obtain ⟨a, len, cap, e⟩ := okWide_slice Tryd.underlying22 (hval 0 22 v0 rfl rfl)
    subst e
    obtain ⟨fuel, hf⟩ := h0
    have hf' : DataW.trod enc Tryd.prog W 0 (fun _ => true) true fuel 22 [.slice a len cap] = some (d0, p0) := hf
    exact open_steps hf' (fun b hb => by
      have h1 := List.all_eq_true.1 hsz b (DataW.weights_mem_each (j := 0) (t := 22) rfl rfl b hb)
      simpa using h1)
  subst e0
  clear hA0
  refine (walk ao0 n0 cap0 st0 W (tabs hL) (tabN hL) w0 wr0).mono fun e W' ⟨he, bel⟩ => ?_
  subst he
  exact ⟨_, rfl, _, _, _, [], _, [], hW', trodAll_mk1 (shut_bool Tryd.underlying4 _), (trodAll_cons_mk (Below.trod laidOut (by kernel_rfl) (of_decide_eq_true (by kernel_rfl)) k0 bel lt0) trodAll_mk0), rfl, bel.frame _, fun h => by cases h⟩

/-- For the world of the witness: the settled one, the tables holding what their text lays. -/
def put (c : Array Value) : Obj → Obj
  | .cells _ t frozen => .cells c t frozen
  | x => x
theorem laid_met (os : Os) : laidMet Tryd.prog Rows.numRunsRow.laid (({ World.holding Tryd.prog os ⟨#[], #[], []⟩ with heap := ((((World.holding Tryd.prog os ⟨#[], #[], []⟩).heap.modify 0 (put #[.int .i64 0, .int .i64 0, .int .i64 0, .int .i64 0, .int .i64 1, .int .i64 1, .int .i64 0, .int .i64 1, .int .i64 2])).modify 1 (put #[.int .i64 0, .int .i64 1, .int .i64 2, .int .i64 1, .int .i64 1, .int .i64 2, .int .i64 2, .int .i64 2, .int .i64 2])).modify 2 (put #[.int .i64 2, .int .i64 1, .int .i64 0])) } : World).forCall (fun _ _ => 0) ⟨#[], #[.slice none 0 0], []⟩).memory :=
  laidMet_of_run' 8 (by kernel_rfl) (by kernel_rfl)
theorem reads (os : Os) {H : Type} (enc : TypeId × Value → H) : ∃ places, DataW.whole enc Tryd.prog (({ World.holding Tryd.prog os ⟨#[], #[], []⟩ with heap := ((((World.holding Tryd.prog os ⟨#[], #[], []⟩).heap.modify 0 (put #[.int .i64 0, .int .i64 0, .int .i64 0, .int .i64 0, .int .i64 1, .int .i64 1, .int .i64 0, .int .i64 1, .int .i64 2])).modify 1 (put #[.int .i64 0, .int .i64 1, .int .i64 2, .int .i64 1, .int .i64 1, .int .i64 2, .int .i64 2, .int .i64 2, .int .i64 2])).modify 2 (put #[.int .i64 2, .int .i64 1, .int .i64 0])) } : World).forCall (fun _ _ => 0) ⟨#[], #[.slice none 0 0], []⟩).memory Tryd.f4.params.toList Rows.numRunsSpec.vars false (#[.slice none 0 0] : Array Value).toList 8 = some ([.nil], [], places) :=
  ⟨[], by kernel_rfl⟩

set_option maxRecDepth 100000 in
theorem lifted (os : Os) (started : os.Started) (H : Type) (enc : TypeId × Value → H) (F : Stop.Interp) :
    ReturnsInHanded {} Tryd.checked os 4 .any ((OpenSpec.ofChange Rows.numRunsSpec).preRow enc Tryd.prog Tryd.f4 Rows.numRunsRow.domain false Rows.numRunsRow.laid) (((OpenSpec.ofChange Rows.numRunsSpec).at F).post enc Tryd.prog Tryd.f4 false true false false) := by
  obtain ⟨places, hx⟩ := reads os enc
  refine returnsInHanded_of_row (C := Tryd.checked) (s := OpenSpec.ofChange Rows.numRunsSpec) own started (by kernel_rfl) Tryd.func4
    (witness_row_at (enc := enc) (C := Tryd.checked) false ({ World.holding Tryd.prog os ⟨#[], #[], []⟩ with heap := ((((World.holding Tryd.prog os ⟨#[], #[], []⟩).heap.modify 0 (put #[.int .i64 0, .int .i64 0, .int .i64 0, .int .i64 0, .int .i64 1, .int .i64 1, .int .i64 0, .int .i64 1, .int .i64 2])).modify 1 (put #[.int .i64 0, .int .i64 1, .int .i64 2, .int .i64 1, .int .i64 1, .int .i64 2, .int .i64 2, .int .i64 2, .int .i64 2])).modify 2 (put #[.int .i64 2, .int .i64 1, .int .i64 0])) } : World) #[.slice none 0 0] rfl (by kernel_rfl) (by kernel_rfl) (by kernel_rfl)
      (OpenSpec.preRow_of_cond 8 hx (by kernel_rfl) (fun k hk => by cases hk) (by kernel_rfl) (laid_met os))) ?_
  intro W base args ds gs before hval hW _ _ hsz hL _ _
  exact contract H enc W base args ds gs before hval hsz hW hL

theorem said : Rows.NumRunsSaid :=
  OpenClaim.holds_of_cond 4 Tryd.f4 rfl rfl rfl rfl rfl rfl rfl ⟨rfl, rfl, rfl, rfl, rfl⟩ rfl rfl rfl rfl rfl (by kernel_rfl) Tryd.func4 (by kernel_rfl)
    (of_decide_eq_true (by kernel_rfl)) (by unfold Func.isWrapper; first | (rw [if_pos (by decide +kernel)]; kernel_rfl) | (rw [if_neg (by decide +kernel)]; exact ⟨rfl, rfl⟩))
    (fun os started H enc _ F => by rw [OpenClaim.pre_eq_preRow]; exact lifted os started H enc F)

theorem plain (f : FuncId) (fn : Func) (hf : Tryd.pinned.checked.prog.funcNamed "sluice/sluicelaw1.NumRuns" = some f) (hfn : Tryd.pinned.checked.prog.funcs[f]? = some fn) :
    false = Tryd.pinned.checked.prog.looks [] ∧ ∀ (j : Nat) t, fn.params[j]? = some t → Tryd.pinned.checked.prog.wantsStandIn t = false := by
  obtain rfl : f = 4 := Option.some.inj ((show Tryd.prog.funcNamed "sluice/sluicelaw1.NumRuns" = some 4 by kernel_rfl).symm.trans hf) |>.symm
  obtain rfl : fn = Tryd.f4 := (Option.some.inj (Tryd.func4.symm.trans hfn)).symm
  refine ⟨by kernel_rfl, fun j t ht => ?_⟩
  rw [Tryd.params4] at ht
  have hm : t = 22 := by simpa using Array.mem_of_getElem? ht
  rw [hm]
  exact (show Tryd.prog.wantsStandIn 22 = false by kernel_rfl)

end Go.Proofs.YtompfpeankcfeaaDoor.numRuns
namespace Go.Proofs.YtompfpeankcfeaaDoor
theorem numRuns_holds : Rows.NumRunsCardSaid :=
  Claim7.holds_tied_plain_at .later [] _ _ _ _ numRuns.said (fun _ h => by cases h) (by kernel_rfl) (fun _ h => by cases h) numRuns_row_tie rfl ⟨rfl, rfl⟩ (by kernel_rfl) rfl numRuns.plain (by kernel_rfl)
#print axioms numRuns_holds
end Go.Proofs.YtompfpeankcfeaaDoor
