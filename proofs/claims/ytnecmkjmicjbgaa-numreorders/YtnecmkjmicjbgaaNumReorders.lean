/- For every list of int64 and every two numbers the law NumReorders returns true: count, sum, least and greatest do not hang on the order; a number and its opposite add nothing. No condition. -/
import Derived.Test.YtnecmkjmicjbgaaTurn
import Derived.Test.YtnecmkjmicjbgaaNumber
import Derived.Test.YtnecmkjmicjbgaaExt
import Derived.OpenShut
import Derived.Carry
import Derived.SizedLaws
import Derived.Lib.SmallJoins
import Derived.Laws.AppendOwnNone
namespace Go.Proofs.Ytnecmkjmicjbgaa.numReorders
open Go.ChangeShapes Go.WideShapes Go.ChangeAt Go.RowKit Go.BigFrame
set_option linter.unusedVariables false
set_option linter.unusedSimpArgs false

theorem isRow_own2 {w : World} {base : Nat} {e : TypeId} {v : Value} {n : Nat} {zs : List Int} (h : w.ownsRow base e 1 v n (zs.map (Value.int .i64))) (hf : ∀ j, fitsB (zs.getD j 0) = true) :
    ∃ ao cap, v = .slice ao n cap ∧ IsRow w ao n zs ∧ (ao = none → n = 0 ∧ cap = 0) := by
  rcases h.2 with ⟨rfl, rfl⟩ | ⟨g, cap, cur, rfl, r⟩
  · have : zs = [] := List.length_eq_zero_iff.1 (by simpa using h.1)
    subst this
    exact ⟨none, 0, rfl, IsRow.nil _ _, fun _ => ⟨rfl, rfl⟩⟩
  · obtain ⟨ao, cap', e1, e2, _⟩ := isRow_own h hf
    refine ⟨some ⟨g, 0, none⟩, cap, rfl, ?_, fun e => by simp at e⟩
    simp only [Value.slice.injEq, true_and] at e1
    rw [e1.1]; exact e2

theorem turnU_fits (zs : List Int) (c n : Nat) (h : ∀ j, fitsB (zs.getD j 0) = true) (j : Nat) : fitsB ((turnU zs c n).getD j 0) = true := by
  rcases Nat.lt_or_ge j n with h1 | h1
  · have := turnU_get zs c n j h1
    simp only [List.getD, this, Option.getD_some]
    exact h _
  · have : (turnU zs c n).getD j 0 = 0 := by simp [List.getD, List.getElem?_eq_none (show (turnU zs c n).length ≤ j by rw [turnU_len]; exact h1)]
    rw [this]; decide

set_option maxHeartbeats 400000 in
theorem turned_none (ao : Option Addr) (cap : Nat) (kk : Int) (w : World) :
    Calls Try.prog 8 #[.slice ao 0 cap, .int .i64 kk] w fun e w' => ∃ v, e = .returned v ∧ w'.ownsRow w.heap.size 2 1 v 0 (([] : List Int).map (Value.int .i64)) ∧ Below w.heap.size w w' := by
  go_enter Try.func8, Try.ntmps8
  go_wp2
  refine wp_loop_rounds 1 ?_
  rw [rounds_succ]
  go_wp2
  go_ret
  exact ⟨_, rfl, World.ownsRow_nil _ _ _ _, Below.refl _ _⟩

/-- turned gives a list of the same numbers; at 0 its last is the first. -/
theorem turned_any (ao : Option Addr) (len cap : Nat) (zs : List Int) (kk : Int) (h0 : zs.length = len) (hf : ∀ j, fitsB (zs.getD j 0) = true) (hr : len * 8 ≤ 140737488351232) (hk : fitsB kk = true) :
    ∃ mz : List Int, mz.Perm zs ∧ (∀ j, fitsB (mz.getD j 0) = true) ∧ (kk = 0 → 0 < len → mz.getD (len - 1) 0 = zs.getD 0 0) ∧ ∀ w, IsRow w ao len zs →
      Calls Try.prog 8 #[.slice ao len cap, .int .i64 kk] w fun e w' => ∃ am capm, e = .returned (.slice am len capm) ∧ IsRow w' am len mz ∧ (am = none → len = 0 ∧ capm = 0) ∧ Below w.heap.size w w' := by
  rcases Nat.eq_zero_or_pos len with hl | hl
  · subst hl
    obtain rfl : zs = [] := List.length_eq_zero_iff.1 h0
    refine ⟨[], List.Perm.refl _, hf, fun _ h => absurd h (Nat.lt_irrefl _), fun w _ => (turned_none ao cap kk w).mono ?_⟩
    rintro e w' ⟨v, rfl, hown, g⟩
    obtain ⟨am, capm, rfl, hm, hnn⟩ := isRow_own2 hown hf
    exact ⟨am, capm, rfl, hm, hnn, g⟩
  · obtain ⟨c, hc⟩ := Int.eq_ofNat_of_zero_le (Int.emod_nonneg kk (show (len : Int) ≠ 0 by omega))
    have hcl : c < len := by have := Int.emod_lt_of_pos kk (show 0 < (len : Int) by omega); omega
    have hp := turnU_perm zs c (by omega)
    rw [h0] at hp
    refine ⟨turnU zs c len, hp, turnU_fits zs c len hf, fun h1 _ => ?_, fun w hrow => ?_⟩
    · subst h1
      have : c = 0 := by simp at hc; omega
      subst this
      have := turnU_get zs 0 len (len - 1) (by omega)
      simp only [List.getD, this, Option.getD_some]
      rw [h0, show len - 1 - (len - 1) + 0 = 0 by omega, Nat.zero_mod]
    · obtain ⟨q1, q2, q3, q4⟩ := hrow
      rcases q4 with q4 | ⟨b, off, rfl, hb, hcb⟩
      · omega
      refine (turned_some b off len cap zs kk c w hb q1 hr hl hf hk hc hcl hcb).mono ?_
      rintro e w' ⟨v, rfl, hown, g⟩
      obtain ⟨am, capm, rfl, hm, hnn⟩ := isRow_own2 hown (turnU_fits zs c len hf)
      exact ⟨am, capm, rfl, hm, hnn, g⟩

theorem one_int (x : Int) : ∀ u ∈ [Value.int .i64 x], u.oneCell' = true := by
  intro u hu
  simp at hu
  subst hu
  rfl
theorem own_one (w : World) (v : Value) (e : TypeId) : (w.alloc (.cells #[v] e)).ownsRow w.heap.size e 1 (.slice (some ⟨w.heap.size, 0, none⟩) 1 1) 1 [v] :=
  ⟨rfl, .inr ⟨w.heap.size, 1, #[v], rfl, Nat.le_refl _, by show (w.heap.push _)[w.heap.size]? = _; simp, Nat.le_refl _, by unfold maxLen; omega, rfl, rfl⟩⟩
theorem own_ge {w : World} {base : Nat} {e : TypeId} {v : Value} {n : Nat} {xs : List Value} (h : w.ownsRow base e 1 v n xs) (k : Nat) (hk : v.ownBlock = some k) : base ≤ k := by
  rcases h.2 with ⟨rfl, _⟩ | ⟨g, c, cur, rfl, hg, _⟩
  · simp [Value.ownBlock] at hk
  · simp [Value.ownBlock] at hk; omega
theorem sum_with (x : Int) {mz zs : List Int} (h : mz.Perm zs) (n len : Nat) (hn : n = len + 2) (hl : zs.length = len) : sumU (x :: mz ++ [-x]) n = sumU zs len := by
  have e1 : n = (x :: mz ++ [-x]).length := by simp [h.length_eq]; omega
  rw [e1, ← hl, sumU_sum, sumU_sum, ← perm_sum h]
  simp
  omega
theorem last_with (x : Int) (mz : List Int) (n : Nat) (hn : n = mz.length + 2) : (x :: mz ++ [-x]).getD (n - 1) 0 = -x := by
  subst hn
  simp [List.getD]
theorem fits_with (x : Int) (mz : List Int) (h1 : fitsB x = true) (h2 : fitsB (-x) = true) (h3 : ∀ j, fitsB (mz.getD j 0) = true) (j : Nat) : fitsB ((x :: mz ++ [-x]).getD j 0) = true := by
  rcases j with _ | j
  · exact h1
  · rcases Nat.lt_or_ge j mz.length with h | h
    · have : (x :: mz ++ [-x]).getD (j + 1) 0 = mz.getD j 0 := by simp [List.getD, List.getElem?_append_left h]
      rw [this]; exact h3 j
    · rcases Nat.eq_or_lt_of_le h with e | e
      · subst e
        have : (x :: mz ++ [-x]).getD (mz.length + 1) 0 = -x := by simp [List.getD]
        rw [this]; exact h2
      · have : (x :: mz ++ [-x]).getD (j + 1) 0 = 0 := by simp [List.getD, List.getElem?_append_right h, List.getElem?_eq_none (show [-x].length ≤ j - mz.length by simp; omega)]
        rw [this]; decide

set_option maxHeartbeats 2000000 in
theorem walk (ao : Option Addr) (len cap : Nat) (zs : List Int) (kk : Int) (w1 : (Lit.int .i64 kk).wf = true) (x : Int) (w2 : (Lit.int .i64 x).wf = true) (w : World) (h : IsRow w ao len zs) (hn : ao = none → cap = 0) (hr : len * 8 ≤ 140737488351232) :
    Calls Try.prog 4 #[.slice ao len cap, .int .i64 kk, .int .i64 x] w fun e w' => e = .returned (.bool true) ∧ Below w.heap.size w w' := by
  have hx : fitsB x = true := fits_wf w2
  have hX := (fits_iff x).1 hx
  obtain ⟨i0, hi, hz0, hz1, hz2⟩ := info_parts infoI
  have hzl : zs.length = len := h.1
  have hzf := h.2.2.1
  have h0 := h
  obtain ⟨mz, mP, mF, _, cT⟩ := turned_any ao len cap zs kk hzl hzf hr (fits_wf w1)
  obtain ⟨m0, m0P, m0F, m0L, cT0⟩ := turned_any ao len cap zs 0 hzl hzf hr (by decide)
  replace m0L := m0L rfl
  have c5 := fun w hr => fold_five ao len cap zs w hr
  clear w1 w2 hn
  go_enter Try.func4, Try.ntmps4
  have G := Below.refl w.heap.size w
  go_upto_region 2 with (go_at_call 6; refine (c5 _ h).mono ?_; rintro e u0 ⟨rfl, g0⟩; replace G := gtrans G g0; obtain ⟨hc, hf⟩ := bcell G)
  replace G := galloc G (.cells #[.bool true, .int .i64 (len : Int)] 24)
  have F := Two.new u0 (.bool true) (.int .i64 (len : Int)) 24
  clear hc hf g0 c5
  generalize hV1 : u0.alloc (.cells #[.bool true, .int .i64 (len : Int)] 24) = V1 at G F ⊢
  generalize hb1 : u0.heap.size = bf at F ⊢
  clear hV1 hb1
  replace h := h.keep G
  have B := G
  clear G
  have xf0 := fun (n : Ext V1) => (n.cell _ _ F.lt).trans F.at0
  have xf1 := fun (n : Ext V1) => (n.cell _ _ F.lt).trans F.at1
  have hne : Nonempty (Ext V1) := ⟨⟨_, Below.refl _ _⟩⟩
  have yN := fun (n : Ext V1) => ext_of (number_any (len : Int) n.X)
  refine wp_region_ext (by kernel_rfl) (by kernel_rfl) ?_
  repeat (go_big_quiet_step (first | (go_at_call 7; with_reducible exact yN _)))
  refine wpQuiet_nil ?_
  intro _ hw'
  obtain ⟨nxw, hw''⟩ := hw'
  subst hw''
  have G := nxw.h
  clear xf0 xf1 yN hne F
  generalize nxw.X = V2 at G ⊢
  clear nxw
  replace h := h.keep G
  replace B := gtrans B G
  clear G
  go_upto_region 5 with (go_at_call 8; refine (cT _ h).mono ?_; rintro e u1 ⟨am, capm, rfl, hm, hnn, g1⟩)
  replace h := h.keep g1
  replace B := gtrans B g1
  clear g1 cT
  obtain ⟨K6, N6, H6, c6⟩ : ∃ k' n', Hid (k' = fitsB (sumU zs len) ∧ n' = fitN (sumU zs len)) ∧ ∀ ao cap w ys, IsRow w ao len ys → ys.Perm zs → Calls Try.prog 6 #[.int .i64 6, .slice ao len cap] w (fun e w' => e = .returned (.agg #[.bool k', .int .i64 n']) ∧ Below w.heap.size w w') :=
    ⟨foldK 6 zs, foldN 6 zs, ⟨by unfold foldK; simp [hzl], by unfold foldN; simp [hzl]⟩, fun ao cap w ys hr hp => by rw [← perm_foldK hp 6, ← perm_foldN hp 6 (by decide) (by decide)]; exact fold_any 6 ao len cap ys w hr⟩
  obtain ⟨K7, N7, c7⟩ : ∃ k' n', ∀ ao cap w ys, IsRow w ao len ys → ys.Perm zs → Calls Try.prog 6 #[.int .i64 7, .slice ao len cap] w (fun e w' => e = .returned (.agg #[.bool k', .int .i64 n']) ∧ Below w.heap.size w w') :=
    ⟨foldK 7 zs, foldN 7 zs, fun ao cap w ys hr hp => by rw [← perm_foldK hp 7, ← perm_foldN hp 7 (by decide) (by decide)]; exact fold_any 7 ao len cap ys w hr⟩
  obtain ⟨K8, N8, c8⟩ : ∃ k' n', ∀ ao cap w ys, IsRow w ao len ys → ys.Perm zs → Calls Try.prog 6 #[.int .i64 8, .slice ao len cap] w (fun e w' => e = .returned (.agg #[.bool k', .int .i64 n']) ∧ Below w.heap.size w w') :=
    ⟨foldK 8 zs, foldN 8 zs, fun ao cap w ys hr hp => by rw [← perm_foldK hp 8, ← perm_foldN hp 8 (by decide) (by decide)]; exact fold_any 8 ao len cap ys w hr⟩
  have d6m := fun w hr => c6 am capm w mz hr mP
  have d6l := fun w hr => c6 ao cap w zs hr (List.Perm.refl _)
  have d7m := fun w hr => c7 am capm w mz hr mP
  have d7l := fun w hr => c7 ao cap w zs hr (List.Perm.refl _)
  have d8m := fun w hr => c8 am capm w mz hr mP
  have d8l := fun w hr => c8 ao cap w zs hr (List.Perm.refl _)
  have e6l := d6l
  clear c6 c7 c8
  go_upto_region 7 with (first
    | (go_at_call 6; with_reducible refine (d6m _ hm).mono ?_; rintro e u ⟨rfl, g⟩; replace h := h.keep g; replace hm := hm.keep g; replace B := gtrans B g; clear d6m g)
    | (go_at_call 6; with_reducible refine (d6l _ h).mono ?_; rintro e u ⟨rfl, g⟩; replace h := h.keep g; replace hm := hm.keep g; replace B := gtrans B g; clear d6l g)
    | (go_at_call 6; with_reducible refine (d7m _ hm).mono ?_; rintro e u ⟨rfl, g⟩; replace h := h.keep g; replace hm := hm.keep g; replace B := gtrans B g; clear d7m g)
    | (go_at_call 6; with_reducible refine (d7l _ h).mono ?_; rintro e u ⟨rfl, g⟩; replace h := h.keep g; replace hm := hm.keep g; replace B := gtrans B g; clear d7l g)
    | (go_at_call 6; with_reducible refine (d8m _ hm).mono ?_; rintro e u ⟨rfl, g⟩; replace h := h.keep g; replace hm := hm.keep g; replace B := gtrans B g; clear d8m g)
    | (go_at_call 6; with_reducible refine (d8l _ h).mono ?_; rintro e u ⟨rfl, g⟩; replace h := h.keep g; replace hm := hm.keep g; replace B := gtrans B g; clear d8l g))
  obtain ⟨Kf, Nf, d10, d9⟩ : ∃ k' n', (∀ am capm w, IsRow w am len m0 → Calls Try.prog 6 #[.int .i64 10, .slice am len capm] w (fun e w' => e = .returned (.agg #[.bool k', .int .i64 n']) ∧ Below w.heap.size w w')) ∧ (∀ w, IsRow w ao len zs → Calls Try.prog 6 #[.int .i64 9, .slice ao len cap] w (fun e w' => e = .returned (.agg #[.bool k', .int .i64 n']) ∧ Below w.heap.size w w')) := by
    refine ⟨foldK 9 zs, foldN 9 zs, fun am capm w hr => ?_, fun w hr => fold_any 9 ao len cap zs w hr⟩
    have c := fold_any 10 am len capm m0 w hr
    have ml : m0.length = len := by rw [m0P.length_eq]; exact hzl
    have e1 : foldK 10 m0 = foldK 9 zs := by unfold foldK; rw [ml, hzl]; simp
    have e2 : foldN 10 m0 = foldN 9 zs := by
      unfold foldN; rw [ml, hzl]
      by_cases hl : len = 0
      · simp [hl]
      · simp only [hl, if_false]
        simp
        have := m0L (by omega)
        simpa [List.getD] using this
    rw [e1, e2] at c
    exact c
  clear m0P m0F m0L
  go_upto_region 9 with (first
    | (go_at_call 8; refine (cT0 _ h).mono ?_; rintro e u ⟨am0, capm0, rfl, hm0, _, g⟩; replace h := h.keep g; replace hm := hm.keep g; replace B := gtrans B g; clear cT0 g)
    | (go_at_call 6; with_reducible refine (d10 _ _ _ hm0).mono ?_; rintro e u ⟨rfl, g⟩; replace h := h.keep g; replace hm := hm.keep g; replace B := gtrans B g; clear d10 g hm0)
    | (go_at_call 6; with_reducible refine (d9 _ h).mono ?_; rintro e uz ⟨rfl, g⟩; replace h := h.keep g; replace hm := hm.keep g; replace B := gtrans B g; clear d9 g))
  clear h
  generalize hW : uz = W at hm B ⊢
  clear hW
  by_cases hxl : x = -9223372036854775808
  · subst hxl
    go_wp2
    go_ret
    exact ⟨rfl, B⟩
  · have hx0 : (x == -9223372036854775808) = false := by simpa using hxl
    have hWw : w.heap.size ≤ W.heap.size := B.size
    cases am with
    | none =>
      obtain ⟨rfl, rfl⟩ := hnn rfl
      obtain rfl : mz = [] := List.length_eq_zero_iff.1 hm.1
      clear hnn hm
      go_upto_region 12 with (at_builtin; refine wpList_append_own_none rfl (.tmp 48) (.tmp 49) 22 rfl W.heap.size 2 i0 1 Try.underlying22 hi _ _ _ rfl (own_one W (.int .i64 x) 2) rfl ?_)
      have hown1 := own_one W (.int .i64 x) 2
      obtain ⟨v', hv'⟩ : ∃ v', v' = Value.slice (some ⟨W.heap.size, 0, none⟩) 1 1 := ⟨_, rfl⟩
      rw [← hv'] at hown1 ⊢
      clear hv'
      have hW1 : W.heap.size ≤ (W.alloc (.cells #[.int .i64 x] 2)).heap.size := by simp
      have B1 := galloc B (.cells #[.int .i64 x] 2)
      generalize (W.alloc (.cells #[.int .i64 x] 2)) = w1 at hown1 hW1 B1 ⊢
      replace B := B1
      clear B1
      have h := h0.keep B
      have q6 : ∀ aw capw w, IsRow w aw (2) [x, -x] → Calls Try.prog 6 #[.int .i64 6, .slice aw (2) capw] w (fun e w' => e = .returned (.agg #[.bool K6, .int .i64 N6]) ∧ Below w.heap.size w w') := fun aw capw w hr => by have c := fold_six aw (2) capw _ w hr; rw [show sumU [x, -x] 2 = sumU zs 0 from sum_with x mP 2 0 rfl hzl, ← H6.out.1, ← H6.out.2] at c; exact c
      have q10 : ∀ aw capw w, IsRow w aw (2) [x, -x] → Calls Try.prog 6 #[.int .i64 10, .slice aw (2) capw] w (fun e w' => e = .returned (.agg #[.bool true, .int .i64 (-x)]) ∧ Below w.heap.size w w') := fun aw capw w hr => by have c := fold_ten aw (2) capw _ w hr (by omega); rw [show ([x, -x] : List Int).getD (2 - 1) 0 = -x from rfl] at c; exact c
      go_upto_region 13 with (at_builtin; refine wpList_append_own _ rfl (.tmp 51) (.tmp 54) 22 rfl W.heap.size 2 i0 (.int .i64 0) 1 8 Try.underlying22 hi hz0 hz1 hz2 rfl (by decide) _ _ _ rfl (hown1.alloc _) ⟨w1.heap.size, 0, none⟩ 1 1 [.int .i64 (-x)] rfl rfl (cell_one_new _ _ _) (one_int _) (by unfold maxLen; omega) (by omega) (Nat.le_trans hW1 (by simp)) ?_)
      intro v2 w3 hown3 hgrow3 _
      have hown4 : w3.ownsRow W.heap.size 2 1 v2 (2) ([x, -x].map (Value.int .i64)) := by simpa using hown3
      replace B : Below w.heap.size w w3 := (galloc B _).grown hgrow3 (by have := B.size; simp; omega) (fun k e => Nat.le_trans hWw (own_ge hown1 k e))
      clear hown3 hgrow3 h hown1 hW1
      replace h := h0.keep B
      obtain ⟨aw, capw, rfl, hw, _⟩ := isRow_own2 hown4 (fits_with x [] hx (by rw [fits_iff]; omega) mF)
      clear hown4
      replace q6 := q6 aw capw
      replace q10 := q10 aw capw
      go_wp2_with (first
        | (go_at_call 6; with_reducible refine (q6 _ hw).mono ?_; rintro e u ⟨rfl, g⟩; replace h := h.keep g; replace hw := hw.keep g; replace B := gtrans B g; clear q6 g)
        | (go_at_call 6; with_reducible refine (e6l _ h).mono ?_; rintro e u ⟨rfl, g⟩; replace hw := hw.keep g; replace B := gtrans B g; clear e6l g h)
        | (go_at_call 6; with_reducible refine (q10 _ hw).mono ?_; rintro e u ⟨rfl, g⟩; replace B := gtrans B g; clear q10 g hw)
        | (go_at_call 7; refine (number_any _ _).mono ?_; rintro e u ⟨rfl, g⟩; replace B := gtrans B g; clear g))
      go_ret
      exact ⟨rfl, B⟩
    | some ad =>
      have hnews := isRow_news (hm.keep (galloc (Below.refl W.heap.size W) (.cells #[.int .i64 x] 2)))
      have hone := ints_one mz
      have hnl : (mz.map (Value.int .i64)).length = len * 1 := by simp [hm.1]
      go_upto_region 12 with (at_builtin; refine wpList_append_own _ rfl (.tmp 48) (.tmp 49) 22 rfl W.heap.size 2 i0 (.int .i64 0) 1 8 Try.underlying22 hi hz0 hz1 hz2 rfl (by decide) _ _ _ rfl (own_one W (.int .i64 x) 2) ad len capm (mz.map (Value.int .i64)) rfl hnl hnews hone ?b3 ?b4 ?b5 ?_)
      case b3 => unfold maxLen; omega
      case b4 => omega
      case b5 => simp
      intro v' w1 hown hgrow _
      have hown1 : w1.ownsRow W.heap.size 2 1 v' (len + 1) ((x :: mz).map (Value.int .i64)) := by have := hown; rw [show 1 + len = len + 1 by omega] at this; simpa using this
      have hW1 : W.heap.size ≤ w1.heap.size := by have := hgrow.size; simp at this; omega
      have B1 : Below w.heap.size w w1 := (galloc B _).grown hgrow (by have := B.size; simp; omega) (fun k e => by simp [Value.ownBlock] at e; omega)
      clear hown hgrow hnews hone hnl hm
      replace B := B1
      clear B1
      have h := h0.keep B
      have q6 : ∀ aw capw w, IsRow w aw (len + 2) (x :: mz ++ [-x]) → Calls Try.prog 6 #[.int .i64 6, .slice aw (len + 2) capw] w (fun e w' => e = .returned (.agg #[.bool K6, .int .i64 N6]) ∧ Below w.heap.size w w') := fun aw capw w hr => by have c := fold_six aw (len + 2) capw _ w hr; rw [sum_with x mP (len + 2) len rfl hzl, ← H6.out.1, ← H6.out.2] at c; exact c
      have q10 : ∀ aw capw w, IsRow w aw (len + 2) (x :: mz ++ [-x]) → Calls Try.prog 6 #[.int .i64 10, .slice aw (len + 2) capw] w (fun e w' => e = .returned (.agg #[.bool true, .int .i64 (-x)]) ∧ Below w.heap.size w w') := fun aw capw w hr => by have c := fold_ten aw (len + 2) capw _ w hr (by omega); rw [last_with x mz (len + 2) (by rw [mP.length_eq, hzl])] at c; exact c
      go_upto_region 13 with (at_builtin; refine wpList_append_own _ rfl (.tmp 51) (.tmp 54) 22 rfl W.heap.size 2 i0 (.int .i64 0) 1 8 Try.underlying22 hi hz0 hz1 hz2 rfl (by decide) _ _ _ rfl (hown1.alloc _) ⟨w1.heap.size, 0, none⟩ 1 1 [.int .i64 (-x)] rfl rfl (cell_one_new _ _ _) ?a2s ?a3s ?a4s ?a5s ?_)
      case a2s => intro u hu; simp at hu; subst hu; rfl
      case a3s => unfold maxLen; omega
      case a4s => omega
      case a5s => have := hW1; simp; omega
      intro v2 w3 hown3 hgrow3 _
      have hown4 : w3.ownsRow W.heap.size 2 1 v2 (len + 2) ((x :: mz ++ [-x]).map (Value.int .i64)) := by simpa using hown3
      replace B : Below w.heap.size w w3 := (galloc B _).grown hgrow3 (by have := B.size; simp; omega) (fun k e => Nat.le_trans hWw (own_ge hown1 k e))
      clear hown3 hgrow3 h hown1 hW1
      replace h := h0.keep B
      obtain ⟨aw, capw, rfl, hw, _⟩ := isRow_own2 hown4 (fits_with x mz hx (by rw [fits_iff]; omega) mF)
      clear hown4
      replace q6 := q6 aw capw
      replace q10 := q10 aw capw
      go_wp2_with (first
        | (go_at_call 6; with_reducible refine (q6 _ hw).mono ?_; rintro e u ⟨rfl, g⟩; replace h := h.keep g; replace hw := hw.keep g; replace B := gtrans B g; clear q6 g)
        | (go_at_call 6; with_reducible refine (e6l _ h).mono ?_; rintro e u ⟨rfl, g⟩; replace hw := hw.keep g; replace B := gtrans B g; clear e6l g h)
        | (go_at_call 6; with_reducible refine (q10 _ hw).mono ?_; rintro e u ⟨rfl, g⟩; replace B := gtrans B g; clear q10 g hw)
        | (go_at_call 7; refine (number_any _ _).mono ?_; rintro e u ⟨rfl, g⟩; replace B := gtrans B g; clear g))
      go_ret
      exact ⟨rfl, B⟩

theorem own : ownKnob Try.prog.godebug = none := by kernel_rfl
theorem laidOut : laidOutB Try.prog = true := by kernel_rfl
theorem bytesI : Try.prog.bytesOf 2 = 8 := by kernel_rfl

set_option maxRecDepth 100000 in
theorem lifted (os : Os) (started : os.Started) (H : Type) (enc : TypeId × Value → H) :
    ReturnsInHanded {} Try.checked os 4 .any (Rows.numReordersSpec.pre6 enc Try.prog Try.f4 Rows.numReordersRow.domain false) (Rows.numReordersSpec.post enc Try.prog Try.f4 false true false false) := by
  refine returnsInHanded_of_change_sized (C := Try.checked) own started (by kernel_rfl) Try.func4
    (ChangeSpec.witness6 (enc := enc) (C := Try.checked) false ⟨#[], #[.slice none 0 0, .int .i64 0, .int .i64 0], []⟩ 8 (by kernel_rfl) (by kernel_rfl) (by kernel_rfl) (by kernel_rfl)) ?_
  intro W base args ds gs before hval0 hW hcnd hsz0 _
  have hsz : (DataW.weightsEach Try.prog (Try.f4.params.toList ++ Rows.numReordersSpec.plain.varTypes Try.prog) (ds ++ gs)).all (· ≤ reachBytes) = true := hsz0
  have hval : ∀ (j : Nat) t v, Try.f4.params[j]? = some t → args[j]? = some v → Value.okWide Try.prog W .any base t v := hval0
  have hW' := hW
  obtain ⟨p, q, hA0, hV, rfl, hfz, hnd⟩ := hW
  have hA : DataW.TrodAll enc Try.prog W 0 (fun _ => true) true Try.f4.params.toList args.toList ds p := hA0
  rw [Try.params4] at hA hval hsz
  obtain ⟨v0, vs0, d0, ds0, p0, q0, hargs, rfl, rfl, h0, r0⟩ := trodAll_cons hA
  obtain ⟨v1, vs1, d1, ds1, p1, q1, rfl, rfl, rfl, h1, r1⟩ := trodAll_cons r0
  obtain ⟨v2, vs2, d2, ds2, p2, q2, rfl, rfl, rfl, h2, r2⟩ := trodAll_cons r1
  obtain ⟨rfl, rfl, rfl⟩ := trodAll_nil r2
  obtain rfl : args = #[v0, v1, v2] := by cases args; simp_all
  obtain ⟨rfl, rfl⟩ := trodVars_none hV
  have k0 := h0
  have lt0 : ∀ x ∈ p0, x.block < W.heap.size := by obtain ⟨m, hm⟩ := k0; exact DataW.trod_lt m _ _ _ hm
  obtain ⟨a0, len0, cap0, e0⟩ := okWide_slice Try.underlying22 (hval 0 22 v0 rfl rfl)
  subst e0
  obtain ⟨z0, w0, n0, s0⟩ : ∃ zs, IsRow W a0 len0 zs ∧ (a0 = none → cap0 = 0) ∧ len0 * 8 ≤ 140737488351232 := by
    obtain ⟨fuel, hf⟩ := h0
    rcases open_ints Try.underlying22 Try.underlying2 (by kernel_rfl) hf with ⟨hcs, _⟩ | ⟨x, l, c, zs, hcs, _, hl, hm, hz, hx, hcell, hwz⟩
    · simp [Value.cells] at hcs
      obtain ⟨rfl, rfl, rfl⟩ := hcs
      exact ⟨[], IsRow.nil _ _, fun _ => rfl, by omega⟩
    · simp [Value.cells] at hcs
      obtain ⟨rfl, rfl, rfl⟩ := hcs
      simp only [if_true] at hz
      simp only [Prod.mk.injEq] at hx
      have hrc := sized_slice hsz (j := 0) (t := 22) (e := 2) rfl (congrArg some hx.1) Try.underlying22
      rw [bytesI] at hrc
      simp only [lits, List.length_map, List.length_take, List.length_drop, reachBytes] at hrc
      exact ⟨zs.take len0, isRow_open hl hm hz hcell hwz, fun e => by simp at e, by omega⟩
  have k1 := h1
  have lt1 : ∀ x ∈ p1, x.block < W.heap.size := by obtain ⟨m, hm⟩ := k1; exact DataW.trod_lt m _ _ _ hm
  obtain ⟨a1, e1, _, _, w1⟩ := open_int Try.underlying3 (hval 1 3 v1 rfl rfl) h1
  subst e1
  have k2 := h2
  have lt2 : ∀ x ∈ p2, x.block < W.heap.size := by obtain ⟨m, hm⟩ := k2; exact DataW.trod_lt m _ _ _ hm
  obtain ⟨a2, e2, _, _, w2⟩ := open_int Try.underlying2 (hval 2 2 v2 rfl rfl) h2
  subst e2
  clear hA0 hval0
  refine (walk a0 len0 cap0 z0 a1 w1 a2 w2 W w0 n0 s0).mono fun e W' ⟨he, bel⟩ => ?_
  subst he
  exact ⟨_, rfl, _, _, _, [], _, [], hW', trodAll_mk1 (shut_bool Try.underlying4 _), (trodAll_cons_mk (Below.trod laidOut (by kernel_rfl) (of_decide_eq_true (by kernel_rfl)) k0 bel lt0) (trodAll_cons_mk (Below.trod laidOut (by kernel_rfl) (of_decide_eq_true (by kernel_rfl)) k1 bel lt1) (trodAll_cons_mk (Below.trod laidOut (by kernel_rfl) (of_decide_eq_true (by kernel_rfl)) k2 bel lt2) trodAll_mk0))), rfl, bel.frame _, fun h => by cases h⟩

theorem over : Rows.numReordersRow.holds Try.pinned (OpenSpec.ofChange Rows.numReordersSpec) :=
  OpenClaim.holds_of_wide 4 Try.f4 rfl rfl rfl rfl rfl rfl rfl ⟨rfl, rfl, rfl, rfl, rfl⟩ rfl rfl rfl rfl rfl (by kernel_rfl) Try.func4 (by kernel_rfl)
    (of_decide_eq_true (by kernel_rfl)) (by unfold Func.isWrapper; first | (rw [if_pos (by decide +kernel)]; kernel_rfl) | (rw [if_neg (by decide +kernel)]; exact ⟨rfl, rfl⟩))
    (fun os started H enc _ => lifted os started H enc)

end Go.Proofs.Ytnecmkjmicjbgaa.numReorders
namespace Go.Proofs.Ytnecmkjmicjbgaa
theorem numReorders_holds : Rows.NumReordersSaid := numReorders.over
#print axioms numReorders_holds
end Go.Proofs.Ytnecmkjmicjbgaa
