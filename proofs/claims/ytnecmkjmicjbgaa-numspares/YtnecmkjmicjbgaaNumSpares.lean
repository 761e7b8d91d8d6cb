/- For every operator, list of int64 and mark the law NumSpares returns true: Fold neither changes nor keeps its list, its spare room too. No condition. -/
import Derived.Test.YtnecmkjmicjbgaaFold
import Derived.Test.YtnecmkjmicjbgaaNumber
import Derived.Test.YtnecmkjmicjbgaaExt
import Derived.Deep.Cut
import Derived.OpenShut
import Derived.Carry
import Derived.SizedLaws
import Derived.Lib.SmallJoins
import Derived.OwnWalk
namespace Go.Proofs.Ytnecmkjmicjbgaa.numSpares
open Go.ChangeShapes Go.WideShapes Go.ChangeAt Go.RowKit Go.BigFrame
set_option linter.unusedVariables false
set_option linter.unusedSimpArgs false

theorem info : (Try.prog.info? 2).map (fun i => (i.zero, i.size, i.bytes)) = some (some (.int .i64 0), 1, 8) := by kernel_rfl

theorem take_more (zs : List Int) (k : Nat) (h : k < zs.length) (x : Int) (hx : x = zs.getD k 0) : (zs.map (Value.int .i64)).take k ++ [Value.int .i64 x] = (zs.map (Value.int .i64)).take (k + 1) := by
  rw [List.take_add_one, hx]
  simp [List.getD, List.getElem?_eq_getElem h]
theorem own_cell {w : World} {base : Nat} {e : TypeId} {g n cap : Nat} {ys : List Int} (h : w.ownsRow base e 1 (.slice (some ⟨g, 0, none⟩) n cap) n (ys.map (Value.int .i64))) (j : Nat) (hj : j < n) : w.cell? ⟨g, j, none⟩ = some (.int .i64 (ys.getD j 0)) := by
  have hlen : ys.length = n := by simpa using h.1
  rw [h.cellAt j (by omega)]
  simp [List.getD, List.getElem?_eq_getElem (show j < ys.length by omega)]
theorem own_lt {w : World} {base : Nat} {e : TypeId} {g n cap : Nat} {xs : List Value} (h : w.ownsRow base e 1 (.slice (some ⟨g, 0, none⟩) n cap) n xs) : ∃ cur, w.heap[g]? = some (.cells cur e (0, 0)) ∧ cur.size = cap ∧ g < w.heap.size := by
  rcases h.2 with ⟨e1, _⟩ | ⟨g', cap', cur, e1, _, hh, _, _, hs, _⟩
  · simp at e1
  · simp only [Value.slice.injEq, Option.some.injEq, Addr.mk.injEq, and_true, true_and] at e1
    obtain ⟨rfl, rfl⟩ := e1
    exact ⟨cur, hh, by simpa using hs, lt_of_block hh⟩
theorem own_keep {w u : World} {base : Nat} {e : TypeId} {g n cap : Nat} {xs : List Value} (h : w.ownsRow base e 1 (.slice (some ⟨g, 0, none⟩) n cap) n xs) (G : Below w.heap.size w u) : u.ownsRow base e 1 (.slice (some ⟨g, 0, none⟩) n cap) n xs := by
  obtain ⟨cur, hh, _, hlt⟩ := own_lt h
  obtain ⟨h1, h2⟩ := h
  refine ⟨h1, ?_⟩
  rcases h2 with ⟨e1, _⟩ | ⟨g', cap', cur', e1, hb, hh', r⟩
  · simp at e1
  · have e2 := e1
    simp only [Value.slice.injEq, Option.some.injEq, Addr.mk.injEq, and_true, true_and] at e2
    obtain ⟨rfl, rfl⟩ := e2
    exact .inr ⟨g, cap, cur', rfl, hb, (G.block g hlt).trans hh', r⟩
theorem row_cells {w : World} {g n : Nat} {ys : List Int} (hl : ys.length = n) (hn : n ≤ 9223372036854775807) (hf : ∀ j, fitsB (ys.getD j 0) = true) (hg : g < w.heap.size) (hc : ∀ j, j < n → w.cell? ⟨g, j, none⟩ = some (.int .i64 (ys.getD j 0))) : IsRow w (some ⟨g, 0, none⟩) n ys :=
  ⟨hl, hn, hf, .inr ⟨g, 0, rfl, hg, fun j hj => by rw [Nat.zero_add]; exact hc j hj⟩⟩
theorem getD_app (zs ys : List Int) (j : Nat) (h : j < zs.length) : (zs ++ ys).getD j 0 = zs.getD j 0 := by simp [List.getD, List.getElem?_append_left h]
theorem getD_tail (zs : List Int) (m : Int) (j : Nat) (h : zs.length ≤ j) (h2 : j < zs.length + 3) : (zs ++ [m, m, m]).getD j 0 = m := by
  simp only [List.getD, List.getElem?_append_right h]
  have : j - zs.length = 0 ∨ j - zs.length = 1 ∨ j - zs.length = 2 := by omega
  rcases this with e | e | e <;> simp [e]
theorem getD_repl (n : Nat) (m : Int) (j : Nat) (h : j < n) : (List.replicate n m).getD j 0 = m := by simp [List.getD, h]
theorem fits_repl (n : Nat) (m : Int) (h : fitsB m = true) (j : Nat) : fitsB ((List.replicate n m).getD j 0) = true := by
  by_cases hj : j < n
  · rw [getD_repl n m j hj]; exact h
  · have : (List.replicate n m).getD j 0 = 0 := by simp [List.getD, hj]
    rw [this]; decide
theorem ext_repl (n : Nat) (m : Int) (k : Nat) (h : k < n) : extU true (List.replicate n m) k = m := by
  induction k with
  | zero => exact getD_repl n m 0 h
  | succ k ih => rw [extU, ih (by omega), getD_repl n m _ h]; simp [step]
theorem repl_more (m : Int) (k : Nat) : List.replicate k (Value.int .i64 m) ++ [Value.int .i64 m] = List.replicate (k + 1) (Value.int .i64 m) := by rw [List.replicate_succ']
theorem new3 (w : World) (x : Int) (t : TypeId) (j : Nat) (u : Value) (h : [Value.int .i64 x, .int .i64 x, .int .i64 x][j]? = some u) : (w.alloc (.cells #[.int .i64 x, .int .i64 x, .int .i64 x] t)).cell? ((⟨w.heap.size, 0, none⟩ : Addr).add j) = some u := by
  rw [add_plain, Nat.zero_add, World.cell?_alloc_new]
  simpa using h

set_option maxHeartbeats 2000000 in
theorem walk (op : Int) (w0 : (Lit.int .i64 op).wf = true) (ao : Option Addr) (len cap : Nat) (zs : List Int) (mark : Int) (w2 : (Lit.int .i64 mark).wf = true) (w : World) (h : IsRow w ao len zs) (hn : ao = none → cap = 0) (hr : len * 8 ≤ 140737488351232) :
    Calls Try.prog 3 #[.int .i64 op, .slice ao len cap, .int .i64 mark] w fun e w' => e = .returned (.bool true) ∧ Below w.heap.size w w' := by
  have hmark : fitsB mark = true := fits_wf w2
  obtain ⟨i0, hi, hz0, hz1, hz2⟩ := info_parts info
  have hzl : zs.length = len := h.1
  have h0 := h
  clear w0 w2 hn
  go_enter Try.func3, Try.ntmps3
  go_wp2
  go_loopw [7, 8] (fun v i wr => ∃ k : Nat, k ≤ len ∧ i = .int .i64 k ∧ wr.ownsRow w.heap.size 2 1 v k ((zs.map (Value.int .i64)).take k) ∧ Below w.heap.size w wr) (fun _ i _ => len - (intOf i).toNat)
  case atStart => exact ⟨0, Nat.zero_le _, rfl, World.ownsRow_nil _ _ _ _, Below.refl _ _⟩
  case round =>
    obtain ⟨k, hk, rfl, hown, G⟩ := hrel
    by_cases hlt : k < len
    · obtain ⟨q1, q2, q3, q4⟩ := h.keep G
      rcases q4 with q4 | ⟨b, off, eb, hb, hcb⟩
      · omega
      subst eb
      obtain ⟨x, hx⟩ : ∃ x, x = zs.getD k 0 := ⟨_, rfl⟩
      have f1 : wr.cell? ⟨b, off + k, none⟩ = some (.int .i64 x) := by rw [hcb k hlt, hx]
      have HX : Hid (x = zs.getD k 0) := hx
      clear hcb hx q1 q3 h
      go_wp2_with (at_builtin; refine wpList_append_own _ rfl (.tmp 22) (.tmp 27) 22 rfl w.heap.size 2 i0 (.int .i64 0) 1 8 Try.underlying22 hi hz0 hz1 hz2 rfl (by decide) _ _ _ rfl (hown.alloc _) ⟨wr.heap.size, 0, none⟩ 1 1 [.int .i64 x] rfl rfl (cell_one_new _ _ _) ?c2 ?c3 ?c4 ?c5 ?_)
      case c2 => intro u hu; simp at hu; subst hu; rfl
      case c3 => unfold maxLen; omega
      case c4 => omega
      case c5 => have := G.size; simp; omega
      intro v' w1 hown' hgrow _
      have hown2 : w1.ownsRow w.heap.size 2 1 v' (k + 1) ((zs.map (Value.int .i64)).take (k + 1)) := by rw [← take_more zs k (by omega) x HX]; exact hown'
      have G' : Below w.heap.size w w1 := (G.alloc G.size _).grown hgrow (by have := G.size; simp; omega) (by intro r e; rcases hown.2 with ⟨rfl, _⟩ | ⟨g, c, cur, rfl, hg, _⟩ <;> simp [Value.ownBlock] at e; omega)
      clear hown' hgrow hown G f1
      go_wp2
      go_roundw
      case rel => exact ⟨k + 1, by omega, by go_num, hown2, G'⟩
      case measure => simp [intOf]; omega
    · obtain rfl : k = len := by omega
      have htk : (zs.map (Value.int .i64)).take k = zs.map (Value.int .i64) := by rw [List.take_of_length_le (by simp; omega)]
      rw [htk] at hown
      clear htk
      have hone : ∀ u ∈ [Value.int .i64 mark, .int .i64 mark, .int .i64 mark], u.oneCell' = true := by intro u hu; simp at hu; subst hu; rfl
      go_upto_region 7 with (at_builtin; refine wpList_append_own _ rfl (.tmp 29) (.tmp 33) 22 rfl w.heap.size 2 i0 (.int .i64 0) 1 8 Try.underlying22 hi hz0 hz1 hz2 rfl (by decide) _ _ _ rfl (hown.alloc _) ⟨wr.heap.size, 0, none⟩ 3 3 [.int .i64 mark, .int .i64 mark, .int .i64 mark] rfl rfl (new3 _ _ _) hone ?d3 ?d4 ?d5 ?_)
      case d3 => unfold maxLen; omega
      case d4 => omega
      case d5 => have := G.size; simp; omega
      intro v' w1 hown' hgrow _
      have G' : Below w.heap.size w w1 := (G.alloc G.size _).grown hgrow (by have := G.size; simp; omega) (by intro r e; rcases hown.2 with ⟨rfl, _⟩ | ⟨g, c, cur, rfl, hg, _⟩ <;> simp [Value.ownBlock] at e; omega)
      have hown2 : w1.ownsRow w.heap.size 2 1 v' (k + 3) ((zs ++ [mark, mark, mark]).map (Value.int .i64)) := by simpa using hown'
      clear hown' hgrow hown G hone
      have hshape : ∃ g cap2, v' = .slice (some ⟨g, 0, none⟩) (k + 3) cap2 ∧ k + 3 ≤ cap2 ∧ cap2 ≤ 9223372036854775807 ∧ w.heap.size ≤ g := by
        rcases hown2.2 with ⟨_, e⟩ | ⟨g, c, cur, e, hg, hh, hc, hm, _⟩
        · omega
        · exact ⟨g, c, e, hc, by unfold maxLen at hm; omega, hg⟩
      obtain ⟨g, cap2, rfl, hc2, hc3, hg⟩ := hshape
      have hcells : ∀ j, j < k + 3 → w1.cell? ⟨g, j, none⟩ = some (.int .i64 ((zs ++ [mark, mark, mark]).getD j 0)) := fun j hj => own_cell hown2 j hj
      obtain ⟨cur0, hcur0, hsz0, hglt⟩ := own_lt hown2
      have hpart : IsRow w1 (some ⟨g, 0, none⟩) k zs := row_cells hzl (by omega) h.2.2.1 hglt (fun j hj => by rw [hcells j (by omega), getD_app _ _ _ (by omega)])
      replace h := h.keep G'
      have B := G'
      clear hown2 G'
      obtain ⟨k1, n1, H1, c1⟩ : ∃ k' n', Hid (k' = foldK op zs ∧ n' = foldN op zs) ∧ ∀ ao cap w, IsRow w ao k zs → Calls Try.prog 6 #[.int .i64 op, .slice ao k cap] w (fun e w' => e = .returned (.agg #[.bool k', .int .i64 n']) ∧ Below w.heap.size w w') := ⟨_, _, ⟨rfl, rfl⟩, fun ao cap w hr => fold_any op ao k cap zs w hr⟩
      clear H1
      have G := Below.refl w1.heap.size w1
      go_upto_region 9 with (go_at_call 6; refine (c1 _ _ _ hpart).mono ?_; rintro e u0 ⟨rfl, g0⟩; replace G := gtrans G g0; obtain ⟨hc, hf⟩ := bcell G)
      replace G := galloc G (.cells #[.bool k1, .int .i64 n1] 24)
      have F := Two.new u0 (.bool k1) (.int .i64 n1) 24
      clear hc hf g0
      generalize hV1 : u0.alloc (.cells #[.bool k1, .int .i64 n1] 24) = V1 at G F ⊢
      generalize hb1 : u0.heap.size = bf at F ⊢
      clear hV1 hb1
      replace h := h.keep G
      replace B := gtrans B G
      have hcur1 : V1.heap[g]? = some (.cells cur0 2 (0, 0)) := (G.block g hglt).trans hcur0
      replace hcells : ∀ j, j < k + 3 → V1.cell? ⟨g, j, none⟩ = some (.int .i64 ((zs ++ [mark, mark, mark]).getD j 0)) := fun j hj => (G.cell (p := ⟨g, j, none⟩) hglt).trans (hcells j hj)
      replace hglt := Nat.lt_of_lt_of_le hglt G.size
      have hbf : g ≠ bf := by
        intro e
        subst e
        have := F
        unfold Two at this
        rw [hcur1] at this
        simp at this
      clear G hpart hcur0
      go_wp2
      go_loopw [11] (fun i wr => ∃ j : Nat, j ≤ k + 3 ∧ i = .int .i64 j ∧ Below V1.heap.size V1 wr) (fun i _ => k + 3 - (intOf i).toNat)
      case atStart => exact ⟨0, Nat.zero_le _, rfl, Below.refl _ _⟩
      case round =>
        obtain ⟨j, hj, rfl, G⟩ := hrel
        by_cases hjk : j < k + 3
        · by_cases hin : j < k
          · obtain ⟨q1, q2, q3, q4⟩ := h
            rcases q4 with q4 | ⟨b, off, eb, hb, hcb⟩
            · omega
            subst eb
            obtain ⟨x, hx⟩ : ∃ x, x = zs.getD j 0 := ⟨_, rfl⟩
            have f1 : ∀ n : Ext wr, n.X.cell? ⟨b, off + j, none⟩ = some (.int .i64 x) := fun n => (n.cell _ _ (Nat.lt_of_lt_of_le hb G.size)).trans ((G.cell (p := ⟨b, off + j, none⟩) hb).trans (by rw [hcb j hin, hx]))
            have f2 : ∀ n : Ext wr, n.X.cell? ⟨g, j, none⟩ = some (.int .i64 x) := fun n => (n.cell _ _ (Nat.lt_of_lt_of_le hglt G.size)).trans ((G.cell (p := ⟨g, j, none⟩) hglt).trans (by rw [hcells j hjk, getD_app _ _ _ (by omega), hx]))
            have hne : Nonempty (Ext wr) := ⟨⟨_, Below.refl _ _⟩⟩
            have g1 : decide ((k : Int) ≤ (j : Int)) = false := by simp; omega
            have g2 : ((k : Int) ≤ (j : Int)) = False := by simp; omega
            have g3 : decide ((j : Int) < (k : Int)) = true := by simp; omega
            have g4 : ((j : Int) < (k : Int)) = True := by simp; omega
            clear hcb hcells q3 hx c1 hcur1 F B
            go_wp2
            refine wp_region_ext (by kernel_rfl) (by kernel_rfl) ?_
            repeat (go_big_quiet_step (fail))
            refine wpQuiet_nil ?_
            intro _ hw'
            obtain ⟨nxw, hw''⟩ := hw'
            subst hw''
            go_wp2
            go_roundw
            case rel => exact ⟨j + 1, by omega, by go_num, gtrans G nxw.h⟩
            case measure => simp [intOf]; omega
          · have f2 : ∀ n : Ext wr, n.X.cell? ⟨g, j, none⟩ = some (.int .i64 mark) := fun n => (n.cell _ _ (Nat.lt_of_lt_of_le hglt G.size)).trans ((G.cell (p := ⟨g, j, none⟩) hglt).trans (by rw [hcells j hjk, getD_tail _ _ _ (by omega) (by omega)]))
            have hne : Nonempty (Ext wr) := ⟨⟨_, Below.refl _ _⟩⟩
            have g1 : decide ((k : Int) ≤ (j : Int)) = true := by simp; omega
            have g2 : ((k : Int) ≤ (j : Int)) = True := by simp; omega
            have g3 : decide ((j : Int) < (k : Int)) = false := by simp; omega
            have g4 : ((j : Int) < (k : Int)) = False := by simp; omega
            clear hcells c1 hcur1 F B h
            go_wp2
            refine wp_region_ext (by kernel_rfl) (by kernel_rfl) ?_
            repeat (go_big_quiet_step (fail))
            refine wpQuiet_nil ?_
            intro _ hw'
            obtain ⟨nxw, hw''⟩ := hw'
            subst hw''
            go_wp2
            go_roundw
            case rel => exact ⟨j + 1, by omega, by go_num, gtrans G nxw.h⟩
            case measure => simp [intOf]; omega
        · obtain rfl : j = k + 3 := by omega
          replace h := h.keep G
          replace B := gtrans B G
          replace F := F.keep G
          replace hcur1 := (G.block g hglt).trans hcur1
          replace hglt := Nat.lt_of_lt_of_le hglt G.size
          clear G hcells
          generalize hW2 : wr = W2 at h B F hcur1 hglt ⊢
          clear hW2
          go_wp2
          go_loopw [12] (fun i wr => ∃ j : Nat, j ≤ k ∧ i = .int .i64 j ∧ (∃ cur, wr.heap[g]? = some (.cells cur 2 (0, 0)) ∧ cur.size = cap2 ∧ ∀ i, i < j → cur[i]? = some (.int .i64 mark)) ∧ Two wr bf (.bool k1) (.int .i64 n1) 24 ∧ Below w.heap.size w wr) (fun i _ => k - (intOf i).toNat)
          case atStart => exact ⟨0, Nat.zero_le _, rfl, ⟨cur0, hcur1, hsz0, fun i hi => absurd hi (Nat.not_lt_zero _)⟩, F, B⟩
          case round =>
            clear F B h hcur1 hglt
            obtain ⟨j, hj, rfl, ⟨cur, hcur, hcs, hcm⟩, F, B⟩ := hrel
            by_cases hin : j < k
            · have hlt : j < cur.size := by omega
              have f1 : wr.cell? ⟨g, j, none⟩ = some cur[j] := by rw [cell_of_row wr g j cur _ (0, 0) hcur]; simp [hlt]
              have f2 : wr.frozen? ⟨g, j, none⟩ = false := frozen_of_row wr g j cur _ hcur
              have hcur' := heap_setCell_same wr g j cur _ (Value.int .i64 mark) hcur
              have F' := F.other (p := ⟨g, j, none⟩) (Ne.symm hbf) (Value.int .i64 mark)
              have B' := B.setCell (p := ⟨g, j, none⟩) hg (Value.int .i64 mark)
              clear F B c1
              go_wp2
              generalize (wr.setCell ⟨g, j, none⟩ (Value.int .i64 mark)) = wz at hcur' F' B' ⊢
              go_roundw
              case rel => exact ⟨j + 1, by omega, by go_num, ⟨_, hcur', by simpa using hcs, fun i hi => by
                rcases Nat.lt_or_ge i j with h1 | h1
                · rw [Array.getElem?_setIfInBounds_ne (by omega)]; exact hcm i h1
                · obtain rfl : i = j := by omega
                  rw [Array.getElem?_setIfInBounds_self_of_lt hlt]⟩, F', B'⟩
              case measure => simp [intOf]; omega
            · obtain rfl : j = k := by omega
              have hP : IsRow wr (some ⟨g, 0, none⟩) j (List.replicate j mark) := row_cells (by simp) (by omega) (fits_repl j mark hmark) (lt_of_block hcur) (fun i hi => by rw [cell_of_row wr g i cur _ (0, 0) hcur, hcm i hi, getD_repl _ _ _ hi])
              clear hcm hcur
              generalize hW3 : wr = W3 at hP B F ⊢
              clear hW3
              go_wp2
              go_loopw [13, 14] (fun v i wr => ∃ m : Nat, m ≤ j ∧ i = .int .i64 m ∧ wr.ownsRow W3.heap.size 2 1 v m (List.replicate m (Value.int .i64 mark)) ∧ Below W3.heap.size W3 wr) (fun _ i _ => j - (intOf i).toNat)
              case atStart => exact ⟨0, Nat.zero_le _, rfl, World.ownsRow_nil _ _ _ _, Below.refl _ _⟩
              case round =>
                obtain ⟨m, hm, rfl, hown, G⟩ := hrel
                by_cases hmj : m < j
                · clear c1 F B hP
                  go_wp2_with (at_builtin; refine wpList_append_own _ rfl (.tmp 93) (.tmp 95) 22 rfl W3.heap.size 2 i0 (.int .i64 0) 1 8 Try.underlying22 hi hz0 hz1 hz2 rfl (by decide) _ _ _ rfl (hown.alloc _) ⟨wr.heap.size, 0, none⟩ 1 1 [.int .i64 mark] rfl rfl (cell_one_new _ _ _) ?e2 ?e3 ?e4 ?e5 ?_)
                  case e2 => intro u hu; simp at hu; subst hu; rfl
                  case e3 => unfold maxLen; omega
                  case e4 => omega
                  case e5 => have := G.size; simp; omega
                  intro v' wz hown' hgrow _
                  have hown2 : wz.ownsRow W3.heap.size 2 1 v' (m + 1) (List.replicate (m + 1) (Value.int .i64 mark)) := by rw [← repl_more]; exact hown'
                  have G' : Below W3.heap.size W3 wz := (G.alloc G.size _).grown hgrow (by have := G.size; simp; omega) (by intro r e; rcases hown.2 with ⟨rfl, _⟩ | ⟨g, c, cur, rfl, hg, _⟩ <;> simp [Value.ownBlock] at e; omega)
                  clear hown' hgrow hown G
                  go_wp2
                  go_roundw
                  case rel => first | exact ⟨m + 1, by omega, by go_num, hown2, G'⟩ | ((repeat apply Exists.intro); exact ⟨⟨m + 1, by omega, by go_num, hown2, G'⟩, rfl⟩)
                  case measure => simp [intOf]; omega
                · obtain rfl : m = j := by omega
                  rw [show List.replicate m (Value.int .i64 mark) = (List.replicate m mark).map (Value.int .i64) by rw [List.map_replicate]] at hown
                  obtain ⟨ao2, cap3, rfl, hM, _, _⟩ := isRow_own hown (fits_repl m mark hmark)
                  clear hown
                  replace hP := hP.keep G
                  replace F := F.keep G
                  replace B := B.trans (G.mono B.size)
                  have h := h0.keep B
                  clear G h0
                  generalize hW4 : wr = W4 at hP hM F B h ⊢
                  clear hW4
                  obtain ⟨k2, n2, H2, c2⟩ : ∃ k' n', Hid (k' = foldK op (List.replicate m mark) ∧ n' = foldN op (List.replicate m mark)) ∧ ∀ ao cap w, IsRow w ao m (List.replicate m mark) → Calls Try.prog 6 #[.int .i64 op, .slice ao m cap] w (fun e w' => e = .returned (.agg #[.bool k', .int .i64 n']) ∧ Below w.heap.size w w') := ⟨_, _, ⟨rfl, rfl⟩, fun ao cap w hr => fold_any op ao m cap _ w hr⟩
                  clear H2
                  have cP := c2 (some ⟨g, 0, none⟩) cap2
                  have cM := c2 ao2 cap3
                  clear c2
                  have G := Below.refl W4.heap.size W4
                  go_upto_region 25 with (first
                    | (go_at_call 6; with_reducible refine (cP _ hP).mono ?_; rintro e u1 ⟨rfl, g1⟩; replace G := gtrans G g1; replace hM := hM.keep g1; clear cP g1)
                    | (go_at_call 6; with_reducible refine (cM _ hM).mono ?_; rintro e u2 ⟨rfl, g2⟩; replace G := gtrans G g2; clear cM g2))
                  replace hP := hP.keep G
                  replace F := F.keep G
                  replace B := gtrans B G
                  replace h := h.keep G
                  clear G hM
                  generalize hW5 : u2 = W5 at hP F B h ⊢
                  clear hW5
                  by_cases hpos : 0 < m
                  · have cL : ∀ w, IsRow w (some ⟨g, 0, none⟩) m (List.replicate m mark) → Calls Try.prog 6 #[.int .i64 8, .slice (some ⟨g, 0, none⟩) m cap2] w (fun e w' => e = .returned (.agg #[.bool true, .int .i64 mark]) ∧ Below w.heap.size w w') := fun w hr => by have := fold_eight (some ⟨g, 0, none⟩) m cap2 _ w hr hpos; rw [ext_repl m mark (m - 1) (by omega)] at this; exact this
                    have G := Below.refl W5.heap.size W5
                    go_upto_region 26 with (go_at_call 6; refine (cL _ hP).mono ?_; rintro e u3 ⟨rfl, g3⟩; replace G := gtrans G g3; obtain ⟨hc, hf⟩ := bcell G)
                    replace G := galloc G (.cells #[.bool true, .int .i64 mark] 24)
                    have L := Two.new u3 (.bool true) (.int .i64 mark) 24
                    clear hc hf g3 cL
                    generalize hV6 : u3.alloc (.cells #[.bool true, .int .i64 mark] 24) = W6 at G L ⊢
                    generalize hb6 : u3.heap.size = bl at L ⊢
                    clear hV6 hb6
                    replace hP := hP.keep G
                    replace F := F.keep G
                    replace B := gtrans B G
                    replace h := h.keep G
                    clear G
                    have xl0 := fun (n : Ext W6) => (n.cell _ _ L.lt).trans L.at0
                    have xl1 := fun (n : Ext W6) => (n.cell _ _ L.lt).trans L.at1
                    have hne : Nonempty (Ext W6) := ⟨⟨_, Below.refl _ _⟩⟩
                    have yN := fun (n : Ext W6) => ext_of (number_any mark n.X)
                    have g1 : decide ((0 : Int) < (m : Int)) = true := by simp; omega
                    have g2 : ((0 : Int) < (m : Int)) = True := by simp; omega
                    have g3 : ((m : Int) == 0) = false := by simp; omega
                    have g4 : ¬ m = 0 := by omega
                    refine wp_region_ext (by kernel_rfl) (by kernel_rfl) ?_
                    repeat (go_big_quiet_step (first | (go_at_call 7; with_reducible exact yN _)))
                    refine wpQuiet_nil ?_
                    intro _ hw'
                    obtain ⟨nxw, hw''⟩ := hw'
                    subst hw''
                    have G := nxw.h
                    clear xl0 xl1 yN hne L
                    generalize nxw.X = W7 at G ⊢
                    clear nxw
                    replace hP := hP.keep G
                    replace F := F.keep G
                    replace B := gtrans B G
                    replace h := h.keep G
                    clear G
                    have xf0 := fun (n : Ext W7) => (n.cell _ _ F.lt).trans F.at0
                    have xf1 := fun (n : Ext W7) => (n.cell _ _ F.lt).trans F.at1
                    have hne : Nonempty (Ext W7) := ⟨⟨_, Below.refl _ _⟩⟩
                    have y1 := fun (n : Ext W7) => ext_of (c1 ao cap n.X (h.keep n.h))
                    have y5 := fun (n : Ext W7) => ext_of (fold_five (some ⟨g, 0, none⟩) m cap2 _ n.X (hP.keep n.h))
                    have yN := fun (n : Ext W7) => ext_of (number_any ((m : Nat) : Int) n.X)
                    clear c1 hP h
                    go_wp2
                    refine wp_region_ext (by kernel_rfl) (by kernel_rfl) ?_
                    repeat (go_big_quiet_step (first | (go_at_call 7; with_reducible exact yN _) | (go_at_call 6; with_reducible exact y1 _) | (go_at_call 6; with_reducible exact y5 _)))
                    refine wpQuiet_nil ?_
                    intro _ hw'
                    obtain ⟨nxw, hw''⟩ := hw'
                    subst hw''
                    go_wp2
                    go_ret
                    exact ⟨rfl, gtrans B nxw.h⟩
                  · obtain rfl : m = 0 := by omega
                    have cL : ∀ w, IsRow w (some ⟨g, 0, none⟩) 0 (List.replicate 0 mark) → Calls Try.prog 6 #[.int .i64 8, .slice (some ⟨g, 0, none⟩) 0 cap2] w (fun e w' => e = .returned (.agg #[.bool false, .int .i64 0]) ∧ Below w.heap.size w w') := fun w hr => fold_empty 8 (some ⟨g, 0, none⟩) 0 cap2 _ w hr rfl rfl rfl
                    have G := Below.refl W5.heap.size W5
                    go_upto_region 26 with (go_at_call 6; refine (cL _ hP).mono ?_; rintro e u3 ⟨rfl, g3⟩; replace G := gtrans G g3; obtain ⟨hc, hf⟩ := bcell G)
                    replace G := galloc G (.cells #[.bool false, .int .i64 0] 24)
                    have L := Two.new u3 (.bool false) (.int .i64 0) 24
                    clear hc hf g3 cL
                    generalize hV6 : u3.alloc (.cells #[.bool false, .int .i64 0] 24) = W6 at G L ⊢
                    generalize hb6 : u3.heap.size = bl at L ⊢
                    clear hV6 hb6
                    replace hP := hP.keep G
                    replace F := F.keep G
                    replace B := gtrans B G
                    replace h := h.keep G
                    clear G
                    have xl0 := fun (n : Ext W6) => (n.cell _ _ L.lt).trans L.at0
                    have xl1 := fun (n : Ext W6) => (n.cell _ _ L.lt).trans L.at1
                    have hne : Nonempty (Ext W6) := ⟨⟨_, Below.refl _ _⟩⟩
                    have yN := fun (n : Ext W6) => ext_of (number_any mark n.X)
                    refine wp_region_ext (by kernel_rfl) (by kernel_rfl) ?_
                    repeat (go_big_quiet_step (first | (go_at_call 7; with_reducible exact yN _)))
                    refine wpQuiet_nil ?_
                    intro _ hw'
                    obtain ⟨nxw, hw''⟩ := hw'
                    subst hw''
                    have G := nxw.h
                    clear xl0 xl1 yN hne L
                    generalize nxw.X = W7 at G ⊢
                    clear nxw
                    replace hP := hP.keep G
                    replace F := F.keep G
                    replace B := gtrans B G
                    replace h := h.keep G
                    clear G
                    have xf0 := fun (n : Ext W7) => (n.cell _ _ F.lt).trans F.at0
                    have xf1 := fun (n : Ext W7) => (n.cell _ _ F.lt).trans F.at1
                    have hne : Nonempty (Ext W7) := ⟨⟨_, Below.refl _ _⟩⟩
                    have y1 := fun (n : Ext W7) => ext_of (c1 ao cap n.X (h.keep n.h))
                    have y5 : ∀ n : Ext W7, Calls Try.prog 6 #[.int .i64 5, .slice (some ⟨g, 0, none⟩) 0 cap2] n.X (fun e w'' => e = .returned (.agg #[.bool true, .int .i64 0]) ∧ ∃ m : Ext W7, w'' = m.X) := fun n => ext_of (fold_five (some ⟨g, 0, none⟩) 0 cap2 _ n.X (hP.keep n.h))
                    have yN := fun (n : Ext W7) => ext_of (number_any 0 n.X)
                    clear c1 hP h
                    go_wp2
                    refine wp_region_ext (by kernel_rfl) (by kernel_rfl) ?_
                    repeat (go_big_quiet_step (first | (go_at_call 7; with_reducible exact yN _) | (go_at_call 6; with_reducible exact y1 _) | (go_at_call 6; with_reducible exact y5 _)))
                    refine wpQuiet_nil ?_
                    intro _ hw'
                    obtain ⟨nxw, hw''⟩ := hw'
                    subst hw''
                    go_wp2
                    go_ret
                    exact ⟨rfl, gtrans B nxw.h⟩

theorem own : ownKnob Try.prog.godebug = none := by kernel_rfl
theorem laidOut : laidOutB Try.prog = true := by kernel_rfl
theorem bytesI : Try.prog.bytesOf 2 = 8 := by kernel_rfl

set_option maxRecDepth 100000 in
theorem lifted (os : Os) (started : os.Started) (H : Type) (enc : TypeId × Value → H) :
    ReturnsInHanded {} Try.checked os 3 .any (Rows.numSparesSpec.pre6 enc Try.prog Try.f3 Rows.numSparesRow.domain false) (Rows.numSparesSpec.post enc Try.prog Try.f3 false true false false) := by
  refine returnsInHanded_of_change_sized (C := Try.checked) own started (by kernel_rfl) Try.func3
    (ChangeSpec.witness6 (enc := enc) (C := Try.checked) false ⟨#[], #[.int .i64 0, .slice none 0 0, .int .i64 0], []⟩ 8 (by kernel_rfl) (by kernel_rfl) (by kernel_rfl) (by kernel_rfl)) ?_
  intro W base args ds gs before hval0 hW hcnd hsz0 _
  have hsz : (DataW.weightsEach Try.prog (Try.f3.params.toList ++ Rows.numSparesSpec.plain.varTypes Try.prog) (ds ++ gs)).all (· ≤ reachBytes) = true := hsz0
  have hval : ∀ (j : Nat) t v, Try.f3.params[j]? = some t → args[j]? = some v → Value.okWide Try.prog W .any base t v := hval0
  have hW' := hW
  obtain ⟨p, q, hA0, hV, rfl, hfz, hnd⟩ := hW
  have hA : DataW.TrodAll enc Try.prog W 0 (fun _ => true) true Try.f3.params.toList args.toList ds p := hA0
  rw [Try.params3] at hA hval hsz
  obtain ⟨v0, vs0, d0, ds0, p0, q0, hargs, rfl, rfl, h0, r0⟩ := trodAll_cons hA
  obtain ⟨v1, vs1, d1, ds1, p1, q1, rfl, rfl, rfl, h1, r1⟩ := trodAll_cons r0
  obtain ⟨v2, vs2, d2, ds2, p2, q2, rfl, rfl, rfl, h2, r2⟩ := trodAll_cons r1
  obtain ⟨rfl, rfl, rfl⟩ := trodAll_nil r2
  obtain rfl : args = #[v0, v1, v2] := by cases args; simp_all
  obtain ⟨rfl, rfl⟩ := trodVars_none hV
  have k0 := h0
  have lt0 : ∀ x ∈ p0, x.block < W.heap.size := by obtain ⟨m, hm⟩ := k0; exact DataW.trod_lt m _ _ _ hm
  obtain ⟨a0, e0, _, _, w0⟩ := open_int Try.underlying3 (hval 0 3 v0 rfl rfl) h0
  subst e0
  have k1 := h1
  have lt1 : ∀ x ∈ p1, x.block < W.heap.size := by obtain ⟨m, hm⟩ := k1; exact DataW.trod_lt m _ _ _ hm
  obtain ⟨a1, len1, cap1, e1⟩ := okWide_slice Try.underlying22 (hval 1 22 v1 rfl rfl)
  subst e1
  obtain ⟨z1, w1, n1, s1⟩ : ∃ zs, IsRow W a1 len1 zs ∧ (a1 = none → cap1 = 0) ∧ len1 * 8 ≤ 140737488351232 := by
    obtain ⟨fuel, hf⟩ := h1
    rcases open_ints Try.underlying22 Try.underlying2 (by kernel_rfl) hf with ⟨hcs, _⟩ | ⟨x, l, c, zs, hcs, _, hl, hm, hz, hx, hcell, hwz⟩
    · simp [Value.cells] at hcs
      obtain ⟨rfl, rfl, rfl⟩ := hcs
      exact ⟨[], IsRow.nil _ _, fun _ => rfl, by omega⟩
    · simp [Value.cells] at hcs
      obtain ⟨rfl, rfl, rfl⟩ := hcs
      simp only [if_true] at hz
      simp only [Prod.mk.injEq] at hx
      have hrc := sized_slice hsz (j := 1) (t := 22) (e := 2) rfl (congrArg some hx.1) Try.underlying22
      rw [bytesI] at hrc
      simp only [lits, List.length_map, List.length_take, List.length_drop, reachBytes] at hrc
      exact ⟨zs.take len1, isRow_open hl hm hz hcell hwz, fun e => by simp at e, by omega⟩
  have k2 := h2
  have lt2 : ∀ x ∈ p2, x.block < W.heap.size := by obtain ⟨m, hm⟩ := k2; exact DataW.trod_lt m _ _ _ hm
  obtain ⟨a2, e2, _, _, w2⟩ := open_int Try.underlying2 (hval 2 2 v2 rfl rfl) h2
  subst e2
  clear hA0 hval0
  refine (walk a0 w0 a1 len1 cap1 z1 a2 w2 W w1 n1 s1).mono fun e W' ⟨he, bel⟩ => ?_
  subst he
  exact ⟨_, rfl, _, _, _, [], _, [], hW', trodAll_mk1 (shut_bool Try.underlying4 _), (trodAll_cons_mk (Below.trod laidOut (by kernel_rfl) (of_decide_eq_true (by kernel_rfl)) k0 bel lt0) (trodAll_cons_mk (Below.trod laidOut (by kernel_rfl) (of_decide_eq_true (by kernel_rfl)) k1 bel lt1) (trodAll_cons_mk (Below.trod laidOut (by kernel_rfl) (of_decide_eq_true (by kernel_rfl)) k2 bel lt2) trodAll_mk0))), rfl, bel.frame _, fun h => by cases h⟩

theorem over : Rows.numSparesRow.holds Try.pinned (OpenSpec.ofChange Rows.numSparesSpec) :=
  OpenClaim.holds_of_wide 3 Try.f3 rfl rfl rfl rfl rfl rfl rfl ⟨rfl, rfl, rfl, rfl, rfl⟩ rfl rfl rfl rfl rfl (by kernel_rfl) Try.func3 (by kernel_rfl)
    (of_decide_eq_true (by kernel_rfl)) (by unfold Func.isWrapper; first | (rw [if_pos (by decide +kernel)]; kernel_rfl) | (rw [if_neg (by decide +kernel)]; exact ⟨rfl, rfl⟩))
    (fun os started H enc _ => lifted os started H enc)

end Go.Proofs.Ytnecmkjmicjbgaa.numSpares
namespace Go.Proofs.Ytnecmkjmicjbgaa
theorem numSpares_holds : Rows.NumSparesSaid := numSpares.over
#print axioms numSpares_holds
end Go.Proofs.Ytnecmkjmicjbgaa
