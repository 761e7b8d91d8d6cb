/- The laws' own copy of a row of nodes and comparison of two that are the same; how deep a row goes (that it is told). -/
import Derived.Test.YtlejhococjlijaaGreatDoorNz
import Derived.Test.YtlejhococjlijaaGreatDoorOpenI
import Derived.OwnWalk
namespace Go.Proofs.YtlejhococjlijaaGreatDoor
open Go.RowKit Go.BigFrame
set_option linter.unusedVariables false
set_option linter.unusedSimpArgs false

theorem nd_info : (Tryz.prog.info? 29).map (fun i => (i.zero, i.size, i.bytes)) = some (some (.agg (ndA noNd)), 6, 64) := by kernel_rfl
theorem int_info : (Tryz.prog.info? 3).map (fun i => (i.zero, i.size, i.bytes)) = some (some (.int .i64 0), 1, 8) := by kernel_rfl
theorem of_info {P : Program} {e : TypeId} {z : Value} {s b : Nat} (h : (P.info? e).map (fun i => (i.zero, i.size, i.bytes)) = some (some z, s, b)) : ∃ i, P.info? e = some i ∧ i.zero = some z ∧ i.size = s ∧ i.bytes = b := by
  cases hi : P.info? e with
  | none => rw [hi] at h; cases h
  | some i => rw [hi] at h; simp at h; exact ⟨i, rfl, h.1, h.2.1, h.2.2⟩
theorem nd_new (w : World) (n : Nd) (j : Nat) (u : Value) (h : (ndA n).toList[j]? = some u) : (w.alloc (.cells (ndA n) 29)).cell? ((⟨w.heap.size, 0, none⟩ : Addr).add j) = some u := by
  rw [Go.WideShapes.add_plain, Nat.zero_add, World.cell?_alloc_new]
  simpa using h
theorem nd_one (n : Nd) : ∀ u ∈ (ndA n).toList, u.oneCell' = true := by
  intro u hu
  simp [ndA] at hu
  rcases hu with rfl | rfl | rfl | rfl | rfl | rfl <;> rfl

set_option maxRecDepth 100000 in
set_option maxHeartbeats 4000000 in
theorem sameTree_true (l : List Nd) (hl : l.length ≤ 9223372036854775807) (ao bo : Option Addr) (c1 c2 : Nat) (w : World) (A : IsNds w ao l) (B : IsNds w bo l) :
    Calls Tryz.prog 11 #[.slice ao l.length c1, .slice bo l.length c2] w fun e w' => e = .returned (.bool true) ∧ Below w.heap.size w w' := by
  obtain ⟨n, hn⟩ : ∃ n, l.length = n := ⟨_, rfl⟩
  rw [hn] at hl ⊢
  go_enter Tryz.func11, Tryz.ntmps11
  go_wp2
  go_loopw [5] (fun x wr => ∃ k : Nat, k ≤ n ∧ x = .int .i64 k ∧ Below w.heap.size w wr) (fun x _ => n - (intOf x).toNat)
  case atStart => exact ⟨0, Nat.zero_le _, rfl, Below.refl _ _⟩
  case round =>
    obtain ⟨k, hk, rfl, G⟩ := hrel
    by_cases hlt : k < n
    · obtain ⟨g1, o1, rfl, x0, x1, x2, x3, x4, x5⟩ := (A.keep G) k (by omega)
      obtain ⟨g2, o2, rfl, y0, y1, y2, y3, y4, y5⟩ := (B.keep G) k (by omega)
      generalize l.getD k noNd = z at *
      clear A B
      go_wp2
      go_region_with fail
      all_goals
        go_wp2
        go_roundw
        case rel => exact ⟨k + 1, by omega, by go_num, by first | exact G.drew | exact G⟩
        case measure => simp [intOf]; omega
    · obtain rfl : k = n := by omega
      go_wp2
      go_ret
      exact ⟨rfl, G⟩

theorem ints_more (ds : List Int) (x : Int) : intsV ds ++ [.int .i64 x] = intsV (ds ++ [x]) := by simp [intsV]
theorem ints_own {w : World} {b : Nat} {ao : Option Addr} {c : Nat} {ds : List Int} (h : w.ownsRow b 3 1 (.slice ao ds.length c) ds.length (intsV ds)) : IsInts w ao ds := fun i hi => by
  obtain ⟨ao', c', e, _, _, hg⟩ := own_form h
  simp only [Value.slice.injEq, true_and] at e
  obtain ⟨rfl, rfl⟩ := e
  rcases hg with hg | ⟨g, rfl, _, _⟩
  · omega
  refine ⟨g, 0, rfl, ?_⟩
  rw [Nat.zero_add, World.ownsRow.cellAt h i (by omega)]
  simp [intsV, List.getD, List.getElem?_eq_getElem hi]
theorem int_one (z : Int) : ∀ u ∈ [Value.int .i64 z], u.oneCell' = true := by
  intro u hu
  simp at hu
  subst hu
  rfl
theorem lastD {ds : List Int} {k : Nat} (hdl : ds.length = k) (h : ∀ i, i < k → 0 ≤ ds.getD i 0 ∧ ds.getD i 0 ≤ 65536) (z : Int) (h0 : 0 ≤ z) (h1 : z ≤ 65536) : ∀ i, i < k + 1 → 0 ≤ (ds ++ [z]).getD i 0 ∧ (ds ++ [z]).getD i 0 ≤ 65536 := by
  intro i hi
  by_cases hk : i < ds.length
  · rw [List.getD_eq_getElem?_getD, List.getElem?_append_left hk, ← List.getD_eq_getElem?_getD]
    exact h i (by omega)
  · rw [List.getD_eq_getElem?_getD, List.getElem?_append_right (by omega)]
    have : i - ds.length = 0 := by omega
    rw [this]
    exact ⟨h0, h1⟩
set_option maxRecDepth 100000 in
set_option maxHeartbeats 4000000 in
theorem beyond_any (ns : List Nd) (ao : Option Addr) (cap : Nat) (w : World) (A : IsNds w ao ns) (hr : ns.length * 64 ≤ 140737488351232) (hf : ∀ k, (ns.getD k noNd).fit) :
    Calls Tryz.prog 7 #[.slice ao ns.length cap] w fun e w' => ∃ b, e = .returned (.bool b) ∧ Below w.heap.size w w' := by
  obtain ⟨i0, hi, hz0, hz1, hz2⟩ := of_info int_info
  obtain ⟨n, hn⟩ : ∃ n, ns.length = n := ⟨_, rfl⟩
  rw [hn] at hr ⊢
  go_enter Tryz.func7, Tryz.ntmps7
  go_wp2
  go_loopw [3, 4, 5] (fun o x _ wr => ∃ (k : Nat) (ds : List Int), k ≤ n ∧ x = .int .i64 k ∧ ds.length = k ∧ (∀ i, i < k → 0 ≤ ds.getD i 0 ∧ ds.getD i 0 ≤ 65536) ∧ wr.ownsRow w.heap.size 3 1 o k (intsV ds) ∧ Below w.heap.size w wr) (fun _ x _ _ => n - (intOf x).toNat)
  case atStart => exact ⟨0, [], Nat.zero_le _, rfl, rfl, fun i hi => absurd hi (Nat.not_lt_zero _), World.ownsRow_nil _ _ _ _, Below.refl _ _⟩
  case round =>
    obtain ⟨k, ds, hk, rfl, hdl, hds, O, G⟩ := hrel
    have zG := G.size
    by_cases hlt : k < n
    · obtain ⟨g, o, rfl, x0, x1, x2, x3, x4, x5⟩ := (A.keep G) k (by omega)
      have hl0 := (hf k).l
      have hr0 := (hf k).r
      generalize ns.getD k noNd = y at *
      obtain ⟨yo, yn, yv, yx, yl, yr⟩ := y
      dsimp only at x0 x1 x2 x3 x4 x5 hl0 hr0
      obtain ⟨vo, vc, rfl, hvc, _, hvo⟩ := own_form O
      have cD : ∀ a, a < k → ∃ gd, vo = some ⟨gd, 0, none⟩ ∧ wr.cell? ⟨gd, a, none⟩ = some (.int .i64 (ds.getD a 0)) := fun a ha => by
        obtain ⟨g', o', e1, e2⟩ := ints_own (ds := ds) (by rw [hdl]; exact O) a (by omega)
        rcases hvo with h0 | ⟨gd, e3, _, _⟩
        · omega
        rw [e3] at e1
        simp only [Option.some.injEq, Addr.mk.injEq, and_true] at e1
        obtain ⟨rfl, rfl⟩ := e1
        exact ⟨_, e3, by rw [Nat.zero_add] at e2; exact e2⟩
      clear A hvo
      have hA : (yl < 0 ∨ (0 ≤ yl ∧ ¬ yl < (k : Int))) ∨ ∃ a : Nat, a < k ∧ yl = (a : Int) := by
        rcases Int.lt_or_le yl 0 with h | h
        · exact .inl (.inl h)
        · by_cases h2 : yl < (k : Int)
          · exact .inr ⟨yl.toNat, by omega, by omega⟩
          · exact .inl (.inr ⟨h, h2⟩)
      have hB : (yr < 0 ∨ (0 ≤ yr ∧ ¬ yr < (k : Int))) ∨ ∃ a : Nat, a < k ∧ yr = (a : Int) := by
        rcases Int.lt_or_le yr 0 with h | h
        · exact .inl (.inl h)
        · by_cases h2 : yr < (k : Int)
          · exact .inr ⟨yr.toNat, by omega, by omega⟩
          · exact .inl (.inr ⟨h, h2⟩)
      rcases hA with hA | ⟨a, ha, rfl⟩
      · rcases hB with hB | ⟨b, hb, rfl⟩
        · rcases hA with hA | ⟨hA, hA2⟩ <;> rcases hB with hB | ⟨hB, hB2⟩
          all_goals
            go_wp2_with (at_builtin; refine wpList_append_own _ rfl (.tmp 72) (.tmp 75) 49 rfl w.heap.size 3 i0 (.int .i64 0) 1 8 Tryz.underlying49 hi hz0 hz1 hz2 rfl (by decide) _ _ _ rfl (O.alloc _) ⟨wr.heap.size, 0, none⟩ 1 1 [_] rfl rfl (cell_one_new _ _ _) (int_one _) ?c3 ?c4 ?c5 ?_)
            case c3 => unfold maxLen; omega
            case c4 => omega
            case c5 => first | omega | (simp; omega)
            intro v' w1 hown' hgrow _
            rw [ints_more] at hown'
            have G9 : Below w.heap.size w w1 := (galloc G _).grown hgrow (by simp; omega) (fun r e => (O.lt _ e).1)
            clear hgrow O
            go_wp2
            go_roundw
            case rel => exact ⟨k + 1, _, by omega, by go_num, by simp [hdl], lastD hdl hds _ (by omega) (by omega), hown', G9⟩
            case measure => simp [intOf]; omega
        · obtain ⟨gd, rfl, cb⟩ := cD b hb
          have hdb := hds b hb
          have hbk : (b : Int) < (k : Int) := by omega
          generalize hzb : ds.getD b 0 = zb at *
          rcases hA with hA | ⟨hA, hA2⟩
          all_goals
            rcases Int.lt_or_le 0 zb with hc | hc
            · rcases Int.lt_or_le zb 65536 with hd | hd
              · go_wp2_with (at_builtin; refine wpList_append_own _ rfl (.tmp 72) (.tmp 75) 49 rfl w.heap.size 3 i0 (.int .i64 0) 1 8 Tryz.underlying49 hi hz0 hz1 hz2 rfl (by decide) _ _ _ rfl (O.alloc _) ⟨wr.heap.size, 0, none⟩ 1 1 [_] rfl rfl (cell_one_new _ _ _) (int_one _) ?c3 ?c4 ?c5 ?_)
                case c3 => unfold maxLen; omega
                case c4 => omega
                case c5 => first | omega | (simp; omega)
                intro v' w1 hown' hgrow _
                rw [ints_more] at hown'
                have G9 : Below w.heap.size w w1 := (galloc G _).grown hgrow (by simp; omega) (fun r e => (O.lt _ e).1)
                clear hgrow O
                go_wp2
                go_roundw
                case rel => exact ⟨k + 1, _, by omega, by go_num, by simp [hdl], lastD hdl hds _ (by omega) (by omega), hown', G9⟩
                case measure => simp [intOf]; omega
              · go_wp2
                go_ret
                first | exact ⟨_, rfl, G⟩ | exact ⟨⟨_, rfl⟩, G⟩ | exact ⟨.inr rfl, G⟩
            · go_wp2_with (at_builtin; refine wpList_append_own _ rfl (.tmp 72) (.tmp 75) 49 rfl w.heap.size 3 i0 (.int .i64 0) 1 8 Tryz.underlying49 hi hz0 hz1 hz2 rfl (by decide) _ _ _ rfl (O.alloc _) ⟨wr.heap.size, 0, none⟩ 1 1 [_] rfl rfl (cell_one_new _ _ _) (int_one _) ?c3 ?c4 ?c5 ?_)
              case c3 => unfold maxLen; omega
              case c4 => omega
              case c5 => first | omega | (simp; omega)
              intro v' w1 hown' hgrow _
              rw [ints_more] at hown'
              have G9 : Below w.heap.size w w1 := (galloc G _).grown hgrow (by simp; omega) (fun r e => (O.lt _ e).1)
              clear hgrow O
              go_wp2
              go_roundw
              case rel => exact ⟨k + 1, _, by omega, by go_num, by simp [hdl], lastD hdl hds _ (by omega) (by omega), hown', G9⟩
              case measure => simp [intOf]; omega
      · obtain ⟨gd, rfl, ca⟩ := cD a ha
        have hda := hds a ha
        have hak : (a : Int) < (k : Int) := by omega
        rcases hB with hB | ⟨b, hb, rfl⟩
        · generalize hza : ds.getD a 0 = za at *
          rcases hB with hB | ⟨hB, hB2⟩
          all_goals
            rcases Int.lt_or_le za 65536 with hd | hd
            · go_wp2_with (at_builtin; refine wpList_append_own _ rfl (.tmp 72) (.tmp 75) 49 rfl w.heap.size 3 i0 (.int .i64 0) 1 8 Tryz.underlying49 hi hz0 hz1 hz2 rfl (by decide) _ _ _ rfl (O.alloc _) ⟨wr.heap.size, 0, none⟩ 1 1 [_] rfl rfl (cell_one_new _ _ _) (int_one _) ?c3 ?c4 ?c5 ?_)
              case c3 => unfold maxLen; omega
              case c4 => omega
              case c5 => first | omega | (simp; omega)
              intro v' w1 hown' hgrow _
              rw [ints_more] at hown'
              have G9 : Below w.heap.size w w1 := (galloc G _).grown hgrow (by simp; omega) (fun r e => (O.lt _ e).1)
              clear hgrow O
              go_wp2
              go_roundw
              case rel => exact ⟨k + 1, _, by omega, by go_num, by simp [hdl], lastD hdl hds _ (by omega) (by omega), hown', G9⟩
              case measure => simp [intOf]; omega
            · go_wp2
              go_ret
              first | exact ⟨_, rfl, G⟩ | exact ⟨⟨_, rfl⟩, G⟩ | exact ⟨.inr rfl, G⟩
        · obtain ⟨gd', e', cb⟩ := cD b hb
          simp only [Option.some.injEq, Addr.mk.injEq, and_true] at e'
          subst e'
          have hdb := hds b hb
          have hbk : (b : Int) < (k : Int) := by omega
          generalize hza : ds.getD a 0 = za at *
          generalize hzb : ds.getD b 0 = zb at *
          rcases Int.lt_or_le za zb with hc | hc
          · rcases Int.lt_or_le zb 65536 with hd | hd
            · go_wp2_with (at_builtin; refine wpList_append_own _ rfl (.tmp 72) (.tmp 75) 49 rfl w.heap.size 3 i0 (.int .i64 0) 1 8 Tryz.underlying49 hi hz0 hz1 hz2 rfl (by decide) _ _ _ rfl (O.alloc _) ⟨wr.heap.size, 0, none⟩ 1 1 [_] rfl rfl (cell_one_new _ _ _) (int_one _) ?c3 ?c4 ?c5 ?_)
              case c3 => unfold maxLen; omega
              case c4 => omega
              case c5 => first | omega | (simp; omega)
              intro v' w1 hown' hgrow _
              rw [ints_more] at hown'
              have G9 : Below w.heap.size w w1 := (galloc G _).grown hgrow (by simp; omega) (fun r e => (O.lt _ e).1)
              clear hgrow O
              go_wp2
              go_roundw
              case rel => exact ⟨k + 1, _, by omega, by go_num, by simp [hdl], lastD hdl hds _ (by omega) (by omega), hown', G9⟩
              case measure => simp [intOf]; omega
            · go_wp2
              go_ret
              first | exact ⟨_, rfl, G⟩ | exact ⟨⟨_, rfl⟩, G⟩ | exact ⟨.inr rfl, G⟩
          · rcases Int.lt_or_le za 65536 with hd | hd
            · go_wp2_with (at_builtin; refine wpList_append_own _ rfl (.tmp 72) (.tmp 75) 49 rfl w.heap.size 3 i0 (.int .i64 0) 1 8 Tryz.underlying49 hi hz0 hz1 hz2 rfl (by decide) _ _ _ rfl (O.alloc _) ⟨wr.heap.size, 0, none⟩ 1 1 [_] rfl rfl (cell_one_new _ _ _) (int_one _) ?c3 ?c4 ?c5 ?_)
              case c3 => unfold maxLen; omega
              case c4 => omega
              case c5 => first | omega | (simp; omega)
              intro v' w1 hown' hgrow _
              rw [ints_more] at hown'
              have G9 : Below w.heap.size w w1 := (galloc G _).grown hgrow (by simp; omega) (fun r e => (O.lt _ e).1)
              clear hgrow O
              go_wp2
              go_roundw
              case rel => exact ⟨k + 1, _, by omega, by go_num, by simp [hdl], lastD hdl hds _ (by omega) (by omega), hown', G9⟩
              case measure => simp [intOf]; omega
            · go_wp2
              go_ret
              first | exact ⟨_, rfl, G⟩ | exact ⟨⟨_, rfl⟩, G⟩ | exact ⟨.inr rfl, G⟩
    · obtain rfl : k = n := by omega
      go_wp2
      go_ret
      first | exact ⟨_, rfl, G⟩ | exact ⟨⟨_, rfl⟩, G⟩ | exact ⟨.inr rfl, G⟩

end Go.Proofs.YtlejhococjlijaaGreatDoor
