/- code's itemsOf: by variable the number of its first item. Written by mkcia.py from Mpa. And what goes with it: 6 texts in one. -/
import Derived.Test.YtnolbpekdikamaaGreatDoorJa07
import Derived.OwnWalk
import Derived.Test.YtnolbpekdikamaaGreatDoorRows
import Derived.WalkKit
import Derived.WalkSpells
import Derived.WalkLawsBesides
import Derived.Deep.RegionWith
import Derived.ProofKit
import Derived.OpenShut
import Derived.Lib.LaidTab
import Derived.Deep.MidRow
import Derived.Laws.IdiomStrings
import Derived.Laws.RangeAny
import Derived.Laws.BitsAllLaws
namespace Go.Proofs.YtnolbpekdikamaaGreatDoor
open Go.RowKit Go.BigFrame
set_option linter.unusedVariables false
set_option linter.unusedSimpArgs false

set_option maxRecDepth 100000 in
set_option maxHeartbeats 8000000 in
theorem cItemsOf_any (q : Qy) (hq : q.fit) (cs : Array Value) (ai : Option Addr) (ci : Nat) (aw : Option Addr) (cw : Nat) (ar : Option Addr) (cr : Nat) (w : World) (A : IsQ w q cs ai ci aw cw ar cr) :
    Calls Tryz.prog 22 #[.agg cs] w fun e w' => ∃ b, e = .returned (.map (some b)) ∧ w.heap.size ≤ b ∧ MpAt w' b q.items.length (itemF q.items q.items.length) ∧ Below w.heap.size w w' := by
  obtain ⟨he, Ai, _, _, si, _, _⟩ := A
  subst he
  have hnn := hq.n
  have hmk := run_makeMap_hint (P := Tryz.prog) 78 _ _ Tryz.underlying78 q.items.length
  go_enter Tryz.func22, Tryz.ntmps22
  go_wp2
  clear hmk
  have B0 := galloc (galloc (Below.refl w.heap.size w) (.cells #[.slice ai q.items.length ci, .int .i64 q.mode, .int .i64 q.after, .slice aw q.wh.length cw, .int .i64 q.within, .string q.by_, .slice ar q.ret.length cr] 31)) (.map #[] 0)
  have M0 := MpAt.new (w.alloc (.cells #[.slice ai q.items.length ci, .int .i64 q.mode, .int .i64 q.after, .slice aw q.wh.length cw, .int .i64 q.within, .string q.by_, .slice ar q.ret.length cr] 31))
  rw [show (w.alloc (.cells #[.slice ai q.items.length ci, .int .i64 q.mode, .int .i64 q.after, .slice aw q.wh.length cw, .int .i64 q.within, .string q.by_, .slice ar q.ret.length cr] 31)).heap.size = w.heap.size + 1 by simp] at M0
  generalize (w.alloc (.cells #[.slice ai q.items.length ci, .int .i64 q.mode, .int .i64 q.after, .slice aw q.wh.length cw, .int .i64 q.within, .string q.by_, .slice ar q.ret.length cr] 31)).alloc (.map #[] 0) = V at *
  go_loopw [4, 5, 6, 7, 15] (fun _ _ _ _ x wr => ∃ k : Nat, k ≤ q.items.length ∧ x = .int .i64 k ∧ MpAt wr (w.heap.size + 1) k (itemF q.items k) ∧ Below w.heap.size w wr) (fun _ _ _ _ x _ => q.items.length - (intOf x).toNat)
  case atStart => exact ⟨0, Nat.zero_le _, rfl, M0.congr (Nat.le_refl _) (fun s => rfl), B0⟩
  case round =>
    obtain ⟨k, hk, rfl, MP, G⟩ := hrel
    by_cases hlt : k < q.items.length
    · obtain ⟨g, o, rfl, a, c, y0, y1, y2, y3, y4, _, _⟩ := (Ai.keep G) k hlt
      have hki : (k : Int) < (q.items.length : Int) := by omega
      have hv := (hq.its k).v
      have hstep : ∀ s, itemF q.items (k + 1) s = match itemF q.items k s with | some i => some i | none => if s = (q.items.getD k noIt).v then some (k : Int) else none := fun s => rfl
      generalize q.items.getD k noIt = it at *
      obtain ⟨iN, iT, iV, iL, iH⟩ := it
      dsimp only at y0 y1 y2 y3 y4 hv hstep
      have MA := fun o : Obj => MP.keep (galloc (Below.refl _ _) o)
      have lk := fun o : Obj => (MA o).look iV hv
      cases hF : itemF q.items k iV with
      | some i =>
        rw [hF] at lk
        have MN : MpAt wr (w.heap.size + 1) (k + 1) (itemF q.items (k + 1)) := MP.congr (by omega) (fun s => by
          rw [hstep s]
          cases hs : itemF q.items k s with
          | some j => rfl
          | none =>
            by_cases e : s = iV
            · subst e; rw [hF] at hs; cases hs
            · simp only; rw [if_neg e])
        replace MN := fun o : Obj => MN.keep (galloc (Below.refl _ _) o)
        clear hF hstep MP MA
        go_wp2
        go_roundw
        case rel => exact ⟨k + 1, by omega, by go_num, MN _, galloc G _⟩
        case measure => simp [intOf]; omega
      | none =>
        rw [hF] at lk
        obtain ⟨D, hD1, hD2⟩ := (MA (.cells #[.bool iN, .slice a iT.length c, .string iV, .int .i64 iL, .int .i64 iH] 69)).ex
        have hHF := show Hid (itemF q.items k iV = none) from hF
        have hHS := show Hid (∀ s, itemF q.items (k + 1) s = match itemF q.items k s with | some i => some i | none => if s = iV then some (k : Int) else none) from hstep
        have hHD := show Hid (∀ s : ByteArray, s.size ≤ 140737488351232 → Maps.has D (.string s.data.toList) = (itemF q.items k s).isSome ∧ D.atKey (.string s.data.toList) (.lit (.int .i64 0)) = .lit (.int .i64 ((itemF q.items k s).getD 0))) from hD2
        clear hF hstep MP MA hD2
        go_wp2_with (at_mapUpdate; refine wpList_mapUpdate_own _ rfl _ _ _ 78 rfl 9 3 (Maps.string_keyed Tryz.underlying9) Tryz.underlying78 (plainElem Tryz.prog 3) (w.heap.size + 1) k D rfl hD1 (by unfold maxLen; omega) _ _ (.string iV.data.toList) rfl rfl (str_key hv) (.lit (.int .i64 (k : Int))) [] (plainElem_int Tryz.underlying3 (nd_fw ⟨by omega, by omega⟩)) ?_; intro w1 hown1 hgrow1)
        have MN : MpAt w1 (w.heap.size + 1) (k + 1) (itemF q.items (k + 1)) := (MpAt.put hD1 hHD.out iV (k : Int) hown1).congr (Nat.le_refl _) (fun s => by
          rw [hHS.out s]
          by_cases e : s = iV
          · rw [if_pos e, e, hHF.out]; simp
          · rw [if_neg e]
            cases hs : itemF q.items k s with
            | some j => rfl
            | none => simp only; rw [if_neg e])
        have GN : Below w.heap.size w w1 := (galloc G _).grown hgrow1 (by have := G.size; simp; omega) (fun r e => by cases e; omega)
        clear hgrow1 hown1 hHD hHS hHF
        go_wp2
        go_roundw
        case rel => exact ⟨k + 1, by omega, by go_num, MN, GN⟩
        case measure => simp [intOf]; omega
    · have hkn : k = q.items.length := by omega
      subst hkn
      go_wp2
      go_ret
      exact ⟨_, rfl, by omega, MP, G⟩

end Go.Proofs.YtnolbpekdikamaaGreatDoor
namespace Go.Proofs.YtnolbpekdikamaaGreatDoor
open Go.RowKit Go.BigFrame
set_option linter.unusedVariables false
set_option linter.unusedSimpArgs false

theorem nd_info : (Tryz.prog.info? 64).map (fun i => (i.zero, i.size, i.bytes)) = some (some (.agg (ndA noNd)), 6, 64) := by kernel_rfl
theorem int_info : (Tryz.prog.info? 3).map (fun i => (i.zero, i.size, i.bytes)) = some (some (.int .i64 0), 1, 8) := by kernel_rfl
theorem of_info {P : Program} {e : TypeId} {z : Value} {s b : Nat} (h : (P.info? e).map (fun i => (i.zero, i.size, i.bytes)) = some (some z, s, b)) : ∃ i, P.info? e = some i ∧ i.zero = some z ∧ i.size = s ∧ i.bytes = b := by
  cases hi : P.info? e with
  | none => rw [hi] at h; cases h
  | some i => rw [hi] at h; simp at h; exact ⟨i, rfl, h.1, h.2.1, h.2.2⟩
theorem nd_new (w : World) (n : Nd) (j : Nat) (u : Value) (h : (ndA n).toList[j]? = some u) : (w.alloc (.cells (ndA n) 64)).cell? ((⟨w.heap.size, 0, none⟩ : Addr).add j) = some u := by
  rw [Go.WideShapes.add_plain, Nat.zero_add, World.cell?_alloc_new]
  simpa using h
theorem nd_one (n : Nd) : ∀ u ∈ (ndA n).toList, u.oneCell' = true := by
  intro u hu
  simp [ndA] at hu
  rcases hu with rfl | rfl | rfl | rfl | rfl | rfl <;> rfl


theorem ints_more (ds : List Int) (x : Int) : intsV ds ++ [.int .i64 x] = intsV (ds ++ [x]) := by simp [intsV]
theorem ints_own {w : World} {b : Nat} {ao : Option Addr} {c : Nat} {ds : List Int} (h : w.ownsRow b 3 1 (.slice ao ds.length c) ds.length (intsV ds)) : IsInts w ao ds := fun i hi => by
  obtain ⟨ao', c', e, _, _, hg⟩ := own_form h
  simp only [Value.slice.injEq, true_and] at e
  obtain ⟨rfl, rfl⟩ := e
  rcases hg with hg | ⟨g, rfl, _, _⟩
  · omega
  refine ⟨g, 0, rfl, ?_⟩
  rw [Nat.zero_add, World.ownsRow.cellAt h i (by omega)]
  simp [intsV, List.getD, List.getElem?_eq_getElem hi]
theorem int_one (z : Int) : ∀ u ∈ [Value.int .i64 z], u.oneCell' = true := by
  intro u hu
  simp at hu
  subst hu
  rfl
theorem lastD {ds : List Int} {k : Nat} (hdl : ds.length = k) (h : ∀ i, i < k → 0 ≤ ds.getD i 0 ∧ ds.getD i 0 ≤ 65536) (z : Int) (h0 : 0 ≤ z) (h1 : z ≤ 65536) : ∀ i, i < k + 1 → 0 ≤ (ds ++ [z]).getD i 0 ∧ (ds ++ [z]).getD i 0 ≤ 65536 := by
  intro i hi
  by_cases hk : i < ds.length
  · rw [List.getD_eq_getElem?_getD, List.getElem?_append_left hk, ← List.getD_eq_getElem?_getD]
    exact h i (by omega)
  · rw [List.getD_eq_getElem?_getD, List.getElem?_append_right (by omega)]
    have : i - ds.length = 0 := by omega
    rw [this]
    exact ⟨h0, h1⟩
set_option maxRecDepth 100000 in
set_option maxHeartbeats 4000000 in
theorem beyond_any (ns : List Nd) (ao : Option Addr) (cap : Nat) (w : World) (A : IsNds w ao ns) (hr : ns.length * 64 ≤ 140737488351232) (hf : ∀ k, (ns.getD k noNd).fit) :
    Calls Tryz.prog 6 #[.slice ao ns.length cap] w fun e w' => ∃ b, e = .returned (.bool b) ∧ Below w.heap.size w w' := by
  obtain ⟨i0, hi, hz0, hz1, hz2⟩ := of_info int_info
  obtain ⟨n, hn⟩ : ∃ n, ns.length = n := ⟨_, rfl⟩
  rw [hn] at hr ⊢
  go_enter Tryz.func6, Tryz.ntmps6
  go_wp2
  go_loopw [3, 4, 5] (fun o x _ wr => ∃ (k : Nat) (ds : List Int), k ≤ n ∧ x = .int .i64 k ∧ ds.length = k ∧ (∀ i, i < k → 0 ≤ ds.getD i 0 ∧ ds.getD i 0 ≤ 65536) ∧ wr.ownsRow w.heap.size 3 1 o k (intsV ds) ∧ Below w.heap.size w wr) (fun _ x _ _ => n - (intOf x).toNat)
  case atStart => exact ⟨0, [], Nat.zero_le _, rfl, rfl, fun i hi => absurd hi (Nat.not_lt_zero _), World.ownsRow_nil _ _ _ _, Below.refl _ _⟩
  case round =>
    obtain ⟨k, ds, hk, rfl, hdl, hds, O, G⟩ := hrel
    have zG := G.size
    by_cases hlt : k < n
    · obtain ⟨g, o, rfl, x0, x1, x2, x3, x4, x5⟩ := (A.keep G) k (by omega)
      have hl0 := (hf k).l
      have hr0 := (hf k).r
      generalize ns.getD k noNd = y at *
      obtain ⟨yo, yn, yv, yx, yl, yr⟩ := y
      dsimp only at x0 x1 x2 x3 x4 x5 hl0 hr0
      obtain ⟨vo, vc, rfl, hvc, _, hvo⟩ := own_form O
      have cD : ∀ a, a < k → ∃ gd, vo = some ⟨gd, 0, none⟩ ∧ wr.cell? ⟨gd, a, none⟩ = some (.int .i64 (ds.getD a 0)) := fun a ha => by
        obtain ⟨g', o', e1, e2⟩ := ints_own (ds := ds) (by rw [hdl]; exact O) a (by omega)
        rcases hvo with h0 | ⟨gd, e3, _, _⟩
        · omega
        rw [e3] at e1
        simp only [Option.some.injEq, Addr.mk.injEq, and_true] at e1
        obtain ⟨rfl, rfl⟩ := e1
        exact ⟨_, e3, by rw [Nat.zero_add] at e2; exact e2⟩
      clear A hvo
      have hA : (yl < 0 ∨ (0 ≤ yl ∧ ¬ yl < (k : Int))) ∨ ∃ a : Nat, a < k ∧ yl = (a : Int) := by
        rcases Int.lt_or_le yl 0 with h | h
        · exact .inl (.inl h)
        · by_cases h2 : yl < (k : Int)
          · exact .inr ⟨yl.toNat, by omega, by omega⟩
          · exact .inl (.inr ⟨h, h2⟩)
      have hB : (yr < 0 ∨ (0 ≤ yr ∧ ¬ yr < (k : Int))) ∨ ∃ a : Nat, a < k ∧ yr = (a : Int) := by
        rcases Int.lt_or_le yr 0 with h | h
        · exact .inl (.inl h)
        · by_cases h2 : yr < (k : Int)
          · exact .inr ⟨yr.toNat, by omega, by omega⟩
          · exact .inl (.inr ⟨h, h2⟩)
      rcases hA with hA | ⟨a, ha, rfl⟩
      · rcases hB with hB | ⟨b, hb, rfl⟩
        · rcases hA with hA | ⟨hA, hA2⟩ <;> rcases hB with hB | ⟨hB, hB2⟩
          all_goals
            go_wp2_with (at_builtin; refine wpList_append_own _ rfl (.tmp 72) (.tmp 75) 39 rfl w.heap.size 3 i0 (.int .i64 0) 1 8 Tryz.underlying39 hi hz0 hz1 hz2 rfl (by decide) _ _ _ rfl (O.alloc _) ⟨wr.heap.size, 0, none⟩ 1 1 [_] rfl rfl (cell_one_new _ _ _) (int_one _) ?c3 ?c4 ?c5 ?_)
            case c3 => unfold maxLen; omega
            case c4 => omega
            case c5 => first | omega | (simp; omega)
            intro v' w1 hown' hgrow _
            rw [ints_more] at hown'
            have G9 : Below w.heap.size w w1 := (galloc G _).grown hgrow (by simp; omega) (fun r e => (O.lt _ e).1)
            clear hgrow O
            go_wp2
            go_roundw
            case rel => exact ⟨k + 1, _, by omega, by go_num, by simp [hdl], lastD hdl hds _ (by omega) (by omega), hown', G9⟩
            case measure => simp [intOf]; omega
        · obtain ⟨gd, rfl, cb⟩ := cD b hb
          have hdb := hds b hb
          have hbk : (b : Int) < (k : Int) := by omega
          generalize hzb : ds.getD b 0 = zb at *
          rcases hA with hA | ⟨hA, hA2⟩
          all_goals
            rcases Int.lt_or_le 0 zb with hc | hc
            · rcases Int.lt_or_le zb 65536 with hd | hd
              · go_wp2_with (at_builtin; refine wpList_append_own _ rfl (.tmp 72) (.tmp 75) 39 rfl w.heap.size 3 i0 (.int .i64 0) 1 8 Tryz.underlying39 hi hz0 hz1 hz2 rfl (by decide) _ _ _ rfl (O.alloc _) ⟨wr.heap.size, 0, none⟩ 1 1 [_] rfl rfl (cell_one_new _ _ _) (int_one _) ?c3 ?c4 ?c5 ?_)
                case c3 => unfold maxLen; omega
                case c4 => omega
                case c5 => first | omega | (simp; omega)
                intro v' w1 hown' hgrow _
                rw [ints_more] at hown'
                have G9 : Below w.heap.size w w1 := (galloc G _).grown hgrow (by simp; omega) (fun r e => (O.lt _ e).1)
                clear hgrow O
                go_wp2
                go_roundw
                case rel => exact ⟨k + 1, _, by omega, by go_num, by simp [hdl], lastD hdl hds _ (by omega) (by omega), hown', G9⟩
                case measure => simp [intOf]; omega
              · go_wp2
                go_ret
                first | exact ⟨_, rfl, G⟩ | exact ⟨⟨_, rfl⟩, G⟩ | exact ⟨.inr rfl, G⟩
            · go_wp2_with (at_builtin; refine wpList_append_own _ rfl (.tmp 72) (.tmp 75) 39 rfl w.heap.size 3 i0 (.int .i64 0) 1 8 Tryz.underlying39 hi hz0 hz1 hz2 rfl (by decide) _ _ _ rfl (O.alloc _) ⟨wr.heap.size, 0, none⟩ 1 1 [_] rfl rfl (cell_one_new _ _ _) (int_one _) ?c3 ?c4 ?c5 ?_)
              case c3 => unfold maxLen; omega
              case c4 => omega
              case c5 => first | omega | (simp; omega)
              intro v' w1 hown' hgrow _
              rw [ints_more] at hown'
              have G9 : Below w.heap.size w w1 := (galloc G _).grown hgrow (by simp; omega) (fun r e => (O.lt _ e).1)
              clear hgrow O
              go_wp2
              go_roundw
              case rel => exact ⟨k + 1, _, by omega, by go_num, by simp [hdl], lastD hdl hds _ (by omega) (by omega), hown', G9⟩
              case measure => simp [intOf]; omega
      · obtain ⟨gd, rfl, ca⟩ := cD a ha
        have hda := hds a ha
        have hak : (a : Int) < (k : Int) := by omega
        rcases hB with hB | ⟨b, hb, rfl⟩
        · generalize hza : ds.getD a 0 = za at *
          rcases hB with hB | ⟨hB, hB2⟩
          all_goals
            rcases Int.lt_or_le za 65536 with hd | hd
            · go_wp2_with (at_builtin; refine wpList_append_own _ rfl (.tmp 72) (.tmp 75) 39 rfl w.heap.size 3 i0 (.int .i64 0) 1 8 Tryz.underlying39 hi hz0 hz1 hz2 rfl (by decide) _ _ _ rfl (O.alloc _) ⟨wr.heap.size, 0, none⟩ 1 1 [_] rfl rfl (cell_one_new _ _ _) (int_one _) ?c3 ?c4 ?c5 ?_)
              case c3 => unfold maxLen; omega
              case c4 => omega
              case c5 => first | omega | (simp; omega)
              intro v' w1 hown' hgrow _
              rw [ints_more] at hown'
              have G9 : Below w.heap.size w w1 := (galloc G _).grown hgrow (by simp; omega) (fun r e => (O.lt _ e).1)
              clear hgrow O
              go_wp2
              go_roundw
              case rel => exact ⟨k + 1, _, by omega, by go_num, by simp [hdl], lastD hdl hds _ (by omega) (by omega), hown', G9⟩
              case measure => simp [intOf]; omega
            · go_wp2
              go_ret
              first | exact ⟨_, rfl, G⟩ | exact ⟨⟨_, rfl⟩, G⟩ | exact ⟨.inr rfl, G⟩
        · obtain ⟨gd', e', cb⟩ := cD b hb
          simp only [Option.some.injEq, Addr.mk.injEq, and_true] at e'
          subst e'
          have hdb := hds b hb
          have hbk : (b : Int) < (k : Int) := by omega
          generalize hza : ds.getD a 0 = za at *
          generalize hzb : ds.getD b 0 = zb at *
          rcases Int.lt_or_le za zb with hc | hc
          · rcases Int.lt_or_le zb 65536 with hd | hd
            · go_wp2_with (at_builtin; refine wpList_append_own _ rfl (.tmp 72) (.tmp 75) 39 rfl w.heap.size 3 i0 (.int .i64 0) 1 8 Tryz.underlying39 hi hz0 hz1 hz2 rfl (by decide) _ _ _ rfl (O.alloc _) ⟨wr.heap.size, 0, none⟩ 1 1 [_] rfl rfl (cell_one_new _ _ _) (int_one _) ?c3 ?c4 ?c5 ?_)
              case c3 => unfold maxLen; omega
              case c4 => omega
              case c5 => first | omega | (simp; omega)
              intro v' w1 hown' hgrow _
              rw [ints_more] at hown'
              have G9 : Below w.heap.size w w1 := (galloc G _).grown hgrow (by simp; omega) (fun r e => (O.lt _ e).1)
              clear hgrow O
              go_wp2
              go_roundw
              case rel => exact ⟨k + 1, _, by omega, by go_num, by simp [hdl], lastD hdl hds _ (by omega) (by omega), hown', G9⟩
              case measure => simp [intOf]; omega
            · go_wp2
              go_ret
              first | exact ⟨_, rfl, G⟩ | exact ⟨⟨_, rfl⟩, G⟩ | exact ⟨.inr rfl, G⟩
          · rcases Int.lt_or_le za 65536 with hd | hd
            · go_wp2_with (at_builtin; refine wpList_append_own _ rfl (.tmp 72) (.tmp 75) 39 rfl w.heap.size 3 i0 (.int .i64 0) 1 8 Tryz.underlying39 hi hz0 hz1 hz2 rfl (by decide) _ _ _ rfl (O.alloc _) ⟨wr.heap.size, 0, none⟩ 1 1 [_] rfl rfl (cell_one_new _ _ _) (int_one _) ?c3 ?c4 ?c5 ?_)
              case c3 => unfold maxLen; omega
              case c4 => omega
              case c5 => first | omega | (simp; omega)
              intro v' w1 hown' hgrow _
              rw [ints_more] at hown'
              have G9 : Below w.heap.size w w1 := (galloc G _).grown hgrow (by simp; omega) (fun r e => (O.lt _ e).1)
              clear hgrow O
              go_wp2
              go_roundw
              case rel => exact ⟨k + 1, _, by omega, by go_num, by simp [hdl], lastD hdl hds _ (by omega) (by omega), hown', G9⟩
              case measure => simp [intOf]; omega
            · go_wp2
              go_ret
              first | exact ⟨_, rfl, G⟩ | exact ⟨⟨_, rfl⟩, G⟩ | exact ⟨.inr rfl, G⟩
    · obtain rfl : k = n := by omega
      go_wp2
      go_ret
      first | exact ⟨_, rfl, G⟩ | exact ⟨⟨_, rfl⟩, G⟩ | exact ⟨.inr rfl, G⟩

end Go.Proofs.YtnolbpekdikamaaGreatDoor
namespace Go.Proofs.YtnolbpekdikamaaGreatDoor
open Go.RowKit
set_option linter.unusedVariables false

/-- The keywords' bytes, in their order. -/
def kwl : List (List UInt8) := [[80, 65, 84, 84, 69, 82, 78], [83, 69, 81], [85, 83, 73, 78, 71], [65, 78, 89], [78, 69, 88, 84], [83, 84, 82, 73, 67, 84], [87, 72, 69, 82, 69], [87, 73, 84, 72, 73, 78], [80, 65, 82, 84, 73, 84, 73, 79, 78], [66, 89], [82, 69, 84, 85, 82, 78], [65, 78, 68], [79, 82], [78, 79, 84], [84, 82, 85, 69], [70, 65, 76, 83, 69], [67, 79, 85, 78, 84], [83, 85, 77], [77, 73, 78], [77, 65, 88], [70, 73, 82, 83, 84], [76, 65, 83, 84], [80, 82, 69, 86], [65, 70, 84, 69, 82], [65, 76, 76], [80, 65, 83, 84], [79, 78, 67, 69]]
def kw (j : Nat) : ByteArray := ⟨(kwl.getD j []).toArray⟩
def kwcells : Array Value := (kwl.map fun b => Value.string ⟨b.toArray⟩).toArray
/-- The variable Keywords holds the keywords. -/
def KwAt (w : World) : Prop := 4 < w.heap.size ∧ ∀ j, j < 27 → w.cell? ⟨4, j, none⟩ = some (.string (kw j))
theorem KwAt.keep {w u : World} (h : KwAt w) (G : Below w.heap.size w u) : KwAt u :=
  ⟨Nat.lt_of_lt_of_le h.1 G.size, fun j hj => (G.cell (p := ⟨_, j, none⟩) h.1).trans (h.2 j hj)⟩

theorem laidMet_tail {P : Program} {x : String × DataW Unit} {r : List (String × DataW Unit)} {w : World} (h : laidMet P (x :: r) w) : laidMet P r w := by
  obtain ⟨ps, ⟨g, t, cs, fuel, p, q, hg, ht, hvar, hd, hq, rfl⟩, hn, hall⟩ := h
  refine ⟨q, hq, ?_, fun b off hm => hall b off (List.mem_append_right _ hm)⟩
  exact (List.nodup_append.1 hn).2.1

/-- A table of strings that reads as listed. -/
theorem tabS {P : Program} {W : World} {name : String} {bss : List (List UInt8)} {rest : List (String × DataW Unit)} {g n : Nat} {t e : TypeId}
    (hg : P.globalNamed name = some g) (hty : (P.globals[g]?).map (·.type) = some t) (ht : P.underlying t = some (.array n e)) (he : P.underlying e = some .string) (hce : P.cellsOf e = 1)
    (h : laidMet P ((name, .agg (bss.map fun b => .lit (.string b))) :: rest) W) : ∀ i bs, bss[i]? = some bs → W.cell? ⟨g, i, none⟩ = some (.string ⟨bs.toArray⟩) := by
  obtain ⟨ps, ⟨g', t', cs, fuel, p, q, hg', ht', hvar, hd, _, _⟩, _⟩ := h
  obtain rfl := Option.some.inj (hg.symm.trans hg')
  obtain rfl := Option.some.inj (hty.symm.trans ht')
  obtain ⟨xs, m, _, hx, hlen, hxl, hall⟩ := DataW.trod_array ht hd
  have hx1 : (bss.map fun b => (DataW.lit (.string b) : DataW Unit)) = xs.map (·.1) := by
    have := congrArg Prod.fst hx
    simpa using this
  intro i bs hi
  have h3 : (xs.map (·.1))[i]? = some (.lit (.string bs)) := by rw [← hx1]; simp [hi]
  simp only [List.getElem?_map, Option.map_eq_some_iff] at h3
  obtain ⟨y, hy, hy1⟩ := h3
  have hin : i < n := by have := (List.getElem?_eq_some_iff.1 hy).1; omega
  have h1 := hall i hin
  rw [hce, hy] at h1
  obtain ⟨sb, hcs, hxy, _⟩ := DataW.trod_string he h1
  have hb : bs = sb.data.toList := by
    have := congrArg Prod.fst hxy
    rw [hy1] at this
    simpa using this
  have hsb : (⟨bs.toArray⟩ : ByteArray) = sb := by rw [hb]
  rw [World.var?_cell hg hvar, hsb]
  have h5 := congrArg (·[0]?) hcs
  simpa [List.getElem?_take, List.getElem?_drop] using h5

theorem kwAt_of {W : World} (h : ∀ i bs, kwl[i]? = some bs → W.cell? ⟨4, i, none⟩ = some (.string ⟨bs.toArray⟩)) : KwAt W := by
  have hc : ∀ j, j < 27 → W.cell? ⟨4, j, none⟩ = some (.string (kw j)) := fun j hj => by
    have hl : j < kwl.length := by have : kwl.length = 27 := rfl; omega
    rw [h j kwl[j] (List.getElem?_eq_getElem hl)]
    simp [kw, List.getD, List.getElem?_eq_getElem hl]
  refine ⟨?_, hc⟩
  have := hc 0 (by omega)
  rcases Nat.lt_or_ge 4 W.heap.size with g | g
  · exact g
  · simp [World.cell?, Array.getElem?_eq_none g] at this

end Go.Proofs.YtnolbpekdikamaaGreatDoor
namespace Go.Proofs.YtnolbpekdikamaaGreatDoor.Ev
open Go.RowKit Go.BigFrame
set_option linter.unusedVariables false
set_option linter.unusedSimpArgs false

def upN (n : Int) : Int := if 97 ≤ n ∧ n ≤ 122 then n - 32 else n
def upB (b : UInt8) : UInt8 := if 97 ≤ b.toNat ∧ b.toNat ≤ 122 then b - 32 else b
theorem upB_toNat (b : UInt8) : ((upB b).toNat : Int) = upN (b.toNat : Int) := by
  unfold upB upN
  by_cases h : 97 ≤ b.toNat ∧ b.toNat ≤ 122
  · rw [if_pos h, if_pos (by omega)]
    have h32 : (32 : UInt8).toNat = 32 := rfl
    rw [UInt8.toNat_sub_of_le b 32 (by rw [UInt8.le_iff_toNat_le, h32]; omega), h32]
    omega
  · rw [if_neg h, if_neg (by omega)]
def upS (s : ByteArray) : ByteArray := ⟨s.data.map upB⟩
theorem upS_size (s : ByteArray) : (upS s).size = s.size := by show (s.data.map upB).size = s.data.size; simp

theorem byteW (s : ByteArray) (t : Nat) (h : t < s.size) (P : Program) (T : TypeId) (hT : P.underlying T = some .string) (w : World) : (Instr.index T (.string s) (.int .i64 (t : Int))).run P w = .ok (.int .u8 ((s.data.getD t 0).toNat : Int)) w := by
  rw [run_index_string w T s .i64 t hT, dif_pos ⟨by omega, by omega⟩]
  simp [ByteArray.getElem_eq_getElem_data, Array.getD, h]

def wrB (s k : ByteArray) : Bool := (upS s).toList == k.toList
theorem wrB_true {s k : ByteArray} (hs : s.size = k.size) (h : ∀ j, j < s.size → upB (s.data.getD j 0) = k.data.getD j 0) : wrB s k = true := by
  unfold wrB
  rw [ByteArray.toList_eq, ByteArray.toList_eq, beq_iff_eq, Array.toList_inj]
  have hs' : s.data.size = k.data.size := hs
  refine Array.ext (by simp [upS, hs']) fun j h1 h2 => ?_
  have hk : j < k.size := h2
  have := h j (by omega)
  have hj : j < s.size := by omega
  simpa [upS, Array.getD, hk, hj] using this
theorem wrB_size {s k : ByteArray} (hs : s.size ≠ k.size) : wrB s k = false := by
  unfold wrB
  rw [ByteArray.toList_eq, ByteArray.toList_eq, beq_eq_false_iff_ne]
  intro e
  have := congrArg List.length e
  simp [upS] at this
  exact hs this
theorem wrB_false {s k : ByteArray} (hs : s.size = k.size) {j : Nat} (hj : j < s.size) (h : upB (s.data.getD j 0) ≠ k.data.getD j 0) : wrB s k = false := by
  unfold wrB
  rw [ByteArray.toList_eq, ByteArray.toList_eq, beq_eq_false_iff_ne]
  intro e
  refine h ?_
  have hs' : s.data.size = k.data.size := hs
  have hk : j < k.size := by omega
  have h1 : s.data[j]? = some (s.data[j]'hj) := Array.getElem?_eq_getElem _
  have h2 : k.data[j]? = some (k.data[j]'hk) := Array.getElem?_eq_getElem _
  have := congrArg (fun l => l[j]?) e
  simpa [upS, Array.getD, hk, hj, h1, h2] using this

theorem more {p : Nat → Bool} {k : Nat} (h : ∀ j, j < k → p j = false) (hk : p k = false) : ∀ j, j < k + 1 → p j = false := by
  intro j hj
  rcases Nat.lt_or_ge j k with h1 | h1
  · exact h j h1
  · obtain rfl : j = k := by omega
    exact hk
theorem kw_size (j : Nat) (h : j < 27) : (kw j).size ≤ 9223372036854775807 := by
  rcases (show j = 0 ∨ j = 1 ∨ j = 2 ∨ j = 3 ∨ j = 4 ∨ j = 5 ∨ j = 6 ∨ j = 7 ∨ j = 8 ∨ j = 9 ∨ j = 10 ∨ j = 11 ∨ j = 12 ∨ j = 13 ∨ j = 14 ∨ j = 15 ∨ j = 16 ∨ j = 17 ∨ j = 18 ∨ j = 19 ∨ j = 20 ∨ j = 21 ∨ j = 22 ∨ j = 23 ∨ j = 24 ∨ j = 25 ∨ j = 26 from by omega) with rfl | rfl | rfl | rfl | rfl | rfl | rfl | rfl | rfl | rfl | rfl | rfl | rfl | rfl | rfl | rfl | rfl | rfl | rfl | rfl | rfl | rfl | rfl | rfl | rfl | rfl | rfl <;> decide
theorem kw_ix (j : Nat) (h : j < 27) : ∀ w, (Instr.index 173 (.agg kwcells) (.int .i64 (j : Int))).run Tryz.prog w = .ok (.string (kw j)) w := by
  rcases (show j = 0 ∨ j = 1 ∨ j = 2 ∨ j = 3 ∨ j = 4 ∨ j = 5 ∨ j = 6 ∨ j = 7 ∨ j = 8 ∨ j = 9 ∨ j = 10 ∨ j = 11 ∨ j = 12 ∨ j = 13 ∨ j = 14 ∨ j = 15 ∨ j = 16 ∨ j = 17 ∨ j = 18 ∨ j = 19 ∨ j = 20 ∨ j = 21 ∨ j = 22 ∨ j = 23 ∨ j = 24 ∨ j = 25 ∨ j = 26 from by omega) with rfl | rfl | rfl | rfl | rfl | rfl | rfl | rfl | rfl | rfl | rfl | rfl | rfl | rfl | rfl | rfl | rfl | rfl | rfl | rfl | rfl | rfl | rfl | rfl | rfl | rfl | rfl
  all_goals (intro w; kernel_rfl)
theorem kw_range {w : World} (K : KwAt w) : w.rangeAt 4 0 (kwl.map fun b => Value.string ⟨b.toArray⟩) := by
  intro j v hj
  have hl : j < 27 := by have := (List.getElem?_eq_some_iff.1 hj).1; simpa [kwl] using this
  rw [Nat.zero_add, K.2 j hl]
  simp only [List.getElem?_map, Option.map_eq_some_iff] at hj
  obtain ⟨b, hb, rfl⟩ := hj
  simp [kw, List.getD, hb]

theorem kw_up (j : Nat) (h : j < 27) : ∀ t, t < (kw j).size → 65 ≤ ((kw j).data.getD t 0).toNat ∧ ((kw j).data.getD t 0).toNat ≤ 90 := by
  rcases (show j = 0 ∨ j = 1 ∨ j = 2 ∨ j = 3 ∨ j = 4 ∨ j = 5 ∨ j = 6 ∨ j = 7 ∨ j = 8 ∨ j = 9 ∨ j = 10 ∨ j = 11 ∨ j = 12 ∨ j = 13 ∨ j = 14 ∨ j = 15 ∨ j = 16 ∨ j = 17 ∨ j = 18 ∨ j = 19 ∨ j = 20 ∨ j = 21 ∨ j = 22 ∨ j = 23 ∨ j = 24 ∨ j = 25 ∨ j = 26 from by omega) with rfl | rfl | rfl | rfl | rfl | rfl | rfl | rfl | rfl | rfl | rfl | rfl | rfl | rfl | rfl | rfl | rfl | rfl | rfl | rfl | rfl | rfl | rfl | rfl | rfl | rfl | rfl <;> decide

end Go.Proofs.YtnolbpekdikamaaGreatDoor.Ev
namespace Go.Proofs.YtnolbpekdikamaaGreatDoor.Ev
open Go.RowKit Go.BigFrame
set_option linter.unusedVariables false
set_option linter.unusedSimpArgs false

def letB (n : Int) : Bool := decide (65 ≤ n ∧ n ≤ 90 ∨ 97 ≤ n ∧ n ≤ 122)
def digB (n : Int) : Bool := decide (48 ≤ n ∧ n ≤ 57)
def inW (n : Int) : Bool := letB n || digB n || (n == 95)

set_option maxHeartbeats 1000000 in
theorem isLetter_any (n : Int) (w : World) : Calls Tryz.prog 116 #[.int .i32 n] w fun e w' => e = .returned (.bool (letB n)) ∧ w = w' := by
  obtain ⟨v, hv⟩ : ∃ v, letB n = v := ⟨_, rfl⟩
  rw [hv]
  have HV : Hid (letB n = v) := hv
  clear hv
  by_cases a : 65 ≤ n <;> by_cases b : n ≤ 90 <;> by_cases c : 97 ≤ n <;> by_cases d : n ≤ 122
  all_goals
    go_enter Tryz.func116, Tryz.ntmps116
    go_wp2
    go_ret
    refine ⟨congrArg (fun b => Ending.returned (Value.bool b)) (Eq.trans ?_ HV.out), rfl⟩
    first | exact (decide_eq_true (by omega)).symm | exact (decide_eq_false (by omega)).symm
set_option maxHeartbeats 400000 in
theorem isDigit_any (n : Int) (w : World) : Calls Tryz.prog 98 #[.int .i32 n] w fun e w' => e = .returned (.bool (digB n)) ∧ w = w' := by
  obtain ⟨v, hv⟩ : ∃ v, digB n = v := ⟨_, rfl⟩
  rw [hv]
  have HV : Hid (digB n = v) := hv
  clear hv
  by_cases a : 48 ≤ n <;> by_cases b : n ≤ 57
  all_goals
    go_enter Tryz.func98, Tryz.ntmps98
    go_wp2
    go_ret
    refine ⟨congrArg (fun b => Ending.returned (Value.bool b)) (Eq.trans ?_ HV.out), rfl⟩
    first | exact (decide_eq_true (by omega)).symm | exact (decide_eq_false (by omega)).symm
set_option maxHeartbeats 1000000 in
theorem inWord_any (n : Int) (w : World) : Calls Tryz.prog 97 #[.int .i32 n] w fun e w' => e = .returned (.bool (inW n)) ∧ w = w' := by
  have c1 := isLetter_any n
  have c2 := isDigit_any n
  obtain ⟨v, hv⟩ : ∃ v, inW n = v := ⟨_, rfl⟩
  rw [hv]
  have HV : Hid (inW n = v) := hv
  clear hv
  cases hl : letB n <;> cases hd : digB n <;> cases h2 : (n == 95)
  all_goals
    rw [hl] at c1
    rw [hd] at c2
    go_enter Tryz.func97, Tryz.ntmps97
    go_wp2_with (first
      | (go_at_call 116; with_reducible refine (c1 _).mono ?_; rintro e u ⟨rfl, rfl⟩)
      | (go_at_call 98; with_reducible refine (c2 _).mono ?_; rintro e u ⟨rfl, rfl⟩))
    go_ret
    refine ⟨congrArg (fun b => Ending.returned (Value.bool b)) (Eq.trans ?_ HV.out), rfl⟩
    unfold inW
    rw [hl, hd, h2]
    rfl
end Go.Proofs.YtnolbpekdikamaaGreatDoor.Ev
namespace Go.Proofs.YtnolbpekdikamaaGreatDoor.Ev
open Go.RowKit Go.BigFrame
set_option linter.unusedVariables false
set_option linter.unusedSimpArgs false

theorem or_low (x y : Nat) (hx : x < 128) (hy : y < 128) : ¬ (128 : Int) ≤ bits .or .u8 (x : Int) (y : Int) := by
  rw [u8_or_nat x y (by omega) (by omega)]
  have := Nat.or_lt_two_pow (n := 7) hx hy
  omega

set_option maxRecDepth 100000 in
set_option maxHeartbeats 2000000 in
theorem equalFold_any (s k : ByteArray) (hs : s.size ≤ 9223372036854775807) (hk2 : k.size ≤ 9223372036854775807) (ha : ∀ t, t < s.size → (s.data.getD t 0).toNat < 128) (hup : ∀ t, t < k.size → 65 ≤ (k.data.getD t 0).toNat ∧ (k.data.getD t 0).toNat ≤ 90) (w : World) :
    Calls Tryz.prog 117 #[.string s, .string k] w fun e w' => e = .returned (.bool (wrB s k)) ∧ w = w' := by
  rcases Nat.lt_trichotomy s.size k.size with hsz | hsz | hsz
  · have hw := wrB_size (s := s) (k := k) (by omega)
    obtain ⟨n, hn⟩ : ∃ n, s.size = n := ⟨_, rfl⟩
    obtain ⟨m, hm⟩ : ∃ m, k.size = m := ⟨_, rfl⟩
    rw [hn, hm] at hsz
    have q1 : (n : Int) ≤ (m : Int) := by omega
    have q2 : (n : Int) < (m : Int) := by omega
    have q3 : ((n : Int) == (m : Int)) = false := by simp; omega
    go_enter Tryz.func117, Tryz.ntmps117
    go_wp2
    go_step3
    go_wp2
    go_loop [5] (fun i => ∃ t : Nat, t ≤ n ∧ i = .int .i64 t) (fun i => n - (intOf i).toNat)
    case atStart => exact ⟨0, Nat.zero_le _, rfl⟩
    case round =>
      obtain ⟨t, ht, rfl⟩ := hrel
      by_cases hlt : t < n
      · have i1 := byteW s t (by omega) Tryz.prog 9 (by kernel_rfl)
        have i2 := byteW k t (by omega) Tryz.prog 9 (by kernel_rfl)
        have u1 := hup t (by omega)
        have l1 := ha t (by omega)
        clear hup ha
        generalize ((s.data.getD t 0).toNat) = x at *
        generalize ((k.data.getD t 0).toNat) = y at *
        have hor := or_low x y (by omega) (by omega)
        obtain ⟨u1, u2⟩ := u1
        have v1 : (65 : Int) ≤ (y : Int) := by omega
        have v2 : (y : Int) ≤ 90 := by omega
        rcases (show x = y ∨ (y < x ∧ x = y + 32) ∨ (y < x ∧ x ≠ y + 32) ∨ (x < y ∧ 65 ≤ x) ∨ (x < y ∧ x < 65) from by omega) with c | c | c | c | c
        · skip
          subst c
          go_wp2
          exact ⟨⟨t + 1, by omega, by go_num⟩, by simp [intOf]; omega⟩
        · skip
          have d1 : ((y : Int) == (x : Int)) = false := by simp; omega
          have d2 : (y : Int) < (x : Int) := by omega
          have d3 : ((x : Int) == (y : Int) + 32) = true := by simp; omega
          have hor2 : ¬ (128 : Int) ≤ bits .or .u8 ((y : Int) + 32) (y : Int) := by simpa using or_low (y + 32) y (by omega) (by omega)
          have HC : Hid (x = y + 32) := c.2
          clear c
          go_wp2
          exact ⟨⟨t + 1, by omega, by go_num⟩, by simp [intOf]; omega⟩
        · skip
          have d1 : ((y : Int) == (x : Int)) = false := by simp; omega
          have d2 : (y : Int) < (x : Int) := by omega
          have d3 : ((x : Int) == (y : Int) + 32) = false := by simp; omega
          go_wp2
          go_ret
          exact ⟨by rw [hw]; rfl, rfl⟩
        · skip
          have d1 : ((y : Int) == (x : Int)) = false := by simp; omega
          have d2 : ¬ (y : Int) < (x : Int) := by omega
          have d4 : (65 : Int) ≤ (x : Int) := by omega
          have d5 : (x : Int) ≤ 90 := by omega
          have d3 : ((y : Int) == (x : Int) + 32) = false := by simp; omega
          go_wp2
          go_ret
          exact ⟨by rw [hw]; rfl, rfl⟩
        · skip
          have d1 : ((y : Int) == (x : Int)) = false := by simp; omega
          have d2 : ¬ (y : Int) < (x : Int) := by omega
          have d4 : ¬ (65 : Int) ≤ (x : Int) := by omega
          go_wp2
          go_ret
          exact ⟨by rw [hw]; rfl, rfl⟩
      · have h1 : t = n := by omega
        subst h1
        go_wp2
        go_ret
        exact ⟨by rw [hw]; first | rfl | simp, rfl⟩
  · obtain ⟨n, hn⟩ : ∃ n, n = s.size := ⟨_, rfl⟩
    have hn2 : k.size = n := by omega
    have hn1 : s.size = n := hn.symm
    have HS : Hid (s.size = k.size) := hsz
    clear hn hsz
    go_enter Tryz.func117, Tryz.ntmps117
    go_wp2
    go_step3
    go_wp2
    go_loop [5] (fun i => ∃ t : Nat, t ≤ n ∧ i = .int .i64 t ∧ (∀ j, j < t → upB (s.data.getD j 0) = k.data.getD j 0)) (fun i => n - (intOf i).toNat)
    case atStart => exact ⟨0, Nat.zero_le _, rfl, fun j hj => absurd hj (Nat.not_lt_zero _)⟩
    case round =>
      obtain ⟨t, ht, rfl, hall⟩ := hrel
      by_cases hlt : t < n
      · have i1 := byteW s t (by omega) Tryz.prog 9 (by kernel_rfl)
        have i2 := byteW k t (by omega) Tryz.prog 9 (by kernel_rfl)
        have e1 := upB_toNat (s.data.getD t 0)
        have HX : Hid (upB (s.data.getD t 0) = k.data.getD t 0 ↔ upN ((s.data.getD t 0).toNat : Int) = ((k.data.getD t 0).toNat : Int)) := by
          show _ ↔ _
          rw [← e1]
          constructor
          · intro e; rw [e]
          · intro e; exact UInt8.toNat_inj.1 (by omega)
        clear e1
        have u1 := hup t (by omega)
        have l1 := ha t (by omega)
        clear hup ha
        generalize ((s.data.getD t 0).toNat) = x at *
        generalize ((k.data.getD t 0).toNat) = y at *
        have hor := or_low x y (by omega) (by omega)
        obtain ⟨u1, u2⟩ := u1
        have v1 : (65 : Int) ≤ (y : Int) := by omega
        have v2 : (y : Int) ≤ 90 := by omega
        have HQ : Hid (upN (x : Int) = (y : Int) ↔ x = y ∨ x = y + 32) := by
          show _ ↔ _
          unfold upN; split <;> omega
        rcases (show x = y ∨ (y < x ∧ x = y + 32) ∨ (y < x ∧ x ≠ y + 32) ∨ (x < y ∧ 65 ≤ x) ∨ (x < y ∧ x < 65) from by omega) with c | c | c | c | c
        · skip
          subst c
          go_wp2
          refine ⟨⟨t + 1, by omega, by go_num, fun j hj => ?_⟩, by simp [intOf]; omega⟩
          rcases Nat.lt_or_ge j t with e | e
          · exact hall j e
          · obtain rfl : j = t := by omega
            exact HX.out.2 (HQ.out.2 (by first | omega | exact .inr HC.out))
        · skip
          have d1 : ((y : Int) == (x : Int)) = false := by simp; omega
          have d2 : (y : Int) < (x : Int) := by omega
          have d3 : ((x : Int) == (y : Int) + 32) = true := by simp; omega
          have hor2 : ¬ (128 : Int) ≤ bits .or .u8 ((y : Int) + 32) (y : Int) := by simpa using or_low (y + 32) y (by omega) (by omega)
          have HC : Hid (x = y + 32) := c.2
          clear c
          go_wp2
          refine ⟨⟨t + 1, by omega, by go_num, fun j hj => ?_⟩, by simp [intOf]; omega⟩
          rcases Nat.lt_or_ge j t with e | e
          · exact hall j e
          · obtain rfl : j = t := by omega
            exact HX.out.2 (HQ.out.2 (by first | omega | exact .inr HC.out))
        · skip
          have d1 : ((y : Int) == (x : Int)) = false := by simp; omega
          have d2 : (y : Int) < (x : Int) := by omega
          have d3 : ((x : Int) == (y : Int) + 32) = false := by simp; omega
          go_wp2
          go_ret
          exact ⟨by rw [wrB_false HS.out (j := t) (by omega) (fun e => by have := HQ.out.1 (HX.out.1 e); omega)]; rfl, rfl⟩
        · skip
          have d1 : ((y : Int) == (x : Int)) = false := by simp; omega
          have d2 : ¬ (y : Int) < (x : Int) := by omega
          have d4 : (65 : Int) ≤ (x : Int) := by omega
          have d5 : (x : Int) ≤ 90 := by omega
          have d3 : ((y : Int) == (x : Int) + 32) = false := by simp; omega
          go_wp2
          go_ret
          exact ⟨by rw [wrB_false HS.out (j := t) (by omega) (fun e => by have := HQ.out.1 (HX.out.1 e); omega)]; rfl, rfl⟩
        · skip
          have d1 : ((y : Int) == (x : Int)) = false := by simp; omega
          have d2 : ¬ (y : Int) < (x : Int) := by omega
          have d4 : ¬ (65 : Int) ≤ (x : Int) := by omega
          go_wp2
          go_ret
          exact ⟨by rw [wrB_false HS.out (j := t) (by omega) (fun e => by have := HQ.out.1 (HX.out.1 e); omega)]; rfl, rfl⟩
      · obtain rfl : t = n := by omega
        go_wp2
        go_ret
        exact ⟨by rw [wrB_true HS.out (fun j hj => hall j (by omega))]; rfl, rfl⟩
  · have hw := wrB_size (s := s) (k := k) (by omega)
    obtain ⟨n, hn⟩ : ∃ n, k.size = n := ⟨_, rfl⟩
    obtain ⟨m, hm⟩ : ∃ m, s.size = m := ⟨_, rfl⟩
    rw [hn, hm] at hsz
    have q1 : ¬ (m : Int) ≤ (n : Int) := by omega
    have q2 : (n : Int) < (m : Int) := by omega
    have q4 : ¬ (m : Int) < (n : Int) := by omega
    have q3 : ((m : Int) == (n : Int)) = false := by simp; omega
    go_enter Tryz.func117, Tryz.ntmps117
    go_wp2
    go_step3
    go_wp2
    go_loop [5] (fun i => ∃ t : Nat, t ≤ n ∧ i = .int .i64 t) (fun i => n - (intOf i).toNat)
    case atStart => exact ⟨0, Nat.zero_le _, rfl⟩
    case round =>
      obtain ⟨t, ht, rfl⟩ := hrel
      by_cases hlt : t < n
      · have i1 := byteW s t (by omega) Tryz.prog 9 (by kernel_rfl)
        have i2 := byteW k t (by omega) Tryz.prog 9 (by kernel_rfl)
        have u1 := hup t (by omega)
        have l1 := ha t (by omega)
        clear hup ha
        generalize ((s.data.getD t 0).toNat) = x at *
        generalize ((k.data.getD t 0).toNat) = y at *
        have hor := or_low x y (by omega) (by omega)
        obtain ⟨u1, u2⟩ := u1
        have v1 : (65 : Int) ≤ (y : Int) := by omega
        have v2 : (y : Int) ≤ 90 := by omega
        rcases (show x = y ∨ (y < x ∧ x = y + 32) ∨ (y < x ∧ x ≠ y + 32) ∨ (x < y ∧ 65 ≤ x) ∨ (x < y ∧ x < 65) from by omega) with c | c | c | c | c
        · skip
          subst c
          go_wp2
          exact ⟨⟨t + 1, by omega, by go_num⟩, by simp [intOf]; omega⟩
        · skip
          have d1 : ((y : Int) == (x : Int)) = false := by simp; omega
          have d2 : (y : Int) < (x : Int) := by omega
          have d3 : ((x : Int) == (y : Int) + 32) = true := by simp; omega
          have hor2 : ¬ (128 : Int) ≤ bits .or .u8 ((y : Int) + 32) (y : Int) := by simpa using or_low (y + 32) y (by omega) (by omega)
          have HC : Hid (x = y + 32) := c.2
          clear c
          go_wp2
          exact ⟨⟨t + 1, by omega, by go_num⟩, by simp [intOf]; omega⟩
        · skip
          have d1 : ((y : Int) == (x : Int)) = false := by simp; omega
          have d2 : (y : Int) < (x : Int) := by omega
          have d3 : ((x : Int) == (y : Int) + 32) = false := by simp; omega
          go_wp2
          go_ret
          exact ⟨by rw [hw]; rfl, rfl⟩
        · skip
          have d1 : ((y : Int) == (x : Int)) = false := by simp; omega
          have d2 : ¬ (y : Int) < (x : Int) := by omega
          have d4 : (65 : Int) ≤ (x : Int) := by omega
          have d5 : (x : Int) ≤ 90 := by omega
          have d3 : ((y : Int) == (x : Int) + 32) = false := by simp; omega
          go_wp2
          go_ret
          exact ⟨by rw [hw]; rfl, rfl⟩
        · skip
          have d1 : ((y : Int) == (x : Int)) = false := by simp; omega
          have d2 : ¬ (y : Int) < (x : Int) := by omega
          have d4 : ¬ (65 : Int) ≤ (x : Int) := by omega
          go_wp2
          go_ret
          exact ⟨by rw [hw]; rfl, rfl⟩
      · have h1 : t = n := by omega
        subst h1
        go_wp2
        go_ret
        exact ⟨by rw [hw]; first | rfl | simp, rfl⟩

/-- Is it a keyword in letters of any case? -/
def keyB (s : ByteArray) : Bool := (List.range 27).any fun j => wrB s (kw j)
theorem keyB_hit (s : ByteArray) (k : Nat) (hk : k < 27) (h : wrB s (kw k) = true) : keyB s = true := List.any_eq_true.2 ⟨k, List.mem_range.2 hk, h⟩
theorem keyB_none (s : ByteArray) (h : ∀ j, j < 27 → wrB s (kw j) = false) : keyB s = false := by
  unfold keyB
  rw [List.any_eq_false]
  intro j hj
  rw [h j (List.mem_range.1 hj)]
  decide

set_option maxRecDepth 100000 in
set_option maxHeartbeats 1000000 in
theorem isKeyword_any (s : ByteArray) (hs : s.size ≤ 9223372036854775807) (ha : ∀ t, t < s.size → (s.data.getD t 0).toNat < 128) (w : World) (K : KwAt w) :
    Calls Tryz.prog 99 #[.string s] w fun e w' => e = .returned (.bool (keyB s)) ∧ w = w' := by
  have hr := kw_range K
  go_enter Tryz.func99, Tryz.ntmps99
  go_upto_region 2 with (refine wpList_load_mid rfl 173 _ rfl 4 0 rfl _ _ hr Tryz.underlying173 rfl (by kernel_rfl) ?_)
  have hix := kw_ix
  obtain ⟨A, hA⟩ : ∃ A, A = kwcells := ⟨_, rfl⟩
  rw [show (kwl.map fun b => Value.string ⟨b.toArray⟩).toArray = A from hA.symm]
  rw [← hA] at hix
  clear hr hA K
  go_loop [6] (fun i => ∃ k : Nat, k ≤ 27 ∧ i = .int .i64 k ∧ (∀ j, j < k → wrB s (kw j) = false)) (fun i => 27 - (intOf i).toNat)
  case atStart => exact ⟨0, Nat.zero_le _, rfl, fun j hj => absurd hj (Nat.not_lt_zero _)⟩
  case round =>
    obtain ⟨k, hk, rfl, hno⟩ := hrel
    by_cases hlt : k < 27
    · have ix := hix k hlt
      have c := equalFold_any s (kw k) hs (kw_size k hlt) ha (kw_up k hlt)
      clear hix
      cases hv : wrB s (kw k)
      · rw [hv] at c
        go_wp2_with (go_at_call 117; with_reducible refine (c _).mono ?_; rintro e u ⟨rfl, rfl⟩)
        go_round
        case rel => exact ⟨k + 1, by omega, by go_num, more (p := fun j => wrB s (kw j)) hno hv⟩
        case measure => simp [intOf]; omega
      · rw [hv] at c
        go_wp2_with (go_at_call 117; with_reducible refine (c _).mono ?_; rintro e u ⟨rfl, rfl⟩)
        go_ret
        exact ⟨by rw [keyB_hit s k hlt hv]; rfl, rfl⟩
    · obtain rfl : k = 27 := by omega
      go_wp2
      go_ret
      exact ⟨by rw [keyB_none s hno]; rfl, rfl⟩

def at_ (s : ByteArray) (t : Nat) : Int := ((s.data.getD t 0).toNat : Int)
/-- Is it a name? -/
def nameB (s : ByteArray) : Bool := decide (1 ≤ s.size ∧ s.size ≤ 16 ∧ (∀ j, j < s.size → inW (at_ s j) = true) ∧ digB (at_ s 0) = false ∧ keyB s = false)

end Go.Proofs.YtnolbpekdikamaaGreatDoor.Ev
