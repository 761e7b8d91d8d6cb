/- What the document's Join comes to. -/
import Derived.Test.YtlcmfefcammklaaDoorJo
import Derived.Test.YtlcmfefcammklaaDoorRs
import Derived.Lib.AppendStr
namespace Go.Proofs.YtlcmfefcammklaaDoor
open Go.RowKit Go.BigFrame Go.Shelf
set_option linter.unusedVariables false
set_option linter.unusedSimpArgs false

set_option maxRecDepth 100000 in
set_option maxHeartbeats 4000000 in
theorem refJoin_any (ts : List Tok) (ao : Option Addr) (cap : Nat) (hl : ts.length ≤ 10000000000) (hN : ∀ k, k < ts.length → okN (ts.getD k noTok)) (hT : (joinU ts ts.length).length ≤ 100000000000) (w : World) (A : IsToks w ao ts) (K : KrAt w) (Sg : SrAt w) (P : PwAt w) :
    Calls Tryd.prog 17 #[.slice ao ts.length cap] w fun e w' => e = .returned (.string ⟨(joinU ts ts.length).toArray⟩) ∧ Below w.heap.size w w' := by
  obtain ⟨i0, hi, hz0, hz1, hz2⟩ := info_partsB
  obtain ⟨n, hn⟩ : ∃ n, ts.length = n := ⟨_, rfl⟩
  rw [hn] at hT ⊢
  go_enter Tryd.func17, Tryd.ntmps17
  go_wp2
  go_loopw [3, 4] (fun v i wr => ∃ k : Nat, k ≤ n ∧ i = .int .i64 k ∧ wr.ownsRow w.heap.size 5 1 v (joinU ts k).length (rowB (joinU ts k)) ∧ Below w.heap.size w wr) (fun _ i _ => n - (intOf i).toNat)
  case atStart => exact ⟨0, Nat.zero_le _, rfl, World.ownsRow_nil _ _ _ _, Below.refl _ _⟩
  case round =>
    obtain ⟨k, hk, rfl, O, G⟩ := hrel
    by_cases hlt : k < n
    · obtain ⟨g, o, rfl, x0, x1, x2, x3⟩ := (A.keep G) k (by omega)
      have hN' := hN k (by omega)
      have hnext : joinU ts (k + 1) = joinU ts k ++ (if 0 < k then [32] else []) ++ (spS (ts.getD k noTok)).data.toList := rfl
      have hm := joinU_mono ts (k + 1) (n - (k + 1))
      rw [show k + 1 + (n - (k + 1)) = n by omega, hnext, List.length_append, List.length_append] at hm
      have cS := fun (u : World) (g5 : Below w.heap.size w u) => refSpell_any (ts.getD k noTok) hN' u (K.keep g5) (Sg.keep g5) (P.keep g5)
      have hsl : (spS (ts.getD k noTok)).data.toList.length = (spS (ts.getD k noTok)).size := Array.length_toList
      have HX : Hid (joinU ts (k + 1) = joinU ts k ++ (if 0 < k then [32] else []) ++ (spS (ts.getD k noTok)).data.toList) := hnext
      clear hnext
      generalize hy : ts.getD k noTok = y at *
      obtain ⟨t, ht⟩ : ∃ t, spS y = t := ⟨_, rfl⟩
      rw [ht] at cS hsl hm HX
      obtain ⟨bs, hbs⟩ : ∃ bs, joinU ts k = bs := ⟨_, rfl⟩
      rw [hbs] at O hm HX
      have zG := G.size
      replace cS : ∀ u, Below w.heap.size w u → Calls Tryd.prog 15 #[.agg #[.int .i64 y.k, .string y.t, .int .i64 y.n, .int .i64 y.a]] u fun e w' => e = .returned (.string t) ∧ Below u.heap.size u w' := cS
      by_cases hk0 : 0 < k
      · have hki : (0 : Int) < (k : Int) := by omega
        rw [if_pos hk0] at hm HX
        rw [List.length_singleton] at hm
        go_wp2_with (at_builtin; refine wpList_append_own _ rfl (.tmp 14) (.tmp 15) 31 rfl w.heap.size 5 i0 (.int .u8 0) 1 1 Tryd.underlying31 hi hz0 hz1 hz2 rfl (by decide) _ _ _ rfl (O.alloc _) ⟨wr.heap.size, 0, none⟩ 1 1 [.int .u8 32] rfl rfl (cell_one_new _ _ _) (one_u8 _) ?c3 ?c4 ?c5 ?_)
        case c3 => unfold maxLen; omega
        case c4 => omega
        case c5 => simp; omega
        intro v7 w7 O7 H7 _
        have G7 : Below w.heap.size w w7 := (galloc G _).grown H7 (by simp; omega) (fun r e => (O.lt _ e).1)
        have A7 := A.keep G7
        obtain ⟨g', o', hgo, y0, y1, y2, y3⟩ := A7 k (by omega)
        cases hgo
        rw [hy] at y0 y1 y2 y3
        have z7 := G7.size
        clear x0 x1 x2 x3 O
        go_wp2_with (first
          | (go_at_call 15; (with_reducible refine (cS _ G7).mono ?_); rintro e6 u6 ⟨rfl, g6⟩)
          | (at_builtin; refine Lib.wpList_append_own_string _ rfl (.tmp 22) (.tmp 23) 31 9 rfl w.heap.size 5 i0 Tryd.underlying31 Tryd.underlying9 hi hz0 hz1 hz2 _ _ _ rfl (own_keep O7 g6) t rfl ?c3 ?c4 ?c5 ?_))
        case c3 => unfold maxLen; omega
        case c4 => omega
        case c5 => have := g6.size; omega
        intro v8 w8 O8 H8 _
        have G8 : Below w.heap.size w w8 := (gtrans G7 g6).grown H8 (by have := g6.size; omega) (fun r e => (O7.lt _ e).1)
        have O9 : w8.ownsRow w.heap.size 5 1 v8 (joinU ts (k + 1)).length (rowB (joinU ts (k + 1))) := by
          have e1 : (bs ++ [(32 : UInt8)] ++ t.data.toList).length = bs.length + 1 + t.size := by rw [List.length_append, List.length_append, List.length_singleton, hsl]
          have e2 : rowB (bs ++ [(32 : UInt8)] ++ t.data.toList) = rowB bs ++ (.int .u8 32 :: Lib.strCells t) := by simp [rowB, byteV, Lib.strCells]
          rw [HX.out, e1, e2]
          first | exact O8 | simpa using O8
        clear O8 H8 O7 H7
        go_wp2
        go_roundw
        case rel => exact ⟨k + 1, by omega, by go_num, O9, G8⟩
        case measure => simp [intOf]; omega
      · have hki : ¬ (0 : Int) < (k : Int) := by omega
        have dki : decide ((0 : Int) < (k : Int)) = false := decide_eq_false hki
        have hk00 : (k : Int) ≤ 0 := by omega
        rw [if_neg (by omega)] at hm HX
        rw [List.length_nil] at hm
        go_wp2_with (first
          | (go_at_call 15; (with_reducible refine (cS _ G).mono ?_); rintro e6 u6 ⟨rfl, g6⟩)
          | (at_builtin; refine Lib.wpList_append_own_string _ rfl (.tmp 22) (.tmp 23) 31 9 rfl w.heap.size 5 i0 Tryd.underlying31 Tryd.underlying9 hi hz0 hz1 hz2 _ _ _ rfl (own_keep O g6) t rfl ?c3 ?c4 ?c5 ?_))
        case c3 => unfold maxLen; omega
        case c4 => omega
        case c5 => have := g6.size; omega
        intro v8 w8 O8 H8 _
        have G8 : Below w.heap.size w w8 := (gtrans G g6).grown H8 (by have := g6.size; omega) (fun r e => (O.lt _ e).1)
        have O9 : w8.ownsRow w.heap.size 5 1 v8 (joinU ts (k + 1)).length (rowB (joinU ts (k + 1))) := by
          have e1 : (bs ++ t.data.toList).length = bs.length + t.size := by rw [List.length_append, hsl]
          have e2 : rowB (bs ++ t.data.toList) = rowB bs ++ Lib.strCells t := by simp [rowB, byteV, Lib.strCells]
          rw [HX.out, List.append_nil, e1, e2]
          exact O8
        clear O8 H8
        go_wp2
        go_roundw
        case rel => exact ⟨k + 1, by omega, by go_num, O9, G8⟩
        case measure => simp [intOf]; omega
    · obtain rfl : k = n := by omega
      have hcv := conv_own O
      go_wp2
      go_ret
      exact ⟨rfl, G⟩

end Go.Proofs.YtlcmfefcammklaaDoor
