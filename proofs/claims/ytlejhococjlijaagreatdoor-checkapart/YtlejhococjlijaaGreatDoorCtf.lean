/- Conjuncts: the program's side, walked. -/
import Derived.Test.YtlejhococjlijaaGreatDoorCte
import Derived.Test.YtlejhococjlijaaGreatDoorShelfR
import Derived.Shelf.Slices.Reverse
import Derived.Sort.OwnSortedInts
namespace Go.Proofs.YtlejhococjlijaaGreatDoor
open Go.RowKit Go.BigFrame Go.Proofs.YtlejhococjlijaaGreatDoor.Ev
set_option linter.unusedVariables false
set_option linter.unusedSimpArgs false

theorem reverse_any (zs : List Int) (base : Nat) (v : Value) (w : World) (O : w.ownsRow base 3 1 v zs.length (intsV zs)) :
    Calls Tryz.prog 60 #[v] w fun e w' => e = .returned (.tuple #[]) ∧ w'.ownsRow base 3 1 v zs.length (intsV zs.reverse) ∧ w.grownBy w' v.ownBlock := by
  rcases O.2 with ⟨rfl, h0⟩ | ⟨g, cap, cur, rfl, hb, hh, hc, hm, hs, ht⟩
  · have hz : zs = [] := List.length_eq_zero_iff.1 h0
    subst hz
    refine (Any.slices_Reverse_int_empty Rv.lays_n112 none 0 w).mono ?_
    rintro e w' ⟨rfl, rfl⟩
    exact ⟨rfl, O, World.grownBy.refl _ _⟩
  · have hH : Sort.Holds (Value.int .i64) w g 0 zs.toArray := by
      intro j hj
      have hj' : j < zs.length := by simpa using hj
      refine ⟨?_, by rw [Nat.zero_add]; exact own_free O _⟩
      rw [Nat.zero_add, World.ownsRow.cellAt O j (by omega)]
      simp [intsV, hj']
    refine (Any.slices_Reverse_int Rv.lays_n112 g 0 cap zs w hH (by unfold maxLen at hm; omega)).mono ?_
    rintro e w' ⟨rfl, n, rfl⟩
    have h1 := ownsRow_sortedI (n := n) (os := #[]) (ss := zs) (ts := zs.reverse) (by simp) hb hh hc hm hs
    have h2 := grownBy_sortedI (w := w) (g := g) (n := n) (os := #[]) zs.reverse.toArray
    rw [Sort.grow_empty] at h1 h2
    exact ⟨rfl, h1, h2⟩
theorem bool_info : (Tryz.prog.info? 4).map (fun i => (i.zero, i.size, i.bytes)) = some (some (.bool false), 1, 1) := by kernel_rfl
/-- The operands of an AND. -/
theorem kin_and {ns : List Nd} {bs : List Int} (K : ∀ i, i < ns.length → Kin ns bs i) (a : Nat) (ha : a < ns.length) (h : (ns.getD a noNd).op = 25) : ∃ l r : Nat, l < r ∧ r < a ∧ (ns.getD a noNd).l = (l : Int) ∧ (ns.getD a noNd).r = (r : Int) ∧ ∀ j, Kid ns a j ↔ j = l ∨ j = r := by
  rcases (K a ha).how with ⟨e, _⟩ | ⟨e, _⟩ | ⟨e, e0, e1, e2, e3, _⟩
  · omega
  · omega
  · have := (K (a - 1) (by omega)).le
    refine ⟨bg bs (a - 1) - 1, a - 1, by omega, by omega, e3, e2, fun j => ?_⟩
    unfold Kid
    omega
set_option maxRecDepth 100000 in
set_option maxHeartbeats 8000000 in
theorem topmost_any (ns : List Nd) (hT : treeB ns = true) (ao : Option Addr) (cap : Nat) (w : World) (A : IsNds w ao ns) (hr : ns.length * 64 ≤ 140737488351232) :
    Calls Tryz.prog 36 #[.slice ao ns.length cap] w fun e w' => ∃ v, e = .returned v ∧ w'.ownsRow w.heap.size 3 1 v (conjL ns).length (intsV ((conjL ns).map (fun i : Nat => (i : Int)))) ∧ Below w.heap.size w w' := by
  obtain ⟨hbs, h0, hb0, K⟩ := tree_bs hT
  obtain ⟨i0, hi, hz0, hz1, hz2⟩ := of_info int_info
  obtain ⟨n, hn⟩ : ∃ n, ns.length = n := ⟨_, rfl⟩
  have hmk := run_make_row' (P := Tryz.prog) 95 4 (.bool false) 1 Tryz.underlying95 bool_info rfl .i64 .i64 n (by omega) (by omega)
  have hst := tp_start ns
  rw [hn] at hst
  have htf : ∀ j, j < n → tpAt ns (j + 1) j = topB ns j := fun j hj => tp_full K h0 hb0 j (by omega)
  have hts := tp_step ns
  rw [hn] at hts
  have hfull := back_full ns
  rw [hn] at hfull
  rw [hn] at hr h0 ⊢
  have hn1 : (n : Int) - 1 = ((n - 1 : Nat) : Int) := by omega
  have R0 := World.rowIs_made w (.bool false) n 4
  have B0 := galloc (Below.refl w.heap.size w) (.cells (madeCells #[.bool false] n) 4)
  have c0 := R0.cell (i := n - 1) (by omega)
  have f0 := R0.frozen (n - 1)
  have R1 := (R0.set (n - 1) (.bool true)).congr (g := fun j => .bool (tpAt ns n j)) (fun j hj => by
    rw [hst]
    by_cases h : j = n - 1
    · rw [if_pos h, decide_eq_true (show j + 1 = n by omega)]
    · rw [if_neg h, decide_eq_false (show ¬ j + 1 = n by omega)])
  have B1 := gset B0 (p := ⟨w.heap.size, n - 1, none⟩) (Nat.le_refl _) (.bool true)
  have hlt1 : ((n - 1 : Nat) : Int) < (n : Int) := by omega
  have hE : (w.alloc (.cells (madeCells #[.bool false] n) 4)).setCell ⟨w.heap.size, n - 1, none⟩ (.bool true) = w.alloc (.cells ((madeCells #[.bool false] n).setIfInBounds (n - 1) (.bool true)) 4) := by simp [go_sem]
  rw [hE] at R1 B1
  go_enter Tryz.func36, Tryz.ntmps36
  go_wp2
  clear hmk c0 f0 R0 B0 hE
  have zV : (w.alloc (.cells ((madeCells #[.bool false] n).setIfInBounds (n - 1) (.bool true)) 4)).heap.size = w.heap.size + 1 := by simp
  generalize w.alloc (.cells ((madeCells #[.bool false] n).setIfInBounds (n - 1) (.bool true)) 4) = V at *
  go_loopw [4, 5] (fun o x wr => ∃ d : Nat, d ≤ n ∧ x = .int .i64 ((n : Int) - 1 - d) ∧ wr.rowIs w.heap.size 4 n (fun j => .bool (tpAt ns (n - d) j)) ∧ wr.ownsRow (w.heap.size + 1) 3 1 o (backL ns d).length (intsV ((backL ns d).map fun i : Nat => (i : Int))) ∧ Below w.heap.size w wr) (fun _ x _ => (intOf x + 1).toNat)
  case atStart => exact ⟨0, Nat.zero_le _, by congr 1; omega, R1, World.ownsRow_nil _ _ _ _, B1⟩
  case round =>
    obtain ⟨d, hd, rfl, R, O, G⟩ := hrel
    obtain ⟨vo, vc, rfl, hvc, _, hvo⟩ := own_form O
    have zG := G.size
    have hbl := back_len ns d
    have zB := R.lt
    by_cases hlt : d < n
    · obtain ⟨a, ha⟩ : ∃ a, n - 1 - d = a := ⟨_, rfl⟩
      have hai : (n : Int) - 1 - (d : Int) = (a : Int) := by omega
      have hnd : n - d = a + 1 := by omega
      have hnd2 : n - (d + 1) = a := by omega
      rw [hai]
      rw [hnd] at R
      have han : (a : Int) < (n : Int) := by omega
      have hback : backL ns (d + 1) = backL ns d ++ (if topB ns a && !decide ((ns.getD a noNd).op = 25) then [a] else []) := by
        show backL ns d ++ _ = _
        rw [hn, ha]
      have x1 := R.cell (i := a) (by omega)
      rw [htf a (by omega)] at x1
      obtain ⟨g, o, rfl, y0, _, _, _, y4, y5⟩ := (A.keep G) a (by omega)
      have fin : ∀ x : Int, x = (a : Int) - 1 → Value.int IntKind.i64 x = Value.int IntKind.i64 ((n : Int) - 1 - ((d + 1 : Nat) : Int)) := fun x hx => by congr 1; omega
      have mea : ((a : Int) - 1 + 1).toNat < ((a : Int) + 1).toNat := by omega
      cases hb : topB ns a
      · rw [hb] at x1
        have R2 := R.congr (g := fun j => .bool (tpAt ns (n - (d + 1)) j)) (fun j hj => by rw [hnd2, hts a j (by omega), hb]; simp)
        rw [hb, Bool.false_and, if_neg (by decide), List.append_nil] at hback
        have HB := show Hid (_ = _) from hback
        clear hback hb htf hts hai ha hnd hnd2 R K hfull hst
        go_wp2
        go_roundw
        case rel => exact ⟨d + 1, by omega, fin _ (by omega), R2, by rw [HB.out]; exact O, G⟩
        case measure => first | (simp [intOf]; done) | (simp [intOf]; omega)
      · rw [hb] at x1
        by_cases h25 : (ns.getD a noNd).op = 25
        · obtain ⟨l, r, hl, hr', el, er, hkid⟩ := kin_and K a (by omega) h25
          rw [h25] at y0
          rw [el] at y4
          rw [er] at y5
          have hlr : ¬ l = r := by omega
          have hrl : ¬ r = l := by omega
          have c1 := R.cell (i := l) (by omega)
          have c2 := R.cell (i := r) (by omega)
          have f1 := R.frozen l
          have f2 := R.frozen r
          have hli : (l : Int) < (n : Int) := by omega
          have hri : (r : Int) < (n : Int) := by omega
          have Rs := fun (p q : Nat) (hp : p = l ∧ q = r ∨ p = r ∧ q = l) => ((R.set p (.bool true)).set q (.bool true)).congr (g := fun j => .bool (tpAt ns (n - (d + 1)) j)) (fun j hj => by
            rw [hnd2, hts a j (by omega), hb, h25]
            by_cases hk : Kid ns a j
            · have := (hkid j).1 hk
              rw [decide_eq_true hk, decide_eq_true rfl]
              simp
              omega
            · have : ¬ (j = l ∨ j = r) := fun e => hk ((hkid j).2 e)
              rw [decide_eq_false hk, if_neg (by omega), if_neg (by omega)]
              simp)
          rw [hb, h25, decide_eq_true rfl, Bool.not_true, Bool.and_false, if_neg (by decide), List.append_nil] at hback
          have HB := show Hid (_ = _) from hback
          have Gs := fun (p q : Nat) => gset (gset G (p := ⟨w.heap.size, p, none⟩) (Nat.le_refl _) (.bool true)) (p := ⟨w.heap.size, q, none⟩) (Nat.le_refl _) (.bool true)
          have Os := fun (p q : Nat) => ownsRow_setCell_below (ownsRow_setCell_below O (a := ⟨w.heap.size, p, none⟩) (Nat.lt_succ_self _) (.bool true)) (a := ⟨w.heap.size, q, none⟩) (Nat.lt_succ_self _) (.bool true)
          clear hback hb htf hts hai ha hnd hnd2 K hfull hst h25 hkid el er
          go_wp2
          go_region_with fail
          all_goals
            go_wp2
            go_roundw
            case rel => first
              | exact ⟨d + 1, by omega, fin _ (by omega), Rs l r (.inl ⟨rfl, rfl⟩), by rw [HB.out]; exact Os l r, Gs l r⟩
              | exact ⟨d + 1, by omega, fin _ (by omega), (Rs l r (.inl ⟨rfl, rfl⟩)).drew, by rw [HB.out]; exact (Os l r).drew, (Gs l r).drew⟩
              | exact ⟨d + 1, by omega, fin _ (by omega), Rs r l (.inr ⟨rfl, rfl⟩), by rw [HB.out]; exact Os r l, Gs r l⟩
              | exact ⟨d + 1, by omega, fin _ (by omega), (Rs r l (.inr ⟨rfl, rfl⟩)).drew, by rw [HB.out]; exact (Os r l).drew, (Gs r l).drew⟩
            case measure => first | (simp [intOf]; done) | (simp [intOf]; omega)
        · have h25b : ((ns.getD a noNd).op == 25) = false := beq_eq_false_iff_ne.2 h25
          have R2 := R.congr (g := fun j => .bool (tpAt ns (n - (d + 1)) j)) (fun j hj => by rw [hnd2, hts a j (by omega), decide_eq_false h25]; simp)
          rw [hb, decide_eq_false h25, Bool.not_false, Bool.and_true, if_pos rfl] at hback
          have HB := show Hid (_ = _) from hback
          clear hback hb htf hts hai ha hnd hnd2 R K hfull hst h25
          generalize (ns.getD a noNd).op = yo at *
          go_wp2_with (at_builtin; refine wpList_append_own _ rfl (.tmp 21) (.tmp 23) 49 rfl (w.heap.size + 1) 3 i0 (.int .i64 0) 1 8 Tryz.underlying49 hi hz0 hz1 hz2 rfl (by decide) _ _ _ rfl (O.alloc _) ⟨wr.heap.size, 0, none⟩ 1 1 [_] rfl rfl (cell_one_new _ _ _) (int_one _) ?c3 ?c4 ?c5 ?_)
          case c3 => unfold maxLen; omega
          case c4 => omega
          case c5 => simp; omega
          intro v' w1 hown' hgrow _
          rw [ints_more] at hown'
          have G9 : Below w.heap.size w w1 := (galloc G _).grown hgrow (by simp; omega) (fun r e => by have := (O.lt _ e).1; omega)
          have R9 := (R2.alloc (.cells #[.int .i64 (a : Int)] 3)).of_block (hgrow.block w.heap.size (by simp; omega) (fun e => by have := (O.lt _ e.symm).1; omega))
          clear hgrow O
          go_wp2
          go_roundw
          case rel => exact ⟨d + 1, by omega, fin _ (by omega), R9, by rw [HB.out, List.map_append, List.length_append]; exact hown', G9⟩
          case measure => first | (simp [intOf]; done) | (simp [intOf]; omega)
    · obtain rfl : d = n := by omega
      have hd1 : (d : Int) - 1 - (d : Int) = -1 := by omega
      rw [hd1]
      have cR := reverse_any ((backL ns d).map fun i : Nat => (i : Int)) (w.heap.size + 1) _ wr (by rw [List.length_map]; exact O)
      rw [← List.map_reverse, hfull, List.length_map] at cR
      have hlen : (backL ns d).length = (conjL ns).length := by rw [← hfull, List.length_reverse]
      rw [hlen] at cR O ⊢
      clear hst htf hts hfull hlen hbl R
      go_wp2_with (go_at_call 60; (with_reducible refine cR.mono ?_); rintro e u ⟨rfl, OR, gR⟩)
      go_ret
      exact ⟨_, rfl, World.ownsRow.mono OR (by omega), G.grown gR zG (fun r e => by have := (O.lt _ e).1; omega)⟩

end Go.Proofs.YtlejhococjlijaaGreatDoor
