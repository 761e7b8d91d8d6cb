/- That the program bears the texts of the library functions that are called: the numbers by their names, each text held against the library's by the kernel. And what goes with it: 3 texts in one. -/
import Derived.Test.YtglagbedgjkdbaaGreatDoorJa27
import Derived.Test.YtglagbedgjkdbaaGreatDoorRows
import Derived.Shelf.Strings.OnBuilder
import Derived.Shelf.Slices.Reverse
import Derived.Sort.OwnSortedInts
namespace Go.Proofs.YtglagbedgjkdbaaGreatDoor.Rv
open Go.Shelf
set_option linter.unusedVariables false

def rnF : Nat → Nat
  | 0 => 0
  | 1 => 1
  | 2 => 2
  | 112 => 65
  | 164 => 145
  | 197 => 148
  | 239 => 149
  | 260 => 153
  | 264 => 143
  | 274 => 154
  | 275 => 155
  | 347 => 157
  | 348 => 158
  | 349 => 159
  | 350 => 160
  | 351 => 161
  | 352 => 162
  | 353 => 163
  | 354 => 164
  | 355 => 165
  | 356 => 166
  | 357 => 167
  | 358 => 168
  | 359 => 169
  | 360 => 170
  | 361 => 171
  | 366 => 174
  | 367 => 188
  | _ => 0
def rnT : Nat → Nat
  | 0 => 0
  | 1 => 1
  | 2 => 2
  | 3 => 3
  | 4 => 4
  | 5 => 5
  | 6 => 6
  | 7 => 7
  | 8 => 8
  | 9 => 9
  | 10 => 10
  | 11 => 11
  | 12 => 12
  | 13 => 13
  | 14 => 14
  | 15 => 15
  | 16 => 16
  | 17 => 17
  | 18 => 18
  | 19 => 19
  | 20 => 20
  | 21 => 21
  | 22 => 173
  | 28 => 46
  | 31 => 66
  | 35 => 120
  | 40 => 156
  | 41 => 178
  | 43 => 89
  | 46 => 168
  | 49 => 179
  | 51 => 192
  | 53 => 74
  | 80 => 197
  | 81 => 203
  | 103 => 138
  | 104 => 134
  | 105 => 175
  | 106 => 176
  | 107 => 177
  | 111 => 124
  | 114 => 106
  | 119 => 188
  | 127 => 207
  | 131 => 111
  | 137 => 189
  | 138 => 190
  | 139 => 191
  | 148 => 169
  | 149 => 171
  | 156 => 180
  | 157 => 181
  | 158 => 182
  | 159 => 183
  | 160 => 184
  | 161 => 185
  | 162 => 186
  | 163 => 187
  | 164 => 213
  | 205 => 193
  | 206 => 194
  | 207 => 195
  | 208 => 196
  | 238 => 198
  | 239 => 199
  | 240 => 200
  | 241 => 201
  | 242 => 202
  | 243 => 204
  | 244 => 205
  | 245 => 206
  | 246 => 208
  | 247 => 209
  | 248 => 210
  | 249 => 211
  | _ => 0
def rnG : Nat → Nat
  | 3 => 8
  | 4 => 9
  | 11 => 5
  | 12 => 6
  | 13 => 7
  | _ => 0
def rn : Ren := ⟨rnF, rnT, rnG⟩
set_option maxRecDepth 100000 in
theorem lays_n112 : Lays.n112 Tryz.prog rn where
  mixed := by kernel_rfl
  f112 := Tryz.func65.trans (congrArg some (by kernel_rfl))
  t0 := by kernel_rfl
  a0 := fun w => by kernel_rfl
  z0 := fun w => by kernel_rfl
  v0 := fun w => by kernel_rfl
  t3 := by kernel_rfl
  a3 := fun w => by kernel_rfl
  z3 := fun w => by kernel_rfl
  v3 := fun w => by kernel_rfl
  t4 := by kernel_rfl
  a4 := fun w => by kernel_rfl
  z4 := fun w => by kernel_rfl
  v4 := fun w => by kernel_rfl
  t28 := by kernel_rfl
  a28 := fun w => by kernel_rfl
  z28 := fun w => by kernel_rfl
  v28 := fun w => by kernel_rfl

end Go.Proofs.YtglagbedgjkdbaaGreatDoor.Rv
namespace Go.Proofs.YtglagbedgjkdbaaGreatDoor
open Go.RowKit Go.BigFrame Go.Proofs.YtglagbedgjkdbaaGreatDoor.Ev
set_option linter.unusedVariables false
set_option linter.unusedSimpArgs false

theorem reverse_any (zs : List Int) (base : Nat) (v : Value) (w : World) (O : w.ownsRow base 3 1 v zs.length (intsV zs)) :
    Calls Tryz.prog 65 #[v] w fun e w' => e = .returned (.tuple #[]) ∧ w'.ownsRow base 3 1 v zs.length (intsV zs.reverse) ∧ w.grownBy w' v.ownBlock := by
  rcases O.2 with ⟨rfl, h0⟩ | ⟨g, cap, cur, rfl, hb, hh, hc, hm, hs, ht⟩
  · have hz : zs = [] := List.length_eq_zero_iff.1 h0
    subst hz
    refine (Any.slices_Reverse_int_empty Rv.lays_n112 none 0 w).mono ?_
    rintro e w' ⟨rfl, rfl⟩
    exact ⟨rfl, O, World.grownBy.refl _ _⟩
  · have hH : Sort.Holds (Value.int .i64) w g 0 zs.toArray := by
      intro j hj
      have hj' : j < zs.length := by simpa using hj
      refine ⟨?_, by rw [Nat.zero_add]; exact own_free O _⟩
      rw [Nat.zero_add, World.ownsRow.cellAt O j (by omega)]
      simp [intsV, hj']
    refine (Any.slices_Reverse_int Rv.lays_n112 g 0 cap zs w hH (by unfold maxLen at hm; omega)).mono ?_
    rintro e w' ⟨rfl, n, rfl⟩
    have h1 := ownsRow_sortedI (n := n) (os := #[]) (ss := zs) (ts := zs.reverse) (by simp) hb hh hc hm hs
    have h2 := grownBy_sortedI (w := w) (g := g) (n := n) (os := #[]) zs.reverse.toArray
    rw [Sort.grow_empty] at h1 h2
    exact ⟨rfl, h1, h2⟩
theorem bool_info : (Tryz.prog.info? 4).map (fun i => (i.zero, i.size, i.bytes)) = some (some (.bool false), 1, 1) := by kernel_rfl
/-- The operands of an AND. -/
theorem kin_and {ns : List Nd} {bs : List Int} (K : ∀ i, i < ns.length → Kin ns bs i) (a : Nat) (ha : a < ns.length) (h : (ns.getD a noNd).op = 25) : ∃ l r : Nat, l < r ∧ r < a ∧ (ns.getD a noNd).l = (l : Int) ∧ (ns.getD a noNd).r = (r : Int) ∧ ∀ j, Kid ns a j ↔ j = l ∨ j = r := by
  rcases (K a ha).how with ⟨e, _⟩ | ⟨e, _⟩ | ⟨e, e0, e1, e2, e3, _⟩
  · omega
  · omega
  · have := (K (a - 1) (by omega)).le
    refine ⟨bg bs (a - 1) - 1, a - 1, by omega, by omega, e3, e2, fun j => ?_⟩
    unfold Kid
    omega
set_option maxRecDepth 100000 in
set_option maxHeartbeats 8000000 in
theorem topmost_any (ns : List Nd) (hT : treeB ns = true) (ao : Option Addr) (cap : Nat) (w : World) (A : IsNds w ao ns) (hr : ns.length * 64 ≤ 140737488351232) :
    Calls Tryz.prog 38 #[.slice ao ns.length cap] w fun e w' => ∃ v, e = .returned v ∧ w'.ownsRow w.heap.size 3 1 v (conjL ns).length (intsV ((conjL ns).map (fun i : Nat => (i : Int)))) ∧ Below w.heap.size w w' := by
  obtain ⟨hbs, h0, hb0, K⟩ := tree_bs hT
  obtain ⟨i0, hi, hz0, hz1, hz2⟩ := of_info int_info
  obtain ⟨n, hn⟩ : ∃ n, ns.length = n := ⟨_, rfl⟩
  have hmk := run_make_row' (P := Tryz.prog) 119 4 (.bool false) 1 Tryz.underlying119 bool_info rfl .i64 .i64 n (by omega) (by omega)
  have hst := tp_start ns
  rw [hn] at hst
  have htf : ∀ j, j < n → tpAt ns (j + 1) j = topB ns j := fun j hj => tp_full K h0 hb0 j (by omega)
  have hts := tp_step ns
  rw [hn] at hts
  have hfull := back_full ns
  rw [hn] at hfull
  rw [hn] at hr h0 ⊢
  have hn1 : (n : Int) - 1 = ((n - 1 : Nat) : Int) := by omega
  have R0 := World.rowIs_made w (.bool false) n 4
  have B0 := galloc (Below.refl w.heap.size w) (.cells (madeCells #[.bool false] n) 4)
  have c0 := R0.cell (i := n - 1) (by omega)
  have f0 := R0.frozen (n - 1)
  have R1 := (R0.set (n - 1) (.bool true)).congr (g := fun j => .bool (tpAt ns n j)) (fun j hj => by
    rw [hst]
    by_cases h : j = n - 1
    · rw [if_pos h, decide_eq_true (show j + 1 = n by omega)]
    · rw [if_neg h, decide_eq_false (show ¬ j + 1 = n by omega)])
  have B1 := gset B0 (p := ⟨w.heap.size, n - 1, none⟩) (Nat.le_refl _) (.bool true)
  have hlt1 : ((n - 1 : Nat) : Int) < (n : Int) := by omega
  have hE : (w.alloc (.cells (madeCells #[.bool false] n) 4)).setCell ⟨w.heap.size, n - 1, none⟩ (.bool true) = w.alloc (.cells ((madeCells #[.bool false] n).setIfInBounds (n - 1) (.bool true)) 4) := by simp [go_sem]
  rw [hE] at R1 B1
  go_enter Tryz.func38, Tryz.ntmps38
  go_wp2
  clear hmk c0 f0 R0 B0 hE
  have zV : (w.alloc (.cells ((madeCells #[.bool false] n).setIfInBounds (n - 1) (.bool true)) 4)).heap.size = w.heap.size + 1 := by simp
  generalize w.alloc (.cells ((madeCells #[.bool false] n).setIfInBounds (n - 1) (.bool true)) 4) = V at *
  go_loopw [4, 5] (fun o x wr => ∃ d : Nat, d ≤ n ∧ x = .int .i64 ((n : Int) - 1 - d) ∧ wr.rowIs w.heap.size 4 n (fun j => .bool (tpAt ns (n - d) j)) ∧ wr.ownsRow (w.heap.size + 1) 3 1 o (backL ns d).length (intsV ((backL ns d).map fun i : Nat => (i : Int))) ∧ Below w.heap.size w wr) (fun _ x _ => (intOf x + 1).toNat)
  case atStart => exact ⟨0, Nat.zero_le _, by congr 1; omega, R1, World.ownsRow_nil _ _ _ _, B1⟩
  case round =>
    obtain ⟨d, hd, rfl, R, O, G⟩ := hrel
    obtain ⟨vo, vc, rfl, hvc, _, hvo⟩ := own_form O
    have zG := G.size
    have hbl := back_len ns d
    have zB := R.lt
    by_cases hlt : d < n
    · obtain ⟨a, ha⟩ : ∃ a, n - 1 - d = a := ⟨_, rfl⟩
      have hai : (n : Int) - 1 - (d : Int) = (a : Int) := by omega
      have hnd : n - d = a + 1 := by omega
      have hnd2 : n - (d + 1) = a := by omega
      rw [hai]
      rw [hnd] at R
      have han : (a : Int) < (n : Int) := by omega
      have hback : backL ns (d + 1) = backL ns d ++ (if topB ns a && !decide ((ns.getD a noNd).op = 25) then [a] else []) := by
        show backL ns d ++ _ = _
        rw [hn, ha]
      have x1 := R.cell (i := a) (by omega)
      rw [htf a (by omega)] at x1
      obtain ⟨g, o, rfl, y0, _, _, _, y4, y5⟩ := (A.keep G) a (by omega)
      have fin : ∀ x : Int, x = (a : Int) - 1 → Value.int IntKind.i64 x = Value.int IntKind.i64 ((n : Int) - 1 - ((d + 1 : Nat) : Int)) := fun x hx => by congr 1; omega
      have mea : ((a : Int) - 1 + 1).toNat < ((a : Int) + 1).toNat := by omega
      cases hb : topB ns a
      · rw [hb] at x1
        have R2 := R.congr (g := fun j => .bool (tpAt ns (n - (d + 1)) j)) (fun j hj => by rw [hnd2, hts a j (by omega), hb]; simp)
        rw [hb, Bool.false_and, if_neg (by decide), List.append_nil] at hback
        have HB := show Hid (_ = _) from hback
        clear hback hb htf hts hai ha hnd hnd2 R K hfull hst
        go_wp2
        go_roundw
        case rel => exact ⟨d + 1, by omega, fin _ (by omega), R2, by rw [HB.out]; exact O, G⟩
        case measure => first | (simp [intOf]; done) | (simp [intOf]; omega)
      · rw [hb] at x1
        by_cases h25 : (ns.getD a noNd).op = 25
        · obtain ⟨l, r, hl, hr', el, er, hkid⟩ := kin_and K a (by omega) h25
          rw [h25] at y0
          rw [el] at y4
          rw [er] at y5
          have hlr : ¬ l = r := by omega
          have hrl : ¬ r = l := by omega
          have c1 := R.cell (i := l) (by omega)
          have c2 := R.cell (i := r) (by omega)
          have f1 := R.frozen l
          have f2 := R.frozen r
          have hli : (l : Int) < (n : Int) := by omega
          have hri : (r : Int) < (n : Int) := by omega
          have Rs := fun (p q : Nat) (hp : p = l ∧ q = r ∨ p = r ∧ q = l) => ((R.set p (.bool true)).set q (.bool true)).congr (g := fun j => .bool (tpAt ns (n - (d + 1)) j)) (fun j hj => by
            rw [hnd2, hts a j (by omega), hb, h25]
            by_cases hk : Kid ns a j
            · have := (hkid j).1 hk
              rw [decide_eq_true hk, decide_eq_true rfl]
              simp
              omega
            · have : ¬ (j = l ∨ j = r) := fun e => hk ((hkid j).2 e)
              rw [decide_eq_false hk, if_neg (by omega), if_neg (by omega)]
              simp)
          rw [hb, h25, decide_eq_true rfl, Bool.not_true, Bool.and_false, if_neg (by decide), List.append_nil] at hback
          have HB := show Hid (_ = _) from hback
          have Gs := fun (p q : Nat) => gset (gset G (p := ⟨w.heap.size, p, none⟩) (Nat.le_refl _) (.bool true)) (p := ⟨w.heap.size, q, none⟩) (Nat.le_refl _) (.bool true)
          have Os := fun (p q : Nat) => ownsRow_setCell_below (ownsRow_setCell_below O (a := ⟨w.heap.size, p, none⟩) (Nat.lt_succ_self _) (.bool true)) (a := ⟨w.heap.size, q, none⟩) (Nat.lt_succ_self _) (.bool true)
          clear hback hb htf hts hai ha hnd hnd2 K hfull hst h25 hkid el er
          go_wp2
          go_region_with fail
          all_goals
            go_wp2
            go_roundw
            case rel => first
              | exact ⟨d + 1, by omega, fin _ (by omega), Rs l r (.inl ⟨rfl, rfl⟩), by rw [HB.out]; exact Os l r, Gs l r⟩
              | exact ⟨d + 1, by omega, fin _ (by omega), (Rs l r (.inl ⟨rfl, rfl⟩)).drew, by rw [HB.out]; exact (Os l r).drew, (Gs l r).drew⟩
              | exact ⟨d + 1, by omega, fin _ (by omega), Rs r l (.inr ⟨rfl, rfl⟩), by rw [HB.out]; exact Os r l, Gs r l⟩
              | exact ⟨d + 1, by omega, fin _ (by omega), (Rs r l (.inr ⟨rfl, rfl⟩)).drew, by rw [HB.out]; exact (Os r l).drew, (Gs r l).drew⟩
            case measure => first | (simp [intOf]; done) | (simp [intOf]; omega)
        · have h25b : ((ns.getD a noNd).op == 25) = false := beq_eq_false_iff_ne.2 h25
          have R2 := R.congr (g := fun j => .bool (tpAt ns (n - (d + 1)) j)) (fun j hj => by rw [hnd2, hts a j (by omega), decide_eq_false h25]; simp)
          rw [hb, decide_eq_false h25, Bool.not_false, Bool.and_true, if_pos rfl] at hback
          have HB := show Hid (_ = _) from hback
          clear hback hb htf hts hai ha hnd hnd2 R K hfull hst h25
          generalize (ns.getD a noNd).op = yo at *
          go_wp2_with (at_builtin; refine wpList_append_own _ rfl (.tmp 21) (.tmp 23) 46 rfl (w.heap.size + 1) 3 i0 (.int .i64 0) 1 8 Tryz.underlying46 hi hz0 hz1 hz2 rfl (by decide) _ _ _ rfl (O.alloc _) ⟨wr.heap.size, 0, none⟩ 1 1 [_] rfl rfl (cell_one_new _ _ _) (int_one _) ?c3 ?c4 ?c5 ?_)
          case c3 => unfold maxLen; omega
          case c4 => omega
          case c5 => simp; omega
          intro v' w1 hown' hgrow _
          rw [ints_more] at hown'
          have G9 : Below w.heap.size w w1 := (galloc G _).grown hgrow (by simp; omega) (fun r e => by have := (O.lt _ e).1; omega)
          have R9 := (R2.alloc (.cells #[.int .i64 (a : Int)] 3)).of_block (hgrow.block w.heap.size (by simp; omega) (fun e => by have := (O.lt _ e.symm).1; omega))
          clear hgrow O
          go_wp2
          go_roundw
          case rel => exact ⟨d + 1, by omega, fin _ (by omega), R9, by rw [HB.out, List.map_append, List.length_append]; exact hown', G9⟩
          case measure => first | (simp [intOf]; done) | (simp [intOf]; omega)
    · obtain rfl : d = n := by omega
      have hd1 : (d : Int) - 1 - (d : Int) = -1 := by omega
      rw [hd1]
      have cR := reverse_any ((backL ns d).map fun i : Nat => (i : Int)) (w.heap.size + 1) _ wr (by rw [List.length_map]; exact O)
      rw [← List.map_reverse, hfull, List.length_map] at cR
      have hlen : (backL ns d).length = (conjL ns).length := by rw [← hfull, List.length_reverse]
      rw [hlen] at cR O ⊢
      clear hst htf hts hfull hlen hbl R
      go_wp2_with (go_at_call 65; (with_reducible refine cR.mono ?_); rintro e u ⟨rfl, OR, gR⟩)
      go_ret
      exact ⟨_, rfl, World.ownsRow.mono OR (by omega), G.grown gR zG (fun r e => by have := (O.lt _ e).1; omega)⟩

end Go.Proofs.YtglagbedgjkdbaaGreatDoor
namespace Go.Proofs.YtglagbedgjkdbaaGreatDoor
open Go.RowKit Go.BigFrame Go.Proofs.YtglagbedgjkdbaaGreatDoor.Ev
set_option linter.unusedVariables false
set_option linter.unusedSimpArgs false

set_option maxRecDepth 100000 in
set_option maxHeartbeats 4000000 in
theorem refOne_any (o : Int) (w : World) : Calls Tryz.prog 129 #[.int .i64 o] w fun e w' => e = .returned (.bool (decide (o = 12 ∨ o = 13))) ∧ w = w' := by
  obtain ⟨v, hv⟩ : ∃ v, decide (o = 12 ∨ o = 13) = v := ⟨_, rfl⟩
  rw [hv]
  by_cases h1 : o = 12
  · subst h1
    obtain rfl : true = v := hv
    go_enter Tryz.func129, Tryz.ntmps129
    go_wp2
    go_ret
    exact ⟨rfl, rfl⟩
  · have b1 : (o == 12) = false := beq_eq_false_iff_ne.2 h1
    by_cases h2 : o = 13
    · subst h2
      obtain rfl : true = v := hv
      go_enter Tryz.func129, Tryz.ntmps129
      go_wp2
      go_ret
      exact ⟨rfl, rfl⟩
    · have b2 : (o == 13) = false := beq_eq_false_iff_ne.2 h2
      obtain rfl : false = v := by rw [← hv, decide_eq_false (by omega)]
      clear hv
      go_enter Tryz.func129, Tryz.ntmps129
      go_wp2
      go_ret
      exact ⟨rfl, rfl⟩
set_option maxRecDepth 100000 in
set_option maxHeartbeats 4000000 in
theorem refTwo_any (o : Int) (w : World) : Calls Tryz.prog 130 #[.int .i64 o] w fun e w' => e = .returned (.bool (decide (14 ≤ o ∧ o ≤ 26))) ∧ w = w' := by
  obtain ⟨v, hv⟩ : ∃ v, decide (14 ≤ o ∧ o ≤ 26) = v := ⟨_, rfl⟩
  rw [hv]
  by_cases h1 : 14 ≤ o
  · by_cases h2 : o ≤ 26
    · obtain rfl : true = v := by rw [← hv, decide_eq_true ⟨h1, h2⟩]
      clear hv
      go_enter Tryz.func130, Tryz.ntmps130
      go_wp2
      go_ret
      exact ⟨rfl, rfl⟩
    · have d2 : decide (o ≤ 26) = false := decide_eq_false h2
      obtain rfl : false = v := by rw [← hv, decide_eq_false (by omega)]
      clear hv
      go_enter Tryz.func130, Tryz.ntmps130
      go_wp2
      go_ret
      exact ⟨rfl, rfl⟩
  · have d1 : decide (14 ≤ o) = false := decide_eq_false h1
    obtain rfl : false = v := by rw [← hv, decide_eq_false (by omega)]
    clear hv
    go_enter Tryz.func130, Tryz.ntmps130
    go_wp2
    go_ret
    exact ⟨rfl, rfl⟩

theorem ne_toList {s : ByteArray} (h : s ≠ eS) : (s.toList == ([] : List UInt8)) = false ∧ (s == (⟨#[]⟩ : ByteArray)) = false ∧ s.toList ≠ [] := by
  have h0 : eS.toList = [] := by rw [ByteArray.toList_eq]
  have h1 : s.toList ≠ [] := fun e => h (bytes_inj.1 (by rw [e, h0]))
  exact ⟨beq_eq_false_iff_ne.2 h1, by rw [beq_toListBytes, h0]; exact beq_eq_false_iff_ne.2 h1, h1⟩
set_option maxRecDepth 100000 in
set_option maxHeartbeats 8000000 in
theorem refLeaf_any (n : Nd) (hf : n.fit) (w : World) (K : KwAt w) :
    Calls Tryz.prog 128 #[.agg (ndA n)] w fun e w' => e = .returned (.bool (leafN n)) ∧ Below w.heap.size w w' := by
  have B0 := galloc (Below.refl w.heap.size w) (.cells (ndA n) 64)
  have N0 := NlAt.new w n
  obtain ⟨v, hv⟩ : ∃ v, leafN n = v := ⟨_, rfl⟩
  rw [hv]
  have HV : Hid (leafN n = v) := hv
  clear hv
  go_enter Tryz.func128, Tryz.ntmps128
  go_upto_region 1 with fail
  generalize hV : w.alloc (.cells (ndA n) 64) = V at *
  obtain ⟨a0, a1, a2, a3, a4, a5⟩ := N0.at
  obtain ⟨yo, yn, yv, yx, yl, yr⟩ := n
  dsimp only at *
  have cV := refIsName_any yv V (K.keep B0)
  have cX := refIsName_any yx V (K.keep B0)
  clear hV N0
  by_cases hl : yl ≠ -1
  · have bl : (yl == -1) = false := beq_eq_false_iff_ne.2 hl
    obtain rfl : false = v := by rw [← HV.out]; unfold leafN; simp [hl]
    clear HV
    go_wp2
    go_ret
    exact ⟨rfl, B0⟩
  replace hl : yl = -1 := Classical.not_not.1 hl
  by_cases hr : yr ≠ -1
  · have br : (yr == -1) = false := beq_eq_false_iff_ne.2 hr
    obtain rfl : false = v := by rw [← HV.out]; unfold leafN; simp [hr]
    clear HV
    subst hl
    go_wp2
    go_ret
    exact ⟨rfl, B0⟩
  replace hr : yr = -1 := Classical.not_not.1 hr
  subst hl
  subst hr
  by_cases h1 : yo = 1
  · subst h1
    by_cases hn : 0 ≤ yn
    · by_cases hv : yv = eS
      · subst hv
        by_cases hx : yx = eS
        · subst hx
          obtain rfl : true = v := by rw [← HV.out]; unfold leafN; simp [hn]
          clear HV
          go_wp2
          go_ret
          exact ⟨rfl, B0⟩
        · obtain ⟨q1, q2, q3⟩ := ne_toList hx
          obtain rfl : false = v := by rw [← HV.out]; unfold leafN; simp [hx]
          clear HV
          go_wp2
          go_ret
          exact ⟨rfl, B0⟩
      · obtain ⟨q1, q2, q3⟩ := ne_toList hv
        obtain rfl : false = v := by rw [← HV.out]; unfold leafN; simp [hv]
        clear HV
        go_wp2
        go_ret
        exact ⟨rfl, B0⟩
    · have dn : decide (0 ≤ yn) = false := decide_eq_false hn
      obtain rfl : false = v := by rw [← HV.out]; unfold leafN; simp [hn]
      clear HV
      go_wp2
      go_ret
      exact ⟨rfl, B0⟩
  by_cases h2 : yo = 2
  · subst h2
    by_cases hn : yn = 0
    · subst hn
      by_cases hv : yv = eS
      · subst hv
        by_cases hx : yx = eS
        · subst hx
          obtain rfl : true = v := by rw [← HV.out]; unfold leafN; simp
          clear HV
          go_wp2
          go_ret
          exact ⟨rfl, B0⟩
        · obtain ⟨q1, q2, q3⟩ := ne_toList hx
          obtain rfl : false = v := by rw [← HV.out]; unfold leafN; simp [hx]
          clear HV
          go_wp2
          go_ret
          exact ⟨rfl, B0⟩
      · obtain ⟨q1, q2, q3⟩ := ne_toList hv
        obtain rfl : false = v := by rw [← HV.out]; unfold leafN; simp [hv]
        clear HV
        go_wp2
        go_ret
        exact ⟨rfl, B0⟩
    · have bn : (yn == 0) = false := beq_eq_false_iff_ne.2 hn
      obtain rfl : false = v := by rw [← HV.out]; unfold leafN; simp [hn]
      clear HV
      go_wp2
      go_ret
      exact ⟨rfl, B0⟩
  by_cases h3 : yo = 3
  · subst h3
    by_cases hn : yn = 0
    · subst hn
      by_cases hv : yv = eS
      · subst hv
        by_cases hx : yx = eS
        · subst hx
          obtain rfl : true = v := by rw [← HV.out]; unfold leafN; simp
          clear HV
          go_wp2
          go_ret
          exact ⟨rfl, B0⟩
        · obtain ⟨q1, q2, q3⟩ := ne_toList hx
          obtain rfl : false = v := by rw [← HV.out]; unfold leafN; simp [hx]
          clear HV
          go_wp2
          go_ret
          exact ⟨rfl, B0⟩
      · obtain ⟨q1, q2, q3⟩ := ne_toList hv
        obtain rfl : false = v := by rw [← HV.out]; unfold leafN; simp [hv]
        clear HV
        go_wp2
        go_ret
        exact ⟨rfl, B0⟩
    · have bn : (yn == 0) = false := beq_eq_false_iff_ne.2 hn
      obtain rfl : false = v := by rw [← HV.out]; unfold leafN; simp [hn]
      clear HV
      go_wp2
      go_ret
      exact ⟨rfl, B0⟩
  by_cases h5 : yo = 5
  · subst h5
    by_cases hn : yn = 0
    · subst hn
      cases hv : nameB yv
      · rw [hv] at cV
        obtain rfl : false = v := by rw [← HV.out]; unfold leafN; simp [hv]
        clear HV
        go_wp2_with (first
          | (go_at_call 147; (with_reducible refine cV.mono ?_); rintro e u ⟨rfl, rfl⟩)
          | (go_at_call 147; (with_reducible refine cX.mono ?_); rintro e u ⟨rfl, rfl⟩))
        go_ret
        exact ⟨rfl, B0⟩
      · rw [hv] at cV
        by_cases hx : yx = eS
        · subst hx
          obtain rfl : true = v := by rw [← HV.out]; unfold leafN; simp [hv]
          clear HV
          go_wp2_with (first
            | (go_at_call 147; (with_reducible refine cV.mono ?_); rintro e u ⟨rfl, rfl⟩)
            | (go_at_call 147; (with_reducible refine cX.mono ?_); rintro e u ⟨rfl, rfl⟩))
          go_ret
          exact ⟨rfl, B0⟩
        · obtain ⟨q1, q2, q3⟩ := ne_toList hx
          obtain rfl : false = v := by rw [← HV.out]; unfold leafN; simp [hx]
          clear HV
          go_wp2_with (first
            | (go_at_call 147; (with_reducible refine cV.mono ?_); rintro e u ⟨rfl, rfl⟩)
            | (go_at_call 147; (with_reducible refine cX.mono ?_); rintro e u ⟨rfl, rfl⟩))
          go_ret
          exact ⟨rfl, B0⟩
    · have bn : (yn == 0) = false := beq_eq_false_iff_ne.2 hn
      obtain rfl : false = v := by rw [← HV.out]; unfold leafN; simp [hn]
      clear HV
      go_wp2
      go_ret
      exact ⟨rfl, B0⟩
  by_cases hq : yo = 4 ∨ yo = 6 ∨ yo = 7 ∨ yo = 8 ∨ yo = 9 ∨ yo = 10 ∨ yo = 11
  · by_cases hn : yn = 0
    · subst hn
      cases hv : nameB yv
      · rw [hv] at cV
        rcases hq with rfl | rfl | rfl | rfl | rfl | rfl | rfl
        all_goals
          obtain rfl : false = v := by rw [← HV.out]; unfold leafN; simp [hv]
          clear HV
          go_wp2_with (first
            | (go_at_call 147; (with_reducible refine cV.mono ?_); rintro e u ⟨rfl, rfl⟩)
            | (go_at_call 147; (with_reducible refine cX.mono ?_); rintro e u ⟨rfl, rfl⟩))
          go_ret
          exact ⟨rfl, B0⟩
      · rw [hv] at cV
        cases hx : nameB yx
        · rw [hx] at cX
          rcases hq with rfl | rfl | rfl | rfl | rfl | rfl | rfl
          all_goals
            obtain rfl : false = v := by rw [← HV.out]; unfold leafN; simp [hx]
            clear HV
            go_wp2_with (first
              | (go_at_call 147; (with_reducible refine cV.mono ?_); rintro e u ⟨rfl, rfl⟩)
              | (go_at_call 147; (with_reducible refine cX.mono ?_); rintro e u ⟨rfl, rfl⟩))
            go_ret
            exact ⟨rfl, B0⟩
        · rw [hx] at cX
          rcases hq with rfl | rfl | rfl | rfl | rfl | rfl | rfl
          all_goals
            obtain rfl : true = v := by rw [← HV.out]; unfold leafN; simp [hv, hx]
            clear HV
            go_wp2_with (first
              | (go_at_call 147; (with_reducible refine cV.mono ?_); rintro e u ⟨rfl, rfl⟩)
              | (go_at_call 147; (with_reducible refine cX.mono ?_); rintro e u ⟨rfl, rfl⟩))
            go_ret
            exact ⟨rfl, B0⟩
    · have bn : (yn == 0) = false := beq_eq_false_iff_ne.2 hn
      rcases hq with rfl | rfl | rfl | rfl | rfl | rfl | rfl
      all_goals
        obtain rfl : false = v := by rw [← HV.out]; unfold leafN; simp [hn]
        clear HV
        go_wp2
        go_ret
        exact ⟨rfl, B0⟩
  have b1 : (yo == 1) = false := beq_eq_false_iff_ne.2 (by omega)
  have b2 : (yo == 2) = false := beq_eq_false_iff_ne.2 (by omega)
  have b3 : (yo == 3) = false := beq_eq_false_iff_ne.2 (by omega)
  have b4 : (yo == 4) = false := beq_eq_false_iff_ne.2 (by omega)
  have b5 : (yo == 5) = false := beq_eq_false_iff_ne.2 (by omega)
  have b6 : (yo == 6) = false := beq_eq_false_iff_ne.2 (by omega)
  have b7 : (yo == 7) = false := beq_eq_false_iff_ne.2 (by omega)
  have b8 : (yo == 8) = false := beq_eq_false_iff_ne.2 (by omega)
  have b9 : (yo == 9) = false := beq_eq_false_iff_ne.2 (by omega)
  have b10 : (yo == 10) = false := beq_eq_false_iff_ne.2 (by omega)
  have b11 : (yo == 11) = false := beq_eq_false_iff_ne.2 (by omega)
  obtain rfl : false = v := by rw [← HV.out]; unfold leafN; rw [decide_eq_false]; intro h; dsimp only at h; omega
  clear HV
  go_wp2
  go_ret
  exact ⟨rfl, B0⟩

end Go.Proofs.YtglagbedgjkdbaaGreatDoor
