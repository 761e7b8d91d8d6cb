/- The document's Conjuncts. -/
import Derived.Test.YtbedpgamjaemoaaDoorCti
namespace Go.Proofs.YtbedpgamjaemoaaDoor
open Go.RowKit Go.BigFrame Go.Proofs.YtbedpgamjaemoaaDoor.Ev
set_option linter.unusedVariables false
set_option linter.unusedSimpArgs false

/-- The conjuncts' roots among the first k places. -/
def conjK (ns : List Nd) (k : Nat) : List Nat := (List.range k).filter fun i => topB ns i && !decide ((ns.getD i noNd).op = 25)
theorem conjK_step (ns : List Nd) (k : Nat) : conjK ns (k + 1) = conjK ns k ++ (if topB ns k && !decide ((ns.getD k noNd).op = 25) then [k] else []) := by
  unfold conjK
  rw [List.range_succ, List.filter_append]
  simp [List.filter_cons]
theorem conjK_len (ns : List Nd) (k : Nat) : (conjK ns k).length ≤ k := by
  unfold conjK
  have := List.length_filter_le (fun i => topB ns i && !decide ((ns.getD i noNd).op = 25)) (List.range k)
  simpa using this
set_option maxRecDepth 100000 in
set_option maxHeartbeats 8000000 in
theorem refConjuncts_any (ns : List Nd) (ao : Option Addr) (cap : Nat) (w : World) (A : IsNds w ao ns) (hr : ns.length * 64 ≤ 140737488351232) (hf : ∀ k, (ns.getD k noNd).fit) (Kw : KwAt w) :
    Calls Tryd.prog 11 #[.slice ao ns.length cap] w fun e w' => ∃ v, e = .returned v ∧ w'.ownsRow w.heap.size 3 1 v (conjO ns).length (intsV (conjO ns)) ∧ Below w.heap.size w w' := by
  have c1 := refTree_any ns ao cap w Kw A hr hf
  obtain ⟨i0, hi, hz0, hz1, hz2⟩ := of_info int_info
  unfold conjO
  cases hT : treeB ns
  · rw [hT] at c1
    rw [if_neg (by decide)]
    go_enter Tryd.func11, Tryd.ntmps11
    go_wp2_with (go_at_call 23; (with_reducible refine c1.mono ?_); rintro e u ⟨rfl, g⟩)
    go_ret
    exact ⟨_, rfl, World.ownsRow_nil _ _ _ _, g⟩
  rw [hT] at c1
  rw [if_pos rfl, List.length_map, show conjL ns = conjK ns ns.length from rfl]
  have cP := fun (u : World) (g : Below w.heap.size w u) => parents_any ns hT ao cap u (A.keep g) hr
  obtain ⟨hbs, h0, hb0, K⟩ := tree_bs hT
  have hst := fun i hi => topB_step K i hi
  have hpk := fun i => parF_kid (ns := ns) (k := ns.length) (j := i)
  have hpl := parF_lo ns ns.length
  obtain ⟨n, hn⟩ : ∃ n, ns.length = n := ⟨_, rfl⟩
  have hmk := run_make_row' (P := Tryd.prog) 37 4 (.bool false) 1 Tryd.underlying37 bool_info rfl .i64 .i64 n (by omega) (by omega)
  rw [hn] at hr h0 cP c1 hst hpk hpl
  rw [hn]
  have hkid : ∀ p i, p < n → Kid ns p i → i < p := fun p i hp hk => (kin_kid K (by omega) hk).1
  have hcs := conjK_step ns
  obtain ⟨q, hqq⟩ : ∃ q, topB ns = q := ⟨_, rfl⟩
  rw [hqq] at hst hcs
  have hn1 : (n : Int) - 1 = ((n - 1 : Nat) : Int) := by omega
  clear hbs hb0 K hqq
  go_enter Tryd.func11, Tryd.ntmps11
  go_wp2_with (first
    | (go_at_call 23; (with_reducible refine c1.mono ?_); rintro e u ⟨rfl, g⟩)
    | (go_at_call 25; (with_reducible refine (cP _ g).mono ?_); rintro e u2 ⟨bu, rfl, hbu, RU, gu⟩))
  have R0 := World.rowIs_made u2 (.bool false) n 4
  have RU0 := RU.alloc (.cells (madeCells #[.bool false] n) 4)
  have B0 := galloc (gtrans g gu) (.cells (madeCells #[.bool false] n) 4)
  have zu := (gtrans g gu).size
  have lu := RU.lt
  clear hmk cP c1 RU
  generalize u2.alloc (.cells (madeCells #[.bool false] n) 4) = V at *
  go_loopw [6] (fun x wr => ∃ d : Nat, d ≤ n ∧ x = .int .i64 ((n : Int) - 1 - d) ∧ wr.rowIs bu 3 n (fun j => .int .i64 (parF ns n j)) ∧ wr.rowIs u2.heap.size 4 n (fun j => .bool (decide (n - d ≤ j) && q j)) ∧ Below w.heap.size w wr) (fun x _ => (intOf x + 1).toNat)
  case atStart => exact ⟨0, Nat.zero_le _, by congr 1; omega, RU0, R0.congr (fun j hj => by rw [decide_eq_false (show ¬ n - 0 ≤ j by omega)]; rfl), B0⟩
  case round =>
    obtain ⟨d, hd, rfl, RP, RI, G⟩ := hrel
    by_cases hlt : d < n
    · obtain ⟨a, ha⟩ : ∃ a, n - 1 - d = a := ⟨_, rfl⟩
      have hai : (n : Int) - 1 - (d : Int) = (a : Int) := by omega
      have hnd : n - d = a + 1 := by omega
      have hnd2 : n - (d + 1) = a := by omega
      rw [hai]
      rw [hnd] at RI
      have han : (a : Int) < (n : Int) := by omega
      have hs := hst a (by omega)
      have x1 := RP.cell (i := a) (by omega)
      have x2 := RI.cell (i := a) (by omega)
      have f2 := RI.frozen a
      have fin : ∀ x : Int, x = (a : Int) - 1 → Value.int IntKind.i64 x = Value.int IntKind.i64 ((n : Int) - 1 - ((d + 1 : Nat) : Int)) := fun x hx => by congr 1; omega
      have RN := fun v (hv : q a = v) => (RI.set a (.bool v)).congr (g := fun j => .bool (decide (n - (d + 1) ≤ j) && q j)) (fun j hj => by
        rw [hnd2]
        by_cases h : j = a
        · rw [if_pos h, h, decide_eq_true (Nat.le_refl _), hv]; rfl
        · rw [if_neg h]
          by_cases h2 : a + 1 ≤ j
          · rw [decide_eq_true h2, decide_eq_true (show a ≤ j by omega)]
          · rw [decide_eq_false h2, decide_eq_false (show ¬ a ≤ j by omega)])
      have RQ := fun v : Value => RP.setOther (a := ⟨u2.heap.size, a, none⟩) (by dsimp only; omega) v
      have GQ := fun v : Value => gset G (p := ⟨u2.heap.size, a, none⟩) zu v
      by_cases hp : 0 ≤ parF ns n a
      · obtain ⟨p, e, hpn, hk⟩ := hpk a hp
        have hap := hkid p a hpn hk
        rw [e] at x1
        rw [decide_eq_false (show ¬ parF ns n a < 0 by omega), Bool.false_or, e, Int.toNat_natCast] at hs
        have x3 := RI.cell (i := p) hpn
        rw [decide_eq_true (show a + 1 ≤ p by omega), Bool.true_and] at x3
        obtain ⟨g', o', rfl, y0, _⟩ := (A.keep G) p (by omega)
        have hpi : (p : Int) < (n : Int) := by omega
        have hpa : ¬ p = a := by omega
        have hp0 : decide ((p : Int) < 0) = false := decide_eq_false (by omega)
        replace RN := RN _ hs
        generalize q p = qp at *
        generalize (ns.getD p noNd).op = yo at *
        clear hst hpk hpl hkid hs hai ha hnd hnd2 RI RP hp e hk hcs
        cases qp
        · rw [Bool.false_and] at RN
          go_wp2
          try go_region_with fail
          all_goals
            try go_wp2
            go_roundw
            case rel => first | exact ⟨d + 1, by omega, fin _ (by omega), RQ _, RN, GQ _⟩ | exact ⟨d + 1, by omega, fin _ (by omega), (RQ _).drew, RN.drew, (GQ _).drew⟩
            case measure => first | (simp [intOf]; done) | (simp [intOf]; omega)
        · rw [Bool.true_and] at RN
          by_cases h25 : yo = 25
          · subst h25
            rw [decide_eq_true rfl] at RN
            go_wp2
            try go_region_with fail
            all_goals
              try go_wp2
              go_roundw
              case rel => first | exact ⟨d + 1, by omega, fin _ (by omega), RQ _, RN, GQ _⟩ | exact ⟨d + 1, by omega, fin _ (by omega), (RQ _).drew, RN.drew, (GQ _).drew⟩
              case measure => first | (simp [intOf]; done) | (simp [intOf]; omega)
          · have b25 : (yo == 25) = false := beq_eq_false_iff_ne.2 h25
            rw [decide_eq_false h25] at RN
            go_wp2
            try go_region_with fail
            all_goals
              try go_wp2
              go_roundw
              case rel => first | exact ⟨d + 1, by omega, fin _ (by omega), RQ _, RN, GQ _⟩ | exact ⟨d + 1, by omega, fin _ (by omega), (RQ _).drew, RN.drew, (GQ _).drew⟩
              case measure => first | (simp [intOf]; done) | (simp [intOf]; omega)
      · have hp1 : parF ns n a = -1 := by have := hpl a; omega
        rw [hp1] at x1
        rw [decide_eq_true (show parF ns n a < 0 by omega), Bool.true_or] at hs
        replace RN := RN _ hs
        clear hst hpk hpl hkid hs hai ha hnd hnd2 RI RP hp hp1 hcs
        go_wp2
        try go_region_with fail
        all_goals
          try go_wp2
          go_roundw
          case rel => first | exact ⟨d + 1, by omega, fin _ (by omega), RQ _, RN, GQ _⟩ | exact ⟨d + 1, by omega, fin _ (by omega), (RQ _).drew, RN.drew, (GQ _).drew⟩
          case measure => first | (simp [intOf]; done) | (simp [intOf]; omega)
    · obtain rfl : d = n := by omega
      have hd1 : (d : Int) - 1 - (d : Int) = -1 := by omega
      rw [hd1]
      have R9 := RI.congr (g := fun j => .bool (q j)) (fun j hj => by rw [decide_eq_true (show d - d ≤ j by omega), Bool.true_and])
      have lI := R9.lt
      clear hst hpk hpl hkid RI RP R0 RU0 B0
      go_wp2
      generalize hX : wr = X at *
      clear hX
      go_loopw [7, 8] (fun o x wr => ∃ k : Nat, k ≤ d ∧ x = .int .i64 k ∧ wr.ownsRow X.heap.size 3 1 o (conjK ns k).length (intsV ((conjK ns k).map fun i : Nat => (i : Int))) ∧ Below X.heap.size X wr) (fun _ x _ => d - (intOf x).toNat)
      case atStart => exact ⟨0, Nat.zero_le _, rfl, World.ownsRow_nil _ _ _ _, Below.refl _ _⟩
      case round =>
        obtain ⟨k, hk, rfl, O, G2⟩ := hrel
        obtain ⟨vo, vc, rfl, hvc, _, _⟩ := own_form O
        have R := R9.of_block (G2.block _ lI)
        have zG := G2.size
        have hkl := conjK_len ns k
        by_cases hlt2 : k < d
        · have x1 := R.cell (i := k) hlt2
          have hki : (k : Int) < (d : Int) := by omega
          obtain ⟨g', o', rfl, y0, _⟩ := ((A.keep G).keep G2) k (by omega)
          have hc := hcs k
          generalize q k = qk at *
          generalize (ns.getD k noNd).op = yo at *
          clear hcs
          cases qk
          · rw [Bool.false_and, if_neg (by decide), List.append_nil] at hc
            have HC := show Hid (_ = _) from hc
            clear hc
            go_wp2
            go_roundw
            case rel => exact ⟨k + 1, by omega, by go_num, by rw [HC.out]; exact O, G2⟩
            case measure => simp [intOf]; omega
          · rw [Bool.true_and] at hc
            by_cases h25 : yo = 25
            · subst h25
              rw [decide_eq_true rfl, Bool.not_true, if_neg (by decide), List.append_nil] at hc
              have HC := show Hid (_ = _) from hc
              clear hc
              go_wp2
              go_roundw
              case rel => exact ⟨k + 1, by omega, by go_num, by rw [HC.out]; exact O, G2⟩
              case measure => simp [intOf]; omega
            · have b25 : (yo == 25) = false := beq_eq_false_iff_ne.2 h25
              have b26 : (yo != 25) = true := by simp [bne, b25]
              rw [decide_eq_false h25, Bool.not_false, if_pos rfl] at hc
              have HC := show Hid (_ = _) from hc
              clear hc
              go_wp2_with (at_builtin; refine wpList_append_own _ rfl (.tmp 71) (.tmp 73) 27 rfl X.heap.size 3 i0 (.int .i64 0) 1 8 Tryd.underlying27 hi hz0 hz1 hz2 rfl (by decide) _ _ _ rfl (O.alloc _) ⟨wr.heap.size, 0, none⟩ 1 1 [_] rfl rfl (cell_one_new _ _ _) (int_one _) ?c3 ?c4 ?c5 ?_)
              case c3 => unfold maxLen; omega
              case c4 => omega
              case c5 => first | omega | (simp; omega)
              intro v' w1 hown' hgrow _
              rw [ints_more] at hown'
              have G9 : Below X.heap.size X w1 := (galloc G2 _).grown hgrow (by first | omega | (simp; omega)) (fun r e => (O.lt _ e).1)
              clear hgrow O
              go_wp2
              go_roundw
              case rel => exact ⟨k + 1, by omega, by go_num, by rw [HC.out, List.map_append, List.length_append]; exact hown', G9⟩
              case measure => simp [intOf]; omega
        · obtain rfl : k = d := by omega
          go_wp2
          go_ret
          exact ⟨_, rfl, World.ownsRow.mono O (Nat.le_trans zu (Nat.le_of_lt lI)), gtrans G G2⟩

end Go.Proofs.YtbedpgamjaemoaaDoor
