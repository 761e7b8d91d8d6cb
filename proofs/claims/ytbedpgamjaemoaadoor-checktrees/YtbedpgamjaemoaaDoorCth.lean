/- The document's subtrees: what lies below a place, how much, and the subtree. -/
import Derived.Test.YtbedpgamjaemoaaDoorCtg
namespace Go.Proofs.YtbedpgamjaemoaaDoor
open Go.RowKit Go.BigFrame Go.Proofs.YtbedpgamjaemoaaDoor.Ev
set_option linter.unusedVariables false
set_option linter.unusedSimpArgs false

set_option maxRecDepth 100000 in
set_option maxHeartbeats 8000000 in
theorem below_any (ns : List Nd) (hT : treeB ns = true) (root : Int) (ao : Option Addr) (cap : Nat) (w : World) (A : IsNds w ao ns) (hr : ns.length * 64 ≤ 140737488351232) :
    Calls Tryd.prog 24 #[.slice ao ns.length cap, .int .i64 root] w fun e w' => ∃ b, e = .returned (.slice (some ⟨b, 0, none⟩) ns.length ns.length) ∧ w.heap.size ≤ b ∧ w'.rowIs b 4 ns.length (fun j => .bool (inB ns (bsOf ns) root j)) ∧ Below w.heap.size w w' := by
  have cP := parents_any ns hT ao cap w A hr
  obtain ⟨hbs, h0, hb0, K⟩ := tree_bs hT
  have hst := fun i hi => inB_step K root i hi
  have hpk := fun i => parF_kid (ns := ns) (k := ns.length) (j := i)
  have hpl := parF_lo ns ns.length
  obtain ⟨n, hn⟩ : ∃ n, ns.length = n := ⟨_, rfl⟩
  have hmk := run_make_row' (P := Tryd.prog) 37 4 (.bool false) 1 Tryd.underlying37 bool_info rfl .i64 .i64 n (by omega) (by omega)
  rw [hn] at hr h0 cP hst hpk hpl ⊢
  have hkid : ∀ p i, p < n → Kid ns p i → i < p := fun p i hp hk => (kin_kid K (by omega) hk).1
  generalize inB ns (bsOf ns) root = q at *
  have hn1 : (n : Int) - 1 = ((n - 1 : Nat) : Int) := by omega
  clear hbs hb0 K
  go_enter Tryd.func24, Tryd.ntmps24
  go_wp2_with (go_at_call 25; (with_reducible refine cP.mono ?_); rintro e u ⟨bu, rfl, hbu, RU, gu⟩)
  have R0 := World.rowIs_made u (.bool false) n 4
  have RU0 := RU.alloc (.cells (madeCells #[.bool false] n) 4)
  have B0 := galloc gu (.cells (madeCells #[.bool false] n) 4)
  have zu := gu.size
  have lu := RU.lt
  clear hmk cP RU
  generalize u.alloc (.cells (madeCells #[.bool false] n) 4) = V at *
  go_loopw [7] (fun x wr => ∃ d : Nat, d ≤ n ∧ x = .int .i64 ((n : Int) - 1 - d) ∧ wr.rowIs bu 3 n (fun j => .int .i64 (parF ns n j)) ∧ wr.rowIs u.heap.size 4 n (fun j => .bool (decide (n - d ≤ j) && q j)) ∧ Below w.heap.size w wr) (fun x _ => (intOf x + 1).toNat)
  case atStart => exact ⟨0, Nat.zero_le _, by congr 1; omega, RU0, R0.congr (fun j hj => by rw [decide_eq_false (show ¬ n - 0 ≤ j by omega)]; rfl), B0⟩
  case round =>
    obtain ⟨d, hd, rfl, RP, RI, G⟩ := hrel
    by_cases hlt : d < n
    · obtain ⟨a, ha⟩ : ∃ a, n - 1 - d = a := ⟨_, rfl⟩
      have hai : (n : Int) - 1 - (d : Int) = (a : Int) := by omega
      have hnd : n - d = a + 1 := by omega
      have hnd2 : n - (d + 1) = a := by omega
      rw [hai]
      rw [hnd] at RI
      have han : (a : Int) < (n : Int) := by omega
      have hs := hst a (by omega)
      have x1 := RP.cell (i := a) (by omega)
      have x2 := RI.cell (i := a) (by omega)
      have f2 := RI.frozen a
      have fin : ∀ x : Int, x = (a : Int) - 1 → Value.int IntKind.i64 x = Value.int IntKind.i64 ((n : Int) - 1 - ((d + 1 : Nat) : Int)) := fun x hx => by congr 1; omega
      have RN := fun v (hv : q a = v) => (RI.set a (.bool v)).congr (g := fun j => .bool (decide (n - (d + 1) ≤ j) && q j)) (fun j hj => by
        rw [hnd2]
        by_cases h : j = a
        · rw [if_pos h, h, decide_eq_true (Nat.le_refl _), hv]; rfl
        · rw [if_neg h]
          by_cases h2 : a + 1 ≤ j
          · rw [decide_eq_true h2, decide_eq_true (show a ≤ j by omega)]
          · rw [decide_eq_false h2, decide_eq_false (show ¬ a ≤ j by omega)])
      have RQ := fun v : Value => RP.setOther (a := ⟨u.heap.size, a, none⟩) (by dsimp only; omega) v
      have GQ := fun v : Value => gset G (p := ⟨u.heap.size, a, none⟩) zu v
      by_cases hroot : (a : Int) = root
      · subst hroot
        rw [decide_eq_true rfl, Bool.true_or] at hs
        replace RN := RN _ hs
        clear hst hpk hpl hkid hs hai ha hnd hnd2 RI RP
        go_wp2
        go_roundw
        case rel => exact ⟨d + 1, by omega, fin _ (by omega), RQ _, RN, GQ _⟩
        case measure => first | (simp [intOf]; done) | (simp [intOf]; omega)
      · have hrb : ((a : Int) == root) = false := beq_eq_false_iff_ne.2 hroot
        rw [decide_eq_false hroot, Bool.false_or] at hs
        by_cases hp : 0 ≤ parF ns n a
        · obtain ⟨p, e, hpn, hk⟩ := hpk a hp
          have hap := hkid p a hpn hk
          rw [e] at x1
          rw [decide_eq_true hp, Bool.true_and, e, Int.toNat_natCast] at hs
          have x3 := RI.cell (i := p) hpn
          rw [decide_eq_true (show a + 1 ≤ p by omega), Bool.true_and] at x3
          have hpi : (p : Int) < (n : Int) := by omega
          have hpa : ¬ p = a := by omega
          replace RN := RN _ hs
          generalize q p = qp at *
          clear hst hpk hpl hkid hs hai ha hnd hnd2 RI RP hp e hk
          cases qp
          all_goals
            go_wp2
            try go_region_with fail
            all_goals
              try go_wp2
              go_roundw
              case rel => first | exact ⟨d + 1, by omega, fin _ (by omega), RQ _, RN, GQ _⟩ | exact ⟨d + 1, by omega, fin _ (by omega), (RQ _).drew, RN.drew, (GQ _).drew⟩
              case measure => first | (simp [intOf]; done) | (simp [intOf]; omega)
        · have hp1 : parF ns n a = -1 := by have := hpl a; omega
          rw [hp1] at x1
          rw [decide_eq_false hp, Bool.false_and] at hs
          replace RN := RN _ hs
          clear hst hpk hpl hkid hs hai ha hnd hnd2 RI RP hp hp1
          go_wp2
          try go_region_with fail
          all_goals
            try go_wp2
            go_roundw
            case rel => first | exact ⟨d + 1, by omega, fin _ (by omega), RQ _, RN, GQ _⟩ | exact ⟨d + 1, by omega, fin _ (by omega), (RQ _).drew, RN.drew, (GQ _).drew⟩
            case measure => first | (simp [intOf]; done) | (simp [intOf]; omega)
    · obtain rfl : d = n := by omega
      have hd1 : (d : Int) - 1 - (d : Int) = -1 := by omega
      rw [hd1]
      have R9 := RI.congr (g := fun j => .bool (q j)) (fun j hj => by rw [decide_eq_true (show d - d ≤ j by omega), Bool.true_and])
      go_wp2
      go_ret
      exact ⟨_, rfl, zu, R9, G⟩

end Go.Proofs.YtbedpgamjaemoaaDoor
