/- The law CheckTrees, walked. -/
import Derived.Test.YtbedpgamjaemoaaDoorCtj
namespace Go.Proofs.YtbedpgamjaemoaaDoor
open Go.RowKit Go.BigFrame Go.Proofs.YtbedpgamjaemoaaDoor.Ev
set_option linter.unusedVariables false
set_option linter.unusedSimpArgs false

set_option maxRecDepth 100000 in
set_option maxHeartbeats 4000000 in
theorem sameInts_true (l : List Int) (hl : l.length ≤ 9223372036854775807) (ao bo : Option Addr) (c1 c2 : Nat) (w : World) (A : IsInts w ao l) (B : IsInts w bo l) :
    Calls Tryd.prog 14 #[.slice ao l.length c1, .slice bo l.length c2] w fun e w' => e = .returned (.bool true) ∧ Below w.heap.size w w' := by
  obtain ⟨n, hn⟩ : ∃ n, l.length = n := ⟨_, rfl⟩
  rw [hn] at hl ⊢
  go_enter Tryd.func14, Tryd.ntmps14
  go_wp2
  go_loopw [5] (fun x wr => ∃ k : Nat, k ≤ n ∧ x = .int .i64 k ∧ Below w.heap.size w wr) (fun x _ => n - (intOf x).toNat)
  case atStart => exact ⟨0, Nat.zero_le _, rfl, Below.refl _ _⟩
  case round =>
    obtain ⟨k, hk, rfl, G⟩ := hrel
    by_cases hlt : k < n
    · obtain ⟨g1, o1, rfl, x0⟩ := (A.keep G) k (by omega)
      obtain ⟨g2, o2, rfl, y0⟩ := (B.keep G) k (by omega)
      generalize l.getD k 0 = z at *
      clear A B
      go_wp2
      try go_region_with fail
      all_goals
        try go_wp2
        go_roundw
        case rel => exact ⟨k + 1, by omega, by go_num, by first | exact G.drew | exact G⟩
        case measure => simp [intOf]; omega
    · obtain rfl : k = n := by omega
      go_wp2
      go_ret
      exact ⟨rfl, G⟩

set_option maxRecDepth 100000 in
set_option maxHeartbeats 8000000 in
theorem checkTrees_walk (ao : Option Addr) (cap : Nat) (ns : List Nd) (root : Int) (w : World) (hc : ns.length ≤ cap) (hno : ao = none → ns.length = 0 ∧ cap = 0) (A : IsNds w ao ns) (hr : ns.length * 64 ≤ 140737488351232) (hf : ∀ k, (ns.getD k noNd).fit) (K : KwAt w) :
    Calls Tryd.prog 3 #[.slice ao ns.length cap, .int .i64 root] w fun e w' => e = .returned (.bool true) ∧ Below w.heap.size w w' := by
  have c1 := beyond_any ns ao cap w A hr hf
  have c2 := fun (u : World) (g : Below w.heap.size w u) => twinT_any ns ao cap u hno (A.keep g) hr
  have c3 := fun (u : World) (g : Below w.heap.size w u) => size_any ns root ao cap u (A.keep g) hr hf (K.keep g)
  have c4 := fun (u : World) (g : Below w.heap.size w u) => sub_any ns root ao cap hc u (A.keep g) hr hf (K.keep g)
  have c5 := fun (u : World) (g : Below w.heap.size w u) => conjuncts_any ns ao cap u (A.keep g) hr hf (K.keep g)
  have c6 := fun (u : World) (g : Below w.heap.size w u) => IsTruth_any ns ao cap u (A.keep g) hr
  have d3 := fun (u : World) (g : Below w.heap.size w u) (bo : Option Addr) (cb : Nat) (B : IsNds u bo ns) => refSize_any ns root bo cb u B hr hf (K.keep g)
  have d4 := fun (u : World) (g : Below w.heap.size w u) (bo : Option Addr) (cb : Nat) (B : IsNds u bo ns) => refSub_any ns root bo cb u B hr hf (K.keep g)
  have d5 := fun (u : World) (g : Below w.heap.size w u) (bo : Option Addr) (cb : Nat) (B : IsNds u bo ns) => refConjuncts_any ns bo cb u B hr hf (K.keep g)
  have d6 := fun (u : World) (g : Below w.heap.size w u) (bo : Option Addr) (cb : Nat) (B : IsNds u bo ns) => refIsTruth_any ns bo cb u B hr
  have hl : ns.length ≤ 9223372036854775807 := by omega
  have e1 := fun (u : World) (g : Below w.heap.size w u) (bo : Option Addr) (cb : Nat) (B : IsNds u bo ns) => sameTree_true ns hl ao bo cap cb u (A.keep g) B
  have e2 := fun (h : (subO ns root).length ≤ 9223372036854775807) (u : World) (ao bo : Option Addr) (ca cb : Nat) (A : IsNds u ao (subO ns root)) (B : IsNds u bo (subO ns root)) => sameTree_true (subO ns root) h ao bo ca cb u A B
  have e3 := fun (h : (conjO ns).length ≤ 9223372036854775807) (u : World) (ao bo : Option Addr) (ca cb : Nat) (A : IsInts u ao (conjO ns)) (B : IsInts u bo (conjO ns)) => sameInts_true (conjO ns) h ao bo ca cb u A B
  obtain ⟨n, hn⟩ : ∃ n, ns.length = n := ⟨_, rfl⟩
  rw [hn] at c1 c2 c3 c4 c5 c6 d3 d4 d5 d6 e1 hl hc hno
  rw [hn]
  generalize sizeO ns root = sz at *
  generalize lastT ns = lt at *
  generalize subO ns root = sb at *
  generalize conjO ns = cj at *
  go_enter Tryd.func3, Tryd.ntmps3
  go_wp2_with (first
    | (go_at_call 4; (with_reducible refine c1.mono ?_); rintro e u1 ⟨bb, rfl, g1⟩; cases bb)
    | (go_at_call 5; (with_reducible refine (c2 _ g1).mono ?_); rintro e u2 ⟨v2, rfl, O2, g2⟩; obtain ⟨bo, cb, rfl, _, _, _⟩ := own_form O2; have G2 := gtrans g1 g2; have B2 : IsNds u2 bo ns := nds_of_own (b := u1.heap.size) (c := cb) (by rw [hn]; exact O2))
    | (go_at_call 6; (with_reducible refine (c3 _ G2).mono ?_); rintro e u3 ⟨rfl, g3⟩; have G3 := gtrans G2 g3; have B3 := B2.keep g3)
    | (go_at_call 7; (with_reducible refine (c4 _ G3).mono ?_); rintro e u4 ⟨v4, rfl, O4, g4⟩; obtain ⟨ao4, ca4, rfl, _, hs4, _⟩ := own_form O4; have A4 := nds_of_own O4; have G4 := gtrans G3 g4; have B4 := B3.keep g4)
    | (go_at_call 8; (with_reducible refine (c5 _ G4).mono ?_); rintro e u5 ⟨v5, rfl, O5, g5⟩; obtain ⟨ao5, ca5, rfl, _, hs5, _⟩ := own_form O5; have I5 := ints_own O5; have G5 := gtrans G4 g5; have B5 := B4.keep g5; have A5 := A4.keep g5)
    | (go_at_call 9; (with_reducible refine (c6 _ G5).mono ?_); rintro e u6 ⟨rfl, g6⟩; have G6 := gtrans G5 g6; have B6 := B5.keep g6; have A6 := A5.keep g6; have I6 := I5.keep g6)
    | (go_at_call 10; (with_reducible refine (d4 _ G6 _ _ B6).mono ?_); rintro e u7 ⟨v7, rfl, O7, g7⟩; obtain ⟨ao7, ca7, rfl, _, _, _⟩ := own_form O7; have N7 := nds_of_own O7; have G7 := gtrans G6 g7; have B7 := B6.keep g7; have A7 := A6.keep g7; have I7 := I6.keep g7)
    | (go_at_call 11; (with_reducible refine (d5 _ G7 _ _ B7).mono ?_); rintro e u8 ⟨v8, rfl, O8, g8⟩; obtain ⟨ao8, ca8, rfl, _, _, _⟩ := own_form O8; have J8 := ints_own O8; have G8 := gtrans G7 g8; have B8 := B7.keep g8; have A8 := A7.keep g8; have I8 := I7.keep g8; have N8 := N7.keep g8)
    | (go_at_call 12; (with_reducible refine (d3 _ G8 _ _ B8).mono ?_); rintro e u9 ⟨rfl, g9⟩; have G9 := gtrans G8 g9; have B9 := B8.keep g9; have A9 := A8.keep g9; have I9 := I8.keep g9; have N9 := N8.keep g9; have J9 := J8.keep g9)
    | (go_at_call 13; (with_reducible refine (e2 hs4 _ _ _ _ _ A9 N9).mono ?_); rintro e ua ⟨rfl, ga⟩; have Ga := gtrans G9 ga; have Ba := B9.keep ga; have Ia := I9.keep ga; have Ja := J9.keep ga)
    | (go_at_call 14; (with_reducible refine (e3 hs5 _ _ _ _ _ Ia Ja).mono ?_); rintro e ub ⟨rfl, gb⟩; have Gb := gtrans Ga gb; have Bb := Ba.keep gb)
    | (go_at_call 15; (with_reducible refine (d6 _ Gb _ _ Bb).mono ?_); rintro e uc ⟨rfl, gc⟩; have Gc := gtrans Gb gc; have Bc := Bb.keep gc; cases lt)
    | (go_at_call 13; (with_reducible refine (e1 _ Gc _ _ Bc).mono ?_); rintro e ud ⟨rfl, gd⟩; have Gd := gtrans Gc gd))
  all_goals
    go_ret
    first | exact ⟨rfl, g1⟩ | exact ⟨rfl, Gd⟩

end Go.Proofs.YtbedpgamjaemoaaDoor
