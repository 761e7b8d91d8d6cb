/- The document's Expr; the law ShowExprs, walked. -/
import Derived.Test.YtpodpahipapbaaaDoorSjh
namespace Go.Proofs.YtpodpahipapbaaaDoor
open Go.RowKit Go.BigFrame Go.Shelf Go.Proofs.YtpodpahipapbaaaDoor.Ev
set_option linter.unusedVariables false
set_option linter.unusedSimpArgs false

theorem sg_len : sgl.length = 19 := rfl
theorem sgAt_of {W : World} (h : ∀ i bs, sgl[i]? = some bs → W.cell? ⟨2, i, none⟩ = some (.string ⟨bs.toArray⟩)) : SgAt W := by
  have hc : ∀ j, j < 19 → W.cell? ⟨2, j, none⟩ = some (.string (sg j)) := fun j hj => by
    have hl : j < sgl.length := by rw [sg_len]; exact hj
    rw [h j sgl[j] (List.getElem?_eq_getElem hl)]
    simp [sg, List.getD, List.getElem?_eq_getElem hl]
  exact ⟨lt_of_cell (hc 0 (by omega)), hc⟩
set_option maxRecDepth 100000 in
set_option maxHeartbeats 8000000 in
theorem refExpr_any (ns : List Nd) (ao : Option Addr) (cap : Nat) (w : World) (A : IsNds w ao ns) (hr : ns.length * 64 ≤ 140737488351232) (hf : ∀ k, (ns.getD k noNd).fit) (K : KwAt w) (P : PwAt w) (O : OsAt w) (C : CaAt w) :
    Calls Tryd.prog 7 #[.slice ao ns.length cap] w fun e w' => e = .returned (.tuple #[.string (shO ns).1, .int .i64 (shO ns).2]) ∧ Below w.heap.size w w' := by
  have c1 := refTree_any ns ao cap w K A hr hf
  obtain ⟨z, hz⟩ : ∃ z, shO ns = z := ⟨_, rfl⟩
  rw [hz]
  unfold shO at hz
  have HU := show Hid (_ = z) from hz
  clear hz
  obtain ⟨n, hn⟩ : ∃ n, ns.length = n := ⟨_, rfl⟩
  cases hb : treeB ns
  · rw [hb] at c1
    obtain rfl : (eS, 50) = z := by have := HU.out; rw [hb, if_pos rfl] at this; exact this
    rw [hn] at c1 ⊢
    clear HU
    go_enter Tryd.func7, Tryd.ntmps7
    go_wp2_with (go_at_call 12; (with_reducible refine c1.mono ?_); rintro e u ⟨rfl, g⟩)
    go_ret2
    exact ⟨rfl, g⟩
  rw [hb] at c1
  obtain ⟨bs, hbs, h0⟩ : ∃ bs, begsO ns [] = some bs ∧ 0 < ns.length := by
    unfold treeB at hb
    cases hbe : begsO ns [] with
    | none => rw [hbe] at hb; cases hb
    | some bs => rw [hbe] at hb; exact ⟨bs, rfl, (of_decide_eq_true hb).1⟩
  by_cases h4 : 400 < ns.length
  · obtain rfl : (eS, 51) = z := by have := HU.out; rw [hb, if_neg (by decide), if_pos h4] at this; exact this
    rw [hn] at c1 h4 ⊢
    have q4 : (400 : Int) < (n : Int) := by omega
    clear HU
    go_enter Tryd.func7, Tryd.ntmps7
    go_wp2_with (go_at_call 12; (with_reducible refine c1.mono ?_); rintro e u ⟨rfl, g⟩)
    go_ret2
    exact ⟨rfl, g⟩
  have hq : wrO (nodP ns ns.length (ns.length - 1)) = z := by have := HU.out; rw [hb, if_neg (by decide), if_neg h4] at this; exact this
  have c2 := fun (u : World) (g : Below w.heap.size w u) => whole_any ns bs hbs h0 hf (by omega) ao cap u (A.keep g) (P.keep g) (O.keep g) (C.keep g)
  have hok := nod_ok ns bs (ws_of hbs) hf (by omega) (ns.length - 1) (by omega)
  generalize nodP ns ns.length (ns.length - 1) = p at *
  rw [hn] at c1 c2 h4 ⊢
  unfold tdA at c2
  have q4 : ¬ (400 : Int) < (n : Int) := by omega
  have d4 : decide ((400 : Int) < (n : Int)) = false := decide_eq_false q4
  have HQ : Hid ((if 400 < p.ts.length then (eS, 51) else if 32 < p.d then (eS, 41) else (jT p.ts, 0)) = z) := hq
  have hl := hok.len
  clear HU hq hbs h0 hb A hf K P O C hr hok
  generalize jT p.ts = tx at *
  obtain ⟨m, hm⟩ : ∃ m, p.ts.length = m := ⟨_, rfl⟩
  rw [hm] at c2 HQ hl
  generalize p.d = d at *
  clear hm
  by_cases h5 : 400 < m
  · obtain rfl : (eS, 51) = z := by have := HQ.out; rw [if_pos h5] at this; exact this
    have q5 : (400 : Int) < (m : Int) := by omega
    clear HQ
    go_enter Tryd.func7, Tryd.ntmps7
    go_wp2_with (first
      | (go_at_call 12; (with_reducible refine c1.mono ?_); rintro e u1 ⟨rfl, g1⟩)
      | (go_at_call 13; (with_reducible refine (c2 _ g1).mono ?_); rintro e u2 ⟨rfl, g2⟩; have G2 := gtrans g1 g2))
    go_ret2
    exact ⟨rfl, galloc G2 _⟩
  have d5 : decide ((400 : Int) < (m : Int)) = false := decide_eq_false (by omega)
  by_cases h6 : 32 < d
  · obtain rfl : (eS, 41) = z := by have := HQ.out; rw [if_neg h5, if_pos h6] at this; exact this
    clear HQ
    go_enter Tryd.func7, Tryd.ntmps7
    go_wp2_with (first
      | (go_at_call 12; (with_reducible refine c1.mono ?_); rintro e u1 ⟨rfl, g1⟩)
      | (go_at_call 13; (with_reducible refine (c2 _ g1).mono ?_); rintro e u2 ⟨rfl, g2⟩; have G2 := gtrans g1 g2))
    go_ret2
    exact ⟨rfl, galloc G2 _⟩
  have d6 : decide (32 < d) = false := decide_eq_false h6
  obtain rfl : (tx, 0) = z := by have := HQ.out; rw [if_neg h5, if_neg h6] at this; exact this
  clear HQ
  go_enter Tryd.func7, Tryd.ntmps7
  go_wp2_with (first
    | (go_at_call 12; (with_reducible refine c1.mono ?_); rintro e u1 ⟨rfl, g1⟩)
    | (go_at_call 13; (with_reducible refine (c2 _ g1).mono ?_); rintro e u2 ⟨rfl, g2⟩; have G2 := gtrans g1 g2))
  go_ret2
  exact ⟨rfl, galloc G2 _⟩

set_option maxRecDepth 100000 in
set_option maxHeartbeats 8000000 in
theorem showExprs_walk (ao : Option Addr) (cap : Nat) (ns : List Nd) (w : World) (hc : ns.length ≤ cap) (hno : ao = none → ns.length = 0 ∧ cap = 0) (A : IsNds w ao ns) (hr : ns.length * 64 ≤ 140737488351232) (hf : ∀ k, (ns.getD k noNd).fit) (K : KwAt w) (Sg : SgAt w) (P : PwAt w) (O : OsAt w) (C : CaAt w) :
    Calls Tryd.prog 3 #[.slice ao ns.length cap] w fun e w' => e = .returned (.bool true) ∧ Below w.heap.size w w' := by
  have c1 := beyond_any ns ao cap w A hr hf
  have c2 := fun (u : World) (g : Below w.heap.size w u) => twinTree_any ns ao cap u (A.keep g) hr
  have c3 := fun (u : World) (g : Below w.heap.size w u) => shExpr_any ns ao cap u (A.keep g) hr hf (K.keep g) (Sg.keep g) (P.keep g)
  have hl : ns.length ≤ 9223372036854775807 := by omega
  obtain ⟨n, hn⟩ : ∃ n, ns.length = n := ⟨_, rfl⟩
  have c4 := fun (u : World) (g : Below w.heap.size w u) (bo : Option Addr) (cb : Nat) (B : IsNds u bo ns) => refExpr_any ns bo cb u B hr hf (K.keep g) (P.keep g) (O.keep g) (C.keep g)
  have c5 := fun (u : World) (g : Below w.heap.size w u) (bo : Option Addr) (cb : Nat) (B : IsNds u bo ns) => sameTree_true ns hl ao bo cap cb u (A.keep g) B
  rw [hn] at c1 c2 c3 c4 c5 ⊢
  generalize (shO ns).1 = tx at c3 c4
  generalize (shO ns).2 = er at c3 c4
  go_enter Tryd.func3, Tryd.ntmps3
  go_wp2_with (first
    | (go_at_call 4; (with_reducible refine c1.mono ?_); rintro e u1 ⟨bb, rfl, g1⟩; cases bb)
    | (go_at_call 5; (with_reducible refine (c2 _ g1).mono ?_); rintro e u2 ⟨v2, rfl, O2, g2⟩; obtain ⟨bo, cb, rfl, _, _, _⟩ := own_form O2; have G2 := gtrans g1 g2; have B2 : IsNds u2 bo ns := nds_of_own (b := u1.heap.size) (c := cb) (by rw [hn]; exact O2))
    | (go_at_call 6; (with_reducible refine (c3 _ G2).mono ?_); rintro e u3 ⟨rfl, g3⟩; have G3 := gtrans G2 g3)
    | (go_at_call 7; (with_reducible refine (c4 _ G3 _ _ (B2.keep g3)).mono ?_); rintro e u4 ⟨rfl, g4⟩; have G4 := gtrans G3 g4)
    | (go_at_call 8; (with_reducible refine (c5 _ G4 _ _ ((B2.keep g3).keep g4)).mono ?_); rintro e u5 ⟨rfl, g5⟩; have G5 := gtrans G4 g5))
  all_goals
    go_ret
    first | exact ⟨rfl, g1⟩ | exact ⟨rfl, G5⟩

end Go.Proofs.YtpodpahipapbaaaDoor
