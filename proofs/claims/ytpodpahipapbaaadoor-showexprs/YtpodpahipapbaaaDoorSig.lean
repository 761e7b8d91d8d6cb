/- node and operand: the canonical tokens of a node, in memory. -/
import Derived.Test.YtpodpahipapbaaaDoorSif
namespace Go.Proofs.YtpodpahipapbaaaDoor
open Go.RowKit Go.BigFrame Go.Proofs.YtpodpahipapbaaaDoor.Ev
set_option linter.unusedVariables false
set_option linter.unusedSimpArgs false

/-- The end of a call whose result is a piece, wherever it is laid. -/
theorem piece_endG {w u : World} {q : Pce} {vo : Option Addr} {vc b rb : Nat} (hr : w.heap.size ≤ rb) (hb : rb < b) (R4 : Two u rb (.slice none 0 0) (.int .i64 0) 36) (O4 : u.ownsRow b 57 4 (.slice vo q.ts.length vc) q.ts.length (toksV q.ts)) (G4 : Below w.heap.size w u) :
    PcA ((u.setCell ⟨rb, 0, none⟩ (.slice vo q.ts.length vc)).setCell ⟨rb, 1, none⟩ (.int .i64 q.d)) w.heap.size (.agg #[.slice vo q.ts.length vc, .int .i64 q.d]) q ∧ Below w.heap.size w ((u.setCell ⟨rb, 0, none⟩ (.slice vo q.ts.length vc)).setCell ⟨rb, 1, none⟩ (.int .i64 q.d)) ∧
    Two ((u.setCell ⟨rb, 0, none⟩ (.slice vo q.ts.length vc)).setCell ⟨rb, 1, none⟩ (.int .i64 q.d)) rb (.slice vo q.ts.length vc) (.int .i64 q.d) 36 :=
  ⟨⟨_, rfl, own_mono (own_of_block O4 (fun g' _ hg' _ => (Below.heap_setCell _ _ _ g' (by show g' ≠ rb; omega)).trans (Below.heap_setCell _ _ _ g' (by show g' ≠ rb; omega)))) (by omega)⟩,
    gset (gset G4 (p := ⟨rb, 0, none⟩) hr _) (p := ⟨rb, 1, none⟩) hr _, R4.set _ _⟩
/-- What a call of node at that place comes to. -/
def NodeAt (ns : List Nd) (f i : Nat) : Prop := ∀ (ao : Option Addr) (cap : Nat) (w : World), IsNds w ao ns → Calls Tryd.prog 16 #[.slice ao ns.length cap, .int .i64 (i : Int)] w fun e w' => ∃ v, e = .returned v ∧ PcA w' w.heap.size v (nodP ns f i) ∧ Below w.heap.size w w'
set_option maxRecDepth 100000 in
set_option maxHeartbeats 8000000 in
theorem operand_any (ns : List Nd) (f i : Nat) (hi : i < ns.length) (hl : ns.length ≤ 100000000) (hs : Fits (nodP ns f i) 1000000) (need : Int) (hN : NodeAt ns f i) (ao : Option Addr) (cap : Nat) (w : World) (A : IsNds w ao ns) :
    Calls Tryd.prog 26 #[.slice ao ns.length cap, .int .i64 (i : Int), .int .i64 need] w fun e w' => ∃ v, e = .returned v ∧ PcA w' w.heap.size v (oprP (nodP ns f) ns i need) ∧ Below w.heap.size w w' := by
  have cN := fun (u : World) (g : Below w.heap.size w u) => hN ao cap u (A.keep g)
  have cL := level_any (ns.getD i noNd).op
  have B0 := galloc (Below.refl w.heap.size w) (.cells #[.slice none 0 0, .int .i64 0] 36)
  have R0 := Two.new w (.slice none 0 0) (.int .i64 0) 36
  obtain ⟨q, hq⟩ : ∃ q, oprP (nodP ns f) ns i need = q := ⟨_, rfl⟩
  have HQ : Hid (oprP (nodP ns f) ns i need = q) := hq
  have HU : Hid ((if need ≤ lvl (ns.getD i noNd).op then nodP ns f i else openP [fixP [3], nodP ns f i, fixP [4]]) = q) := hq
  clear hq
  obtain ⟨g, o, rfl, x0, x1, x2, x3, x4, x5⟩ := A.keep B0 i hi
  have hii : (i : Int) < (ns.length : Int) := by omega
  obtain ⟨n, hn⟩ : ∃ n, ns.length = n := ⟨_, rfl⟩
  rw [hn] at cN hii hl ⊢
  generalize ns.getD i noNd = y at *
  go_enter Tryd.func26, Tryd.ntmps26
  by_cases h : need ≤ lvl y.op
  · have hq : nodP ns f i = q := by have := HU.out; rw [if_pos h] at this; exact this
    rw [hq] at cN
    go_wp2_with (first
      | (go_at_call 24; (with_reducible refine (cL _).mono ?_); rintro e uL ⟨rfl, rfl⟩)
      | (go_at_call 16; (with_reducible refine (cN _ B0).mono ?_); rintro e u4 ⟨v4, rfl, ⟨t4, rfl, O4⟩, g4⟩; obtain ⟨vo, vc, rfl⟩ := own_shape O4; have R4 := R0.keep g4; have r0 := R4.at0; have r1 := R4.at1; have f0 := R4.free 0; have f1 := R4.free 1))
    obtain ⟨e1, e2, e3⟩ := piece_endG (w := w) (q := q) (Nat.le_refl _) (by simp) R4 O4 (gtrans B0 g4)
    have r5 := e3.at0
    have r6 := e3.at1
    refine bodyPost_ret (v := .agg #[.slice vo q.ts.length vc, .int .i64 q.d]) (by simp [results, Tryd.results26, go_sem, r5, r6]) rfl ⟨_, rfl, by rw [HQ.out]; exact e1, e2⟩
  · have hq : openP [fixP [3], nodP ns f i, fixP [4]] = q := by have := HU.out; rw [if_neg h] at this; exact this
    have dh : decide (need ≤ lvl y.op) = false := decide_eq_false h
    have h' : lvl y.op < need := by omega
    obtain ⟨s1, s2, s3⟩ := hs
    obtain ⟨e1, e2⟩ := glue3 (fixP [3]) (nodP ns f i) (fixP [4])
    have hD : 0 ≤ (glueP [fixP [3], nodP ns f i, fixP [4]]).d ∧ (glueP [fixP [3], nodP ns f i, fixP [4]]).d ≤ 1000000000 := by
      rw [e2]
      exact ⟨maxI_ge (maxI_ge (maxI_ge (Int.le_refl 0))), maxI_le (maxI_le (maxI_le (by omega) (by rw [(fix_d [3]).1]; omega)) (by omega)) (by rw [(fix_d [4]).1]; omega)⟩
    have cK1 : ∀ (u : World) (g : Nat), IsKs u (some ⟨g, 0, none⟩) [3] → Calls Tryd.prog 27 #[.slice (some ⟨g, 0, none⟩) 1 1] u fun e w' => ∃ v, e = .returned v ∧ PcA w' u.heap.size v (fixP [3]) ∧ Below u.heap.size u w' := fun u g A => fixed_any [3] (by simp) _ _ u A
    have cK2 : ∀ (u : World) (g : Nat), IsKs u (some ⟨g, 0, none⟩) [4] → Calls Tryd.prog 27 #[.slice (some ⟨g, 0, none⟩) 1 1] u fun e w' => ∃ v, e = .returned v ∧ PcA w' u.heap.size v (fixP [4]) ∧ Below u.heap.size u w' := fun u g A => fixed_any [4] (by simp) _ _ u A
    have cG : ∀ (u : World) (g : Nat), IsPcs u (some ⟨g, 0, none⟩) [fixP [3], nodP ns f i, fixP [4]] → Calls Tryd.prog 28 #[.slice (some ⟨g, 0, none⟩) 3 3] u fun e w' => ∃ v, e = .returned v ∧ PcA w' u.heap.size v q ∧ Below u.heap.size u w' := fun u g A => by rw [← hq]; exact opened_any [fixP [3], nodP ns f i, fixP [4]] (by simp) (small3 _ _ _ (by rw [(fix_d [3]).2, (fix_d [4]).2]; simp; omega)) hD _ _ u A
    clear hq e1 e2 hD
    go_wp2_with (first
      | (go_at_call 24; (with_reducible refine (cL _).mono ?_); rintro e uL ⟨rfl, rfl⟩)
      | (go_at_call 27; (with_reducible refine (cK1 _ _ ?ks).mono ?_); (case ks => (exact ks1e (by simp) 3)); rintro e u1 ⟨v1, rfl, P1, g1⟩; obtain ⟨t1, k1, rfl, T1, n1⟩ := pc_toks P1; have G1 := gtrans (galloc B0 _) g1)
      | (go_at_call 16; (with_reducible refine (cN _ G1).mono ?_); rintro e u2 ⟨v2, rfl, P2, g2⟩; obtain ⟨t2, k2, rfl, T2, n2⟩ := pc_toks P2; have G2 := gtrans G1 g2)
      | (go_at_call 27; (with_reducible refine (cK2 _ _ ?ks).mono ?_); (case ks => (exact ks1e rfl 4)); rintro e u3 ⟨v3, rfl, P3, g3'⟩; obtain ⟨t3, k3, rfl, T3, n3⟩ := pc_toks P3; have g3 := gtrans (galloc (Below.refl _ u2) _) g3'; have G3 := gtrans G2 g3)
      | (go_at_call 28; (with_reducible refine (cG _ _ (pcs3 (T1.keep (gtrans g2 g3)) (T2.keep g3) T3 n1 n2 n3)).mono ?_); rintro e u4 ⟨v4, rfl, ⟨t4, rfl, O4⟩, g4⟩; obtain ⟨vo, vc, rfl⟩ := own_shape O4; have G34 := gtrans (galloc (Below.refl _ u3) _) g4; have G4 := gtrans G3 G34; have R4 := R0.keep (gtrans (gtrans (gtrans (gtrans (galloc (Below.refl _ _) _) g1) g2) g3) G34); have r0 := R4.at0; have r1 := R4.at1; have f0 := R4.free 0; have f1 := R4.free 1))
    have z3 : w.heap.size + 1 ≤ u3.heap.size := by
      have h1 := R0.lt
      have h2 := (gtrans (gtrans (gtrans (galloc (Below.refl _ _) _) g1) g2) g3).size
      simp at h2
      omega
    obtain ⟨e1, e2, e3⟩ := piece_endG (w := w) (q := q) (Nat.le_refl _) (by simp; omega) R4 O4 G4
    have r5 := e3.at0
    have r6 := e3.at1
    refine bodyPost_ret (v := .agg #[.slice vo q.ts.length vc, .int .i64 q.d]) (by simp [results, Tryd.results26, go_sem, r5, r6]) rfl ⟨_, rfl, by rw [HQ.out]; exact e1, e2⟩

end Go.Proofs.YtpodpahipapbaaaDoor
