/- leaf: the tokens of a node without operands. -/
import Derived.Test.YtpodpahipapbaaaDoorSid
namespace Go.Proofs.YtpodpahipapbaaaDoor
open Go.RowKit Go.BigFrame Go.Proofs.YtpodpahipapbaaaDoor.Ev
set_option linter.unusedVariables false
set_option linter.unusedSimpArgs false

theorem ks2 (w : World) (k j : Int) : IsKs (w.alloc (.cells #[.int .i64 k, .int .i64 j] 55)) (some ⟨w.heap.size, 0, none⟩) [k, j] := by
  have X : (w.alloc (.cells #[.int .i64 k, .int .i64 j] 55)).heap[w.heap.size]? = some (.cells #[.int .i64 k, .int .i64 j] 55 (0, 0)) := by
    show (w.heap.push _)[w.heap.size]? = _
    simp
  intro i hi
  have hi1 : i < 2 := hi
  rcases (show i = 0 ∨ i = 1 by omega) with rfl | rfl
  · exact ⟨_, 0, rfl, cell_of_row _ _ 0 _ _ _ X⟩
  · exact ⟨_, 0, rfl, cell_of_row _ _ 1 _ _ _ X⟩
theorem ks1e {w : World} {g : Nat} (hg : g = w.heap.size) (k : Int) : IsKs (w.alloc (.cells #[.int .i64 k] 55)) (some ⟨g, 0, none⟩) [k] := by subst hg; exact ks1 w k
theorem ks2e {w : World} {g : Nat} (hg : g = w.heap.size) (k j : Int) : IsKs (w.alloc (.cells #[.int .i64 k, .int .i64 j] 55)) (some ⟨g, 0, none⟩) [k, j] := by subst hg; exact ks2 w k j
theorem IsKs.drew {w : World} {ao : Option Addr} {ks : List Int} (h : IsKs w ao ks) : IsKs w.drew ao ks := h
theorem IsKs.more {w : World} {ao : Option Addr} {ks : List Int} (h : IsKs w ao ks) (o : Obj) : IsKs (w.alloc o) ao ks := h.keep (galloc (Below.refl _ _) o)
/-- The end of a call whose result is a piece. -/
theorem piece_end {w u : World} {q : Pce} {vo : Option Addr} {vc b : Nat} (hb : w.heap.size + 2 ≤ b) (R4 : Two u (w.heap.size + 1) (.slice none 0 0) (.int .i64 0) 36) (O4 : u.ownsRow b 57 4 (.slice vo q.ts.length vc) q.ts.length (toksV q.ts)) (G4 : Below w.heap.size w u) :
    PcA ((u.setCell ⟨w.heap.size + 1, 0, none⟩ (.slice vo q.ts.length vc)).setCell ⟨w.heap.size + 1, 1, none⟩ (.int .i64 q.d)) w.heap.size (.agg #[.slice vo q.ts.length vc, .int .i64 q.d]) q ∧ Below w.heap.size w ((u.setCell ⟨w.heap.size + 1, 0, none⟩ (.slice vo q.ts.length vc)).setCell ⟨w.heap.size + 1, 1, none⟩ (.int .i64 q.d)) ∧
    Two ((u.setCell ⟨w.heap.size + 1, 0, none⟩ (.slice vo q.ts.length vc)).setCell ⟨w.heap.size + 1, 1, none⟩ (.int .i64 q.d)) (w.heap.size + 1) (.slice vo q.ts.length vc) (.int .i64 q.d) 36 :=
  ⟨⟨_, rfl, own_mono (own_of_block O4 (fun g' _ hg' _ => (Below.heap_setCell _ _ _ g' (by show g' ≠ w.heap.size + 1; omega)).trans (Below.heap_setCell _ _ _ g' (by show g' ≠ w.heap.size + 1; omega)))) (by omega)⟩,
    gset (gset G4 (p := ⟨w.heap.size + 1, 0, none⟩) (Nat.le_succ _) _) (p := ⟨w.heap.size + 1, 1, none⟩) (Nat.le_succ _) _, R4.set _ _⟩
set_option maxRecDepth 100000 in
set_option maxHeartbeats 8000000 in
theorem leaf_any (n : Nd) (hop : 1 ≤ n.op ∧ n.op ≤ 11) (w : World) : Calls Tryd.prog 30 #[.agg (ndA n)] w fun e w' => ∃ v, e = .returned v ∧ PcA w' w.heap.size v (lfP n) ∧ Below w.heap.size w w' := by
  have N0 := (NlAt.new w n).keep (galloc (Below.refl _ _) (.cells #[.slice none 0 0, .int .i64 0] 36))
  have B0 := galloc (galloc (Below.refl w.heap.size w) (.cells (ndA n) 32)) (.cells #[.slice none 0 0, .int .i64 0] 36)
  have R0 := Two.new (w.alloc (.cells (ndA n) 32)) (.slice none 0 0) (.int .i64 0) 36
  rw [show (w.alloc (.cells (ndA n) 32)).heap.size = w.heap.size + 1 by simp] at R0
  have zV : ((w.alloc (.cells (ndA n) 32)).alloc (.cells #[.slice none 0 0, .int .i64 0] 36)).heap.size = w.heap.size + 2 := by simp
  have cA := fun u : World => attribute_any n u
  obtain ⟨q, hq⟩ : ∃ q, lfP n = q := ⟨_, rfl⟩
  have HQ : Hid (lfP n = q) := hq
  clear hq
  obtain ⟨yo, yn, yv, yx, yl, yr⟩ := n
  dsimp only at hop
  go_enter Tryd.func30, Tryd.ntmps30
  go_upto_region 1 with fail
  simp only [ndA] at cA
  generalize hVd : (w.alloc (.cells (ndA ⟨yo, yn, yv, yx, yl, yr⟩) 32)).alloc (.cells #[.slice none 0 0, .int .i64 0] 36) = V at *
  have HZ : Hid (V.heap.size = w.heap.size + 2) := zV
  clear zV hVd
  obtain ⟨a0, a1, a2, a3, a4, a5⟩ := N0.at
  dsimp only at a0 a1 a2 a3 a4 a5
  by_cases h1 : yo = 1
  · subst h1
    have hq : nbP yn = q := by rw [← HQ.out]; rfl
    have c1 : ∀ u : World, Calls Tryd.prog 41 #[.int .i64 yn] u fun e w' => ∃ v, e = .returned v ∧ PcA w' u.heap.size v q ∧ Below u.heap.size u w' := fun u => by rw [← hq]; exact number_any yn u
    clear hq
    go_wp2_with (go_at_call 41; (with_reducible refine (c1 _).mono ?_); rintro e u4 ⟨v4, rfl, ⟨t4, rfl, O4⟩, g4⟩; obtain ⟨vo, vc, rfl⟩ := own_shape O4; have R4 := R0.keep g4; have r0 := R4.at0; have r1 := R4.at1; have f0 := R4.free 0; have f1 := R4.free 1)
    obtain ⟨e1, e2, e3⟩ := piece_end (q := q) (by have := HZ.out; omega) R4 O4 (gtrans B0 g4)
    have r5 := e3.at0
    have r6 := e3.at1
    refine bodyPost_ret (v := .agg #[.slice vo q.ts.length vc, .int .i64 q.d]) (by simp [results, Tryd.results30, go_sem, r5, r6]) rfl ⟨_, rfl, by rw [HQ.out]; exact e1, e2⟩
  by_cases h2 : yo = 2
  · subst h2
    have hq : fixP [44] = q := by rw [← HQ.out]; rfl
    have cK : ∀ (u : World) (g : Nat), IsKs u (some ⟨g, 0, none⟩) [44] → Calls Tryd.prog 27 #[.slice (some ⟨g, 0, none⟩) 1 1] u fun e w' => ∃ v, e = .returned v ∧ PcA w' u.heap.size v q ∧ Below u.heap.size u w' := fun u g A => by rw [← hq]; exact fixed_any [44] (by simp) _ _ u A
    clear hq
    go_wp2_with (go_at_call 27; (with_reducible refine (cK _ _ (ks1 _ _)).mono ?_); rintro e u4 ⟨v4, rfl, ⟨t4, rfl, O4⟩, g4'⟩; obtain ⟨vo, vc, rfl⟩ := own_shape O4; have g4 := gtrans (galloc (Below.refl _ V) _) g4'; have R4 := R0.keep g4; have r0 := R4.at0; have r1 := R4.at1; have f0 := R4.free 0; have f1 := R4.free 1)
    obtain ⟨e1, e2, e3⟩ := piece_end (q := q) (by have := HZ.out; simp; omega) R4 O4 (gtrans B0 g4)
    have r5 := e3.at0
    have r6 := e3.at1
    refine bodyPost_ret (v := .agg #[.slice vo q.ts.length vc, .int .i64 q.d]) (by simp [results, Tryd.results30, go_sem, r5, r6]) rfl ⟨_, rfl, by rw [HQ.out]; exact e1, e2⟩
  by_cases h3 : yo = 3
  · subst h3
    have hq : fixP [45] = q := by rw [← HQ.out]; rfl
    have cK : ∀ (u : World) (g : Nat), IsKs u (some ⟨g, 0, none⟩) [45] → Calls Tryd.prog 27 #[.slice (some ⟨g, 0, none⟩) 1 1] u fun e w' => ∃ v, e = .returned v ∧ PcA w' u.heap.size v q ∧ Below u.heap.size u w' := fun u g A => by rw [← hq]; exact fixed_any [45] (by simp) _ _ u A
    clear hq
    go_wp2_with (go_at_call 27; (with_reducible refine (cK _ _ (ks1 _ _)).mono ?_); rintro e u4 ⟨v4, rfl, ⟨t4, rfl, O4⟩, g4'⟩; obtain ⟨vo, vc, rfl⟩ := own_shape O4; have g4 := gtrans (galloc (Below.refl _ V) _) g4'; have R4 := R0.keep g4; have r0 := R4.at0; have r1 := R4.at1; have f0 := R4.free 0; have f1 := R4.free 1)
    obtain ⟨e1, e2, e3⟩ := piece_end (q := q) (by have := HZ.out; simp; omega) R4 O4 (gtrans B0 g4)
    have r5 := e3.at0
    have r6 := e3.at1
    refine bodyPost_ret (v := .agg #[.slice vo q.ts.length vc, .int .i64 q.d]) (by simp [results, Tryd.results30, go_sem, r5, r6]) rfl ⟨_, rfl, by rw [HQ.out]; exact e1, e2⟩
  by_cases h4 : yo = 4
  · subst h4
    have hq : atP ⟨4, yn, yv, yx, yl, yr⟩ = q := by rw [← HQ.out]; rfl
    rw [hq] at cA
    clear hq
    go_wp2_with (first
      | (go_at_call 42; (with_reducible refine (cA _).mono ?_); rintro e u4 ⟨v4, rfl, ⟨t4, rfl, O4⟩, g4⟩; obtain ⟨vo, vc, rfl⟩ := own_shape O4; have R4 := R0.keep g4; have r0 := R4.at0; have r1 := R4.at1; have f0 := R4.free 0; have f1 := R4.free 1))
    obtain ⟨e1, e2, e3⟩ := piece_end (q := q) (by have := HZ.out; omega) R4 O4 (gtrans B0 g4)
    have r5 := e3.at0
    have r6 := e3.at1
    refine bodyPost_ret (v := .agg #[.slice vo q.ts.length vc, .int .i64 q.d]) (by simp [results, Tryd.results30, go_sem, r5, r6]) rfl ⟨_, rfl, by rw [HQ.out]; exact e1, e2⟩
  have GV := (Below.refl V.heap.size V).drew
  have GA := fun o => (galloc (Below.refl V.heap.size V) o).drew
  have GB := fun o o' => (galloc (galloc (Below.refl V.heap.size V) o) o').drew
  by_cases h5 : yo = 5
  · subst h5
    have hSn : ∀ u, Below V.heap.size V u → u.cell? ⟨w.heap.size, 2, none⟩ = some (.string yv) := fun u g => (N0.keep g).at.2.2.1
    have cN : ∀ u : World, Calls Tryd.prog 43 #[.string yv] u fun e w' => ∃ v, e = .returned v ∧ PcA w' u.heap.size v (nmP yv) ∧ Below u.heap.size u w' := fun u => name_any yv u
    have hq : glueP [fixP [46, 3], nmP yv, fixP [4]] = q := by rw [← HQ.out]; rfl
    have cK1 : ∀ (u : World) (g : Nat), IsKs u (some ⟨g, 0, none⟩) [46, 3] → Calls Tryd.prog 27 #[.slice (some ⟨g, 0, none⟩) 2 2] u fun e w' => ∃ v, e = .returned v ∧ PcA w' u.heap.size v (fixP [46, 3]) ∧ Below u.heap.size u w' := fun u g A => fixed_any [46, 3] (by simp) _ _ u A
    have cK2 : ∀ (u : World) (g : Nat), IsKs u (some ⟨g, 0, none⟩) [4] → Calls Tryd.prog 27 #[.slice (some ⟨g, 0, none⟩) 1 1] u fun e w' => ∃ v, e = .returned v ∧ PcA w' u.heap.size v (fixP [4]) ∧ Below u.heap.size u w' := fun u g A => fixed_any [4] (by simp) _ _ u A
    have cG : ∀ (u : World) (g : Nat), IsPcs u (some ⟨g, 0, none⟩) [fixP [46, 3], nmP yv, fixP [4]] → Calls Tryd.prog 25 #[.slice (some ⟨g, 0, none⟩) 3 3] u fun e w' => ∃ v, e = .returned v ∧ PcA w' u.heap.size v q ∧ Below u.heap.size u w' := fun u g A => by rw [← hq]; exact glue_any [fixP [46, 3], nmP yv, fixP [4]] (by simp) (small3 _ _ _ (by simp [nmP, fixP, fxL, atP, glueP, stepP, noP])) _ _ u A
    clear hq
    clear N0 a1 a3 a4 a5 cA
    go_wp2
    go_region_held3 (fun X : World => X.cell? ⟨w.heap.size, 2, none⟩ = some (.string yv)) (first | (with_reducible exact hSn _ GV) | (with_reducible exact hSn _ (GA _)) | (with_reducible exact hSn _ (GB _ _)) | (with_reducible exact hSn _ G1) | (with_reducible exact hSn _ (galloc G1 _)) | (with_reducible exact hSn _ G2) | (with_reducible exact hSn _ (galloc G2 _)) | (with_reducible exact hSn _ G3) | (with_reducible exact hSn _ (galloc G3 _)) | (with_reducible exact hSn _ G4) | go_keep) (first
      | (go_at_call 27; (with_reducible refine (cK1 _ _ ?ks).mono ?_); (case ks => (first | exact (ks2e (by simp) 46 3).drew | exact ((ks2e (by simp) 46 3).more _).drew)); rintro e u1 ⟨v1, rfl, P1, g1⟩; obtain ⟨t1, k1, rfl, T1, n1⟩ := pc_toks P1; have G1 : Below V.heap.size V u1 := (by first | exact gtrans (GA _) g1 | exact gtrans (GB _ _) g1))
      | (go_at_call 43; (with_reducible refine (cN _).mono ?_); rintro e u2 ⟨v2, rfl, P2, g2⟩; obtain ⟨t2, k2, rfl, T2, n2⟩ := pc_toks P2; have G12 : Below u1.heap.size u1 u2 := (by first | exact g2 | exact gtrans (galloc (Below.refl _ _) _) g2); have G2 := gtrans G1 G12)
      | (go_at_call 27; (with_reducible refine (cK2 _ _ ?ks).mono ?_); (case ks => (first | exact ks1e rfl 4 | exact (ks1e rfl 4).keep g2 | exact (((ks1e (by simp) 4).drew.keep g1).keep g2) | exact ((((ks1e (by simp) 4).more _).drew.keep g1).keep g2))); rintro e u3 ⟨v3, rfl, P3, g3⟩; obtain ⟨t3, k3, rfl, T3, n3⟩ := pc_toks P3; have G23 : Below u2.heap.size u2 u3 := (by first | exact g3 | exact gtrans (galloc (Below.refl _ _) _) g3); have G3 := gtrans G2 G23)
      | (go_at_call 25; (with_reducible refine (cG _ _ (pcs3 (T1.keep (gtrans G12 G23)) (T2.keep G23) T3 n1 n2 n3)).mono ?_); rintro e u4 ⟨v4, rfl, ⟨t4, rfl, O4⟩, g4⟩; obtain ⟨vo, vc, rfl⟩ := own_shape O4; have G4 := gtrans (galloc G3 _) g4; have R4 := R0.keep G4; have r0 := R4.at0; have r1 := R4.at1; have f0 := R4.free 0; have f1 := R4.free 1))
    all_goals
      have z3 : w.heap.size + 2 ≤ u3.heap.size := by have := G3.size; have := HZ.out; omega
      obtain ⟨e1, e2, e3⟩ := piece_end (q := q) (by simp; omega) R4 O4 (gtrans B0 G4)
      have r5 := e3.at0
      have r6 := e3.at1
      clear hSn cK1 cK2 cG cN
      go_wp2
      refine bodyPost_ret (v := .agg #[.slice vo q.ts.length vc, .int .i64 q.d]) (by simp [results, Tryd.results30, go_sem, r5, r6]) rfl ⟨_, rfl, by rw [HQ.out]; exact e1, e2⟩
  have h6a : 6 ≤ yo := by omega
  have h6b : yo ≤ 11 := hop.2
  have b1 : (yo == 1) = false := beq_eq_false_iff_ne.2 h1
  have b2 : (yo == 2) = false := beq_eq_false_iff_ne.2 h2
  have b3 : (yo == 3) = false := beq_eq_false_iff_ne.2 h3
  have b4 : (yo == 4) = false := beq_eq_false_iff_ne.2 h4
  have b5 : (yo == 5) = false := beq_eq_false_iff_ne.2 h5
  have hSn : ∀ X, Below V.heap.size V X → X.cell? ⟨w.heap.size, 0, none⟩ = some (.int .i64 yo) ∧ X.cell? ⟨w.heap.size, 1, none⟩ = some (.int .i64 yn) ∧ X.cell? ⟨w.heap.size, 2, none⟩ = some (.string yv) ∧ X.cell? ⟨w.heap.size, 3, none⟩ = some (.string yx) ∧ X.cell? ⟨w.heap.size, 4, none⟩ = some (.int .i64 yl) ∧ X.cell? ⟨w.heap.size, 5, none⟩ = some (.int .i64 yr) := fun u g => (N0.keep g).at
  have cM := fun u : World => aggregate_any yo h6a h6b u
  have hq : glueP [fixP [47 + (yo - 6), 3], atP ⟨yo, yn, yv, yx, yl, yr⟩, fixP [4]] = q := by rw [← HQ.out]; unfold lfP; dsimp only; rw [if_neg h1, if_neg h2, if_neg h3, if_neg h4, if_neg h5]
  have cK1 : ∀ (u : World) (g : Nat), IsKs u (some ⟨g, 0, none⟩) [47 + (yo - 6), 3] → Calls Tryd.prog 27 #[.slice (some ⟨g, 0, none⟩) 2 2] u fun e w' => ∃ v, e = .returned v ∧ PcA w' u.heap.size v (fixP [47 + (yo - 6), 3]) ∧ Below u.heap.size u w' := fun u g A => fixed_any [47 + (yo - 6), 3] (by simp) _ _ u A
  have cK2 : ∀ (u : World) (g : Nat), IsKs u (some ⟨g, 0, none⟩) [4] → Calls Tryd.prog 27 #[.slice (some ⟨g, 0, none⟩) 1 1] u fun e w' => ∃ v, e = .returned v ∧ PcA w' u.heap.size v (fixP [4]) ∧ Below u.heap.size u w' := fun u g A => fixed_any [4] (by simp) _ _ u A
  have cG : ∀ (u : World) (g : Nat), IsPcs u (some ⟨g, 0, none⟩) [fixP [47 + (yo - 6), 3], atP ⟨yo, yn, yv, yx, yl, yr⟩, fixP [4]] → Calls Tryd.prog 25 #[.slice (some ⟨g, 0, none⟩) 3 3] u fun e w' => ∃ v, e = .returned v ∧ PcA w' u.heap.size v q ∧ Below u.heap.size u w' := fun u g A => by rw [← hq]; exact glue_any [fixP [47 + (yo - 6), 3], atP ⟨yo, yn, yv, yx, yl, yr⟩, fixP [4]] (by simp) (small3 _ _ _ (by simp [nmP, fixP, fxL, atP, glueP, stepP, noP])) _ _ u A
  clear hq
  clear N0
  go_wp2
  go_region_held3 (fun X : World => X.cell? ⟨w.heap.size, 0, none⟩ = some (.int .i64 yo) ∧ X.cell? ⟨w.heap.size, 1, none⟩ = some (.int .i64 yn) ∧ X.cell? ⟨w.heap.size, 2, none⟩ = some (.string yv) ∧ X.cell? ⟨w.heap.size, 3, none⟩ = some (.string yx) ∧ X.cell? ⟨w.heap.size, 4, none⟩ = some (.int .i64 yl) ∧ X.cell? ⟨w.heap.size, 5, none⟩ = some (.int .i64 yr)) (first | (with_reducible exact hSn _ GV) | (with_reducible exact hSn _ (GA _)) | (with_reducible exact hSn _ (GB _ _)) | (with_reducible exact hSn _ G1) | (with_reducible exact hSn _ (galloc G1 _)) | (with_reducible exact hSn _ G2) | (with_reducible exact hSn _ (galloc G2 _)) | (with_reducible exact hSn _ G3) | (with_reducible exact hSn _ (galloc G3 _)) | (with_reducible exact hSn _ G4) | go_keep) (first
    | (go_at_call 44; (with_reducible refine (cM _).mono ?_); rintro e uM ⟨rfl, rfl⟩)
    | (go_at_call 27; (with_reducible refine (cK1 _ _ ?ks).mono ?_); (case ks => (first | exact (ks2e (by simp) (47 + (yo - 6)) 3).drew | exact ((ks2e (by simp) (47 + (yo - 6)) 3).more _).drew)); rintro e u1 ⟨v1, rfl, P1, g1⟩; obtain ⟨t1, k1, rfl, T1, n1⟩ := pc_toks P1; have G1 : Below V.heap.size V u1 := (by first | exact gtrans (GA _) g1 | exact gtrans (GB _ _) g1))
    | (go_at_call 42; (with_reducible refine (cA _).mono ?_); rintro e u2 ⟨v2, rfl, P2, g2⟩; obtain ⟨t2, k2, rfl, T2, n2⟩ := pc_toks P2; have G12 : Below u1.heap.size u1 u2 := (by first | exact g2 | exact gtrans (galloc (Below.refl _ _) _) g2); have G2 := gtrans G1 G12)
    | (go_at_call 27; (with_reducible refine (cK2 _ _ ?ks).mono ?_); (case ks => (first | exact ks1e rfl 4 | exact (ks1e rfl 4).keep g2 | exact (((ks1e (by simp) 4).drew.keep g1).keep g2) | exact ((((ks1e (by simp) 4).more _).drew.keep g1).keep g2))); rintro e u3 ⟨v3, rfl, P3, g3⟩; obtain ⟨t3, k3, rfl, T3, n3⟩ := pc_toks P3; have G23 : Below u2.heap.size u2 u3 := (by first | exact g3 | exact gtrans (galloc (Below.refl _ _) _) g3); have G3 := gtrans G2 G23)
    | (go_at_call 25; (with_reducible refine (cG _ _ (pcs3 (T1.keep (gtrans G12 G23)) (T2.keep G23) T3 n1 n2 n3)).mono ?_); rintro e u4 ⟨v4, rfl, ⟨t4, rfl, O4⟩, g4⟩; obtain ⟨vo, vc, rfl⟩ := own_shape O4; have G4 := gtrans (galloc G3 _) g4; have R4 := R0.keep G4; have r0 := R4.at0; have r1 := R4.at1; have f0 := R4.free 0; have f1 := R4.free 1))
  all_goals
    have z3 : w.heap.size + 2 ≤ u3.heap.size := by have := G3.size; have := HZ.out; omega
    obtain ⟨e1, e2, e3⟩ := piece_end (q := q) (by simp; omega) R4 O4 (gtrans B0 G4)
    have r5 := e3.at0
    have r6 := e3.at1
    clear hSn cK1 cK2 cG cA cM
    go_wp2
    refine bodyPost_ret (v := .agg #[.slice vo q.ts.length vc, .int .i64 q.d]) (by simp [results, Tryd.results30, go_sem, r5, r6]) rfl ⟨_, rfl, by rw [HQ.out]; exact e1, e2⟩

end Go.Proofs.YtpodpahipapbaaaDoor
