/- The tokens of a node without operands. -/
import Derived.Test.YtpodpahipapbaaaDoorSic
import Derived.Test.YtpodpahipapbaaaDoorShb
namespace Go.Proofs.YtpodpahipapbaaaDoor
open Go.RowKit Go.BigFrame Go.Proofs.YtpodpahipapbaaaDoor.Ev
set_option linter.unusedVariables false
set_option linter.unusedSimpArgs false

def nmP (s : ByteArray) : Pce := ⟨[⟨1, s, 0, 0⟩], 0⟩
def nbP (n : Int) : Pce := ⟨[⟨2, eS, n, 0⟩], 0⟩
def atP (n : Nd) : Pce := glueP [nmP n.v, fixP [8], nmP n.x]
def lfP (n : Nd) : Pce :=
  if n.op = 1 then nbP n.n else if n.op = 2 then fixP [44] else if n.op = 3 then fixP [45] else if n.op = 4 then atP n
  else if n.op = 5 then glueP [fixP [46, 3], nmP n.v, fixP [4]] else glueP [fixP [47 + (n.op - 6), 3], atP n, fixP [4]]
theorem small3 (a b c : Pce) (h : a.ts.length + b.ts.length + c.ts.length ≤ 100000000) : ∀ k, k ≤ [a, b, c].length → (glueP ([a, b, c].take k)).ts.length ≤ 100000000 := by
  intro k hk
  have hk3 : k ≤ 3 := hk
  rcases (show k = 0 ∨ k = 1 ∨ k = 2 ∨ k = 3 by omega) with rfl | rfl | rfl | rfl
  all_goals
    simp [glueP, stepP, noP]
    try omega
set_option maxRecDepth 100000 in
set_option maxHeartbeats 8000000 in
theorem attribute_any (n : Nd) (w : World) : Calls Tryd.prog 42 #[.agg (ndA n)] w fun e w' => ∃ v, e = .returned v ∧ PcA w' w.heap.size v (atP n) ∧ Below w.heap.size w w' := by
  have N0 := (NlAt.new w n).keep (galloc (Below.refl _ _) (.cells #[.slice none 0 0, .int .i64 0] 36))
  have B0 := galloc (galloc (Below.refl w.heap.size w) (.cells (ndA n) 32)) (.cells #[.slice none 0 0, .int .i64 0] 36)
  have R0 := Two.new (w.alloc (.cells (ndA n) 32)) (.slice none 0 0) (.int .i64 0) 36
  rw [show (w.alloc (.cells (ndA n) 32)).heap.size = w.heap.size + 1 by simp] at R0
  have zV : ((w.alloc (.cells (ndA n) 32)).alloc (.cells #[.slice none 0 0, .int .i64 0] 36)).heap.size = w.heap.size + 2 := by simp
  obtain ⟨yo, yn, yv, yx, yl, yr⟩ := n
  go_enter Tryd.func42, Tryd.ntmps42
  go_upto_region 1 with fail
  generalize (w.alloc (.cells (ndA ⟨yo, yn, yv, yx, yl, yr⟩) 32)).alloc (.cells #[.slice none 0 0, .int .i64 0] 36) = V at *
  have HZ : Hid (V.heap.size = w.heap.size + 2) := zV
  clear zV
  have hSn : ∀ u, Below V.heap.size V u → u.cell? ⟨w.heap.size, 2, none⟩ = some (.string yv) ∧ u.cell? ⟨w.heap.size, 3, none⟩ = some (.string yx) := fun u g => ⟨(N0.keep g).at.2.2.1, (N0.keep g).at.2.2.2.1⟩
  have cK : ∀ (u : World) (g : Nat), IsKs u (some ⟨g, 0, none⟩) [8] → Calls Tryd.prog 27 #[.slice (some ⟨g, 0, none⟩) 1 1] u fun e w' => ∃ v, e = .returned v ∧ PcA w' u.heap.size v (fixP [8]) ∧ Below u.heap.size u w' := fun u g A => fixed_any [8] (by decide) _ _ u A
  have cG : ∀ (u : World) (g : Nat), IsPcs u (some ⟨g, 0, none⟩) [nmP yv, fixP [8], nmP yx] → Calls Tryd.prog 25 #[.slice (some ⟨g, 0, none⟩) 3 3] u fun e w' => ∃ v, e = .returned v ∧ PcA w' u.heap.size v (atP ⟨yo, yn, yv, yx, yl, yr⟩) ∧ Below u.heap.size u w' := fun u g A => glue_any [nmP yv, fixP [8], nmP yx] (by simp) (small3 _ _ _ (by simp [nmP, fixP, fxL])) _ _ u A
  have cV : ∀ u : World, Calls Tryd.prog 43 #[.string yv] u fun e w' => ∃ v, e = .returned v ∧ PcA w' u.heap.size v (nmP yv) ∧ Below u.heap.size u w' := fun u => name_any yv u
  have cX : ∀ u : World, Calls Tryd.prog 43 #[.string yx] u fun e w' => ∃ v, e = .returned v ∧ PcA w' u.heap.size v (nmP yx) ∧ Below u.heap.size u w' := fun u => name_any yx u
  have GV := (Below.refl V.heap.size V).drew
  have GA := fun o => (galloc (Below.refl V.heap.size V) o).drew
  obtain ⟨q, hq⟩ : ∃ q, atP ⟨yo, yn, yv, yx, yl, yr⟩ = q := ⟨_, rfl⟩
  rw [hq] at cG
  have HQ : Hid (atP ⟨yo, yn, yv, yx, yl, yr⟩ = q) := hq
  clear hq
  clear N0
  go_region_held3 (fun X : World => X.cell? ⟨w.heap.size, 2, none⟩ = some (.string yv) ∧ X.cell? ⟨w.heap.size, 3, none⟩ = some (.string yx)) (first | (with_reducible exact hSn _ GV) | (with_reducible exact hSn _ (GA _)) | (with_reducible exact hSn _ G1) | (with_reducible exact hSn _ (galloc G1 _)) | (with_reducible exact hSn _ G2) | (with_reducible exact hSn _ G3) | (with_reducible exact hSn _ (galloc G3 _)) | (with_reducible exact hSn _ G4) | go_keep) (first
    | (go_at_call 43; (with_reducible refine (cV _).mono ?_); rintro e u1 ⟨v1, rfl, P1, g1⟩; obtain ⟨t1, k1, rfl, T1, n1⟩ := pc_toks P1; have G1 : Below V.heap.size V u1 := (by first | exact gtrans GV g1 | exact gtrans (GA _) g1); first | (have KS : IsKs u1 (some ⟨V.heap.size, 0, none⟩) [8] := (ks1 V 8).keep (gtrans (Below.refl (V.alloc (.cells #[.int .i64 8] 55)).heap.size (V.alloc (.cells #[.int .i64 8] 55))).drew g1)) | (have KS := trivial))
    | (go_at_call 27; (with_reducible refine (cK _ _ KS).mono ?_); rintro e u2 ⟨v2, rfl, P2, g2⟩; obtain ⟨t2, k2, rfl, T2, n2⟩ := pc_toks P2; have G12 : Below u1.heap.size u1 u2 := g2; have G2 := gtrans G1 G12)
    | (go_at_call 27; (with_reducible refine (cK _ _ (ks1 _ 8)).mono ?_); rintro e u2 ⟨v2, rfl, P2, g2⟩; obtain ⟨t2, k2, rfl, T2, n2⟩ := pc_toks P2; have G12 : Below u1.heap.size u1 u2 := gtrans (galloc (Below.refl _ _) _) g2; have G2 := gtrans G1 G12)
    | (go_at_call 43; (with_reducible refine (cX _).mono ?_); rintro e u3 ⟨v3, rfl, P3, g3⟩; obtain ⟨t3, k3, rfl, T3, n3⟩ := pc_toks P3; have G3 := gtrans G2 g3)
    | (go_at_call 25; (with_reducible refine (cG _ _ (pcs3 (T1.keep (gtrans G12 g3)) (T2.keep g3) T3 n1 n2 n3)).mono ?_); rintro e u4 ⟨v4, rfl, ⟨t4, rfl, O4⟩, g4⟩; obtain ⟨vo, vc, rfl⟩ := own_shape O4; have G4 := gtrans (galloc G3 _) g4; have R4 := R0.keep G4; have r0 := R4.at0; have r1 := R4.at1; have f0 := R4.free 0; have f1 := R4.free 1))
  all_goals
    have z3 : w.heap.size + 2 ≤ u3.heap.size := by have := G3.size; have := HZ.out; omega
    have P5 := R4.set (.slice vo q.ts.length vc) (.int .i64 q.d)
    have O5 := own_of_block O4 (u := (u4.setCell ⟨w.heap.size + 1, 0, none⟩ (.slice vo q.ts.length vc)).setCell ⟨w.heap.size + 1, 1, none⟩ (.int .i64 q.d)) (fun g' _ hg' _ => (Below.heap_setCell _ _ _ g' (by show g' ≠ w.heap.size + 1; simp at hg'; omega)).trans (Below.heap_setCell _ _ _ g' (by show g' ≠ w.heap.size + 1; simp at hg'; omega)))
    have G5 := gset (gset (gtrans B0 G4) (p := ⟨w.heap.size + 1, 0, none⟩) (Nat.le_succ _) (.slice vo q.ts.length vc)) (p := ⟨w.heap.size + 1, 1, none⟩) (Nat.le_succ _) (.int .i64 q.d)
    have r5 := P5.at0
    have r6 := P5.at1
    clear hSn cK cG cV cX
    go_wp2
    refine bodyPost_ret (v := .agg #[.slice vo q.ts.length vc, .int .i64 q.d]) (by simp [results, Tryd.results42, go_sem, r5, r6]) rfl ⟨_, rfl, ?_, G5⟩
    rw [HQ.out]
    exact ⟨_, rfl, own_mono O5 (by simp; omega)⟩

end Go.Proofs.YtpodpahipapbaaaDoor
