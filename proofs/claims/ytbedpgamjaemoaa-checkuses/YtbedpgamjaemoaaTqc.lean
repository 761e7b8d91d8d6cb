/- The same query. -/
import Derived.Test.YtbedpgamjaemoaaTqb
import Derived.Deep.RegionHeld3
namespace Go.Proofs.Ytbedpgamjaemoaa
open Go.RowKit Go.BigFrame
set_option linter.unusedVariables false
set_option linter.unusedSimpArgs false

set_option maxRecDepth 100000 in
set_option maxHeartbeats 4000000 in
theorem refSameSs_true (l : List ByteArray) (hl : l.length ≤ 9223372036854775807) (ao bo : Option Addr) (c1 c2 : Nat) (w : World) (A : IsSs w ao l) (B : IsSs w bo l) :
    Calls Try.prog 29 #[.slice ao l.length c1, .slice bo l.length c2] w fun e w' => e = .returned (.bool true) ∧ Below w.heap.size w w' := by
  obtain ⟨n, hn⟩ : ∃ n, l.length = n := ⟨_, rfl⟩
  rw [hn] at hl ⊢
  go_enter Try.func29, Try.ntmps29
  go_wp2
  go_loopw [5] (fun x wr => ∃ k : Nat, k ≤ n ∧ x = .int .i64 k ∧ Below w.heap.size w wr) (fun x _ => n - (intOf x).toNat)
  case atStart => exact ⟨0, Nat.zero_le _, rfl, Below.refl _ _⟩
  case round =>
    obtain ⟨k, hk, rfl, G⟩ := hrel
    by_cases hlt : k < n
    · obtain ⟨g1, o1, rfl, x0⟩ := (A.keep G) k (by omega)
      obtain ⟨g2, o2, rfl, y0⟩ := (B.keep G) k (by omega)
      generalize l.getD k eS = z at *
      clear A B
      go_wp2
      try go_region_with fail
      all_goals
        try go_wp2
        go_roundw
        case rel => exact ⟨k + 1, by omega, by go_num, by first | exact G.drew | exact G⟩
        case measure => simp [intOf]; omega
    · obtain rfl : k = n := by omega
      go_wp2
      go_ret
      exact ⟨rfl, G⟩
set_option maxRecDepth 100000 in
set_option maxHeartbeats 4000000 in
theorem refSameTree_true (l : List Nd) (hl : l.length ≤ 9223372036854775807) (ao bo : Option Addr) (c1 c2 : Nat) (w : World) (A : IsNds w ao l) (B : IsNds w bo l) :
    Calls Try.prog 30 #[.slice ao l.length c1, .slice bo l.length c2] w fun e w' => e = .returned (.bool true) ∧ Below w.heap.size w w' := by
  obtain ⟨n, hn⟩ : ∃ n, l.length = n := ⟨_, rfl⟩
  rw [hn] at hl ⊢
  go_enter Try.func30, Try.ntmps30
  go_wp2
  go_loopw [5] (fun x wr => ∃ k : Nat, k ≤ n ∧ x = .int .i64 k ∧ Below w.heap.size w wr) (fun x _ => n - (intOf x).toNat)
  case atStart => exact ⟨0, Nat.zero_le _, rfl, Below.refl _ _⟩
  case round =>
    obtain ⟨k, hk, rfl, G⟩ := hrel
    by_cases hlt : k < n
    · obtain ⟨g1, o1, rfl, x0, x1, x2, x3, x4, x5⟩ := (A.keep G) k (by omega)
      obtain ⟨g2, o2, rfl, y0, y1, y2, y3, y4, y5⟩ := (B.keep G) k (by omega)
      generalize l.getD k noNd = z at *
      clear A B
      go_wp2
      go_region_with fail
      all_goals
        go_wp2
        go_roundw
        case rel => exact ⟨k + 1, by omega, by go_num, by first | exact G.drew | exact G⟩
        case measure => simp [intOf]; omega
    · obtain rfl : k = n := by omega
      go_wp2
      go_ret
      exact ⟨rfl, G⟩
set_option maxRecDepth 100000 in
set_option maxHeartbeats 8000000 in
theorem sameQ_true (q : Qy) (hq : q.fit) (cs : Array Value) (ai : Option Addr) (ci : Nat) (aw : Option Addr) (cw : Nat) (ar : Option Addr) (cr : Nat) (cs' : Array Value) (ai' : Option Addr) (ci' : Nat) (aw' : Option Addr) (cw' : Nat) (ar' : Option Addr) (cr' : Nat) (w : World) (A : IsQ w q cs ai ci aw cw ar cr) (B : IsQ w q cs' ai' ci' aw' cw' ar' cr') :
    Calls Try.prog 15 #[.agg cs, .agg cs'] w fun e w' => e = .returned (.bool true) ∧ Below w.heap.size w w' := by
  obtain ⟨he, Ai, Aw, Ar, si, sw, sr⟩ := A
  obtain ⟨he', Bi, Bw, Br, ti, tw, tr⟩ := B
  subst he he'
  have hnn := hq.n
  have hnr := hq.r
  have hw1 := hq.wh.1
  have c1 := fun (u : World) (g : Below w.heap.size w u) => refSameTree_true q.wh (by omega) aw aw' cw cw' u (Aw.keep g) (Bw.keep g)
  have B0 := galloc (galloc (Below.refl w.heap.size w) (.cells #[.slice ai q.items.length ci, .int .i64 q.mode, .int .i64 q.after, .slice aw q.wh.length cw, .int .i64 q.within, .string q.by_, .slice ar q.ret.length cr] 40)) (.cells #[.slice ai' q.items.length ci', .int .i64 q.mode, .int .i64 q.after, .slice aw' q.wh.length cw', .int .i64 q.within, .string q.by_, .slice ar' q.ret.length cr'] 40)
  have S0 := (Bk.new w #[.slice ai q.items.length ci, .int .i64 q.mode, .int .i64 q.after, .slice aw q.wh.length cw, .int .i64 q.within, .string q.by_, .slice ar q.ret.length cr] 40).alloc (.cells #[.slice ai' q.items.length ci', .int .i64 q.mode, .int .i64 q.after, .slice aw' q.wh.length cw', .int .i64 q.within, .string q.by_, .slice ar' q.ret.length cr'] 40)
  have T0 := Bk.newE (w := w.alloc (.cells #[.slice ai q.items.length ci, .int .i64 q.mode, .int .i64 q.after, .slice aw q.wh.length cw, .int .i64 q.within, .string q.by_, .slice ar q.ret.length cr] 40)) (g := w.heap.size + 1) (by simp) #[.slice ai' q.items.length ci', .int .i64 q.mode, .int .i64 q.after, .slice aw' q.wh.length cw', .int .i64 q.within, .string q.by_, .slice ar' q.ret.length cr'] 40
  go_enter Try.func15, Try.ntmps15
  go_wp2
  generalize (w.alloc (.cells #[.slice ai q.items.length ci, .int .i64 q.mode, .int .i64 q.after, .slice aw q.wh.length cw, .int .i64 q.within, .string q.by_, .slice ar q.ret.length cr] 40)).alloc (.cells #[.slice ai' q.items.length ci', .int .i64 q.mode, .int .i64 q.after, .slice aw' q.wh.length cw', .int .i64 q.within, .string q.by_, .slice ar' q.ret.length cr'] 40) = V at *
  go_loopw [5, 6, 7, 8] (fun x _ _ _ wr => ∃ k : Nat, k ≤ q.items.length ∧ x = .int .i64 k ∧ Below V.heap.size V wr) (fun x _ _ _ _ => q.items.length - (intOf x).toNat)
  case atStart => exact ⟨0, Nat.zero_le _, rfl, Below.refl _ _⟩
  case round =>
    obtain ⟨k, hk, rfl, G⟩ := hrel
    have GW := gtrans B0 G
    have S := S0.keep G
    have T := T0.keep G
    obtain ⟨s0, _, _, s3, _, _, s6⟩ := S.at7
    obtain ⟨t0, _, _, t3, _, _, t6⟩ := T.at7
    by_cases hlt : k < q.items.length
    · have hki : (k : Int) < (q.items.length : Int) := by omega
      obtain ⟨g, o, rfl, a, c, x0, x1, x2, x3, x4, I, sl⟩ := (Ai.keep GW) k hlt
      obtain ⟨g', o', rfl, a', c', y0, y1, y2, y3, y4, I', sl'⟩ := (Bi.keep GW) k hlt
      have hft := (hq.its k).n
      generalize q.items.getD k noIt = it at *
      obtain ⟨iN, iT, iV, iL, iH⟩ := it
      dsimp only at x0 x1 x2 x3 x4 y0 y1 y2 y3 y4 I I' sl sl' hft
      have cS := fun (u : World) (g : Below wr.heap.size wr u) => refSameSs_true iT (by omega) a a' c c' u (I.keep g) (I'.keep g)
      go_wp2
      have hS : ∀ X : World, Below wr.heap.size wr X → X.cell? ⟨w.heap.size, 0, none⟩ = some (.slice (some ⟨g, o, none⟩) q.items.length ci) ∧ X.cell? ⟨w.heap.size + 1, 0, none⟩ = some (.slice (some ⟨g', o', none⟩) q.items.length ci') ∧ X.cell? ⟨g, o + k * 5, none⟩ = some (.bool iN) ∧ X.cell? ⟨g, o + k * 5 + 1, none⟩ = some (.slice a iT.length c) ∧ X.cell? ⟨g, o + k * 5 + 2, none⟩ = some (.string iV) ∧ X.cell? ⟨g, o + k * 5 + 3, none⟩ = some (.int .i64 iL) ∧ X.cell? ⟨g, o + k * 5 + 4, none⟩ = some (.int .i64 iH) ∧ X.cell? ⟨g', o' + k * 5, none⟩ = some (.bool iN) ∧ X.cell? ⟨g', o' + k * 5 + 1, none⟩ = some (.slice a' iT.length c') ∧ X.cell? ⟨g', o' + k * 5 + 2, none⟩ = some (.string iV) ∧ X.cell? ⟨g', o' + k * 5 + 3, none⟩ = some (.int .i64 iL) ∧ X.cell? ⟨g', o' + k * 5 + 4, none⟩ = some (.int .i64 iH) := fun X G => ⟨(G.cell (p := ⟨_, _, none⟩) (lt_of_cell s0)).trans s0, (G.cell (p := ⟨_, _, none⟩) (lt_of_cell t0)).trans t0, (G.cell (p := ⟨_, _, none⟩) (lt_of_cell x0)).trans x0, (G.cell (p := ⟨_, _, none⟩) (lt_of_cell x1)).trans x1, (G.cell (p := ⟨_, _, none⟩) (lt_of_cell x2)).trans x2, (G.cell (p := ⟨_, _, none⟩) (lt_of_cell x3)).trans x3, (G.cell (p := ⟨_, _, none⟩) (lt_of_cell x4)).trans x4, (G.cell (p := ⟨_, _, none⟩) (lt_of_cell y0)).trans y0, (G.cell (p := ⟨_, _, none⟩) (lt_of_cell y1)).trans y1, (G.cell (p := ⟨_, _, none⟩) (lt_of_cell y2)).trans y2, (G.cell (p := ⟨_, _, none⟩) (lt_of_cell y3)).trans y3, (G.cell (p := ⟨_, _, none⟩) (lt_of_cell y4)).trans y4⟩
      have g0 := Below.refl wr.heap.size wr
      have g1 := g0.drew
      have g2 := fun o : Obj => galloc g0 o
      have g3 := fun o : Obj => galloc g1 o
      have g4 := fun o o2 : Obj => galloc (galloc g0 o) o2
      have g5 := fun o o2 : Obj => galloc (galloc g1 o) o2
      go_region_held3 (fun X : World => X.cell? ⟨w.heap.size, 0, none⟩ = some (.slice (some ⟨g, o, none⟩) q.items.length ci) ∧ X.cell? ⟨w.heap.size + 1, 0, none⟩ = some (.slice (some ⟨g', o', none⟩) q.items.length ci') ∧ X.cell? ⟨g, o + k * 5, none⟩ = some (.bool iN) ∧ X.cell? ⟨g, o + k * 5 + 1, none⟩ = some (.slice a iT.length c) ∧ X.cell? ⟨g, o + k * 5 + 2, none⟩ = some (.string iV) ∧ X.cell? ⟨g, o + k * 5 + 3, none⟩ = some (.int .i64 iL) ∧ X.cell? ⟨g, o + k * 5 + 4, none⟩ = some (.int .i64 iH) ∧ X.cell? ⟨g', o' + k * 5, none⟩ = some (.bool iN) ∧ X.cell? ⟨g', o' + k * 5 + 1, none⟩ = some (.slice a' iT.length c') ∧ X.cell? ⟨g', o' + k * 5 + 2, none⟩ = some (.string iV) ∧ X.cell? ⟨g', o' + k * 5 + 3, none⟩ = some (.int .i64 iL) ∧ X.cell? ⟨g', o' + k * 5 + 4, none⟩ = some (.int .i64 iH)) (first | (with_reducible exact hS _ g0) | (with_reducible exact hS _ g1) | (with_reducible exact hS _ (g2 _)) | (with_reducible exact hS _ (g3 _)) | (with_reducible exact hS _ (g4 _ _)) | (with_reducible exact hS _ (g5 _ _)) | go_keep) (fail)
      all_goals
        go_wp2_with (go_at_call 29; (with_reducible refine (cS _ (by first | exact (g4 _ _).drew | exact g5 _ _ | exact g4 _ _)).mono ?_); rintro e u ⟨rfl, gu⟩; obtain ⟨bc, bf⟩ := bcell gu)
        go_roundw
        case rel => exact ⟨k + 1, by omega, by go_num, gtrans G (gtrans (by first | exact (g4 _ _).drew | exact g5 _ _ | exact g4 _ _) gu)⟩
        case measure => simp [intOf]; omega
    · have hkn : k = q.items.length := by omega
      subst hkn
      go_wp2
      clear s0 s3 s6 t0 t3 t6
      go_loopw [9, 10] (fun x _ wr => ∃ k : Nat, k ≤ q.ret.length ∧ x = .int .i64 k ∧ Below V.heap.size V wr) (fun x _ _ => q.ret.length - (intOf x).toNat)
      case atStart => exact ⟨0, Nat.zero_le _, rfl, G⟩
      case round =>
        clear S T GW
        obtain ⟨k, hk2, rfl, G2⟩ := hrel
        have GW := gtrans B0 G2
        have S := S0.keep G2
        have T := T0.keep G2
        obtain ⟨s0, _, _, s3, _, _, s6⟩ := S.at7
        obtain ⟨t0, _, _, t3, _, _, t6⟩ := T.at7
        have hne : Nonempty (Ext wr) := ⟨⟨_, Below.refl _ _⟩⟩
        by_cases hlt2 : k < q.ret.length
        · have hki : (k : Int) < (q.ret.length : Int) := by omega
          go_wp2
          obtain ⟨g, o, a, c, e1, x0, I, sl⟩ := (Ar.keep GW) k hlt2
          obtain ⟨g', o', a', c', e2, x0', I', sl'⟩ := (Br.keep GW) k hlt2
          have hsk := (hq.ret k).1
          have z1 := fun z : Ext wr => ext_of (refSameTree_true (q.ret.getD k []) (by omega) a a' c c' z.X (I.keep z.h) (I'.keep z.h))
          have p1 := fun z : Ext wr => (z.cell _ _ (lt_of_cell s6)).trans s6
          have p2 := fun z : Ext wr => (z.cell _ _ (lt_of_cell t6)).trans t6
          have p3 := fun z : Ext wr => (z.cell _ _ (lt_of_cell x0)).trans x0
          have p4 := fun z : Ext wr => (z.cell _ _ (lt_of_cell x0')).trans x0'
          rw [e1] at p1
          rw [e2] at p2
          generalize q.ret.getD k [] = rk at *
          refine wp_region_ext (by kernel_rfl) (by kernel_rfl) ?_
          repeat (go_big_quiet_step (first | (go_at_call 30; with_reducible exact z1 _)))
          refine wpQuiet_nil ?_
          intro _ hw'
          obtain ⟨nx2, hw''⟩ := hw'
          subst hw''
          go_wp2
          go_roundw
          case rel => exact ⟨k + 1, by omega, by go_num, gtrans G2 nx2.h⟩
          case measure => simp [intOf]; omega
        · have hkn : k = q.ret.length := by omega
          subst hkn
          go_wp2_with (go_at_call 30; (with_reducible refine (c1 _ GW).mono ?_); rintro e u1 ⟨rfl, g1⟩)
          go_ret
          exact ⟨rfl, gtrans GW g1⟩

end Go.Proofs.Ytbedpgamjaemoaa
