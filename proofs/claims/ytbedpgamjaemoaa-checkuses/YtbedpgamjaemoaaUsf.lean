/- The law CheckUses, walked. -/
import Derived.Test.YtbedpgamjaemoaaUse
import Derived.Test.YtbedpgamjaemoaaTqc
namespace Go.Proofs.Ytbedpgamjaemoaa
open Go.RowKit Go.BigFrame
set_option linter.unusedVariables false
set_option linter.unusedSimpArgs false

set_option maxRecDepth 100000 in
set_option maxHeartbeats 4000000 in
theorem sameInts_true (l : List Int) (hl : l.length ≤ 9223372036854775807) (ao bo : Option Addr) (c1 c2 : Nat) (w : World) (A : IsInts w ao l) (B : IsInts w bo l) :
    Calls Try.prog 31 #[.slice ao l.length c1, .slice bo l.length c2] w fun e w' => e = .returned (.bool true) ∧ Below w.heap.size w w' := by
  obtain ⟨n, hn⟩ : ∃ n, l.length = n := ⟨_, rfl⟩
  rw [hn] at hl ⊢
  go_enter Try.func31, Try.ntmps31
  go_wp2
  go_loopw [5] (fun x wr => ∃ k : Nat, k ≤ n ∧ x = .int .i64 k ∧ Below w.heap.size w wr) (fun x _ => n - (intOf x).toNat)
  case atStart => exact ⟨0, Nat.zero_le _, rfl, Below.refl _ _⟩
  case round =>
    obtain ⟨k, hk, rfl, G⟩ := hrel
    by_cases hlt : k < n
    · obtain ⟨g1, o1, rfl, x0⟩ := (A.keep G) k (by omega)
      obtain ⟨g2, o2, rfl, y0⟩ := (B.keep G) k (by omega)
      generalize l.getD k 0 = z at *
      clear A B
      go_wp2
      try go_region_with fail
      all_goals
        try go_wp2
        go_roundw
        case rel => exact ⟨k + 1, by omega, by go_num, by first | exact G.drew | exact G⟩
        case measure => simp [intOf]; omega
    · obtain rfl : k = n := by omega
      go_wp2
      go_ret
      exact ⟨rfl, G⟩

/-- Three lists of numbers in memory. -/
structure UseAt (w : World) (cs : Array Value) (L0 L1 L2 : List Int) : Prop where
  ex : ∃ a1 c1 a2 c2 a3 c3, cs = #[.slice a1 L0.length c1, .slice a2 L1.length c2, .slice a3 L2.length c3] ∧ IsInts w a1 L0 ∧ IsInts w a2 L1 ∧ IsInts w a3 L2
theorem UseAt.keep {w u : World} {cs : Array Value} {L0 L1 L2 : List Int} (h : UseAt w cs L0 L1 L2) (G : Below w.heap.size w u) : UseAt u cs L0 L1 L2 := by
  obtain ⟨⟨a1, c1, a2, c2, a3, c3, h1, h2, h3, h4⟩⟩ := h
  exact ⟨⟨a1, c1, a2, c2, a3, c3, h1, h2.keep G, h3.keep G, h4.keep G⟩⟩
theorem refUses_at (q : Qy) (hq : q.fit) (ns : List Nd) (hr : ns.length * 64 ≤ 140737488351232) (hf : ∀ k, (ns.getD k noNd).fit) (cs : Array Value) (ai : Option Addr) (ci : Nat) (aw : Option Addr) (cw : Nat) (ar : Option Addr) (cr : Nat) (ao : Option Addr) (cap : Nat) (w : World) (A : IsQ w q cs ai ci aw cw ar cr) (N : IsNds w ao ns) :
    Calls Try.prog 14 #[.agg cs, .slice ao ns.length cap] w fun e w' => ∃ cu, e = .returned (.agg cu) ∧ UseAt w' cu (useK q.items baB ns q.items.length) (useK q.items (· == 11) ns q.items.length) (useK q.items agB ns q.items.length) ∧ Below w.heap.size w w' := by
  refine (refUses_any q hq ns hr hf cs ai ci aw cw ar cr ao cap w A N).mono ?_
  rintro e u ⟨a1, c1, a2, c2, a3, c3, rfl, h1, h2, h3, g⟩
  exact ⟨_, rfl, ⟨⟨a1, c1, a2, c2, a3, c3, rfl, own_ints h1, own_ints h2, own_ints h3⟩⟩, g⟩
set_option maxRecDepth 100000 in
set_option maxHeartbeats 8000000 in
theorem uses_any (q : Qy) (hq : q.fit) (ns : List Nd) (hr : ns.length * 64 ≤ 140737488351232) (hf : ∀ k, (ns.getD k noNd).fit) (cs : Array Value) (ai : Option Addr) (ci : Nat) (aw : Option Addr) (cw : Nat) (ar : Option Addr) (cr : Nat) (ao : Option Addr) (cap : Nat) (w : World) (A : IsQ w q cs ai ci aw cw ar cr) (N : IsNds w ao ns) :
    Calls Try.prog 13 #[.agg cs, .slice ao ns.length cap] w fun e w' => ∃ cu, e = .returned (.agg cu) ∧ UseAt w' cu (useK q.items baB ns q.items.length) (useK q.items (· == 11) ns q.items.length) (useK q.items agB ns q.items.length) ∧ Below w.heap.size w w' := by
  have cI := fun (u : World) (G : Below w.heap.size w u) => itemsOf_any q hq cs ai ci aw cw ar cr u (A.keep G)
  have cU := fun (u : World) (G : Below w.heap.size w u) (bm : Nat) (MP : MpAt u bm q.items.length (itemF q.items q.items.length)) => usesOf_any (itemF q.items q.items.length) bm q.items.length ns hr hf ao cap u (N.keep G) MP
  rw [← useK_eq, ← useK_eq, ← useK_eq] at cU
  generalize useK q.items baB ns q.items.length = L0 at *
  generalize useK q.items (· == 11) ns q.items.length = L1 at *
  generalize useK q.items agB ns q.items.length = L2 at *
  obtain ⟨he, _⟩ := A
  subst he
  have B0 := galloc (galloc (Below.refl w.heap.size w) (.cells #[.slice ai q.items.length ci, .int .i64 q.mode, .int .i64 q.after, .slice aw q.wh.length cw, .int .i64 q.within, .string q.by_, .slice ar q.ret.length cr] 40)) (.cells #[.slice none 0 0, .slice none 0 0, .slice none 0 0] 46)
  have R0 := Bk.newE (w := w.alloc (.cells #[.slice ai q.items.length ci, .int .i64 q.mode, .int .i64 q.after, .slice aw q.wh.length cw, .int .i64 q.within, .string q.by_, .slice ar q.ret.length cr] 40)) (g := w.heap.size + 1) (by simp) #[.slice none 0 0, .slice none 0 0, .slice none 0 0] 46
  go_enter Try.func13, Try.ntmps13
  go_wp2_with (first
    | (go_at_call 25; (with_reducible refine (cI _ B0).mono ?_); rintro e u1 ⟨bm, rfl, _, MP, g1⟩; have G1 := gtrans B0 g1; have R1 := R0.keep g1)
    | (go_at_call 24; (with_reducible refine (cU _ G1 _ MP).mono ?_); rintro e u2 ⟨a1, c1, a2, c2, a3, c3, rfl, T0, T1, T2, g2⟩; have G2 := gtrans G1 g2; have R2 := R1.keep g2; obtain ⟨v0, v1, v2⟩ := R2.at3; have w0 := R2.free 0; have w1 := R2.free 1; have w2 := R2.free 2; have RE' : Bk (((u2.setCell ⟨w.heap.size + 1, 0, none⟩ (.slice a1 L0.length c1)).setCell ⟨w.heap.size + 1, 1, none⟩ (.slice a2 L1.length c2)).setCell ⟨w.heap.size + 1, 2, none⟩ (.slice a3 L2.length c3)) (w.heap.size + 1) #[.slice a1 L0.length c1, .slice a2 L1.length c2, .slice a3 L2.length c3] 46 := ((R2.set 0 (.slice a1 L0.length c1)).set 1 (.slice a2 L1.length c2)).set 2 (.slice a3 L2.length c3); obtain ⟨m0, m1, m2⟩ := RE'.at3))
  have BE := (((But.refl (w.heap.size + 1) u2).set 0 (.slice a1 L0.length c1)).set 1 (.slice a2 L1.length c2)).set 2 (.slice a3 L2.length c3)
  have GE := gset (gset (gset G2 (p := ⟨w.heap.size + 1, 0, none⟩) (by dsimp only; omega) (.slice a1 L0.length c1)) (p := ⟨w.heap.size + 1, 1, none⟩) (by dsimp only; omega) (.slice a2 L1.length c2)) (p := ⟨w.heap.size + 1, 2, none⟩) (by dsimp only; omega) (.slice a3 L2.length c3)
  exact bodyPost_ret (v := .agg #[.slice a1 L0.length c1, .slice a2 L1.length c2, .slice a3 L2.length c3]) (by simp [results, Try.results13, go_sem, m0, m1, m2]) rfl ⟨_, rfl, ⟨⟨a1, c1, a2, c2, a3, c3, rfl, own_ints (own_but T0 R2 (by decide) BE), own_ints (own_but T1 R2 (by decide) BE), own_ints (own_but T2 R2 (by decide) BE)⟩⟩, GE⟩
set_option maxRecDepth 100000 in
set_option maxHeartbeats 8000000 in
theorem sameUse_true (L0 L1 L2 : List Int) (h0 : L0.length ≤ 9223372036854775807) (h1 : L1.length ≤ 9223372036854775807) (h2 : L2.length ≤ 9223372036854775807) (ca cb : Array Value) (w : World) (A : UseAt w ca L0 L1 L2) (B : UseAt w cb L0 L1 L2) :
    Calls Try.prog 16 #[.agg ca, .agg cb] w fun e w' => e = .returned (.bool true) ∧ Below w.heap.size w w' := by
  obtain ⟨⟨a1, c1, a2, c2, a3, c3, rfl, A1, A2, A3⟩⟩ := A
  obtain ⟨⟨b1, d1, b2, d2, b3, d3, rfl, B1, B2, B3⟩⟩ := B
  have k1 := fun (u : World) (G : Below w.heap.size w u) => sameInts_true L0 h0 a1 b1 c1 d1 u (A1.keep G) (B1.keep G)
  have k2 := fun (u : World) (G : Below w.heap.size w u) => sameInts_true L1 h1 a2 b2 c2 d2 u (A2.keep G) (B2.keep G)
  have k3 := fun (u : World) (G : Below w.heap.size w u) => sameInts_true L2 h2 a3 b3 c3 d3 u (A3.keep G) (B3.keep G)
  have g0 := galloc (galloc (Below.refl w.heap.size w) (.cells #[.slice a1 L0.length c1, .slice a2 L1.length c2, .slice a3 L2.length c3] 46)) (.cells #[.slice b1 L0.length d1, .slice b2 L1.length d2, .slice b3 L2.length d3] 46)
  have X0 := (Bk.new w #[.slice a1 L0.length c1, .slice a2 L1.length c2, .slice a3 L2.length c3] 46).alloc (.cells #[.slice b1 L0.length d1, .slice b2 L1.length d2, .slice b3 L2.length d3] 46)
  have Y0 := Bk.newE (w := w.alloc (.cells #[.slice a1 L0.length c1, .slice a2 L1.length c2, .slice a3 L2.length c3] 46)) (g := w.heap.size + 1) (by simp) #[.slice b1 L0.length d1, .slice b2 L1.length d2, .slice b3 L2.length d3] 46
  go_enter Try.func16, Try.ntmps16
  go_wp2_with (first
    | (go_at_call 31; (with_reducible refine (k1 _ g0).mono ?_); rintro e u1 ⟨rfl, g1⟩; have G1 := gtrans g0 g1; have X1 := X0.keep g1; have Y1 := Y0.keep g1; obtain ⟨x0, x1, x2⟩ := X1.at3; obtain ⟨y0, y1, y2⟩ := Y1.at3)
    | (go_at_call 31; (with_reducible refine (k2 _ G1).mono ?_); rintro e u2 ⟨rfl, g2⟩; have G2 := gtrans G1 g2; have X2 := X1.keep g2; have Y2 := Y1.keep g2; obtain ⟨x0', x1', x2'⟩ := X2.at3; obtain ⟨y0', y1', y2'⟩ := Y2.at3)
    | (go_at_call 31; (with_reducible refine (k3 _ G2).mono ?_); rintro e u3 ⟨rfl, g3⟩; have G3 := gtrans G2 g3))
  go_ret
  exact ⟨rfl, G3⟩

end Go.Proofs.Ytbedpgamjaemoaa
