/- The same spots; the law CheckPlaces, walked. -/
import Derived.Test.YtbedpgamjaemoaaCpb
namespace Go.Proofs.Ytbedpgamjaemoaa
open Go.RowKit Go.BigFrame
set_option linter.unusedVariables false
set_option linter.unusedSimpArgs false

set_option maxRecDepth 100000 in
set_option maxHeartbeats 4000000 in
theorem refSameInts_true (l : List Int) (hl : l.length ≤ 9223372036854775807) (ao bo : Option Addr) (c1 c2 : Nat) (w : World) (A : IsInts w ao l) (B : IsInts w bo l) :
    Calls Try.prog 21 #[.slice ao l.length c1, .slice bo l.length c2] w fun e w' => e = .returned (.bool true) ∧ Below w.heap.size w w' := by
  obtain ⟨n, hn⟩ : ∃ n, l.length = n := ⟨_, rfl⟩
  rw [hn] at hl ⊢
  go_enter Try.func21, Try.ntmps21
  go_wp2
  go_loopw [5] (fun x wr => ∃ k : Nat, k ≤ n ∧ x = .int .i64 k ∧ Below w.heap.size w wr) (fun x _ => n - (intOf x).toNat)
  case atStart => exact ⟨0, Nat.zero_le _, rfl, Below.refl _ _⟩
  case round =>
    obtain ⟨k, hk, rfl, G⟩ := hrel
    by_cases hlt : k < n
    · obtain ⟨g1, o1, rfl, x0⟩ := (A.keep G) k (by omega)
      obtain ⟨g2, o2, rfl, y0⟩ := (B.keep G) k (by omega)
      generalize l.getD k 0 = z at *
      clear A B
      go_wp2
      try go_region_with fail
      all_goals
        try go_wp2
        go_roundw
        case rel => exact ⟨k + 1, by omega, by go_num, by first | exact G.drew | exact G⟩
        case measure => simp [intOf]; omega
    · obtain rfl : k = n := by omega
      go_wp2
      go_ret
      exact ⟨rfl, G⟩
set_option maxRecDepth 100000 in
set_option maxHeartbeats 8000000 in
theorem sameSp_true (s : Sps) (hs : s.fit) (cs : Array Value) (ai : Option Addr) (ci : Nat) (aw : Option Addr) (cw : Nat) (ar : Option Addr) (cr : Nat) (cs' : Array Value) (ai' : Option Addr) (ci' : Nat) (aw' : Option Addr) (cw' : Nat) (ar' : Option Addr) (cr' : Nat) (w : World) (A : IsSp w s cs ai ci aw cw ar cr) (B : IsSp w s cs' ai' ci' aw' cw' ar' cr') :
    Calls Try.prog 7 #[.agg cs, .agg cs'] w fun e w' => e = .returned (.bool true) ∧ Below w.heap.size w w' := by
  obtain ⟨he, Ai, Aw, Ar, si, sw, sr⟩ := A
  obtain ⟨he', Bi, Bw, Br, ti, tw, tr⟩ := B
  subst he he'
  have c1 := fun (u : World) (g : Below w.heap.size w u) => refSameInts_true s.items (by have := hs.n; omega) ai ai' ci ci' u (Ai.keep g) (Bi.keep g)
  have c2 := fun (u : World) (g : Below w.heap.size w u) => refSameInts_true s.wh (by have := hs.w; omega) aw aw' cw cw' u (Aw.keep g) (Bw.keep g)
  have hnr := hs.r
  have B0 := galloc (galloc (Below.refl w.heap.size w) (.cells #[.slice ai s.items.length ci, .slice aw s.wh.length cw, .int .i64 s.within, .int .i64 s.by_, .slice ar s.ret.length cr] 25)) (.cells #[.slice ai' s.items.length ci', .slice aw' s.wh.length cw', .int .i64 s.within, .int .i64 s.by_, .slice ar' s.ret.length cr'] 25)
  have S0 := (Fv.new w (.slice ai s.items.length ci) (.slice aw s.wh.length cw) (.int .i64 s.within) (.int .i64 s.by_) (.slice ar s.ret.length cr) 25).alloc (.cells #[.slice ai' s.items.length ci', .slice aw' s.wh.length cw', .int .i64 s.within, .int .i64 s.by_, .slice ar' s.ret.length cr'] 25)
  have T0 := Fv.new (w.alloc (.cells #[.slice ai s.items.length ci, .slice aw s.wh.length cw, .int .i64 s.within, .int .i64 s.by_, .slice ar s.ret.length cr] 25)) (.slice ai' s.items.length ci') (.slice aw' s.wh.length cw') (.int .i64 s.within) (.int .i64 s.by_) (.slice ar' s.ret.length cr') 25
  rw [show (w.alloc (.cells #[.slice ai s.items.length ci, .slice aw s.wh.length cw, .int .i64 s.within, .int .i64 s.by_, .slice ar s.ret.length cr] 25)).heap.size = w.heap.size + 1 by simp] at T0
  go_enter Try.func7, Try.ntmps7
  go_wp2
  generalize (w.alloc (.cells #[.slice ai s.items.length ci, .slice aw s.wh.length cw, .int .i64 s.within, .int .i64 s.by_, .slice ar s.ret.length cr] 25)).alloc (.cells #[.slice ai' s.items.length ci', .slice aw' s.wh.length cw', .int .i64 s.within, .int .i64 s.by_, .slice ar' s.ret.length cr'] 25) = V at *
  go_loopw [5, 6] (fun x _ wr => ∃ k : Nat, k ≤ s.ret.length ∧ x = .int .i64 k ∧ Below V.heap.size V wr) (fun x _ _ => s.ret.length - (intOf x).toNat)
  case atStart => exact ⟨0, Nat.zero_le _, rfl, Below.refl _ _⟩
  case round =>
    obtain ⟨k, hk, rfl, G⟩ := hrel
    have GW := gtrans B0 G
    have S := S0.keep G
    have T := T0.keep G
    obtain ⟨s0, s1, _, _, s4⟩ := S.at
    obtain ⟨t0, t1, _, _, t4⟩ := T.at
    have hne : Nonempty (Ext wr) := ⟨⟨_, Below.refl _ _⟩⟩
    by_cases hlt : k < s.ret.length
    · have hki : (k : Int) < (s.ret.length : Int) := by omega
      go_wp2
      obtain ⟨g, o, a, c, e1, x0, I, sl⟩ := (Ar.keep GW) k hlt
      obtain ⟨g', o', a', c', e2, x0', I', sl'⟩ := (Br.keep GW) k hlt
      have hsk := hs.ret k
      have z1 := fun z : Ext wr => ext_of (refSameInts_true (s.ret.getD k []) (by omega) a a' c c' z.X (I.keep z.h) (I'.keep z.h))
      have p1 := fun z : Ext wr => (z.cell _ _ (lt_of_cell s4)).trans s4
      have p2 := fun z : Ext wr => (z.cell _ _ (lt_of_cell t4)).trans t4
      have p3 := fun z : Ext wr => (z.cell _ _ (lt_of_cell x0)).trans x0
      have p4 := fun z : Ext wr => (z.cell _ _ (lt_of_cell x0')).trans x0'
      rw [e1] at p1
      rw [e2] at p2
      generalize s.ret.getD k [] = rk at *
      refine wp_region_ext (by kernel_rfl) (by kernel_rfl) ?_
      repeat (go_big_quiet_step (first | (go_at_call 21; with_reducible exact z1 _)))
      refine wpQuiet_nil ?_
      intro _ hw'
      obtain ⟨nx2, hw''⟩ := hw'
      subst hw''
      go_wp2
      go_roundw
      case rel => exact ⟨k + 1, by omega, by go_num, gtrans G nx2.h⟩
      case measure => simp [intOf]; omega
    · have hkn : k = s.ret.length := by omega
      subst hkn
      go_wp2_with (first
        | (go_at_call 21; (with_reducible refine (c1 _ GW).mono ?_); rintro e u1 ⟨rfl, g1⟩; have G1 := gtrans GW g1; obtain ⟨_, m1, _, _, _⟩ := (S.keep g1).at; obtain ⟨_, n1, _, _, _⟩ := (T.keep g1).at)
        | (go_at_call 21; (with_reducible refine (c2 _ G1).mono ?_); rintro e u2 ⟨rfl, g2⟩; have G2 := gtrans G1 g2))
      go_ret
      exact ⟨rfl, G2⟩

/-- A block whose cells are known. -/
def Bk (w : World) (b : Nat) (cs : Array Value) (t : TypeId) : Prop := w.heap[b]? = some (.cells cs t (0, 0))
theorem Bk.new (w : World) (cs : Array Value) (t : TypeId) : Bk (w.alloc (.cells cs t)) w.heap.size cs t := by
  show (w.heap.push _)[w.heap.size]? = _
  simp
theorem Bk.lt {w : World} {b : Nat} {cs : Array Value} {t : TypeId} (h : Bk w b cs t) : b < w.heap.size := lt_of_block h
theorem Bk.keep {w u : World} {b : Nat} {cs : Array Value} {t : TypeId} (h : Bk w b cs t) (G : Below w.heap.size w u) : Bk u b cs t := (G.block b h.lt).trans h
theorem Bk.alloc {w : World} {b : Nat} {cs : Array Value} {t : TypeId} (h : Bk w b cs t) (o : Obj) : Bk (w.alloc o) b cs t := (Below.heap_alloc w o b h.lt).trans h
theorem Bk.at4 {w : World} {b : Nat} {c0 c1 c2 c3 : Value} {t : TypeId} (h : Bk w b #[c0, c1, c2, c3] t) : w.cell? ⟨b, 0, none⟩ = some c0 ∧ w.cell? ⟨b, 1, none⟩ = some c1 ∧ w.cell? ⟨b, 2, none⟩ = some c2 ∧ w.cell? ⟨b, 3, none⟩ = some c3 := ⟨cell_of_row w b 0 _ _ _ h, cell_of_row w b 1 _ _ _ h, cell_of_row w b 2 _ _ _ h, cell_of_row w b 3 _ _ _ h⟩
theorem cellsFw : Try.prog.cellsOf 29 = 4 := by kernel_rfl
set_option maxRecDepth 100000 in
theorem open_flaw {H : Type} {enc : TypeId × Value → H} {w : World} {spare : Nat → Bool} {held : Bool} {fuel : Nat} {cs : Array Value} {y : DataW H × List MemPlace} (hz : cs.size = 4) (h : DataW.trod enc Try.prog w 0 spare held fuel 29 cs.toList = some y) : ∃ f : Fw, cs = fwA f ∧ f.fit := by
  obtain ⟨l⟩ := cs
  obtain ⟨c0, c1, c2, c3, rfl⟩ : ∃ c0 c1 c2 c3, l = [c0, c1, c2, c3] := by
    match l, (show l.length = 4 from hz) with
    | [c0, c1, c2, c3], _ => exact ⟨c0, c1, c2, c3, rfl⟩
  obtain ⟨y0, y1, y2, y3, m, _, _, g0, g1, g2, g3⟩ := Joins.trod_struct4 Try.underlying29 h
  have g0' : DataW.trod enc Try.prog w 0 spare held m 26 [c0] = some y0 := g0
  have g1' : DataW.trod enc Try.prog w 0 spare held m 27 [c1] = some y1 := g1
  have g2' : DataW.trod enc Try.prog w 0 spare held m 3 [c2] = some y2 := g2
  have g3' : DataW.trod enc Try.prog w 0 spare held m 3 [c3] = some y3 := g3
  obtain ⟨n0, e0, _, w0⟩ := DataW.trod_int Try.underlying26 g0'
  obtain ⟨n1, e1, _, w1⟩ := DataW.trod_int Try.underlying27 g1'
  obtain ⟨n2, e2, _, w2⟩ := DataW.trod_int Try.underlying3 g2'
  obtain ⟨n3, e3, _, w3⟩ := DataW.trod_int Try.underlying3 g3'
  simp only [List.cons.injEq, and_true] at e0 e1 e2 e3
  subst e0 e1 e2 e3
  exact ⟨⟨n0, n1, n2, n3⟩, rfl, nd_wf w0, nd_wf w1, nd_wf w2, nd_wf w3⟩
set_option maxRecDepth 100000 in
set_option maxHeartbeats 8000000 in
theorem checkPlaces_walk (s : Sps) (cs : Array Value) (ai : Option Addr) (ci : Nat) (aw : Option Addr) (cw : Nat) (ar : Option Addr) (cr : Nat) (f : Fw) (w : World) (A : IsSp w s cs ai ci aw cw ar cr) (hs : s.fit) (hf : f.fit) :
    Calls Try.prog 3 #[.agg cs, .agg (fwA f)] w fun e w' => e = .returned (.bool true) ∧ Below w.heap.size w w' := by
  have c1 := fun (u : World) (g : Below w.heap.size w u) => twinSp_any s hs cs ai ci aw cw ar cr u (A.keep g)
  have c2 := fun (u : World) (g : Below w.heap.size w u) => place_any s hs f hf cs ai ci aw cw ar cr u (A.keep g)
  have c3 := fun (u : World) (g : Below w.heap.size w u) (cs' : Array Value) (ai' : Option Addr) (ci' : Nat) (aw' : Option Addr) (cw' : Nat) (ar' : Option Addr) (cr' : Nat) (B : IsSp u s cs' ai' ci' aw' cw' ar' cr') => sameSp_true s hs cs ai ci aw cw ar cr cs' ai' ci' aw' cw' ar' cr' u (A.keep g) B
  have c4 := fun (u : World) (cs' : Array Value) (ai' : Option Addr) (ci' : Nat) (aw' : Option Addr) (cw' : Nat) (ar' : Option Addr) (cr' : Nat) (B : IsSp u s cs' ai' ci' aw' cw' ar' cr') => refPlace_any s hs f hf cs' ai' ci' aw' cw' ar' cr' u B
  obtain ⟨he, _⟩ := A
  subst he
  generalize plaO s f = pl at *
  unfold fwA at c2 c4 ⊢
  have B0 := galloc (galloc (Below.refl w.heap.size w) (.cells #[.slice ai s.items.length ci, .slice aw s.wh.length cw, .int .i64 s.within, .int .i64 s.by_, .slice ar s.ret.length cr] 25)) (.cells #[.int .i64 f.code, .int .i64 f.part, .int .i64 f.ix, .int .i64 f.sub] 29)
  have S0 := (Fv.new w (.slice ai s.items.length ci) (.slice aw s.wh.length cw) (.int .i64 s.within) (.int .i64 s.by_) (.slice ar s.ret.length cr) 25).alloc (.cells #[.int .i64 f.code, .int .i64 f.part, .int .i64 f.ix, .int .i64 f.sub] 29)
  have F0 := Bk.new (w.alloc (.cells #[.slice ai s.items.length ci, .slice aw s.wh.length cw, .int .i64 s.within, .int .i64 s.by_, .slice ar s.ret.length cr] 25)) #[.int .i64 f.code, .int .i64 f.part, .int .i64 f.ix, .int .i64 f.sub] 29
  rw [show (w.alloc (.cells #[.slice ai s.items.length ci, .slice aw s.wh.length cw, .int .i64 s.within, .int .i64 s.by_, .slice ar s.ret.length cr] 25)).heap.size = w.heap.size + 1 by simp] at F0
  go_enter Try.func3, Try.ntmps3
  go_wp2_with (first
    | (go_at_call 5; (with_reducible refine (c1 _ B0).mono ?_); rintro e u1 ⟨cs', ai', ci', aw', cw', ar', cr', rfl, B1, g1⟩; obtain ⟨he', _⟩ := id B1; subst he'; have ga := galloc (Below.refl u1.heap.size u1) (.cells #[.slice ai' s.items.length ci', .slice aw' s.wh.length cw', .int .i64 s.within, .int .i64 s.by_, .slice ar' s.ret.length cr'] 25); have G1 := gtrans (gtrans B0 g1) ga; have B1' := B1.keep ga; have S1 := (S0.keep g1).keep ga; have F1 := (F0.keep g1).keep ga; have T1 := Fv.new u1 (.slice ai' s.items.length ci') (.slice aw' s.wh.length cw') (.int .i64 s.within) (.int .i64 s.by_) (.slice ar' s.ret.length cr') 25; obtain ⟨x0, x1, x2, x3, x4⟩ := S1.at; obtain ⟨y0, y1, y2, y3⟩ := F1.at4)
    | (go_at_call 6; (with_reducible refine (c2 _ G1).mono ?_); rintro e u2 ⟨rfl, g2⟩; have G2 := gtrans G1 g2; have B2 := B1'.keep g2; have S2 := S1.keep g2; have F2 := F1.keep g2; have T2 := T1.keep g2; obtain ⟨x0', x1', x2', x3', x4'⟩ := S2.at; obtain ⟨z0, z1, z2, z3, z4⟩ := T2.at)
    | (go_at_call 7; (with_reducible refine (c3 _ G2 _ _ _ _ _ _ _ B2).mono ?_); rintro e u3 ⟨rfl, g3⟩; have G3 := gtrans G2 g3; have B3 := B2.keep g3; have F3 := F2.keep g3; have T3 := T2.keep g3; obtain ⟨m0, m1, m2, m3, m4⟩ := T3.at; obtain ⟨n0, n1, n2, n3⟩ := F3.at4)
    | (go_at_call 8; (with_reducible refine (c4 _ _ _ _ _ _ _ _ B3).mono ?_); rintro e u4 ⟨rfl, g4⟩; have G4 := gtrans G3 g4))
  go_ret
  exact ⟨rfl, G4⟩

end Go.Proofs.Ytbedpgamjaemoaa
