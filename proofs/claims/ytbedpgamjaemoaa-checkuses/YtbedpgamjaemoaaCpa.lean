/- Where a flaw stands: the entries of lists, Place of both sides. -/
import Derived.Test.YtbedpgamjaemoaaOpenQ2
import Derived.Test.YtbedpgamjaemoaaTwo
namespace Go.Proofs.Ytbedpgamjaemoaa
open Go.RowKit Go.BigFrame
set_option linter.unusedVariables false
set_option linter.unusedSimpArgs false

def entI (zs : List Int) (i : Int) : Int := if i < 0 ∨ (zs.length : Int) ≤ i then 0 else zs.getD i.toNat 0
def entR (l : List (List Int)) (i : Int) : List Int := if i < 0 ∨ (l.length : Int) ≤ i then [] else l.getD i.toNat []
set_option maxRecDepth 100000 in
set_option maxHeartbeats 4000000 in
theorem entry_int (zs : List Int) (i : Int) (hi : fI i) (hl : zs.length * 8 ≤ 140737488351232) (ao : Option Addr) (cap : Nat) (w : World) (A : IsInts w ao zs) :
    Calls Try.prog 19 #[.slice ao zs.length cap, .int .i64 i] w fun e w' => e = .returned (.int .i64 (entI zs i)) ∧ Below w.heap.size w w' := by
  obtain ⟨hi1, hi2⟩ := hi
  unfold entI
  by_cases h1 : i < 0
  · rw [if_pos (.inl h1)]
    go_enter Try.func19, Try.ntmps19
    go_wp2
    go_ret
    exact ⟨rfl, Below.refl _ _⟩
  have d1 : decide (i < 0) = false := decide_eq_false h1
  by_cases h2 : (zs.length : Int) ≤ i
  · rw [if_pos (.inr h2)]
    have d2 : decide ((zs.length : Int) ≤ i) = true := decide_eq_true h2
    go_enter Try.func19, Try.ntmps19
    go_wp2
    go_ret
    exact ⟨rfl, Below.refl _ _⟩
  rw [if_neg (by omega)]
  obtain ⟨k, rfl⟩ : ∃ k : Nat, i = (k : Int) := ⟨i.toNat, by omega⟩
  obtain ⟨g, o, rfl, x0⟩ := A k (by omega)
  have d2 : decide ((zs.length : Int) ≤ (k : Int)) = false := decide_eq_false h2
  have h3 : (k : Int) < (zs.length : Int) := by omega
  rw [Int.toNat_natCast]
  generalize zs.getD k 0 = z at *
  go_enter Try.func19, Try.ntmps19
  go_wp2
  go_ret
  exact ⟨rfl, Below.refl _ _⟩
set_option maxRecDepth 100000 in
set_option maxHeartbeats 4000000 in
theorem refEntry_any (zs : List Int) (i : Int) (hi : fI i) (hl : zs.length * 8 ≤ 140737488351232) (ao : Option Addr) (cap : Nat) (w : World) (A : IsInts w ao zs) :
    Calls Try.prog 22 #[.slice ao zs.length cap, .int .i64 i] w fun e w' => e = .returned (.int .i64 (entI zs i)) ∧ Below w.heap.size w w' := by
  obtain ⟨hi1, hi2⟩ := hi
  unfold entI
  by_cases h1 : i < 0
  · rw [if_pos (.inl h1)]
    go_enter Try.func22, Try.ntmps22
    go_wp2
    go_ret
    exact ⟨rfl, Below.refl _ _⟩
  have d1 : decide (i < 0) = false := decide_eq_false h1
  by_cases h2 : (zs.length : Int) ≤ i
  · rw [if_pos (.inr h2)]
    have d2 : decide ((zs.length : Int) ≤ i) = true := decide_eq_true h2
    go_enter Try.func22, Try.ntmps22
    go_wp2
    go_ret
    exact ⟨rfl, Below.refl _ _⟩
  rw [if_neg (by omega)]
  obtain ⟨k, rfl⟩ : ∃ k : Nat, i = (k : Int) := ⟨i.toNat, by omega⟩
  obtain ⟨g, o, rfl, x0⟩ := A k (by omega)
  have d2 : decide ((zs.length : Int) ≤ (k : Int)) = false := decide_eq_false h2
  have h3 : (k : Int) < (zs.length : Int) := by omega
  rw [Int.toNat_natCast]
  generalize zs.getD k 0 = z at *
  go_enter Try.func22, Try.ntmps22
  go_wp2
  go_ret
  exact ⟨rfl, Below.refl _ _⟩
set_option maxRecDepth 100000 in
set_option maxHeartbeats 4000000 in
theorem entry_row (l : List (List Int)) (i : Int) (hi : fI i) (hl : l.length * 24 ≤ 140737488351232) (ao : Option Addr) (cap : Nat) (w : World) (A : IsIss w ao l) :
    ∃ a c, IsInts w a (entR l i) ∧ ∀ u, Below w.heap.size w u → Calls Try.prog 20 #[.slice ao l.length cap, .int .i64 i] u fun e w' => e = .returned (.slice a (entR l i).length c) ∧ Below u.heap.size u w' := by
  obtain ⟨hi1, hi2⟩ := hi
  unfold entR
  by_cases h1 : i < 0
  · rw [if_pos (.inl h1)]
    refine ⟨none, 0, fun i hi => by simp at hi, fun u G => ?_⟩
    go_enter Try.func20, Try.ntmps20
    go_wp2
    go_ret
    exact ⟨rfl, Below.refl _ _⟩
  have d1 : decide (i < 0) = false := decide_eq_false h1
  by_cases h2 : (l.length : Int) ≤ i
  · rw [if_pos (.inr h2)]
    have d2 : decide ((l.length : Int) ≤ i) = true := decide_eq_true h2
    refine ⟨none, 0, fun i hi => by simp at hi, fun u G => ?_⟩
    go_enter Try.func20, Try.ntmps20
    go_wp2
    go_ret
    exact ⟨rfl, Below.refl _ _⟩
  rw [if_neg (by omega)]
  obtain ⟨k, rfl⟩ : ∃ k : Nat, i = (k : Int) := ⟨i.toNat, by omega⟩
  obtain ⟨g, o, a, c, rfl, xx, x1, _⟩ := A k (by omega)
  have d2 : decide ((l.length : Int) ≤ (k : Int)) = false := decide_eq_false h2
  have h3 : (k : Int) < (l.length : Int) := by omega
  rw [Int.toNat_natCast]
  generalize l.getD k [] = z at *
  refine ⟨a, c, x1, fun u G => ?_⟩
  have x0 := (G.cell (p := ⟨g, o + k, none⟩) (lt_of_cell xx)).trans xx
  go_enter Try.func20, Try.ntmps20
  go_wp2
  go_ret
  exact ⟨rfl, Below.refl _ _⟩
theorem Blk4 (w : World) (a b c d : Value) (t : TypeId) : (w.alloc (.cells #[a, b, c, d] t)).cell? ⟨w.heap.size, 2, none⟩ = some c ∧ (w.alloc (.cells #[a, b, c, d] t)).cell? ⟨w.heap.size, 3, none⟩ = some d := ⟨by simp, by simp⟩
/-- A flaw: its code, part, index, sub. -/
structure Fw where
  code : Int
  part : Int
  ix : Int
  sub : Int
structure Fw.fit (f : Fw) : Prop where
  code : fI f.code
  part : fI f.part
  ix : fI f.ix
  sub : fI f.sub
def fwA (f : Fw) : Array Value := #[.int .i64 f.code, .int .i64 f.part, .int .i64 f.ix, .int .i64 f.sub]
def plaO (s : Sps) (f : Fw) : Int :=
  if f.part = 1 then entI s.items f.ix else if f.part = 2 then s.within else if f.part = 3 then s.by_ else if f.part = 4 then entI s.wh f.ix else if f.part = 5 then entI (entR s.ret f.ix) f.sub else 0
theorem entR_small {s : Sps} (hs : s.fit) (i : Int) : (entR s.ret i).length * 8 ≤ 140737488351232 := by
  unfold entR
  split
  · simp
  · exact hs.ret _
set_option maxRecDepth 100000 in
set_option maxHeartbeats 4000000 in
theorem place_any (s : Sps) (hs : s.fit) (f : Fw) (hf : f.fit) (cs : Array Value) (ai : Option Addr) (ci : Nat) (aw : Option Addr) (cw : Nat) (ar : Option Addr) (cr : Nat) (w : World) (A : IsSp w s cs ai ci aw cw ar cr) :
    Calls Try.prog 6 #[.agg cs, .agg (fwA f)] w fun e w' => e = .returned (.int .i64 (plaO s f)) ∧ Below w.heap.size w w' := by
  obtain ⟨hf1, hf2, hf3, hf4⟩ := hf
  obtain ⟨he, Ai, Aw, Ar, _, _, _⟩ := A
  subst he
  have B0 := galloc (galloc (Below.refl w.heap.size w) (.cells #[.slice ai s.items.length ci, .slice aw s.wh.length cw, .int .i64 s.within, .int .i64 s.by_, .slice ar s.ret.length cr] 25)) (.cells (fwA f) 29)
  have c1 := fun (u : World) (g : Below w.heap.size w u) => entry_int s.items f.ix hf3 hs.n ai ci u (Ai.keep g)
  have c2 := fun (u : World) (g : Below w.heap.size w u) => entry_int s.wh f.ix hf3 hs.w aw cw u (Aw.keep g)
  obtain ⟨ae, ce, Ie, c3⟩ := entry_row s.ret f.ix hf3 hs.r ar cr w Ar
  have c4 := fun (u : World) (a : Option Addr) (c : Nat) (I : IsInts u a (entR s.ret f.ix)) => entry_int (entR s.ret f.ix) f.sub hf4 (entR_small hs _) a c u I
  have hr := hs.r
  unfold plaO
  unfold fwA
  unfold fwA at B0
  obtain ⟨fc, fp, fx, fs⟩ := f
  dsimp only at *
  obtain ⟨hx1, hx2⟩ := hf3
  obtain ⟨hp1, hp2⟩ := hf2
  by_cases h1 : fp = 1
  · subst h1
    rw [if_pos rfl]
    go_enter Try.func6, Try.ntmps6
    go_wp2_with (first | (go_at_call 19; (with_reducible refine (c1 _ B0).mono ?_); rintro e u2 ⟨rfl, g2⟩))
    go_ret
    exact ⟨rfl, gtrans B0 g2⟩
  by_cases h2 : fp = 2
  · subst h2
    rw [if_neg (by decide), if_pos rfl]
    go_enter Try.func6, Try.ntmps6
    go_wp2
    go_ret
    exact ⟨rfl, B0⟩
  by_cases h3 : fp = 3
  · subst h3
    rw [if_neg (by decide), if_neg (by decide), if_pos rfl]
    go_enter Try.func6, Try.ntmps6
    go_wp2
    go_ret
    exact ⟨rfl, B0⟩
  by_cases h4 : fp = 4
  · subst h4
    rw [if_neg (by decide), if_neg (by decide), if_neg (by decide), if_pos rfl]
    go_enter Try.func6, Try.ntmps6
    go_wp2_with (first | (go_at_call 19; (with_reducible refine (c2 _ B0).mono ?_); rintro e u2 ⟨rfl, g2⟩))
    go_ret
    exact ⟨rfl, gtrans B0 g2⟩
  by_cases h5 : fp = 5
  · subst h5
    rw [if_neg (by decide), if_neg (by decide), if_neg (by decide), if_neg (by decide), if_pos rfl]
    go_enter Try.func6, Try.ntmps6
    go_wp2
    have X2 : ((w.alloc (.cells #[.slice ai s.items.length ci, .slice aw s.wh.length cw, .int .i64 s.within, .int .i64 s.by_, .slice ar s.ret.length cr] 25)).alloc (.cells #[.int .i64 fc, .int .i64 5, .int .i64 fx, .int .i64 fs] 29)).cell? ⟨w.heap.size, 4, none⟩ = some (.slice ar s.ret.length cr) := by simp
    have X3 := Blk4 (w.alloc (.cells #[.slice ai s.items.length ci, .slice aw s.wh.length cw, .int .i64 s.within, .int .i64 s.by_, .slice ar s.ret.length cr] 25)) (.int .i64 fc) (.int .i64 5) (.int .i64 fx) (.int .i64 fs) 29
    rw [show (w.alloc (.cells #[.slice ai s.items.length ci, .slice aw s.wh.length cw, .int .i64 s.within, .int .i64 s.by_, .slice ar s.ret.length cr] 25)).heap.size = w.heap.size + 1 by simp] at X3
    generalize (w.alloc (.cells #[.slice ai s.items.length ci, .slice aw s.wh.length cw, .int .i64 s.within, .int .i64 s.by_, .slice ar s.ret.length cr] 25)).alloc (.cells #[.int .i64 fc, .int .i64 5, .int .i64 fx, .int .i64 fs] 29) = V at *
    obtain ⟨x2, x3⟩ := X3
    have hne : Nonempty (Ext V) := ⟨⟨_, Below.refl _ _⟩⟩
    have p4 := fun z : Ext V => (z.cell _ _ (lt_of_cell X2)).trans X2
    have p2 := fun z : Ext V => (z.cell _ _ (lt_of_cell x2)).trans x2
    have p3 := fun z : Ext V => (z.cell _ _ (lt_of_cell x3)).trans x3
    have y1 := fun z : Ext V => ext_of (c3 z.X (gtrans B0 z.h))
    have y2 := fun z : Ext V => ext_of (c4 z.X ae ce (Ie.keep (gtrans B0 z.h)))
    refine wp_region_ext (by kernel_rfl) (by kernel_rfl) ?_
    repeat (go_big_quiet_step (first | (go_at_call 20; with_reducible exact y1 _) | (go_at_call 19; with_reducible exact y2 _)))
    refine wpQuiet_nil ?_
    intro _ hw'
    obtain ⟨nx2, hw''⟩ := hw'
    subst hw''
    go_wp2
    go_ret
    exact ⟨rfl, gtrans B0 nx2.h⟩
  rw [if_neg h1, if_neg h2, if_neg h3, if_neg h4, if_neg h5]
  have b1 : (fp == 1) = false := beq_eq_false_iff_ne.2 h1
  have b2 : (fp == 2) = false := beq_eq_false_iff_ne.2 h2
  have b3 : (fp == 3) = false := beq_eq_false_iff_ne.2 h3
  have b4 : (fp == 4) = false := beq_eq_false_iff_ne.2 h4
  have b5 : (fp == 5) = false := beq_eq_false_iff_ne.2 h5
  go_enter Try.func6, Try.ntmps6
  go_wp2
  go_ret
  exact ⟨rfl, B0⟩
set_option maxRecDepth 100000 in
set_option maxHeartbeats 4000000 in
theorem refPlace_any (s : Sps) (hs : s.fit) (f : Fw) (hf : f.fit) (cs : Array Value) (ai : Option Addr) (ci : Nat) (aw : Option Addr) (cw : Nat) (ar : Option Addr) (cr : Nat) (w : World) (A : IsSp w s cs ai ci aw cw ar cr) :
    Calls Try.prog 8 #[.agg cs, .agg (fwA f)] w fun e w' => e = .returned (.int .i64 (plaO s f)) ∧ Below w.heap.size w w' := by
  obtain ⟨hf1, hf2, hf3, hf4⟩ := hf
  obtain ⟨he, Ai, Aw, Ar, _, _, _⟩ := A
  subst he
  have B0 := galloc (galloc (Below.refl w.heap.size w) (.cells #[.slice ai s.items.length ci, .slice aw s.wh.length cw, .int .i64 s.within, .int .i64 s.by_, .slice ar s.ret.length cr] 25)) (.cells (fwA f) 29)
  have c1 := fun (u : World) (g : Below w.heap.size w u) => refEntry_any s.items f.ix hf3 hs.n ai ci u (Ai.keep g)
  have c2 := fun (u : World) (g : Below w.heap.size w u) => refEntry_any s.wh f.ix hf3 hs.w aw cw u (Aw.keep g)
  have hr := hs.r
  unfold plaO
  unfold fwA
  unfold fwA at B0
  obtain ⟨fc, fp, fx, fs⟩ := f
  dsimp only at *
  obtain ⟨hx1, hx2⟩ := hf3
  obtain ⟨hp1, hp2⟩ := hf2
  by_cases h1 : fp = 1
  · subst h1
    rw [if_pos rfl]
    go_enter Try.func8, Try.ntmps8
    go_wp2_with (first | (go_at_call 22; (with_reducible refine (c1 _ B0).mono ?_); rintro e u2 ⟨rfl, g2⟩))
    go_ret
    exact ⟨rfl, gtrans B0 g2⟩
  by_cases h2 : fp = 2
  · subst h2
    rw [if_neg (by decide), if_pos rfl]
    go_enter Try.func8, Try.ntmps8
    go_wp2
    go_ret
    exact ⟨rfl, B0⟩
  by_cases h3 : fp = 3
  · subst h3
    rw [if_neg (by decide), if_neg (by decide), if_pos rfl]
    go_enter Try.func8, Try.ntmps8
    go_wp2
    go_ret
    exact ⟨rfl, B0⟩
  by_cases h4 : fp = 4
  · subst h4
    rw [if_neg (by decide), if_neg (by decide), if_neg (by decide), if_pos rfl]
    go_enter Try.func8, Try.ntmps8
    go_wp2_with (first | (go_at_call 22; (with_reducible refine (c2 _ B0).mono ?_); rintro e u2 ⟨rfl, g2⟩))
    go_ret
    exact ⟨rfl, gtrans B0 g2⟩
  by_cases h5 : fp = 5
  · subst h5
    rw [if_neg (by decide), if_neg (by decide), if_neg (by decide), if_neg (by decide), if_pos rfl]
    unfold entR
    by_cases k1 : fx < 0
    · rw [if_pos (.inl k1), show entI [] fs = 0 by unfold entI; split <;> simp]
      go_enter Try.func8, Try.ntmps8
      go_wp2
      go_ret
      exact ⟨rfl, B0⟩
    have d1 : decide (fx < 0) = false := decide_eq_false k1
    by_cases k2 : (s.ret.length : Int) ≤ fx
    · rw [if_pos (.inr k2), show entI [] fs = 0 by unfold entI; split <;> simp]
      have d2 : decide ((s.ret.length : Int) ≤ fx) = true := decide_eq_true k2
      go_enter Try.func8, Try.ntmps8
      go_wp2
      go_ret
      exact ⟨rfl, B0⟩
    rw [if_neg (by omega)]
    obtain ⟨k, rfl⟩ : ∃ k : Nat, fx = (k : Int) := ⟨fx.toNat, by omega⟩
    obtain ⟨g, o, a, c, rfl, xx, x2, _⟩ := Ar k (by omega)
    have x0 := (B0.cell (p := ⟨g, o + k, none⟩) (lt_of_cell xx)).trans xx
    have d2 : decide ((s.ret.length : Int) ≤ (k : Int)) = false := decide_eq_false k2
    have k3 : (k : Int) < (s.ret.length : Int) := by omega
    rw [Int.toNat_natCast]
    have hsk := hs.ret k
    generalize s.ret.getD k [] = rk at *
    have c5 := fun (u : World) (G : Below w.heap.size w u) => refEntry_any rk fs hf4 hsk a c u (x2.keep G)
    clear x0
    go_enter Try.func8, Try.ntmps8
    go_wp2
    have X2 : ((w.alloc (.cells #[.slice ai s.items.length ci, .slice aw s.wh.length cw, .int .i64 s.within, .int .i64 s.by_, .slice (some ⟨g, o, none⟩) s.ret.length cr] 25)).alloc (.cells #[.int .i64 fc, .int .i64 5, .int .i64 k, .int .i64 fs] 29)).cell? ⟨w.heap.size, 4, none⟩ = some (.slice (some ⟨g, o, none⟩) s.ret.length cr) := by simp
    have X3 := Blk4 (w.alloc (.cells #[.slice ai s.items.length ci, .slice aw s.wh.length cw, .int .i64 s.within, .int .i64 s.by_, .slice (some ⟨g, o, none⟩) s.ret.length cr] 25)) (.int .i64 fc) (.int .i64 5) (.int .i64 k) (.int .i64 fs) 29
    rw [show (w.alloc (.cells #[.slice ai s.items.length ci, .slice aw s.wh.length cw, .int .i64 s.within, .int .i64 s.by_, .slice (some ⟨g, o, none⟩) s.ret.length cr] 25)).heap.size = w.heap.size + 1 by simp] at X3
    generalize (w.alloc (.cells #[.slice ai s.items.length ci, .slice aw s.wh.length cw, .int .i64 s.within, .int .i64 s.by_, .slice (some ⟨g, o, none⟩) s.ret.length cr] 25)).alloc (.cells #[.int .i64 fc, .int .i64 5, .int .i64 k, .int .i64 fs] 29) = V at *
    obtain ⟨y2, x3⟩ := X3
    have hne : Nonempty (Ext V) := ⟨⟨_, Below.refl _ _⟩⟩
    have p4 := fun z : Ext V => (z.cell _ _ (lt_of_cell X2)).trans X2
    have p2 := fun z : Ext V => (z.cell _ _ (lt_of_cell y2)).trans y2
    have p3 := fun z : Ext V => (z.cell _ _ (lt_of_cell x3)).trans x3
    have x0 := (B0.cell (p := ⟨g, o + k, none⟩) (lt_of_cell xx)).trans xx
    have p0 := fun z : Ext V => (z.cell _ _ (lt_of_cell x0)).trans x0
    have z2 := fun z : Ext V => ext_of (c5 z.X (gtrans B0 z.h))
    refine wp_region_ext (by kernel_rfl) (by kernel_rfl) ?_
    repeat (go_big_quiet_step (first | (go_at_call 22; with_reducible exact z2 _)))
    refine wpQuiet_nil ?_
    intro _ hw'
    obtain ⟨nx2, hw''⟩ := hw'
    subst hw''
    go_wp2
    go_ret
    exact ⟨rfl, gtrans B0 nx2.h⟩
  rw [if_neg h1, if_neg h2, if_neg h3, if_neg h4, if_neg h5]
  have b1 : (fp == 1) = false := beq_eq_false_iff_ne.2 h1
  have b2 : (fp == 2) = false := beq_eq_false_iff_ne.2 h2
  have b3 : (fp == 3) = false := beq_eq_false_iff_ne.2 h3
  have b4 : (fp == 4) = false := beq_eq_false_iff_ne.2 h4
  have b5 : (fp == 5) = false := beq_eq_false_iff_ne.2 h5
  go_enter Try.func8, Try.ntmps8
  go_wp2
  go_ret
  exact ⟨rfl, B0⟩

end Go.Proofs.Ytbedpgamjaemoaa
