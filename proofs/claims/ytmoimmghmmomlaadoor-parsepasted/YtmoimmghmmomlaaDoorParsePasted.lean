/- For every text the law ParsePasted returns true: what Expr takes by itself is taken behind a WHERE and behind a RETURN, the same tree, at places that are greater by what stands ahead; what it calls too deep is too deep there. The listed variables hold what their texts lay (the card ties that to the text). No other condition. -/
import Derived.Test.YtmoimmghmmomlaaDoorPsc
import Derived.Test.YtmoimmghmmomlaaDoorEr
import Derived.Test.YtmoimmghmmomlaaDoorCards
import Derived.Test.YtmoimmghmmomlaaDoorTie
import Derived.Deep.RegionHeld3
import Derived.Carry
import Derived.ChangeMaps5
import Derived.SizedLaws
import Derived.Lib.SmallJoins
import Derived.Deep.DeepHandedRow
import Derived.Lay
namespace Go.Proofs.YtmoimmghmmomlaaDoor.parsePasted
open Go.ChangeShapes Go.WideShapes Go.ChangeAt Go.RowKit Go.BigFrame
set_option linter.unusedVariables false
set_option linter.unusedSimpArgs false

theorem shapes {w : World} {b : Nat} {q : Qy} {s : Sps} {vi vw vr si sw sr : Value} (R : Hid (QRows w b q s vi vw vr si sw sr)) :
    ∃ o1 n1 p1 o2 n2 p2 o3 n3 p3 o4 n4 p4 o5 n5 p5 o6 n6 p6, vi = .slice o1 n1 p1 ∧ vw = .slice o2 n2 p2 ∧ vr = .slice o3 n3 p3 ∧ si = .slice o4 n4 p4 ∧ sw = .slice o5 n5 p5 ∧ sr = .slice o6 n6 p6 := by
  have R := R.out
  obtain ⟨l1, n1, e1⟩ := R.its
  obtain ⟨l2, n2, e2, _⟩ := R.ret
  obtain ⟨l3, n3, e3, _⟩ := R.sre
  obtain ⟨o1, p1, r1⟩ := own_shape n1.out
  obtain ⟨o2, p2, r2⟩ := own_shape R.wh
  obtain ⟨o3, p3, r3⟩ := own_shape n2.out
  obtain ⟨o4, p4, r4⟩ := own_shape R.sit
  obtain ⟨o5, p5, r5⟩ := own_shape R.swh
  obtain ⟨o6, p6, r6⟩ := own_shape n3.out
  exact ⟨o1, _, p1, o2, _, p2, o3, _, p3, o4, _, p4, o5, _, p5, o6, _, p6, r1, r2, r3, r4, r5, r6⟩
/-- The one result, and its places. -/
theorem ones {w : World} {b : Nat} {q : Qy} {s : Sps} {vi vw vr si sw sr : Value} {ns : List Nd} {sp : List Int} (R : Hid (QRows w b q s vi vw vr si sw sr)) (hq : q.ret = [ns]) (hs : s.ret = [sp]) :
    ∃ g c o n p g' c' o' n' p', vr = .slice (some ⟨g, 0, none⟩) 1 c ∧ sr = .slice (some ⟨g', 0, none⟩) 1 c' ∧ g < w.heap.size ∧ g' < w.heap.size ∧ w.cell? ⟨g, 0, none⟩ = some (.slice o n p) ∧ w.cell? ⟨g', 0, none⟩ = some (.slice o' n' p') ∧
      Hid (w.ownsRow b 58 6 (.slice o n p) ns.length (ndsV ns)) ∧ Hid (w.ownsRow b 3 1 (.slice o' n' p') sp.length (intsV sp)) := by
  have R := R.out
  obtain ⟨l2, n2, e2, _⟩ := R.ret
  obtain ⟨l3, n3, e3, _⟩ := R.sre
  rw [hq] at e2
  rw [hs] at e3
  match l2, e2 with
  | [(a, x)], e2 =>
    match l3, e3 with
    | [(a', x')], e3 =>
      simp only [List.map_cons, List.map_nil, List.cons.injEq, and_true] at e2 e3
      subst e2
      subst e3
      have h1 := n2.inn (a, x) (by simp)
      have h2 := n3.inn (a', x') (by simp)
      obtain ⟨o, p, rx⟩ := own_shape h1
      obtain ⟨o', p', rx'⟩ := own_shape h2
      have k1 : w.ownsRow b 22 1 vr 1 [x] := n2.out
      have k2 : w.ownsRow b 31 1 sr 1 [x'] := n3.out
      obtain ⟨ao, c, r1⟩ := own_shape k1
      obtain ⟨bo, c', r2⟩ := own_shape k2
      subst r1
      subst r2
      obtain ⟨g, rfl, hg⟩ := own_addr k1 (by decide)
      obtain ⟨g', rfl, hg'⟩ := own_addr k2 (by decide)
      have y1 := World.ownsRow.cellAt k1 0 (by decide)
      have y2 := World.ownsRow.cellAt k2 0 (by decide)
      dsimp only at rx rx' h1 h2
      subst rx
      subst rx'
      exact ⟨g, c, o, _, p, g', c', o', _, p', rfl, rfl, hg, hg', y1, y2, h1, h2⟩
theorem cells_two (u v : World) (cq cs : Array Value) (g : Below ((u.alloc (.cells cq 39)).alloc (.cells cs 42)).heap.size ((u.alloc (.cells cq 39)).alloc (.cells cs 42)) v) :
    (∀ k, v.cell? ⟨u.heap.size, k, none⟩ = cq[k]?) ∧ (∀ k, v.cell? ⟨u.heap.size + 1, k, none⟩ = cs[k]?) ∧ u.heap.size + 1 < v.heap.size ∧ Below u.heap.size u v := by
  have X0 := heap_two u (.cells cq 39) (.cells cs 42) _ rfl
  have X1 : ((u.alloc (.cells cq 39)).alloc (.cells cs 42)).heap[u.heap.size + 1]? = some (.cells cs 42 (0, 0)) := by
    have hz : (u.alloc (.cells cq 39)).heap.size = u.heap.size + 1 := by simp
    rw [← hz]
    exact heap_alloc_new _ _
  have h0 := (g.block _ (lt_of_block X0)).trans X0
  have h1 := (g.block _ (lt_of_block X1)).trans X1
  exact ⟨fun k => by simp [World.cell?, h0], fun k => by simp [World.cell?, h1], lt_of_block h1, gtrans (galloc (galloc (Below.refl _ _) _) _) g⟩

set_option maxRecDepth 100000 in
set_option maxHeartbeats 8000000 in
theorem walk (s : ByteArray) (hs : s.size ≤ 140737488351232) (w : World) (K : KwAt w) (Sg : SgAt w) (E : ErAt w) : Calls Tryd.prog 4 #[.string s] w fun e w' => e = .returned (.bool true) ∧ Below w.heap.size w w' := by
  have c0 := awake_any w K Sg E
  have hz : (whS s).size = 23 + s.size + 17 + s.size := by unfold whS; rw [app_size, app_size, app_size]; rfl
  have c1 := fun (u : World) (g : Below w.heap.size w u) => lexLex_any (whS s) (by omega) u (K.keep g) (Sg.keep g) (E.keep g)
  by_cases hW : (lexO (whS s)).2.1 = 0
  · have hw8 : (whS s).size ≤ 8192 := by
      rcases Nat.lt_or_ge 8192 (whS s).size with h | h
      · unfold lexO at hW; rw [if_pos h] at hW; exact absurd hW (by decide)
      · exact h
    have P := pasted s hW
    have hx0 := exO_inn s
    have hx1 := exO_deep s
    have hsp0 := exO_len s
    have c2 := fun (u : World) (g : Below w.heap.size w u) => expr_call s hs u (K.keep g) (Sg.keep g) (E.keep g)
    have c3 := fun (u : World) (g : Below w.heap.size w u) => parse_call (whS s) (by omega) u (K.keep g) (Sg.keep g) (E.keep g)
    generalize exO s = x at *
    obtain ⟨ns, sp, ec, ep⟩ := x
    generalize paO (whS s) = y at *
    obtain ⟨q, sps, cd, pl⟩ := y
    generalize lexO (whS s) = z at *
    obtain ⟨ts, lc, lp⟩ := z
    dsimp only at *
    subst hW
    have hz8 : 23 + s.size + 17 + s.size ≤ 8192 := by omega
    unfold whS frS bkS at c1 c3
    clear hz hw8
    replace c3 : ∀ u, Below w.heap.size w u → Calls Tryd.prog 14 #[.string (⟨#[80, 65, 84, 84, 69, 82, 78, 32, 83, 69, 81, 40, 65, 32, 97, 41, 32, 87, 72, 69, 82, 69, 32]⟩ ++ s ++ ⟨#[10, 87, 73, 84, 72, 73, 78, 32, 53, 32, 82, 69, 84, 85, 82, 78, 32]⟩ ++ s)] u fun e w' => ∃ vi vw vr si sw sr, e = .returned (.tuple #[.agg #[vi, .int .i64 q.mode, .int .i64 q.after, vw, .int .i64 q.within, .string q.by_, vr], .agg #[si, sw, .int .i64 sps.within, .int .i64 sps.by_, sr], .int .i64 cd, .int .i64 pl]) ∧ Hid (QRows w' u.heap.size q sps vi vw vr si sw sr) ∧ Below u.heap.size u w' := c3
    by_cases h41 : ec = 41
    · obtain ⟨rfl, rfl⟩ := P.1 h41
      obtain ⟨hp0, hp1⟩ := hx1 h41
      subst h41
      go_enter Tryd.func4, Tryd.ntmps4
      go_wp2_with (first
        | (go_at_call 11; (with_reducible refine c0.mono ?_); rintro e u ⟨rfl, g0⟩)
        | (go_at_call 12; (with_reducible refine (c1 _ g0).mono ?_); rintro e u1 ⟨v1, rfl, _, g1⟩; have G1 := gtrans g0 g1)
        | (go_at_call 13; (with_reducible refine (c2 _ G1).mono ?_); rintro e u2 ⟨x1, x2, rfl, N1, N2, g2⟩; obtain ⟨a1, k1, rfl⟩ := own_shape N1; obtain ⟨a2, k2, rfl⟩ := own_shape N2; have G2 := gtrans G1 g2)
        | (go_at_call 14; (with_reducible refine (c3 _ G2).mono ?_); rintro e u3 ⟨vi, vw, vr, si, sw, sr, rfl, RW, g3⟩; obtain ⟨o1, n1, p1, o2, n2, p2, o3, n3, p3, o4, n4, p4, o5, n5, p5, o6, n6, p6, rfl, rfl, rfl, rfl, rfl, rfl⟩ := shapes RW; have G3 := gtrans G2 g3))
      go_ret
      exact ⟨rfl, galloc (galloc G3 _) _⟩
    by_cases h0 : ec ≠ 0
    · have b41 : (ec == 41) = false := beq_eq_false_iff_ne.2 h41
      have b0 : (ec == 0) = false := beq_eq_false_iff_ne.2 h0
      go_enter Tryd.func4, Tryd.ntmps4
      go_wp2_with (first
        | (go_at_call 11; (with_reducible refine c0.mono ?_); rintro e u ⟨rfl, g0⟩)
        | (go_at_call 12; (with_reducible refine (c1 _ g0).mono ?_); rintro e u1 ⟨v1, rfl, _, g1⟩; have G1 := gtrans g0 g1)
        | (go_at_call 13; (with_reducible refine (c2 _ G1).mono ?_); rintro e u2 ⟨x1, x2, rfl, N1, N2, g2⟩; obtain ⟨a1, k1, rfl⟩ := own_shape N1; obtain ⟨a2, k2, rfl⟩ := own_shape N2; have G2 := gtrans G1 g2)
        | (go_at_call 14; (with_reducible refine (c3 _ G2).mono ?_); rintro e u3 ⟨vi, vw, vr, si, sw, sr, rfl, RW, g3⟩; obtain ⟨o1, n1, p1, o2, n2, p2, o3, n3, p3, o4, n4, p4, o5, n5, p5, o6, n6, p6, rfl, rfl, rfl, rfl, rfl, rfl⟩ := shapes RW; have G3 := gtrans G2 g3))
      go_ret
      exact ⟨rfl, galloc (galloc G3 _) _⟩
    obtain rfl : ec = 0 := Classical.not_not.1 h0
    have hP := P.2 rfl
    simp only [Prod.mk.injEq] at hP
    obtain ⟨rfl, rfl, rfl, rfl⟩ := hP
    dsimp only at *
    clear P h41 h0 hx1
    replace hx0 := hx0 rfl
    have hsp : sp.length ≤ 100000000 := by omega
    have c4 := fun (u : World) (b1 b2 : Nat) (v1 v2 : Value) (A : u.ownsRow b1 58 6 v1 ns.length (ndsV ns)) (B : u.ownsRow b2 58 6 v2 ns.length (ndsV ns)) => sameNodes_true ns b1 b2 v1 v2 u A B
    have c5 := fun (u : World) (b1 : Nat) (v1 : Value) (A : u.ownsRow b1 3 1 v1 sp.length (intsV sp)) => moved_any sp hsp hx0 23 (by decide) b1 v1 u A
    have c6 := fun (u : World) (b1 : Nat) (v1 : Value) (A : u.ownsRow b1 3 1 v1 sp.length (intsV sp)) => moved_any sp hsp hx0 (40 + s.size) (by omega) b1 v1 u A
    go_enter Tryd.func4, Tryd.ntmps4
    go_wp2_with (first
      | (go_at_call 11; (with_reducible refine c0.mono ?_); rintro e u ⟨rfl, g0⟩)
      | (go_at_call 12; (with_reducible refine (c1 _ g0).mono ?_); rintro e u1 ⟨v1, rfl, _, g1⟩; have G1 := gtrans g0 g1)
      | (go_at_call 13; (with_reducible refine (c2 _ G1).mono ?_); rintro e u2 ⟨x1, x2, rfl, N1, N2, g2⟩; obtain ⟨a1, k1, rfl⟩ := own_shape N1; obtain ⟨a2, k2, rfl⟩ := own_shape N2; have G2 := gtrans G1 g2)
      | (go_at_call 14; (with_reducible refine (c3 _ G2).mono ?_); rintro e u3 ⟨vi, vw, vr, si, sw, sr, rfl, RW, g3⟩; obtain ⟨g7, c7, o7, m7, p7, g8, c8, o8, m8, p8, rfl, rfl, l7, l8, y7, y8, H7, H8⟩ := ones RW rfl rfl; obtain ⟨o1, n1, p1, o2, n2, p2, o3, n3, p3, o4, n4, p4, o5, n5, p5, o6, n6, p6, rfl, rfl, _, rfl, rfl, _⟩ := shapes RW; have G3 := gtrans G2 g3)
      | (go_at_call 15; (with_reducible refine (c4 _ _ _ _ _ (own_keep RW.out.wh (galloc (galloc (Below.refl _ _) _) _)) (own_keep (own_keep N1 g3) (galloc (galloc (Below.refl _ _) _) _))).mono ?_); rintro e u4 ⟨rfl, g4'⟩; obtain ⟨xx, yy, hl4, g4⟩ := cells_two _ _ _ _ g4'; have q6 : u4.cell? ⟨u3.heap.size, 6, none⟩ = some (.slice (some ⟨g7, 0, none⟩) 1 c7) := xx 6; have s1 : u4.cell? ⟨u3.heap.size + 1, 1, none⟩ = some (.slice o5 n5 p5) := yy 1; have s4 : u4.cell? ⟨u3.heap.size + 1, 4, none⟩ = some (.slice (some ⟨g8, 0, none⟩) 1 c8) := yy 4; have z7 := (g4.cell (p := ⟨_, _, none⟩) l7).trans y7; have z8 := (g4.cell (p := ⟨_, _, none⟩) l8).trans y8; clear xx yy)
      | (go_at_call 15; (with_reducible refine (c4 _ _ _ _ _ (own_keep H7.out g4) (own_keep (own_keep N1 g3) g4)).mono ?_); rintro e u5 ⟨rfl, g5⟩; have s1' := (g5.cell (p := ⟨_, _, none⟩) hl4).trans s1; have s4' := (g5.cell (p := ⟨_, _, none⟩) hl4).trans s4; have z8' := (g5.cell (p := ⟨_, _, none⟩) (lt_of_cell z8)).trans z8))
    have N5 := own_keep (own_keep (own_keep N2 g3) g4) g5
    have W5 := own_keep (own_keep RW.out.swh g4) g5
    have R5 := own_keep (own_keep H8.out g4) g5
    have G5 := gtrans (gtrans G3 g4) g5
    have hl5 : u3.heap.size + 1 < u5.heap.size := Nat.lt_of_lt_of_le hl4 g5.size
    have l85 : g8 < u5.heap.size := Nat.lt_of_lt_of_le (Nat.lt_of_lt_of_le l8 g4.size) g5.size
    replace W5 : u5.ownsRow u2.heap.size 3 1 (.slice o5 n5 p5) (movL 23 sp).length (intsV (movL 23 sp)) := W5
    have hmm : sp.map (· + (40 + (s.size : Int))) = movL (40 + s.size) sp := by
      unfold movL
      apply List.map_congr_left
      intro x _
      omega
    have R6 : Hid (u5.ownsRow u2.heap.size 3 1 (.slice o8 m8 p8) (movL (40 + s.size) sp).length (intsV (movL (40 + s.size) sp))) := by
      show u5.ownsRow _ _ _ _ _ _
      rw [← hmm]
      exact R5
    have hml : ∀ d, (movL d sp).length = sp.length := fun d => by simp [movL]
    have cI7 := fun (u : World) (b1 b2 : Nat) (v1 v2 : Value) (A : u.ownsRow b1 3 1 v1 (movL 23 sp).length (intsV (movL 23 sp))) (B : u.ownsRow b2 3 1 v2 (movL 23 sp).length (intsV (movL 23 sp))) => sameInts_true (movL 23 sp) b1 b2 v1 v2 u A B
    have cI8 := fun (u : World) (b1 b2 : Nat) (v1 v2 : Value) (A : u.ownsRow b1 3 1 v1 (movL (40 + s.size) sp).length (intsV (movL (40 + s.size) sp))) (B : u.ownsRow b2 3 1 v2 (movL (40 + s.size) sp).length (intsV (movL (40 + s.size) sp))) => sameInts_true (movL (40 + s.size) sp) b1 b2 v1 v2 u A B
    replace c6 : ∀ (u : World) (b1 : Nat) (v1 : Value) (A : u.ownsRow b1 3 1 v1 sp.length (intsV sp)), Calls Tryd.prog 17 #[v1, .int .i64 (IntKind.i64.wrap (IntKind.i64.wrap (23 + (s.size : Int)) + 17))] u fun e w' => ∃ v, e = .returned v ∧ w'.ownsRow u.heap.size 3 1 v sp.length (intsV (movL (40 + s.size) sp)) ∧ Below u.heap.size u w' := fun u b1 v1 A => by
      have h := c6 u b1 v1 A
      rw [show ((40 + s.size : Nat) : Int) = IntKind.i64.wrap (IntKind.i64.wrap (23 + (s.size : Int)) + 17) by rw [IntKind.wrap_i64, IntKind.wrap_i64]; omega] at h
      exact h
    replace c5 : ∀ (u : World) (b1 : Nat) (v1 : Value) (A : u.ownsRow b1 3 1 v1 sp.length (intsV sp)), Calls Tryd.prog 17 #[v1, .int .i64 23] u fun e w' => ∃ v, e = .returned v ∧ w'.ownsRow u.heap.size 3 1 v sp.length (intsV (movL 23 sp)) ∧ Below u.heap.size u w' := c5
    clear c0 c1 c2 c3 c4 N1 N2 RW H7 H8 R5 hmm hx0 hsp0
    have hfrZ : frS.size = 23 := rfl
    have hbkZ : bkS.size = 17 := rfl
    change Code.wp _ _ _ _ _
    generalize hfrE : (⟨#[80, 65, 84, 84, 69, 82, 78, 32, 83, 69, 81, 40, 65, 32, 97, 41, 32, 87, 72, 69, 82, 69, 32]⟩ : ByteArray) = fr
    generalize hbkE : (⟨#[10, 87, 73, 84, 72, 73, 78, 32, 53, 32, 82, 69, 84, 85, 82, 78, 32]⟩ : ByteArray) = bk
    replace hfrZ : fr.size = 23 := by rw [← hfrE]; rfl
    replace hbkZ : bk.size = 17 := by rw [← hbkE]; rfl
    generalize fr ++ s ++ bk ++ s = w4
    generalize fr ++ s ++ bk = w3
    generalize fr ++ s = w2
    clear hfrE hbkE
    clear hs K Sg E hl4 l7 l8 y7 y8 z7 z8 q6 s1 s4 g0 g1 g2 g3 g4 g5 G1 G2 G3
    have hS5 : u5.drew.cell? ⟨u3.heap.size + 1, 1, none⟩ = some (.slice o5 n5 p5) ∧ u5.drew.cell? ⟨u3.heap.size + 1, 4, none⟩ = some (.slice (some ⟨g8, 0, none⟩) 1 c8) ∧ u5.drew.cell? ⟨g8, 0, none⟩ = some (.slice o8 m8 p8) := ⟨s1', s4', z8'⟩
    have hSn : ∀ u, Below u5.heap.size u5 u → u.cell? ⟨u3.heap.size + 1, 1, none⟩ = some (.slice o5 n5 p5) ∧ u.cell? ⟨u3.heap.size + 1, 4, none⟩ = some (.slice (some ⟨g8, 0, none⟩) 1 c8) ∧ u.cell? ⟨g8, 0, none⟩ = some (.slice o8 m8 p8) := fun u g => ⟨(g.cell (p := ⟨_, _, none⟩) hl5).trans s1', (g.cell (p := ⟨_, _, none⟩) hl5).trans s4', (g.cell (p := ⟨_, _, none⟩) l85).trans z8'⟩
    clear s1' s4' z8'
    go_region_held3 (fun X : World => X.cell? ⟨u3.heap.size + 1, 1, none⟩ = some (.slice o5 n5 p5) ∧ X.cell? ⟨u3.heap.size + 1, 4, none⟩ = some (.slice (some ⟨g8, 0, none⟩) 1 c8) ∧ X.cell? ⟨g8, 0, none⟩ = some (.slice o8 m8 p8)) (first | (with_reducible exact hS5) | (with_reducible exact hS6) | (with_reducible exact hS7) | (with_reducible exact hS8) | (with_reducible exact hS9)) (first
      | (go_at_call 17; (with_reducible refine (c5 _ _ _ N5.drew).mono ?_); rintro e u6 ⟨v6, rfl, O6, g6'⟩; have g6 := gtrans (Below.refl u5.heap.size u5).drew g6'; obtain ⟨a6, k6, rfl⟩ := own_shape O6; have hS6 := hSn _ g6)
      | (go_at_call 16; (with_reducible refine (cI7 _ _ _ _ _ (own_keep W5 g6) (by rw [hml]; exact O6)).mono ?_); rintro e u7 ⟨rfl, g7'⟩; have gg7 := gtrans g6 g7'; have hS7 := hSn _ gg7)
      | (go_at_call 17; (with_reducible refine (c6 _ _ _ (own_keep N5 gg7)).mono ?_); rintro e u8 ⟨v8, rfl, O8, g8'⟩; have g8x := gtrans gg7 g8'; obtain ⟨a8, k8, rfl⟩ := own_shape O8; have hS8 := hSn _ g8x)
      | (go_at_call 16; (with_reducible refine (cI8 _ _ _ _ _ (own_keep R6.out g8x) (by rw [hml]; exact O8)).mono ?_); rintro e u9 ⟨rfl, g9'⟩; have g9 := gtrans g8x g9'; have hS9 := hSn _ g9))
    all_goals
      go_wp2
      go_ret
      exact ⟨rfl, gtrans G5 g9⟩
  · have hWb : ((lexO (whS s)).2.1 == 0) = false := beq_eq_false_iff_ne.2 hW
    generalize lexO (whS s) = z at *
    obtain ⟨ts, lc, lp⟩ := z
    dsimp only at *
    unfold whS frS bkS at c1
    clear hz
    go_enter Tryd.func4, Tryd.ntmps4
    go_wp2_with (first
      | (go_at_call 11; (with_reducible refine c0.mono ?_); rintro e u ⟨rfl, g0⟩)
      | (go_at_call 12; (with_reducible refine (c1 _ g0).mono ?_); rintro e u1 ⟨v1, rfl, _, g1⟩))
    go_ret
    exact ⟨rfl, gtrans g0 g1⟩

theorem own : ownKnob Tryd.prog.godebug = none := by kernel_rfl
theorem laidOut : laidOutB Tryd.prog = true := by kernel_rfl

theorem gKw : Tryd.prog.globalNamed "sluice/api.Keywords" = some 1 := by kernel_rfl
theorem tabs {W : World} (h : laidMetH Tryd.prog Rows.parsePastedRow.laid W) : KwAt W := by
  have h0 : laidMet Tryd.prog Rows.parsePastedRow.laid W := (Go.MakeChecks.laidMetH_plain _ _ _ (by kernel_rfl)).mp h
  exact kwAt_of (tabS (bss := kwl) gKw (by kernel_rfl) Tryd.underlying126 Tryd.underlying9 (by kernel_rfl) (laidMet_tail (laidMet_tail (laidMet_tail (laidMet_tail (laidMet_tail h0))))))
theorem gSg : Tryd.prog.globalNamed "sluice/lex.signs" = some 2 := by kernel_rfl
theorem tabSg {W : World} (h : laidMetH Tryd.prog Rows.parsePastedRow.laid W) : SgAt W := by
  have h0 : laidMet Tryd.prog Rows.parsePastedRow.laid W := (Go.MakeChecks.laidMetH_plain _ _ _ (by kernel_rfl)).mp h
  exact sgAt_of (tabS (bss := sgl) gSg (by kernel_rfl) Tryd.underlying128 Tryd.underlying9 (by kernel_rfl) (laidMet_tail (laidMet_tail (laidMet_tail (laidMet_tail (laidMet_tail (laidMet_tail h0)))))))
theorem gEr : Tryd.prog.globalNamed "strconv.ErrRange" = some 8 := by kernel_rfl
theorem tabE {W : World} (h : laidMetH Tryd.prog Rows.parsePastedRow.laid W) : ErAt W := by
  have h0 : laidMet Tryd.prog Rows.parsePastedRow.laid W := (Go.MakeChecks.laidMetH_plain _ _ _ (by kernel_rfl)).mp h
  exact ifaceAt gEr (by kernel_rfl) ⟨_, Tryd.underlying101⟩ (laidMet_tail (laidMet_tail (laidMet_tail h0)))

set_option maxRecDepth 100000 in
theorem contract (H : Type) (enc : TypeId × Value → H) (W : World) (base : Nat) (args : Array Value) (ds gs : List (DataW H)) (before : List MemPlace)
    (hval : ∀ (j : Nat) t v, Tryd.f4.params[j]? = some t → args[j]? = some v → Value.okWide Tryd.prog W .any base t v)
    (hsz : (DataW.weightsEach Tryd.prog (Tryd.f4.params.toList ++ Rows.parsePastedSpec.plain.varTypes Tryd.prog) (ds ++ gs)).all (· ≤ reachBytes) = true)
    (hW : DataW.Whole enc Tryd.prog Tryd.f4.params.toList Rows.parsePastedSpec.vars false W args.toList ds gs before) (hL : laidMetH Tryd.prog Rows.parsePastedRow.laid W) :
    Calls Tryd.prog 4 args W fun e W' => ∃ v, e = .returned v ∧ Rows.parsePastedSpec.post enc Tryd.prog Tryd.f4 false true false false W args v W' := by
  have hW' := hW
  obtain ⟨p, q, hA0, hV, rfl, hfz, hnd⟩ := hW
  have hA : DataW.TrodAll enc Tryd.prog W 0 (fun _ => true) true Tryd.f4.params.toList args.toList ds p := hA0
  rw [Tryd.params4] at hA hval hsz
  obtain ⟨v0, vs0, d0, ds0, p0, q0, hargs, rfl, rfl, h0, r0⟩ := trodAll_cons hA
  obtain ⟨rfl, rfl, rfl⟩ := trodAll_nil r0
  obtain rfl : args = #[v0] := by cases args; simp_all
  obtain ⟨rfl, rfl⟩ := trodVars_none hV
  have k0 := h0
  have lt0 : ∀ x ∈ p0, x.block < W.heap.size := by obtain ⟨m, hm⟩ := k0; exact DataW.trod_lt m _ _ _ hm
  obtain ⟨s0, e0, g0, _, _⟩ := Go.ChangeMaps.open_string Tryd.underlying9 (hval 0 9 v0 rfl rfl) h0
  subst e0
  have w0 : s0.size ≤ 140737488351232 := by
    have h1 := sized_string hsz (j := 0) (t := 9) rfl (congrArg some g0)
    have h2 : s0.data.toList.length = s0.size := Array.length_toList
    unfold reachBytes at h1
    omega
  clear hA0
  refine (walk s0 w0 W (tabs hL) (tabSg hL) (tabE hL)).mono fun e W' ⟨he, bel⟩ => ?_
  subst he
  exact ⟨_, rfl, _, _, _, [], _, [], hW', trodAll_mk1 (shut_bool Tryd.underlying4 _), (trodAll_cons_mk (Below.trod laidOut (by kernel_rfl) (of_decide_eq_true (by kernel_rfl)) k0 bel lt0) trodAll_mk0), rfl, bel.frame _, fun h => by cases h⟩

/-- For the world of the witness: the settled one, the tables holding what their text lays. -/
def put (c : Array Value) : Obj → Obj
  | .cells _ t frozen => .cells c t frozen
  | x => x
theorem laid_met (os : Os) : laidMet Tryd.prog Rows.parsePastedRow.laid ((World.laidAll Tryd.prog os Rows.parsePastedRow.laid).forCall (fun _ _ => 0) ⟨#[], #[.string ByteArray.empty], []⟩).memory :=
  laidMet_laidAll _ (by kernel_rfl) (by kernel_rfl)
theorem reads (os : Os) {H : Type} (enc : TypeId × Value → H) : ∃ places, DataW.whole enc Tryd.prog ((World.laidAll Tryd.prog os Rows.parsePastedRow.laid).forCall (fun _ _ => 0) ⟨#[], #[.string ByteArray.empty], []⟩).memory Tryd.f4.params.toList Rows.parsePastedSpec.vars false (#[.string ByteArray.empty] : Array Value).toList 8 = some ([.lit (.string [])], [], places) :=
  ⟨[], by kernel_rfl⟩

set_option maxRecDepth 100000 in
theorem lifted (os : Os) (started : os.Started) (H : Type) (enc : TypeId × Value → H) (F : Stop.Interp) :
    ReturnsInHanded {} Tryd.checked os 4 .any ((OpenSpec.ofChange Rows.parsePastedSpec).preRow enc Tryd.prog Tryd.f4 Rows.parsePastedRow.domain false Rows.parsePastedRow.laid) (((OpenSpec.ofChange Rows.parsePastedSpec).at F).post enc Tryd.prog Tryd.f4 false true false false) := by
  obtain ⟨places, hx⟩ := reads os enc
  refine returnsInHanded_of_row (C := Tryd.checked) (s := OpenSpec.ofChange Rows.parsePastedSpec) own started (by kernel_rfl) Tryd.func4
    ⟨(World.laidAll Tryd.prog os Rows.parsePastedRow.laid), fun _ _ => 0, ⟨#[], #[.string ByteArray.empty], []⟩, World.laidAll_os _ _ _, World.shaped_of_ZipB (by kernel_rfl) (by kernel_rfl), rfl, (Input.okWide_of_okWideB (show Input.okWideB Tryd.prog ((World.laidAll Tryd.prog os Rows.parsePastedRow.laid).forCall (fun _ _ => 0) ⟨#[], #[.string ByteArray.empty], []⟩) 4 ⟨#[], #[.string ByteArray.empty], []⟩ = true by kernel_rfl)).2,
      OpenSpec.preRow_of_cond 8 hx (by kernel_rfl) (fun k hk => by cases hk) (by kernel_rfl) (laid_met os),
      by simp only [Assume.holds]; exact ⟨by simp, by simp, by simp, by simp, by simp⟩⟩ ?_
  intro W base args ds gs before hval hW _ _ hsz hL _ _
  exact contract H enc W base args ds gs before hval hsz hW hL

theorem said : Rows.ParsePastedSaid :=
  OpenClaim.holds_of_cond 4 Tryd.f4 rfl rfl rfl rfl rfl rfl rfl ⟨rfl, rfl, rfl, rfl, rfl⟩ rfl rfl rfl rfl rfl (by kernel_rfl) Tryd.func4 (by kernel_rfl)
    (of_decide_eq_true (by kernel_rfl)) (by unfold Func.isWrapper; first | (rw [if_pos (by decide +kernel)]; kernel_rfl) | (rw [if_neg (by decide +kernel)]; exact ⟨rfl, rfl⟩))
    (fun os started H enc _ F => by rw [OpenClaim.pre_eq_preRow]; exact lifted os started H enc F)

theorem plain (f : FuncId) (fn : Func) (hf : Tryd.pinned.checked.prog.funcNamed "sluice/sluicelaw4.ParsePasted" = some f) (hfn : Tryd.pinned.checked.prog.funcs[f]? = some fn) :
    true = Tryd.pinned.checked.prog.looks [] ∧ ∀ (j : Nat) t, fn.params[j]? = some t → Tryd.pinned.checked.prog.wantsStandIn t = false := by
  obtain rfl : f = 4 := Option.some.inj ((show Tryd.prog.funcNamed "sluice/sluicelaw4.ParsePasted" = some 4 by kernel_rfl).symm.trans hf) |>.symm
  obtain rfl : fn = Tryd.f4 := (Option.some.inj (Tryd.func4.symm.trans hfn)).symm
  refine ⟨by kernel_rfl, fun j t ht => ?_⟩
  rw [Tryd.params4] at ht
  have hm : t = 9 := by simpa using Array.mem_of_getElem? ht
  rw [hm]
  exact (show Tryd.prog.wantsStandIn 9 = false by kernel_rfl)

end Go.Proofs.YtmoimmghmmomlaaDoor.parsePasted
namespace Go.Proofs.YtmoimmghmmomlaaDoor
theorem parsePasted_holds : Rows.ParsePastedCardSaid :=
  Claim7.holds_tied_plain_at .later [] _ _ _ _ parsePasted.said (fun _ h => by cases h) (by kernel_rfl) (fun _ h => by cases h) parsePasted_row_tie rfl ⟨rfl, rfl⟩ (by kernel_rfl) rfl parsePasted.plain (by kernel_rfl)
#print axioms parsePasted_holds
end Go.Proofs.YtmoimmghmmomlaaDoor
