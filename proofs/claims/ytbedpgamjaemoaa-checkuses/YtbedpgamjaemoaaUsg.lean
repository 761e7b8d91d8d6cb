/- The law CheckUses, walked. -/
import Derived.Test.YtbedpgamjaemoaaUsf
namespace Go.Proofs.Ytbedpgamjaemoaa
open Go.RowKit Go.BigFrame
set_option linter.unusedVariables false
set_option linter.unusedSimpArgs false

set_option maxRecDepth 100000 in
set_option maxHeartbeats 8000000 in
theorem checkUses_walk (q : Qy) (cs : Array Value) (ai : Option Addr) (ci : Nat) (aw : Option Addr) (cw : Nat) (ar : Option Addr) (cr : Nat) (ao : Option Addr) (cap : Nat) (ns : List Nd) (w : World) (A : IsQ w q cs ai ci aw cw ar cr) (hq : q.fit) (hc : ns.length ≤ cap) (hno : ao = none → ns.length = 0 ∧ cap = 0) (N : IsNds w ao ns) (hr : ns.length * 64 ≤ 140737488351232) (hf : ∀ k, (ns.getD k noNd).fit) :
    Calls Try.prog 4 #[.agg cs, .slice ao ns.length cap] w fun e w' => e = .returned (.bool true) ∧ Below w.heap.size w w' := by
  have hnn := hq.n
  have c1 := fun (u : World) (g : Below w.heap.size w u) => qBeyond_any q hq cs ai ci aw cw ar cr u (A.keep g)
  have c2 := fun (u : World) (g : Below w.heap.size w u) => beyond_any ns ao cap u (N.keep g) hr hf
  have c3 := fun (u : World) (g : Below w.heap.size w u) => twinQ_any q hq cs ai ci aw cw ar cr u (A.keep g)
  have c4 := fun (u : World) (g : Below w.heap.size w u) => twinT_any ns ao cap u hno (N.keep g) hr
  have c5 := fun (u : World) (g : Below w.heap.size w u) => uses_any q hq ns hr hf cs ai ci aw cw ar cr ao cap u (A.keep g) (N.keep g)
  have c6 := fun (u : World) (cs' : Array Value) (ai' : Option Addr) (ci' : Nat) (aw' : Option Addr) (cw' : Nat) (ar' : Option Addr) (cr' : Nat) (bo : Option Addr) (cb : Nat) (B : IsQ u q cs' ai' ci' aw' cw' ar' cr') (M : IsNds u bo ns) => refUses_at q hq ns hr hf cs' ai' ci' aw' cw' ar' cr' bo cb u B M
  have c7 := fun (u : World) (g : Below w.heap.size w u) (cs' : Array Value) (ai' : Option Addr) (ci' : Nat) (aw' : Option Addr) (cw' : Nat) (ar' : Option Addr) (cr' : Nat) (B : IsQ u q cs' ai' ci' aw' cw' ar' cr') => sameQ_true q hq cs ai ci aw cw ar cr cs' ai' ci' aw' cw' ar' cr' u (A.keep g) B
  have k0 := useK_len q.items baB ns q.items.length
  have k1 := useK_len q.items (· == 11) ns q.items.length
  have k2 := useK_len q.items agB ns q.items.length
  generalize useK q.items baB ns q.items.length = L0 at *
  generalize useK q.items (· == 11) ns q.items.length = L1 at *
  generalize useK q.items agB ns q.items.length = L2 at *
  have c8 := fun (u : World) (ca cb : Array Value) (A : UseAt u ca L0 L1 L2) (B : UseAt u cb L0 L1 L2) => sameUse_true L0 L1 L2 (by omega) (by omega) (by omega) ca cb u A B
  have c9 := fun (u : World) (g : Below w.heap.size w u) (bo : Option Addr) (cb : Nat) (B : IsNds u bo ns) => sameTree_true ns (by omega) ao bo cap cb u (N.keep g) B
  obtain ⟨he, _⟩ := A
  subst he
  have B0 := galloc (Below.refl w.heap.size w) (.cells #[.slice ai q.items.length ci, .int .i64 q.mode, .int .i64 q.after, .slice aw q.wh.length cw, .int .i64 q.within, .string q.by_, .slice ar q.ret.length cr] 40)
  have Q0 := Bk.new w #[.slice ai q.items.length ci, .int .i64 q.mode, .int .i64 q.after, .slice aw q.wh.length cw, .int .i64 q.within, .string q.by_, .slice ar q.ret.length cr] 40
  go_enter Try.func4, Try.ntmps4
  go_wp2_with (first
    | (go_at_call 9; (with_reducible refine (c1 _ B0).mono ?_); rintro e u1 ⟨bb, rfl, g1⟩; have G1 := gtrans B0 g1; have Q1 := Q0.keep g1; obtain ⟨t0, t1, t2, t3, t4, t5, t6⟩ := Q1.at7; cases bb)
    | (go_at_call 10; (with_reducible refine (c2 _ G1).mono ?_); rintro e u2 ⟨bb, rfl, g2⟩; have G2 := gtrans G1 g2; have Q2 := Q1.keep g2; obtain ⟨s0, s1, s2, s3, s4, s5, s6⟩ := Q2.at7; cases bb)
    | (go_at_call 11; (with_reducible refine (c3 _ G2).mono ?_); rintro e u3 ⟨cs', ai', ci', aw', cw', ar', cr', rfl, B3, g3⟩; obtain ⟨he', _⟩ := id B3; subst he'; have ga := galloc (Below.refl u3.heap.size u3) (.cells #[.slice ai' q.items.length ci', .int .i64 q.mode, .int .i64 q.after, .slice aw' q.wh.length cw', .int .i64 q.within, .string q.by_, .slice ar' q.ret.length cr'] 40); have G3 := gtrans (gtrans G2 g3) ga; have B3' := B3.keep ga; have Q3 := (Q2.keep g3).keep ga; have P3 := Bk.new u3 #[.slice ai' q.items.length ci', .int .i64 q.mode, .int .i64 q.after, .slice aw' q.wh.length cw', .int .i64 q.within, .string q.by_, .slice ar' q.ret.length cr'] 40)
    | (go_at_call 12; (with_reducible refine (c4 _ G3).mono ?_); rintro e u4 ⟨v4, rfl, O4, g4⟩; obtain ⟨bo, cb, rfl, _, _, _⟩ := own_form O4; have G4 := gtrans G3 g4; have N4 : IsNds u4 bo ns := nds_of_own O4; have B4 := B3'.keep g4; have Q4 := Q3.keep g4; have P4 := P3.keep g4; obtain ⟨r0, r1, r2, r3, r4, r5, r6⟩ := Q4.at7)
    | (go_at_call 13; (with_reducible refine (c5 _ G4).mono ?_); rintro e u5 ⟨cu, rfl, U5, g5⟩; obtain ⟨⟨a1, x1, a2, x2, a3, x3, hcu, _⟩⟩ := id U5; subst hcu; have ga := galloc (Below.refl u5.heap.size u5) (.cells #[.slice a1 L0.length x1, .slice a2 L1.length x2, .slice a3 L2.length x3] 46); have G5 := gtrans (gtrans G4 g5) ga; have N5 := (N4.keep g5).keep ga; have B5 := (B4.keep g5).keep ga; have Q5 := (Q4.keep g5).keep ga; have P5 := (P4.keep g5).keep ga; have V5 := U5.keep ga; have A5 := Bk.new u5 #[.slice a1 L0.length x1, .slice a2 L1.length x2, .slice a3 L2.length x3] 46; obtain ⟨p0, p1, p2, p3, p4, p5, p6⟩ := P5.at7)
    | (go_at_call 14; (with_reducible refine (c6 _ _ _ _ _ _ _ _ _ _ B5 N5).mono ?_); rintro e u6 ⟨cv, rfl, U6, g6⟩; obtain ⟨⟨b1, y1, b2, y2, b3, y3, hcv, _⟩⟩ := id U6; subst hcv; have ga := galloc (Below.refl u6.heap.size u6) (.cells #[.slice b1 L0.length y1, .slice b2 L1.length y2, .slice b3 L2.length y3] 46); have G6 := gtrans (gtrans G5 g6) ga; have N6 := (N5.keep g6).keep ga; have B6 := (B5.keep g6).keep ga; have Q6 := (Q5.keep g6).keep ga; have P6 := (P5.keep g6).keep ga; have V6 := (V5.keep g6).keep ga; have W6 := U6.keep ga; have A6 := (A5.keep g6).keep ga; have D6 := Bk.new u6 #[.slice b1 L0.length y1, .slice b2 L1.length y2, .slice b3 L2.length y3] 46; obtain ⟨m0, m1, m2, m3, m4, m5, m6⟩ := P6.at7; obtain ⟨n0, n1, n2, n3, n4, n5, n6⟩ := Q6.at7)
    | (go_at_call 15; (with_reducible refine (c7 _ G6 _ _ _ _ _ _ _ B6).mono ?_); rintro e u7 ⟨rfl, g7⟩; have G7 := gtrans G6 g7; have N7 := N6.keep g7; have V7 := V6.keep g7; have W7 := W6.keep g7; have A7 := A6.keep g7; have D7 := D6.keep g7; obtain ⟨z0, z1, z2⟩ := A7.at3; obtain ⟨o0, o1, o2⟩ := D7.at3)
    | (go_at_call 16; (with_reducible refine (c8 _ _ _ V7 W7).mono ?_); rintro e u8 ⟨rfl, g8⟩; have G8 := gtrans G7 g8; have N8 := N7.keep g8)
    | (go_at_call 17; (with_reducible refine (c9 _ G8 _ _ N8).mono ?_); rintro e u9 ⟨rfl, g9⟩; have G9 := gtrans G8 g9))
  all_goals
    go_ret
    first | exact ⟨rfl, G1⟩ | exact ⟨rfl, G2⟩ | exact ⟨rfl, G9⟩

end Go.Proofs.Ytbedpgamjaemoaa
