/- The law's awake. And what goes with it: 3 texts in one. -/
import Derived.Test.YtnolbpekdikamaaGreatDoorJb22
import Derived.Laws.OwnMore
import Derived.Deep.Onto
namespace Go.Proofs.YtnolbpekdikamaaGreatDoor
open Go.RowKit Go.BigFrame Go.Proofs.YtnolbpekdikamaaGreatDoor.Ev
set_option linter.unusedVariables false
set_option linter.unusedSimpArgs false

theorem bldSt (s : ByteArray) (u : World) : (Instr.buildSlice 65 1 #[(0, .string s)]).run Tryz.prog u = .ok (.slice (some ⟨u.heap.size, 0, none⟩) 1 1) (u.alloc (.cells #[.string s] 9)) := by kernel_rfl
theorem bldTD (s : ByteArray) (a : Option Addr) (n c : Nat) (u : World) : (Instr.buildSlice 22 1 #[(0, .agg #[.string s, .slice a n c])]).run Tryz.prog u = .ok (.slice (some ⟨u.heap.size, 0, none⟩) 1 1) (u.alloc (.cells #[.string s, .slice a n c] 67)) := by kernel_rfl
theorem bldIt (b : Bool) (a : Option Addr) (n c : Nat) (s : ByteArray) (x y : Int) (u : World) : (Instr.buildSlice 25 1 #[(0, .agg #[.bool b, .slice a n c, .string s, .int .i64 x, .int .i64 y])]).run Tryz.prog u = .ok (.slice (some ⟨u.heap.size, 0, none⟩) 1 1) (u.alloc (.cells #[.bool b, .slice a n c, .string s, .int .i64 x, .int .i64 y] 69)) := by kernel_rfl
theorem bldEv (e : Ev) (u : World) : (Instr.buildSlice 43 1 #[(0, .agg (evC e))]).run Tryz.prog u = .ok (.slice (some ⟨u.heap.size, 0, none⟩) 1 1) (u.alloc (.cells (evC e) 75)) := by kernel_rfl
theorem bldLs (a : Option Addr) (n c : Nat) (u : World) : (Instr.buildSlice 32 1 #[(0, .slice a n c)]).run Tryz.prog u = .ok (.slice (some ⟨u.heap.size, 0, none⟩) 1 1) (u.alloc (.cells #[.slice a n c] 43)) := by kernel_rfl
/-- What awake has made. -/
structure AwM (w : World) (s1 s2 s4 s5 : Nat) : Prop where
  sch : IsTypes w (some ⟨s1, 0, none⟩) 1 awL
  bs : Bk w s2 #[.slice (some ⟨s1, 0, none⟩) 1 1] 24
  qry : IsQ w awQ #[.slice (some ⟨s4, 0, none⟩) 1 1, .int .i64 0, .int .i64 0, .slice none 0 0, .int .i64 0, .string ⟨#[]⟩, .slice none 0 0] (some ⟨s4, 0, none⟩) 1 none 0 none 0
  bq : Bk w s5 #[.slice (some ⟨s4, 0, none⟩) 1 1, .int .i64 0, .int .i64 0, .slice none 0 0, .int .i64 0, .string ⟨#[]⟩, .slice none 0 0] 31
theorem AwM.keep {w u : World} {s1 s2 s4 s5 : Nat} (h : AwM w s1 s2 s4 s5) (G : Below w.heap.size w u) : AwM u s1 s2 s4 s5 := ⟨h.sch.keep G, h.bs.keep G, h.qry.keep G, h.bq.keep G⟩
/-- Its tree and its environment. -/
structure AwT (w : World) (ao : Option Addr) (s8 s9 : Nat) : Prop where
  t : IsNds w ao awN
  e : IsEnv w awE (some ⟨s8, 0, none⟩) 1
  be : Bk w s9 #[.slice (some ⟨s8, 0, none⟩) 1 1, .int .i64 (-1), .int .i64 0] 34
theorem AwT.keep {w u : World} {ao : Option Addr} {s8 s9 : Nat} (h : AwT w ao s8 s9) (G : Below w.heap.size w u) : AwT u ao s8 s9 := ⟨h.t.keep G, h.e.keep G, h.be.keep G⟩
theorem awEval_any {w : World} {s1 s2 s4 s5 s8 s9 : Nat} {ao : Option Addr} (cap : Nat) (K : KwAt w) (T : TbAt w) (A : AwM w s1 s2 s4 s5) (B : AwT w ao s8 s9) :
    Calls Tryz.prog 13 #[.agg #[.slice (some ⟨s1, 0, none⟩) 1 1], .agg #[.slice (some ⟨s4, 0, none⟩) 1 1, .int .i64 0, .int .i64 0, .slice none 0 0, .int .i64 0, .string ⟨#[]⟩, .slice none 0 0], .slice ao 3 cap, .agg #[.slice (some ⟨s8, 0, none⟩) 1 1, .int .i64 (-1), .int .i64 0]] w fun e w' => e = .returned (.agg #[.bool true, .int .i64 6]) ∧ Below w.heap.size w w' := by
  have c := eval_any (some ⟨s1, 0, none⟩) 1 awL awQ awQ_fit _ (some ⟨s4, 0, none⟩) 1 none 0 none 0 awN ao cap awE (some ⟨s8, 0, none⟩) 1 w K T A.sch A.qry B.t B.e awN_fit (by decide) awE_ok
  rw [aw_val] at c
  exact c
/-- The program that was compiled. -/
structure AwP (w : World) (ai : Option Addr) (n ci : Nat) (ac : Option Addr) (m cc : Nat) : Prop where
  n : n = (cmpG awL awQ awN).code.length
  m : m = (cmpG awL awQ awN).cols.length
  p : IsPr w (cmpG awL awQ awN) ai ci ac cc
theorem AwP.keep {w u : World} {ai : Option Addr} {n ci : Nat} {ac : Option Addr} {m cc : Nat} (h : AwP w ai n ci ac m cc) (G : Below w.heap.size w u) : AwP u ai n ci ac m cc := ⟨h.n, h.m, h.p.keep G⟩
theorem awCompile_any {w : World} {s1 s2 s4 s5 s8 s9 : Nat} {ao : Option Addr} (cap : Nat) (K : KwAt w) (A : AwM w s1 s2 s4 s5) (B : AwT w ao s8 s9) :
    Calls Tryz.prog 11 #[.agg #[.slice (some ⟨s1, 0, none⟩) 1 1], .agg #[.slice (some ⟨s4, 0, none⟩) 1 1, .int .i64 0, .int .i64 0, .slice none 0 0, .int .i64 0, .string ⟨#[]⟩, .slice none 0 0], .slice ao 3 cap] w fun e w' => ∃ ai n ci ac m cc, e = .returned (.agg #[.slice ai n ci, .slice ac m cc]) ∧ AwP w' ai n ci ac m cc ∧ Below w.heap.size w w' := by
  have c := compile_any (some ⟨s1, 0, none⟩) 1 awL awQ awQ_fit _ (some ⟨s4, 0, none⟩) 1 none 0 none 0 awN ao cap w K A.sch A.qry B.t awN_fit (by decide) (by decide)
  refine Calls.mono c fun e w' h => ?_
  obtain ⟨ai, ci, ac, cc, ws, e1, h1, h2, _⟩ := h.pr
  exact ⟨ai, _, ci, ac, _, cc, e1, ⟨rfl, rfl, h1⟩, h2⟩
theorem awRun_any {w : World} {s8 s9 : Nat} {ao : Option Addr} {ai : Option Addr} {n ci : Nat} {ac : Option Addr} {m cc : Nat} (T : TbAt w) (B : AwT w ao s8 s9) (P : AwP w ai n ci ac m cc) :
    Calls Tryz.prog 12 #[.agg #[.slice ai n ci, .slice ac m cc], .agg #[.slice (some ⟨s8, 0, none⟩) 1 1, .int .i64 (-1), .int .i64 0]] w fun e w' => e = .returned (.tuple #[.agg #[.bool true, .int .i64 6], .int .i64 0]) ∧ Below w.heap.size w w' := by
  obtain ⟨rfl, rfl, p⟩ := P
  have c := run_any (cmpG awL awQ awN) aw_ok awE awE_ok ai ci ac cc (some ⟨s8, 0, none⟩) 1 w p B.e T
  rw [aw_prog] at c
  exact c
theorem awHolds_any {w : World} {s8 s9 : Nat} {ao : Option Addr} {ai : Option Addr} {n ci : Nat} {ac : Option Addr} {m cc : Nat} (T : TbAt w) (B : AwT w ao s8 s9) (P : AwP w ai n ci ac m cc) :
    Calls Tryz.prog 19 #[.agg #[.slice ai n ci, .slice ac m cc], .agg #[.slice (some ⟨s8, 0, none⟩) 1 1, .int .i64 (-1), .int .i64 0]] w fun e w' => e = .returned (.bool true) ∧ Below w.heap.size w w' := by
  obtain ⟨rfl, rfl, p⟩ := P
  have c := holdsC_any (cmpG awL awQ awN) aw_ok awE awE_ok ai ci ac cc (some ⟨s8, 0, none⟩) 1 w p B.e T
  rw [aw_holds] at c
  exact c
theorem awJoin_any {a1 a2 : Option Addr} {k1 k2 : Nat} {w : World} (hno : a1 ≠ none) (A1 : IsNds w a1 [⟨4, 0, ba1, bx1, -1, -1⟩]) (A2 : IsNds w a2 [⟨5, 0, ba1, eS, -1, -1⟩]) :
    Calls Tryz.prog 17 #[.int .i64 15, .slice a1 1 k1, .slice a2 1 k2] w fun e w' => ∃ v, e = .returned v ∧ w'.ownsRow w.heap.size 64 6 v 3 (ndsV awN) ∧ Below w.heap.size w w' := by
  have c := joined_any 15 [⟨4, 0, ba1, bx1, -1, -1⟩] [⟨5, 0, ba1, eS, -1, -1⟩] a1 k1 a2 k2 w (fun h => absurd h hno) A1 A2 (by decide)
  rw [aw_join] at c
  exact c
set_option maxRecDepth 100000 in
set_option maxHeartbeats 16000000 in
theorem awake_any (w : World) (K : KwAt w) (T : TbAt w) :
    Calls Tryz.prog 8 #[] w fun e w' => e = .returned (.bool true) ∧ Below w.heap.size w w' := by
  have b1 := bldSt ⟨#[120]⟩
  have b2 := bldTD ⟨#[65]⟩
  have b3 := bldSt ⟨#[65]⟩
  have b4 := bldIt false
  have b5 := bldEv awV
  have b6 := bldLs
  unfold awV evC at b5
  dsimp only at b5
  have n0 := Bk.newE (w := w) (g := w.heap.size) (by simp) #[.string ⟨#[120]⟩] 9
  have g0 := galloc (Below.refl w.heap.size w) (.cells #[.string ⟨#[120]⟩] 9)
  have n1 := Bk.newE (w := w.alloc (.cells #[.string ⟨#[120]⟩] 9)) (g := w.heap.size + 1) (by simp) #[.string ⟨#[65]⟩, .slice (some ⟨w.heap.size, 0, none⟩) 1 1] 67
  have g1 := galloc (Below.refl (w.alloc (.cells #[.string ⟨#[120]⟩] 9)).heap.size (w.alloc (.cells #[.string ⟨#[120]⟩] 9))) (.cells #[.string ⟨#[65]⟩, .slice (some ⟨w.heap.size, 0, none⟩) 1 1] 67)
  have n2 := Bk.newE (w := (w.alloc (.cells #[.string ⟨#[120]⟩] 9)).alloc (.cells #[.string ⟨#[65]⟩, .slice (some ⟨w.heap.size, 0, none⟩) 1 1] 67)) (g := w.heap.size + 1 + 1) (by simp) #[.slice (some ⟨w.heap.size + 1, 0, none⟩) 1 1] 24
  have g2 := galloc (Below.refl ((w.alloc (.cells #[.string ⟨#[120]⟩] 9)).alloc (.cells #[.string ⟨#[65]⟩, .slice (some ⟨w.heap.size, 0, none⟩) 1 1] 67)).heap.size ((w.alloc (.cells #[.string ⟨#[120]⟩] 9)).alloc (.cells #[.string ⟨#[65]⟩, .slice (some ⟨w.heap.size, 0, none⟩) 1 1] 67))) (.cells #[.slice (some ⟨w.heap.size + 1, 0, none⟩) 1 1] 24)
  have n3 := Bk.newE (w := ((w.alloc (.cells #[.string ⟨#[120]⟩] 9)).alloc (.cells #[.string ⟨#[65]⟩, .slice (some ⟨w.heap.size, 0, none⟩) 1 1] 67)).alloc (.cells #[.slice (some ⟨w.heap.size + 1, 0, none⟩) 1 1] 24)) (g := w.heap.size + 1 + 1 + 1) (by simp) #[.string ⟨#[65]⟩] 9
  have g3 := galloc (Below.refl (((w.alloc (.cells #[.string ⟨#[120]⟩] 9)).alloc (.cells #[.string ⟨#[65]⟩, .slice (some ⟨w.heap.size, 0, none⟩) 1 1] 67)).alloc (.cells #[.slice (some ⟨w.heap.size + 1, 0, none⟩) 1 1] 24)).heap.size (((w.alloc (.cells #[.string ⟨#[120]⟩] 9)).alloc (.cells #[.string ⟨#[65]⟩, .slice (some ⟨w.heap.size, 0, none⟩) 1 1] 67)).alloc (.cells #[.slice (some ⟨w.heap.size + 1, 0, none⟩) 1 1] 24))) (.cells #[.string ⟨#[65]⟩] 9)
  have n4 := Bk.newE (w := (((w.alloc (.cells #[.string ⟨#[120]⟩] 9)).alloc (.cells #[.string ⟨#[65]⟩, .slice (some ⟨w.heap.size, 0, none⟩) 1 1] 67)).alloc (.cells #[.slice (some ⟨w.heap.size + 1, 0, none⟩) 1 1] 24)).alloc (.cells #[.string ⟨#[65]⟩] 9)) (g := w.heap.size + 1 + 1 + 1 + 1) (by simp) #[.bool false, .slice (some ⟨w.heap.size + 1 + 1 + 1, 0, none⟩) 1 1, .string ⟨#[97]⟩, .int .i64 1, .int .i64 1] 69
  have g4 := galloc (Below.refl ((((w.alloc (.cells #[.string ⟨#[120]⟩] 9)).alloc (.cells #[.string ⟨#[65]⟩, .slice (some ⟨w.heap.size, 0, none⟩) 1 1] 67)).alloc (.cells #[.slice (some ⟨w.heap.size + 1, 0, none⟩) 1 1] 24)).alloc (.cells #[.string ⟨#[65]⟩] 9)).heap.size ((((w.alloc (.cells #[.string ⟨#[120]⟩] 9)).alloc (.cells #[.string ⟨#[65]⟩, .slice (some ⟨w.heap.size, 0, none⟩) 1 1] 67)).alloc (.cells #[.slice (some ⟨w.heap.size + 1, 0, none⟩) 1 1] 24)).alloc (.cells #[.string ⟨#[65]⟩] 9))) (.cells #[.bool false, .slice (some ⟨w.heap.size + 1 + 1 + 1, 0, none⟩) 1 1, .string ⟨#[97]⟩, .int .i64 1, .int .i64 1] 69)
  have n5 := Bk.newE (w := ((((w.alloc (.cells #[.string ⟨#[120]⟩] 9)).alloc (.cells #[.string ⟨#[65]⟩, .slice (some ⟨w.heap.size, 0, none⟩) 1 1] 67)).alloc (.cells #[.slice (some ⟨w.heap.size + 1, 0, none⟩) 1 1] 24)).alloc (.cells #[.string ⟨#[65]⟩] 9)).alloc (.cells #[.bool false, .slice (some ⟨w.heap.size + 1 + 1 + 1, 0, none⟩) 1 1, .string ⟨#[97]⟩, .int .i64 1, .int .i64 1] 69)) (g := w.heap.size + 1 + 1 + 1 + 1 + 1) (by simp) #[.slice (some ⟨w.heap.size + 1 + 1 + 1 + 1, 0, none⟩) 1 1, .int .i64 0, .int .i64 0, .slice none 0 0, .int .i64 0, .string ⟨#[]⟩, .slice none 0 0] 31
  have g5 := galloc (Below.refl (((((w.alloc (.cells #[.string ⟨#[120]⟩] 9)).alloc (.cells #[.string ⟨#[65]⟩, .slice (some ⟨w.heap.size, 0, none⟩) 1 1] 67)).alloc (.cells #[.slice (some ⟨w.heap.size + 1, 0, none⟩) 1 1] 24)).alloc (.cells #[.string ⟨#[65]⟩] 9)).alloc (.cells #[.bool false, .slice (some ⟨w.heap.size + 1 + 1 + 1, 0, none⟩) 1 1, .string ⟨#[97]⟩, .int .i64 1, .int .i64 1] 69)).heap.size (((((w.alloc (.cells #[.string ⟨#[120]⟩] 9)).alloc (.cells #[.string ⟨#[65]⟩, .slice (some ⟨w.heap.size, 0, none⟩) 1 1] 67)).alloc (.cells #[.slice (some ⟨w.heap.size + 1, 0, none⟩) 1 1] 24)).alloc (.cells #[.string ⟨#[65]⟩] 9)).alloc (.cells #[.bool false, .slice (some ⟨w.heap.size + 1 + 1 + 1, 0, none⟩) 1 1, .string ⟨#[97]⟩, .int .i64 1, .int .i64 1] 69))) (.cells #[.slice (some ⟨w.heap.size + 1 + 1 + 1 + 1, 0, none⟩) 1 1, .int .i64 0, .int .i64 0, .slice none 0 0, .int .i64 0, .string ⟨#[]⟩, .slice none 0 0] 31)
  have m0 := ((((n0.keep g1).keep g2).keep g3).keep g4).keep g5
  have m1 := (((n1.keep g2).keep g3).keep g4).keep g5
  have m2 := ((n2.keep g3).keep g4).keep g5
  have m3 := (n3.keep g4).keep g5
  have m4 := n4.keep g5
  have G6 := gtrans (gtrans (gtrans (gtrans (gtrans g0 g1) g2) g3) g4) g5
  have A6 : AwM _ _ _ _ _ := ⟨aw_sch m0 m1, m2, aw_qry m3 m4, n5⟩
  clear m0 m1 m2 m3 m4 n0 n1 n2 n3 n4 n5 g0 g1 g2 g3 g4 g5
  go_enter Tryz.func8, Tryz.ntmps8
  go_upto_region 3 with fail
  generalize (((((w.alloc _).alloc _).alloc _).alloc _).alloc _).alloc _ = X6 at *
  have c1 := leaf_any ⟨4, 0, ⟨#[97]⟩, ⟨#[120]⟩, 0, 0⟩ X6
  have c2 := fun Y => leaf_any ⟨5, 0, ⟨#[97]⟩, ⟨#[]⟩, 0, 0⟩ Y
  unfold ndA at c1 c2
  dsimp only at c1 c2
  go_upto_region 4 with (first
    | (go_at_call 18; (with_reducible refine c1.mono ?_); rintro e u1 ⟨v1, rfl, O1, h1⟩; obtain ⟨a1, k1, rfl, hk1, _, hh1⟩ := own_form O1)
    | (go_at_call 18; (with_reducible refine (c2 _).mono ?_); rintro e u2 ⟨v2, rfl, O2, h2⟩; obtain ⟨a2, k2, rfl, hk2, _, hh2⟩ := own_form O2; have c3 := awJoin_any (k1 := k1) (k2 := k2) (show a1 ≠ none by rcases hh1 with hh1 | ⟨g, hh1, _⟩; exact absurd hh1 (by decide); rw [hh1]; exact (fun h => by cases h)) ((nds_of_own (b := X6.heap.size) (c := k1) (ns := [⟨4, 0, ba1, bx1, -1, -1⟩]) O1).keep h2) (nds_of_own (b := u1.heap.size) (c := k2) (ns := [⟨5, 0, ba1, eS, -1, -1⟩]) O2))
    | (go_at_call 17; (with_reducible refine c3.mono ?_); rintro e u3 ⟨v3, rfl, O3, h3⟩; obtain ⟨a3, k3, rfl, hk3, _, hh3⟩ := own_form O3))
  have N3 : IsNds u3 a3 awN := nds_of_own (b := u2.heap.size) (c := k3) O3
  have A3 := ((A6.keep h1).keep h2).keep h3
  have G3 := gtrans (gtrans (gtrans G6 h1) h2) h3
  clear c1 c2 c3 O1 O2 O3 hh1 hh2 hh3 A6 G6 hk1 hk2 hk3
  have n7 := Bk.newE (w := u3) (g := u3.heap.size) rfl #[.int .i64 1, .int .u64 0, .int .i64 0, .int .i64 7, .int .i64 0, .int .i64 0, .int .i64 0, .int .i64 0, .int .i64 0, .int .i64 0, .int .i64 0] 75
  have g7 := galloc (Below.refl u3.heap.size u3) (.cells #[.int .i64 1, .int .u64 0, .int .i64 0, .int .i64 7, .int .i64 0, .int .i64 0, .int .i64 0, .int .i64 0, .int .i64 0, .int .i64 0, .int .i64 0] 75)
  have n8 := Bk.newE (w := u3.alloc (.cells #[.int .i64 1, .int .u64 0, .int .i64 0, .int .i64 7, .int .i64 0, .int .i64 0, .int .i64 0, .int .i64 0, .int .i64 0, .int .i64 0, .int .i64 0] 75)) (g := u3.heap.size + 1) (by simp) #[.slice (some ⟨u3.heap.size, 0, none⟩) 1 1] 43
  have g8 := galloc (Below.refl (u3.alloc (.cells #[.int .i64 1, .int .u64 0, .int .i64 0, .int .i64 7, .int .i64 0, .int .i64 0, .int .i64 0, .int .i64 0, .int .i64 0, .int .i64 0, .int .i64 0] 75)).heap.size (u3.alloc (.cells #[.int .i64 1, .int .u64 0, .int .i64 0, .int .i64 7, .int .i64 0, .int .i64 0, .int .i64 0, .int .i64 0, .int .i64 0, .int .i64 0, .int .i64 0] 75))) (.cells #[.slice (some ⟨u3.heap.size, 0, none⟩) 1 1] 43)
  have n9 := Bk.newE (w := (u3.alloc (.cells #[.int .i64 1, .int .u64 0, .int .i64 0, .int .i64 7, .int .i64 0, .int .i64 0, .int .i64 0, .int .i64 0, .int .i64 0, .int .i64 0, .int .i64 0] 75)).alloc (.cells #[.slice (some ⟨u3.heap.size, 0, none⟩) 1 1] 43)) (g := u3.heap.size + 1 + 1) (by simp) #[.slice (some ⟨u3.heap.size + 1, 0, none⟩) 1 1, .int .i64 (-1), .int .i64 0] 34
  have g9 := galloc (Below.refl ((u3.alloc (.cells #[.int .i64 1, .int .u64 0, .int .i64 0, .int .i64 7, .int .i64 0, .int .i64 0, .int .i64 0, .int .i64 0, .int .i64 0, .int .i64 0, .int .i64 0] 75)).alloc (.cells #[.slice (some ⟨u3.heap.size, 0, none⟩) 1 1] 43)).heap.size ((u3.alloc (.cells #[.int .i64 1, .int .u64 0, .int .i64 0, .int .i64 7, .int .i64 0, .int .i64 0, .int .i64 0, .int .i64 0, .int .i64 0, .int .i64 0, .int .i64 0] 75)).alloc (.cells #[.slice (some ⟨u3.heap.size, 0, none⟩) 1 1] 43))) (.cells #[.slice (some ⟨u3.heap.size + 1, 0, none⟩) 1 1, .int .i64 (-1), .int .i64 0] 34)
  have A9 := ((A3.keep g7).keep g8).keep g9
  have T9 : AwT _ _ _ _ := ⟨((N3.keep g7).keep g8).keep g9, aw_env ((n7.keep g8).keep g9) (n8.keep g9), n9⟩
  have G9 := gtrans (gtrans (gtrans G3 g7) g8) g9
  clear n7 n8 n9 g7 g8 g9 N3 A3 G3
  go_upto_region 5 with fail
  generalize ((u3.alloc _).alloc _).alloc _ = X9 at *
  have K9 := K.keep G9
  have TB9 := T.keep G9
  obtain ⟨e0, e1, e2⟩ := T9.be.at3
  obtain ⟨q0, q1, q2, q3, q4, q5, q6⟩ := A9.bq.at7
  have s0 := cell_of_row _ _ 0 _ _ _ A9.bs
  have s0 : X9.cell? ⟨w.heap.size + 1 + 1, 0, none⟩ = some (.slice (some ⟨w.heap.size + 1, 0, none⟩) 1 1) := s0
  have cE := awEval_any k3 K9 TB9 A9 T9
  go_upto_region 6 with (first
    | (go_at_call 13; (with_reducible refine cE.mono ?_); rintro e u5 ⟨rfl, h5⟩))
  have GA := gtrans G9 (galloc h5 (.cells #[.bool true, .int .i64 6] 51))
  have hA := galloc h5 (.cells #[.bool true, .int .i64 6] 51)
  have A5 := A9.keep hA
  have T5 := T9.keep hA
  have n5 := Bk.new u5 #[.bool true, .int .i64 6] 51
  clear e0 e1 e2 q0 q1 q2 q3 q4 q5 q6 s0 cE K9 TB9 A9 T9 b1 b2 b3 b4 b5 b6
  generalize u5.alloc _ = V at *
  obtain ⟨e0, e1, e2⟩ := T5.be.at3
  obtain ⟨q0, q1, q2, q3, q4, q5, q6⟩ := A5.bq.at7
  have s0 : V.cell? ⟨w.heap.size + 1 + 1, 0, none⟩ = some (.slice (some ⟨w.heap.size + 1, 0, none⟩) 1 1) := cell_of_row _ _ 0 _ _ _ A5.bs
  have K5 := K.keep GA
  have TB5 := T.keep GA
  have cC := fun (Y : World) (h : Below V.heap.size V Y) => awCompile_any (s8 := u3.heap.size + 1) (s9 := u3.heap.size + 1 + 1) (ao := a3) k3 (K5.keep h) (A5.keep h) (T5.keep h)
  have cR := fun (Y : World) (h : Below V.heap.size V Y) (ai : Option Addr) (n ci : Nat) (ac : Option Addr) (m cc : Nat) (P : AwP Y ai n ci ac m cc) => awRun_any (TB5.keep h) (T5.keep h) P
  have hne0 : Nonempty (Ext V) := ⟨⟨_, Below.refl _ _⟩⟩
  have p0 := fun z : Ext V => (z.cell _ _ (lt_of_cell e0)).trans e0
  have p1 := fun z : Ext V => (z.cell _ _ (lt_of_cell e1)).trans e1
  have p2 := fun z : Ext V => (z.cell _ _ (lt_of_cell e2)).trans e2
  have p3 := fun z : Ext V => (z.cell _ _ (lt_of_cell q0)).trans q0
  have p4 := fun z : Ext V => (z.cell _ _ (lt_of_cell q1)).trans q1
  have p5 := fun z : Ext V => (z.cell _ _ (lt_of_cell q2)).trans q2
  have p6 := fun z : Ext V => (z.cell _ _ (lt_of_cell q3)).trans q3
  have p7 := fun z : Ext V => (z.cell _ _ (lt_of_cell q4)).trans q4
  have p8 := fun z : Ext V => (z.cell _ _ (lt_of_cell q5)).trans q5
  have p9 := fun z : Ext V => (z.cell _ _ (lt_of_cell q6)).trans q6
  have pa := fun z : Ext V => (z.cell _ _ (lt_of_cell s0)).trans s0
  go_cut [6, 7] from 32 to 40 (fun s6 s7 wx => ∃ b, s6 = .pointer (some ⟨b, 0, none⟩) ∧ s7 = .int .i64 0 ∧ Bk wx b #[.bool true, .int .i64 6] 51 ∧ Below V.heap.size V wx)
  case first =>
    refine wp_region_held (S := fun X => ∃ n : Ext V, X = n.X) (by kernel_rfl) ?_
    have hX0 : Below V.heap.size V { V with drawn := V.drawn + 1 } := (Below.refl _ V).drew
    obtain ⟨X, hXe⟩ : ∃ X, { V with drawn := V.drawn + 1 } = X := ⟨_, rfl⟩
    have hX : Below V.heap.size V X := hXe ▸ hX0
    rw [hXe]
    clear hX0 hXe
    refine anyH_pick (g := 8) [0, 1, 2, 4] (by kernel_rfl) (fun c a d v w h => by cases d <;> exact h) ⟨⟨X, hX⟩, rfl⟩ rfl (by kernel_rfl) ?_
    simp only [pickL, List.filterMap_cons, List.filterMap_nil, List.getElem?_toArray, List.getElem?_cons_zero, List.getElem?_cons_succ]
    refine (show wpQuiet _ _ _ _ [_, _, _, _] _ from ?_)
    repeat (go_big_quiet_step (fail))
    refine wpQuiet_nil ?_
    refine wpAnyH_all (rs := [3, 9]) (by kernel_rfl) (by decide) ?_
    intro i hi
    simp only [List.mem_cons, List.not_mem_nil, or_false] at hi
    rcases hi with rfl | rfl
    · refine wpOp_callG (some 36) rfl rfl rfl 11 #[.agg #[.slice (some ⟨w.heap.size + 1, 0, none⟩) 1 1], .agg #[.slice (some ⟨w.heap.size + 1 + 1 + 1 + 1, 0, none⟩) 1 1, .int .i64 0, .int .i64 0, .slice none 0 0, .int .i64 0, .string ⟨#[]⟩, .slice none 0 0], .slice a3 3 k3] (by kernel_rfl) _ (cC X hX) ?_
      rintro e Y ⟨ai, n, ci, ac, m, cc, rfl, PY, gY⟩
      have hY := hX.trans (gY.mono hX.size)
      refine ⟨_, rfl, ⟨⟨Y, hY⟩, rfl⟩, ?_⟩
      simp only [Act.put, List.setIfInBounds_toArray, List.set_cons_succ, List.set_cons_zero]
      refine wpAnyH_all (rs := [5, 9]) (by kernel_rfl) (by decide) ?_
      intro i hi
      simp only [List.mem_cons, List.not_mem_nil, or_false] at hi
      rcases hi with rfl | rfl
      · refine wpOp_callG (some 38) rfl rfl rfl 12 #[.agg #[.slice ai n ci, .slice ac m cc], .agg #[.slice (some ⟨u3.heap.size + 1, 0, none⟩) 1 1, .int .i64 (-1), .int .i64 0]] (by kernel_rfl) _ (cR Y hY _ _ _ _ _ _ PY) ?_
        rintro e Z ⟨rfl, gZ⟩
        have hZ := hY.trans (gZ.mono hY.size)
        refine ⟨_, rfl, ⟨⟨Z, hZ⟩, rfl⟩, ?_⟩
        simp only [Act.put, List.setIfInBounds_toArray, List.set_cons_succ, List.set_cons_zero]
        refine anyH_pick (g := 3) [6, 7, 8] (by kernel_rfl) (fun c a d v w h => by cases d <;> exact h) ⟨⟨Z, hZ⟩, rfl⟩ rfl (by kernel_rfl) ?_
        simp only [pickL, List.filterMap_cons, List.filterMap_nil, List.getElem?_toArray, List.getElem?_cons_zero, List.getElem?_cons_succ]
        refine (show wpQuiet _ _ _ _ [_, _, _] _ from ?_)
        repeat (go_big_quiet_step (fail))
        refine wpQuiet_nil ?_
        refine wpAnyH_all (rs := [9]) (by kernel_rfl) (by decide) ?_
        intro i hi
        simp only [List.mem_cons, List.not_mem_nil, or_false] at hi
        subst hi
        refine wpOp_val (v := .pointer (some ⟨Z.heap.size, 0, none⟩)) (w' := Z.alloc (.cells #[.bool false, .int .i64 0] 51)) (some 6) rfl rfl rfl (by kernel_rfl) ?_
        have hZ1 := hZ.trans ((galloc (Below.refl Z.heap.size Z) (.cells #[.bool false, .int .i64 0] 51)).mono hZ.size)
        have bZ1 := Bk.new Z #[.bool false, .int .i64 0] 51
        refine ⟨⟨⟨_, hZ1⟩, rfl⟩, ?_⟩
        simp only [Act.put, List.setIfInBounds_toArray, List.set_cons_succ, List.set_cons_zero]
        refine wpAnyH_all (rs := [10]) (by kernel_rfl) (by decide) ?_
        intro i hi
        simp only [List.mem_cons, List.not_mem_nil, or_false] at hi
        subst hi
        have tt : World.there (Z.alloc (.cells #[.bool false, .int .i64 0] 51)) Z.heap.size 0 2 := fun j hj => by
          rcases (show j = 0 ∨ j = 1 by omega) with rfl | rfl
          · exact ⟨by rw [Nat.add_zero, bZ1.at2.1]; rfl, bZ1.free _⟩
          · exact ⟨by rw [Nat.zero_add, bZ1.at2.2]; rfl, bZ1.free _⟩
        have hW2 : Below V.heap.size V (World.setCells (Z.alloc (.cells #[.bool false, .int .i64 0] 51)) Z.heap.size 0 [.bool true, .int .i64 6]) := gsetCells hZ1 (show V.heap.size ≤ Z.heap.size by have := hZ1.size; have := hZ.size; omega) _ _
        have bW2 : Bk (World.setCells (Z.alloc (.cells #[.bool false, .int .i64 0] 51)) Z.heap.size 0 [.bool true, .int .i64 6]) Z.heap.size #[.bool true, .int .i64 6] 51 := Bk.setCells (cs' := #[.bool true, .int .i64 6]) bZ1 rfl
        refine wpOp_store none rfl rfl rfl 51 (.tmp 6) (.tmp 39) rfl Z.heap.size 0 #[.bool true, .int .i64 6] rfl rfl tt (by kernel_rfl) (by kernel_rfl) ?_
        refine ⟨⟨⟨_, hW2⟩, rfl⟩, ?_⟩
        simp only [Act.put, List.setIfInBounds_toArray, List.set_cons_succ, List.set_cons_zero]
        refine anyH_pick (g := 0) [11] (by kernel_rfl) (fun c a d v w h => by cases d <;> exact h) ⟨⟨_, hW2⟩, rfl⟩ rfl (by kernel_rfl) ?_
        simp only [pickL, List.filterMap_cons, List.filterMap_nil, List.getElem?_toArray, List.getElem?_cons_zero, List.getElem?_cons_succ]
        refine (show wpQuiet _ _ _ _ [_] _ from ?_)
        repeat (go_big_quiet_step (fail))
        refine wpQuiet_nil ?_
        refine wpAnyH_done (by kernel_rfl) ?_ _
        try simp only [Exit.then]
        go_step
        go_meet
        case rel => exact ⟨Z.heap.size, rfl, rfl, bW2, hW2⟩
      · refine wpOp_val (v := .pointer (some ⟨Y.heap.size, 0, none⟩)) (w' := Y.alloc (.cells #[.bool false, .int .i64 0] 51)) (some 6) rfl rfl rfl (by kernel_rfl) ?_
        have hY1 := hY.trans ((galloc (Below.refl Y.heap.size Y) (.cells #[.bool false, .int .i64 0] 51)).mono hY.size)
        have bY1 := Bk.new Y #[.bool false, .int .i64 0] 51
        refine ⟨⟨⟨_, hY1⟩, rfl⟩, ?_⟩
        simp only [Act.put, List.setIfInBounds_toArray, List.set_cons_succ, List.set_cons_zero]
        refine wpAnyH_all (rs := [5]) (by kernel_rfl) (by decide) ?_
        intro i hi
        simp only [List.mem_cons, List.not_mem_nil, or_false] at hi
        subst hi
        refine wpOp_callG (some 38) rfl rfl rfl 12 #[.agg #[.slice ai n ci, .slice ac m cc], .agg #[.slice (some ⟨u3.heap.size + 1, 0, none⟩) 1 1, .int .i64 (-1), .int .i64 0]] (by kernel_rfl) _ (cR (Y.alloc (.cells #[.bool false, .int .i64 0] 51)) hY1 _ _ _ _ _ _ (PY.keep (galloc (Below.refl Y.heap.size Y) _))) ?_
        rintro e Z ⟨rfl, gZ⟩
        have hZ := hY1.trans (gZ.mono hY1.size)
        refine ⟨_, rfl, ⟨⟨Z, hZ⟩, rfl⟩, ?_⟩
        simp only [Act.put, List.setIfInBounds_toArray, List.set_cons_succ, List.set_cons_zero]
        refine anyH_pick (g := 2) [6, 7, 8] (by kernel_rfl) (fun c a d v w h => by cases d <;> exact h) ⟨⟨Z, hZ⟩, rfl⟩ rfl (by kernel_rfl) ?_
        simp only [pickL, List.filterMap_cons, List.filterMap_nil, List.getElem?_toArray, List.getElem?_cons_zero, List.getElem?_cons_succ]
        refine (show wpQuiet _ _ _ _ [_, _, _] _ from ?_)
        repeat (go_big_quiet_step (fail))
        refine wpQuiet_nil ?_
        refine wpAnyH_all (rs := [10]) (by kernel_rfl) (by decide) ?_
        intro i hi
        simp only [List.mem_cons, List.not_mem_nil, or_false] at hi
        subst hi
        have tt : World.there Z Y.heap.size 0 2 := fun j hj => by
          rcases (show j = 0 ∨ j = 1 by omega) with rfl | rfl
          · exact ⟨by rw [Nat.add_zero, (bY1.keep gZ).at2.1]; rfl, (bY1.keep gZ).free _⟩
          · exact ⟨by rw [Nat.zero_add, (bY1.keep gZ).at2.2]; rfl, (bY1.keep gZ).free _⟩
        have hW2 : Below V.heap.size V (World.setCells Z Y.heap.size 0 [.bool true, .int .i64 6]) := gsetCells hZ (show V.heap.size ≤ Y.heap.size by have := hZ.size; have := hY.size; omega) _ _
        have bW2 : Bk (World.setCells Z Y.heap.size 0 [.bool true, .int .i64 6]) Y.heap.size #[.bool true, .int .i64 6] 51 := Bk.setCells (cs' := #[.bool true, .int .i64 6]) (bY1.keep gZ) rfl
        refine wpOp_store none rfl rfl rfl 51 (.tmp 6) (.tmp 39) rfl Y.heap.size 0 #[.bool true, .int .i64 6] rfl rfl tt (by kernel_rfl) (by kernel_rfl) ?_
        refine ⟨⟨⟨_, hW2⟩, rfl⟩, ?_⟩
        simp only [Act.put, List.setIfInBounds_toArray, List.set_cons_succ, List.set_cons_zero]
        refine anyH_pick (g := 0) [11] (by kernel_rfl) (fun c a d v w h => by cases d <;> exact h) ⟨⟨_, hW2⟩, rfl⟩ rfl (by kernel_rfl) ?_
        simp only [pickL, List.filterMap_cons, List.filterMap_nil, List.getElem?_toArray, List.getElem?_cons_zero, List.getElem?_cons_succ]
        refine (show wpQuiet _ _ _ _ [_] _ from ?_)
        repeat (go_big_quiet_step (fail))
        refine wpQuiet_nil ?_
        refine wpAnyH_done (by kernel_rfl) ?_ _
        try simp only [Exit.then]
        go_step
        go_meet
        case rel => exact ⟨Y.heap.size, rfl, rfl, bW2, hW2⟩
    · refine wpOp_val (v := .pointer (some ⟨X.heap.size, 0, none⟩)) (w' := X.alloc (.cells #[.bool false, .int .i64 0] 51)) (some 6) rfl rfl rfl (by kernel_rfl) ?_
      have hX1 := hX.trans ((galloc (Below.refl X.heap.size X) (.cells #[.bool false, .int .i64 0] 51)).mono hX.size)
      have bX1 := Bk.new X #[.bool false, .int .i64 0] 51
      refine ⟨⟨⟨_, hX1⟩, rfl⟩, ?_⟩
      simp only [Act.put, List.setIfInBounds_toArray, List.set_cons_succ, List.set_cons_zero]
      refine wpAnyH_all (rs := [3]) (by kernel_rfl) (by decide) ?_
      intro i hi
      simp only [List.mem_cons, List.not_mem_nil, or_false] at hi
      subst hi
      refine wpOp_callG (some 36) rfl rfl rfl 11 #[.agg #[.slice (some ⟨w.heap.size + 1, 0, none⟩) 1 1], .agg #[.slice (some ⟨w.heap.size + 1 + 1 + 1 + 1, 0, none⟩) 1 1, .int .i64 0, .int .i64 0, .slice none 0 0, .int .i64 0, .string ⟨#[]⟩, .slice none 0 0], .slice a3 3 k3] (by kernel_rfl) _ (cC (X.alloc (.cells #[.bool false, .int .i64 0] 51)) hX1) ?_
      rintro e Y ⟨ai, n, ci, ac, m, cc, rfl, PY, gY⟩
      have hY := hX1.trans (gY.mono hX1.size)
      refine ⟨_, rfl, ⟨⟨Y, hY⟩, rfl⟩, ?_⟩
      simp only [Act.put, List.setIfInBounds_toArray, List.set_cons_succ, List.set_cons_zero]
      refine wpAnyH_all (rs := [5]) (by kernel_rfl) (by decide) ?_
      intro i hi
      simp only [List.mem_cons, List.not_mem_nil, or_false] at hi
      subst hi
      refine wpOp_callG (some 38) rfl rfl rfl 12 #[.agg #[.slice ai n ci, .slice ac m cc], .agg #[.slice (some ⟨u3.heap.size + 1, 0, none⟩) 1 1, .int .i64 (-1), .int .i64 0]] (by kernel_rfl) _ (cR Y hY _ _ _ _ _ _ PY) ?_
      rintro e Z ⟨rfl, gZ⟩
      have hZ := hY.trans (gZ.mono hY.size)
      refine ⟨_, rfl, ⟨⟨Z, hZ⟩, rfl⟩, ?_⟩
      simp only [Act.put, List.setIfInBounds_toArray, List.set_cons_succ, List.set_cons_zero]
      refine anyH_pick (g := 2) [6, 7, 8] (by kernel_rfl) (fun c a d v w h => by cases d <;> exact h) ⟨⟨Z, hZ⟩, rfl⟩ rfl (by kernel_rfl) ?_
      simp only [pickL, List.filterMap_cons, List.filterMap_nil, List.getElem?_toArray, List.getElem?_cons_zero, List.getElem?_cons_succ]
      refine (show wpQuiet _ _ _ _ [_, _, _] _ from ?_)
      repeat (go_big_quiet_step (fail))
      refine wpQuiet_nil ?_
      refine wpAnyH_all (rs := [10]) (by kernel_rfl) (by decide) ?_
      intro i hi
      simp only [List.mem_cons, List.not_mem_nil, or_false] at hi
      subst hi
      have tt : World.there Z X.heap.size 0 2 := fun j hj => by
        rcases (show j = 0 ∨ j = 1 by omega) with rfl | rfl
        · exact ⟨by rw [Nat.add_zero, ((bX1.keep gY).keep gZ).at2.1]; rfl, ((bX1.keep gY).keep gZ).free _⟩
        · exact ⟨by rw [Nat.zero_add, ((bX1.keep gY).keep gZ).at2.2]; rfl, ((bX1.keep gY).keep gZ).free _⟩
      have hW2 : Below V.heap.size V (World.setCells Z X.heap.size 0 [.bool true, .int .i64 6]) := gsetCells hZ (show V.heap.size ≤ X.heap.size by have := hZ.size; have := hX.size; omega) _ _
      have bW2 : Bk (World.setCells Z X.heap.size 0 [.bool true, .int .i64 6]) X.heap.size #[.bool true, .int .i64 6] 51 := Bk.setCells (cs' := #[.bool true, .int .i64 6]) ((bX1.keep gY).keep gZ) rfl
      refine wpOp_store none rfl rfl rfl 51 (.tmp 6) (.tmp 39) rfl X.heap.size 0 #[.bool true, .int .i64 6] rfl rfl tt (by kernel_rfl) (by kernel_rfl) ?_
      refine ⟨⟨⟨_, hW2⟩, rfl⟩, ?_⟩
      simp only [Act.put, List.setIfInBounds_toArray, List.set_cons_succ, List.set_cons_zero]
      refine anyH_pick (g := 0) [11] (by kernel_rfl) (fun c a d v w h => by cases d <;> exact h) ⟨⟨_, hW2⟩, rfl⟩ rfl (by kernel_rfl) ?_
      simp only [pickL, List.filterMap_cons, List.filterMap_nil, List.getElem?_toArray, List.getElem?_cons_zero, List.getElem?_cons_succ]
      refine (show wpQuiet _ _ _ _ [_] _ from ?_)
      repeat (go_big_quiet_step (fail))
      refine wpQuiet_nil ?_
      refine wpAnyH_done (by kernel_rfl) ?_ _
      try simp only [Exit.then]
      go_step
      go_meet
      case rel => exact ⟨X.heap.size, rfl, rfl, bW2, hW2⟩
  case rest =>
    obtain ⟨b6, rfl, rfl, B6, G6⟩ := hcut
    have hC := galloc (Below.refl wc.heap.size wc) (.cells #[.bool true, .int .i64 6] 51)
    have hV := G6.trans (hC.mono G6.size)
    have n8 := Bk.new wc #[.bool true, .int .i64 6] 51
    have B6' := B6.keep hC
    have n5' := n5.keep hV
    have A8 := A5.keep hV
    have T8 := T5.keep hV
    have K8 := K5.keep hV
    have TB8 := TB5.keep hV
    have G8 := gtrans GA hV
    clear e0 e1 e2 q0 q1 q2 q3 q4 q5 q6 s0 p0 p1 p2 p3 p4 p5 p6 p7 p8 p9 pa hne0 cC cR A5 T5 K5 TB5 B6 n5
    go_upto_region 8 with fail
    generalize wc.alloc _ = U at *
    obtain ⟨e0, e1, e2⟩ := T8.be.at3
    obtain ⟨q0, q1, q2, q3, q4, q5, q6⟩ := A8.bq.at7
    have s0 : U.cell? ⟨w.heap.size + 1 + 1, 0, none⟩ = some (.slice (some ⟨w.heap.size + 1, 0, none⟩) 1 1) := cell_of_row _ _ 0 _ _ _ A8.bs
    obtain ⟨x0, x1⟩ := n5'.at2
    obtain ⟨y0, y1⟩ := B6'.at2
    obtain ⟨z0, z1⟩ := n8.at2
    have hne0 : Nonempty (Ext U) := ⟨⟨_, Below.refl _ _⟩⟩
    have p0 := fun z : Ext U => (z.cell _ _ (lt_of_cell e0)).trans e0
    have p1 := fun z : Ext U => (z.cell _ _ (lt_of_cell e1)).trans e1
    have p2 := fun z : Ext U => (z.cell _ _ (lt_of_cell e2)).trans e2
    have p3 := fun z : Ext U => (z.cell _ _ (lt_of_cell q0)).trans q0
    have p4 := fun z : Ext U => (z.cell _ _ (lt_of_cell q1)).trans q1
    have p5 := fun z : Ext U => (z.cell _ _ (lt_of_cell q2)).trans q2
    have p6 := fun z : Ext U => (z.cell _ _ (lt_of_cell q3)).trans q3
    have p7 := fun z : Ext U => (z.cell _ _ (lt_of_cell q4)).trans q4
    have p8 := fun z : Ext U => (z.cell _ _ (lt_of_cell q5)).trans q5
    have p9 := fun z : Ext U => (z.cell _ _ (lt_of_cell q6)).trans q6
    have pa := fun z : Ext U => (z.cell _ _ (lt_of_cell s0)).trans s0
    have pb := fun z : Ext U => (z.cell _ _ (lt_of_cell x0)).trans x0
    have pc := fun z : Ext U => (z.cell _ _ (lt_of_cell x1)).trans x1
    have pd := fun z : Ext U => (z.cell _ _ (lt_of_cell y0)).trans y0
    have pe := fun z : Ext U => (z.cell _ _ (lt_of_cell y1)).trans y1
    have pf := fun z : Ext U => (z.cell _ _ (lt_of_cell z0)).trans z0
    have pg := fun z : Ext U => (z.cell _ _ (lt_of_cell z1)).trans z1
    have cC := fun (Y : World) (h : Below U.heap.size U Y) => awCompile_any (s8 := u3.heap.size + 1) (s9 := u3.heap.size + 1 + 1) (ao := a3) k3 (K8.keep h) (A8.keep h) (T8.keep h)
    have cH := fun (Y : World) (h : Below U.heap.size U Y) (ai : Option Addr) (n ci : Nat) (ac : Option Addr) (m cc : Nat) (P : AwP Y ai n ci ac m cc) => awHolds_any (TB8.keep h) (T8.keep h) P
    refine wp_region_held (S := fun X => ∃ n : Ext U, X = n.X) (by kernel_rfl) ?_
    have hX0 : Below U.heap.size U { U with drawn := U.drawn + 1 } := (Below.refl _ U).drew
    obtain ⟨X, hXe⟩ : ∃ X, { U with drawn := U.drawn + 1 } = X := ⟨_, rfl⟩
    have hX : Below U.heap.size U X := hXe ▸ hX0
    rw [hXe]
    clear hX0 hXe
    refine anyH_pick (g := 4) [0, 1, 2, 3, 4, 5, 6, 7, 8, 9, 10, 11, 12, 13, 14, 15, 17] (by kernel_rfl) (fun c a d v w h => by cases d <;> exact h) ⟨⟨X, hX⟩, rfl⟩ rfl (by kernel_rfl) ?_
    simp only [pickL, List.filterMap_cons, List.filterMap_nil, List.getElem?_toArray, List.getElem?_cons_zero, List.getElem?_cons_succ]
    refine (show wpQuiet _ _ _ _ [_, _, _, _, _, _, _, _, _, _, _, _, _, _, _, _, _] _ from ?_)
    repeat (go_big_quiet_step (fail))
    refine wpQuiet_nil ?_
    refine wpAnyH_all (rs := [16]) (by kernel_rfl) (by decide) ?_
    intro i hi
    simp only [List.mem_cons, List.not_mem_nil, or_false] at hi
    subst hi
    refine wpOp_callG (some 58) rfl rfl (by kernel_rfl) 11 #[.agg #[.slice (some ⟨w.heap.size + 1, 0, none⟩) 1 1], .agg #[.slice (some ⟨w.heap.size + 1 + 1 + 1 + 1, 0, none⟩) 1 1, .int .i64 0, .int .i64 0, .slice none 0 0, .int .i64 0, .string ⟨#[]⟩, .slice none 0 0], .slice a3 3 k3] (by kernel_rfl) _ (cC X hX) ?_
    rintro e Y ⟨ai, n, ci, ac, m, cc, rfl, PY, gY⟩
    have hY := hX.trans (gY.mono hX.size)
    refine ⟨_, rfl, ⟨⟨Y, hY⟩, rfl⟩, ?_⟩
    simp only [Act.put, List.setIfInBounds_toArray, List.set_cons_succ, List.set_cons_zero]
    refine wpAnyH_all (rs := [18]) (by kernel_rfl) (by decide) ?_
    intro i hi
    simp only [List.mem_cons, List.not_mem_nil, or_false] at hi
    subst hi
    refine wpOp_callG (some 60) rfl rfl (by kernel_rfl) 19 #[.agg #[.slice ai n ci, .slice ac m cc], .agg #[.slice (some ⟨u3.heap.size + 1, 0, none⟩) 1 1, .int .i64 (-1), .int .i64 0]] (by kernel_rfl) _ (cH Y hY _ _ _ _ _ _ PY) ?_
    rintro e Z ⟨rfl, gZ⟩
    have hZ := hY.trans (gZ.mono hY.size)
    refine ⟨_, rfl, ⟨⟨Z, hZ⟩, rfl⟩, ?_⟩
    simp only [Act.put, List.setIfInBounds_toArray, List.set_cons_succ, List.set_cons_zero]
    refine anyH_pick (g := 0) [19, 20] (by kernel_rfl) (fun c a d v w h => by cases d <;> exact h) ⟨⟨Z, hZ⟩, rfl⟩ rfl (by kernel_rfl) ?_
    simp only [pickL, List.filterMap_cons, List.filterMap_nil, List.getElem?_toArray, List.getElem?_cons_zero, List.getElem?_cons_succ]
    refine (show wpQuiet _ _ _ _ [_, _] _ from ?_)
    repeat (go_big_quiet_step (fail))
    refine wpQuiet_nil ?_
    refine wpAnyH_done (by kernel_rfl) ?_ _
    try simp only [Exit.then]
    go_step
    have GZ := gtrans G8 hZ
    clear p0 p1 p2 p3 p4 p5 p6 p7 p8 p9 pa pb pc pd pe pf pg cC cH
    go_wp2
    go_ret
    exact ⟨rfl, GZ⟩

end Go.Proofs.YtnolbpekdikamaaGreatDoor
namespace Go.Proofs.YtnolbpekdikamaaGreatDoor
open Go.RowKit Go.BigFrame
set_option linter.unusedVariables false
set_option linter.unusedSimpArgs false

def entI (zs : List Int) (i : Int) : Int := if i < 0 ∨ (zs.length : Int) ≤ i then 0 else zs.getD i.toNat 0
def entR (l : List (List Int)) (i : Int) : List Int := if i < 0 ∨ (l.length : Int) ≤ i then [] else l.getD i.toNat []
theorem Blk4 (w : World) (a b c d : Value) (t : TypeId) : (w.alloc (.cells #[a, b, c, d] t)).cell? ⟨w.heap.size, 2, none⟩ = some c ∧ (w.alloc (.cells #[a, b, c, d] t)).cell? ⟨w.heap.size, 3, none⟩ = some d := ⟨by simp, by simp⟩
/-- A flaw: its code, part, index, sub. -/
structure Fw where
  code : Int
  part : Int
  ix : Int
  sub : Int
structure Fw.fit (f : Fw) : Prop where
  code : fI f.code
  part : fI f.part
  ix : fI f.ix
  sub : fI f.sub
def fwA (f : Fw) : Array Value := #[.int .i64 f.code, .int .i64 f.part, .int .i64 f.ix, .int .i64 f.sub]
def plaO (s : Sps) (f : Fw) : Int :=
  if f.part = 1 then entI s.items f.ix else if f.part = 2 then s.within else if f.part = 3 then s.by_ else if f.part = 4 then entI s.wh f.ix else if f.part = 5 then entI (entR s.ret f.ix) f.sub else 0
theorem entR_small {s : Sps} (hs : s.fit) (i : Int) : (entR s.ret i).length * 8 ≤ 140737488351232 := by
  unfold entR
  split
  · simp
  · exact hs.ret _
end Go.Proofs.YtnolbpekdikamaaGreatDoor
namespace Go.Proofs.YtnolbpekdikamaaGreatDoor
open Go.RowKit Go.BigFrame
set_option linter.unusedVariables false
set_option linter.unusedSimpArgs false

theorem nf_int : (Tryz.prog.info? 3).map (fun i => (i.zero, i.size, i.bytes)) = some (some (.int .i64 0), 1, 8) := by kernel_rfl
theorem ints_at (zs : List Int) (j : Nat) (u : Value) (h : (intsV zs)[j]? = some u) : j < zs.length ∧ u = .int .i64 (zs.getD j 0) := by
  have hj := (List.getElem?_eq_some_iff.1 h).1
  rw [show (intsV zs).length = zs.length by simp [intsV]] at hj
  refine ⟨hj, ?_⟩
  unfold intsV at h
  rw [List.getElem?_map, List.getElem?_eq_getElem hj] at h
  simp only [Option.map_some, Option.some.injEq] at h
  rw [← h, List.getD_eq_getElem?_getD, List.getElem?_eq_getElem hj]
  rfl
/-- append of a whole row of numbers onto a row of one's own. -/
theorem wpList_append_ints {w : World} {ops : Array Oper} {rest : List Oper} {o : Oper} {a : Act} {Q : Exit → Act → World → Prop} (hgd : o.guard = none) (s x : Operand)
    (ho : o.op = .call { callee := .builtin .append, args := #[s, x], argTypes := #[39, 39] }) (v : Value) (base n : Nat) (xs : List Value) (hs : a.eval s = v) (O : w.ownsRow base 3 1 v n xs) (hb : base ≤ w.heap.size)
    (ao : Option Addr) (cap : Nat) (ts : List Int) (hx : a.eval x = .slice ao ts.length cap) (hsl : Sl ao ts.length cap) (A : IsInts w ao ts) (hl : (n + ts.length) * 8 ≤ 140737488351232)
    (h : ∀ v' w', w'.ownsRow base 3 1 v' (n + ts.length) (xs ++ intsV ts) → w.grownBy w' v.ownBlock → wpList Tryz.prog ops Q rest (a.put o.dst v') w') : wpList Tryz.prog ops Q (o :: rest) a w := by
  obtain ⟨i3, ti, tz0, tz1, tz2⟩ := nf_info nf_int
  have hlen : (intsV ts).length = ts.length := by simp [intsV]
  cases ao with
  | none =>
    obtain ⟨h0, rfl⟩ := hsl.2 rfl
    refine wpList_plain hgd fun K hK' => ?_
    have hrun := run_append_owned_none (P := Tryz.prog) w base 39 o.type 3 i3 1 Tryz.underlying39 ti v n xs O
    have hts : ts = [] := List.length_eq_zero_iff.1 h0
    subst hts
    replace hx : a.eval x = .slice none 0 0 := hx
    unfold Oper.wp
    simp [execOp, ho, resolve, invoke, builtin, hs, hx, hrun, Result.andThen]
    refine hK' _ _ (h _ _ ?_ (World.grownBy.refl _ _))
    rw [show intsV [] = [] from rfl, List.append_nil]
    exact O
  | some ad =>
    refine wpList_append_own (w := w) hgd s x 39 ho base 3 i3 (.int .i64 0) 1 8 Tryz.underlying39 ti tz0 tz1 tz2 rfl (by decide) v n xs hs O ad ts.length cap (intsV ts) hx (by rw [hlen, Nat.mul_one]) (fun j u hj => ?_) (fun u hu => ?_) (by unfold maxLen; omega) (by omega) hb (fun v' w' h1 h2 _ => h v' w' h1 h2)
    · obtain ⟨hj2, rfl⟩ := ints_at ts j u hj
      obtain ⟨g, off, e, c0⟩ := A j hj2
      cases e
      rw [Go.WideShapes.add_plain]
      exact c0
    · unfold intsV at hu
      obtain ⟨z, _, rfl⟩ := List.mem_map.1 hu
      rfl
/-- A local of five cells. -/
def Fv (w : World) (b : Nat) (c0 c1 c2 c3 c4 : Value) (t : TypeId) : Prop := w.heap[b]? = some (.cells #[c0, c1, c2, c3, c4] t (0, 0))
section
variable {w u : World} {b : Nat} {c0 c1 c2 c3 c4 : Value} {t : TypeId}
theorem Fv.lt (h : Fv w b c0 c1 c2 c3 c4 t) : b < w.heap.size := lt_of_block h
theorem Fv.at (h : Fv w b c0 c1 c2 c3 c4 t) : w.cell? ⟨b, 0, none⟩ = some c0 ∧ w.cell? ⟨b, 1, none⟩ = some c1 ∧ w.cell? ⟨b, 2, none⟩ = some c2 ∧ w.cell? ⟨b, 3, none⟩ = some c3 ∧ w.cell? ⟨b, 4, none⟩ = some c4 := ⟨cell_of_row w b 0 _ _ _ h, cell_of_row w b 1 _ _ _ h, cell_of_row w b 2 _ _ _ h, cell_of_row w b 3 _ _ _ h, cell_of_row w b 4 _ _ _ h⟩
theorem Fv.free (h : Fv w b c0 c1 c2 c3 c4 t) (o : Nat) : w.frozen? ⟨b, o, none⟩ = false := by unfold Fv at h; simp [World.frozen?, h]
theorem Fv.new (w : World) (c0 c1 c2 c3 c4 : Value) (t : TypeId) : Fv (w.alloc (.cells #[c0, c1, c2, c3, c4] t)) w.heap.size c0 c1 c2 c3 c4 t := by
  show (w.heap.push _)[w.heap.size]? = _
  simp
theorem Fv.keep (h : Fv w b c0 c1 c2 c3 c4 t) (G : Below w.heap.size w u) : Fv u b c0 c1 c2 c3 c4 t := (G.block b h.lt).trans h
theorem Fv.alloc (h : Fv w b c0 c1 c2 c3 c4 t) (o : Obj) : Fv (w.alloc o) b c0 c1 c2 c3 c4 t := (Below.heap_alloc w o b h.lt).trans h
theorem Fv.other (h : Fv w b c0 c1 c2 c3 c4 t) {b' : Nat} (hne : b' ≠ b) (o : Nat) (v : Value) : Fv (w.setCell ⟨b', o, none⟩ v) b c0 c1 c2 c3 c4 t := by
  unfold Fv at h ⊢
  rw [← h]
  show (w.heap.modify b' _)[b]? = _
  rw [Array.getElem?_modify, if_neg hne]
theorem Fv.go (w : World) (cs : Array Value) (o : Nat) (a : Value) (h : w.heap[b]? = some (.cells cs t (0, 0))) : (w.setCell ⟨b, o, none⟩ a).heap[b]? = some (.cells (cs.setIfInBounds o a) t (0, 0)) := by
  have hlt := lt_of_block h
  have h' : w.heap[b] = .cells cs t (0, 0) := by simpa [Array.getElem?_eq_getElem hlt] using h
  show (w.heap.modify b _)[b]? = _
  rw [Array.getElem?_eq_getElem (by simpa using hlt), Array.getElem_modify_self, h']
  rfl
theorem Fv.set0 (h : Fv w b c0 c1 c2 c3 c4 t) (v : Value) : Fv (w.setCell ⟨b, 0, none⟩ v) b v c1 c2 c3 c4 t := Fv.go w _ 0 v h
theorem Fv.set1 (h : Fv w b c0 c1 c2 c3 c4 t) (v : Value) : Fv (w.setCell ⟨b, 1, none⟩ v) b c0 v c2 c3 c4 t := Fv.go w _ 1 v h
theorem Fv.set2 (h : Fv w b c0 c1 c2 c3 c4 t) (v : Value) : Fv (w.setCell ⟨b, 2, none⟩ v) b c0 c1 v c3 c4 t := Fv.go w _ 2 v h
theorem Fv.set3 (h : Fv w b c0 c1 c2 c3 c4 t) (v : Value) : Fv (w.setCell ⟨b, 3, none⟩ v) b c0 c1 c2 v c4 t := Fv.go w _ 3 v h
theorem Fv.set4 (h : Fv w b c0 c1 c2 c3 c4 t) (v : Value) : Fv (w.setCell ⟨b, 4, none⟩ v) b c0 c1 c2 c3 v t := Fv.go w _ 4 v h
end
theorem own_ints {w : World} {b : Nat} {ao : Option Addr} {c : Nat} {zs : List Int} (h : w.ownsRow b 3 1 (.slice ao zs.length c) zs.length (intsV zs)) : IsInts w ao zs := fun i hi => by
  rcases h.2 with ⟨h1, h2⟩ | ⟨g, c', cur, h1, _, _, _, _⟩
  · omega
  · cases h1
    refine ⟨g, 0, rfl, ?_⟩
    rw [Nat.zero_add, World.ownsRow.cellAt h i (by omega)]
    simp [intsV, List.getD, List.getElem?_eq_getElem hi]
/-- A row of rows of numbers of one's own. -/
theorem own_iss {w : World} {b b' : Nat} {ao : Option Addr} {c : Nat} {l : List (List Int)} {vs : List Value} (hl : vs.length = l.length) (h : w.ownsRow b 39 1 (.slice ao l.length c) l.length vs) (hin : ∀ j, j < l.length → ∃ a c', vs[j]? = some (.slice a (l.getD j []).length c') ∧ w.ownsRow b' 3 1 (.slice a (l.getD j []).length c') (l.getD j []).length (intsV (l.getD j []))) : IsIss w ao l := fun i hi => by
  obtain ⟨a, c', e, O⟩ := hin i hi
  rcases h.2 with ⟨h1, h2⟩ | ⟨g, c2, cur, h1, _, _, _, _⟩
  · omega
  · cases h1
    refine ⟨g, 0, a, c', rfl, ?_, own_ints O, own_sl O⟩
    rw [Nat.zero_add, World.ownsRow.cellAt h i (by omega)]
    exact e
theorem nf_ints : (Tryz.prog.info? 39).map (fun i => (i.zero, i.size, i.bytes)) = some (some (.slice none 0 0), 1, 24) := by kernel_rfl
end Go.Proofs.YtnolbpekdikamaaGreatDoor
