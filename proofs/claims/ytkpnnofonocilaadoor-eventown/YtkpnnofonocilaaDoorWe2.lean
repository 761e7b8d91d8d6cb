/- What event's ParseEvent comes to. -/
import Derived.Test.YtkpnnofonocilaaDoorWe
import Derived.Test.YtkpnnofonocilaaDoorPs
import Derived.Deep.RegionHeld3
namespace Go.Proofs.YtkpnnofonocilaaDoor
open Go.RowKit Go.BigFrame
set_option linter.unusedVariables false
set_option linter.unusedSimpArgs false

def mkEv (z : Int × Int × Nat × List Int) : Ev := ⟨z.1, z.2.1, z.2.2.1, (pad z.2.2.2).getD 0 0, (pad z.2.2.2).getD 1 0, (pad z.2.2.2).getD 2 0, (pad z.2.2.2).getD 3 0, (pad z.2.2.2).getD 4 0, (pad z.2.2.2).getD 5 0, (pad z.2.2.2).getD 6 0, (pad z.2.2.2).getD 7 0⟩
theorem mkEv_eq {z : Int × Int × Nat × List Int} {ev : Ev} (h0 : ev.ts = z.1) (h1 : ev.id = z.2.1) (h2 : ev.typ = z.2.2.1) (h3 : [ev.a0, ev.a1, ev.a2, ev.a3, ev.a4, ev.a5, ev.a6, ev.a7] = pad z.2.2.2) : ev = mkEv z := by
  unfold mkEv
  rw [← h3, ← h0, ← h1, ← h2]
  rfl
/-- What ParseEvent answers. -/
def pE (L : List Ty) (s : ByteArray) : Ev × Int × Int := if schE L ≠ 0 then (zeroE, schE L, 0) else if (rdE s L).2.1 ≠ 0 then (zeroE, (rdE s L).2.1, (wA s (rdE s L).2.2 : Int)) else (mkEv (rdE s L).1, 0, 0)

theorem below_grown {N : Nat} {w U u : World} {b : Nat} (h : Below N w U) (G : U.grownBy u (some b)) (hb : N ≤ b) (hN : N ≤ U.heap.size) : Below N w u :=
  h.trans ⟨G.os, G.tape, G.output, G.size, fun k hk => G.block k (by omega) (fun e => by have := Option.some.inj e; omega)⟩
theorem below_setE {N : Nat} {w u : World} {c : Nat} (hc : N ≤ c) (h : Below N w u) (x0 x1 x2 x3 x4 x5 x6 x7 x8 x9 x10 : Value) : Below N w (((((((((((u.setCell ⟨c, 0, none⟩ x0).setCell ⟨c, 1, none⟩ x1).setCell ⟨c, 2, none⟩ x2).setCell ⟨c, 3, none⟩ x3).setCell ⟨c, 4, none⟩ x4).setCell ⟨c, 5, none⟩ x5).setCell ⟨c, 6, none⟩ x6).setCell ⟨c, 7, none⟩ x7).setCell ⟨c, 8, none⟩ x8).setCell ⟨c, 9, none⟩ x9).setCell ⟨c, 10, none⟩ x10) :=
  ((((((((((h.setCell (p := ⟨c, 0, none⟩) hc _).setCell (p := ⟨c, 1, none⟩) hc _).setCell (p := ⟨c, 2, none⟩) hc _).setCell (p := ⟨c, 3, none⟩) hc _).setCell (p := ⟨c, 4, none⟩) hc _).setCell (p := ⟨c, 5, none⟩) hc _).setCell (p := ⟨c, 6, none⟩) hc _).setCell (p := ⟨c, 7, none⟩) hc _).setCell (p := ⟨c, 8, none⟩) hc _).setCell (p := ⟨c, 9, none⟩) hc _).setCell (p := ⟨c, 10, none⟩) hc _
theorem ErAt.lt {w : World} (h : ErAt w) : 3 < w.heap.size := by
  obtain ⟨te, pe, h⟩ := h
  exact lt_of_cell h

set_option maxRecDepth 100000 in
set_option maxHeartbeats 16000000 in
theorem parseEvent_any (ao : Option Addr) (n c : Nat) (L : List Ty) (s : ByteArray) (hs : s.size ≤ 281474976710656) (w : World) (T : IsTypes w ao n L) (hnc : n ≤ c) (K : KwAt w) (E : ErAt w) :
    Calls Tryd.prog 17 #[.agg #[.slice ao n c], .string s] w fun r w' => r = .returned (.tuple #[.agg (evC (pE L s).1), .int .i64 (pE L s).2.1, .int .i64 (pE L s).2.2]) ∧ Below w.heap.size w w' := by
  obtain ⟨z, hz⟩ : ∃ z, pE L s = z := ⟨_, rfl⟩
  rw [hz]
  have hz' := hz.symm
  unfold pE at hz'
  clear hz
  have cC := fun (u : World) (g : Below w.heap.size w u) => checkSchema_any ao n c L u (T.keep g) hnc (K.keep g)
  have B0 : Below w.heap.size w ((w.alloc (.cells #[.slice ao n c] 24)).alloc (.cells #[.int .i64 0, .int .u64 0, .int .i64 0, .int .i64 0, .int .i64 0, .int .i64 0, .int .i64 0, .int .i64 0, .int .i64 0, .int .i64 0, .int .i64 0] 44)) := galloc (galloc (Below.refl _ _) _) _
  have O0 : One ((w.alloc (.cells #[.slice ao n c] 24)).alloc (.cells #[.int .i64 0, .int .u64 0, .int .i64 0, .int .i64 0, .int .i64 0, .int .i64 0, .int .i64 0, .int .i64 0, .int .i64 0, .int .i64 0, .int .i64 0] 44)) w.heap.size (.slice ao n c) 24 := (One.new w _ _).alloc _
  have Z0 : Evt ((w.alloc (.cells #[.slice ao n c] 24)).alloc (.cells #[.int .i64 0, .int .u64 0, .int .i64 0, .int .i64 0, .int .i64 0, .int .i64 0, .int .i64 0, .int .i64 0, .int .i64 0, .int .i64 0, .int .i64 0] 44)) (w.heap.size + 1) zeroE := by
    have := Evt.new (w.alloc (.cells #[.slice ao n c] 24)) zeroE
    rw [show (w.alloc (.cells #[.slice ao n c] 24)).heap.size = w.heap.size + 1 by simp] at this
    exact this
  by_cases h1 : schE L = 0
  · rw [if_neg (by rw [h1]; decide)] at hz'
    have hL8 := sch_len L h1
    rw [h1] at cC
    have cV : ∀ (u1 : World), Below w.heap.size w u1 → ∀ b, b = u1.heap.size → Calls Tryd.prog 31 #[.pointer (some ⟨b, 0, none⟩), .agg #[.slice ao n c]] (u1.alloc (.cells #[.string s, .int .i64 0, .int .i64 0] 73)) fun r w' => EvAns (u1.alloc (.cells #[.string s, .int .i64 0, .int .i64 0] 73)) b s (rdE s L) r w' := fun u1 g1 b hb => by
      have g2 := galloc g1 (.cells #[.string s, .int .i64 0, .int .i64 0] 73)
      subst hb
      refine event_any u1.heap.size s hs 0 ao n c L hL8 _ (Lr.new u1 s 0 0) (fun u G => T.keep (below_grown g2 G g1.size g2.size)) (E.keep g2) (by have := E.lt; have := g1.size; omega)
    generalize rdE s L = q at *
    obtain ⟨q1, qc, qp⟩ := q
    dsimp only at hz'
    by_cases h2 : qc = 0
    · subst h2
      rw [if_neg (by decide)] at hz'
      have HZ : Hid (z = (mkEv q1, 0, 0)) := hz'
      clear hz'
      go_enter Tryd.func17, Tryd.ntmps17
      go_wp2_with ((go_at_call 15; with_reducible refine (cC _ B0).mono ?_; rintro e1 u1 ⟨rfl, g1⟩; have G1 := gtrans B0 g1; have s1 : ∀ o, (u1.alloc o).cell? ⟨w.heap.size, 0, none⟩ = some (.slice ao n c) := (fun o => ((O0.keep g1).alloc o).at0); have cV1 := cV u1 G1 _ rfl))
      refine cV1.mono ?_
      rintro e2 u2 ⟨ev, rfl, R2, hval, g2⟩
      obtain ⟨t, i, y, a0, a1, a2, a3, a4, a5, a6, a7⟩ := ev
      have HE : Hid ((⟨t, i, y, a0, a1, a2, a3, a4, a5, a6, a7⟩ : Ev) = mkEv q1) := (mkEv_eq (hval rfl).1 (hval rfl).2.1 (hval rfl).2.2.1 (hval rfl).2.2.2)
      simp only [evC]
      clear hval
      have Az := (((Z0.keep g1).alloc (.cells #[.string s, .int .i64 0, .int .i64 0] 73)).grown g2 (fun e => by have := Option.some.inj e; have := G1.size; have := (Z0.keep g1).lt; omega)).alloc (.cells #[.int .i64 t, .int .u64 i, .int .i64 y, .int .i64 a0, .int .i64 a1, .int .i64 a2, .int .i64 a3, .int .i64 a4, .int .i64 a5, .int .i64 a6, .int .i64 a7] 44)
      obtain ⟨k0, k1, k2, k3, k4, k5, k6, k7, k8, k9, k10⟩ := (show Evt _ (w.heap.size + 1) ⟨0, 0, 0, 0, 0, 0, 0, 0, 0, 0, 0⟩ from Az).all
      have f0 := Az.free 0
      have f1 := Az.free 1
      have f2 := Az.free 2
      have f3 := Az.free 3
      have f4 := Az.free 4
      have f5 := Az.free 5
      have f6 := Az.free 6
      have f7 := Az.free 7
      have f8 := Az.free 8
      have f9 := Az.free 9
      have f10 := Az.free 10
      go_wp2
      refine bodyPost_ret (results_row_tmp2 rfl _ _ (w.heap.size + 1) 44 _ (0, 0) _ rfl (Az.setE t i y a0 a1 a2 a3 a4 a5 a6 a7) Tryd.underlying44 rfl infoEv) rfl ⟨by rw [HZ.out, ← HE.out]; rfl, below_setE (by omega) (galloc (below_grown (galloc G1 _) g2 G1.size (galloc G1 _).size) _) _ _ _ _ _ _ _ _ _ _ _⟩
    · rw [if_pos h2] at hz'
      have HZ : Hid (z = (zeroE, qc, (wA s qp : Int))) := hz'
      have q0 : (qc == 0) = false := by simpa using h2
      clear hz'
      go_enter Tryd.func17, Tryd.ntmps17
      go_wp2_with ((go_at_call 15; with_reducible refine (cC _ B0).mono ?_; rintro e1 u1 ⟨rfl, g1⟩; have G1 := gtrans B0 g1; have s1 : ∀ o, (u1.alloc o).cell? ⟨w.heap.size, 0, none⟩ = some (.slice ao n c) := (fun o => ((O0.keep g1).alloc o).at0); have cV1 := cV u1 G1 _ rfl))
      refine cV1.mono ?_
      rintro e2 u2 ⟨ev, rfl, R2, hval, g2⟩
      obtain ⟨t, i, y, a0, a1, a2, a3, a4, a5, a6, a7⟩ := ev
      simp only [evC]
      clear hval
      have Az := (((Z0.keep g1).alloc (.cells #[.string s, .int .i64 0, .int .i64 0] 73)).grown g2 (fun e => by have := Option.some.inj e; have := G1.size; have := (Z0.keep g1).lt; omega)).alloc (.cells #[.int .i64 t, .int .u64 i, .int .i64 y, .int .i64 a0, .int .i64 a1, .int .i64 a2, .int .i64 a3, .int .i64 a4, .int .i64 a5, .int .i64 a6, .int .i64 a7] 44)
      have r1 : ∀ o, (u2.alloc o).cell? ⟨u1.heap.size, 1, none⟩ = some (.int .i64 (wA s qp : Int)) := (fun o => (R2.alloc o).at.2.1)
      obtain ⟨k0, k1, k2, k3, k4, k5, k6, k7, k8, k9, k10⟩ := (show Evt _ (w.heap.size + 1) ⟨0, 0, 0, 0, 0, 0, 0, 0, 0, 0, 0⟩ from Az).all
      have f0 := Az.free 0
      have f1 := Az.free 1
      have f2 := Az.free 2
      have f3 := Az.free 3
      have f4 := Az.free 4
      have f5 := Az.free 5
      have f6 := Az.free 6
      have f7 := Az.free 7
      have f8 := Az.free 8
      have f9 := Az.free 9
      have f10 := Az.free 10
      go_wp2
      have hne1 : u1.heap.size ≠ w.heap.size + 1 := by have := (Z0.keep g1).lt; omega
      have L3 := R2.alloc (.cells #[.int .i64 t, .int .u64 i, .int .i64 y, .int .i64 a0, .int .i64 a1, .int .i64 a2, .int .i64 a3, .int .i64 a4, .int .i64 a5, .int .i64 a6, .int .i64 a7] 44)
      have hS0 : (u2.alloc (.cells #[.int .i64 t, .int .u64 i, .int .i64 y, .int .i64 a0, .int .i64 a1, .int .i64 a2, .int .i64 a3, .int .i64 a4, .int .i64 a5, .int .i64 a6, .int .i64 a7] 44)).drew.cell? ⟨u1.heap.size, 1, none⟩ = some (.int .i64 (wA s qp : Int)) := L3.drew.at.2.1
      have hS1 : ((((((((((((u2.alloc (.cells #[.int .i64 t, .int .u64 i, .int .i64 y, .int .i64 a0, .int .i64 a1, .int .i64 a2, .int .i64 a3, .int .i64 a4, .int .i64 a5, .int .i64 a6, .int .i64 a7] 44)).setCell ⟨w.heap.size + 1, 0, none⟩ (.int .i64 0)).setCell ⟨w.heap.size + 1, 1, none⟩ (.int .u64 0)).setCell ⟨w.heap.size + 1, 2, none⟩ (.int .i64 0)).setCell ⟨w.heap.size + 1, 3, none⟩ (.int .i64 0)).setCell ⟨w.heap.size + 1, 4, none⟩ (.int .i64 0)).setCell ⟨w.heap.size + 1, 5, none⟩ (.int .i64 0)).setCell ⟨w.heap.size + 1, 6, none⟩ (.int .i64 0)).setCell ⟨w.heap.size + 1, 7, none⟩ (.int .i64 0)).setCell ⟨w.heap.size + 1, 8, none⟩ (.int .i64 0)).setCell ⟨w.heap.size + 1, 9, none⟩ (.int .i64 0)).setCell ⟨w.heap.size + 1, 10, none⟩ (.int .i64 0)).drew.cell? ⟨u1.heap.size, 1, none⟩ = some (.int .i64 (wA s qp : Int)) := (Lr.setE L3 (w.heap.size + 1) hne1 _ _ _ _ _ _ _ _ _ _ _).drew.at.2.1
      go_region_held3 (fun X => X.cell? ⟨u1.heap.size, 1, none⟩ = some (.int .i64 (wA s qp : Int))) (first | (with_reducible exact hS0) | (with_reducible exact hS1) | go_keep) (fail)
      have Zf : Evt ((((((((((((u2.alloc (.cells #[.int .i64 t, .int .u64 i, .int .i64 y, .int .i64 a0, .int .i64 a1, .int .i64 a2, .int .i64 a3, .int .i64 a4, .int .i64 a5, .int .i64 a6, .int .i64 a7] 44)).setCell ⟨w.heap.size + 1, 0, none⟩ (.int .i64 0)).setCell ⟨w.heap.size + 1, 1, none⟩ (.int .u64 0)).setCell ⟨w.heap.size + 1, 2, none⟩ (.int .i64 0)).setCell ⟨w.heap.size + 1, 3, none⟩ (.int .i64 0)).setCell ⟨w.heap.size + 1, 4, none⟩ (.int .i64 0)).setCell ⟨w.heap.size + 1, 5, none⟩ (.int .i64 0)).setCell ⟨w.heap.size + 1, 6, none⟩ (.int .i64 0)).setCell ⟨w.heap.size + 1, 7, none⟩ (.int .i64 0)).setCell ⟨w.heap.size + 1, 8, none⟩ (.int .i64 0)).setCell ⟨w.heap.size + 1, 9, none⟩ (.int .i64 0)).setCell ⟨w.heap.size + 1, 10, none⟩ (.int .i64 0)).drew (w.heap.size + 1) ⟨0, 0, 0, 0, 0, 0, 0, 0, 0, 0, 0⟩ := (Az.setE 0 0 0 0 0 0 0 0 0 0 0).drew
      have Bf : Below w.heap.size w ((((((((((((u2.alloc (.cells #[.int .i64 t, .int .u64 i, .int .i64 y, .int .i64 a0, .int .i64 a1, .int .i64 a2, .int .i64 a3, .int .i64 a4, .int .i64 a5, .int .i64 a6, .int .i64 a7] 44)).setCell ⟨w.heap.size + 1, 0, none⟩ (.int .i64 0)).setCell ⟨w.heap.size + 1, 1, none⟩ (.int .u64 0)).setCell ⟨w.heap.size + 1, 2, none⟩ (.int .i64 0)).setCell ⟨w.heap.size + 1, 3, none⟩ (.int .i64 0)).setCell ⟨w.heap.size + 1, 4, none⟩ (.int .i64 0)).setCell ⟨w.heap.size + 1, 5, none⟩ (.int .i64 0)).setCell ⟨w.heap.size + 1, 6, none⟩ (.int .i64 0)).setCell ⟨w.heap.size + 1, 7, none⟩ (.int .i64 0)).setCell ⟨w.heap.size + 1, 8, none⟩ (.int .i64 0)).setCell ⟨w.heap.size + 1, 9, none⟩ (.int .i64 0)).setCell ⟨w.heap.size + 1, 10, none⟩ (.int .i64 0)).drew := (below_setE (c := w.heap.size + 1) (by omega) (galloc (below_grown (galloc G1 _) g2 G1.size (galloc G1 _).size) _) _ _ _ _ _ _ _ _ _ _ _).drew
      clear hS0 hS1 L3 k0 k1 k2 k3 k4 k5 k6 k7 k8 k9 k10 f0 f1 f2 f3 f4 f5 f6 f7 f8 f9 f10 Az r1 R2
      generalize ((((((((((((u2.alloc (.cells #[.int .i64 t, .int .u64 i, .int .i64 y, .int .i64 a0, .int .i64 a1, .int .i64 a2, .int .i64 a3, .int .i64 a4, .int .i64 a5, .int .i64 a6, .int .i64 a7] 44)).setCell ⟨w.heap.size + 1, 0, none⟩ (.int .i64 0)).setCell ⟨w.heap.size + 1, 1, none⟩ (.int .u64 0)).setCell ⟨w.heap.size + 1, 2, none⟩ (.int .i64 0)).setCell ⟨w.heap.size + 1, 3, none⟩ (.int .i64 0)).setCell ⟨w.heap.size + 1, 4, none⟩ (.int .i64 0)).setCell ⟨w.heap.size + 1, 5, none⟩ (.int .i64 0)).setCell ⟨w.heap.size + 1, 6, none⟩ (.int .i64 0)).setCell ⟨w.heap.size + 1, 7, none⟩ (.int .i64 0)).setCell ⟨w.heap.size + 1, 8, none⟩ (.int .i64 0)).setCell ⟨w.heap.size + 1, 9, none⟩ (.int .i64 0)).setCell ⟨w.heap.size + 1, 10, none⟩ (.int .i64 0)).drew = X at *
      go_wp2
      refine bodyPost_ret (results_row_tmp2 rfl _ _ (w.heap.size + 1) 44 _ (0, 0) _ rfl Zf Tryd.underlying44 rfl infoEv) rfl ⟨by rw [HZ.out]; rfl, Bf⟩
  · rw [if_pos h1] at hz'
    have HZ : Hid (z = (zeroE, schE L, 0)) := hz'
    clear hz'
    generalize schE L = q at *
    have q0 : (q == 0) = false := by simpa using h1
    go_enter Tryd.func17, Tryd.ntmps17
    go_wp2_with (go_at_call 15; with_reducible refine (cC _ B0).mono ?_; rintro e1 u1 ⟨rfl, g1⟩; have G1 := gtrans B0 g1; have Az := Z0.keep g1; obtain ⟨k0, k1, k2, k3, k4, k5, k6, k7, k8, k9, k10⟩ := (show Evt _ (w.heap.size + 1) ⟨0, 0, 0, 0, 0, 0, 0, 0, 0, 0, 0⟩ from Az).all; have f0 := Az.free 0; have f1 := Az.free 1; have f2 := Az.free 2; have f3 := Az.free 3; have f4 := Az.free 4; have f5 := Az.free 5; have f6 := Az.free 6; have f7 := Az.free 7; have f8 := Az.free 8; have f9 := Az.free 9; have f10 := Az.free 10)
    refine bodyPost_ret (results_row_tmp2 rfl _ _ (w.heap.size + 1) 44 _ (0, 0) _ rfl (Az.setE 0 0 0 0 0 0 0 0 0 0 0) Tryd.underlying44 rfl infoEv) rfl ⟨by rw [HZ.out]; rfl, below_setE (by omega) G1 _ _ _ _ _ _ _ _ _ _ _⟩

end Go.Proofs.YtkpnnofonocilaaDoor
