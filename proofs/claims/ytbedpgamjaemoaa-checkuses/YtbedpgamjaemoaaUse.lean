/- What nodes mention: the document's Uses. -/
import Derived.Test.YtbedpgamjaemoaaUsd
namespace Go.Proofs.Ytbedpgamjaemoaa
open Go.RowKit Go.BigFrame
set_option linter.unusedVariables false
set_option linter.unusedSimpArgs false

/-- The three lists, the result's place and the query's. -/
structure Us (base : Nat) (w X : World) (qc : Array Value) (L0 L1 L2 : List Int) (a0 : Option Addr) (c0 : Nat) (a1 : Option Addr) (c1 : Nat) (a2 : Option Addr) (c2 : Nat) : Prop where
  s : UseS base (w.heap.size + 1 + 1) X L0 L1 L2 a0 c0 a1 c1 a2 c2
  r : Bk X (w.heap.size + 1) #[.slice none 0 0, .slice none 0 0, .slice none 0 0] 46
  q : Bk X w.heap.size qc 40
  g : Below w.heap.size w X
  z : base ≤ X.heap.size
theorem Us.keep {base : Nat} {w X Y : World} {qc : Array Value} {L0 L1 L2 : List Int} {a0 : Option Addr} {c0 : Nat} {a1 : Option Addr} {c1 : Nat} {a2 : Option Addr} {c2 : Nat} (S : Us base w X qc L0 L1 L2 a0 c0 a1 c1 a2 c2) (G : Below X.heap.size X Y) : Us base w Y qc L0 L1 L2 a0 c0 a1 c1 a2 c2 := ⟨S.s.keep G, S.r.keep G, S.q.keep G, gtrans S.g G, Nat.le_trans S.z G.size⟩
theorem Us.app0 {base : Nat} {w X w1 : World} {qc : Array Value} {L0 L1 L2 : List Int} {a0 : Option Addr} {c0 : Nat} {a1 : Option Addr} {c1 : Nat} {a2 : Option Addr} {c2 : Nat} (S : Us base w X qc L0 L1 L2 a0 c0 a1 c1 a2 c2) (i : Int) {g c : Nat} (hown : w1.ownsRow base 3 1 (.slice (some ⟨g, 0, none⟩) (L0.length + 1) c) (L0.length + 1) (intsV L0 ++ [.int .i64 i])) (hgrow : (X.alloc (.cells #[.int .i64 i] 3)).grownBy w1 (Value.slice a0 L0.length c0).ownBlock) (hat : (Value.slice a0 L0.length c0).ownBlock = some g ∨ g = (X.alloc (.cells #[.int .i64 i] 3)).heap.size) :
    Us base w (w1.setCell ⟨w.heap.size + 1 + 1, 0, none⟩ (.slice (some ⟨g, 0, none⟩) (L0.length + 1) c)) qc (L0 ++ [i]) L1 L2 (some ⟨g, 0, none⟩) c a1 c1 a2 c2 ∧ Bk w1 (w.heap.size + 1 + 1) #[.slice a0 L0.length c0, .slice a1 L1.length c1, .slice a2 L2.length c2] 46 := by
  have E := galloc (Below.refl X.heap.size X) (.cells #[.int .i64 i] 3)
  have SE := S.s.keep E
  have hlt := S.s.lt
  have hz := S.z
  have hg := S.g.size
  have GW : Below w.heap.size w w1 := (gtrans S.g E).grown hgrow (by simp; omega) (fun r e => by have := (SE.o0.lt _ e).1; omega)
  refine ⟨⟨SE.app0 i hown hgrow hat, (bk_far (S.r.keep E) SE.o0 (by decide) hgrow).other (by omega) 0 _, (bk_far (S.q.keep E) SE.o0 (by decide) hgrow).other (by omega) 0 _, gset GW (p := ⟨w.heap.size + 1 + 1, 0, none⟩) (by dsimp only; omega) _, ?_⟩, bk_far SE.u SE.o0 (by decide) hgrow⟩
  have := hgrow.size
  simp at this ⊢
  omega
theorem Us.app1 {base : Nat} {w X w1 : World} {qc : Array Value} {L0 L1 L2 : List Int} {a0 : Option Addr} {c0 : Nat} {a1 : Option Addr} {c1 : Nat} {a2 : Option Addr} {c2 : Nat} (S : Us base w X qc L0 L1 L2 a0 c0 a1 c1 a2 c2) (i : Int) {g c : Nat} (hown : w1.ownsRow base 3 1 (.slice (some ⟨g, 0, none⟩) (L1.length + 1) c) (L1.length + 1) (intsV L1 ++ [.int .i64 i])) (hgrow : (X.alloc (.cells #[.int .i64 i] 3)).grownBy w1 (Value.slice a1 L1.length c1).ownBlock) (hat : (Value.slice a1 L1.length c1).ownBlock = some g ∨ g = (X.alloc (.cells #[.int .i64 i] 3)).heap.size) :
    Us base w (w1.setCell ⟨w.heap.size + 1 + 1, 1, none⟩ (.slice (some ⟨g, 0, none⟩) (L1.length + 1) c)) qc L0 (L1 ++ [i]) L2 a0 c0 (some ⟨g, 0, none⟩) c a2 c2 ∧ Bk w1 (w.heap.size + 1 + 1) #[.slice a0 L0.length c0, .slice a1 L1.length c1, .slice a2 L2.length c2] 46 := by
  have E := galloc (Below.refl X.heap.size X) (.cells #[.int .i64 i] 3)
  have SE := S.s.keep E
  have hlt := S.s.lt
  have hz := S.z
  have hg := S.g.size
  have GW : Below w.heap.size w w1 := (gtrans S.g E).grown hgrow (by simp; omega) (fun r e => by have := (SE.o1.lt _ e).1; omega)
  refine ⟨⟨SE.app1 i hown hgrow hat, (bk_far (S.r.keep E) SE.o1 (by decide) hgrow).other (by omega) 1 _, (bk_far (S.q.keep E) SE.o1 (by decide) hgrow).other (by omega) 1 _, gset GW (p := ⟨w.heap.size + 1 + 1, 1, none⟩) (by dsimp only; omega) _, ?_⟩, bk_far SE.u SE.o1 (by decide) hgrow⟩
  have := hgrow.size
  simp at this ⊢
  omega
theorem Us.app2 {base : Nat} {w X w1 : World} {qc : Array Value} {L0 L1 L2 : List Int} {a0 : Option Addr} {c0 : Nat} {a1 : Option Addr} {c1 : Nat} {a2 : Option Addr} {c2 : Nat} (S : Us base w X qc L0 L1 L2 a0 c0 a1 c1 a2 c2) (i : Int) {g c : Nat} (hown : w1.ownsRow base 3 1 (.slice (some ⟨g, 0, none⟩) (L2.length + 1) c) (L2.length + 1) (intsV L2 ++ [.int .i64 i])) (hgrow : (X.alloc (.cells #[.int .i64 i] 3)).grownBy w1 (Value.slice a2 L2.length c2).ownBlock) (hat : (Value.slice a2 L2.length c2).ownBlock = some g ∨ g = (X.alloc (.cells #[.int .i64 i] 3)).heap.size) :
    Us base w (w1.setCell ⟨w.heap.size + 1 + 1, 2, none⟩ (.slice (some ⟨g, 0, none⟩) (L2.length + 1) c)) qc L0 L1 (L2 ++ [i]) a0 c0 a1 c1 (some ⟨g, 0, none⟩) c ∧ Bk w1 (w.heap.size + 1 + 1) #[.slice a0 L0.length c0, .slice a1 L1.length c1, .slice a2 L2.length c2] 46 := by
  have E := galloc (Below.refl X.heap.size X) (.cells #[.int .i64 i] 3)
  have SE := S.s.keep E
  have hlt := S.s.lt
  have hz := S.z
  have hg := S.g.size
  have GW : Below w.heap.size w w1 := (gtrans S.g E).grown hgrow (by simp; omega) (fun r e => by have := (SE.o2.lt _ e).1; omega)
  refine ⟨⟨SE.app2 i hown hgrow hat, (bk_far (S.r.keep E) SE.o2 (by decide) hgrow).other (by omega) 2 _, (bk_far (S.q.keep E) SE.o2 (by decide) hgrow).other (by omega) 2 _, gset GW (p := ⟨w.heap.size + 1 + 1, 2, none⟩) (by dsimp only; omega) _, ?_⟩, bk_far SE.u SE.o2 (by decide) hgrow⟩
  have := hgrow.size
  simp at this ⊢
  omega
/-- How far the lists are. -/
structure UsR (base : Nat) (w : World) (q : Qy) (qc : Array Value) (ns : List Nd) (x : Value) (X : World) : Prop where
  ex : ∃ (k : Nat) (a0 : Option Addr) (c0 : Nat) (a1 : Option Addr) (c1 : Nat) (a2 : Option Addr) (c2 : Nat), k ≤ q.items.length ∧ x = .int .i64 k ∧ Us base w X qc (useK q.items baB ns k) (useK q.items (· == 11) ns k) (useK q.items agB ns k) a0 c0 a1 c1 a2 c2
set_option maxRecDepth 100000 in
set_option maxHeartbeats 8000000 in
theorem refUses_any (q : Qy) (hq : q.fit) (ns : List Nd) (hr : ns.length * 64 ≤ 140737488351232) (hf : ∀ k, (ns.getD k noNd).fit) (cs : Array Value) (ai : Option Addr) (ci : Nat) (aw : Option Addr) (cw : Nat) (ar : Option Addr) (cr : Nat) (ao : Option Addr) (cap : Nat) (w : World) (A : IsQ w q cs ai ci aw cw ar cr) (N : IsNds w ao ns) :
    Calls Try.prog 14 #[.agg cs, .slice ao ns.length cap] w fun e w' => ∃ a1 c1 a2 c2 a3 c3, e = .returned (.agg #[.slice a1 (useK q.items baB ns q.items.length).length c1, .slice a2 (useK q.items (· == 11) ns q.items.length).length c2, .slice a3 (useK q.items agB ns q.items.length).length c3]) ∧ w'.ownsRow w.heap.size 3 1 (.slice a1 (useK q.items baB ns q.items.length).length c1) (useK q.items baB ns q.items.length).length (intsV (useK q.items baB ns q.items.length)) ∧ w'.ownsRow w.heap.size 3 1 (.slice a2 (useK q.items (· == 11) ns q.items.length).length c2) (useK q.items (· == 11) ns q.items.length).length (intsV (useK q.items (· == 11) ns q.items.length)) ∧ w'.ownsRow w.heap.size 3 1 (.slice a3 (useK q.items agB ns q.items.length).length c3) (useK q.items agB ns q.items.length).length (intsV (useK q.items agB ns q.items.length)) ∧ Below w.heap.size w w' := by
  obtain ⟨i0, hi, hz0, hz1, hz2⟩ := nf_info nf_int
  have AQ := A
  obtain ⟨he, _, _, _, _, _, _⟩ := A
  subst he
  have hnn := hq.n
  have cI := fun (s : ByteArray) (hs : s.size ≤ 140737488351232) (u : World) (G : Below w.heap.size w u) => refItemOf_any q hq s hs _ ai ci aw cw ar cr u (AQ.keep G)
  have B0 := galloc (galloc (galloc (Below.refl w.heap.size w) (.cells #[.slice ai q.items.length ci, .int .i64 q.mode, .int .i64 q.after, .slice aw q.wh.length cw, .int .i64 q.within, .string q.by_, .slice ar q.ret.length cr] 40)) (.cells #[.slice none 0 0, .slice none 0 0, .slice none 0 0] 46)) (.cells #[.slice none 0 0, .slice none 0 0, .slice none 0 0] 46)
  have Q0 := ((Bk.new w #[.slice ai q.items.length ci, .int .i64 q.mode, .int .i64 q.after, .slice aw q.wh.length cw, .int .i64 q.within, .string q.by_, .slice ar q.ret.length cr] 40).alloc (.cells #[.slice none 0 0, .slice none 0 0, .slice none 0 0] 46)).alloc (.cells #[.slice none 0 0, .slice none 0 0, .slice none 0 0] 46)
  have R0 := (Bk.newE (w := w.alloc (.cells #[.slice ai q.items.length ci, .int .i64 q.mode, .int .i64 q.after, .slice aw q.wh.length cw, .int .i64 q.within, .string q.by_, .slice ar q.ret.length cr] 40)) (g := w.heap.size + 1) (by simp) #[.slice none 0 0, .slice none 0 0, .slice none 0 0] 46).alloc (.cells #[.slice none 0 0, .slice none 0 0, .slice none 0 0] 46)
  have U0 := Bk.newE (w := (w.alloc (.cells #[.slice ai q.items.length ci, .int .i64 q.mode, .int .i64 q.after, .slice aw q.wh.length cw, .int .i64 q.within, .string q.by_, .slice ar q.ret.length cr] 40)).alloc (.cells #[.slice none 0 0, .slice none 0 0, .slice none 0 0] 46)) (g := w.heap.size + 1 + 1) (by simp) #[.slice none 0 0, .slice none 0 0, .slice none 0 0] 46
  go_enter Try.func14, Try.ntmps14
  go_wp2
  have zV : (((w.alloc (.cells #[.slice ai q.items.length ci, .int .i64 q.mode, .int .i64 q.after, .slice aw q.wh.length cw, .int .i64 q.within, .string q.by_, .slice ar q.ret.length cr] 40)).alloc (.cells #[.slice none 0 0, .slice none 0 0, .slice none 0 0] 46)).alloc (.cells #[.slice none 0 0, .slice none 0 0, .slice none 0 0] 46)).heap.size = w.heap.size + 3 := by simp
  generalize ((w.alloc (.cells #[.slice ai q.items.length ci, .int .i64 q.mode, .int .i64 q.after, .slice aw q.wh.length cw, .int .i64 q.within, .string q.by_, .slice ar q.ret.length cr] 40)).alloc (.cells #[.slice none 0 0, .slice none 0 0, .slice none 0 0] 46)).alloc (.cells #[.slice none 0 0, .slice none 0 0, .slice none 0 0] 46) = V at *
  have HZ := show Hid (V.heap.size = w.heap.size + 3) from zV
  clear zV
  have nn : ∀ (v : Value), Apt (.slice none 0 0) v := fun v g h => by cases h
  go_loopw [6, 7, 8, 9, 10, 11] (fun x _ _ _ _ _ wr => UsR V.heap.size w q #[.slice ai q.items.length ci, .int .i64 q.mode, .int .i64 q.after, .slice aw q.wh.length cw, .int .i64 q.within, .string q.by_, .slice ar q.ret.length cr] ns x wr) (fun x _ _ _ _ _ _ => q.items.length - (intOf x).toNat)
  case atStart => exact ⟨0, none, 0, none, 0, none, 0, Nat.zero_le _, rfl, ⟨⟨by have := HZ.out; omega, U0, World.ownsRow_nil _ _ _ _, World.ownsRow_nil _ _ _ _, World.ownsRow_nil _ _ _ _, nn _, nn _, nn _⟩, R0, Q0, B0, Nat.le_refl _⟩⟩
  case round =>
    obtain ⟨wo, rfl⟩ : ∃ wo, wo = wr := ⟨_, rfl⟩
    obtain ⟨⟨k, a0, c0, a1, c1, a2, c2, hk, rfl, SU⟩⟩ := hrel
    have zV1 : w.heap.size + 3 ≤ V.heap.size := by have := HZ.out; omega
    obtain ⟨s0, s1, s2, s3, s4, s5, s6⟩ := SU.q.at7
    by_cases hlt : k < q.items.length
    · have hki : (k : Int) < (q.items.length : Int) := by omega
      go_wp2
      go_loopw [7, 8, 9, 10, 11] (fun b p g x _ wi => ∃ j : Nat, j ≤ ns.length ∧ b = .bool (hitB q.items baB (ns.take j) k) ∧ p = .bool (hitB q.items (· == 11) (ns.take j) k) ∧ g = .bool (hitB q.items agB (ns.take j) k) ∧ x = .int .i64 j ∧ Below wo.heap.size wo wi) (fun _ _ _ x _ _ => ns.length - (intOf x).toNat)
      case atStart => exact ⟨0, Nat.zero_le _, rfl, rfl, rfl, rfl, Below.refl _ _⟩
      case round =>
        obtain ⟨j, hj, rfl, rfl, rfl, rfl, GI⟩ := hrel
        have G := gtrans SU.g GI
        obtain ⟨t0, t1, t2, t3, t4, t5, t6⟩ := (SU.q.keep GI).at7
        by_cases hjl : j < ns.length
        · have hji : (j : Int) < (ns.length : Int) := by omega
          obtain ⟨g, o, rfl, y0, y1, y2, y3, y4, y5⟩ := (N.keep G) j hjl
          have hfj := hf j
          have h0 := hit_step q.items baB ns k j hjl
          have h1 := hit_step q.items (· == 11) ns k j hjl
          have h2 := hit_step q.items agB ns k j hjl
          have hv := hfj.v
          have hop := hfj.op
          have cJ := fun (u : World) (G' : Below w.heap.size w u) => cI _ hv u G'
          clear hfj
          obtain ⟨m, hm⟩ : ∃ m, itmI q.items (ns.getD j noNd).v = m := ⟨_, rfl⟩
          rw [hm] at h0 h1 h2
          have cJ := fun (u : World) (G' : Below w.heap.size w u) => hm ▸ cJ u G'
          clear hm
          generalize (ns.getD j noNd).op = yo at *
          generalize (ns.getD j noNd).v = yv at *
          generalize (ns.getD j noNd).n = yn at *
          generalize (ns.getD j noNd).x = yx at *
          generalize (ns.getD j noNd).l = yl at *
          generalize (ns.getD j noNd).r = yr at *
          generalize hitB q.items baB (ns.take j) k = b0 at *
          generalize hitB q.items (· == 11) (ns.take j) k = b1 at *
          generalize hitB q.items agB (ns.take j) k = b2 at *
          have cB := fun u => refBarely_any yo u
          have cG := fun u => refAgg_any yo u
          go_wp2
          have hW := show wr.cell? ⟨w.heap.size, 0, none⟩ = some (.slice ai q.items.length ci) ∧ wr.cell? ⟨w.heap.size, 1, none⟩ = some (.int .i64 q.mode) ∧ wr.cell? ⟨w.heap.size, 2, none⟩ = some (.int .i64 q.after) ∧ wr.cell? ⟨w.heap.size, 3, none⟩ = some (.slice aw q.wh.length cw) ∧ wr.cell? ⟨w.heap.size, 4, none⟩ = some (.int .i64 q.within) ∧ wr.cell? ⟨w.heap.size, 5, none⟩ = some (.string q.by_) ∧ wr.cell? ⟨w.heap.size, 6, none⟩ = some (.slice ar q.ret.length cr) ∧ wr.cell? ⟨g, o + j * 6 + 2, none⟩ = some (.string yv) from ⟨t0, t1, t2, t3, t4, t5, t6, y2⟩
          have hWd := show wr.drew.cell? ⟨w.heap.size, 0, none⟩ = some (.slice ai q.items.length ci) ∧ wr.drew.cell? ⟨w.heap.size, 1, none⟩ = some (.int .i64 q.mode) ∧ wr.drew.cell? ⟨w.heap.size, 2, none⟩ = some (.int .i64 q.after) ∧ wr.drew.cell? ⟨w.heap.size, 3, none⟩ = some (.slice aw q.wh.length cw) ∧ wr.drew.cell? ⟨w.heap.size, 4, none⟩ = some (.int .i64 q.within) ∧ wr.drew.cell? ⟨w.heap.size, 5, none⟩ = some (.string q.by_) ∧ wr.drew.cell? ⟨w.heap.size, 6, none⟩ = some (.slice ar q.ret.length cr) ∧ wr.drew.cell? ⟨g, o + j * 6 + 2, none⟩ = some (.string yv) from ⟨t0, t1, t2, t3, t4, t5, t6, y2⟩
          have hSn : ∀ X : World, Below wr.drew.heap.size wr.drew X → X.cell? ⟨w.heap.size, 0, none⟩ = some (.slice ai q.items.length ci) ∧ X.cell? ⟨w.heap.size, 1, none⟩ = some (.int .i64 q.mode) ∧ X.cell? ⟨w.heap.size, 2, none⟩ = some (.int .i64 q.after) ∧ X.cell? ⟨w.heap.size, 3, none⟩ = some (.slice aw q.wh.length cw) ∧ X.cell? ⟨w.heap.size, 4, none⟩ = some (.int .i64 q.within) ∧ X.cell? ⟨w.heap.size, 5, none⟩ = some (.string q.by_) ∧ X.cell? ⟨w.heap.size, 6, none⟩ = some (.slice ar q.ret.length cr) ∧ X.cell? ⟨g, o + j * 6 + 2, none⟩ = some (.string yv) := fun X B => ⟨((bcell B).1 _ _ (lt_of_cell t0)).trans t0, ((bcell B).1 _ _ (lt_of_cell t1)).trans t1, ((bcell B).1 _ _ (lt_of_cell t2)).trans t2, ((bcell B).1 _ _ (lt_of_cell t3)).trans t3, ((bcell B).1 _ _ (lt_of_cell t4)).trans t4, ((bcell B).1 _ _ (lt_of_cell t5)).trans t5, ((bcell B).1 _ _ (lt_of_cell t6)).trans t6, ((bcell B).1 _ _ (lt_of_cell y2)).trans y2⟩
          go_region_held3 (fun X : World => X.cell? ⟨w.heap.size, 0, none⟩ = some (.slice ai q.items.length ci) ∧ X.cell? ⟨w.heap.size, 1, none⟩ = some (.int .i64 q.mode) ∧ X.cell? ⟨w.heap.size, 2, none⟩ = some (.int .i64 q.after) ∧ X.cell? ⟨w.heap.size, 3, none⟩ = some (.slice aw q.wh.length cw) ∧ X.cell? ⟨w.heap.size, 4, none⟩ = some (.int .i64 q.within) ∧ X.cell? ⟨w.heap.size, 5, none⟩ = some (.string q.by_) ∧ X.cell? ⟨w.heap.size, 6, none⟩ = some (.slice ar q.ret.length cr) ∧ X.cell? ⟨g, o + j * 6 + 2, none⟩ = some (.string yv)) (first | (with_reducible exact hW) | (with_reducible exact hWd) | (with_reducible exact hU) | go_keep) (first | (go_at_call 26; (with_reducible refine (cJ _ (by first | exact G | exact G.drew)).mono ?_); rintro e u1 ⟨rfl, B1⟩; have z0 := ((bcell B1).1 _ _ (lt_of_cell y0)).trans y0; have B2 := gtrans GI.drew B1; have hU := hSn u1 B1))
          replace z0 : u1.cell? ⟨g, o + j * 6, none⟩ = some (.int .i64 yo) := z0
          replace B2 : Below wo.heap.size wo u1 := B2
          clear B1 hW hWd hU hSn
          by_cases e : m = (k : Int)
          · subst e
            rw [decide_eq_true rfl, Bool.and_true] at h0 h1 h2
            by_cases h4 : yo = 4
            · subst h4
              rw [show baB 4 = true from rfl] at cB h0
              rw [show agB 4 = false from rfl] at cG h2
              have E := show Hid (_ ∧ _ ∧ _) from ⟨h0, h1, h2⟩
              clear h0 h1 h2
              cases b0 <;> cases b1 <;> cases b2
              all_goals (
                go_wp2_with (first
                  | (go_at_call 27; (with_reducible refine (cB _).mono ?_); rintro e u ⟨rfl, rfl⟩)
                  | (go_at_call 28; (with_reducible refine (cG _).mono ?_); rintro e u ⟨rfl, rfl⟩))
                go_roundw
                case rel => exact ⟨j + 1, by omega, by first | (rw [E.out.1]; done) | (rw [E.out.1]; rfl), by first | (rw [E.out.2.1]; done) | (rw [E.out.2.1]; rfl), by first | (rw [E.out.2.2]; done) | (rw [E.out.2.2]; rfl), by go_num, by first | exact B2 | exact B2.drew⟩
                case measure => simp [intOf]; omega)
            by_cases h11 : yo = 11
            · subst h11
              rw [show baB 11 = true from rfl] at cB h0
              rw [show agB 11 = false from rfl] at cG h2
              have E := show Hid (_ ∧ _ ∧ _) from ⟨h0, h1, h2⟩
              clear h0 h1 h2
              cases b0 <;> cases b1 <;> cases b2
              all_goals (
                go_wp2_with (first
                  | (go_at_call 27; (with_reducible refine (cB _).mono ?_); rintro e u ⟨rfl, rfl⟩)
                  | (go_at_call 28; (with_reducible refine (cG _).mono ?_); rintro e u ⟨rfl, rfl⟩))
                go_roundw
                case rel => exact ⟨j + 1, by omega, by first | (rw [E.out.1]; done) | (rw [E.out.1]; rfl), by first | (rw [E.out.2.1]; done) | (rw [E.out.2.1]; rfl), by first | (rw [E.out.2.2]; done) | (rw [E.out.2.2]; rfl), by go_num, by first | exact B2 | exact B2.drew⟩
                case measure => simp [intOf]; omega)
            have b11 : (yo == 11) = false := beq_eq_false_iff_ne.2 h11
            have hB : baB yo = false := decide_eq_false (by omega)
            rw [hB] at cB h0
            rw [b11] at h1
            generalize agB yo = bg at *
            have E := show Hid (_ ∧ _ ∧ _) from ⟨h0, h1, h2⟩
            clear h0 h1 h2 hB
            cases bg <;> cases b0 <;> cases b1 <;> cases b2
            all_goals (
              go_wp2_with (first
                | (go_at_call 27; (with_reducible refine (cB _).mono ?_); rintro e u ⟨rfl, rfl⟩)
                | (go_at_call 28; (with_reducible refine (cG _).mono ?_); rintro e u ⟨rfl, rfl⟩))
              go_roundw
              case rel => exact ⟨j + 1, by omega, by first | (rw [E.out.1]; done) | (rw [E.out.1]; rfl), by first | (rw [E.out.2.1]; done) | (rw [E.out.2.1]; rfl), by first | (rw [E.out.2.2]; done) | (rw [E.out.2.2]; rfl), by go_num, by first | exact B2 | exact B2.drew⟩
              case measure => simp [intOf]; omega)
          · have eb : (m == (k : Int)) = false := beq_eq_false_iff_ne.2 e
            rw [decide_eq_false e, Bool.and_false, Bool.or_false] at h0 h1 h2
            have E := show Hid (_ ∧ _ ∧ _) from ⟨h0, h1, h2⟩
            clear h0 h1 h2
            go_wp2_with (first
              | (go_at_call 27; (with_reducible refine (cB _).mono ?_); rintro e u ⟨rfl, rfl⟩)
              | (go_at_call 28; (with_reducible refine (cG _).mono ?_); rintro e u ⟨rfl, rfl⟩))
            go_roundw
            case rel => exact ⟨j + 1, by omega, by first | (rw [E.out.1]; done) | (rw [E.out.1]; rfl), by first | (rw [E.out.2.1]; done) | (rw [E.out.2.1]; rfl), by first | (rw [E.out.2.2]; done) | (rw [E.out.2.2]; rfl), by go_num, by first | exact B2 | exact B2.drew⟩
            case measure => simp [intOf]; omega
        · have hjn : j = ns.length := by omega
          subst hjn
          rw [List.take_length]
          have e0 : useK q.items baB ns (k + 1) = _ ++ _ := rfl
          have e1 : useK q.items (· == 11) ns (k + 1) = _ ++ _ := rfl
          have e2 : useK q.items agB ns (k + 1) = _ ++ _ := rfl
          have l0 := useK_len q.items baB ns k
          have l1 := useK_len q.items (· == 11) ns k
          have l2 := useK_len q.items agB ns k
          generalize hitB q.items baB ns k = b0 at *
          generalize hitB q.items (· == 11) ns k = b1 at *
          generalize hitB q.items agB ns k = b2 at *
          have E0 := show Hid (_ = _) from e0
          have E1 := show Hid (_ = _) from e1
          have E2 := show Hid (_ = _) from e2
          have S0 := SU.keep GI
          clear e0 e1 e2 SU GI
          cases b0 with
          | false =>
            have S1 := S0
            rw [show useK q.items baB ns k = useK q.items baB ns (k + 1) from by rw [E0.out]; exact (List.append_nil _).symm] at S1
            go_upto_region 16 with fail
            cases b1 with
            | false =>
              have S2 := S1
              rw [show useK q.items (· == 11) ns k = useK q.items (· == 11) ns (k + 1) from by rw [E1.out]; exact (List.append_nil _).symm] at S2
              go_upto_region 18 with fail
              cases b2 with
              | false =>
                have S3 := S2
                rw [show useK q.items agB ns k = useK q.items agB ns (k + 1) from by rw [E2.out]; exact (List.append_nil _).symm] at S3
                go_upto_region 4 with fail
                go_wp2
                go_roundw
                case rel => exact ⟨⟨k + 1, _, _, _, _, _, _, by omega, by go_num, S3⟩⟩
                case measure => simp [intOf]; omega
              | true =>
                obtain ⟨p0, p1, p2⟩ := S2.s.u.at3
                have f2 := S2.s.u.free 2
                have zS := S2.z
                go_wp2_with (at_builtin; refine wpList_append_lies _ rfl (.tmp 78) (.tmp 80) 22 rfl V.heap.size 3 i0 (.int .i64 0) 1 8 Try.underlying22 hi hz0 hz1 hz2 rfl (by decide) _ _ _ rfl (S2.s.o2.alloc (.cells #[.int .i64 k] 3)) ⟨wr.heap.size, 0, none⟩ 1 1 [_] rfl rfl (cell_one_new _ _ _) (fun u hu => by simp at hu; subst hu; rfl) (by decide) ?c3 ?c4 ?c5 _ rfl ?_)
                case c3 => unfold maxLen; omega
                case c4 => omega
                case c5 => first | omega | (simp; omega)
                intro gp cp' wp hownp hgrowp hatp _
                obtain ⟨S3, MU⟩ := S2.app2 (k : Int) hownp hgrowp (hatp.imp id (fun h => by simp; exact h))
                obtain ⟨cc0, cc1, cc2⟩ := MU.at3
                have ff := MU.free 2
                rw [show useK q.items agB ns k ++ [(k : Int)] = useK q.items agB ns (k + 1) from E2.out.symm] at S3
                go_upto_region 4 with fail
                generalize wp.setCell ⟨w.heap.size + 1 + 1, 2, none⟩ (.slice (some ⟨gp, 0, none⟩) ((useK q.items agB ns k).length + 1) cp') = X3 at *
                clear MU cc0 cc1 cc2 ff hownp hgrowp hatp S2 p0 p1 p2 f2
                go_wp2
                go_roundw
                case rel => exact ⟨⟨k + 1, _, _, _, _, _, _, by omega, by go_num, S3⟩⟩
                case measure => simp [intOf]; omega
            | true =>
              obtain ⟨p0, p1, p2⟩ := S1.s.u.at3
              have f1 := S1.s.u.free 1
              have zS := S1.z
              go_wp2_with (at_builtin; refine wpList_append_lies _ rfl (.tmp 71) (.tmp 73) 22 rfl V.heap.size 3 i0 (.int .i64 0) 1 8 Try.underlying22 hi hz0 hz1 hz2 rfl (by decide) _ _ _ rfl (S1.s.o1.alloc (.cells #[.int .i64 k] 3)) ⟨wr.heap.size, 0, none⟩ 1 1 [_] rfl rfl (cell_one_new _ _ _) (fun u hu => by simp at hu; subst hu; rfl) (by decide) ?c3 ?c4 ?c5 _ rfl ?_)
              case c3 => unfold maxLen; omega
              case c4 => omega
              case c5 => first | omega | (simp; omega)
              intro gp cp' wp hownp hgrowp hatp _
              obtain ⟨S2, MU⟩ := S1.app1 (k : Int) hownp hgrowp (hatp.imp id (fun h => by simp; exact h))
              obtain ⟨cc0, cc1, cc2⟩ := MU.at3
              have ff := MU.free 1
              rw [show useK q.items (· == 11) ns k ++ [(k : Int)] = useK q.items (· == 11) ns (k + 1) from E1.out.symm] at S2
              go_upto_region 18 with fail
              generalize wp.setCell ⟨w.heap.size + 1 + 1, 1, none⟩ (.slice (some ⟨gp, 0, none⟩) ((useK q.items (· == 11) ns k).length + 1) cp') = X2 at *
              clear MU cc0 cc1 cc2 ff hownp hgrowp hatp S1 p0 p1 p2 f1
              cases b2 with
              | false =>
                have S3 := S2
                rw [show useK q.items agB ns k = useK q.items agB ns (k + 1) from by rw [E2.out]; exact (List.append_nil _).symm] at S3
                go_upto_region 4 with fail
                go_wp2
                go_roundw
                case rel => exact ⟨⟨k + 1, _, _, _, _, _, _, by omega, by go_num, S3⟩⟩
                case measure => simp [intOf]; omega
              | true =>
                obtain ⟨p0, p1, p2⟩ := S2.s.u.at3
                have f2 := S2.s.u.free 2
                have zS := S2.z
                go_wp2_with (at_builtin; refine wpList_append_lies _ rfl (.tmp 78) (.tmp 80) 22 rfl V.heap.size 3 i0 (.int .i64 0) 1 8 Try.underlying22 hi hz0 hz1 hz2 rfl (by decide) _ _ _ rfl (S2.s.o2.alloc (.cells #[.int .i64 k] 3)) ⟨X2.heap.size, 0, none⟩ 1 1 [_] rfl rfl (cell_one_new _ _ _) (fun u hu => by simp at hu; subst hu; rfl) (by decide) ?c3 ?c4 ?c5 _ rfl ?_)
                case c3 => unfold maxLen; omega
                case c4 => omega
                case c5 => first | omega | (simp; omega)
                intro gp cp' wp hownp hgrowp hatp _
                obtain ⟨S3, MU⟩ := S2.app2 (k : Int) hownp hgrowp (hatp.imp id (fun h => by simp; exact h))
                obtain ⟨cc0, cc1, cc2⟩ := MU.at3
                have ff := MU.free 2
                rw [show useK q.items agB ns k ++ [(k : Int)] = useK q.items agB ns (k + 1) from E2.out.symm] at S3
                go_upto_region 4 with fail
                generalize wp.setCell ⟨w.heap.size + 1 + 1, 2, none⟩ (.slice (some ⟨gp, 0, none⟩) ((useK q.items agB ns k).length + 1) cp') = X3 at *
                clear MU cc0 cc1 cc2 ff hownp hgrowp hatp S2 p0 p1 p2 f2
                go_wp2
                go_roundw
                case rel => exact ⟨⟨k + 1, _, _, _, _, _, _, by omega, by go_num, S3⟩⟩
                case measure => simp [intOf]; omega
          | true =>
            obtain ⟨p0, p1, p2⟩ := S0.s.u.at3
            have f0 := S0.s.u.free 0
            have zS := S0.z
            go_wp2_with (at_builtin; refine wpList_append_lies _ rfl (.tmp 64) (.tmp 66) 22 rfl V.heap.size 3 i0 (.int .i64 0) 1 8 Try.underlying22 hi hz0 hz1 hz2 rfl (by decide) _ _ _ rfl (S0.s.o0.alloc (.cells #[.int .i64 k] 3)) ⟨wr.heap.size, 0, none⟩ 1 1 [_] rfl rfl (cell_one_new _ _ _) (fun u hu => by simp at hu; subst hu; rfl) (by decide) ?c3 ?c4 ?c5 _ rfl ?_)
            case c3 => unfold maxLen; omega
            case c4 => omega
            case c5 => first | omega | (simp; omega)
            intro gp cp' wp hownp hgrowp hatp _
            obtain ⟨S1, MU⟩ := S0.app0 (k : Int) hownp hgrowp (hatp.imp id (fun h => by simp; exact h))
            obtain ⟨cc0, cc1, cc2⟩ := MU.at3
            have ff := MU.free 0
            rw [show useK q.items baB ns k ++ [(k : Int)] = useK q.items baB ns (k + 1) from E0.out.symm] at S1
            go_upto_region 16 with fail
            generalize wp.setCell ⟨w.heap.size + 1 + 1, 0, none⟩ (.slice (some ⟨gp, 0, none⟩) ((useK q.items baB ns k).length + 1) cp') = X1 at *
            clear MU cc0 cc1 cc2 ff hownp hgrowp hatp S0 p0 p1 p2 f0
            cases b1 with
            | false =>
              have S2 := S1
              rw [show useK q.items (· == 11) ns k = useK q.items (· == 11) ns (k + 1) from by rw [E1.out]; exact (List.append_nil _).symm] at S2
              go_upto_region 18 with fail
              cases b2 with
              | false =>
                have S3 := S2
                rw [show useK q.items agB ns k = useK q.items agB ns (k + 1) from by rw [E2.out]; exact (List.append_nil _).symm] at S3
                go_upto_region 4 with fail
                go_wp2
                go_roundw
                case rel => exact ⟨⟨k + 1, _, _, _, _, _, _, by omega, by go_num, S3⟩⟩
                case measure => simp [intOf]; omega
              | true =>
                obtain ⟨p0, p1, p2⟩ := S2.s.u.at3
                have f2 := S2.s.u.free 2
                have zS := S2.z
                go_wp2_with (at_builtin; refine wpList_append_lies _ rfl (.tmp 78) (.tmp 80) 22 rfl V.heap.size 3 i0 (.int .i64 0) 1 8 Try.underlying22 hi hz0 hz1 hz2 rfl (by decide) _ _ _ rfl (S2.s.o2.alloc (.cells #[.int .i64 k] 3)) ⟨X1.heap.size, 0, none⟩ 1 1 [_] rfl rfl (cell_one_new _ _ _) (fun u hu => by simp at hu; subst hu; rfl) (by decide) ?c3 ?c4 ?c5 _ rfl ?_)
                case c3 => unfold maxLen; omega
                case c4 => omega
                case c5 => first | omega | (simp; omega)
                intro gp cp' wp hownp hgrowp hatp _
                obtain ⟨S3, MU⟩ := S2.app2 (k : Int) hownp hgrowp (hatp.imp id (fun h => by simp; exact h))
                obtain ⟨cc0, cc1, cc2⟩ := MU.at3
                have ff := MU.free 2
                rw [show useK q.items agB ns k ++ [(k : Int)] = useK q.items agB ns (k + 1) from E2.out.symm] at S3
                go_upto_region 4 with fail
                generalize wp.setCell ⟨w.heap.size + 1 + 1, 2, none⟩ (.slice (some ⟨gp, 0, none⟩) ((useK q.items agB ns k).length + 1) cp') = X3 at *
                clear MU cc0 cc1 cc2 ff hownp hgrowp hatp S2 p0 p1 p2 f2
                go_wp2
                go_roundw
                case rel => exact ⟨⟨k + 1, _, _, _, _, _, _, by omega, by go_num, S3⟩⟩
                case measure => simp [intOf]; omega
            | true =>
              obtain ⟨p0, p1, p2⟩ := S1.s.u.at3
              have f1 := S1.s.u.free 1
              have zS := S1.z
              go_wp2_with (at_builtin; refine wpList_append_lies _ rfl (.tmp 71) (.tmp 73) 22 rfl V.heap.size 3 i0 (.int .i64 0) 1 8 Try.underlying22 hi hz0 hz1 hz2 rfl (by decide) _ _ _ rfl (S1.s.o1.alloc (.cells #[.int .i64 k] 3)) ⟨X1.heap.size, 0, none⟩ 1 1 [_] rfl rfl (cell_one_new _ _ _) (fun u hu => by simp at hu; subst hu; rfl) (by decide) ?c3 ?c4 ?c5 _ rfl ?_)
              case c3 => unfold maxLen; omega
              case c4 => omega
              case c5 => first | omega | (simp; omega)
              intro gp cp' wp hownp hgrowp hatp _
              obtain ⟨S2, MU⟩ := S1.app1 (k : Int) hownp hgrowp (hatp.imp id (fun h => by simp; exact h))
              obtain ⟨cc0, cc1, cc2⟩ := MU.at3
              have ff := MU.free 1
              rw [show useK q.items (· == 11) ns k ++ [(k : Int)] = useK q.items (· == 11) ns (k + 1) from E1.out.symm] at S2
              go_upto_region 18 with fail
              generalize wp.setCell ⟨w.heap.size + 1 + 1, 1, none⟩ (.slice (some ⟨gp, 0, none⟩) ((useK q.items (· == 11) ns k).length + 1) cp') = X2 at *
              clear MU cc0 cc1 cc2 ff hownp hgrowp hatp S1 p0 p1 p2 f1
              cases b2 with
              | false =>
                have S3 := S2
                rw [show useK q.items agB ns k = useK q.items agB ns (k + 1) from by rw [E2.out]; exact (List.append_nil _).symm] at S3
                go_upto_region 4 with fail
                go_wp2
                go_roundw
                case rel => exact ⟨⟨k + 1, _, _, _, _, _, _, by omega, by go_num, S3⟩⟩
                case measure => simp [intOf]; omega
              | true =>
                obtain ⟨p0, p1, p2⟩ := S2.s.u.at3
                have f2 := S2.s.u.free 2
                have zS := S2.z
                go_wp2_with (at_builtin; refine wpList_append_lies _ rfl (.tmp 78) (.tmp 80) 22 rfl V.heap.size 3 i0 (.int .i64 0) 1 8 Try.underlying22 hi hz0 hz1 hz2 rfl (by decide) _ _ _ rfl (S2.s.o2.alloc (.cells #[.int .i64 k] 3)) ⟨X2.heap.size, 0, none⟩ 1 1 [_] rfl rfl (cell_one_new _ _ _) (fun u hu => by simp at hu; subst hu; rfl) (by decide) ?c3 ?c4 ?c5 _ rfl ?_)
                case c3 => unfold maxLen; omega
                case c4 => omega
                case c5 => first | omega | (simp; omega)
                intro gp cp' wp hownp hgrowp hatp _
                obtain ⟨S3, MU⟩ := S2.app2 (k : Int) hownp hgrowp (hatp.imp id (fun h => by simp; exact h))
                obtain ⟨cc0, cc1, cc2⟩ := MU.at3
                have ff := MU.free 2
                rw [show useK q.items agB ns k ++ [(k : Int)] = useK q.items agB ns (k + 1) from E2.out.symm] at S3
                go_upto_region 4 with fail
                generalize wp.setCell ⟨w.heap.size + 1 + 1, 2, none⟩ (.slice (some ⟨gp, 0, none⟩) ((useK q.items agB ns k).length + 1) cp') = X3 at *
                clear MU cc0 cc1 cc2 ff hownp hgrowp hatp S2 p0 p1 p2 f2
                go_wp2
                go_roundw
                case rel => exact ⟨⟨k + 1, _, _, _, _, _, _, by omega, by go_num, S3⟩⟩
                case measure => simp [intOf]; omega
    · have hkn : k = q.items.length := by omega
      subst hkn
      obtain ⟨p0, p1, p2⟩ := SU.s.u.at3
      obtain ⟨v0, v1, v2⟩ := SU.r.at3
      have w0 := SU.r.free 0
      have w1 := SU.r.free 1
      have w2 := SU.r.free 2
      have BE := (((But.refl (w.heap.size + 1) wo).set 0 (.slice a0 (useK q.items baB ns q.items.length).length c0)).set 1 (.slice a1 (useK q.items (· == 11) ns q.items.length).length c1)).set 2 (.slice a2 (useK q.items agB ns q.items.length).length c2)
      have RE' : Bk (((wo.setCell ⟨w.heap.size + 1, 0, none⟩ (.slice a0 (useK q.items baB ns q.items.length).length c0)).setCell ⟨w.heap.size + 1, 1, none⟩ (.slice a1 (useK q.items (· == 11) ns q.items.length).length c1)).setCell ⟨w.heap.size + 1, 2, none⟩ (.slice a2 (useK q.items agB ns q.items.length).length c2)) (w.heap.size + 1) #[.slice a0 (useK q.items baB ns q.items.length).length c0, .slice a1 (useK q.items (· == 11) ns q.items.length).length c1, .slice a2 (useK q.items agB ns q.items.length).length c2] 46 := ((SU.r.set 0 (.slice a0 (useK q.items baB ns q.items.length).length c0)).set 1 (.slice a1 (useK q.items (· == 11) ns q.items.length).length c1)).set 2 (.slice a2 (useK q.items agB ns q.items.length).length c2)
      have E0 := World.ownsRow.mono (own_but SU.s.o0 SU.r (by decide) BE) (show w.heap.size ≤ V.heap.size by omega)
      have E1 := World.ownsRow.mono (own_but SU.s.o1 SU.r (by decide) BE) (show w.heap.size ≤ V.heap.size by omega)
      have E2 := World.ownsRow.mono (own_but SU.s.o2 SU.r (by decide) BE) (show w.heap.size ≤ V.heap.size by omega)
      have GE := gset (gset (gset SU.g (p := ⟨w.heap.size + 1, 0, none⟩) (by dsimp only; omega) (.slice a0 (useK q.items baB ns q.items.length).length c0)) (p := ⟨w.heap.size + 1, 1, none⟩) (by dsimp only; omega) (.slice a1 (useK q.items (· == 11) ns q.items.length).length c1)) (p := ⟨w.heap.size + 1, 2, none⟩) (by dsimp only; omega) (.slice a2 (useK q.items agB ns q.items.length).length c2)
      obtain ⟨m0, m1, m2⟩ := RE'.at3
      go_wp2
      exact bodyPost_ret (v := .agg #[.slice a0 (useK q.items baB ns q.items.length).length c0, .slice a1 (useK q.items (· == 11) ns q.items.length).length c1, .slice a2 (useK q.items agB ns q.items.length).length c2]) (by simp [results, Try.results14, go_sem, m0, m1, m2]) rfl ⟨a0, c0, a1, c1, a2, c2, rfl, E0, E1, E2, GE⟩

end Go.Proofs.Ytbedpgamjaemoaa
