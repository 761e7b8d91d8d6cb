/- The walk of the law EventFinds. -/
import Derived.Test.YtlajjkhcffdcfaaShape
import Derived.Test.YtlajjkhcffdcfaaOpenS
import Derived.BigRegion
import Derived.OpenShut
import Derived.Carry
import Derived.ChangeMaps5
import Derived.SizedLaws
import Derived.Lib.SmallJoins
namespace Go.Proofs.Ytlajjkhcffdcfaa.eventFinds
open Go.ChangeShapes Go.WideShapes Go.ChangeAt Go.RowKit Go.BigFrame
set_option linter.unusedVariables false
set_option linter.unusedSimpArgs false

theorem eqB_refl (l : List ByteArray) : eqB l l = true := decide_eq_true ⟨rfl, fun _ _ => by simp⟩
theorem eqS_refl (L : List Ty) : eqS L L = true := decide_eq_true ⟨rfl, fun j _ => ⟨by simp, eqB_refl _⟩⟩

set_option maxRecDepth 100000 in
set_option maxHeartbeats 4000000 in
theorem walk (ao : Option Addr) (n cap : Nat) (L : List Ty) (typ : Int) (name : ByteArray) (w : World) (h : IsTypes w ao n L) (hr : n * 40 ≤ 140737488351232) (hrs : ∀ j, (L.getD j noTy).2.length * 16 ≤ 140737488351232) :
    Calls Try.prog 3 #[.agg #[.slice ao n cap], .int .i64 typ, .string name] w fun e w' => e = .returned (.bool true) ∧ Below w.heap.size w w' := by
  have hn := h.2.1
  go_enter Try.func3, Try.ntmps3
  go_upto_region 1 with fail
  have B0 := galloc (Below.refl w.heap.size w) (.cells #[.slice ao n cap] 24)
  have O0 := One.new w (.slice ao n cap) 24
  generalize hW0 : w.alloc (.cells #[.slice ao n cap] 24) = W0 at B0 O0 ⊢
  clear hW0
  have o0 := O0.at0
  replace h := h.keep B0
  have c := twin_any ao n cap L W0 h hr hrs
  go_upto_region 2 with (go_at_call 4; with_reducible refine c.mono ?_; rintro e u ⟨v, rfl, T, g⟩; obtain ⟨av, cv, rfl, hTy⟩ := T.types)
  clear c T
  have O1 := One.new u (.slice av n cv) 24
  replace O0 := (O0.keep g).alloc (.cells #[.slice av n cv] 24)
  have B1 := galloc (gtrans B0 g) (.cells #[.slice av n cv] 24)
  have q1 := galloc (Below.refl u.heap.size u) (.cells #[.slice av n cv] 24)
  replace h := (h.keep g).keep q1
  replace hTy := hTy.keep q1
  generalize hW1 : u.alloc (.cells #[.slice av n cv] 24) = W1 at O0 O1 B1 h hTy ⊢
  generalize hbu : u.heap.size = bu at O1 ⊢
  clear hW1 g o0 B0 q1 hbu
  have o0 := O0.at0
  have o1 := O1.at0
  have s0 := O0.lt
  have s1 := O1.lt
  have G := Below.refl W1.heap.size W1
  have e1 := eqS_refl L
  obtain ⟨z1, hz1⟩ : ∃ z, z = typeI L name := ⟨_, rfl⟩
  obtain ⟨z2, hz2⟩ : ∃ z, z = attrI L typ name := ⟨_, rfl⟩
  have c1 := fun u (g : Below W1.heap.size W1 u) => typeOf_any ao n cap L name u (h.keep g)
  have c2 := fun u (g : Below W1.heap.size W1 u) => attrOf_any ao n cap L typ name u (h.keep g)
  have c3 := fun u (g : Below W1.heap.size W1 u) => refTypeOf_any av n cv L name u (hTy.keep g)
  have c4 := fun u (g : Below W1.heap.size W1 u) => refAttrOf_any av n cv L typ name u (hTy.keep g)
  have c5 := fun u (g : Below W1.heap.size W1 u) => sameSchema_any ao av n n cap cv L L u (h.keep g) (hTy.keep g)
  have c6 := fun u (g : Below W1.heap.size W1 u) => twin_any ao n cap L u (h.keep g) hr hrs
  simp only [← hz1, ← hz2, e1] at c1 c2 c3 c4 c5
  clear hz1 hz2 e1
  go_upto_region 6 with (first
    | (go_at_call 5; with_reducible refine (c1 _ G).mono ?_; rintro e u ⟨rfl, g⟩; replace G := gtrans G g; obtain ⟨hc, hf⟩ := bcell G; clear g hf)
    | (go_at_call 6; with_reducible refine (c2 _ G).mono ?_; rintro e u ⟨rfl, g⟩; replace G := gtrans G g; obtain ⟨hc, hf⟩ := bcell G; clear g hf)
    | (go_at_call 7; with_reducible refine (c3 _ G).mono ?_; rintro e u ⟨rfl, g⟩; replace G := gtrans G g; obtain ⟨hc, hf⟩ := bcell G; clear g hf)
    | (go_at_call 8; with_reducible refine (c4 _ G).mono ?_; rintro e u ⟨rfl, g⟩; replace G := gtrans G g; obtain ⟨hc, hf⟩ := bcell G; clear g hf)
    | (go_at_call 9; with_reducible refine (c5 _ G).mono ?_; rintro e u ⟨rfl, g⟩; replace G := gtrans G g; obtain ⟨hc, hf⟩ := bcell G; clear g hf))
  clear c1 c2 c3 c4 c5
  have c7 := c6 u G
  clear c6
  go_upto_region 7 with (go_at_call 4; with_reducible refine c7.mono ?_; rintro e u2 ⟨v, rfl, T, g⟩; obtain ⟨am, cm, rfl, hTm⟩ := T.types)
  clear c7 h hTy O0 O1 o0 o1 s0 s1
  have hms := T.shape
  have Om := One.new u2 (.slice am n cm) 24
  have q1 := galloc (Below.refl u2.heap.size u2) (.cells #[.slice am n cm] 24)
  replace hTm := hTm.keep q1
  replace hms := hms.keep q1
  have B3 := galloc (gtrans (gtrans B1 G) g) (.cells #[.slice am n cm] 24)
  have hbase : w.heap.size ≤ u.heap.size := (gtrans B1 G).size
  have hbm : w.heap.size ≤ u2.heap.size := (gtrans (gtrans B1 G) g).size
  generalize hW3 : u2.alloc (.cells #[.slice am n cm] 24) = W3 at Om hTm hms B3 ⊢
  generalize hbu2 : u2.heap.size = bm at Om hbm ⊢
  generalize hbase2 : u.heap.size = base at hms hbase ⊢
  clear hW3 g q1 hbu2 hbase2 T G B1 hc
  obtain ⟨ms, hmsd⟩ : ∃ ms : Nat → Nat, ms = fun j => (L.getD j noTy).2.length := ⟨_, rfl⟩
  rw [← hmsd] at hms
  have hrm : ∀ j, ms j * 16 ≤ 140737488351232 := by rw [hmsd]; exact hrs
  clear hmsd hrs
  have om := Om.at0
  have sm := Om.lt
  have G := Below.refl W3.heap.size W3
  have c1 := fun u (g : Below W3.heap.size W3 u) => typeOf_any am n cm L name u (hTm.keep g)
  have c2 := fun u (g : Below W3.heap.size W3 u) => attrOf_any am n cm L typ name u (hTm.keep g)
  go_upto_region 10 with (first
    | (go_at_call 5; with_reducible refine (c1 _ G).mono ?_; rintro e u ⟨rfl, g⟩; replace G := gtrans G g; obtain ⟨hc, hf⟩ := bcell G; clear g hf)
    | (go_at_call 6; with_reducible refine (c2 _ G).mono ?_; rintro e u ⟨rfl, g⟩; replace G := gtrans G g; obtain ⟨hc, hf⟩ := bcell G; clear g hf))
  replace Om := Om.keep G
  replace hms := hms.keep G
  replace B3 := gtrans B3 G
  clear c1 c2 hTm om sm G hc
  go_loopw [11] (fun i wr => ∃ k : Nat, k ≤ n ∧ i = .int .i64 k ∧ One wr bm (.slice am n cm) 24 ∧ Shape base wr (.slice am n cm) n ms ∧ Below w.heap.size w wr) (fun i _ => n - (intOf i).toNat)
  case atStart => exact ⟨0, Nat.zero_le _, rfl, Om, hms, B3⟩
  case round =>
    obtain ⟨k, hk, rfl, Q1, Q2, Q3⟩ := hrel
    obtain ⟨wo, rfl⟩ : ∃ wo, wo = wr := ⟨_, rfl⟩
    have qm := Q1.at0
    by_cases hlt : k < n
    · obtain ⟨_, _, e1, _, hg⟩ := Q2.form
      simp only [Value.slice.injEq, true_and] at e1
      obtain ⟨rfl, rfl⟩ := e1
      rcases hg with hg | ⟨g, rfl⟩
      · omega
      obtain ⟨zl, f1, _⟩ := Q2.name (n - 1) (by omega)
      obtain ⟨zk, f2, f3⟩ := Q2.name k hlt
      have i1 : ((n : Int) - 1).toNat = n - 1 := by omega
      have i2 : (0 : Int) ≤ (n : Int) - 1 := by omega
      have i3 : (n : Int) - 1 < (n : Int) := by omega
      go_upto_region 12 with fail
      go_region
      obtain ⟨hbg, cur0, hh0⟩ := Q2.base
      have hgm : bm ≠ g := fun e => by
        have h5 : wo.heap[bm]? = _ := Q1
        rw [e, hh0] at h5
        simp at h5
      have R1 : One (wo.setCell ⟨g, k * 2, none⟩ (.string zl)).drew bm (.slice (some ⟨g, 0, none⟩) n cm) 24 := (Below.heap_setCell wo ⟨g, k * 2, none⟩ _ bm hgm).trans Q1
      have R2 : Shape base (wo.setCell ⟨g, k * 2, none⟩ (.string zl)).drew (.slice (some ⟨g, 0, none⟩) n cm) n ms := Q2.setName k hlt zl
      have R3 : Below w.heap.size w (wo.setCell ⟨g, k * 2, none⟩ (.string zl)).drew := (gset Q3 (by show w.heap.size ≤ g; omega) _).drew
      generalize (wo.setCell ⟨g, k * 2, none⟩ (.string zl)).drew = W4 at R1 R2 R3 ⊢
      clear Q1 Q2 Q3 qm f1 f2 f3 hh0 i1 i2 i3
      obtain ⟨m, hm⟩ : ∃ m, ms k = m := ⟨_, rfl⟩
      have HM : Hid (ms k = m) := hm
      clear hm
      go_upto_region 14 with fail
      go_loopw [12] (fun i wq => ∃ k2 : Nat, k2 ≤ m ∧ i = .int .i64 k2 ∧ One wq bm (.slice (some ⟨g, 0, none⟩) n cm) 24 ∧ Shape base wq (.slice (some ⟨g, 0, none⟩) n cm) n ms ∧ Below w.heap.size w wq) (fun i _ => m - (intOf i).toNat)
      case atStart => exact ⟨0, Nat.zero_le _, rfl, R1, R2, R3⟩
      case round =>
        obtain ⟨k2, hk2, rfl, S1, S2, S3⟩ := hrel
        have qm := S1.at0
        obtain ⟨aj, cj, f1, hmb, hrow⟩ := S2.attrs k hlt
        rw [HM.out] at f1 hmb hrow
        by_cases hlt2 : k2 < m
        · rcases hrow with hrow | ⟨g2, ss, rfl, hbg2, hown, hcells⟩
          · omega
          obtain ⟨zl2, f4, _⟩ := hcells (m - 1) (by omega)
          obtain ⟨zk2, f5, f6⟩ := hcells k2 hlt2
          have hg2m : bm ≠ g2 := fun e => by
            have h5 : wr.heap[bm]? = _ := S1
            obtain ⟨cur2, h6, _⟩ := own_block hown
            rw [e, h6] at h5
            simp at h5
          have i1 : ((m : Int) - 1).toNat = m - 1 := by omega
          have i2 : (0 : Int) ≤ (m : Int) - 1 := by omega
          have i3 : (m : Int) - 1 < (m : Int) := by omega
          clear hcells
          go_upto_region 16 with fail
          go_region
          have U1 : One (wr.setCell ⟨g2, k2, none⟩ (.string zl2)).drew bm (.slice (some ⟨g, 0, none⟩) n cm) 24 := (Below.heap_setCell wr ⟨g2, k2, none⟩ _ bm hg2m).trans S1
          have U2 : Shape base (wr.setCell ⟨g2, k2, none⟩ (.string zl2)).drew (.slice (some ⟨g, 0, none⟩) n cm) n ms := S2.setAttr hown k2 zl2
          have U3 : Below w.heap.size w (wr.setCell ⟨g2, k2, none⟩ (.string zl2)).drew := (gset S3 (by show w.heap.size ≤ g2; omega) _).drew
          generalize (wr.setCell ⟨g2, k2, none⟩ (.string zl2)).drew = W6 at U1 U2 U3 ⊢
          clear S1 S2 S3 qm f1 f4 f5 f6 hown i1 i2 i3
          go_wp2
          go_roundw
          case rel => exact ⟨k2 + 1, by omega, by go_num, U1, U2, U3⟩
          case measure => simp [intOf]; omega
        · obtain rfl : k2 = m := by omega
          clear hrow
          go_wp2
          go_roundw
          case rel => exact ⟨k + 1, by omega, by go_num, S1, S2, S3⟩
          case measure => simp [intOf]; omega
    · obtain rfl : k = n := by omega
      obtain ⟨L2, T2, hl2⟩ := Q2.own
      obtain ⟨_, _, e1, hT2⟩ := T2.types
      simp only [Value.slice.injEq, true_and] at e1
      obtain ⟨rfl, rfl⟩ := e1
      have hrs2 : ∀ j, (L2.getD j noTy).2.length * 16 ≤ 140737488351232 := fun j => by
        by_cases hj : j < k
        · rw [hl2 j hj]; exact hrm j
        · have : L2.getD j noTy = noTy := by
            have := hT2.1
            simp [List.getD, List.getElem?_eq_none (show L2.length ≤ j by omega)]
          rw [this]; decide
      have c := twin_any am k cm L2 wo hT2 hr hrs2
      go_upto_region 18 with (go_at_call 4; with_reducible refine c.mono ?_; rintro e u ⟨v, rfl, T, g⟩; obtain ⟨an, cn, rfl, hTn⟩ := T.types)
      clear c T T2
      have O1 := One.new u (.slice an k cn) 24
      have O0 := (Q1.keep g).alloc (.cells #[.slice an k cn] 24)
      have B1 := galloc (gtrans Q3 g) (.cells #[.slice an k cn] 24)
      have q1 := galloc (Below.refl u.heap.size u) (.cells #[.slice an k cn] 24)
      replace hT2 := (hT2.keep g).keep q1
      replace hTn := hTn.keep q1
      generalize hW1 : u.alloc (.cells #[.slice an k cn] 24) = W9 at O0 O1 B1 hT2 hTn ⊢
      generalize hbu : u.heap.size = bn at O1 ⊢
      clear hW1 g q1 hbu Q1 Q2 Q3 qm
      obtain ⟨z3, hz3⟩ : ∃ z, z = typeI L2 name := ⟨_, rfl⟩
      obtain ⟨z4, hz4⟩ : ∃ z, z = attrI L2 typ name := ⟨_, rfl⟩
      have y1 : ∀ z : Ext W9, Calls Try.prog 5 #[.agg #[.slice am k cm], .string name] z.X (fun e w'' => e = .returned (.int .i64 z3) ∧ ∃ m : Ext W9, w'' = m.X) := fun z => by rw [hz3]; exact ext_of (typeOf_any am k cm L2 name z.X (hT2.keep z.h))
      have y2 : ∀ z : Ext W9, Calls Try.prog 6 #[.agg #[.slice am k cm], .int .i64 typ, .string name] z.X (fun e w'' => e = .returned (.int .i64 z4) ∧ ∃ m : Ext W9, w'' = m.X) := fun z => by rw [hz4]; exact ext_of (attrOf_any am k cm L2 typ name z.X (hT2.keep z.h))
      have y3 : ∀ z : Ext W9, Calls Try.prog 7 #[.agg #[.slice an k cn], .string name] z.X (fun e w'' => e = .returned (.int .i64 z3) ∧ ∃ m : Ext W9, w'' = m.X) := fun z => by rw [hz3]; exact ext_of (refTypeOf_any an k cn L2 name z.X (hTn.keep z.h))
      have y4 : ∀ z : Ext W9, Calls Try.prog 8 #[.agg #[.slice an k cn], .int .i64 typ, .string name] z.X (fun e w'' => e = .returned (.int .i64 z4) ∧ ∃ m : Ext W9, w'' = m.X) := fun z => by rw [hz4]; exact ext_of (refAttrOf_any an k cn L2 typ name z.X (hTn.keep z.h))
      have p0 := fun (z : Ext W9) => (z.cell _ _ O0.lt).trans O0.at0
      have p1 := fun (z : Ext W9) => (z.cell _ _ O1.lt).trans O1.at0
      have hne : Nonempty (Ext W9) := ⟨⟨_, Below.refl _ _⟩⟩
      clear hz3 hz4 hT2 hTn O0 O1 hl2 hrs2 hrm
      refine wp_region_ext (by kernel_rfl) (by kernel_rfl) ?_
      repeat (go_big_quiet_step (first | (go_at_call 5; with_reducible exact y1 _) | (go_at_call 6; with_reducible exact y2 _) | (go_at_call 7; with_reducible exact y3 _) | (go_at_call 8; with_reducible exact y4 _)))
      refine wpQuiet_nil ?_
      intro _ hw'
      obtain ⟨nxw, hw''⟩ := hw'
      subst hw''
      go_wp2
      go_ret
      exact ⟨by first | rfl | simp, gtrans B1 nxw.h⟩

end Go.Proofs.Ytlajjkhcffdcfaa.eventFinds
