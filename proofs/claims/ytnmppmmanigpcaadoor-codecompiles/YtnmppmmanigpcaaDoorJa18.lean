/- Two programs that hold the same are the same to the law. And what goes with it: 2 texts in one. -/
import Derived.Test.YtnmppmmanigpcaaDoorJa17
import Derived.Deep.RegionLaw
namespace Go.Proofs.YtnmppmmanigpcaaDoor
open Go.RowKit Go.BigFrame
set_option linter.unusedVariables false
set_option linter.unusedSimpArgs false

set_option maxRecDepth 100000 in
set_option maxHeartbeats 8000000 in
theorem sameProg_true (p : Prg) (hp : p.ok) (ai : Option Addr) (ci : Nat) (ac : Option Addr) (cc : Nat) (bi : Option Addr) (di : Nat) (bc : Option Addr) (dc : Nat) (w : World) (A : IsPr w p ai ci ac cc) (B : IsPr w p bi di bc dc) :
    Calls Tryd.prog 12 #[prgA p ai ci ac cc, prgA p bi di bc dc] w fun e w' => e = .returned (.bool true) ∧ Below w.heap.size w w' := by
  have hpn := hp.n
  have hpc := hp.c
  have hs1 : ((p.code.length : Int) != (p.code.length : Int)) = false := by simp
  have hs2 : ((p.cols.length : Int) != (p.cols.length : Int)) = false := by simp
  have S0 := (Bk.new w #[.slice ai p.code.length ci, .slice ac p.cols.length cc] 40).alloc (.cells #[.slice bi p.code.length di, .slice bc p.cols.length dc] 40)
  have T0 := Bk.newE (w := w.alloc (.cells #[.slice ai p.code.length ci, .slice ac p.cols.length cc] 40)) (g := w.heap.size + 1) (by simp) #[.slice bi p.code.length di, .slice bc p.cols.length dc] 40
  have B0 := galloc (galloc (Below.refl w.heap.size w) (.cells #[.slice ai p.code.length ci, .slice ac p.cols.length cc] 40)) (.cells #[.slice bi p.code.length di, .slice bc p.cols.length dc] 40)
  have A0 := A.keep B0
  have D0 := B.keep B0
  go_enter Tryd.func12, Tryd.ntmps12
  go_upto_region 3 with fail
  generalize (w.alloc (.cells #[.slice ai p.code.length ci, .slice ac p.cols.length cc] 40)).alloc (.cells #[.slice bi p.code.length di, .slice bc p.cols.length dc] 40) = V at *
  go_wp2
  go_loopw [5] (fun x wr => ∃ k : Nat, k ≤ p.code.length ∧ x = .int .i64 k ∧ Below V.heap.size V wr) (fun x _ => p.code.length - (intOf x).toNat)
  case atStart => exact ⟨0, Nat.zero_le _, rfl, Below.refl _ _⟩
  case round =>
    obtain ⟨k, hk, rfl, G⟩ := hrel
    obtain ⟨s0, s1⟩ := (S0.keep G).at2
    obtain ⟨t0, t1⟩ := (T0.keep G).at2
    by_cases hlt : k < p.code.length
    · have hki : (k : Int) < (p.code.length : Int) := by omega
      obtain ⟨g3, o3, rfl, _, c3⟩ := ((A0.keep G).f).form (by rw [fl_len insC_sz]; omega)
      obtain ⟨g4, o4, rfl, _, c4⟩ := ((D0.keep G).f).form (by rw [fl_len insC_sz]; omega)
      obtain ⟨m0, m1, m2, m3, m4⟩ := in_at c3 k hlt
      obtain ⟨n0, n1, n2, n3, n4⟩ := in_at c4 k hlt
      have eqe := in_eq (p.code.getD k noIn)
      generalize p.code.getD k noIn = e at *
      unfold insC at eqe
      obtain ⟨Z, hZ⟩ : ∃ Z, Z = wr := ⟨_, rfl⟩
      subst hZ
      have hne : Nonempty (Ext Z) := ⟨⟨_, Below.refl _ _⟩⟩
      have p0 := fun z : Ext Z => (z.cell _ _ (lt_of_cell s0)).trans s0
      have p1 := fun z : Ext Z => (z.cell _ _ (lt_of_cell t0)).trans t0
      have q0 := fun z : Ext Z => (z.cell _ _ (lt_of_cell m0)).trans m0
      have r0 := fun z : Ext Z => (z.cell _ _ (lt_of_cell n0)).trans n0
      have q1 := fun z : Ext Z => (z.cell _ _ (lt_of_cell m1)).trans m1
      have r1 := fun z : Ext Z => (z.cell _ _ (lt_of_cell n1)).trans n1
      have q2 := fun z : Ext Z => (z.cell _ _ (lt_of_cell m2)).trans m2
      have r2 := fun z : Ext Z => (z.cell _ _ (lt_of_cell n2)).trans n2
      have q3 := fun z : Ext Z => (z.cell _ _ (lt_of_cell m3)).trans m3
      have r3 := fun z : Ext Z => (z.cell _ _ (lt_of_cell n3)).trans n3
      have q4 := fun z : Ext Z => (z.cell _ _ (lt_of_cell m4)).trans m4
      have r4 := fun z : Ext Z => (z.cell _ _ (lt_of_cell n4)).trans n4
      clear c3 c4 A B A0 D0
      go_wp2
      refine wp_region_ext (by kernel_rfl) (by kernel_rfl) ?_
      repeat (first
        | (refine quiet_neq_same rfl _ _ _ rfl (by kernel_rfl) _ eqe rfl rfl _ rfl ?_; simp only [Act.put, List.setIfInBounds_toArray, List.set_cons_succ, List.set_cons_zero])
        | go_big_quiet_step (fail))
      refine wpQuiet_nil ?_
      intro _ hw'
      obtain ⟨nx2, hw''⟩ := hw'
      subst hw''
      have G2 := gtrans G nx2.h
      generalize nx2.X = X2 at *
      clear p0 p1 q0 q1 q2 q3 q4 r0 r1 r2 r3 r4
      go_wp2
      go_roundw
      case rel => exact ⟨k + 1, by omega, by go_num, G2⟩
      case measure => simp [intOf]; omega
    · obtain rfl : k = p.code.length := by omega
      have hnk : ¬ ((p.code.length : Int) < (p.code.length : Int)) := by omega
      obtain ⟨U, hU⟩ : ∃ U, U = wr := ⟨_, rfl⟩
      subst hU
      have GU := G
      clear s0 s1 t0 t1
      have pu0 := (S0.keep GU).at2.1
      go_wp2
      go_loopw [6, 7] (fun x _ wr => ∃ k : Nat, k ≤ p.cols.length ∧ x = .int .i64 k ∧ Below V.heap.size V wr) (fun x _ _ => p.cols.length - (intOf x).toNat)
      case atStart => exact ⟨0, Nat.zero_le _, rfl, GU⟩
      case round =>
        clear pu0 G GU
        obtain ⟨k, hk, rfl, G⟩ := hrel
        obtain ⟨s0, s1⟩ := (S0.keep G).at2
        obtain ⟨t0, t1⟩ := (T0.keep G).at2
        by_cases hlt : k < p.cols.length
        · obtain ⟨g1, o1, a1, k1, rfl, x0, f1, _⟩ := ((A0.keep G).c) k hlt
          obtain ⟨g2, o2, a2, k2, rfl, y0, f2, _⟩ := ((D0.keep G).c) k hlt
          have hki : (k : Int) < (p.cols.length : Int) := by omega
          have hnk := hp.k k
          generalize p.cols.getD k [] = es at *
          have hes : ((es.length : Int) != (es.length : Int)) = false := by simp
          obtain ⟨Z, hZ⟩ : ∃ Z, Z = wr := ⟨_, rfl⟩
          subst hZ
          have hne : Nonempty (Ext Z) := ⟨⟨_, Below.refl _ _⟩⟩
          have p0 := fun z : Ext Z => (z.cell _ _ (lt_of_cell x0)).trans x0
          have p1 := fun z : Ext Z => (z.cell _ _ (lt_of_cell y0)).trans y0
          have p2 := fun z : Ext Z => (z.cell _ _ (lt_of_cell s1)).trans s1
          have p3 := fun z : Ext Z => (z.cell _ _ (lt_of_cell t1)).trans t1
          go_wp2
          refine wp_region_ext (by kernel_rfl) (by kernel_rfl) ?_
          repeat (go_big_quiet_step (fail))
          refine wpQuiet_nil ?_
          intro _ hw'
          obtain ⟨nx, hw''⟩ := hw'
          subst hw''
          have G1 := gtrans G nx.h
          have f1' := f1.keep nx.h
          have f2' := f2.keep nx.h
          have x1 := (nx.cell _ _ (lt_of_cell x0)).trans x0
          have y1 := (nx.cell _ _ (lt_of_cell y0)).trans y0
          have u1 := (nx.cell _ _ (lt_of_cell s1)).trans s1
          have v1 := (nx.cell _ _ (lt_of_cell t1)).trans t1
          generalize nx.X = X at *
          clear p0 p1 p2 p3 f1 f2 x0 y0 s0 s1 t0 t1 hne nx
          go_wp2
          go_loopw [7] (fun y w2 => ∃ j : Nat, j ≤ es.length ∧ y = .int .i64 j ∧ Below X.heap.size X w2) (fun y _ => es.length - (intOf y).toNat)
          case atStart => exact ⟨0, Nat.zero_le _, rfl, Below.refl _ _⟩
          case round =>
            obtain ⟨j, hj, rfl, GX⟩ := hrel
            have x2 := (GX.cell (p := ⟨g1, o1 + k, none⟩) (lt_of_cell x1)).trans x1
            have y2 := (GX.cell (p := ⟨g2, o2 + k, none⟩) (lt_of_cell y1)).trans y1
            have u2 := (GX.cell (p := ⟨w.heap.size, 1, none⟩) (lt_of_cell u1)).trans u1
            have v2 := (GX.cell (p := ⟨w.heap.size + 1, 1, none⟩) (lt_of_cell v1)).trans v1
            by_cases hjt : j < es.length
            · have hji : (j : Int) < (es.length : Int) := by omega
              obtain ⟨g3, o3, rfl, _, c3⟩ := (f1'.keep GX).form (by rw [fl_len intC_sz]; omega)
              obtain ⟨g4, o4, rfl, _, c4⟩ := (f2'.keep GX).form (by rw [fl_len intC_sz]; omega)
              have d1 := fl_at intC_sz 0 es j 0 hjt (by omega)
              rw [Nat.mul_one, Nat.add_zero] at d1
              have m0 := c3 j (.int .i64 (es.getD j 0)) d1
              have n0 := c4 j (.int .i64 (es.getD j 0)) d1
              generalize es.getD j 0 = e at *
              have hee : (e != e) = false := by simp
              obtain ⟨Z, hZ⟩ : ∃ Z, Z = wr := ⟨_, rfl⟩
              subst hZ
              have hne : Nonempty (Ext Z) := ⟨⟨_, Below.refl _ _⟩⟩
              have p0 := fun z : Ext Z => (z.cell _ _ (lt_of_cell x2)).trans x2
              have p1 := fun z : Ext Z => (z.cell _ _ (lt_of_cell y2)).trans y2
              have p2 := fun z : Ext Z => (z.cell _ _ (lt_of_cell u2)).trans u2
              have p3 := fun z : Ext Z => (z.cell _ _ (lt_of_cell v2)).trans v2
              have p4 := fun z : Ext Z => (z.cell _ _ (lt_of_cell m0)).trans m0
              have p5 := fun z : Ext Z => (z.cell _ _ (lt_of_cell n0)).trans n0
              clear c3 c4 d1
              go_wp2
              refine wp_region_ext (by kernel_rfl) (by kernel_rfl) ?_
              repeat (go_big_quiet_step (fail))
              refine wpQuiet_nil ?_
              intro _ hw'
              obtain ⟨nx2, hw''⟩ := hw'
              subst hw''
              have G2 := gtrans GX nx2.h
              generalize nx2.X = X2 at *
              clear p0 p1 p2 p3 p4 p5
              go_wp2
              go_roundw
              case rel => exact ⟨j + 1, by omega, by go_num, G2⟩
              case measure => simp [intOf]; omega
            · obtain rfl : j = es.length := by omega
              have hnj : ¬ ((es.length : Int) < (es.length : Int)) := by omega
              have G3 := gtrans G1 GX
              go_wp2
              go_roundw
              case rel => exact ⟨k + 1, by omega, by go_num, G3⟩
              case measure => simp [intOf]; omega
        · obtain rfl : k = p.cols.length := by omega
          have hnk : ¬ ((p.cols.length : Int) < (p.cols.length : Int)) := by omega
          have G9 := gtrans B0 G
          go_wp2
          go_ret
          exact ⟨rfl, G9⟩

end Go.Proofs.YtnmppmmanigpcaaDoor
namespace Go.Proofs.YtnmppmmanigpcaaDoor
open Go.RowKit Go.BigFrame
set_option linter.unusedVariables false
set_option linter.unusedSimpArgs false

theorem nf_ins : (Tryd.prog.info? 74).map (fun i => (i.zero, i.size, i.bytes)) = some (some (.agg (insC noIn)), 5, 40) := by kernel_rfl
theorem nf_gint : (Tryd.prog.info? 3).map (fun i => (i.zero, i.size, i.bytes)) = some (some (.int .i64 0), 1, 8) := by kernel_rfl
theorem nf_gints : (Tryd.prog.info? 60).map (fun i => (i.zero, i.size, i.bytes)) = some (some (.slice none 0 0), 1, 24) := by kernel_rfl
/-- append of a whole row, at a step of a region that draws its order. -/
theorem step_append_flat {P : Program} {w : World} {ops : Array Oper} {o : Oper} {a : Act} {K : Act → World → Prop} {Q : Exit → Act → World → Prop} {Ex : Prop} (hgd : o.guard = none) (s x : Operand) {TS T : TypeId} {z : Value} {sz by_ : Nat}
    (ho : o.op = .call { callee := .builtin .append, args := #[s, x], argTypes := #[TS, TS] }) (hu : P.underlying TS = some (.slice T)) (nf : (P.info? T).map (fun i => (i.zero, i.size, i.bytes)) = some (some z, sz, by_)) (hzs : z.cells.size = sz) (hsz : 0 < sz)
    (v : Value) (base n : Nat) (xs : List Value) (hs : a.eval s = v) (O : w.ownsRow base T sz v n xs) (hb : base ≤ w.heap.size)
    (ao : Option Addr) (m cap : Nat) (ys : List Value) (hx : a.eval x = .slice ao m cap) (hsl : Sl ao m cap) (A : Flat w ao ys) (hy : ys.length = m * sz) (h1 : ∀ u ∈ ys, u.oneCell' = true) (hl : (n + m) * by_ ≤ 140737488351232) (hl2 : n + m ≤ 140737488351232)
    (h : ∀ v' w', w'.ownsRow base T sz v' (n + m) (xs ++ ys) → w.grownBy w' v.ownBlock → K (a.put o.dst v') w') : if Region.wanted o (yielded ops a.tmps) = true then Oper.wp P o a w K Q else Ex := by
  have hw : Region.wanted o (yielded ops a.tmps) = true := by simp [Region.wanted, hgd]
  rw [if_pos hw]
  obtain ⟨i3, ti, tz0, tz1, tz2⟩ := nf_info nf
  cases ao with
  | none =>
    obtain ⟨h0, rfl⟩ := hsl.2 rfl
    subst h0
    have hys : ys = [] := List.length_eq_zero_iff.1 (by omega)
    subst hys
    have hrun := run_append_owned_none (P := P) w base TS o.type T i3 sz hu ti v n xs O
    unfold Oper.wp
    simp [execOp, ho, resolve, invoke, builtin, hs, hx, hrun, Result.andThen]
    refine h _ _ ?_ (World.grownBy.refl _ _)
    rw [List.append_nil]
    exact O
  | some ad =>
    refine wp_append_own w s x TS ho base T i3 z sz by_ hu ti tz0 tz1 tz2 hzs hsz v n xs hs O ad m cap ys hx hy (fun j u hj => ?_) h1 (by unfold maxLen; omega) (by omega) hb (fun v' w' h1 h2 _ => h v' w' h1 h2)
    obtain ⟨g, off, e, c0⟩ := A j u hj
    cases e
    rw [Go.WideShapes.add_plain]
    exact c0
/-- A copy of a program, of one's own. -/
structure PrO (p : Prg) (b : Nat) (ao : Option Addr) (ca : Nat) (av : Option Addr) (cv : Nat) (ws : List Value) (w : World) : Prop where
  code : w.ownsRow b 74 5 (.slice ao p.code.length ca) p.code.length (fl insC p.code)
  cols : ONst w b 60 3 1 intC (.slice av p.cols.length cv) p.cols ws
theorem PrO.isPr {p : Prg} {b : Nat} {ao : Option Addr} {ca : Nat} {av : Option Addr} {cv : Nat} {ws : List Value} {w : World} (h : PrO p b ao ca av cv ws w) : IsPr w p ao ca av cv := ⟨own_flat h.code, own_sl h.code, h.cols.nst, own_sl h.cols.own⟩
theorem PrO.map {p : Prg} {b : Nat} {ao : Option Addr} {ca : Nat} {av : Option Addr} {cv : Nat} {ws : List Value} {w u : World} (h : PrO p b ao ca av cv ws w) (f : ∀ (e : TypeId) (s : Nat) (v : Value) (n : Nat) (xs : List Value), (e = 74 ∨ e = 60 ∨ e = 3) → w.ownsRow b e s v n xs → u.ownsRow b e s v n xs) : PrO p b ao ca av cv ws u := ⟨f _ _ _ _ _ (.inl rfl) h.code, h.cols.map fun e s v n xs he => f e s v n xs (.inr he)⟩
theorem PrO.keep {p : Prg} {b : Nat} {ao : Option Addr} {ca : Nat} {av : Option Addr} {cv : Nat} {ws : List Value} {w u : World} (h : PrO p b ao ca av cv ws w) (G : Below w.heap.size w u) : PrO p b ao ca av cv ws u := h.map fun _ _ _ _ _ _ o => own_keep o G
structure PrR (p : Prg) (w : World) (e : Ending) (w' : World) : Prop where
  ex : ∃ ao ca av cv ws, e = .returned (.agg #[.slice ao p.code.length ca, .slice av p.cols.length cv]) ∧ PrO p w.heap.size ao ca av cv ws w'
structure TpL (p : Prg) (w : World) (ai : Option Addr) (ci : Nat) (ac : Option Addr) (cc : Nat) (ao : Option Addr) (ca bc : Nat) (i : Value) (wr : World) : Prop where
  ex : ∃ (k : Nat) (av : Option Addr) (cv : Nat) (ws : List Value), k ≤ p.cols.length ∧ i = .int .i64 k ∧ Bk wr w.heap.size #[.slice ai p.code.length ci, .slice ac p.cols.length cc] 40 ∧ Bk wr (w.heap.size + 1) #[.slice none 0 0, .slice none 0 0] 40 ∧ Bk wr bc #[.slice ao p.code.length ca, .slice av k cv] 40 ∧ wr.ownsRow w.heap.size 74 5 (.slice ao p.code.length ca) p.code.length (fl insC p.code) ∧ ONst wr w.heap.size 60 3 1 intC (.slice av k cv) (p.cols.take k) ws ∧ Below w.heap.size w wr

set_option maxRecDepth 100000 in
set_option maxHeartbeats 8000000 in
theorem twinProg_any (p : Prg) (hp : p.ok) (ai : Option Addr) (ci : Nat) (ac : Option Addr) (cc : Nat) (w : World) (IP : IsPr w p ai ci ac cc) :
    Calls Tryd.prog 16 #[prgA p ai ci ac cc] w fun e w' => PrR p w e w' ∧ Below w.heap.size w w' := by
  have hpn := hp.n
  have hpc := hp.c
  obtain ⟨i1, hj, hy0, hy1, hy2⟩ := nf_info nf_gints
  have P0 := (Bk.new w #[.slice ai p.code.length ci, .slice ac p.cols.length cc] 40).alloc (.cells #[.slice none 0 0, .slice none 0 0] 40)
  have R0 := Bk.newE (w := w.alloc (.cells #[.slice ai p.code.length ci, .slice ac p.cols.length cc] 40)) (g := w.heap.size + 1) (by simp) #[.slice none 0 0, .slice none 0 0] 40
  have B0 := galloc (galloc (Below.refl w.heap.size w) (.cells #[.slice ai p.code.length ci, .slice ac p.cols.length cc] 40)) (.cells #[.slice none 0 0, .slice none 0 0] 40)
  go_enter Tryd.func16, Tryd.ntmps16
  go_upto_region 1 with fail
  generalize (w.alloc (.cells #[.slice ai p.code.length ci, .slice ac p.cols.length cc] 40)).alloc (.cells #[.slice none 0 0, .slice none 0 0] 40) = V at *
  have zV := B0.size
  have OE := World.ownsRow_made (base := V.heap.size) (e := 74) (size := 5) V #[] 0 (Nat.le_refl _) (by decide) rfl
  have G1 := galloc (Below.refl V.heap.size V) (.cells #[] 74)
  have f2 := (IP.f.keep B0).keep G1
  have p1 := (P0.keep G1).at2.1
  go_upto_region 2 with (at_builtin; refine wpList_append_flat rfl (.tmp 5) (.tmp 7) rfl Tryd.underlying37 nf_ins rfl (by decide) _ V.heap.size 0 [] rfl OE (by simp) ai p.code.length ci (fl insC p.code) rfl IP.si f2 (fl_len insC_sz _) (fl_one insC_one _) (by omega) (by omega) ?_; intro v1 w1 O1 g1; rw [Nat.zero_add, List.nil_append] at O1; obtain ⟨ao, ca, rfl, _, _, _⟩ := own_form O1)
  have GV : Below V.heap.size V w1 := (galloc (Below.refl V.heap.size V) (.cells #[] 74)).grown g1 (by simp) (fun r e => by cases e; exact Nat.le_refl _)
  have C1 := Bk.new w1 #[.slice ao p.code.length ca, .slice none 0 0] 40
  have G2 := galloc GV (.cells #[.slice ao p.code.length ca, .slice none 0 0] 40)
  have O2 := World.ownsRow.mono (own_keep O1 (galloc (Below.refl w1.heap.size w1) (.cells #[.slice ao p.code.length ca, .slice none 0 0] 40))) zV
  have bcV : V.heap.size ≤ w1.heap.size := GV.size
  generalize w1.alloc (.cells #[.slice ao p.code.length ca, .slice none 0 0] 40) = U at *
  obtain ⟨bc, hbc⟩ : ∃ bc, w1.heap.size = bc := ⟨_, rfl⟩
  rw [hbc] at C1 bcV ⊢
  have hwb : w.heap.size + 1 < bc := by have := R0.lt; omega
  have P2 := P0.keep G2
  have R2 := R0.keep G2
  have B2 := gtrans B0 G2
  clear P0 R0 f2 p1 OE G1 O1 g1 GV G2 hbc
  go_wp2
  go_loopw [4] (fun i wr => TpL p w ai ci ac cc ao ca bc i wr) (fun i _ => p.cols.length - (intOf i).toNat)
  case atStart => exact ⟨⟨0, none, 0, [], Nat.zero_le _, rfl, P2, R2, C1, O2, by rw [List.take_zero]; exact ONst.nil _ _ _ _ _ _, B2⟩⟩
  case round =>
    clear P2 R2 C1 O2 B2
    obtain ⟨⟨k, av, cv, ws, hk, rfl, PB, RB, CB, OC, N, G⟩⟩ := hrel
    have zG := G.size
    obtain ⟨pb0, pb1⟩ := PB.at2
    obtain ⟨cb0, cb1⟩ := CB.at2
    have cbf := CB.free
    have lp := PB.lt
    have lc := CB.lt
    by_cases hlt : k < p.cols.length
    · obtain ⟨g, o, a, c, rfl, x0, f1, sl⟩ := (IP.c.keep G) k hlt
      have lg := lt_of_cell x0
      dsimp only at lg
      have hki : (k : Int) < (p.cols.length : Int) := by omega
      have hnk := hp.k k
      have hts := take_snoc p.cols [] k hlt
      have hlk : (p.cols.take k).length = k := by simp; omega
      obtain ⟨es, hes⟩ : ∃ es, p.cols.getD k [] = es := ⟨_, rfl⟩
      rw [hes] at x0 f1 sl hnk hts
      have HTS := show Hid (_ = _) from hts
      clear hts hes
      have Gd := (Below.refl wr.heap.size wr).drew
      have G1 := galloc Gd (.cells #[] 3)
      have OE : (wr.drew.alloc (.cells #[] 3)).ownsRow wr.heap.size 3 1 (.slice (some ⟨wr.heap.size, 0, none⟩) 0 0) 0 [] := World.ownsRow_made (base := wr.heap.size) (e := 3) (size := 1) wr.drew #[] 0 (Nat.le_refl _) (by decide) rfl
      have f2 := f1.keep G1
      have OW0 := own_keep N.own G1
      have hnb := nbk N.own
      rw [hlk] at OW0
      go_wp2
      go_region_law (first
        | (refine step_append_flat rfl (.tmp 19) (.tmp 24) rfl Tryd.underlying60 nf_gint rfl (by decide) (.slice (some ⟨wr.heap.size, 0, none⟩) 0 0) wr.heap.size 0 [] (by simp [Act.eval, Act.put]) OE (by simp) a es.length c (fl intC es) (by simp [Act.eval, Act.put]) sl f2 (fl_len intC_sz es) (fl_one intC_one _) (by omega) (by omega) ?_; intro v1 w1 O1 g1; rw [Nat.zero_add, List.nil_append] at O1; obtain ⟨a1, k1, rfl, _, _, _⟩ := own_form O1; have OW := OW0.kept g1 hnb; have hgz := g1.size; have GW : Below wr.heap.size wr w1 := G1.grown g1 (by simp) (fun r e => by cases e; exact Nat.le_refl _); have CB1 := CB.keep GW; have cb1' := CB1.at2.2; have lc1 := CB1.lt; have zw1 : wr.heap.size ≤ w1.heap.size := GW.size)
        | (refine step_append_lies _ rfl (.tmp 18) (.tmp 26) 38 rfl w.heap.size 60 i1 (.slice none 0 0) 1 24 Tryd.underlying38 hj hy0 hy1 hy2 rfl (by decide) (.slice av k cv) k ws (by simp [Act.eval, Act.put]) (OW.alloc _) ⟨w1.heap.size, 0, none⟩ 1 1 [.slice a1 es.length k1] (by simp [Act.eval, Act.put]) rfl (one_newE rfl _ _) (fun u hu => by simp at hu; subst hu; rfl) (by decide) (by unfold maxLen; omega) (by omega) (by simp; omega) _ rfl ?_; intro g2 c2 w2 own' hgrow _ _; have OE2 := own_keep OW (galloc (Below.refl w1.heap.size w1) (.cells #[.slice a1 es.length k1] 60)); have CB2 := bk_far (CB1.alloc (.cells #[.slice a1 es.length k1] 60)) OE2 (by decide) hgrow; have t1 := CB2.at2.2; have tf := CB2.free))
      all_goals
        have ge := galloc (Below.refl w1.heap.size w1) (.cells #[.slice a1 es.length k1] 60)
        have BE := (But.refl bc w2).set 1 (.slice (some ⟨g2, 0, none⟩) (k + 1) c2)
        have be := fun (e : TypeId) (hT : 40 ≠ e) (b s' : Nat) (v : Value) (m : Nat) (xs : List Value) (h : w2.ownsRow b e s' v m xs) => own_but h CB2 hT BE
        have fr := fun (e : TypeId) (hT : 60 ≠ e) (b s' : Nat) (v : Value) (m : Nat) (xs : List Value) (h : w1.ownsRow b e s' v m xs) => ty_far OE2 (own_keep h ge) hT hgrow
        have keep : ∀ (s : Nat) (v : Value) (n : Nat) (xs : List Value), wr.ownsRow w.heap.size 3 s v n xs → (w2.setCell ⟨bc, 1, none⟩ (.slice (some ⟨g2, 0, none⟩) (k + 1) c2)).ownsRow w.heap.size 3 s v n xs := fun s v n xs h => be _ (by decide) _ _ _ _ _ (fr _ (by decide) _ _ _ _ _ ((own_keep h G1).kept g1 (nbk h)))
        have hy := World.ownsRow.mono (be _ (by decide) _ _ _ _ _ (fr _ (by decide) _ _ _ _ _ O1)) zG
        have N2 := N.snoc es a1 k1 wr.heap.size hy keep (fun g hg => (O1.lt g hg).1) (Nat.le_refl _) (v' := .slice (some ⟨g2, 0, none⟩) (k + 1) c2) (by rw [hlk]; exact be _ (by decide) _ _ _ _ _ own')
        rw [← HTS.out] at N2
        have OC2 := be _ (by decide) _ _ _ _ _ (fr _ (by decide) _ _ _ _ _ (own_keep OC GW))
        have PB2 := (bk_far ((PB.keep GW).keep ge) OE2 (by decide) hgrow).other (b' := bc) (by omega) 1 (.slice (some ⟨g2, 0, none⟩) (k + 1) c2)
        have RB2 := (bk_far ((RB.keep GW).keep ge) OE2 (by decide) hgrow).other (b' := bc) (by omega) 1 (.slice (some ⟨g2, 0, none⟩) (k + 1) c2)
        have CB3 : Bk (w2.setCell ⟨bc, 1, none⟩ (.slice (some ⟨g2, 0, none⟩) (k + 1) c2)) bc #[.slice ao p.code.length ca, .slice (some ⟨g2, 0, none⟩) (k + 1) c2] 40 := CB2.set 1 (.slice (some ⟨g2, 0, none⟩) (k + 1) c2)
        have GF := gset (((gtrans G GW).alloc (gtrans G GW).size (.cells #[.slice a1 es.length k1] 60)).grown hgrow (by simp; omega) (fun r e => by have := (OE2.lt _ e).1; omega)) (p := ⟨bc, 1, none⟩) (by dsimp only; omega) (.slice (some ⟨g2, 0, none⟩) (k + 1) c2)
        have fin : TpL p w ai ci (some ⟨g, o, none⟩) cc ao ca bc (.int .i64 ((k : Int) + 1)) (w2.setCell ⟨bc, 1, none⟩ (.slice (some ⟨g2, 0, none⟩) (k + 1) c2)) := ⟨⟨k + 1, some ⟨g2, 0, none⟩, c2, ws ++ [.slice a1 es.length k1], by omega, by go_num, PB2, RB2, CB3, OC2, N2, GF⟩⟩
        clear be fr keep hy N2 OC2 PB2 RB2 CB3 GF own' hgrow OE2 CB2 CB1 OW O1 OW0 OE N OC PB RB CB f1 f2
        go_wp2
        go_roundw
        case rel => exact fin
        case measure => simp [intOf]; omega
    · obtain rfl : k = p.cols.length := by omega
      have hnk : ¬ ((p.cols.length : Int) < (p.cols.length : Int)) := by omega
      rw [List.take_length] at N
      have r0 := RB.at2.1
      have r1 := RB.at2.2
      have rf := RB.free
      have BE := ((But.refl (w.heap.size + 1) wr).set 0 (.slice ao p.code.length ca)).set 1 (.slice av p.cols.length cv)
      have be := fun (e : TypeId) (hT : 40 ≠ e) (b s' : Nat) (v : Value) (m : Nat) (xs : List Value) (h : wr.ownsRow b e s' v m xs) => own_but h RB hT BE
      have fin : PrO p w.heap.size ao ca av cv ws ((wr.setCell ⟨w.heap.size + 1, 0, none⟩ (.slice ao p.code.length ca)).setCell ⟨w.heap.size + 1, 1, none⟩ (.slice av p.cols.length cv)) := ⟨be _ (by decide) _ _ _ _ _ OC, N.map fun e s v n xs he h => be e (by rcases he with rfl | rfl <;> decide) _ _ _ _ _ h⟩
      have GE := gset (gset G (p := ⟨w.heap.size + 1, 0, none⟩) (by dsimp only; omega) (.slice ao p.code.length ca)) (p := ⟨w.heap.size + 1, 1, none⟩) (by dsimp only; omega) (.slice av p.cols.length cv)
      clear be BE N OC
      go_wp2
      exact bodyPost_ret (v := .agg #[.slice ao p.code.length ca, .slice av p.cols.length cv]) (by simp [results, Tryd.results16, go_sem, r0, r1]) rfl ⟨⟨⟨ao, ca, av, cv, ws, rfl, fin⟩⟩, GE⟩

end Go.Proofs.YtnmppmmanigpcaaDoor
