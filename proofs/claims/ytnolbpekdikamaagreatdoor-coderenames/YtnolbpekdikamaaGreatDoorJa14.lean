/- The compiler's node, walked. And what goes with it: 4 texts in one. -/
import Derived.Test.YtnolbpekdikamaaGreatDoorJa13
import Derived.Deep.CutRange
import Derived.Deep.OwnRows
namespace Go.Proofs.YtnolbpekdikamaaGreatDoor
open Go.RowKit Go.BigFrame
set_option linter.unusedVariables false
set_option linter.unusedSimpArgs false

theorem MpAt.look1 {w : World} {b n : Nat} {M : ByteArray → Option Int} (h : MpAt w b n M) (s : ByteArray) (hs : s.size ≤ 140737488351232) : (Instr.lookup 78 (.map (some b)) (.string s) false).run Tryz.prog w = .ok (.int .i64 ((M s).getD 0)) w := by
  obtain ⟨D, h1, h2⟩ := h.ex
  obtain ⟨c, hr, hc, _⟩ := h1.lookup_int (Maps.string_keyed Tryz.underlying9) Tryz.underlying78 Tryz.underlying3 (by kernel_rfl) (str_key hs)
  obtain ⟨_, e2⟩ := h2 s hs
  rw [hc] at e2
  simp only [DataW.lit.injEq, Lit.int.injEq, true_and] at e2
  rw [hr, e2]
theorem CStp.next {p base : Nat} {S : Nat → Prop} {vt vi : Value} {w u x : World} {s : Cst} {S1 : Nat → Prop} (F : FrC S w u) (V : ∀ k, S1 k → S k ∨ w.heap.size ≤ k) (h : CStp p base S1 vt vi u x s) : CStp p base S vt vi w x s := by
  obtain ⟨S2, C2, F2, V2⟩ := h
  refine ⟨S2, C2, F.trans F2 V, fun k hk => ?_⟩
  rcases V2 k hk with h1 | h1
  · exact V k h1
  · right; have := F.size; omega
theorem Cmp.cell1 {w : World} {p base : Nat} {S : Nat → Prop} {vt vi : Value} {s : Cst} (h : Cmp w p base S vt vi s) : w.cell? ⟨p, 1, none⟩ = some vi := by
  obtain ⟨bm, vc, vl, vo, ws, _, h⟩ := h
  exact h.blk.at6.2.1
theorem Cmp.base_le {w : World} {p base : Nat} {S : Nat → Prop} {vt vi : Value} {s : Cst} (h : Cmp w p base S vt vi s) : base ≤ w.heap.size := by
  obtain ⟨bm, vc, vl, vo, ws, _, h⟩ := h
  exact h.bs
theorem last_split {l : List Nat} (h : l ≠ []) : l = l.dropLast ++ [lastN l] := by
  have h2 := List.dropLast_concat_getLast h
  rw [← h2]
  unfold lastN
  rw [List.getLast_eq_getElem]
  simp
theorem quiet_look {P : Program} {o : Oper} {a : Act} {C : World → Prop} {w : World} {v : Value} {T : TypeId} {x y : Operand} {vx vy : Value} {ok : Bool} (h : (Instr.lookup T vx vy ok).run P w = .ok v w) (ho : o.op = .lookup T x y ok) (hx : a.eval x = vx) (hy : a.eval y = vy) : o.quietAt P a C w v := by
  unfold Oper.quietAt execOp
  simp only [ho, hx, hy, Sem.run_bind, h, Result.andThen_ok, Sem.run_pure]
  exact ⟨rfl, rfl⟩
/-- A block of an instruction that is none of the compiler's may turn. -/
theorem Cmp.other {w : World} {p base : Nat} {S : Nat → Prop} {vt vi : Value} {s : Cst} (h : Cmp w p base S vt vi s) {b : Nat} {cs : Array Value} (hb : Bk w b cs 87) (hS : ¬ S b) (o : Nat) (v : Value) : Cmp (w.setCell ⟨b, o, none⟩ v) p base S vt vi s := by
  obtain ⟨bm, vc, vl, vo, ws, rfl, I⟩ := h
  have hne : ∀ k, k ≠ b → (w.setCell ⟨b, o, none⟩ v).heap[k]? = w.heap[k]? := fun k hk => Below.heap_setCell _ _ _ k hk
  refine ⟨bm, vc, vl, vo, ws, rfl, ⟨(hne p fun e => hS (.inl e.symm)).trans I.blk, own_of_block2 I.code fun g e => hne g fun e2 => hS (.inr (.inr (.inl (e2 ▸ e)))), I.cols.map fun e1 s1 v1 n1 xs he o1 => ty_set o1 hb (by rcases he with rfl | rfl <;> decide) o v, ty_set I.opn hb (by decide) o v, I.map.of_block (hne bm fun e => hS (.inr (.inl e.symm))), I.far, ?_, I.bp, I.bb⟩⟩
  have : (w.setCell ⟨b, o, none⟩ v).heap.size = w.heap.size := by simp
  rw [this]
  exact I.bs
theorem FrC.setC {S : Nat → Prop} {w u : World} (F : FrC S w u) {b : Nat} (hb : w.heap.size ≤ b) (o : Nat) (v : Value) : FrC S w (u.setCell ⟨b, o, none⟩ v) :=
  ⟨F.os, F.tape, F.output, by simp; exact F.size, fun k h1 h2 => (Below.heap_setCell _ _ _ k (by show k ≠ b; omega)).trans (F.blk k h1 h2)⟩
/-- What stands ahead of write. -/
structure NdQ (w : World) (p base b : Nat) (S : Nat → Prop) (vt vi : Value) (nd : Array Value) (x : Ins) (s1 : Cst) (wx : World) : Prop where
  ex : ∃ S1, Cmp wx p base S1 vt vi s1 ∧ FrC S w wx ∧ (∀ k, S1 k → S k ∨ w.heap.size ≤ k) ∧ Bk wx b (insC x) 87 ∧ Bk wx w.heap.size nd 64 ∧ ¬ S1 b ∧ ¬ S1 w.heap.size
set_option maxRecDepth 100000 in
set_option maxHeartbeats 4000000 in
theorem node_any (p base bi nb : Nat) (S : Nat → Prop) (sa : Option Addr) (sc : Nat) (L : List Ty) (M : ByteArray → Option Int) (s : Cst) (n : Nd) (w : World) (C : Cmp w p base S (.slice sa L.length sc) (.map (some bi)) s) (w0 : World) (A : IsTypes w0 sa L.length L) (MI : MpAt w0 bi nb M) (hw0 : w0.heap.size ≤ base) (BA : Below w0.heap.size w0 w)
    (hn : n.fit) (hL : L.length * 8 ≤ 140737488351232) (hc : s.cols.length * 24 ≤ 140737488351232) (hl : s.code.length * 40 ≤ 175921860444160) (ho : n.op = 25 ∨ n.op = 26 → s.opn ≠ [] ∧ lastN s.opn < s.code.length) :
    Calls Tryz.prog 47 #[.pointer (some ⟨p, 0, none⟩), .agg (ndA n)] w fun e w' => e = .returned (.tuple #[]) ∧ CStp p base S (.slice sa L.length sc) (.map (some bi)) w w' (nodS L M s n) := by
  have B0 := galloc (Below.refl w.heap.size w) (.cells (ndA n) 64)
  have N0 := Bk.new w (ndA n) 64
  obtain ⟨nop, nn, nv, nx, nl, nr⟩ := n
  unfold ndA at *
  dsimp only at *
  obtain ⟨sf, hsf⟩ : ∃ sf, nodS L M s ⟨nop, nn, nv, nx, nl, nr⟩ = sf := ⟨_, rfl⟩
  rw [hsf]
  have HSF : Hid (nodS L M s ⟨nop, nn, nv, nx, nl, nr⟩ = sf) := hsf
  clear hsf
  go_enter Tryz.func47, Tryz.ntmps47
  go_upto_region 1 with fail
  generalize w.alloc _ = V at *
  obtain ⟨m0, m1, m2, m3, m4, m5⟩ := N0.at6
  go_cut [4] from 5 to 11 (fun sv wx => InR V w.heap.size #[.int .i64 nop, .int .i64 nn, .string nv, .string nx, .int .i64 nl, .int .i64 nr] ⟨kCod nop, 0, 0, kLit ⟨nop, nn, nv, nx, nl, nr⟩, 0⟩ sv wx)
  case first =>
    have c90 := fun u : World => kCodeOf_any nop hn.op u
    have c91 := fun u : World => kLiteral_any ⟨nop, nn, nv, nx, nl, nr⟩ u
    unfold ndA at c91
    dsimp only at c91
    have hml := N0.lt
    have hSn : ∀ u : World, Below V.heap.size V u → (u.cell? ⟨w.heap.size, 0, none⟩ = some (.int .i64 nop) ∧ u.cell? ⟨w.heap.size, 1, none⟩ = some (.int .i64 nn) ∧ u.cell? ⟨w.heap.size, 2, none⟩ = some (.string nv) ∧ u.cell? ⟨w.heap.size, 3, none⟩ = some (.string nx) ∧ u.cell? ⟨w.heap.size, 4, none⟩ = some (.int .i64 nl) ∧ u.cell? ⟨w.heap.size, 5, none⟩ = some (.int .i64 nr)) := fun u G => (N0.keep G).at6
    go_region_with (first
      | (go_at_call 70; (with_reducible refine (c90 _).mono ?_); rintro e u ⟨rfl, hu⟩; have hu' := hu.symm; subst hu')
      | (go_at_call 71; (with_reducible refine (c91 _).mono ?_); rintro e u9 ⟨rfl, g9⟩; have G9 : Below V.heap.size V u9 := (by first | exact gtrans (Below.refl _ _).drew g9 | exact gtrans (galloc (Below.refl _ _) _).drew g9 | exact gtrans (Below.refl _ _) g9 | exact gtrans (galloc (Below.refl _ _) _) g9); obtain ⟨k0, k1, k2, k3, k4, k5⟩ := hSn u9 G9; (first | (have kB := (Bk.new V #[.int .i64 0, .int .i64 0, .int .i64 0, .int .i64 0, .int .i64 0] 87).keep g9; obtain ⟨z0, z1, z2, z3, z4⟩ := kB.at5; have fB := kB.free) | (have kB := (show Bk (V.alloc (.cells #[.int .i64 0, .int .i64 0, .int .i64 0, .int .i64 0, .int .i64 0] 87)).drew V.heap.size #[.int .i64 0, .int .i64 0, .int .i64 0, .int .i64 0, .int .i64 0] 87 from Bk.new V #[.int .i64 0, .int .i64 0, .int .i64 0, .int .i64 0, .int .i64 0] 87).keep g9; obtain ⟨z0, z1, z2, z3, z4⟩ := kB.at5; have fB := kB.free) | skip)))
    all_goals
      go_wp2
      go_meet
      case rel => first
        | exact ⟨_, rfl, G9.size, Bk.new u9 _ _, galloc G9 _⟩
        | exact ⟨_, rfl, Nat.le_refl _, sets5 kB _ _ _ _ _, gset (gset (gset (gset (gset G9 (p := ⟨V.heap.size, 0, none⟩) (Nat.le_refl _) _) (p := ⟨V.heap.size, 1, none⟩) (Nat.le_refl _) _) (p := ⟨V.heap.size, 2, none⟩) (Nat.le_refl _) _) (p := ⟨V.heap.size, 3, none⟩) (Nat.le_refl _) _) (p := ⟨V.heap.size, 4, none⟩) (Nat.le_refl _) _⟩
  case rest =>
    obtain ⟨b, rfl, hb, bx, GX⟩ := hcut
    have GW := gtrans B0 GX
    have Nx := N0.keep GX
    have CX := C.keep GW
    have BX : Below w0.heap.size w0 wc := BA.trans (GW.mono BA.size)
    have FX : FrC S w wc := FrC.of GW
    have hVw := B0.size
    have hbS : ∀ k, S k → k < w.heap.size := C.lt
    unfold insC at bx
    dsimp only at bx
    have c64 := fun u : World => kMention_any nop u
    obtain ⟨d0, d1, d2, d3, d4, d5⟩ := Nx.at6
    obtain ⟨i0, i1, i2, i3, i4⟩ := bx.at5
    obtain ⟨mb, hmb⟩ : ∃ mb, kMent nop = mb := ⟨_, rfl⟩
    have HMB : Hid (kMent nop = mb) := hmb
    rw [hmb] at c64
    clear hmb
    go_upto_if 13 with (first | (go_at_call 45; (with_reducible refine (c64 _).mono ?_); rintro e u ⟨rfl, hu⟩; have hu' := hu.symm; subst hu'))
    go_cut [] from 14 to 30 (fun wx => NdQ w p base b S (.slice sa L.length sc) (.map (some bi)) #[.int .i64 nop, .int .i64 nn, .string nv, .string nx, .int .i64 nl, .int .i64 nr] (nodI M s ⟨nop, nn, nv, nx, nl, nr⟩) (nod1 L s ⟨nop, nn, nv, nx, nl, nr⟩) wx)
    case first =>
      cases mb with
      | false =>
        have eI : nodI M s ⟨nop, nn, nv, nx, nl, nr⟩ = ⟨kCod nop, 0, 0, kLit ⟨nop, nn, nv, nx, nl, nr⟩, 0⟩ := by unfold nodI hasCol; dsimp only; rw [HMB.out]; rfl
        have e1 : nod1 L s ⟨nop, nn, nv, nx, nl, nr⟩ = s := by unfold nod1 hasCol; dsimp only; rw [HMB.out]; rfl
        go_wp2
        go_meet
        case rel =>
          rw [eI, e1]
          exact ⟨S, CX, FX, fun k h => .inl h, bx, Nx, fun h => by have := hbS _ h; omega, fun h => by have := hbS _ h; omega⟩
      | true =>
        have cp := CX.cell1
        have ml := (MI.keep BX).look1 nv hn.v
        go_upto_region 3 with fail
        have p1 := fun z : Ext wc => (z.cell _ _ (lt_of_cell cp)).trans cp
        have p2 := fun z : Ext wc => (z.cell _ _ (lt_of_cell d2)).trans d2
        have lq := fun z : Ext wc => ((MI.keep BX).keep z.h).look1 nv hn.v
        have hne0 : Nonempty (Ext wc) := ⟨⟨_, Below.refl _ _⟩⟩
        refine wp_region_ext_tail 8 (by kernel_rfl) (by kernel_rfl) ?_
        simp only [List.take_succ_cons, List.take_zero, List.drop_succ_cons, List.drop_zero]
        repeat (first
          | (refine wpQuiet_want rfl fun K hK => ⟨.int .i64 ((M nv).getD 0), fun u hC => by obtain ⟨z, rfl⟩ := hC; exact quiet_look (lq z) rfl rfl rfl, hK _ ?_⟩; simp only [Act.put, List.setIfInBounds_toArray, List.set_cons_succ, List.set_cons_zero])
          | go_big_quiet_step (fail))
        refine wpQuiet_nil ?_
        intro _ hw'
        obtain ⟨ez, hw''⟩ := hw'
        subst hw''
        have bX := bx.keep ez.h
        have NX := Nx.keep ez.h
        have CY := CX.keep ez.h
        have nSb : ¬ S b := fun h => by have := hbS _ h; omega
        have nSw : ¬ S w.heap.size := fun h => by have := hbS _ h; omega
        have hltV := N0.lt
        have hbw : b ≠ w.heap.size := by omega
        have bf := bX.free 1
        have b1 := bX.at5.2.1
        have C2 := CY.other bX nSb 1 (.int .i64 ((M nv).getD 0))
        have b2 : Bk (ez.X.setCell ⟨b, 1, none⟩ (.int .i64 ((M nv).getD 0))) b #[.int .i64 (kCod nop), .int .i64 ((M nv).getD 0), .int .i64 0, .int .i64 (kLit ⟨nop, nn, nv, nx, nl, nr⟩), .int .i64 0] 87 := bX.set 1 (.int .i64 ((M nv).getD 0))
        have N2 := NX.other (b' := b) (fun h => hbw h) 1 (.int .i64 ((M nv).getD 0))
        have F2 : FrC S w (ez.X.setCell ⟨b, 1, none⟩ (.int .i64 ((M nv).getD 0))) := (FX.below ez.h).setC (by omega) 1 _
        have BY : Below w0.heap.size w0 (ez.X.setCell ⟨b, 1, none⟩ (.int .i64 ((M nv).getD 0))) := gset (BX.trans (ez.h.mono (BX.size))) (p := ⟨b, 1, none⟩) (show w0.heap.size ≤ b by have := BA.size; omega) _
        have n0 := N2.at6.1
        have n3 := N2.at6.2.2.2.1
        have b2f := b2.free 2
        have b22 := b2.at5.2.2.1
        have c92 := column_any p base S sa sc L (.map (some bi)) s nx _ C2 w0 A hw0 BY hn.x hL hc
        by_cases h5 : nop = 5
        · subst h5
          have eI : nodI M s ⟨5, nn, nv, nx, nl, nr⟩ = ⟨kCod 5, (M nv).getD 0, 0, kLit ⟨5, nn, nv, nx, nl, nr⟩, 0⟩ := by unfold nodI hasCol; dsimp only; rfl
          have e1 : nod1 L s ⟨5, nn, nv, nx, nl, nr⟩ = s := by unfold nod1 hasCol; rfl
          clear c92
          go_wp2
          go_meet
          case rel =>
            rw [eI, e1]
            exact ⟨S, C2, F2, fun k h => .inl h, b2, N2, nSb, nSw⟩
        · have h5' : (nop == 5) = false := beq_eq_false_iff_ne.2 h5
          have hcl : hasCol ⟨nop, nn, nv, nx, nl, nr⟩ = true := by unfold hasCol; dsimp only; rw [HMB.out, decide_eq_false h5]; rfl
          have eI : nodI M s ⟨nop, nn, nv, nx, nl, nr⟩ = ⟨kCod nop, (M nv).getD 0, colV s nx, kLit ⟨nop, nn, nv, nx, nl, nr⟩, 0⟩ := by unfold nodI; rw [if_pos hcl, if_pos HMB.out]
          have e1 : nod1 L s ⟨nop, nn, nv, nx, nl, nr⟩ = colS L s nx := by unfold nod1; rw [if_pos hcl]
          go_wp2_with (first
            | (go_at_call 72; (with_reducible refine c92.mono ?_); rintro e u6 ⟨rfl, S6, C6, F6, V6⟩; have b6 := F6.bk b2 nSb; have N6 := F6.bk N2 nSw; have b6f := b6.free 2; have b62 := b6.at5.2.2.1))
          go_meet
          case rel =>
            rw [eI, e1]
            have nS6 : ¬ S6 b := fun h => by
              have := b2.lt
              rcases V6 b h with h1 | h1
              · exact nSb h1
              · omega
            have nS6w : ¬ S6 w.heap.size := fun h => by
              have := N2.lt
              rcases V6 w.heap.size h with h1 | h1
              · exact nSw h1
              · omega
            refine ⟨S6, C6.other b6 nS6 2 _, (F2.trans F6 fun k h => .inl h).setC (by omega) 2 _, fun k h => ?_, b6.set 2 _, N6.other (b' := b) (fun h => hbw h) 2 _, nS6, nS6w⟩
            rcases V6 k h with h1 | h1
            · exact .inl h1
            · right; have := F2.size; omega
    case rest =>
      obtain ⟨S1, C1, F1, V1, b1, N1, n1, n1w⟩ := hcut
      have h1c : (nod1 L s ⟨nop, nn, nv, nx, nl, nr⟩).code.length = s.code.length := by
        unfold nod1 colS
        split
        · split <;> rfl
        · rfl
      have h1o : (nod1 L s ⟨nop, nn, nv, nx, nl, nr⟩).opn = s.opn := by
        unfold nod1 colS
        split
        · split <;> rfl
        · rfl
      have HF2 : Hid ((if nop = 25 ∨ nop = 26 then landS { nod1 L s ⟨nop, nn, nv, nx, nl, nr⟩ with code := (nod1 L s ⟨nop, nn, nv, nx, nl, nr⟩).code ++ [nodI M s ⟨nop, nn, nv, nx, nl, nr⟩] } else { nod1 L s ⟨nop, nn, nv, nx, nl, nr⟩ with code := (nod1 L s ⟨nop, nn, nv, nx, nl, nr⟩).code ++ [nodI M s ⟨nop, nn, nv, nx, nl, nr⟩] }) = sf) := HSF.out
      clear HSF
      generalize nod1 L s ⟨nop, nn, nv, nx, nl, nr⟩ = s1 at *
      generalize nodI M s ⟨nop, nn, nv, nx, nl, nr⟩ = x at *
      have cw := write_any p base S1 (.slice sa L.length sc) (.map (some bi)) s1 x wc C1 (by rw [h1c]; exact hl)
      have HS2 : Hid (∃ s2, { s1 with code := s1.code ++ [x] } = s2) := ⟨_, rfl⟩
      obtain ⟨xc, xi, xl, xn, xt⟩ := x
      unfold insC at b1 cw
      dsimp only at b1 cw
      obtain ⟨i0, i1, i2, i3, i4⟩ := b1.at5
      obtain ⟨s2, hs2⟩ := HS2.out
      rw [hs2] at cw HF2
      have h2o : s2.opn = s.opn := by rw [← hs2]; exact h1o
      have h2c : s2.code.length = s.code.length + 1 := by rw [← hs2]; simp; exact h1c
      clear hs2 HS2
      have H2 : Hid (s2.opn = s.opn ∧ s2.code.length = s.code.length + 1) := ⟨h2o, h2c⟩
      clear h2o h2c h1c h1o
      by_cases hop : nop = 25 ∨ nop = 26
      · have hsf : landS s2 = sf := by have := HF2.out; rwa [if_pos hop] at this
        obtain ⟨ho1, ho2⟩ := ho hop
        have cl := fun (S7 : Nat → Prop) (u7 : World) (C7 : Cmp u7 p base S7 (.slice sa L.length sc) (.map (some bi)) s2) => land_any p base S7 (.slice sa L.length sc) (.map (some bi)) s2 s.opn.dropLast (lastN s.opn) u7 C7 (by rw [H2.out.1]; exact last_split ho1) (by rw [H2.out.2]; omega)
        have eL : { s2 with code := s2.code.set (lastN s.opn) (insTo (s2.code.getD (lastN s.opn) noIn) (s2.code.length : Int)), opn := s.opn.dropLast } = sf := by
          rw [← hsf]
          unfold landS
          rw [H2.out.1]
        rw [eL] at cl
        clear eL hsf ho
        rcases hop with rfl | rfl
        all_goals
          go_wp2_with (first
            | (go_at_call 73; (with_reducible refine cw.mono ?_); rintro e u7 ⟨rfl, S7, C7, F7, V7⟩; have k0 := (F7.bk N1 n1w).at6.1; have cl7 := cl S7 u7 C7)
            | (go_at_call 74; (with_reducible refine cl7.mono ?_); rintro e u8 ⟨rfl, P8⟩))
          refine bodyPost_end (results_none rfl _ _ _) rfl ⟨rfl, CStp.next F1 V1 (CStp.next F7 V7 P8)⟩
      · have hsf : s2 = sf := by have := HF2.out; rwa [if_neg hop] at this
        subst hsf
        have h25 : (nop == 25) = false := beq_eq_false_iff_ne.2 (by omega)
        have h26 : (nop == 26) = false := beq_eq_false_iff_ne.2 (by omega)
        clear hop ho
        go_wp2_with (first
          | (go_at_call 73; (with_reducible refine cw.mono ?_); rintro e u7 ⟨rfl, S7, C7, F7, V7⟩; have k0 := (F7.bk N1 n1w).at6.1))
        refine bodyPost_end (results_none rfl _ _ _) rfl ⟨rfl, CStp.next F1 V1 ⟨S7, C7, F7, V7⟩⟩

end Go.Proofs.YtnolbpekdikamaaGreatDoor
namespace Go.Proofs.YtnolbpekdikamaaGreatDoor
open Go.RowKit Go.BigFrame Go.Proofs.YtnolbpekdikamaaGreatDoor.Ev
set_option linter.unusedVariables false
set_option linter.unusedSimpArgs false

/-- What stands at the place j behind the first k nodes. -/
def jmpF (ns : List Nd) : Nat → Nat → Int
  | 0, _ => 0
  | k + 1, j => if ((ns.getD k noNd).op = 25 ∨ (ns.getD k noNd).op = 26) ∧ (ns.getD k noNd).l = (j : Int) then (ns.getD k noNd).op else jmpF ns k j
theorem tree_two {ns : List Nd} (h : treeB ns = true) {i : Nat} (hi : i < ns.length) (h2 : 14 ≤ (ns.getD i noNd).op) : 0 ≤ (ns.getD i noNd).l ∧ 0 ≤ (ns.getD i noNd).r := by
  obtain ⟨bs, hb, _⟩ := tree_begs h
  have k := kin_of hb i hi
  rcases k.how with ⟨h1, _⟩ | ⟨h1, _⟩ | ⟨_, e0, e1, e, e3, _⟩
  · omega
  · omega
  · omega
theorem code_info1 : (Tryz.prog.info? 85).map (fun i => (i.zero, i.size, i.bytes)) = some (some (.int .i64 0), 1, 8) := by kernel_rfl
set_option maxRecDepth 100000 in
set_option maxHeartbeats 4000000 in
theorem jumpsOf_any (ns : List Nd) (ao : Option Addr) (cap : Nat) (w : World) (A : IsNds w ao ns) (ht : treeB ns = true) (hr : ns.length * 64 ≤ 140737488351232) :
    Calls Tryz.prog 46 #[.slice ao ns.length cap] w fun e w' => ∃ b, e = .returned (.slice (some ⟨b, 0, none⟩) ns.length ns.length) ∧ w.heap.size ≤ b ∧ w'.rowIs b 85 ns.length (fun j => .int .i64 (jmpF ns ns.length j)) ∧ Below w.heap.size w w' := by
  have hmk := run_make_row' (P := Tryz.prog) 109 85 (.int .i64 0) 8 Tryz.underlying109 code_info1 rfl .i64 .i64 ns.length (by omega) (by omega)
  have R0 := World.rowIs_made w (.int .i64 0) ns.length 85
  have B0 := galloc (Below.refl w.heap.size w) (.cells (madeCells #[.int .i64 0] ns.length) 85)
  have HT : Hid (treeB ns = true) := ht
  clear ht
  go_enter Tryz.func46, Tryz.ntmps46
  go_upto_region 3 with fail
  clear hmk
  generalize w.alloc (.cells (madeCells #[.int .i64 0] ns.length) 85) = V at *
  go_loopw [5, 11] (fun _ xv wr => ∃ k : Nat, k ≤ ns.length ∧ xv = .int .i64 (k : Int) ∧ wr.rowIs w.heap.size 85 ns.length (fun j => .int .i64 (jmpF ns k j)) ∧ Below w.heap.size w wr) (fun _ xv _ => ns.length - (intOf xv).toNat)
  case atStart => exact ⟨0, Nat.zero_le _, rfl, R0.congr (fun j hj => rfl), B0⟩
  case round =>
    obtain ⟨k, hk, rfl, R, G⟩ := hrel
    by_cases hlt : k < ns.length
    · obtain ⟨g, o, rfl, x0, x1, x2, x3, x4, x5⟩ := (A.keep G) k hlt
      have hki : (k : Int) < (ns.length : Int) := by omega
      have hb := tree_bnd HT.out hlt
      have h14 := tree_two HT.out hlt
      have hst : ∀ j, jmpF ns (k + 1) j = if ((ns.getD k noNd).op = 25 ∨ (ns.getD k noNd).op = 26) ∧ (ns.getD k noNd).l = (j : Int) then (ns.getD k noNd).op else jmpF ns k j := fun j => rfl
      generalize ns.getD k noNd = y at *
      obtain ⟨yop, yn, yv, yx, yl, yr⟩ := y
      dsimp only at *
      have HS := show Hid _ from hst
      clear hst
      have HK : Hid (k < ns.length) := hlt
      clear hlt
      by_cases hop : yop = 25 ∨ yop = 26
      · obtain ⟨z, rfl⟩ : ∃ z : Nat, yl = z := ⟨yl.toNat, by have := (h14 (by omega)).1; omega⟩
        have hz : z < ns.length := by have := HK.out; omega
        have hzi : (z : Int) < (ns.length : Int) := by omega
        have RA := R.alloc (.cells #[.int .i64 yop, .int .i64 yn, .string yv, .string yx, .int .i64 (z : Int), .int .i64 yr] 64)
        have c0 := RA.cell hz
        have f0 := RA.frozen z
        have R2 := (RA.set z (.int .i64 yop)).congr (g := fun j => .int .i64 (jmpF ns (k + 1) j)) (fun j hj => by
          rw [HS.out j]
          by_cases e : j = z
          · rw [if_pos e, if_pos ⟨hop, by rw [e]⟩]
          · rw [if_neg e, if_neg (by rintro ⟨_, h⟩; omega)])
        have G2 := gset (galloc G (.cells #[.int .i64 yop, .int .i64 yn, .string yv, .string yx, .int .i64 (z : Int), .int .i64 yr] 64)) (p := ⟨w.heap.size, z, none⟩) (Nat.le_refl _) (.int .i64 yop)
        clear R RA h14 hb
        rcases hop with rfl | rfl
        all_goals
          go_wp2
          go_roundw
          case rel => exact ⟨k + 1, HK.out, by go_num, R2, G2⟩
          case measure => have hlt := HK.out; simp [intOf]; omega
      · have h25 : (yop == 25) = false := beq_eq_false_iff_ne.2 (by omega)
        have h26 : (yop == 26) = false := beq_eq_false_iff_ne.2 (by omega)
        have R2 := (R.alloc (.cells #[.int .i64 yop, .int .i64 yn, .string yv, .string yx, .int .i64 yl, .int .i64 yr] 64)).congr (g := fun j => .int .i64 (jmpF ns (k + 1) j)) (fun j hj => by rw [HS.out j, if_neg (fun h => hop h.1)])
        have G2 := galloc G (.cells #[.int .i64 yop, .int .i64 yn, .string yv, .string yx, .int .i64 yl, .int .i64 yr] 64)
        clear R h14 hb hop
        go_wp2
        go_roundw
        case rel => exact ⟨k + 1, HK.out, by go_num, R2, G2⟩
        case measure => have hlt := HK.out; simp [intOf]; omega
    · obtain rfl : k = ns.length := by omega
      have q : ¬ (ns.length : Int) < (ns.length : Int) := by omega
      clear hlt
      go_wp2
      go_ret
      exact ⟨_, rfl, Nat.le_refl _, R, G⟩

end Go.Proofs.YtnolbpekdikamaaGreatDoor
namespace Go.Proofs.YtnolbpekdikamaaGreatDoor
open Go.RowKit Go.BigFrame Go.Proofs.YtnolbpekdikamaaGreatDoor.Ev
set_option linter.unusedVariables false
set_option linter.unusedSimpArgs false

def jumpS (s : Cst) (cd : Int) : Cst := { s with code := s.code ++ [⟨cd, 0, 0, 0, 0⟩], opn := s.opn ++ [s.code.length] }
/-- Behind the first k nodes. -/
def treK (L : List Ty) (M : ByteArray → Option Int) (ns : List Nd) : Nat → Cst
  | 0 => ⟨[], [], []⟩
  | k + 1 => if jmpF ns ns.length k = 0 then nodS L M (treK L M ns k) (ns.getD k noNd) else jumpS (nodS L M (treK L M ns k) (ns.getD k noNd)) (jmpF ns ns.length k)
theorem nod2_code (L : List Ty) (M : ByteArray → Option Int) (s : Cst) (n : Nd) : (nod2 L M s n).code.length = s.code.length + 1 ∧ (nod2 L M s n).opn = s.opn := by
  have h : (nod1 L s n).code = s.code ∧ (nod1 L s n).opn = s.opn := by
    unfold nod1 colS
    split
    · split <;> exact ⟨rfl, rfl⟩
    · exact ⟨rfl, rfl⟩
  unfold nod2
  exact ⟨by simp [h.1], h.2⟩
theorem nodS_code (L : List Ty) (M : ByteArray → Option Int) (s : Cst) (n : Nd) : (nodS L M s n).code.length = s.code.length + 1 := by
  unfold nodS
  split
  · unfold landS
    rw [List.length_set]
    exact (nod2_code L M s n).1
  · exact (nod2_code L M s n).1
theorem nodS_opn (L : List Ty) (M : ByteArray → Option Int) (s : Cst) (n : Nd) : (nodS L M s n).opn = if n.op = 25 ∨ n.op = 26 then s.opn.dropLast else s.opn := by
  unfold nodS
  split
  · unfold landS
    rw [(nod2_code L M s n).2]
  · exact (nod2_code L M s n).2
/-- The open jumps lie within the code; the code is not too long. -/
theorem treK_in (L : List Ty) (M : ByteArray → Option Int) (ns : List Nd) : ∀ k, (∀ x ∈ (treK L M ns k).opn, x < (treK L M ns k).code.length) ∧ (treK L M ns k).code.length ≤ 2 * k
  | 0 => ⟨fun x h => by simp [treK] at h, by simp [treK]⟩
  | k + 1 => by
    obtain ⟨h1, h2⟩ := treK_in L M ns k
    have c := nodS_code L M (treK L M ns k) (ns.getD k noNd)
    have o := nodS_opn L M (treK L M ns k) (ns.getD k noNd)
    have h3 : ∀ x ∈ (nodS L M (treK L M ns k) (ns.getD k noNd)).opn, x < (treK L M ns k).code.length := by
      intro x hx
      rw [o] at hx
      split at hx
      · exact h1 x (List.dropLast_subset _ hx)
      · exact h1 x hx
    unfold treK
    split
    · exact ⟨fun x hx => by have := h3 x hx; omega, by omega⟩
    · unfold jumpS
      dsimp only
      rw [List.length_append, List.length_singleton]
      refine ⟨fun x hx => ?_, by omega⟩
      rcases List.mem_append.1 hx with h | h
      · have := h3 x h; omega
      · rw [List.mem_singleton] at h; omega

def aoB (n : Nd) : Bool := decide (n.op = 25 ∨ n.op = 26)
/-- How many of the first n. -/
def cntN (f : Nat → Bool) : Nat → Nat
  | 0 => 0
  | n + 1 => cntN f n + (f n).toNat
theorem cnt_add {f a g b : Nat → Bool} : ∀ n, (∀ p, p < n → (f p).toNat + (a p).toNat = (g p).toNat + (b p).toNat) → cntN f n + cntN a n = cntN g n + cntN b n
  | 0, _ => rfl
  | n + 1, h => by
    have h1 := cnt_add n fun p hp => h p (by omega)
    have h2 := h n (by omega)
    unfold cntN
    omega
theorem cnt_zero {f : Nat → Bool} : ∀ n, (∀ p, p < n → f p = false) → cntN f n = 0
  | 0, _ => rfl
  | n + 1, h => by unfold cntN; rw [cnt_zero n fun p hp => h p (by omega), h n (by omega)]; rfl
theorem cnt_one {f : Nat → Bool} {p0 : Nat} : ∀ n, p0 < n → f p0 = true → (∀ p, p < n → f p = true → p = p0) → cntN f n = 1
  | 0, h, _, _ => absurd h (Nat.not_lt_zero _)
  | n + 1, h, h1, h2 => by
    unfold cntN
    by_cases e : p0 = n
    · subst e
      rw [cnt_zero p0 fun p hp => by
        cases hf : f p with
        | false => rfl
        | true => have := h2 p (by omega) hf; omega, h1]
      rfl
    · rw [cnt_one n (by omega) h1 fun p hp => h2 p (by omega)]
      cases hf : f n with
      | false => rfl
      | true => have := h2 n (by omega) hf; omega
theorem cnt_pos {f : Nat → Bool} {p0 : Nat} : ∀ n, p0 < n → f p0 = true → 1 ≤ cntN f n
  | 0, h, _ => absurd h (Nat.not_lt_zero _)
  | n + 1, h, h1 => by
    unfold cntN
    by_cases e : p0 = n
    · subst e; rw [h1]; simp
    · have := cnt_pos n (by omega) h1; omega
theorem jmpF_iff (ns : List Nd) (j : Nat) : ∀ m, jmpF ns m j ≠ 0 ↔ ∃ p, p < m ∧ aoB (ns.getD p noNd) = true ∧ (ns.getD p noNd).l = (j : Int)
  | 0 => ⟨fun h => absurd rfl h, fun ⟨p, h, _⟩ => absurd h (Nat.not_lt_zero _)⟩
  | m + 1 => by
    have ih := jmpF_iff ns j m
    unfold jmpF
    by_cases h : ((ns.getD m noNd).op = 25 ∨ (ns.getD m noNd).op = 26) ∧ (ns.getD m noNd).l = (j : Int)
    · rw [if_pos h]
      exact ⟨fun _ => ⟨m, by omega, decide_eq_true h.1, h.2⟩, fun _ => by omega⟩
    · rw [if_neg h]
      refine ih.trans ⟨fun ⟨p, h1, h2⟩ => ⟨p, by omega, h2⟩, fun ⟨p, h1, h2, h3⟩ => ⟨p, ?_, h2, h3⟩⟩
      by_cases e : p = m
      · subst e
        exact absurd ⟨of_decide_eq_true h2, h3⟩ h
      · omega
/-- Is the jump of the node p open ahead of the node k? -/
def liv (ns : List Nd) (k p : Nat) : Bool := decide (k ≤ p) && (aoB (ns.getD p noNd) && decide ((ns.getD p noNd).l < (k : Int)))
theorem treK_opn (L : List Ty) (M : ByteArray → Option Int) (ns : List Nd) (ht : treeB ns = true) : ∀ k, k ≤ ns.length → (treK L M ns k).opn.length = cntN (liv ns k) ns.length
  | 0, _ => by
    symm
    refine cnt_zero _ fun p hp => ?_
    unfold liv
    by_cases h : aoB (ns.getD p noNd) = true
    · have := (tree_two ht hp (by have := of_decide_eq_true h; omega)).1
      rw [decide_eq_false (show ¬ (ns.getD p noNd).l < ((0 : Nat) : Int) by omega)]
      simp
    · rw [eq_false_of_ne_true h]
      simp
  | k + 1, hk => by
    have ih := treK_opn L M ns ht k (by omega)
    obtain ⟨bs, hb, _⟩ := tree_begs ht
    have o := nodS_opn L M (treK L M ns k) (ns.getD k noNd)
    have hadd := cnt_add (f := liv ns (k + 1)) (a := fun p => decide (p = k) && aoB (ns.getD k noNd)) (g := liv ns k) (b := fun p => aoB (ns.getD p noNd) && decide ((ns.getD p noNd).l = (k : Int))) ns.length (fun p hp => by
      unfold liv
      cases ha : aoB (ns.getD p noNd) with
      | false =>
        by_cases e : p = k
        · subst e; rw [ha]; simp
        · rw [decide_eq_false e]; simp
      | true =>
        have hbd := (tree_bnd ht hp).1
        by_cases e : p = k
        · subst e
          rw [ha, decide_eq_false (show ¬ p + 1 ≤ p by omega), decide_eq_true (show p ≤ p by omega), decide_eq_true (show p = p from rfl), decide_eq_true hbd, decide_eq_false (show ¬ (ns.getD p noNd).l = (p : Int) by omega)]
          rfl
        · rw [decide_eq_false e]
          by_cases h1 : k ≤ p
          · rw [decide_eq_true h1, decide_eq_true (show k + 1 ≤ p by omega)]
            by_cases h2 : (ns.getD p noNd).l < (k : Int)
            · rw [decide_eq_true h2, decide_eq_true (show (ns.getD p noNd).l < ((k + 1 : Nat) : Int) by omega), decide_eq_false (show ¬ (ns.getD p noNd).l = (k : Int) by omega)]
              rfl
            · rw [decide_eq_false h2]
              by_cases h3 : (ns.getD p noNd).l = (k : Int)
              · rw [decide_eq_true h3, decide_eq_true (show (ns.getD p noNd).l < ((k + 1 : Nat) : Int) by omega)]
                rfl
              · rw [decide_eq_false h3, decide_eq_false (show ¬ (ns.getD p noNd).l < ((k + 1 : Nat) : Int) by omega)]
                rfl
          · rw [decide_eq_false h1, decide_eq_false (show ¬ k + 1 ≤ p by omega), decide_eq_false (show ¬ (ns.getD p noNd).l = (k : Int) by omega)]
            rfl)
    have hA : cntN (fun p => decide (p = k) && aoB (ns.getD k noNd)) ns.length = (aoB (ns.getD k noNd)).toNat := by
      cases ha : aoB (ns.getD k noNd) with
      | true => exact cnt_one (p0 := k) _ (by omega) (by simp) fun p _ h => by simpa using h
      | false => exact cnt_zero _ fun p _ => by simp
    have hB : cntN (fun p => aoB (ns.getD p noNd) && decide ((ns.getD p noNd).l = (k : Int))) ns.length = if jmpF ns ns.length k = 0 then 0 else 1 := by
      by_cases h : jmpF ns ns.length k = 0
      · rw [if_pos h]
        refine cnt_zero _ fun p hp => ?_
        cases hh : aoB (ns.getD p noNd) && decide ((ns.getD p noNd).l = (k : Int)) with
        | false => rfl
        | true =>
          rw [Bool.and_eq_true, decide_eq_true_eq] at hh
          exact absurd h ((jmpF_iff ns k ns.length).2 ⟨p, hp, hh.1, hh.2⟩)
      · rw [if_neg h]
        obtain ⟨p0, h0, h1, h2⟩ := (jmpF_iff ns k ns.length).1 h
        refine cnt_one (p0 := p0) _ h0 (by rw [h1, decide_eq_true h2]; rfl) fun p hp hh => ?_
        rw [Bool.and_eq_true, decide_eq_true_eq] at hh
        exact kin_uniq (fun i hi => kin_of hb i hi) hp h0 (.inl hh.2) (.inl h2)
    rw [hA, hB] at hadd
    have hoL : (nodS L M (treK L M ns k) (ns.getD k noNd)).opn.length = (treK L M ns k).opn.length - (aoB (ns.getD k noNd)).toNat := by
      rw [o]
      unfold aoB
      split
      · rename_i h; rw [decide_eq_true h, List.length_dropLast]; rfl
      · rename_i h; rw [decide_eq_false h]; rfl
    have hpos : aoB (ns.getD k noNd) = true → 1 ≤ cntN (liv ns k) ns.length := fun h => cnt_pos (p0 := k) _ (by omega) (by
      unfold liv
      rw [h, decide_eq_true (show k ≤ k from Nat.le_refl _), decide_eq_true (tree_bnd ht (by omega)).1]
      rfl)
    have hle : (aoB (ns.getD k noNd)).toNat ≤ cntN (liv ns k) ns.length := by
      cases h : aoB (ns.getD k noNd) with
      | true => exact hpos h
      | false => exact Nat.zero_le _
    unfold treK
    split
    · rename_i h
      rw [if_pos h] at hadd
      rw [hoL, ih]
      omega
    · rename_i h
      rw [if_neg h] at hadd
      unfold jumpS
      dsimp only
      rw [List.length_append, hoL, ih]
      show _ + 1 = _
      omega
/-- At an AND or OR there is an open jump. -/
theorem treK_ready (L : List Ty) (M : ByteArray → Option Int) (ns : List Nd) (ht : treeB ns = true) {k : Nat} (hk : k < ns.length) (h : (ns.getD k noNd).op = 25 ∨ (ns.getD k noNd).op = 26) : (treK L M ns k).opn ≠ [] ∧ lastN (treK L M ns k).opn < (treK L M ns k).code.length := by
  have h1 : 1 ≤ (treK L M ns k).opn.length := by
    rw [treK_opn L M ns ht k (by omega)]
    refine cnt_pos (p0 := k) _ hk ?_
    unfold liv aoB
    rw [decide_eq_true h, decide_eq_true (show k ≤ k from Nat.le_refl _), decide_eq_true (tree_bnd ht hk).1]
    rfl
  have h2 : (treK L M ns k).opn ≠ [] := fun e => by rw [e] at h1; simp at h1
  refine ⟨h2, (treK_in L M ns k).1 _ ?_⟩
  have := last_split h2
  rw [this]
  simp [lastN, List.getD_eq_getElem?_getD]

end Go.Proofs.YtnolbpekdikamaaGreatDoor
namespace Go.Proofs.YtnolbpekdikamaaGreatDoor
open Go.RowKit Go.BigFrame Go.Proofs.YtnolbpekdikamaaGreatDoor.Ev
set_option linter.unusedVariables false
set_option linter.unusedSimpArgs false

theorem colS_len (L : List Ty) (s : Cst) (x : ByteArray) : (colS L s x).cols.length ≤ s.cols.length + 1 := by
  unfold colS
  split
  · omega
  · simp
theorem nodS_cols (L : List Ty) (M : ByteArray → Option Int) (s : Cst) (n : Nd) : (nodS L M s n).cols.length ≤ s.cols.length + 1 := by
  have h : (nod1 L s n).cols.length ≤ s.cols.length + 1 := by
    unfold nod1
    split
    · exact colS_len L s _
    · omega
  unfold nodS landS nod2
  split <;> exact h
theorem treK_len (L : List Ty) (M : ByteArray → Option Int) (ns : List Nd) : ∀ k, (treK L M ns k).cols.length ≤ k ∧ (treK L M ns k).opn.length ≤ (treK L M ns k).code.length
  | 0 => ⟨by simp [treK], by simp [treK]⟩
  | k + 1 => by
    obtain ⟨h1, h2⟩ := treK_len L M ns k
    have c := nodS_code L M (treK L M ns k) (ns.getD k noNd)
    have o := nodS_opn L M (treK L M ns k) (ns.getD k noNd)
    have cc := nodS_cols L M (treK L M ns k) (ns.getD k noNd)
    have h3 : (nodS L M (treK L M ns k) (ns.getD k noNd)).opn.length ≤ (treK L M ns k).opn.length := by
      rw [o]
      split
      · rw [List.length_dropLast]; omega
      · omega
    unfold treK
    split
    · exact ⟨by omega, by omega⟩
    · unfold jumpS
      dsimp only
      simp only [List.length_append, List.length_singleton]
      exact ⟨by omega, by omega⟩
theorem nodS_open (L : List Ty) (M : ByteArray → Option Int) (ns : List Nd) (k : Nat) : (nodS L M (treK L M ns k) (ns.getD k noNd)).opn.length ≤ (nodS L M (treK L M ns k) (ns.getD k noNd)).code.length := by
  have h2 := (treK_len L M ns k).2
  rw [nodS_code, nodS_opn]
  split
  · rw [List.length_dropLast]; omega
  · omega
/-- At the round k. -/
structure TrI (u : World) (p base b : Nat) (S : Nat → Prop) (vt vi : Value) (L : List Ty) (M : ByteArray → Option Int) (ns : List Nd) (xv : Value) (wr : World) : Prop where
  ex : ∃ (k : Nat) (S' : Nat → Prop), k ≤ ns.length ∧ xv = .int .i64 (k : Int) ∧ Cmp wr p base S' vt vi (treK L M ns k) ∧ FrC S u wr ∧ (∀ q, S' q → S q ∨ u.heap.size ≤ q) ∧ wr.rowIs b 85 ns.length (fun j => .int .i64 (jmpF ns ns.length j))
set_option maxRecDepth 100000 in
set_option maxHeartbeats 4000000 in
theorem tree_any (p base bi nb : Nat) (S : Nat → Prop) (sa : Option Addr) (sc : Nat) (L : List Ty) (M : ByteArray → Option Int) (ns : List Nd) (ao : Option Addr) (cap : Nat) (w : World) (C : Cmp w p base S (.slice sa L.length sc) (.map (some bi)) ⟨[], [], []⟩) (w0 : World) (A : IsTypes w0 sa L.length L) (MI : MpAt w0 bi nb M) (AN : IsNds w0 ao ns) (hw0 : w0.heap.size ≤ base) (BA : Below w0.heap.size w0 w)
    (ht : treeB ns = true) (hf : ∀ k, (ns.getD k noNd).fit) (hr : ns.length * 64 ≤ 140737488351232) (hL : L.length * 8 ≤ 140737488351232) :
    Calls Tryz.prog 24 #[.pointer (some ⟨p, 0, none⟩), .slice ao ns.length cap] w fun e w' => e = .returned (.tuple #[]) ∧ CStp p base S (.slice sa L.length sc) (.map (some bi)) w w' (treK L M ns ns.length) := by
  have c65 := jumpsOf_any ns ao cap w (AN.keep BA) ht hr
  have HT : Hid (treeB ns = true) := ht
  have hlo := C.lo
  have hS := C.lt
  clear ht
  go_enter Tryz.func24, Tryz.ntmps24
  go_upto_region 2 with (first
    | (go_at_call 46; (with_reducible refine c65.mono ?_); rintro e u ⟨b, rfl, hb, Rb, gu⟩))
  have hbu := Rb.lt
  have hwu := gu.size
  go_loopw [5, 6, 11] (fun _ _ xv wr => TrI u p base b S (.slice sa L.length sc) (.map (some bi)) L M ns xv wr) (fun _ _ xv _ => ns.length - (intOf xv).toNat)
  case atStart => exact ⟨0, S, Nat.zero_le _, rfl, C.keep gu, FrC.of (Below.refl _ _), fun q h => .inl h, Rb⟩
  case round =>
    obtain ⟨k, S', hk, rfl, CK, FK, VK, RK⟩ := hrel
    by_cases hlt : k < ns.length
    · have hlo' : ∀ q, S' q → base ≤ q := CK.lo
      have BK : Below w0.heap.size w0 wr := FK.toBelow (BA.trans (gu.mono BA.size)) (Nat.le_refl _) (fun q h => Nat.le_trans hw0 (hlo q h))
      obtain ⟨g, o, rfl, x0, x1, x2, x3, x4, x5⟩ := (AN.keep BK) k hlt
      have hki : (k : Int) < (ns.length : Int) := by omega
      have nSb : ¬ S' b := fun h => by
        rcases VK b h with h1 | h1
        · have := hS b h1; omega
        · omega
      have hrd := fun h => treK_ready L M ns HT.out hlt h
      have h2 := (treK_in L M ns k).2
      have h3 := (treK_len L M ns k).1
      have h4 := nodS_open L M ns k
      have h5 := nodS_code L M (treK L M ns k) (ns.getD k noNd)
      have hfk := hf k
      have HK1 : Hid (treK L M ns (k + 1) = if jmpF ns ns.length k = 0 then nodS L M (treK L M ns k) (ns.getD k noNd) else jumpS (nodS L M (treK L M ns k) (ns.getD k noNd)) (jmpF ns ns.length k)) := rfl
      generalize ns.getD k noNd = y at *
      obtain ⟨yop, yn, yv, yx, yl, yr⟩ := y
      dsimp only at x0 x1 x2 x3 x4 x5 hrd
      have G1 := galloc (Below.refl wr.heap.size wr) (.cells #[.int .i64 yop, .int .i64 yn, .string yv, .string yx, .int .i64 yl, .int .i64 yr] 64)
      have c66 := node_any p base bi nb S' sa sc L M (treK L M ns k) ⟨yop, yn, yv, yx, yl, yr⟩ _ (CK.keep G1) w0 A MI hw0 (BK.trans (G1.mono BK.size)) hfk hL (by omega) (by omega) hrd
      unfold ndA at c66
      dsimp only at c66
      generalize treK L M ns k = s at *
      generalize nodS L M s ⟨yop, yn, yv, yx, yl, yr⟩ = s2 at *
      obtain ⟨jk, hjk⟩ : ∃ jk, jmpF ns ns.length k = jk := ⟨_, rfl⟩
      have rc := RK.cell hlt
      rw [hjk] at rc HK1
      have HJ : Hid (jmpF ns ns.length k = jk) := hjk
      have HL : Hid (k < ns.length) := hlt
      have c67 := fun (S7 : Nat → Prop) (u7 : World) (C7 : Cmp u7 p base S7 (.slice sa L.length sc) (.map (some bi)) s2) => jump_any p base S7 (.slice sa L.length sc) (.map (some bi)) s2 jk u7 C7 (by omega) h4
      clear hlt hjk h2 h3 h4 h5 hrd hf
      by_cases hj : jk = 0
      · subst hj
        have e1 : treK L M ns (k + 1) = s2 := by rw [HK1.out, if_pos rfl]
        have HE := show Hid _ from e1
        clear e1 HK1 c67
        go_wp2_with (first
          | (go_at_call 47; (with_reducible refine c66.mono ?_); rintro e u7 ⟨rfl, S7, C7, F7, V7⟩; have R7 := (RK.of_block (G1.block b RK.lt)).of_block (F7.blk b (Nat.lt_of_lt_of_le RK.lt G1.size) nSb); have r7 := R7.cell HL.out; rw [HJ.out] at r7))
        have F8 : FrC S u u7 := (FK.below G1).trans F7 VK
        have V8 : ∀ q, S7 q → S q ∨ u.heap.size ≤ q := fun q h => by
          rcases V7 q h with h1 | h1
          · exact VK q h1
          · right; have := FK.size; have := G1.size; omega
        have HP : Hid (TrI u p base b S (.slice sa L.length sc) (.map (some bi)) L M ns (.int .i64 ((k : Int) + 1)) u7) := ⟨k + 1, S7, HL.out, rfl, by rw [HE.out]; exact C7, F8, V8, R7⟩
        go_roundw
        case rel => exact HP.out
        case measure => have hlt := HL.out; simp [intOf]; omega
      · have hjn : (jk == 0) = false := beq_eq_false_iff_ne.2 hj
        have e1 : treK L M ns (k + 1) = jumpS s2 jk := by rw [HK1.out, if_neg hj]
        have HE := show Hid _ from e1
        clear e1 HK1 hj
        go_wp2_with (first
          | (go_at_call 47; (with_reducible refine c66.mono ?_); rintro e u7 ⟨rfl, S7, C7, F7, V7⟩; have R7 := (RK.of_block (G1.block b RK.lt)).of_block (F7.blk b (Nat.lt_of_lt_of_le RK.lt G1.size) nSb); have r7 := R7.cell HL.out; rw [HJ.out] at r7; have c8 := c67 S7 u7 C7)
          | (go_at_call 48; (with_reducible refine c8.mono ?_); rintro e u8 ⟨rfl, S8, C8, F9, V9⟩))
        have F8 : FrC S u u7 := (FK.below G1).trans F7 VK
        have V8 : ∀ q, S7 q → S q ∨ u.heap.size ≤ q := fun q h => by
          rcases V7 q h with h1 | h1
          · exact VK q h1
          · right; have := FK.size; have := G1.size; omega
        have nS7 : ¬ S7 b := fun h => by
          rcases V8 b h with h1 | h1
          · have := hS b h1; omega
          · omega
        have HP : Hid (TrI u p base b S (.slice sa L.length sc) (.map (some bi)) L M ns (.int .i64 ((k : Int) + 1)) u8) := ⟨k + 1, S8, HL.out, rfl, by rw [HE.out]; exact C8, F8.trans F9 V8, fun q h => by
          rcases V9 q h with h1 | h1
          · exact V8 q h1
          · right; have := F8.size; omega, R7.of_block (F9.blk b R7.lt nS7)⟩
        go_roundw
        case rel => exact HP.out
        case measure => have hlt := HL.out; simp [intOf]; omega
    · obtain rfl : k = ns.length := by omega
      have q : ¬ (ns.length : Int) < (ns.length : Int) := by omega
      clear hlt
      go_wp2
      refine bodyPost_end (results_none rfl _ _ _) rfl ⟨rfl, CStp.next (FrC.of gu) (fun q h => .inl h) ⟨S', CK, FK, VK⟩⟩

end Go.Proofs.YtnolbpekdikamaaGreatDoor
