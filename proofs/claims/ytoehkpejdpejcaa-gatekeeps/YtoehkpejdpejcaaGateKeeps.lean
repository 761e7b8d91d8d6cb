/- For every capacity and every script the law GateKeeps returns true: refused calls change nothing: a script that is played without the steps that were refused lets the same through, at the same steps, and holds the same at its end. No condition. -/
import Derived.Test.YtoehkpejdpejcaaGla
import Derived.Carry
import Derived.ChangeMaps5
import Derived.SizedLaws
import Derived.Lib.SmallJoins
import Derived.Deep.DeepHandedRow
import Derived.Deep.RegionHeld3
namespace Go.Proofs.Ytoehkpejdpejcaa.gateKeeps
open Go.ChangeShapes Go.WideShapes Go.ChangeAt Go.RowKit Go.BigFrame Go.Maps
set_option linter.unusedVariables false
set_option linter.unusedSimpArgs false

/-- At the round i. -/
structure Rnd (N : Nat) (w : World) (n g h : Nat) (vi : Value) (wr : World) : Prop where
  ex : ∃ (i t : Nat) (S R : Nat → Prop) (s : Gs), i ≤ n ∧ vi = .int .i64 (i : Int) ∧ t ≤ 2 * i + 2 ∧ Gt2 N wr g h S R s s t ∧ Below N w wr
set_option maxRecDepth 100000 in
set_option maxHeartbeats 8000000 in
theorem walk (cap : Int) (hcap : (Lit.int .i64 cap).wf = true) (ao : Option Addr) (ca : Nat) (l : List Gop) (w : World) (hsl : Sl ao l.length ca) (F : Flat w ao (fl gopC l)) (hl : l.length * 112 ≤ 140737488351232) (ok : ∀ k, (fun o : Gop => o.e.ok) (l.getD k zeroGo)) : Calls Try.prog 6 #[.int .i64 cap, .slice ao l.length ca] w fun e w' => e = .returned (.bool true) ∧ Below w.heap.size w w' := by
  clear hsl hcap
  by_cases hc : cap < 1 ∨ 4096 < cap
  · have cN1 := fun u : World => new_no hc u
    by_cases h1 : cap < 1
    · clear hc
      go_enter Try.func6, Try.ntmps6
      go_wp2_with (first
        | (go_at_call 9; (with_reducible refine (cN1 w).mono ?_); rintro e u1 ⟨rfl, g1⟩)
        | (go_at_call 9; (with_reducible refine (cN1 u1).mono ?_); rintro e u2 ⟨rfl, g2⟩))
      go_ret
      exact ⟨rfl, gtrans g1 g2⟩
    · have h2 : 4096 < cap := by omega
      clear hc
      go_enter Try.func6, Try.ntmps6
      go_wp2_with (first
        | (go_at_call 9; (with_reducible refine (cN1 w).mono ?_); rintro e u1 ⟨rfl, g1⟩)
        | (go_at_call 9; (with_reducible refine (cN1 u1).mono ?_); rintro e u2 ⟨rfl, g2⟩))
      go_ret
      exact ⟨rfl, gtrans g1 g2⟩
  have h1 : 1 ≤ cap := by omega
  have h2 : cap ≤ 4096 := by omega
  have cN1 := fun u : World => new_yes h1 h2 u
  have fok : okN (-1152921504606846976) 0 := ⟨by omega, by omega, by omega, by omega⟩
  have hC0 : Gs.pushC ⟨cap, -1152921504606846977, false, []⟩ (mkE (-1152921504606846976) 0) = 0 := by
    unfold Gs.pushC
    rw [if_neg (by simp), if_neg (by simp [mkE]), if_neg (by simp [mkE]), if_neg (by simp [hasN]), if_neg (by simp; omega)]
  have hptr : ∀ (b : Nat) (W : World), (binOp .eql 22 (.pointer (some ⟨b, 0, none⟩)) (.pointer none)).run Try.prog W = .ok (.bool false) W := fun b W => by kernel_rfl
  clear hc
  go_enter Try.func6, Try.ntmps6
  go_upto_region 8 with (first
    | (go_at_call 9; (with_reducible refine (cN1 w).mono ?_); rintro e u1 ⟨g, S0, rfl, G1, Sg, Slo, g1⟩)
    | (go_at_call 9; (with_reducible refine (cN1 u1).mono ?_); rintro e u2 ⟨h, R0, rfl, H2, Rh, Rlo, g2⟩; have T2 : Gt2 w.heap.size u2 g h S0 R0 ⟨cap, -1152921504606846977, false, []⟩ ⟨cap, -1152921504606846977, false, []⟩ 0 := ⟨G1.keep g2, H2, fun k e1 e2 => by have := G1.lt k e1; have := Rlo k e2; omega, Slo, fun k e => Nat.le_trans g1.size (Rlo k e)⟩; have B2 := gtrans g1 g2; have c3 := push_mk g 0 S0 _ _ _ 0 u2 T2.G fok (by omega) hC0)
    | (go_at_call 10; (with_reducible refine c3.mono ?_); rintro e u3 ⟨rfl, P3⟩; obtain ⟨S1, T3, F3⟩ := T2.step B2.size P3 (Nat.zero_le _); have B3 := F3.toBelow B2 (Nat.le_refl _) T2.lo; have c4 := push_mk h 1 R0 _ _ _ 0 u3 T3.H fok (by omega) hC0)
    | (go_at_call 10; (with_reducible refine c4.mono ?_); rintro e u4 ⟨rfl, P4⟩; obtain ⟨R1, T4, F4⟩ := T3.stepR B3.size P4 (Nat.le_succ _); have B4 := F4.toBelow B3 (Nat.le_refl _) T3.lo'))
  clear c3 c4 cN1 hptr
  go_loopw [9, 10, 79] (fun vi _ _ wr => Rnd w.heap.size w l.length g h vi wr) (fun vi _ _ _ => l.length - (intOf vi).toNat)
  case atStart => exact ⟨0, 2, S1, R1, _, Nat.zero_le _, rfl, Nat.le_refl _, T4, B4⟩
  case round =>
    obtain ⟨i, t, S, R, s, hi, rfl, ht, T, B⟩ := hrel
    clear T2 T3 T4 B2 B3 B4 F3 F4 P3 P4 G1 H2 Sg Slo Rh Rlo g1 g2 fok hC0
    by_cases hlt : i < l.length
    · obtain ⟨gl, o, rfl, hgl, _⟩ := (F.keep B).form (by rw [fl_len gop_size]; omega)
      have rx := flat_range gop_size zeroGo (F.keep B) i hlt
      have xok : (l.getD i zeroGo).e.ok := ok i
      generalize l.getD i zeroGo = x at *
      have sx := gop_one x
      have q1 : (i : Int) < (l.length : Int) := by omega
      have bz := Bk.new wr zGo 54
      have th := bz.there
      have b7 := bz.setCells (cs' := gopC x) rfl
      have G8 := gsetCells (galloc (Below.refl wr.heap.size wr) (.cells zGo 54)) (Nat.le_refl _) (gopC x).toList 0
      generalize hX3 : (wr.alloc (.cells zGo 54)).setCells wr.heap.size 0 (gopC x).toList = X3 at *
      have T3 := T.keep G8
      have B3 := gtrans B G8
      have r7 := gop_range b7.range
      have dk : X3.cell? ⟨wr.heap.size, 0, none⟩ = some (.int .i64 x.kd) := cell_of_row X3 _ 0 _ _ _ b7
      have dm : X3.cell? ⟨wr.heap.size, 13, none⟩ = some (.int .i64 x.m) := cell_of_row X3 _ 13 _ _ _ b7
      have HT : Hid (i < l.length) := hlt
      clear hlt
      by_cases k1 : x.kd = 1
      · rw [k1] at dk
        have c5 := push_any g t S s x.e X3 T3.G xok (by omega)
        by_cases hC : s.pushC x.e = 0
        · rw [hC] at c5
          go_upto_region 14 with (first
            | (refine wpList_load_mid rfl 54 _ rfl gl (o + i * 14) rfl (gopC x).toList _ rx Try.underlying54 rfl infoGop ?_)
            | (refine wpList_store_mid rfl 54 _ _ rfl wr.heap.size 0 (gopC x) rfl rfl th infoGop sx ?_; rw [hX3])
            | (refine wpList_load_mid rfl 30 _ rfl wr.heap.size 2 rfl (evC x.e).toList _ r7 Try.underlying30 rfl infoEv ?_)
            | (go_at_call 10; (with_reducible refine c5.mono ?_); rintro e u5 ⟨rfl, P5⟩))
          obtain ⟨S5, T5, F5⟩ := T3.step B3.size P5 (Nat.le_succ _)
          have B5 := F5.toBelow B3 (Nat.le_refl _) T3.lo
          have r8 := gop_range (F5.loc T3.G b7 (by decide) (by decide) (by decide)).range
          have c6 := push_any h (t + 1) R s x.e u5 T5.H xok (by omega)
          rw [hC] at c6
          clear c5
          go_wp2_with (first
            | (refine wpList_load_midw rfl 30 _ rfl wr.heap.size 2 rfl (evC x.e) _ r8 Try.underlying30 rfl infoEv ?_)
            | (go_at_call 10; (with_reducible refine c6.mono ?_); rintro e u6 ⟨rfl, P6⟩))
          obtain ⟨R6, T6, F6⟩ := T5.stepR B5.size P6 (Nat.le_succ _)
          have B6 := F6.toBelow B5 (Nat.le_refl _) T5.lo'
          go_roundw
          case rel => have hlt : i < l.length := HT; exact ⟨i + 1, t + 2, S5, R6, _, by omega, by go_num, by omega, T6, B6⟩
          case measure => have hlt : i < l.length := HT; simp [intOf]; omega
        · have hC' : (s.pushC x.e == 0) = false := beq_eq_false_iff_ne.2 hC
          rw [Gs.push_no hC] at c5
          clear hC
          go_wp2_with (first
            | (refine wpList_load_mid rfl 54 _ rfl gl (o + i * 14) rfl (gopC x).toList _ rx Try.underlying54 rfl infoGop ?_)
            | (refine wpList_store_mid rfl 54 _ _ rfl wr.heap.size 0 (gopC x) rfl rfl th infoGop sx ?_; rw [hX3])
            | (refine wpList_load_mid rfl 30 _ rfl wr.heap.size 2 rfl (evC x.e).toList _ r7 Try.underlying30 rfl infoEv ?_)
            | (go_at_call 10; (with_reducible refine c5.mono ?_); rintro e u5 ⟨rfl, P5⟩))
          obtain ⟨S5, T5, F5⟩ := T3.step B3.size P5 (Nat.le_succ _)
          have B5 := F5.toBelow B3 (Nat.le_refl _) T3.lo
          go_roundw
          case rel => have hlt : i < l.length := HT; exact ⟨i + 1, t + 1, S5, R, _, by omega, by go_num, by omega, T5, B5⟩
          case measure => have hlt : i < l.length := HT; simp [intOf]; omega
      have k1' : (x.kd == 1) = false := beq_eq_false_iff_ne.2 k1
      by_cases k2 : x.kd = 2
      · rw [k2] at dk
        have c5 := adv_any g t S s x.m X3 T3.G
        have hll := Gs.advL_len T3.G.1 x.m
        by_cases hC : s.advC x.m = 0
        · rw [hC] at c5
          go_upto_region 18 with (first
            | (refine wpList_load_mid rfl 54 _ rfl gl (o + i * 14) rfl (gopC x).toList _ rx Try.underlying54 rfl infoGop ?_)
            | (refine wpList_store_mid rfl 54 _ _ rfl wr.heap.size 0 (gopC x) rfl rfl th infoGop sx ?_; rw [hX3])
            | (go_at_call 12; (with_reducible refine c5.mono ?_); rintro e u5 ⟨a5, cp5, rfl, P5⟩))
          obtain ⟨S5, T5, F5⟩ := T3.step B3.size P5.step (Nat.le_refl _)
          have B5 := F5.toBelow B3 (Nat.le_refl _) T3.lo
          have b8 := F5.loc T3.G b7 (by decide) (by decide) (by decide)
          have dm5 : u5.cell? ⟨wr.heap.size, 13, none⟩ = some (.int .i64 x.m) := cell_of_row u5 _ 13 _ _ _ b8
          have c6 := adv_any h t R s x.m u5 T5.H
          rw [hC] at c6
          clear c5
          go_upto_region 20 with (first
            | (go_at_call 12; (with_reducible refine c6.mono ?_); rintro e u6 ⟨a6, cp6, rfl, P6⟩))
          obtain ⟨R6, T6, F6⟩ := T5.stepR B5.size P6.step (Nat.le_refl _)
          have B6 := F6.toBelow B5 (Nat.le_refl _) T5.lo'
          have O5 := F6.own T5.H P5.own (by decide) (by decide) (by decide)
          have c7 := sameEvents_true a5 a6 cp5 cp6 (s.advL x.m) u6 (own_flat O5) (own_flat P6.own) (by omega)
          clear c6
          go_wp2_with (first
            | (go_at_call 15; (with_reducible refine c7.mono ?_); rintro e u7 ⟨rfl, g7⟩))
          go_roundw
          case rel => have hlt : i < l.length := HT; exact ⟨i + 1, t, S5, R6, _, by omega, by go_num, by omega, T6.keep g7, gtrans B6 g7⟩
          case measure => have hlt : i < l.length := HT; simp [intOf]; omega
        · have hC' : (s.advC x.m == 0) = false := beq_eq_false_iff_ne.2 hC
          rw [(Gs.adv_no hC).1, (Gs.adv_no hC).2] at c5
          clear hC
          go_wp2_with (first
            | (refine wpList_load_mid rfl 54 _ rfl gl (o + i * 14) rfl (gopC x).toList _ rx Try.underlying54 rfl infoGop ?_)
            | (refine wpList_store_mid rfl 54 _ _ rfl wr.heap.size 0 (gopC x) rfl rfl th infoGop sx ?_; rw [hX3])
            | (go_at_call 12; (with_reducible refine c5.mono ?_); rintro e u5 ⟨a5, cp5, rfl, P5⟩))
          obtain ⟨S5, T5, F5⟩ := T3.step B3.size P5.step (Nat.le_refl _)
          have B5 := F5.toBelow B3 (Nat.le_refl _) T3.lo
          go_roundw
          case rel => have hlt : i < l.length := HT; exact ⟨i + 1, t, S5, R, _, by omega, by go_num, by omega, T5, B5⟩
          case measure => have hlt : i < l.length := HT; simp [intOf]; omega
      have k2' : (x.kd == 2) = false := beq_eq_false_iff_ne.2 k2
      by_cases k3 : x.kd = 3
      · rw [k3] at dk
        have c5 := flu_any g t S s X3 T3.G
        have hll := Gs.fluL_len T3.G.1
        by_cases hC : s.fluC = 0
        · rw [hC] at c5
          go_upto_region 24 with (first
            | (refine wpList_load_mid rfl 54 _ rfl gl (o + i * 14) rfl (gopC x).toList _ rx Try.underlying54 rfl infoGop ?_)
            | (refine wpList_store_mid rfl 54 _ _ rfl wr.heap.size 0 (gopC x) rfl rfl th infoGop sx ?_; rw [hX3])
            | (go_at_call 16; (with_reducible refine c5.mono ?_); rintro e u5 ⟨a5, cp5, rfl, P5⟩))
          obtain ⟨S5, T5, F5⟩ := T3.step B3.size P5.step (Nat.le_refl _)
          have B5 := F5.toBelow B3 (Nat.le_refl _) T3.lo
          have c6 := flu_any h t R s u5 T5.H
          rw [hC] at c6
          clear c5
          go_upto_region 26 with (first
            | (go_at_call 16; (with_reducible refine c6.mono ?_); rintro e u6 ⟨a6, cp6, rfl, P6⟩))
          obtain ⟨R6, T6, F6⟩ := T5.stepR B5.size P6.step (Nat.le_refl _)
          have B6 := F6.toBelow B5 (Nat.le_refl _) T5.lo'
          have O5 := F6.own T5.H P5.own (by decide) (by decide) (by decide)
          have c7 := sameEvents_true a5 a6 cp5 cp6 s.fluL u6 (own_flat O5) (own_flat P6.own) (by omega)
          clear c6
          go_wp2_with (first
            | (go_at_call 15; (with_reducible refine c7.mono ?_); rintro e u7 ⟨rfl, g7⟩))
          go_roundw
          case rel => have hlt : i < l.length := HT; exact ⟨i + 1, t, S5, R6, _, by omega, by go_num, by omega, T6.keep g7, gtrans B6 g7⟩
          case measure => have hlt : i < l.length := HT; simp [intOf]; omega
        · have hC' : (s.fluC == 0) = false := beq_eq_false_iff_ne.2 hC
          rw [(Gs.flu_no hC).1, (Gs.flu_no hC).2] at c5
          clear hC
          go_wp2_with (first
            | (refine wpList_load_mid rfl 54 _ rfl gl (o + i * 14) rfl (gopC x).toList _ rx Try.underlying54 rfl infoGop ?_)
            | (refine wpList_store_mid rfl 54 _ _ rfl wr.heap.size 0 (gopC x) rfl rfl th infoGop sx ?_; rw [hX3])
            | (go_at_call 16; (with_reducible refine c5.mono ?_); rintro e u5 ⟨a5, cp5, rfl, P5⟩))
          obtain ⟨S5, T5, F5⟩ := T3.step B3.size P5.step (Nat.le_refl _)
          have B5 := F5.toBelow B3 (Nat.le_refl _) T3.lo
          go_roundw
          case rel => have hlt : i < l.length := HT; exact ⟨i + 1, t, S5, R, _, by omega, by go_num, by omega, T5, B5⟩
          case measure => have hlt : i < l.length := HT; simp [intOf]; omega
      have k3' : (x.kd == 3) = false := beq_eq_false_iff_ne.2 k3
      go_wp2_with (first
        | (refine wpList_load_mid rfl 54 _ rfl gl (o + i * 14) rfl (gopC x).toList _ rx Try.underlying54 rfl infoGop ?_)
        | (refine wpList_store_mid rfl 54 _ _ rfl wr.heap.size 0 (gopC x) rfl rfl th infoGop sx ?_; rw [hX3]))
      go_roundw
      case rel => have hlt : i < l.length := HT; exact ⟨i + 1, t, S, R, s, by omega, by go_num, by omega, T3, B3⟩
      case measure => have hlt : i < l.length := HT; simp [intOf]; omega
    · have hki : ¬ (i : Int) < (l.length : Int) := by omega
      have Gd := (Below.refl wr.heap.size wr).drew
      have TD := T.keep Gd
      obtain ⟨p1, dp1, cl1⟩ := TD.G.pile
      obtain ⟨p2, dp2, cl2⟩ := TD.H.pile
      have cm1 := mark_any g t S s wr.drew TD.G
      have cm2 := mark_any h t R s wr.drew TD.H
      have cc1 := closed_any g t S s wr.drew TD.G
      have cc2 := closed_any h t R s wr.drew TD.H
      have cn1 := cl1 wr.drew (Below.refl _ _)
      have cn2 := cl2 wr.drew (Below.refl _ _)
      have ch1 := held_any g t S s wr.drew TD.G
      have hll := TD.G.1.len'
      have hS0 : wr.drew.cell? ⟨g, 0, none⟩ = some (.pointer (some ⟨p1, 0, none⟩)) ∧ wr.drew.cell? ⟨h, 0, none⟩ = some (.pointer (some ⟨p2, 0, none⟩)) := ⟨dp1, dp2⟩
      have hSn : ∀ Y, Below wr.drew.heap.size wr.drew Y → Y.cell? ⟨g, 0, none⟩ = some (.pointer (some ⟨p1, 0, none⟩)) ∧ Y.cell? ⟨h, 0, none⟩ = some (.pointer (some ⟨p2, 0, none⟩)) := fun Y G => ⟨(G.cell (p := ⟨g, 0, none⟩) (TD.G.lt g TD.G.self)).trans dp1, (G.cell (p := ⟨h, 0, none⟩) (TD.H.lt h TD.H.self)).trans dp2⟩
      clear cl1 cl2 hlt
      go_upto_region 28 with fail
      go_region_held3 (fun Y : World => Y.cell? ⟨g, 0, none⟩ = some (.pointer (some ⟨p1, 0, none⟩)) ∧ Y.cell? ⟨h, 0, none⟩ = some (.pointer (some ⟨p2, 0, none⟩))) (first | (with_reducible exact hS0) | (with_reducible exact hS1) | (with_reducible exact hS2) | (with_reducible exact hS3) | go_keep) (first
        | (go_at_call 18; (with_reducible refine cm1.mono ?_); rintro _ v1 ⟨rfl, rfl⟩)
        | (go_at_call 18; (with_reducible refine cm2.mono ?_); rintro _ v2 ⟨rfl, rfl⟩)
        | (go_at_call 20; (with_reducible refine cc1.mono ?_); rintro _ v3 ⟨rfl, rfl⟩)
        | (go_at_call 20; (with_reducible refine cc2.mono ?_); rintro _ v4 ⟨rfl, rfl⟩)
        | (go_at_call 11; (with_reducible refine cn1.mono ?_); rintro _ v5 ⟨rfl, rfl⟩)
        | (go_at_call 11; (with_reducible refine cn2.mono ?_); rintro _ v6 ⟨rfl, rfl⟩)
        | (go_at_call 19; (with_reducible refine ch1.mono ?_); rintro _ v7 ⟨z7, rfl, O7, g7⟩; have hS1 := hSn _ g7; have ch2 := held_any h t R s v7 (TD.H.keep g7))
        | (go_at_call 19; (with_reducible refine ch2.mono ?_); rintro _ v8 ⟨z8, rfl, O8, g8⟩; have hS2 := hSn _ (gtrans g7 g8); have c9 := sameEvents_true (some ⟨z7, 0, none⟩) (some ⟨z8, 0, none⟩) s.l.length s.l.length s.l v8 (own_flat (own_keep O7 g8)) (own_flat O8) (by omega))
        | (go_at_call 15; (with_reducible refine c9.mono ?_); rintro _ v9 ⟨rfl, g9⟩; have hS3 := hSn _ (gtrans (gtrans g7 g8) g9); have fin := gtrans (gtrans (gtrans (gtrans B Gd) g7) g8) g9))
      all_goals
        go_wp2
        go_ret
        exact ⟨by simp, fin⟩

theorem own : ownKnob Try.prog.godebug = none := by kernel_rfl
theorem laidOut : laidOutB Try.prog = true := by kernel_rfl

set_option maxRecDepth 100000 in
theorem lifted (os : Os) (started : os.Started) (H : Type) (enc : TypeId × Value → H) :
    ReturnsInHanded {} Try.checked os 6 .any (Rows.gateKeepsSpec.pre6 enc Try.prog Try.f6 Rows.gateKeepsRow.domain false) (Rows.gateKeepsSpec.post enc Try.prog Try.f6 false true false false) := by
  refine returnsInHanded_of_change_sized (C := Try.checked) own started (by kernel_rfl) Try.func6
    (ChangeSpec.witness6 (enc := enc) (C := Try.checked) false ⟨#[], #[.int .i64 0, .slice none 0 0], []⟩ 8 (by kernel_rfl) (by kernel_rfl) (by kernel_rfl) (by kernel_rfl)) ?_
  intro W base args ds gs before hval0 hW hcnd hsz0 _
  have hsz : (DataW.weightsEach Try.prog (Try.f6.params.toList ++ Rows.gateKeepsSpec.plain.varTypes Try.prog) (ds ++ gs)).all (· ≤ reachBytes) = true := hsz0
  have hval : ∀ (j : Nat) t v, Try.f6.params[j]? = some t → args[j]? = some v → Value.okWide Try.prog W .any base t v := hval0
  have hW' := hW
  obtain ⟨p, q, hA0, hV, rfl, hfz, hnd⟩ := hW
  have hA : DataW.TrodAll enc Try.prog W 0 (fun _ => true) true Try.f6.params.toList args.toList ds p := hA0
  rw [Try.params6] at hA hval hsz
  obtain ⟨v0, vs0, d0, ds0, p0, q0, hargs, rfl, rfl, h0, r0⟩ := trodAll_cons hA
  obtain ⟨v1, vs1, d1, ds1, p1, q1, rfl, rfl, rfl, h1, r1⟩ := trodAll_cons r0
  obtain ⟨rfl, rfl, rfl⟩ := trodAll_nil r1
  obtain rfl : args = #[v0, v1] := by cases args; simp_all
  obtain ⟨rfl, rfl⟩ := trodVars_none hV
  have k0 := h0
  have lt0 : ∀ x ∈ p0, x.block < W.heap.size := by obtain ⟨m, hm⟩ := k0; exact DataW.trod_lt m _ _ _ hm
  obtain ⟨a0, e0, _, _, w0⟩ := open_int Try.underlying3 (hval 0 3 v0 rfl rfl) h0
  subst e0
  have k1 := h1
  have lt1 : ∀ x ∈ p1, x.block < W.heap.size := by obtain ⟨m, hm⟩ := k1; exact DataW.trod_lt m _ _ _ hm
  obtain ⟨ao1, cap1, l1, e1, wc1, w1, wr1, ws1⟩ : ∃ ao cap l, v1 = .slice ao (l : List Gop).length cap ∧ Sl ao l.length cap ∧ Flat W ao (fl gopC l) ∧ l.length * 112 ≤ 140737488351232 ∧ ∀ k, (fun o : Gop => o.e.ok) (l.getD k zeroGo) := by
    obtain ⟨a, len, cap, e⟩ := okWide_slice Try.underlying52 (hval 1 52 v1 rfl rfl)
    subst e
    obtain ⟨fuel, hf⟩ := h1
    have hf' : DataW.trod enc Try.prog W 0 (fun _ => true) true fuel 52 [.slice a len cap] = some (d1, p1) := hf
    exact open_goprow hf' (fun b hb => by
      have h1 := List.all_eq_true.1 hsz b (DataW.weights_mem_each (j := 1) (t := 52) rfl rfl b hb)
      simpa using h1)
  subst e1
  clear hA0 hval0
  refine (walk a0 w0 ao1 cap1 l1 W wc1 w1 wr1 ws1).mono fun e W' ⟨he, bel⟩ => ?_
  subst he
  exact ⟨_, rfl, _, _, _, [], _, [], hW', trodAll_mk1 (shut_bool Try.underlying4 _), (trodAll_cons_mk (Below.trod laidOut (by kernel_rfl) (of_decide_eq_true (by kernel_rfl)) k0 bel lt0) (trodAll_cons_mk (Below.trod laidOut (by kernel_rfl) (of_decide_eq_true (by kernel_rfl)) k1 bel lt1) trodAll_mk0)), rfl, bel.frame _, fun h => by cases h⟩

theorem over : Rows.gateKeepsRow.holds Try.pinned (OpenSpec.ofChange Rows.gateKeepsSpec) :=
  OpenClaim.holds_of_wide 6 Try.f6 rfl rfl rfl rfl rfl rfl rfl ⟨rfl, rfl, rfl, rfl, rfl⟩ rfl rfl rfl rfl rfl (by kernel_rfl) Try.func6 (by kernel_rfl)
    (of_decide_eq_true (by kernel_rfl)) (by unfold Func.isWrapper; first | (rw [if_pos (by decide +kernel)]; kernel_rfl) | (rw [if_neg (by decide +kernel)]; exact ⟨rfl, rfl⟩))
    (fun os started H enc _ => lifted os started H enc)

end Go.Proofs.Ytoehkpejdpejcaa.gateKeeps
namespace Go.Proofs.Ytoehkpejdpejcaa
theorem gateKeeps_holds : Rows.GateKeepsSaid := gateKeeps.over
#print axioms gateKeeps_holds
end Go.Proofs.Ytoehkpejdpejcaa
