/- For every script on two piles the law PilePlays returns true: step by step a pile answers as the document's does. No condition. -/
import Derived.Test.YtoheombjbndolabHpt
import Derived.Carry
import Derived.ChangeMaps5
import Derived.SizedLaws
import Derived.Lib.SmallJoins
import Derived.Deep.DeepHandedRow
namespace Go.Proofs.Ytoheombjbndolab.pilePlays
open Go.ChangeShapes Go.WideShapes Go.ChangeAt Go.RowKit Go.BigFrame
set_option linter.unusedVariables false
set_option linter.unusedSimpArgs false

/-- At the round i. -/
structure Ply (N : Nat) (w : World) (p q m n : Nat) (vi : Value) (wr : World) : Prop where
  ex : ∃ (i : Nat) (vp vq : Value) (Lp Lq : List (Ev × Nat)) (tp tq : Nat), i ≤ N ∧ vi = .int .i64 (i : Int) ∧ tp ≤ i ∧ tq ≤ i ∧ Two wr p q m n (p + 1) (q + 1) vp vq Lp Lq tp tq ∧ Below p w wr
set_option maxRecDepth 100000 in
set_option maxHeartbeats 4000000 in
theorem walk (ao : Option Addr) (cap : Nat) (l : List Opr) (w : World) (hsl : Sl ao l.length cap) (F : Flat w ao (fl opV l)) (hl : l.length * 104 ≤ 140737488351232) (ok : ∀ k, (fun _ => True) (l.getD k zeroO)) : Calls Try.prog 5 #[.slice ao l.length cap] w fun e w' => e = .returned (.bool true) ∧ Below w.heap.size w w' := by
  clear hsl ok
  have c1 := evNew w
  have P1 := evPa_new w
  have B1 := galloc (Below.refl w.heap.size w) (.cells #[.slice none 0 0, .int .i64 0] 61)
  have s1 : (w.alloc (.cells #[.slice none 0 0, .int .i64 0] 61)).heap.size = w.heap.size + 1 := Array.size_push _
  generalize w.alloc (.cells #[.slice none 0 0, .int .i64 0] 61) = W1 at *
  have c2 := evNew W1
  have Q2 := evPa_new W1
  have B2 := galloc (Below.refl W1.heap.size W1) (.cells #[.slice none 0 0, .int .i64 0] 61)
  have s2 : (W1.alloc (.cells #[.slice none 0 0, .int .i64 0] 61)).heap.size = W1.heap.size + 1 := Array.size_push _
  generalize W1.alloc (.cells #[.slice none 0 0, .int .i64 0] 61) = W2 at *
  have c3 := refNew W2
  have M3 := Mo_new W2
  have B3 := galloc (Below.refl W2.heap.size W2) (.cells #[.slice none 0 0] 78)
  have s3 : (W2.alloc (.cells #[.slice none 0 0] 78)).heap.size = W2.heap.size + 1 := Array.size_push _
  generalize W2.alloc (.cells #[.slice none 0 0] 78) = W3 at *
  have c4 := refNew W3
  have N4 := Mo_new W3
  have B4 := galloc (Below.refl W3.heap.size W3) (.cells #[.slice none 0 0] 78)
  generalize W3.alloc (.cells #[.slice none 0 0] 78) = W4 at *
  have TW : Two W4 w.heap.size W1.heap.size W2.heap.size W3.heap.size (w.heap.size + 1) (W1.heap.size + 1) (.slice none 0 0) (.slice none 0 0) [] [] 0 0 := ⟨((P1.keep B2).keep B3).keep B4, (Q2.keep B3).keep B4, M3.keep B4, N4, Nat.le_refl _, Nat.le_refl _, fun g e => by simp [Value.ownBlock] at e⟩
  have BW := gtrans (gtrans (gtrans B1 B2) B3) B4
  have h12 : w.heap.size < W1.heap.size := by omega
  have h23 : W1.heap.size < W2.heap.size := by omega
  have h34 : W2.heap.size < W3.heap.size := by omega
  clear P1 Q2 M3 N4 B1 B2 B3 B4 s1 s2 s3
  generalize hp : w.heap.size = p at *
  generalize W1.heap.size = q at *
  generalize W2.heap.size = m at *
  generalize W3.heap.size = n at *
  have hptr : ∀ (b : Nat) (W : World), (binOp .eql 24 (.pointer (some ⟨b, 0, none⟩)) (.pointer none)).run Try.prog W = .ok (.bool false) W := fun b W => by kernel_rfl
  go_enter Try.func5, Try.ntmps5
  go_upto_region 8 with (first
    | (go_at_call 7; (with_reducible refine c1.mono ?_); rintro e u1 ⟨rfl, hu⟩; have hu' := hu.symm; subst hu')
    | (go_at_call 7; (with_reducible refine c2.mono ?_); rintro e u2 ⟨rfl, hu⟩; have hu' := hu.symm; subst hu')
    | (go_at_call 22; (with_reducible refine c3.mono ?_); rintro e u3 ⟨rfl, hu⟩; have hu' := hu.symm; subst hu')
    | (go_at_call 22; (with_reducible refine c4.mono ?_); rintro e u4 ⟨rfl, hu⟩; have hu' := hu.symm; subst hu'))
  go_loopw [7, 8] (fun vi _ wr => Ply l.length w p q m n vi wr) (fun vi _ _ => l.length - (intOf vi).toNat)
  case atStart => exact ⟨0, _, _, [], [], 0, 0, Nat.zero_le _, rfl, Nat.le_refl _, Nat.le_refl _, TW, BW⟩
  case round =>
    obtain ⟨⟨i, vp, vq, Lp, Lq, tp, tq, hi, rfl, hp1, hq1, T, B⟩⟩ := hrel
    clear c1 c2 c3 c4 TW BW
    by_cases hlt : i < l.length
    · have B' : Below w.heap.size w wr := by rw [hp]; exact B
      obtain ⟨g, o, rfl, hgl, _⟩ := (F.keep B').form (by rw [fl_len opV_size]; omega)
      have rx := flat_range opV_size zeroO (F.keep B') i hlt
      generalize l.getD i zeroO = x at *
      have d1 : wr.cell? ⟨g, o + i * 13 + 1, none⟩ = some (.int .i64 x.pn) := rx 1 _ rfl
      have q1 : (i : Int) < (l.length : Int) := by omega
      have HT : Hid (i < l.length) := hlt
      have cP := step_any p m (p + 1) tp vp Lp wr T.P T.M T.pl (by omega) T.P.blk.lt x
      have cQ := step_any q n (q + 1) tq vq Lq wr T.Q T.N T.ql (by omega) T.Q.blk.lt x
      have lP := T.P.low
      have lQ := T.Q.low
      clear hlt
      cases hbb : (bits BinOp.and IntKind.i64 x.pn 1 == 1) with
      | true =>
        go_wp2_with (first
          | (refine wpList_load_mid rfl 56 _ rfl g (o + i * 13) rfl (opV x).toList _ rx Try.underlying56 rfl infoOp ?_)
          | (go_at_call 23; (with_reducible refine cQ.mono ?_); rintro e w5 ⟨rfl, S5⟩))
        go_roundw
        case rel =>
          have hlt : i < l.length := HT
          obtain ⟨v', L', t', ht', T', G'⟩ := T.swap.step (by omega) (by omega) S5
          exact ⟨i + 1, vp, v', Lp, L', tp, t', by omega, by go_num, by omega, by omega, T'.swap, G'.toBelow B (by omega) (by omega) (by omega) (fun g e => by have := (lQ g e).1; omega)⟩
        case measure => have hlt : i < l.length := HT; simp [intOf]; omega
      | false =>
        go_wp2_with (first
          | (refine wpList_load_mid rfl 56 _ rfl g (o + i * 13) rfl (opV x).toList _ rx Try.underlying56 rfl infoOp ?_)
          | (go_at_call 23; (with_reducible refine cP.mono ?_); rintro e w5 ⟨rfl, S5⟩))
        go_roundw
        case rel =>
          have hlt : i < l.length := HT
          obtain ⟨v', L', t', ht', T', G'⟩ := T.step (by omega) (by omega) S5
          exact ⟨i + 1, v', vq, L', Lq, t', tq, by omega, by go_num, by omega, by omega, T', G'.toBelow B (by omega) (by omega) (by omega) (fun g e => by have := (lP g e).1; omega)⟩
        case measure => have hlt : i < l.length := HT; simp [intOf]; omega
    · have hki : ¬ (i : Int) < (l.length : Int) := by omega
      have cP := evLenA p (p + 1) tp vp Lp wr T.P
      have cQ := evLenA q (q + 1) tq vq Lq wr T.Q
      have cM := refLen m (Lp.map Prod.fst) wr T.M
      have cN := refLen n (Lq.map Prod.fst) wr T.N
      rw [List.length_map] at cM cN
      clear hlt
      go_wp2_with (first
        | (go_at_call 24; (with_reducible refine cP.mono ?_); rintro e w5 ⟨rfl, hu5⟩; have hu5' := hu5.symm; subst hu5')
        | (go_at_call 24; (with_reducible refine cQ.mono ?_); rintro e w6 ⟨rfl, hu6⟩; have hu6' := hu6.symm; subst hu6')
        | (go_at_call 25; (with_reducible refine cM.mono ?_); rintro e w7 ⟨rfl, hu7⟩; have hu7' := hu7.symm; subst hu7')
        | (go_at_call 25; (with_reducible refine cN.mono ?_); rintro e w8 ⟨rfl, hu8⟩; have hu8' := hu8.symm; subst hu8'))
      go_ret
      exact ⟨rfl, B⟩

theorem own : ownKnob Try.prog.godebug = none := by kernel_rfl
theorem laidOut : laidOutB Try.prog = true := by kernel_rfl

set_option maxRecDepth 100000 in
theorem lifted (os : Os) (started : os.Started) (H : Type) (enc : TypeId × Value → H) :
    ReturnsInHanded {} Try.checked os 5 .any (Rows.pilePlaysSpec.pre6 enc Try.prog Try.f5 Rows.pilePlaysRow.domain false) (Rows.pilePlaysSpec.post enc Try.prog Try.f5 false true false false) := by
  refine returnsInHanded_of_change_sized (C := Try.checked) own started (by kernel_rfl) Try.func5
    (ChangeSpec.witness6 (enc := enc) (C := Try.checked) false ⟨#[], #[.slice none 0 0], []⟩ 8 (by kernel_rfl) (by kernel_rfl) (by kernel_rfl) (by kernel_rfl)) ?_
  intro W base args ds gs before hval0 hW hcnd hsz0 _
  have hsz : (DataW.weightsEach Try.prog (Try.f5.params.toList ++ Rows.pilePlaysSpec.plain.varTypes Try.prog) (ds ++ gs)).all (· ≤ reachBytes) = true := hsz0
  have hval : ∀ (j : Nat) t v, Try.f5.params[j]? = some t → args[j]? = some v → Value.okWide Try.prog W .any base t v := hval0
  have hW' := hW
  obtain ⟨p, q, hA0, hV, rfl, hfz, hnd⟩ := hW
  have hA : DataW.TrodAll enc Try.prog W 0 (fun _ => true) true Try.f5.params.toList args.toList ds p := hA0
  rw [Try.params5] at hA hval hsz
  obtain ⟨v0, vs0, d0, ds0, p0, q0, hargs, rfl, rfl, h0, r0⟩ := trodAll_cons hA
  obtain ⟨rfl, rfl, rfl⟩ := trodAll_nil r0
  obtain rfl : args = #[v0] := by cases args; simp_all
  obtain ⟨rfl, rfl⟩ := trodVars_none hV
  have k0 := h0
  have lt0 : ∀ x ∈ p0, x.block < W.heap.size := by obtain ⟨m, hm⟩ := k0; exact DataW.trod_lt m _ _ _ hm
  obtain ⟨ao0, cap0, l0, e0, wc0, w0, wr0, ws0⟩ : ∃ ao cap l, v0 = .slice ao (l : List Opr).length cap ∧ Sl ao l.length cap ∧ Flat W ao (fl opV l) ∧ l.length * 104 ≤ 140737488351232 ∧ ∀ k, (fun _ => True) (l.getD k zeroO) := by
    obtain ⟨a, len, cap, e⟩ := okWide_slice Try.underlying52 (hval 0 52 v0 rfl rfl)
    subst e
    obtain ⟨fuel, hf⟩ := h0
    have hf' : DataW.trod enc Try.prog W 0 (fun _ => true) true fuel 52 [.slice a len cap] = some (d0, p0) := hf
    exact open_oprow hf' (fun b hb => by
      have h1 := List.all_eq_true.1 hsz b (DataW.weights_mem_each (j := 0) (t := 52) rfl rfl b hb)
      simpa using h1)
  subst e0
  clear hA0 hval0
  refine (walk ao0 cap0 l0 W wc0 w0 wr0 ws0).mono fun e W' ⟨he, bel⟩ => ?_
  subst he
  exact ⟨_, rfl, _, _, _, [], _, [], hW', trodAll_mk1 (shut_bool Try.underlying4 _), (trodAll_cons_mk (Below.trod laidOut (by kernel_rfl) (of_decide_eq_true (by kernel_rfl)) k0 bel lt0) trodAll_mk0), rfl, bel.frame _, fun h => by cases h⟩

theorem over : Rows.pilePlaysRow.holds Try.pinned (OpenSpec.ofChange Rows.pilePlaysSpec) :=
  OpenClaim.holds_of_wide 5 Try.f5 rfl rfl rfl rfl rfl rfl rfl ⟨rfl, rfl, rfl, rfl, rfl⟩ rfl rfl rfl rfl rfl (by kernel_rfl) Try.func5 (by kernel_rfl)
    (of_decide_eq_true (by kernel_rfl)) (by unfold Func.isWrapper; first | (rw [if_pos (by decide +kernel)]; kernel_rfl) | (rw [if_neg (by decide +kernel)]; exact ⟨rfl, rfl⟩))
    (fun os started H enc _ => lifted os started H enc)

end Go.Proofs.Ytoheombjbndolab.pilePlays
namespace Go.Proofs.Ytoheombjbndolab
theorem pilePlays_holds : Rows.PilePlaysSaid := pilePlays.over
#print axioms pilePlays_holds
end Go.Proofs.Ytoheombjbndolab
