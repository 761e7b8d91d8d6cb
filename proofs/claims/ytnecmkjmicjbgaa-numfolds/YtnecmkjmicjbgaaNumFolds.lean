/- For every operator and every list of int64 the law NumFolds returns true: Fold is the document's, of every list, nil too; the list stays as it is. No condition. -/
import Derived.Test.YtnecmkjmicjbgaaRefFold
import Derived.Test.YtnecmkjmicjbgaaExt
import Derived.Deep.Cut
import Derived.OpenShut
import Derived.Carry
import Derived.SizedLaws
import Derived.Lib.SmallJoins
import Derived.Laws.AppendOwnNone
import Derived.OwnWalk
namespace Go.Proofs.Ytnecmkjmicjbgaa.numFolds
open Go.ChangeShapes Go.WideShapes Go.ChangeAt Go.RowKit Go.BigFrame
set_option linter.unusedVariables false
set_option linter.unusedSimpArgs false

theorem info : (Try.prog.info? 2).map (fun i => (i.zero, i.size, i.bytes)) = some (some (.int .i64 0), 1, 8) := by kernel_rfl

set_option maxHeartbeats 2000000 in
theorem walk_long (op : Int) (ao : Option Addr) (len cap : Nat) (w : World) (hl : 2147483647 < len) (h2 : len ≤ 9223372036854775807) :
    Calls Try.prog 5 #[.int .i64 op, .slice ao len cap] w fun e w' => e = .returned (.bool true) ∧ Below w.heap.size w w' := by
  go_enter Try.func5, Try.ntmps5
  go_wp2
  go_ret
  exact ⟨rfl, Below.refl _ _⟩

set_option maxHeartbeats 1000000 in
theorem walk_some (op : Int) (ad : Addr) (len cap : Nat) (zs : List Int) (w : World) (h : IsRow w (some ad) len zs) (hl : len ≤ 2147483647) :
    Calls Try.prog 5 #[.int .i64 op, .slice (some ad) len cap] w fun e w' => e = .returned (.bool true) ∧ Below w.heap.size w w' := by
  obtain ⟨i0, hi, hz0, hz1, hz2⟩ := info_parts info
  have hG : Below w.heap.size w (w.alloc (.cells #[] 2)) := galloc (Below.refl _ _) _
  have hnews := isRow_news (h.keep hG)
  have hlen : zs.length = len := h.1
  have hone := ints_one zs
  have hnl : (zs.map (Value.int .i64)).length = len * 1 := by simp [hlen]
  have hHl : Hid (len ≤ 2147483647) := hl
  go_enter Try.func5, Try.ntmps5
  go_upto_region 4 with (at_builtin; refine wpList_append_own _ rfl (.tmp 12) (.tmp 13) 22 rfl w.heap.size 2 i0 (.int .i64 0) 1 8 Try.underlying22 hi hz0 hz1 hz2 rfl (by decide) _ _ _ rfl (own_empty w 2) ad len cap (zs.map (Value.int .i64)) rfl hnl hnews hone ?c3 ?c4 ?c5 ?_)
  case c3 => unfold maxLen; omega
  case c4 => omega
  case c5 => simp
  intro v' w1 hown hgrow _
  try simp only [Nat.zero_add, List.nil_append] at hown
  obtain ⟨ao', cap', rfl, hrow', hblk, hcap'⟩ := isRow_own hown h.2.2.1
  have B : Below w.heap.size w w1 := hG.grown hgrow (by simp) (by intro k e; simp [Value.ownBlock] at e; omega)
  clear hgrow
  obtain ⟨k1, n1, H1, c1⟩ : ∃ k n, Hid (k = foldK op zs ∧ n = foldN op zs) ∧ ∀ w, IsRow w (some ad) len zs → Calls Try.prog 6 #[.int .i64 op, .slice (some ad) len cap] w (fun e w' => e = .returned (.agg #[.bool k, .int .i64 n]) ∧ Below w.heap.size w w') := ⟨_, _, ⟨rfl, rfl⟩, fun w hr => fold_any op _ len cap zs w hr⟩
  obtain ⟨k2, n2, H2, c2⟩ : ∃ k n, Hid (k = foldK op [] ∧ n = foldN op []) ∧ ∀ w, Calls Try.prog 6 #[.int .i64 op, .slice none 0 0] w (fun e w' => e = .returned (.agg #[.bool k, .int .i64 n]) ∧ Below w.heap.size w w') := ⟨_, _, ⟨rfl, rfl⟩, fun w => fold_any op _ 0 0 [] w (IsRow.nil _ _)⟩
  have d1 : ∀ w, IsRow w ao' len zs → Calls Try.prog 9 #[.int .i64 op, .slice ao' len cap'] w (fun e w' => e = .returned (.agg #[.bool k1, .int .i64 n1]) ∧ Below w.heap.size w w') := fun w hr => by rw [H1.out.1, H1.out.2]; exact refFold_any op _ len cap' zs w hr hl
  have d2 : ∀ w, Calls Try.prog 9 #[.int .i64 op, .slice none 0 0] w (fun e w' => e = .returned (.agg #[.bool k2, .int .i64 n2]) ∧ Below w.heap.size w w') := fun w => by rw [H2.out.1, H2.out.2]; exact refFold_any op _ 0 0 [] w (IsRow.nil _ _) (by omega)
  clear H1 H2
  replace h := h.keep B
  have G := Below.refl w1.heap.size w1
  go_upto_region 5 with (go_at_call 6; refine (c1 _ h).mono ?_; rintro e u0 ⟨rfl, g⟩; replace G := gtrans G g; obtain ⟨hc, hf⟩ := bcell G)
  replace h := (h.keep G).keep (galloc (Below.refl _ _) (.cells #[.bool k1, .int .i64 n1] 24))
  replace hrow' := (hrow'.keep G).keep (galloc (Below.refl _ _) (.cells #[.bool k1, .int .i64 n1] 24))
  replace B := galloc (gtrans B G) (.cells #[.bool k1, .int .i64 n1] 24)
  have V := Two.new u0 (.bool k1) (.int .i64 n1) 24
  clear G hc hf g c1
  generalize hV1 : u0.alloc (.cells #[.bool k1, .int .i64 n1] 24) = V1 at h hrow' B V ⊢
  generalize hb1 : u0.heap.size = bv at V ⊢
  clear hV1 hb1
  have G := Below.refl V1.heap.size V1
  go_upto_region 6 with (go_at_call 6; refine (c2 _).mono ?_; rintro e u1 ⟨rfl, g⟩; replace G := gtrans G g; obtain ⟨hc, hf⟩ := bcell G)
  replace h := (h.keep G).keep (galloc (Below.refl _ _) (.cells #[.bool k2, .int .i64 n2] 24))
  replace hrow' := (hrow'.keep G).keep (galloc (Below.refl _ _) (.cells #[.bool k2, .int .i64 n2] 24))
  replace B := galloc (gtrans B G) (.cells #[.bool k2, .int .i64 n2] 24)
  replace V := (V.keep G).alloc (.cells #[.bool k2, .int .i64 n2] 24)
  have Z := Two.new u1 (.bool k2) (.int .i64 n2) 24
  clear G hc hf g c2
  generalize hV2 : u1.alloc (.cells #[.bool k2, .int .i64 n2] 24) = V2 at h hrow' B V Z ⊢
  generalize hb2 : u1.heap.size = bz at Z ⊢
  clear hV2 hb2
  go_wp2
  go_loopw [8] (fun i wr => ∃ k : Nat, k ≤ len ∧ i = .int .i64 k ∧ Below V2.heap.size V2 wr) (fun i _ => len - (intOf i).toNat)
  case atStart => exact ⟨0, Nat.zero_le _, rfl, Below.refl _ _⟩
  case round =>
    obtain ⟨k, hk, rfl, G⟩ := hrel
    by_cases hlt : k < len
    · obtain ⟨q1, q2, q3, q4⟩ := h.keep G
      obtain ⟨r1, r2, r3, r4⟩ := hrow'.keep G
      rcases q4 with q4 | ⟨b, off, eb, hb, hcb⟩
      · omega
      rcases r4 with r4 | ⟨b2, off2, eb2, hb2, hcb2⟩
      · omega
      simp only [Option.some.injEq] at eb
      subst eb
      subst eb2
      obtain ⟨x, hx⟩ : ∃ x, x = zs.getD k 0 := ⟨_, rfl⟩
      have f1 : wr.cell? ⟨b, off + k, none⟩ = some (.int .i64 x) := by rw [hcb k hlt, hx]
      have f2 : wr.cell? ⟨b2, off2 + k, none⟩ = some (.int .i64 x) := by rw [hcb2 k hlt, hx]
      clear hcb hcb2 hx q3 r3 d1 d2
      go_wp2
      go_region
      all_goals
        go_wp2
        go_roundw
        case rel => exact ⟨k + 1, by omega, by go_num, G.drew⟩
        case measure => simp [intOf]; omega
    · obtain rfl : k = len := by omega
      replace hrow' := hrow'.keep G
      replace V := V.keep G
      replace Z := Z.keep G
      replace B := gtrans B G
      clear h G
      have xv0 := fun (n : Ext wr) => (n.cell _ _ V.lt).trans V.at0
      have xv1 := fun (n : Ext wr) => (n.cell _ _ V.lt).trans V.at1
      have xz0 := fun (n : Ext wr) => (n.cell _ _ Z.lt).trans Z.at0
      have xz1 := fun (n : Ext wr) => (n.cell _ _ Z.lt).trans Z.at1
      have hne : Nonempty (Ext wr) := ⟨⟨_, Below.refl _ _⟩⟩
      have y1 := fun (n : Ext wr) => ext_of (d1 n.X (hrow'.keep n.h))
      have y2 := fun (n : Ext wr) => ext_of (d2 n.X)
      clear d1 d2
      go_wp2
      refine wp_region_ext (by kernel_rfl) (by kernel_rfl) ?_
      repeat (go_big_quiet_step (first | (go_at_call 9; with_reducible exact y1 _) | (go_at_call 9; with_reducible exact y2 _)))
      refine wpQuiet_nil ?_
      intro _ hw'
      obtain ⟨nxw, hw''⟩ := hw'
      subst hw''
      go_wp2
      go_ret
      exact ⟨rfl, gtrans B nxw.h⟩

set_option maxHeartbeats 1000000 in
theorem walk_none (op : Int) (w : World) :
    Calls Try.prog 5 #[.int .i64 op, .slice none 0 0] w fun e w' => e = .returned (.bool true) ∧ Below w.heap.size w w' := by
  obtain ⟨i0, hi, hz0, hz1, hz2⟩ := info_parts info
  have hG : Below w.heap.size w (w.alloc (.cells #[] 2)) := galloc (Below.refl _ _) _
  have h : IsRow w none 0 [] := IsRow.nil _ _
  go_enter Try.func5, Try.ntmps5
  go_upto_region 4 with (at_builtin; refine wpList_append_own_none rfl (.tmp 12) (.tmp 13) 22 rfl w.heap.size 2 i0 1 Try.underlying22 hi _ _ _ rfl (own_empty w 2) rfl ?_)
  obtain ⟨ao', hao⟩ : ∃ ao', ao' = some (⟨w.heap.size, 0, none⟩ : Addr) := ⟨_, rfl⟩
  rw [← hao]
  clear hao
  have hrow' : IsRow (w.alloc (.cells #[] 2)) ao' 0 [] := IsRow.nil _ _
  have B := hG
  clear hG
  generalize (w.alloc (.cells #[] 2)) = w1 at hrow' B ⊢
  obtain ⟨k1, n1, H1, c1⟩ : ∃ k n, Hid (k = foldK op [] ∧ n = foldN op []) ∧ ∀ w, IsRow w none 0 [] → Calls Try.prog 6 #[.int .i64 op, .slice none 0 0] w (fun e w' => e = .returned (.agg #[.bool k, .int .i64 n]) ∧ Below w.heap.size w w') := ⟨_, _, ⟨rfl, rfl⟩, fun w hr => fold_any op _ 0 0 [] w hr⟩
  obtain ⟨k2, n2, H2, c2⟩ : ∃ k n, Hid (k = foldK op [] ∧ n = foldN op []) ∧ ∀ w, Calls Try.prog 6 #[.int .i64 op, .slice none 0 0] w (fun e w' => e = .returned (.agg #[.bool k, .int .i64 n]) ∧ Below w.heap.size w w') := ⟨_, _, ⟨rfl, rfl⟩, fun w => fold_any op _ 0 0 [] w (IsRow.nil _ _)⟩
  have d1 : ∀ w, IsRow w ao' 0 [] → Calls Try.prog 9 #[.int .i64 op, .slice ao' 0 0] w (fun e w' => e = .returned (.agg #[.bool k1, .int .i64 n1]) ∧ Below w.heap.size w w') := fun w hr => by rw [H1.out.1, H1.out.2]; exact refFold_any op _ 0 0 [] w hr (by omega)
  have d2 : ∀ w, Calls Try.prog 9 #[.int .i64 op, .slice none 0 0] w (fun e w' => e = .returned (.agg #[.bool k2, .int .i64 n2]) ∧ Below w.heap.size w w') := fun w => by rw [H2.out.1, H2.out.2]; exact refFold_any op _ 0 0 [] w (IsRow.nil _ _) (by omega)
  clear H1 H2
  replace h := h.keep B
  have G := Below.refl w1.heap.size w1
  go_upto_region 5 with (go_at_call 6; refine (c1 _ h).mono ?_; rintro e u0 ⟨rfl, g⟩; replace G := gtrans G g; obtain ⟨hc, hf⟩ := bcell G)
  replace h := (h.keep G).keep (galloc (Below.refl _ _) (.cells #[.bool k1, .int .i64 n1] 24))
  replace hrow' := (hrow'.keep G).keep (galloc (Below.refl _ _) (.cells #[.bool k1, .int .i64 n1] 24))
  replace B := galloc (gtrans B G) (.cells #[.bool k1, .int .i64 n1] 24)
  have V := Two.new u0 (.bool k1) (.int .i64 n1) 24
  clear G hc hf g c1
  generalize hV1 : u0.alloc (.cells #[.bool k1, .int .i64 n1] 24) = V1 at h hrow' B V ⊢
  generalize hb1 : u0.heap.size = bv at V ⊢
  clear hV1 hb1
  have G := Below.refl V1.heap.size V1
  go_upto_region 6 with (go_at_call 6; refine (c2 _).mono ?_; rintro e u1 ⟨rfl, g⟩; replace G := gtrans G g; obtain ⟨hc, hf⟩ := bcell G)
  replace h := (h.keep G).keep (galloc (Below.refl _ _) (.cells #[.bool k2, .int .i64 n2] 24))
  replace hrow' := (hrow'.keep G).keep (galloc (Below.refl _ _) (.cells #[.bool k2, .int .i64 n2] 24))
  replace B := galloc (gtrans B G) (.cells #[.bool k2, .int .i64 n2] 24)
  replace V := (V.keep G).alloc (.cells #[.bool k2, .int .i64 n2] 24)
  have Z := Two.new u1 (.bool k2) (.int .i64 n2) 24
  clear G hc hf g c2
  generalize hV2 : u1.alloc (.cells #[.bool k2, .int .i64 n2] 24) = V2 at h hrow' B V Z ⊢
  generalize hb2 : u1.heap.size = bz at Z ⊢
  clear hV2 hb2
  go_wp2
  go_loopw [8] (fun i wr => ∃ k : Nat, k ≤ 0 ∧ i = .int .i64 k ∧ Below V2.heap.size V2 wr) (fun i _ => 0 - (intOf i).toNat)
  case atStart => exact ⟨0, Nat.zero_le _, rfl, Below.refl _ _⟩
  case round =>
    obtain ⟨k, hk, rfl, G⟩ := hrel
    by_cases hlt : k < 0
    · exact absurd hlt (Nat.not_lt_zero _)
    · obtain rfl : k = 0 := by omega
      replace hrow' := hrow'.keep G
      replace V := V.keep G
      replace Z := Z.keep G
      replace B := gtrans B G
      clear h G
      have xv0 := fun (n : Ext wr) => (n.cell _ _ V.lt).trans V.at0
      have xv1 := fun (n : Ext wr) => (n.cell _ _ V.lt).trans V.at1
      have xz0 := fun (n : Ext wr) => (n.cell _ _ Z.lt).trans Z.at0
      have xz1 := fun (n : Ext wr) => (n.cell _ _ Z.lt).trans Z.at1
      have hne : Nonempty (Ext wr) := ⟨⟨_, Below.refl _ _⟩⟩
      have y1 := fun (n : Ext wr) => ext_of (d1 n.X (hrow'.keep n.h))
      have y2 := fun (n : Ext wr) => ext_of (d2 n.X)
      clear d1 d2
      go_wp2
      refine wp_region_ext (by kernel_rfl) (by kernel_rfl) ?_
      repeat (go_big_quiet_step (first | (go_at_call 9; with_reducible exact y1 _) | (go_at_call 9; with_reducible exact y2 _)))
      refine wpQuiet_nil ?_
      intro _ hw'
      obtain ⟨nxw, hw''⟩ := hw'
      subst hw''
      go_wp2
      go_ret
      exact ⟨rfl, gtrans B nxw.h⟩

theorem walk (op : Int) (w0 : (Lit.int .i64 op).wf = true) (ao : Option Addr) (len cap : Nat) (zs : List Int) (w : World) (h : IsRow w ao len zs) (hn : ao = none → cap = 0) (hr : len * 8 ≤ 140737488351232) :
    Calls Try.prog 5 #[.int .i64 op, .slice ao len cap] w fun e w' => e = .returned (.bool true) ∧ Below w.heap.size w w' := by
  by_cases hl : len ≤ 2147483647
  · cases ao with
    | none =>
      have e1 := hn rfl
      have e2 : len = 0 := by
        rcases h.2.2.2 with e | ⟨b, off, e, _⟩
        · exact e
        · simp at e
      subst e1 e2
      exact walk_none op w
    | some ad => exact walk_some op ad len cap zs w h hl
  · exact walk_long op ao len cap w (by omega) (by omega)

theorem own : ownKnob Try.prog.godebug = none := by kernel_rfl
theorem laidOut : laidOutB Try.prog = true := by kernel_rfl
theorem bytesI : Try.prog.bytesOf 2 = 8 := by kernel_rfl

set_option maxRecDepth 100000 in
theorem lifted (os : Os) (started : os.Started) (H : Type) (enc : TypeId × Value → H) :
    ReturnsInHanded {} Try.checked os 5 .any (Rows.numFoldsSpec.pre6 enc Try.prog Try.f5 Rows.numFoldsRow.domain false) (Rows.numFoldsSpec.post enc Try.prog Try.f5 false true false false) := by
  refine returnsInHanded_of_change_sized (C := Try.checked) own started (by kernel_rfl) Try.func5
    (ChangeSpec.witness6 (enc := enc) (C := Try.checked) false ⟨#[], #[.int .i64 0, .slice none 0 0], []⟩ 8 (by kernel_rfl) (by kernel_rfl) (by kernel_rfl) (by kernel_rfl)) ?_
  intro W base args ds gs before hval0 hW hcnd hsz0 _
  have hsz : (DataW.weightsEach Try.prog (Try.f5.params.toList ++ Rows.numFoldsSpec.plain.varTypes Try.prog) (ds ++ gs)).all (· ≤ reachBytes) = true := hsz0
  have hval : ∀ (j : Nat) t v, Try.f5.params[j]? = some t → args[j]? = some v → Value.okWide Try.prog W .any base t v := hval0
  have hW' := hW
  obtain ⟨p, q, hA0, hV, rfl, hfz, hnd⟩ := hW
  have hA : DataW.TrodAll enc Try.prog W 0 (fun _ => true) true Try.f5.params.toList args.toList ds p := hA0
  rw [Try.params5] at hA hval hsz
  obtain ⟨v0, vs0, d0, ds0, p0, q0, hargs, rfl, rfl, h0, r0⟩ := trodAll_cons hA
  obtain ⟨v1, vs1, d1, ds1, p1, q1, rfl, rfl, rfl, h1, r1⟩ := trodAll_cons r0
  obtain ⟨rfl, rfl, rfl⟩ := trodAll_nil r1
  obtain rfl : args = #[v0, v1] := by cases args; simp_all
  obtain ⟨rfl, rfl⟩ := trodVars_none hV
  have k0 := h0
  have lt0 : ∀ x ∈ p0, x.block < W.heap.size := by obtain ⟨m, hm⟩ := k0; exact DataW.trod_lt m _ _ _ hm
  obtain ⟨a0, e0, _, _, w0⟩ := open_int Try.underlying3 (hval 0 3 v0 rfl rfl) h0
  subst e0
  have k1 := h1
  have lt1 : ∀ x ∈ p1, x.block < W.heap.size := by obtain ⟨m, hm⟩ := k1; exact DataW.trod_lt m _ _ _ hm
  obtain ⟨a1, len1, cap1, e1⟩ := okWide_slice Try.underlying22 (hval 1 22 v1 rfl rfl)
  subst e1
  obtain ⟨z1, w1, n1, s1⟩ : ∃ zs, IsRow W a1 len1 zs ∧ (a1 = none → cap1 = 0) ∧ len1 * 8 ≤ 140737488351232 := by
    obtain ⟨fuel, hf⟩ := h1
    rcases open_ints Try.underlying22 Try.underlying2 (by kernel_rfl) hf with ⟨hcs, _⟩ | ⟨x, l, c, zs, hcs, _, hl, hm, hz, hx, hcell, hwz⟩
    · simp [Value.cells] at hcs
      obtain ⟨rfl, rfl, rfl⟩ := hcs
      exact ⟨[], IsRow.nil _ _, fun _ => rfl, by omega⟩
    · simp [Value.cells] at hcs
      obtain ⟨rfl, rfl, rfl⟩ := hcs
      simp only [if_true] at hz
      simp only [Prod.mk.injEq] at hx
      have hrc := sized_slice hsz (j := 1) (t := 22) (e := 2) rfl (congrArg some hx.1) Try.underlying22
      rw [bytesI] at hrc
      simp only [lits, List.length_map, List.length_take, List.length_drop, reachBytes] at hrc
      exact ⟨zs.take len1, isRow_open hl hm hz hcell hwz, fun e => by simp at e, by omega⟩
  clear hA0 hval0
  refine (walk a0 w0 a1 len1 cap1 z1 W w1 n1 s1).mono fun e W' ⟨he, bel⟩ => ?_
  subst he
  exact ⟨_, rfl, _, _, _, [], _, [], hW', trodAll_mk1 (shut_bool Try.underlying4 _), (trodAll_cons_mk (Below.trod laidOut (by kernel_rfl) (of_decide_eq_true (by kernel_rfl)) k0 bel lt0) (trodAll_cons_mk (Below.trod laidOut (by kernel_rfl) (of_decide_eq_true (by kernel_rfl)) k1 bel lt1) trodAll_mk0)), rfl, bel.frame _, fun h => by cases h⟩

theorem over : Rows.numFoldsRow.holds Try.pinned (OpenSpec.ofChange Rows.numFoldsSpec) :=
  OpenClaim.holds_of_wide 5 Try.f5 rfl rfl rfl rfl rfl rfl rfl ⟨rfl, rfl, rfl, rfl, rfl⟩ rfl rfl rfl rfl rfl (by kernel_rfl) Try.func5 (by kernel_rfl)
    (of_decide_eq_true (by kernel_rfl)) (by unfold Func.isWrapper; first | (rw [if_pos (by decide +kernel)]; kernel_rfl) | (rw [if_neg (by decide +kernel)]; exact ⟨rfl, rfl⟩))
    (fun os started H enc _ => lifted os started H enc)

end Go.Proofs.Ytnecmkjmicjbgaa.numFolds
namespace Go.Proofs.Ytnecmkjmicjbgaa
theorem numFolds_holds : Rows.NumFoldsSaid := numFolds.over
#print axioms numFolds_holds
end Go.Proofs.Ytnecmkjmicjbgaa
