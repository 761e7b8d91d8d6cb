/- For every two capacities and every script the law GatePlays returns true: every answer of every script on two gates, in turns, is the document's; any of them may go on, at any time, as one that is restored from what it tells of itself. No condition. -/
import Derived.Test.YtoehkpejdpejcabGre
import Derived.Test.YtoehkpejdpejcabGrf
import Derived.Carry
import Derived.ChangeMaps5
import Derived.SizedLaws
import Derived.Lib.SmallJoins
import Derived.Deep.DeepHandedRow
namespace Go.Proofs.Ytoehkpejdpejcab.gatePlays
open Go.ChangeShapes Go.WideShapes Go.ChangeAt Go.RowKit Go.BigFrame Go.Maps
set_option linter.unusedVariables false
set_option linter.unusedSimpArgs false

/-- made, whatever the capacity; its pair laid in a new variable. -/
structure MkP (w : World) (cap : Int) (e : Ending) (u : World) : Prop where
  ex : ∃ (a b : Option Addr), e = .returned (.tuple #[.agg #[.pointer a, .pointer b, .int .i64 cap], .bool true]) ∧ Below w.heap.size w u ∧ ∀ X : World, X.heap.size = u.heap.size + 1 → Bk X u.heap.size #[.pointer a, .pointer b, .int .i64 cap] 26 → (∀ k, k < u.heap.size → X.heap[k]? = u.heap[k]?) → ∃ K, PO w.heap.size X u.heap.size cap 4096 K ∧ ∀ k, K k → w.heap.size ≤ k
theorem made_any (cap : Int) (w : World) : Calls Try.prog 7 #[.int .i64 cap] w fun e w' => MkP w cap e w' := by
  by_cases hc : cap < 1 ∨ 4096 < cap
  · refine (made_no hc w).mono ?_
    rintro e u ⟨rfl, B⟩
    exact ⟨none, none, rfl, B, fun X hz b hk => ⟨_, .inl ⟨b, B.size, rfl⟩, fun k e => by rw [e]; exact B.size⟩⟩
  · refine (made_yes (by omega) (by omega) w).mono ?_
    rintro e u ⟨g, m, S, rfl, G, M, lo, hm, B⟩
    refine ⟨some ⟨g, 0, none⟩, some ⟨m, 0, none⟩, rfl, B, fun X hz b hk => ⟨_, .inr ⟨g, m, S, _, ⟨b, (G.same (by omega) fun k e => hk k (G.lt k e)).mono (Nat.zero_le _), M.same fun k cs ty fr h _ => hk k (lt_of_block h), lo, hm, B.size⟩, rfl, rfl⟩, ?_⟩⟩
    rintro k (e | e | e)
    · exact lo k e
    · rw [e]; exact hm
    · rw [e]; exact B.size
theorem new_blk (u : World) (cs : Array Value) (t : TypeId) (hz : zPr.size = cs.size) : ((u.alloc (.cells zPr t)).setCells u.heap.size 0 cs.toList).heap.size = u.heap.size + 1 ∧ Bk ((u.alloc (.cells zPr t)).setCells u.heap.size 0 cs.toList) u.heap.size cs t ∧ ∀ k, k < u.heap.size → ((u.alloc (.cells zPr t)).setCells u.heap.size 0 cs.toList).heap[k]? = u.heap[k]? :=
  ⟨by rw [setCells_size]; exact Array.size_push _, (Bk.new u zPr t).setCells hz, fun k hk => by rw [setCells_blk _ _ _ _ k (by omega)]; exact Below.heap_alloc u _ k hk⟩
/-- At the round i. -/
structure Ply (N : Nat) (w : World) (n p q : Nat) (one two : Int) (vi : Value) (wr : World) : Prop where
  ex : ∃ (i : Nat) (K L : Nat → Prop), i ≤ n ∧ vi = .int .i64 (i : Int) ∧ PO N wr p one (4096 + i) K ∧ PO N wr q two (4096 + i) L ∧ (∀ k, L k → ¬ K k) ∧ Below N w wr
set_option maxRecDepth 100000 in
set_option maxHeartbeats 8000000 in
theorem walk (one : Int) (h1 : (Lit.int .i64 one).wf = true) (two : Int) (h2 : (Lit.int .i64 two).wf = true) (ao : Option Addr) (ca : Nat) (l : List Gop) (w : World) (hsl : Sl ao l.length ca) (F : Flat w ao (fl gopC l)) (hl : l.length * 112 ≤ 140737488351232) (ok : ∀ k, (fun o : Gop => o.e.ok) (l.getD k zeroGo)) : Calls Try.prog 3 #[.int .i64 one, .int .i64 two, .slice ao l.length ca] w fun e w' => e = .returned (.bool true) ∧ Below w.heap.size w w' := by
  clear hsl h1 h2
  have c1 := made_any one w
  have hptr : ∀ (b : Nat) (W : World), (binOp .eql 23 (.pointer (some ⟨b, 0, none⟩)) (.pointer none)).run Try.prog W = .ok (.bool false) W := fun b W => by kernel_rfl
  have hptr2 : ∀ (W : World), (binOp .eql 23 (.pointer none) (.pointer none)).run Try.prog W = .ok (.bool true) W := fun W => by kernel_rfl
  go_enter Try.func3, Try.ntmps3
  go_upto_region 2 with (first
    | (go_at_call 7; (with_reducible refine c1.mono ?_); rintro e u1 ⟨a1, b1, rfl, B1, X1⟩; have bz := Bk.new u1 zPr 26; have th := bz.there; have sx := pr_one a1 b1 one; have nb := new_blk u1 #[.pointer a1, .pointer b1, .int .i64 one] 26 rfl; generalize hY1 : (u1.alloc (.cells zPr 26)).setCells u1.heap.size 0 (#[.pointer a1, .pointer b1, .int .i64 one] : Array Value).toList = Y1 at *)
    | (refine wpList_store_mid rfl 26 _ _ rfl u1.heap.size 0 #[.pointer a1, .pointer b1, .int .i64 one] rfl rfl th infoPr sx ?_; rw [hY1]))
  obtain ⟨K, PK, Klo⟩ := X1 Y1 nb.1 nb.2.1 nb.2.2
  have BY1 : Below w.heap.size w Y1 := by
    rw [← hY1]
    exact gsetCells (galloc B1 _) B1.size _ _
  have c2 := made_any two Y1
  have hpz : u1.heap.size < Y1.heap.size := by rw [nb.1]; omega
  clear c1 X1 nb bz th hY1
  generalize u1.heap.size = p at *
  go_upto_region 5 with (first
    | (go_at_call 7; (with_reducible refine c2.mono ?_); rintro e u2 ⟨a2, b2, rfl, B2, X2⟩; have bz := Bk.new u2 zPr 26; have th := bz.there; have sx2 := pr_one a2 b2 two; have nb := new_blk u2 #[.pointer a2, .pointer b2, .int .i64 two] 26 rfl; generalize hY2 : (u2.alloc (.cells zPr 26)).setCells u2.heap.size 0 (#[.pointer a2, .pointer b2, .int .i64 two] : Array Value).toList = Y2 at *)
    | (refine wpList_store_mid rfl 26 _ _ rfl u2.heap.size 0 #[.pointer a2, .pointer b2, .int .i64 two] rfl rfl th infoPr sx2 ?_; rw [hY2]))
  obtain ⟨L, PL, Llo⟩ := X2 Y2 nb.1 nb.2.1 nb.2.2
  have BY2 : Below Y1.heap.size Y1 Y2 := by
    rw [← hY2]
    exact gsetCells (galloc B2 _) B2.size _ _
  have PK2 := PK.keep BY2
  have d0 : ∀ k, L k → ¬ K k := fun k e1 e2 => by have := PK.lt k e2; have := Llo k e1; omega
  have PL2 : PO w.heap.size Y2 u2.heap.size two 4096 L := by
    rcases PL with ⟨b, h, e⟩ | ⟨g, m, S, s, P, h, e⟩
    · exact .inl ⟨b, Nat.le_trans BY1.size h, e⟩
    · exact .inr ⟨g, m, S, s, ⟨P.blk, P.G, P.M, fun k e => Nat.le_trans BY1.size (P.lo k e), Nat.le_trans BY1.size P.lm, Nat.le_trans BY1.size P.lp⟩, h, e⟩
  have BW := gtrans BY1 BY2
  clear c2 X2 nb bz th hY2 PK PL Klo Llo BY1 BY2 B1 B2
  generalize u2.heap.size = q at *
  go_upto_region 8 with fail
  go_loopw [10, 11, 12, 13] (fun vi _ _ _ wr => Ply w.heap.size w l.length p q one two vi wr) (fun vi _ _ _ _ => l.length - (intOf vi).toNat)
  case atStart => exact ⟨0, K, L, Nat.zero_le _, rfl, PK2, PL2, d0, BW⟩
  case round =>
    obtain ⟨i, K, L, hi, rfl, PK, PL, d, B⟩ := hrel
    clear PK2 PL2 d0 BW
    by_cases hlt : i < l.length
    · obtain ⟨gl, o, rfl, hgl, _⟩ := (F.keep B).form (by rw [fl_len gop_size]; omega)
      have rx := flat_range gop_size zeroGo (F.keep B) i hlt
      have xok : (l.getD i zeroGo).e.ok := ok i
      generalize l.getD i zeroGo = x at *
      have sx := gop_one x
      have q1 : (i : Int) < (l.length : Int) := by omega
      have bz := Bk.new wr zGo 34
      have th := bz.there
      have b7 := bz.setCells (cs' := gopC x) rfl
      have G8 := gsetCells (galloc (Below.refl wr.heap.size wr) (.cells zGo 34)) (Nat.le_refl _) (gopC x).toList 0
      generalize hX3 : (wr.alloc (.cells zGo 34)).setCells wr.heap.size 0 (gopC x).toList = X3 at *
      have PK3 := PK.keep G8
      have PL3 := PL.keep G8
      have B3 := gtrans B G8
      have r7 := b7.range
      have dw : X3.cell? ⟨wr.heap.size, 1, none⟩ = some (.int .i64 x.wh) := cell_of_row X3 _ 1 _ _ _ b7
      have HT : Hid (i < l.length) := hlt
      clear hlt
      cases hw : (x.wh.tmod 2 != 0) with
      | false =>
        rcases id PK3 with ⟨b, _, _⟩ | ⟨g, m, S, s, P, hcp, hK⟩
        · have z0 := b.at3.1
          go_wp2_with (first
            | (refine wpList_load_mid rfl 34 _ rfl gl (o + i * 14) rfl (gopC x).toList _ rx Try.underlying34 rfl infoGop ?_)
            | (refine wpList_store_mid rfl 34 _ _ rfl wr.heap.size 0 (gopC x) rfl rfl th infoGop sx ?_; rw [hX3]))
          go_roundw
          case rel => have hlt : i < l.length := HT; exact ⟨i + 1, K, L, by omega, by go_num, PK3.mono (by omega), PL3.mono (by omega), d, B3⟩
          case measure => have hlt : i < l.length := HT; simp [intOf]; omega
        · have z0 := P.blk.at3.1
          have c5 := plays_any w.heap.size p g m (4096 + i) S s x X3 P B3.size (by omega) (by omega) xok
          go_wp2_with (first
            | (refine wpList_load_mid rfl 34 (.tmp 36) rfl gl (o + i * 14) rfl (gopC x).toList _ rx Try.underlying34 rfl infoGop ?_)
            | (refine wpList_store_mid rfl 34 _ _ rfl wr.heap.size 0 (gopC x) rfl rfl th infoGop sx ?_; rw [hX3])
            | (refine wpList_load_mid rfl 34 (.tmp 11) rfl wr.heap.size 0 rfl (gopC x).toList _ r7 Try.underlying34 rfl infoGop ?_)
            | (go_at_call 8; (with_reducible refine c5.mono ?_); rintro e u5 ⟨rfl, Q5⟩))
          go_roundw
          case rel =>
            have hlt : i < l.length := HT
            obtain ⟨PL5, K5, PK5, d5, B5⟩ := PL3.step P Q5 (fun k e1 e2 => d k e1 (by rw [hK]; exact e2)) B3.size
            exact ⟨i + 1, K5, L, by omega, by go_num, hcp ▸ PK5, PL5.mono (by omega), d5, B5 B3 (Nat.le_refl _)⟩
          case measure => have hlt : i < l.length := HT; simp [intOf]; omega
      | true =>
        rcases id PL3 with ⟨b, _, _⟩ | ⟨g, m, S, s, P, hcp, hK⟩
        · have z0 := b.at3.1
          go_wp2_with (first
            | (refine wpList_load_mid rfl 34 _ rfl gl (o + i * 14) rfl (gopC x).toList _ rx Try.underlying34 rfl infoGop ?_)
            | (refine wpList_store_mid rfl 34 _ _ rfl wr.heap.size 0 (gopC x) rfl rfl th infoGop sx ?_; rw [hX3]))
          go_roundw
          case rel => have hlt : i < l.length := HT; exact ⟨i + 1, K, L, by omega, by go_num, PK3.mono (by omega), PL3.mono (by omega), d, B3⟩
          case measure => have hlt : i < l.length := HT; simp [intOf]; omega
        · have z0 := P.blk.at3.1
          have c5 := plays_any w.heap.size q g m (4096 + i) S s x X3 P B3.size (by omega) (by omega) xok
          go_wp2_with (first
            | (refine wpList_load_mid rfl 34 (.tmp 36) rfl gl (o + i * 14) rfl (gopC x).toList _ rx Try.underlying34 rfl infoGop ?_)
            | (refine wpList_store_mid rfl 34 _ _ rfl wr.heap.size 0 (gopC x) rfl rfl th infoGop sx ?_; rw [hX3])
            | (refine wpList_load_mid rfl 34 (.tmp 11) rfl wr.heap.size 0 rfl (gopC x).toList _ r7 Try.underlying34 rfl infoGop ?_)
            | (go_at_call 8; (with_reducible refine c5.mono ?_); rintro e u5 ⟨rfl, Q5⟩))
          go_roundw
          case rel =>
            have hlt : i < l.length := HT
            obtain ⟨PK5, L5, PL5, d5, B5⟩ := PK3.step P Q5 (fun k e1 e2 => d k (by rw [hK]; exact e2) e1) B3.size
            exact ⟨i + 1, K, L5, by omega, by go_num, PK5.mono (by omega), hcp ▸ PL5, fun k e1 e2 => d5 k e2 e1, B5 B3 (Nat.le_refl _)⟩
          case measure => have hlt : i < l.length := HT; simp [intOf]; omega
    · have hki : ¬ (i : Int) < (l.length : Int) := by omega
      clear hlt
      go_wp2
      go_ret
      exact ⟨rfl, B⟩

theorem own : ownKnob Try.prog.godebug = none := by kernel_rfl
theorem laidOut : laidOutB Try.prog = true := by kernel_rfl

set_option maxRecDepth 100000 in
theorem lifted (os : Os) (started : os.Started) (H : Type) (enc : TypeId × Value → H) :
    ReturnsInHanded {} Try.checked os 3 .any (Rows.gatePlaysSpec.pre6 enc Try.prog Try.f3 Rows.gatePlaysRow.domain false) (Rows.gatePlaysSpec.post enc Try.prog Try.f3 false true false false) := by
  refine returnsInHanded_of_change_sized (C := Try.checked) own started (by kernel_rfl) Try.func3
    (ChangeSpec.witness6 (enc := enc) (C := Try.checked) false ⟨#[], #[.int .i64 0, .int .i64 0, .slice none 0 0], []⟩ 8 (by kernel_rfl) (by kernel_rfl) (by kernel_rfl) (by kernel_rfl)) ?_
  intro W base args ds gs before hval0 hW hcnd hsz0 _
  have hsz : (DataW.weightsEach Try.prog (Try.f3.params.toList ++ Rows.gatePlaysSpec.plain.varTypes Try.prog) (ds ++ gs)).all (· ≤ reachBytes) = true := hsz0
  have hval : ∀ (j : Nat) t v, Try.f3.params[j]? = some t → args[j]? = some v → Value.okWide Try.prog W .any base t v := hval0
  have hW' := hW
  obtain ⟨p, q, hA0, hV, rfl, hfz, hnd⟩ := hW
  have hA : DataW.TrodAll enc Try.prog W 0 (fun _ => true) true Try.f3.params.toList args.toList ds p := hA0
  rw [Try.params3] at hA hval hsz
  obtain ⟨v0, vs0, d0, ds0, p0, q0, hargs, rfl, rfl, h0, r0⟩ := trodAll_cons hA
  obtain ⟨v1, vs1, d1, ds1, p1, q1, rfl, rfl, rfl, h1, r1⟩ := trodAll_cons r0
  obtain ⟨v2, vs2, d2, ds2, p2, q2, rfl, rfl, rfl, h2, r2⟩ := trodAll_cons r1
  obtain ⟨rfl, rfl, rfl⟩ := trodAll_nil r2
  obtain rfl : args = #[v0, v1, v2] := by cases args; simp_all
  obtain ⟨rfl, rfl⟩ := trodVars_none hV
  have k0 := h0
  have lt0 : ∀ x ∈ p0, x.block < W.heap.size := by obtain ⟨m, hm⟩ := k0; exact DataW.trod_lt m _ _ _ hm
  obtain ⟨a0, e0, _, _, w0⟩ := open_int Try.underlying3 (hval 0 3 v0 rfl rfl) h0
  subst e0
  have k1 := h1
  have lt1 : ∀ x ∈ p1, x.block < W.heap.size := by obtain ⟨m, hm⟩ := k1; exact DataW.trod_lt m _ _ _ hm
  obtain ⟨a1, e1, _, _, w1⟩ := open_int Try.underlying3 (hval 1 3 v1 rfl rfl) h1
  subst e1
  have k2 := h2
  have lt2 : ∀ x ∈ p2, x.block < W.heap.size := by obtain ⟨m, hm⟩ := k2; exact DataW.trod_lt m _ _ _ hm
  obtain ⟨ao2, cap2, l2, e2, wc2, w2, wr2, ws2⟩ : ∃ ao cap l, v2 = .slice ao (l : List Gop).length cap ∧ Sl ao l.length cap ∧ Flat W ao (fl gopC l) ∧ l.length * 112 ≤ 140737488351232 ∧ ∀ k, (fun o : Gop => o.e.ok) (l.getD k zeroGo) := by
    obtain ⟨a, len, cap, e⟩ := okWide_slice Try.underlying22 (hval 2 22 v2 rfl rfl)
    subst e
    obtain ⟨fuel, hf⟩ := h2
    have hf' : DataW.trod enc Try.prog W 0 (fun _ => true) true fuel 22 [.slice a len cap] = some (d2, p2) := hf
    exact open_goprow hf' (fun b hb => by
      have h1 := List.all_eq_true.1 hsz b (DataW.weights_mem_each (j := 2) (t := 22) rfl rfl b hb)
      simpa using h1)
  subst e2
  clear hA0 hval0
  refine (walk a0 w0 a1 w1 ao2 cap2 l2 W wc2 w2 wr2 ws2).mono fun e W' ⟨he, bel⟩ => ?_
  subst he
  exact ⟨_, rfl, _, _, _, [], _, [], hW', trodAll_mk1 (shut_bool Try.underlying4 _), (trodAll_cons_mk (Below.trod laidOut (by kernel_rfl) (of_decide_eq_true (by kernel_rfl)) k0 bel lt0) (trodAll_cons_mk (Below.trod laidOut (by kernel_rfl) (of_decide_eq_true (by kernel_rfl)) k1 bel lt1) (trodAll_cons_mk (Below.trod laidOut (by kernel_rfl) (of_decide_eq_true (by kernel_rfl)) k2 bel lt2) trodAll_mk0))), rfl, bel.frame _, fun h => by cases h⟩

theorem over : Rows.gatePlaysRow.holds Try.pinned (OpenSpec.ofChange Rows.gatePlaysSpec) :=
  OpenClaim.holds_of_wide 3 Try.f3 rfl rfl rfl rfl rfl rfl rfl ⟨rfl, rfl, rfl, rfl, rfl⟩ rfl rfl rfl rfl rfl (by kernel_rfl) Try.func3 (by kernel_rfl)
    (of_decide_eq_true (by kernel_rfl)) (by unfold Func.isWrapper; first | (rw [if_pos (by decide +kernel)]; kernel_rfl) | (rw [if_neg (by decide +kernel)]; exact ⟨rfl, rfl⟩))
    (fun os started H enc _ => lifted os started H enc)

end Go.Proofs.Ytoehkpejdpejcab.gatePlays
namespace Go.Proofs.Ytoehkpejdpejcab
theorem gatePlays_holds : Rows.GatePlaysSaid := gatePlays.over
#print axioms gatePlays_holds
end Go.Proofs.Ytoehkpejdpejcab
