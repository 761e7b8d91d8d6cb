/- For every capacity, mark, truth, list, event and further mark the law GateRestores returns true: Restore of whatever it is given answers the document's code; what it makes tells, and lets through, just that; the list and the room behind it stay. No condition. -/
import Derived.Test.YtjfbbfmnghccdaaGrg
import Derived.Test.YtjfbbfmnghccdaaGrh
import Derived.Carry
import Derived.ChangeMaps5
import Derived.SizedLaws
import Derived.Lib.SmallJoins
import Derived.Deep.DeepHandedRow
namespace Go.Proofs.Ytjfbbfmnghccdaa.gateRestores
open Go.ChangeShapes Go.WideShapes Go.ChangeAt Go.RowKit Go.BigFrame Go.Maps
set_option linter.unusedVariables false
set_option linter.unusedSimpArgs false

theorem big_room {n k : Nat} (h : n * 88 ≤ 140737488351232) (hk : k ≤ 9) : ((n + k) + (n + k) / 4 + 192) * 88 ≤ 281474976710656 := by omega
/-- The event that lies behind at the place i. -/
def bhd (i : Nat) : Ev := mkE (-9) i
def bhds : Nat → List Ev
  | 0 => []
  | n + 1 => bhds n ++ [bhd n]
theorem bhds_len : ∀ n, (bhds n).length = n
  | 0 => rfl
  | n + 1 => by unfold bhds; rw [List.length_append, bhds_len n]; rfl
theorem bhds_get : ∀ {n i : Nat}, i < n → (bhds n).getD i zrEv = bhd i
  | n + 1, i, h => by
    unfold bhds
    rw [List.getD_eq_getElem?_getD]
    by_cases e : i = n
    · subst e
      rw [List.getElem?_append_right (by rw [bhds_len]; omega), bhds_len, Nat.sub_self]; rfl
    · rw [List.getElem?_append_left (by rw [bhds_len]; omega), ← List.getD_eq_getElem?_getD]
      exact bhds_get (by omega)
/-- At the round i of what is laid behind. -/
structure Lay (w u : World) (held : List Ev) (vr vi : Value) (wr : World) : Prop where
  ex : ∃ (i : Nat) (ar : Option Addr) (cr : Nat), i ≤ 9 ∧ vi = .int .i64 (i : Int) ∧ vr = .slice ar (held.length + i) cr ∧ wr.ownsRow u.heap.size 29 11 (.slice ar (held.length + i) cr) (held.length + i) (fl evC (held ++ bhds i)) ∧ Below u.heap.size u wr
theorem wpList_conv {P : Program} {w : World} {ops : Array Oper} {rest : List Oper} {o : Oper} {a : Act} {Q : Exit → Act → World → Prop} (hgd : o.guard = none) {T U : TypeId} (x : Operand) {v0 v : Value} (ho : o.op = .convert T U x) (h0 : a.eval x = v0) (hr : (convert T U v0).run P w = .ok v w)
    (h : wpList P ops Q rest (a.put o.dst v) w) : wpList P ops Q (o :: rest) a w := by
  refine wpList_plain hgd fun K hK => ?_
  unfold Oper.wp execOp
  simp only [ho, h0, Sem.run_bind, hr, Result.andThen_ok, Sem.run_pure]
  exact hK _ _ h
theorem conv_u64 {i : Nat} (hi : i < 9) (w : World) : (convert 3 26 (.int .i64 (i : Int))).run Try.prog w = .ok (.int .u64 (i : Int)) w := by
  rcases (show i = 0 ∨ i = 1 ∨ i = 2 ∨ i = 3 ∨ i = 4 ∨ i = 5 ∨ i = 6 ∨ i = 7 ∨ i = 8 by omega) with rfl | rfl | rfl | rfl | rfl | rfl | rfl | rfl | rfl <;> kernel_rfl
theorem wpList_build2 {P : Program} {w : World} {ops : Array Oper} {rest : List Oper} {o : Oper} {a : Act} {Q : Exit → Act → World → Prop} (hgd : o.guard = none) {T : TypeId} (x0 x1 : Operand) {v0 v1 v : Value} {f0 f1 : Nat} (ho : o.op = .build T #[(f0, x0), (f1, x1)]) (h0 : a.eval x0 = v0) (h1 : a.eval x1 = v1) (hr : (Instr.build T #[(f0, v0), (f1, v1)]).run P w = .ok v w)
    (h : wpList P ops Q rest (a.put o.dst v) w) : wpList P ops Q (o :: rest) a w := by
  refine wpList_plain hgd fun K hK => ?_
  unfold Oper.wp execOp
  simp only [ho, List.map_toArray, List.map_cons, List.map_nil, h0, h1, Sem.run_bind, hr, Result.andThen_ok, Sem.run_pure]
  exact hK _ _ h
theorem flatPre {w : World} {ao : Option Addr} {xs ys : List Value} (h : Flat w ao (xs ++ ys)) : Flat w ao xs := fun j u hj => h j u (by rw [List.getElem?_append_left (List.getElem?_eq_some_iff.1 hj).1]; exact hj)
theorem new_blk (u : World) (cs : Array Value) (t : TypeId) (hz : zPr.size = cs.size) : ((u.alloc (.cells zPr t)).setCells u.heap.size 0 cs.toList).heap.size = u.heap.size + 1 ∧ Bk ((u.alloc (.cells zPr t)).setCells u.heap.size 0 cs.toList) u.heap.size cs t ∧ ∀ k, k < u.heap.size → ((u.alloc (.cells zPr t)).setCells u.heap.size 0 cs.toList).heap[k]? = u.heap[k]? :=
  ⟨by rw [setCells_size]; exact Array.size_push _, (Bk.new u zPr t).setCells hz, fun k hk => by rw [setCells_blk _ _ _ _ k (by omega)]; exact Below.heap_alloc u _ k hk⟩
theorem wpList_bldO {P : Program} {w : World} {ops : Array Oper} {rest : List Oper} {o : Oper} {a : Act} {Q : Exit → Act → World → Prop} (hgd : o.guard = none) {T : TypeId} (x0 : Operand) {v0 v : Value} {f0 : Nat} (ho : o.op = .build T #[(f0, x0)]) (h0 : a.eval x0 = v0) (hr : (Instr.build T #[(f0, v0)]).run P w = .ok v w)
    (h : wpList P ops Q rest (a.put o.dst v) w) : wpList P ops Q (o :: rest) a w := by
  refine wpList_plain hgd fun K hK => ?_
  unfold Oper.wp execOp
  simp only [ho, List.map_toArray, List.map_cons, List.map_nil, h0, Sem.run_bind, hr, Result.andThen_ok, Sem.run_pure]
  exact hK _ _ h
theorem wpList_mv {P : Program} {w : World} {ops : Array Oper} {rest : List Oper} {o : Oper} {a : Act} {Q : Exit → Act → World → Prop} (hgd : o.guard = none) (x : Operand) {v : Value} (ho : o.op = .move x) (h0 : a.eval x = v)
    (h : wpList P ops Q rest (a.put o.dst v) w) : wpList P ops Q (o :: rest) a w := by
  refine wpList_plain hgd fun K hK => ?_
  unfold Oper.wp execOp
  simp only [ho, h0, Sem.run_bind, Result.andThen_ok, Sem.run_pure]
  exact hK _ _ h
theorem bldK (k : Int) (w : World) : (Instr.build 76 #[(0, .int .i64 k)]).run Try.prog w = .ok (.agg (gopC ⟨k, 0, zeroE, 0⟩)) w := by kernel_rfl
theorem bldP (x : Ev) (w : World) : (Instr.build 76 #[(0, .int .i64 1), (2, .agg (evC x))]).run Try.prog w = .ok (.agg (gopC ⟨1, 0, x, 0⟩)) w := by kernel_rfl
theorem bldA (m : Int) (w : World) : (Instr.build 76 #[(0, .int .i64 2), (3, .int .i64 m)]).run Try.prog w = .ok (.agg (gopC ⟨2, 0, zeroE, m⟩)) w := by kernel_rfl
/-- The eight steps. -/
def stp (x : Ev) (m : Int) : List Gop := [⟨4, 0, zeroE, 0⟩, ⟨5, 0, zeroE, 0⟩, ⟨6, 0, zeroE, 0⟩, ⟨1, 0, x, 0⟩, ⟨2, 0, zeroE, m⟩, ⟨6, 0, zeroE, 0⟩, ⟨3, 0, zeroE, 0⟩, ⟨4, 0, zeroE, 0⟩]
def stpA (x : Ev) (m : Int) : Array Value := gop8 ⟨4, 0, zeroE, 0⟩ ⟨5, 0, zeroE, 0⟩ ⟨6, 0, zeroE, 0⟩ ⟨1, 0, x, 0⟩ ⟨2, 0, zeroE, m⟩ ⟨6, 0, zeroE, 0⟩ ⟨3, 0, zeroE, 0⟩ ⟨4, 0, zeroE, 0⟩
theorem stp_ok {x : Ev} (hx : x.ok) (m : Int) (i : Nat) : ((stp x m).getD i zeroGo).e.ok := by
  unfold stp
  match i with
  | 0 => exact zeroE_ok
  | 1 => exact zeroE_ok
  | 2 => exact zeroE_ok
  | 3 => exact hx
  | 4 => exact zeroE_ok
  | 5 => exact zeroE_ok
  | 6 => exact zeroE_ok
  | 7 => exact zeroE_ok
  | n + 8 => exact zeroE_ok
theorem stp_flat {w : World} {b : Nat} {x : Ev} {m : Int} {t : TypeId} (h : Bk w b (stpA x m) t) : Flat w (some ⟨b, 0, none⟩) (fl gopC (stp x m)) := fun j u hu => ⟨b, 0, rfl, by
  rw [show fl gopC (stp x m) = (stpA x m).toList from (gop8_fl _ _ _ _ _ _ _ _).symm] at hu
  rw [Nat.zero_add, cell_of_row w b j _ _ _ h]
  simpa using hu⟩
/-- At the round i of the steps. -/
structure Rd3 (w : World) (pb m sb t0 : Nat) (cap : Int) (x : Ev) (to_ : Int) (vi : Value) (wr : World) : Prop where
  ex : ∃ (i g : Nat) (S : Nat → Prop) (s : Gs), i ≤ 8 ∧ vi = .int .i64 (i : Int) ∧ Pr w.heap.size wr pb g m S s (t0 + i) ∧ s.cap = cap ∧ Bk wr sb (stpA x to_) 76 ∧ Below w.heap.size w wr
theorem Pr.keeps {N : Nat} {w u : World} {pb g m : Nat} {S : Nat → Prop} {s : Gs} {t : Nat} (P : Pr N w pb g m S s t) (F : Frm (fun k => S k ∨ k = m ∨ k = pb) w u) {b : Nat} {cs : Array Value} (h : Bk w b cs 76) : Bk u b cs 76 := F.bk h (by
  rintro (e | e | e)
  · exact P.G.far h (by decide) (by decide) (by decide) e
  · obtain ⟨c2, bm⟩ := P.M.blk
    unfold Bk at bm h
    rw [e, bm] at h
    simp only [Option.some.injEq, Obj.cells.injEq] at h
    exact absurd h.2.1 (by decide)
  · have hb := P.blk
    unfold Bk at hb h
    rw [e, hb] at h
    simp only [Option.some.injEq, Obj.cells.injEq] at h
    exact absurd h.2.1 (by decide))
/-- What Restore makes, by its code. -/
structure RsG (wo u : World) (cap mark : Int) (cl : Bool) (held : List Ev) (c : Int) (bn : Bool) (pg : Option Addr) : Prop where
  isn : ∀ W, (binOp .eql 53 (.pointer pg) (.pointer none)).run Try.prog W = .ok (.bool bn) W
  yes : c = 0 → ∃ g S, pg = some ⟨g, 0, none⟩ ∧ Gat u g S ⟨cap, mark, cl, held⟩ held.length ∧ ∀ k, S k → wo.heap.size ≤ k
  below : Below wo.heap.size wo u
structure RsM (wo u : World) (cap mark : Int) (cl : Bool) (held : List Ev) (c : Int) (bn : Bool) (pm : Option Addr) : Prop where
  isn : ∀ W, (binOp .eql 83 (.pointer pm) (.pointer none)).run Try.prog W = .ok (.bool bn) W
  yes : c = 0 → ∃ m, pm = some ⟨m, 0, none⟩ ∧ Mog u m ⟨cap, mark, cl, held⟩ ∧ wo.heap.size ≤ m
  below : Below wo.heap.size wo u
theorem rsG_of {wo u : World} {cap mark : Int} {cl : Bool} {held : List Ev} {e : Ending} {c : Int} {bn : Bool} (hc : rstC cap mark cl held = c) (hb : decide (c ≠ 0) = bn) (h : RstP wo cap mark cl held e u) : ∃ pg, e = .returned (.tuple #[.pointer pg, .int .i64 c]) ∧ RsG wo u cap mark cl held c bn pg := by
  subst hc
  by_cases h0 : rstC cap mark cl held = 0
  · obtain ⟨g, S, e1, G, _, lo⟩ := h.yes h0
    have : bn = false := by rw [← hb, h0]; rfl
    subst this
    exact ⟨some ⟨g, 0, none⟩, by rw [e1, h0], fun W => by kernel_rfl, fun _ => ⟨g, S, rfl, G, lo⟩, h.below⟩
  · have : bn = true := by rw [← hb]; exact decide_eq_true h0
    subst this
    exact ⟨none, h.no h0, fun W => by kernel_rfl, fun e => absurd e h0, h.below⟩
theorem rsM_of {wo u : World} {cap mark : Int} {cl : Bool} {held : List Ev} {e : Ending} {c : Int} {bn : Bool} (hc : rstC cap mark cl held = c) (hb : decide (c ≠ 0) = bn) (h : RstM wo cap mark cl held e u) : ∃ pm, e = .returned (.tuple #[.pointer pm, .int .i64 c]) ∧ RsM wo u cap mark cl held c bn pm := by
  subst hc
  by_cases h0 : rstC cap mark cl held = 0
  · obtain ⟨m, e1, M, lo⟩ := h.yes h0
    have : bn = false := by rw [← hb, h0]; rfl
    subst this
    exact ⟨some ⟨m, 0, none⟩, by rw [e1, h0], fun W => by kernel_rfl, fun _ => ⟨m, rfl, M, lo⟩, h.below⟩
  · have : bn = true := by rw [← hb]; exact decide_eq_true h0
    subst this
    exact ⟨none, h.no h0, fun W => by kernel_rfl, fun e => absurd e h0, h.below⟩
set_option maxRecDepth 100000 in
set_option maxHeartbeats 8000000 in
theorem walk (cap : Int) (h1 : (Lit.int .i64 cap).wf = true) (mark : Int) (h2 : (Lit.int .i64 mark).wf = true) (cl : Bool) (ao : Option Addr) (ca : Nat) (held : List Ev) (x : Ev) (to_ : Int) (h3 : (Lit.int .i64 to_).wf = true) (w : World) (hsl : Sl ao held.length ca) (F : Flat w ao (fl evC held)) (hl : held.length * 88 ≤ 140737488351232) (ok : ∀ k, (held.getD k zeroE).ok) (xok : x.ok) : Calls Try.prog 7 #[.int .i64 cap, .int .i64 mark, .bool cl, .slice ao held.length ca, .agg (evC x), .int .i64 to_] w fun e w' => e = .returned (.bool true) ∧ Below w.heap.size w w' := by
  clear h1 h2 h3
  have hb1 : Hid (((0 + held.length) + (0 + held.length) / 4 + 192) * 88 ≤ 281474976710656) := by
    have h := big_room (k := 0) hl (Nat.zero_le 9)
    rw [Nat.add_zero] at h
    unfold Hid
    rw [Nat.zero_add]
    exact h
  have hb2 : Hid (0 + held.length ≤ 9223372036854775807) := by unfold Hid; omega
  have B0 := galloc (Below.refl w.heap.size w) (.cells (evC x) 29)
  have bx := Bk.new w (evC x) 29
  go_enter Try.func7, Try.ntmps7
  go_upto_region 1 with fail
  generalize w.alloc _ = V at *
  have FV := F.keep B0
  go_upto_region 3 with (first
    | (at_builtin; refine wpList_append_flatw rfl (.tmp 25) (.tmp 26) rfl Try.underlying22 nfEv rfl (by decide) (.slice none 0 0) V.heap.size 0 [] rfl (World.ownsRow_nil _ _ _ _) (Nat.le_refl _) ao held.length ca (fl evC held) rfl hsl FV (fl_len ev_size held) (fl_one ev_ones1 held) hb1.out hb2.out ?_; intro v1 u1 O1 Q1; rw [Nat.zero_add, List.nil_append] at O1; obtain ⟨a1, p1, rfl, _⟩ := own_form O1))
  have G1 : Below V.heap.size V u1 := (Below.refl _ _).grown Q1 (Nat.le_refl _) (fun k e => by simp [Value.ownBlock] at e)
  have B1 := gtrans B0 G1
  have O0 := World.ownsRow_lit (base := u1.heap.size) (e := 29) (size := 11) u1 #[] 0 (Nat.le_refl _) (Nat.zero_le _) rfl
  have G2 := galloc (Below.refl u1.heap.size u1) (.cells #[] 29)
  have F2 := (FV.keep G1).keep G2
  have hz2 := G2.size
  go_upto_region 5 with (first
    | (at_builtin; refine wpList_append_flatw rfl (.tmp 28) (.tmp 29) rfl Try.underlying22 nfEv rfl (by decide) (.slice (some ⟨u1.heap.size, 0, none⟩) 0 0) u1.heap.size 0 [] rfl O0 hz2 ao held.length ca (fl evC held) rfl hsl F2 (fl_len ev_size held) (fl_one ev_ones1 held) hb1.out hb2.out ?_; intro v2 u2 O2 Q2; rw [Nat.zero_add, List.nil_append] at O2; obtain ⟨a2, p2, rfl, _⟩ := own_form O2))
  have G3 : Below u1.heap.size u1 u2 := G2.grown Q2 hz2 (fun k e => by
    have : u1.heap.size = k := by simpa [Value.ownBlock] using e
    omega)
  have hz3 := G3.size
  clear O0 G2 F2 hz2 Q2 Q1
  go_loopw [14, 15] (fun vr vi wr => Lay w u1 held vr vi wr) (fun vr vi _ => 9 - (intOf vi).toNat)
  case atStart => exact ⟨0, a2, p2, Nat.zero_le _, rfl, rfl, by unfold bhds; rw [List.append_nil]; exact O2, G3⟩
  case round =>
    obtain ⟨i, ar, cr, hi, rfl, rfl, OR, BR⟩ := hrel
    by_cases hlt : i < 9
    · have q1 : (i : Int) < 9 := by omega
      have B4 := galloc (Below.refl wr.heap.size wr) (.cells (evC (mkE (-9) i)) 29)
      have hbs := evBuildE (mkE (-9) i) wr
      have hnews := World.news_of_block (Bk.new wr (evC (mkE (-9) i)) 29)
      have OR4 := own_keep OR B4
      have hz4 := Nat.le_trans BR.size B4.size
      have hr1 : Hid (held.length + i + 1 ≤ 9223372036854775807) := by unfold Hid; omega
      have hr2 : Hid (((held.length + i + 1) + (held.length + i + 1) / 4 + 192) * 88 ≤ 281474976710656) := by
        have h := big_room (k := i + 1) hl (by omega)
        rw [← Nat.add_assoc] at h
        exact h
      generalize wr.alloc (.cells (evC (mkE (-9) i)) 29) = W4 at *
      have hcv := conv_u64 hlt wr
      have hbd := buildE2 (-9) (i : Int) wr
      go_upto_region 6 with (first
        | (refine wpList_conv rfl (.tmp 36) rfl rfl hcv ?_; simp only [Act.put, List.setIfInBounds_toArray, List.set_cons_succ, List.set_cons_zero]; refine wpList_build2 rfl (.const (.int .i64 (-9))) (.tmp 37) rfl rfl rfl hbd ?_; simp only [Act.put, List.setIfInBounds_toArray, List.set_cons_succ, List.set_cons_zero]; refine wpList_build1 rfl (.tmp 38) rfl rfl hbs ?_; simp only [Act.put, List.setIfInBounds_toArray, List.set_cons_succ, List.set_cons_zero]; refine wpList_append_one rfl (.tmp 35) (.tmp 39) rfl Try.underlying22 nfEv rfl (by decide) (.slice ar (held.length + i) cr) u1.heap.size (held.length + i) _ rfl OR4 hz4 ⟨wr.heap.size, 0, none⟩ 1 (evC (mkE (-9) i)).toList rfl rfl hnews (ev_ones1 _) hr1.out hr2.out ?_; intro g8 cap8 w8 O8 Q8 L8))
      have B8 : Below u1.heap.size u1 w8 := (gtrans BR B4).grown Q8 hz4 (fun k e => (World.ownsRow.lt OR4 k e).1)
      have HP : Hid (Lay w u1 held (.slice (some ⟨g8, 0, none⟩) (held.length + i + 1) cap8) (.int .i64 ((i : Int) + 1)) w8) := ⟨i + 1, some ⟨g8, 0, none⟩, cap8, hlt, rfl, rfl, by
        rw [show bhds (i + 1) = bhds i ++ [bhd i] from rfl, ← List.append_assoc, fl_app, ← Nat.add_assoc]
        have := O8
        simpa [fl, bhd] using this, B8⟩
      clear O8 Q8 OR OR4 hnews
      go_wp2
      go_roundw
      case rel => exact HP.out
      case measure => simp [intOf]; omega
    · obtain rfl : i = 9 := by omega
      have q1 : ¬ ((9 : Nat) : Int) < 9 := by omega
      obtain ⟨gr, oR, eR, hgr, _⟩ := (own_flat OR).form (by rw [fl_len ev_size, List.length_append, bhds_len]; omega)
      subst eR
      have FRM := own_flat OR
      have FR : Flat wr (some ⟨gr, oR, none⟩) (fl evC held) := by rw [fl_app] at FRM; exact flatPre FRM
      have hsl2 := own_sl OR
      have hev : ∀ e ∈ held, e.ok := fun e he => by
        obtain ⟨i, hi, rfl⟩ := List.getElem_of_mem he
        have := ok i
        rwa [getD_of_lt held i hi] at this
      have OTW := own_keep O1 BR
      have BW := gtrans B1 BR
      obtain ⟨c, hc⟩ : ∃ c, rstC cap mark cl held = c := ⟨_, rfl⟩
      obtain ⟨bn, hbn⟩ : ∃ bn, decide (c ≠ 0) = bn := ⟨_, rfl⟩
      have c5 := (restore_any cap mark cl (some ⟨gr, oR, none⟩) cr held wr FR (by omega) hev).mono fun e u h => rsG_of hc hbn h
      have k1 : held.length ≤ cr := by have := hsl2.1; omega
      have k2 : (held.length : Int) ≤ (cr : Int) := by omega
      have HB : Hid (decide (c ≠ 0) = bn) := hbn
      have HCC : Hid (rstC cap mark cl held = c) := hc
      clear O2 O1 hlt hsl2 hc hbn
      obtain ⟨wo, hwo⟩ : ∃ wo, wo = wr := ⟨_, rfl⟩
      subst hwo
      go_upto_region 9 with (first
        | (go_at_call 33; (with_reducible refine c5.mono ?_); rintro e u5 ⟨pg, rfl, RG⟩))
      have g5 := RG.below
      have OT5 := own_keep OTW g5
      have c6 := (refRestore cap mark cl a1 p1 held u5 (own_flat OT5) (by omega)).mono fun e u h => rsM_of HCC.out HB.out h
      clear c5
      go_upto_region 10 with (first
        | (go_at_call 39; (with_reducible refine c6.mono ?_); rintro e u6 ⟨pm, rfl, RM⟩))
      have g6 := RM.below
      have OT6 := own_keep OT5 g6
      have FR6 := (FR.keep g5).keep g6
      have c7 := sameEvG_true (some ⟨gr, oR, none⟩) a1 cr p1 held u6 FR6 (own_flat OT6) (by omega)
      have n1 := RG.isn
      have n2 := RM.isn
      clear c6
      go_upto_region 13 with (first
        | (go_at_call 29; (with_reducible refine c7.mono ?_); rintro e u7 ⟨rfl, g7⟩))
      have B7 := gtrans (gtrans (gtrans BW g5) g6) g7
      have FM7 := ((FRM.keep g5).keep g6).keep g7
      have n1' := n1
      clear c7 n2 OTW OT5 OT6 FR FR6
      go_loopw [20] (fun vi wr => ∃ i : Nat, i ≤ 9 ∧ vi = .int .i64 (i : Int) ∧ wr = u7) (fun vi _ => 9 - (intOf vi).toNat)
      case atStart => exact ⟨0, Nat.zero_le _, rfl, rfl⟩
      case round =>
        obtain ⟨i, hi, rfl, rfl⟩ := hrel
        by_cases hlt : i < 9
        · have q2 : (i : Int) < 9 := by omega
          have rx := flat_range ev_size zrEv FM7 (held.length + i) (by rw [List.length_append, bhds_len]; omega)
          have ex : (held ++ bhds 9).getD (held.length + i) zrEv = mkE (-9) i := by
            rw [List.getD_eq_getElem?_getD, List.getElem?_append_right (by omega), Nat.add_sub_cancel_left, ← List.getD_eq_getElem?_getD, bhds_get hlt]
            rfl
          rw [ex] at rx
          have hcv := conv_u64 hlt wr
          have hbd := buildE2 (-9) (i : Int) wr
          have q3 : (held.length : Int) + (i : Int) < (held.length : Int) + 9 := by omega
          have hll : held.length ≤ 1599289640355 := by omega
          clear ex
          generalize hmk : mkE (-9) (i : Int) = xx at *
          go_upto_region 14 with (first
            | (refine wpList_load_mid rfl 29 _ rfl gr (oR + (held.length + i) * 11) rfl (evC xx).toList _ rx Try.underlying29 rfl infoEv ?_)
            | (refine wpList_conv rfl (.tmp 90) rfl rfl hcv ?_; simp only [Act.put, List.setIfInBounds_toArray, List.set_cons_succ, List.set_cons_zero]; refine wpList_build2 rfl (.const (.int .i64 (-9))) (.tmp 91) rfl rfl rfl hbd ?_; simp only [Act.put, List.setIfInBounds_toArray, List.set_cons_succ, List.set_cons_zero]; refine wpList_neq_samew rfl (.tmp 89) (.tmp 92) 29 rfl evGuard (evC xx) (ev_eq xx) rfl rfl ?_))
          go_wp2
          go_roundw
          case rel => exact ⟨i + 1, by omega, by go_num, trivial⟩
          case measure => simp [intOf]; omega
        · have q2 : ¬ (i : Int) < 9 := by omega
          have hb1 := HB.out
          cases bn with
          | true =>
            go_wp2
            go_ret
            exact ⟨rfl, B7⟩
          | false =>
            have hc0 : c = 0 := by simpa using hb1
            obtain ⟨g, S, rfl, GG, Slo⟩ := RG.yes hc0
            obtain ⟨m, rfl, MM, mlo⟩ := RM.yes hc0
            have nb := new_blk wr #[.pointer (some ⟨g, 0, none⟩), .pointer (some ⟨m, 0, none⟩), .int .i64 cap] 87 rfl
            have bz := Bk.new wr zPr 87
            have th := bz.there
            have sx := pr_one (some ⟨g, 0, none⟩) (some ⟨m, 0, none⟩) cap
            have G8 := gsetCells (galloc (Below.refl wr.heap.size wr) (.cells zPr 87)) (Nat.le_refl _) (#[.pointer (some ⟨g, 0, none⟩), .pointer (some ⟨m, 0, none⟩), .int .i64 cap] : Array Value).toList 0
            generalize hY1 : (wr.alloc (.cells zPr 87)).setCells wr.heap.size 0 (#[.pointer (some ⟨g, 0, none⟩), .pointer (some ⟨m, 0, none⟩), .int .i64 cap] : Array Value).toList = Y1 at *
            have hBz := BW.size
            have PP : Pr w.heap.size Y1 wr.heap.size g m S ⟨cap, mark, cl, held⟩ (4096 + held.length) := ⟨nb.2.1, (((GG.keep g6).keep g7).keep G8).mono (by omega), (MM.keep g7).keep G8, fun k e => Nat.le_trans hBz (Slo k e), Nat.le_trans hBz (Nat.le_trans g5.size mlo), Nat.le_trans hBz (Nat.le_trans g5.size (Nat.le_trans g6.size g7.size))⟩
            go_upto_region 20 with (first
              | (refine wpList_store_mid rfl 87 _ _ rfl wr.heap.size 0 #[.pointer (some ⟨g, 0, none⟩), .pointer (some ⟨m, 0, none⟩), .int .i64 cap] rfl rfl th infoPr sx ?_; rw [hY1]))
            have bxY := ((((((bx.keep G1).keep BR).keep g5).keep g6).keep g7).keep G8).range
            have B8 := gtrans B7 G8
            have P8 := PP.keep (galloc (Below.refl Y1.heap.size Y1) (.cells (stpA x to_) 76))
            have B9 := galloc B8 (.cells (stpA x to_) 76)
            have b9 := Bk.new Y1 (stpA x to_) 76
            have h8 := gop8_build ⟨4, 0, zeroE, 0⟩ ⟨5, 0, zeroE, 0⟩ ⟨6, 0, zeroE, 0⟩ ⟨1, 0, x, 0⟩ ⟨2, 0, zeroE, to_⟩ ⟨6, 0, zeroE, 0⟩ ⟨3, 0, zeroE, 0⟩ ⟨4, 0, zeroE, 0⟩ Y1
            rw [show gop8 ⟨4, 0, zeroE, 0⟩ ⟨5, 0, zeroE, 0⟩ ⟨6, 0, zeroE, 0⟩ ⟨1, 0, x, 0⟩ ⟨2, 0, zeroE, to_⟩ ⟨6, 0, zeroE, 0⟩ ⟨3, 0, zeroE, 0⟩ ⟨4, 0, zeroE, 0⟩ = stpA x to_ from rfl] at h8
            generalize hY2 : Y1.alloc (.cells (stpA x to_) 76) = Y2 at *
            clear nb bz th hY1 GG MM RG RM n1 n1' PP FM7 FRM
            refine wp_region_lit ?_
            refine wpList_bldO rfl (.const (.int .i64 4)) rfl rfl (bldK 4 Y1) ?_
            simp only [Act.put, List.setIfInBounds_toArray, List.set_cons_succ, List.set_cons_zero]
            refine wpList_bldO rfl (.const (.int .i64 5)) rfl rfl (bldK 5 Y1) ?_
            simp only [Act.put, List.setIfInBounds_toArray, List.set_cons_succ, List.set_cons_zero]
            refine wpList_bldO rfl (.const (.int .i64 6)) rfl rfl (bldK 6 Y1) ?_
            simp only [Act.put, List.setIfInBounds_toArray, List.set_cons_succ, List.set_cons_zero]
            refine wpList_load_mid rfl 29 (.tmp 10) rfl w.heap.size 0 rfl (evC x).toList _ bxY Try.underlying29 rfl infoEv ?_
            simp only [Act.put, List.setIfInBounds_toArray, List.set_cons_succ, List.set_cons_zero]
            refine wpList_build2 rfl (.const (.int .i64 1)) (.tmp 103) rfl rfl rfl (bldP x Y1) ?_
            simp only [Act.put, List.setIfInBounds_toArray, List.set_cons_succ, List.set_cons_zero]
            refine wpList_mv rfl (.tmp 5) rfl rfl ?_
            simp only [Act.put, List.setIfInBounds_toArray, List.set_cons_succ, List.set_cons_zero]
            refine wpList_build2 rfl (.const (.int .i64 2)) (.tmp 105) rfl rfl rfl (bldA to_ Y1) ?_
            simp only [Act.put, List.setIfInBounds_toArray, List.set_cons_succ, List.set_cons_zero]
            refine wpList_bldO rfl (.const (.int .i64 6)) rfl rfl (bldK 6 Y1) ?_
            simp only [Act.put, List.setIfInBounds_toArray, List.set_cons_succ, List.set_cons_zero]
            refine wpList_bldO rfl (.const (.int .i64 3)) rfl rfl (bldK 3 Y1) ?_
            simp only [Act.put, List.setIfInBounds_toArray, List.set_cons_succ, List.set_cons_zero]
            refine wpList_bldO rfl (.const (.int .i64 4)) rfl rfl (bldK 4 Y1) ?_
            simp only [Act.put, List.setIfInBounds_toArray, List.set_cons_succ, List.set_cons_zero]
            refine wpList_build8 rfl (.tmp 100) (.tmp 101) (.tmp 102) (.tmp 104) (.tmp 106) (.tmp 107) (.tmp 108) (.tmp 109) rfl rfl rfl rfl rfl rfl rfl rfl rfl h8 ?_
            simp only [Act.put, List.setIfInBounds_toArray, List.set_cons_succ, List.set_cons_zero]
            go_upto_region 22 with fail
            have PZ : Pr w.heap.size Y2 wr.heap.size g m S ⟨cap, mark, cl, held⟩ (4096 + held.length) := P8
            obtain ⟨pb, hpb⟩ : ∃ pb, wr.heap.size = pb := ⟨_, rfl⟩
            obtain ⟨sb, hsb⟩ : ∃ sb, Y1.heap.size = sb := ⟨_, rfl⟩
            rw [hpb] at PZ ⊢
            rw [hsb] at b9 ⊢
            clear P8 h8 sx bxY hpb hsb hY2
            go_loopw [23, 24] (fun vi _ wr => Rd3 w pb m sb (4096 + held.length) cap x to_ vi wr) (fun vi _ _ => 8 - (intOf vi).toNat)
            case atStart => exact ⟨0, g, S, _, Nat.zero_le _, rfl, PZ, rfl, b9, B9⟩
            case round =>
              obtain ⟨i, g, S, s, hi, rfl, PP, hcp, bs, B⟩ := hrel
              clear PZ b9 B9
              by_cases hlt : i < 8
              · have q3 : (i : Int) < 8 := by omega
                have rx := flat_range gop_size zeroGo (stp_flat bs) i (by unfold stp; exact hlt)
                rw [Nat.zero_add] at rx
                have yok := stp_ok xok to_ i
                generalize (stp x to_).getD i zeroGo = y at *
                have c9 := plays_any w.heap.size pb g m (4096 + held.length + i) S s y wr PP B.size (by omega) (by omega) yok
                go_upto_region 25 with (first
                  | (refine wpList_load_mid rfl 76 _ rfl sb (i * 14) rfl (gopC y).toList _ rx Try.underlying76 rfl infoGop ?_)
                  | (go_at_call 40; (with_reducible refine c9.mono ?_); rintro e u9 ⟨rfl, Q9⟩))
                obtain ⟨g2, S2, s2, P2, hc2, F2, V2⟩ := Q9.ex
                have HP : Hid (Rd3 w pb m sb (4096 + held.length) cap x to_ (.int .i64 ((i : Int) + 1)) u9) := ⟨i + 1, g2, S2, s2, hlt, rfl, P2, hc2.trans hcp, Pr.keeps PP F2 bs, F2.toBelow B (Nat.le_refl _) (by
                  rintro j (e | e | e)
                  · exact PP.lo j e
                  · rw [e]; exact PP.lm
                  · rw [e]; exact PP.lp)⟩
                clear rx c9 P2 F2 V2 PP bs
                go_wp2
                go_roundw
                case rel => exact HP.out
                case measure => simp [intOf]; omega
              · have q3 : ¬ (i : Int) < 8 := by omega
                go_wp2
                go_ret
                exact ⟨rfl, B⟩
theorem cellsEv : Try.prog.cellsOf 29 = 11 := by kernel_rfl
theorem open_event_ok {H : Type} {enc : TypeId × Value → H} {w : World} {spare : Nat → Bool} {held : Bool} {fuel : Nat} {cs : Array Value} {y : DataW H × List MemPlace} (hz : cs.size = 11) (h : DataW.trod enc Try.prog w 0 spare held fuel 29 cs.toList = some y) : ∃ e : Ev, cs = evC e ∧ e.ok := by
  obtain ⟨l⟩ := cs
  obtain ⟨e, h1, h2⟩ := open_ev7 hz h
  exact ⟨e, by apply Array.toList_inj.1; exact h2, h1⟩
theorem own : ownKnob Try.prog.godebug = none := by kernel_rfl
theorem laidOut : laidOutB Try.prog = true := by kernel_rfl

set_option maxRecDepth 100000 in
theorem lifted (os : Os) (started : os.Started) (H : Type) (enc : TypeId × Value → H) :
    ReturnsInHanded {} Try.checked os 7 .any (Rows.gateRestoresSpec.pre6 enc Try.prog Try.f7 Rows.gateRestoresRow.domain false) (Rows.gateRestoresSpec.post enc Try.prog Try.f7 false true false false) := by
  refine returnsInHanded_of_change_sized (C := Try.checked) own started (by kernel_rfl) Try.func7
    (ChangeSpec.witness6 (enc := enc) (C := Try.checked) false ⟨#[], #[.int .i64 0, .int .i64 0, .bool false, .slice none 0 0, .agg #[.int .i64 0, .int .u64 0, .int .i64 0, .int .i64 0, .int .i64 0, .int .i64 0, .int .i64 0, .int .i64 0, .int .i64 0, .int .i64 0, .int .i64 0], .int .i64 0], []⟩ 8 (by kernel_rfl) (by kernel_rfl) (by kernel_rfl) (by kernel_rfl)) ?_
  intro W base args ds gs before hval0 hW hcnd hsz0 _
  have hsz : (DataW.weightsEach Try.prog (Try.f7.params.toList ++ Rows.gateRestoresSpec.plain.varTypes Try.prog) (ds ++ gs)).all (· ≤ reachBytes) = true := hsz0
  have hval : ∀ (j : Nat) t v, Try.f7.params[j]? = some t → args[j]? = some v → Value.okWide Try.prog W .any base t v := hval0
  have hW' := hW
  obtain ⟨p, q, hA0, hV, rfl, hfz, hnd⟩ := hW
  have hA : DataW.TrodAll enc Try.prog W 0 (fun _ => true) true Try.f7.params.toList args.toList ds p := hA0
  rw [Try.params7] at hA hval hsz
  obtain ⟨v0, vs0, d0, ds0, p0, q0, hargs, rfl, rfl, h0, r0⟩ := trodAll_cons hA
  obtain ⟨v1, vs1, d1, ds1, p1, q1, rfl, rfl, rfl, h1, r1⟩ := trodAll_cons r0
  obtain ⟨v2, vs2, d2, ds2, p2, q2, rfl, rfl, rfl, h2, r2⟩ := trodAll_cons r1
  obtain ⟨v3, vs3, d3, ds3, p3, q3, rfl, rfl, rfl, h3, r3⟩ := trodAll_cons r2
  obtain ⟨v4, vs4, d4, ds4, p4, q4, rfl, rfl, rfl, h4, r4⟩ := trodAll_cons r3
  obtain ⟨v5, vs5, d5, ds5, p5, q5, rfl, rfl, rfl, h5, r5⟩ := trodAll_cons r4
  obtain ⟨rfl, rfl, rfl⟩ := trodAll_nil r5
  obtain rfl : args = #[v0, v1, v2, v3, v4, v5] := by cases args; simp_all
  obtain ⟨rfl, rfl⟩ := trodVars_none hV
  have k0 := h0
  have lt0 : ∀ x ∈ p0, x.block < W.heap.size := by obtain ⟨m, hm⟩ := k0; exact DataW.trod_lt m _ _ _ hm
  obtain ⟨a0, e0, _, _, w0⟩ := open_int Try.underlying3 (hval 0 3 v0 rfl rfl) h0
  subst e0
  have k1 := h1
  have lt1 : ∀ x ∈ p1, x.block < W.heap.size := by obtain ⟨m, hm⟩ := k1; exact DataW.trod_lt m _ _ _ hm
  obtain ⟨a1, e1, _, _, w1⟩ := open_int Try.underlying2 (hval 1 2 v1 rfl rfl) h1
  subst e1
  have k2 := h2
  have lt2 : ∀ x ∈ p2, x.block < W.heap.size := by obtain ⟨m, hm⟩ := k2; exact DataW.trod_lt m _ _ _ hm
  obtain ⟨a2, e2, _, _⟩ := open_bool Try.underlying4 (hval 2 4 v2 rfl rfl) h2
  subst e2
  have k3 := h3
  have lt3 : ∀ x ∈ p3, x.block < W.heap.size := by obtain ⟨m, hm⟩ := k3; exact DataW.trod_lt m _ _ _ hm
  obtain ⟨ao3, cap3, l3, e3, wc3, w3, wr3, ws3⟩ : ∃ ao cap l, v3 = .slice ao (l : List Ev).length cap ∧ Sl ao l.length cap ∧ Flat W ao (fl evC l) ∧ l.length * 88 ≤ 140737488351232 ∧ ∀ k, (l.getD k zeroE).ok := by
    obtain ⟨a, len, cap, e⟩ := okWide_slice Try.underlying22 (hval 3 22 v3 rfl rfl)
    subst e
    obtain ⟨fuel, hf⟩ := h3
    have hf' : DataW.trod enc Try.prog W 0 (fun _ => true) true fuel 22 [.slice a len cap] = some (d3, p3) := hf
    exact open_evrow hf' (fun b hb => by
      have h1 := List.all_eq_true.1 hsz b (DataW.weights_mem_each (j := 3) (t := 22) rfl rfl b hb)
      simpa using h1)
  subst e3
  have k4 := h4
  have lt4 : ∀ x ∈ p4, x.block < W.heap.size := by obtain ⟨m, hm⟩ := k4; exact DataW.trod_lt m _ _ _ hm
  obtain ⟨ev4, e4, wk4⟩ : ∃ ev : Ev, v4 = .agg (evC ev) ∧ ev.ok := by
    obtain ⟨cs, hcs, hcz⟩ := okWide_struct Try.underlying29 (hval 4 29 v4 rfl rfl)
    subst hcs
    obtain ⟨fuel, hf⟩ := h4
    have hf' : DataW.trod enc Try.prog W 0 (fun _ => true) true fuel 29 cs.toList = some (d4, p4) := hf
    obtain ⟨ev, he, hk⟩ := open_event_ok (hcz.trans cellsEv) hf'
    exact ⟨ev, by rw [he], hk⟩
  subst e4
  have k5 := h5
  have lt5 : ∀ x ∈ p5, x.block < W.heap.size := by obtain ⟨m, hm⟩ := k5; exact DataW.trod_lt m _ _ _ hm
  obtain ⟨a5, e5, _, _, w5⟩ := open_int Try.underlying2 (hval 5 2 v5 rfl rfl) h5
  subst e5
  clear hA0 hval0
  refine (walk a0 w0 a1 w1 a2 ao3 cap3 l3 ev4 a5 w5 W wc3 w3 wr3 ws3 wk4).mono fun e W' ⟨he, bel⟩ => ?_
  subst he
  exact ⟨_, rfl, _, _, _, [], _, [], hW', trodAll_mk1 (shut_bool Try.underlying4 _), (trodAll_cons_mk (Below.trod laidOut (by kernel_rfl) (of_decide_eq_true (by kernel_rfl)) k0 bel lt0) (trodAll_cons_mk (Below.trod laidOut (by kernel_rfl) (of_decide_eq_true (by kernel_rfl)) k1 bel lt1) (trodAll_cons_mk (Below.trod laidOut (by kernel_rfl) (of_decide_eq_true (by kernel_rfl)) k2 bel lt2) (trodAll_cons_mk (Below.trod laidOut (by kernel_rfl) (of_decide_eq_true (by kernel_rfl)) k3 bel lt3) (trodAll_cons_mk (Below.trod laidOut (by kernel_rfl) (of_decide_eq_true (by kernel_rfl)) k4 bel lt4) (trodAll_cons_mk (Below.trod laidOut (by kernel_rfl) (of_decide_eq_true (by kernel_rfl)) k5 bel lt5) trodAll_mk0)))))), rfl, bel.frame _, fun h => by cases h⟩

theorem over : Rows.gateRestoresRow.holds Try.pinned (OpenSpec.ofChange Rows.gateRestoresSpec) :=
  OpenClaim.holds_of_wide 7 Try.f7 rfl rfl rfl rfl rfl rfl rfl ⟨rfl, rfl, rfl, rfl, rfl⟩ rfl rfl rfl rfl rfl (by kernel_rfl) Try.func7 (by kernel_rfl)
    (of_decide_eq_true (by kernel_rfl)) (by unfold Func.isWrapper; first | (rw [if_pos (by decide +kernel)]; kernel_rfl) | (rw [if_neg (by decide +kernel)]; exact ⟨rfl, rfl⟩))
    (fun os started H enc _ => lifted os started H enc)

end Go.Proofs.Ytjfbbfmnghccdaa.gateRestores
namespace Go.Proofs.Ytjfbbfmnghccdaa
theorem gateRestores_holds : Rows.GateRestoresSaid := gateRestores.over
#print axioms gateRestores_holds
end Go.Proofs.Ytjfbbfmnghccdaa
