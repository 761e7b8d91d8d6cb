/- What event's and the document's PrintEvent come to: the same. -/
import Derived.Test.YtkpnnofonocilaaDoorLine2
import Derived.Laws.Rows
namespace Go.Proofs.YtkpnnofonocilaaDoor
open Go.RowKit Go.BigFrame Go.Shelf
open Sk
set_option linter.unusedVariables false
set_option linter.unusedSimpArgs false

/-- What PrintEvent answers: the line, the code. -/
def prE (L : List Ty) (e : Ev) : ByteArray × Int := if evE L e = 0 then (⟨(lineU (L.getD e.typ.toNat noTy).1 e (L.getD e.typ.toNat noTy).2.length).toArray⟩, 0) else (⟨#[]⟩, evE L e)
theorem infoE (e : Ev) : (Tryd.prog.info? 44).map (·.size) = some (evC e).size := by
  show _ = some 11
  kernel_rfl
theorem ev_zero (L : List Ty) (e : Ev) (h : evE L e = 0) : schE L = 0 ∧ 0 ≤ e.typ ∧ e.typ < (L.length : Int) := by
  unfold evE at h
  split at h
  · rename_i h1; exact absurd h h1
  rename_i h1
  split at h
  · exact absurd h (by decide)
  rename_i h2
  exact ⟨by simpa using h1, by omega, by omega⟩

/-- In a region that only reads: a row that is loaded whole. -/
theorem wpQuiet_load_row {P : Program} {ops : Array Oper} {C : World → Prop} {Q : Act → Prop} {o : Oper} {rest : List Oper} {a : Act} (hw : Region.wanted o (yielded ops a.tmps) = true) (ty : TypeId) (x : Operand) (ho : o.op = .load ty x)
    (g : Nat) (hx : a.eval x = .pointer (some ⟨g, 0, none⟩)) (t : TypeId) (cs : Array Value) (fr : Nat × Nat) (d : TypeDesc) (hg : ∀ w, C w → w.heap[g]? = some (.cells cs t fr))
    (hu : P.underlying ty = some d) (hd : (match d with | .struct _ | .array _ _ => true | _ => false) = true) (hi : (P.info? ty).map (·.size) = some cs.size)
    (a' : Act) (ha : a.put o.dst (.agg cs) = a') (h : wpQuiet P ops C Q rest a') : wpQuiet P ops C Q (o :: rest) a := by
  subst ha
  refine wpQuiet_want hw fun K hK => ⟨.agg cs, fun w hC => ?_, hK _ h⟩
  unfold Oper.quietAt execOp
  simp only [ho, hx, Instr.loadAt, Instr.sureAddr, Sem.run_bind, Sem.run_pure, Result.andThen_ok, run_loadVar_row w g t ty cs fr d (hg w hC) hu hd hi]
  exact ⟨rfl, rfl⟩

set_option maxRecDepth 100000 in
set_option maxHeartbeats 4000000 in
theorem printEvent_any (ao : Option Addr) (n cap : Nat) (L : List Ty) (e : Ev) (w : World) (h : IsTypes w ao n L) (hnc : n ≤ cap) (ok : e.ok) (K : KwAt w) (P : PwAt w) :
    Calls Tryd.prog 21 #[.agg #[.slice ao n cap], .agg (evC e)] w fun en w' => en = .returned (.tuple #[.string (prE L e).1, .int .i64 (prE L e).2]) ∧ Below w.heap.size w w' := by
  have hL := h.1
  have hn := h.2.1
  have B := galloc (galloc (Below.refl w.heap.size w) (.cells #[.slice ao n cap] 24)) (.cells (evC e) 44)
  have O := (One.new w (.slice ao n cap) 24).alloc (.cells (evC e) 44)
  have E := Evt.new (w.alloc (.cells #[.slice ao n cap] 24)) e
  rw [show (w.alloc (.cells #[.slice ao n cap] 24)).heap.size = w.heap.size + 1 by simp] at E
  obtain ⟨z, hz⟩ : ∃ z, z = prE L e := ⟨_, rfl⟩
  rw [← hz]
  have HZ : Hid (z = prE L e) := hz
  clear hz
  go_enter Tryd.func21, Tryd.ntmps21
  go_upto_region 1 with fail
  generalize hV : (w.alloc (.cells #[.slice ao n cap] 24)).alloc (.cells (evC e) 44) = V at B O E ⊢
  clear hV
  replace h := h.keep B
  replace K := K.keep B
  replace P := P.keep B
  have o0 := O.at0
  have c1 := checkEvent_any ao n cap L e V h hnc K
  obtain ⟨a, ha⟩ : ∃ a, a = evE L e := ⟨_, rfl⟩
  rw [← ha] at c1
  by_cases h0 : a = 0
  · subst h0
    obtain ⟨hs0, ht0, ht1⟩ := ev_zero L e ha.symm
    have hlen := sch_len L hs0
    have hnam := sch_name L hs0
    rw [hL] at hlen hnam ht1
    obtain ⟨t, ht⟩ := Int.eq_ofNat_of_zero_le ht0
    have htn : t < n := by omega
    have hz : z = (⟨(lineU (L.getD t noTy).1 e (L.getD t noTy).2.length).toArray⟩, 0) := by rw [HZ.out]; unfold prE; rw [if_pos ha.symm, ht]; rfl
    have HZ1 : Hid (z = (⟨(lineU (L.getD t noTy).1 e (L.getD t noTy).2.length).toArray⟩, 0)) := hz
    clear hz
    have hm8 := hlen t htn
    have hx16 := hnam t htn
    clear ha hlen hnam ht0 ht1 hs0
    go_upto_region 4 with (first
      | (go_at_call 22; with_reducible refine c1.mono ?_; rintro en u ⟨rfl, g⟩)
      | (refine wpList_load_row rfl 44 (.tmp 3) rfl (w.heap.size + 1) rfl 44 (evC e) (0, 0) _ E Tryd.underlying44 rfl (infoE e) ?_))
    replace h := h.keep g
    replace B := gtrans B g
    replace P := P.keep g
    have O2 := O.keep g
    have E2 := E.keep g
    clear c1 K o0 O E
    obtain ⟨_, _, q4⟩ := h
    rcases q4 with q4 | ⟨b, off, eb, hb, hcb⟩
    · omega
    subst eb
    obtain ⟨f1, aj, cj, f2, _, _⟩ := hcb t htn
    obtain ⟨x, hx⟩ : ∃ x, x = (L.getD t noTy).1 := ⟨_, rfl⟩
    obtain ⟨m, hm⟩ : ∃ m, m = (L.getD t noTy).2.length := ⟨_, rfl⟩
    rw [← hx] at f1 hx16
    rw [← hm] at f2 hm8
    have HR : Hid (z = (⟨(lineU x e m).toArray⟩, 0)) := by show _ = _; rw [HZ1.out, hx, hm]
    clear hcb hx hm
    have o0 := O2.at0
    have e2 := E2.head.2.2
    rw [ht] at e2
    have so := O2.lt
    have se := E2.lt
    have c3 := fun nx : Ext u => ext_of (n := nx) (eventLine_any x aj m cj e nx.X ok (P.keep nx.h) hx16 hm8)
    have p0 := fun z : Ext u => (z.cell _ _ O2.lt).trans o0
    have p1 := fun z : Ext u => (z.cell _ _ E2.lt).trans e2
    have p2 := fun z : Ext u => (z.cell _ _ hb).trans f1
    have p3 := fun z : Ext u => (z.cell _ _ hb).trans f2
    have hne : Nonempty (Ext u) := ⟨⟨_, Below.refl _ _⟩⟩
    have c3 : ∀ z : Ext u, Calls Tryd.prog 38 #[.agg #[.string x, .slice aj m cj], .agg (evC e)] z.X (fun e' w'' => e' = .returned (.string ⟨(lineU x e m).toArray⟩) ∧ ∃ m : Ext u, w'' = m.X) := c3
    have g1 : (t : Int) < (n : Int) := by omega
    clear ht g
    refine wp_region_ext (by kernel_rfl) (by kernel_rfl) ?_
    repeat (first
      | (refine wpQuiet_load_row rfl 44 (.tmp 3) rfl (w.heap.size + 1) rfl 44 (evC e) (0, 0) _ (fun X hX => by obtain ⟨nx, rfl⟩ := hX; exact E2.keep nx.h) Tryd.underlying44 rfl (infoE e) _ rfl ?_; simp only [Act.put, List.setIfInBounds_toArray, List.set_cons_succ, List.set_cons_zero])
      | go_big_quiet_step (first | (go_at_call 38; with_reducible exact c3 _)))
    refine wpQuiet_nil ?_
    intro _ hw'
    obtain ⟨nxw, hw''⟩ := hw'
    subst hw''
    go_wp2
    go_ret2
    exact ⟨by rw [HR.out]; rfl, gtrans B nxw.h⟩
  · have q0 : (a == 0) = false := by simpa using h0
    have hz : z = (⟨#[]⟩, a) := by rw [HZ.out]; unfold prE; rw [← ha, if_neg h0]
    subst hz
    clear ha h0
    go_wp2_with (first
      | (go_at_call 22; with_reducible refine c1.mono ?_; rintro en u ⟨rfl, g⟩)
      | (refine wpList_load_row rfl 44 (.tmp 3) rfl (w.heap.size + 1) rfl 44 (evC e) (0, 0) _ E Tryd.underlying44 rfl (infoE e) ?_))
    go_ret2
    exact ⟨rfl, gtrans B g⟩


end Go.Proofs.YtkpnnofonocilaaDoor
