/- Are two events, two instructions the same? Rows of them; lists beyond the bound. And what goes with it: 2 texts in one. -/
import Derived.Test.YtnolbpekdikamaaGreatDoorJa24
import Derived.ChangeKeysEq
import Derived.Deep.CutRange
namespace Go.Proofs.YtnolbpekdikamaaGreatDoor
open Go.RowKit Go.BigFrame
set_option linter.unusedVariables false
set_option linter.unusedSimpArgs false

theorem cells2 : Tryz.prog.cellsOf 2 = 1 := by kernel_rfl
theorem plain2 : Tryz.prog.plainKey 2 = true := by kernel_rfl
theorem arr_eq (a0 a1 a2 a3 a4 a5 a6 a7 : Int) (u : World) : (Op.equalIn 9999 72 (.agg #[.int .i64 a0, .int .i64 a1, .int .i64 a2, .int .i64 a3, .int .i64 a4, .int .i64 a5, .int .i64 a6, .int .i64 a7]) (.agg #[.int .i64 a0, .int .i64 a1, .int .i64 a2, .int .i64 a3, .int .i64 a4, .int .i64 a5, .int .i64 a6, .int .i64 a7])).run Tryz.prog u = .ok true u := by
  obtain ⟨i0, hi⟩ : ∃ i, Tryz.prog.info? 2 = some i := by
    cases h : Tryz.prog.info? 2 with
    | none => exact absurd h (by have : (Tryz.prog.info? 2).isSome = true := by kernel_rfl
                                 intro h2; rw [h2] at this; cases this)
    | some i => exact ⟨i, rfl⟩
  have one : ∀ (j : Nat) (x : Int), (#[.int .i64 a0, .int .i64 a1, .int .i64 a2, .int .i64 a3, .int .i64 a4, .int .i64 a5, .int .i64 a6, .int .i64 a7] : Array Value)[j]? = some (.int .i64 x) → (part 2 #[.int .i64 a0, .int .i64 a1, .int .i64 a2, .int .i64 a3, .int .i64 a4, .int .i64 a5, .int .i64 a6, .int .i64 a7] j).run Tryz.prog u = .ok (.int .i64 x) u := fun j x h => run_part_plain u plain2 h
  have e0 := one 0 a0 rfl
  have e1 := one 1 a1 rfl
  have e2 := one 2 a2 rfl
  have e3 := one 3 a3 rfl
  have e4 := one 4 a4 rfl
  have e5 := one 5 a5 rfl
  have e6 := one 6 a6 rfl
  have e7 := one 7 a7 rfl
  have eq : ∀ x : Int, (Op.equalIn 9998 2 (.int .i64 x) (.int .i64 x)).run Tryz.prog u = .ok true u := fun x => by
    rw [run_equalIn_int u 9997 2 .i64 .i64 x x Tryz.underlying2]
    simp
  rw [show (9999 : Nat) = 9998 + 1 from rfl, run_equalIn_array u 9998 _ _ Tryz.underlying72 hi, cells2]
  rw [show List.range 8 = [0, 1, 2, 3, 4, 5, 6, 7] from rfl]
  simp only [Op.eqItems, Sem.run_bind, Nat.zero_mul, Nat.mul_one, e0, e1, e2, e3, e4, e5, e6, e7, Result.andThen_ok, eq, Bool.not_true, Bool.false_eq_true, if_false, Sem.run_pure]
theorem ev_eq (e : Ev) (w : World) : (Op.equalIn 10000 75 (.agg (evC e)) (.agg (evC e))).run Tryz.prog w = .ok true w := by
  obtain ⟨ts, id, typ, a0, a1, a2, a3, a4, a5, a6, a7⟩ := e
  have u1 := Tryz.underlying73
  have u2 := Tryz.underlying2
  have u4 := Tryz.underlying3
  have u5 := Tryz.underlying72
  have ae := arr_eq a0 a1 a2 a3 a4 a5 a6 a7
  have hS : Tryz.prog.underlying 75 = some (.struct (Tryz.prog.fieldsOf 75)) := by kernel_rfl
  have hp : Tryz.prog.stoodInHeld 75 = false := by kernel_rfl
  rw [show (10000 : Nat) = 9999 + 1 from rfl, run_equalIn_agg w 9999 75 _ _ hS hp]
  simp only [Program.fieldsOf, Tryz.underlying75, evC]
  go_simp
theorem in_eq (i : Ins) (w : World) : (Op.equalIn 10000 87 (.agg (insC i)) (.agg (insC i))).run Tryz.prog w = .ok true w := by
  obtain ⟨c, it, co, n, tz⟩ := i
  have u1 := Tryz.underlying85
  have u2 := Tryz.underlying2
  have u4 := Tryz.underlying3
  have hS : Tryz.prog.underlying 87 = some (.struct (Tryz.prog.fieldsOf 87)) := by kernel_rfl
  have hp : Tryz.prog.stoodInHeld 87 = false := by kernel_rfl
  rw [show (10000 : Nat) = 9999 + 1 from rfl, run_equalIn_agg w 9999 87 _ _ hS hp]
  simp only [Program.fieldsOf, Tryz.underlying87, insC]
  go_simp
/-- In a region that only reads: a struct is held against one of the same cells. -/
theorem quiet_neq_same {ops : Array Oper} {C : World → Prop} {Q : Act → Prop} {o : Oper} {rest : List Oper} {a : Act} (hw : Region.wanted o (yielded ops a.tmps) = true) (x y : Operand) (T : TypeId) (ho : o.op = .binOp .neq T x y T) (hg : Tryz.prog.eqGuardType Tryz.prog.depth T = false)
    (cs : Array Value) (heq : ∀ w, (Op.equalIn 10000 T (.agg cs) (.agg cs)).run Tryz.prog w = .ok true w) (hx : a.eval x = .agg cs) (hy : a.eval y = .agg cs) (a' : Act) (ha : a.put o.dst (.bool false) = a') (h : wpQuiet Tryz.prog ops C Q rest a') : wpQuiet Tryz.prog ops C Q (o :: rest) a := by
  subst ha
  refine wpQuiet_want hw fun K hK => ⟨.bool false, fun w hC => ?_, hK _ h⟩
  unfold Oper.quietAt execOp
  simp only [ho, hx, hy, Sem.run_bind, Sem.run_pure, run_eqGuard_agg (P := Tryz.prog) w .neq T x y cs cs hg, run_neq_struct, heq, Result.andThen_ok]
  exact ⟨rfl, rfl⟩

def BeyR (l : List (List Ev)) (e : Ending) : Prop := ∃ b, e = .returned (.bool b) ∧ (b = false → ∀ k, (l.getD k []).length ≤ 2147483647)
set_option maxHeartbeats 2000000 in
theorem beyond7_any (l : List (List Ev)) (ao : Option Addr) (cap : Nat) (w : World) (A : Nst w ao evC l) (hl : l.length ≤ 140737488351232) (hn : ∀ k, (l.getD k []).length ≤ 140737488351232) :
    Calls Tryz.prog 7 #[.slice ao l.length cap] w fun e w' => BeyR l e ∧ w = w' := by
  go_enter Tryz.func7, Tryz.ntmps7
  go_wp2
  go_loopw [3, 4] (fun s i wr => ∃ (k m : Nat), k ≤ l.length ∧ s = .int .i64 m ∧ i = .int .i64 k ∧ m ≤ 2147483647 ∧ (∀ j, j < k → (l.getD j []).length ≤ 2147483647) ∧ wr = w) (fun _ i _ => l.length - (intOf i).toNat)
  case atStart => exact ⟨0, 0, Nat.zero_le _, rfl, rfl, by omega, fun j hj => absurd hj (Nat.not_lt_zero _), rfl⟩
  case round =>
    obtain ⟨k, m, hk, rfl, rfl, hm, hall, rfl⟩ := hrel
    by_cases hlt : k < l.length
    · obtain ⟨g, o, a, c, rfl, a0, _, _⟩ := A k hlt
      have hki : (k : Int) < (l.length : Int) := by omega
      have hnk := hn k
      have HAL := show Hid _ from hall
      obtain ⟨x, hx⟩ : ∃ x, (l.getD k []).length = x := ⟨_, rfl⟩
      rw [hx] at a0 hnk
      have HX := show Hid (_ = _) from hx
      clear hx hall A hn
      by_cases hg : (2147483647 : Int) - (m : Int) < (x : Int)
      · go_wp2
        go_ret
        exact ⟨⟨true, rfl, fun h => by cases h⟩, rfl⟩
      · have h3 : m + x ≤ 2147483647 := by omega
        go_wp2
        go_roundw
        case rel =>
          exact ⟨k + 1, m + x, by omega, by go_num, by go_num, h3, fun j hj => by
            by_cases e : j < k
            · exact HAL.out j e
            · obtain rfl : j = k := by omega
              rw [HX.out]; omega, by first | trivial | rfl⟩
        case measure => simp [intOf]; omega
    · obtain rfl : k = l.length := by omega
      have hnk : ¬ ((l.length : Int) < (l.length : Int)) := by omega
      have HAL := show Hid _ from hall
      clear hall
      go_wp2
      go_ret
      refine ⟨⟨false, rfl, fun _ j => ?_⟩, rfl⟩
      by_cases e : j < l.length
      · exact HAL.out j e
      · rw [List.getD_eq_getElem?_getD, List.getElem?_eq_none (by omega)]; simp

end Go.Proofs.YtnolbpekdikamaaGreatDoor
namespace Go.Proofs.YtnolbpekdikamaaGreatDoor
open Go.RowKit Go.BigFrame Go.Proofs.YtnolbpekdikamaaGreatDoor.Ev
set_option linter.unusedVariables false
set_option linter.unusedSimpArgs false

theorem valF_self (k : Bool) (n : Int) (w : World) : (Op.equalIn 10000 51 (.agg #[.bool k, .int .i64 n]) (.agg #[.bool k, .int .i64 n])).run Tryz.prog w = .ok true w := by
  have u1 := Tryz.underlying4
  have u2 := Tryz.underlying2
  have hS : Tryz.prog.underlying 51 = some (.struct (Tryz.prog.fieldsOf 51)) := by kernel_rfl
  have hp : Tryz.prog.stoodInHeld 51 = false := by kernel_rfl
  rw [show (10000 : Nat) = 9999 + 1 from rfl, run_equalIn_agg w 9999 51 _ _ hS hp]
  simp only [Program.fieldsOf, Tryz.underlying51]
  go_simp
/-- In a region that only reads: a value is held against itself. -/
theorem quiet_eql_valF {ops : Array Oper} {C : World → Prop} {Q : Act → Prop} {o : Oper} {rest : List Oper} {a : Act} (hw : Region.wanted o (yielded ops a.tmps) = true) (x y : Operand) (ho : o.op = .binOp .eql 51 x y 51)
    (k : Bool) (n : Int) (hx : a.eval x = .agg #[.bool k, .int .i64 n]) (hy : a.eval y = .agg #[.bool k, .int .i64 n]) (a' : Act) (ha : a.put o.dst (.bool true) = a') (h : wpQuiet Tryz.prog ops C Q rest a') : wpQuiet Tryz.prog ops C Q (o :: rest) a := by
  subst ha
  refine wpQuiet_want hw fun K hK => ⟨.bool true, fun w hC => ?_, hK _ h⟩
  unfold Oper.quietAt execOp
  simp only [ho, hx, hy, Sem.run_bind, Sem.run_pure, run_eqGuard_agg (P := Tryz.prog) w .eql 51 x y #[.bool k, .int .i64 n] #[.bool k, .int .i64 n] (by kernel_rfl), run_eql_struct, valF_self, Result.andThen_ok]
  exact ⟨rfl, rfl⟩
theorem nf_lists : (Tryz.prog.info? 43).map (fun i => (i.zero, i.size, i.bytes)) = some (some (.slice none 0 0), 1, 24) := by kernel_rfl
/-- The loop over the lists: the row so far. -/
structure ChI (w0 u : World) (F : Nat → List (List Ev)) (n : Nat) (v x : Value) (wr : World) : Prop where
  ex : ∃ (k : Nat) (ws : List Value), k ≤ n ∧ x = .int .i64 (k : Int) ∧ Bor w0 wr u.heap.size v (F k) ws ∧ Below u.heap.size u wr
set_option maxRecDepth 100000 in
set_option maxHeartbeats 16000000 in
theorem codeFrame_walk (sa : Option Addr) (sc : Nat) (L : List Ty) (q : Qy) (hq : q.fit) (cs : Array Value) (ai : Option Addr) (ci : Nat) (aw : Option Addr) (cw : Nat) (ar : Option Addr) (cr : Nat) (ns : List Nd) (ao : Option Addr) (cap : Nat) (E : Envr) (al : Option Addr) (cl : Nat) (other : List (List Ev)) (bl : Option Addr) (bc : Nat) (w : World) (K : KwAt w) (T : TbAt w) (A : IsTypes w sa L.length L) (AQ : IsQ w q cs ai ci aw cw ar cr) (AN : IsNds w ao ns) (IE : IsEnv w E al cl) (IO : Nst w bl evC other) (so : Sl bl other.length bc)
    (hE0 : (∀ k, (E.lists.getD k []).length ≤ 2147483647) → E.ok) (hEn : E.lists.length * 24 ≤ 140737488351232) (hEl : ∀ k, (E.lists.getD k []).length * 88 ≤ 140737488351232) (hOn : other.length * 24 ≤ 140737488351232) (hOl : ∀ k, (other.getD k []).length * 88 ≤ 140737488351232 ∧ evsOk (other.getD k [])) (hf : ∀ k, (ns.getD k noNd).fit) (hr : ns.length * 64 ≤ 140737488351232) (hL : L.length * 8 ≤ 140737488351232) :
    Calls Tryz.prog 3 #[.agg #[.slice sa L.length sc], .agg cs, .slice ao ns.length cap, envA al cl E, .slice bl other.length bc] w fun e w' => e = .returned (.bool true) ∧ Below w.heap.size w w' := by
  have hcs := AQ.eq
  subst hcs
  have B1 := galloc (Below.refl w.heap.size w) (.cells #[.slice sa L.length sc] 24)
  have B2 := galloc B1 (.cells #[.slice ai q.items.length ci, .int .i64 q.mode, .int .i64 q.after, .slice aw q.wh.length cw, .int .i64 q.within, .string q.by_, .slice ar q.ret.length cr] 31)
  have B3 := galloc B2 (.cells #[.slice al E.lists.length cl, .int .i64 E.each, .int .i64 E.at_] 34)
  have k1 := ((Bk.new w #[.slice sa L.length sc] 24).alloc (.cells #[.slice ai q.items.length ci, .int .i64 q.mode, .int .i64 q.after, .slice aw q.wh.length cw, .int .i64 q.within, .string q.by_, .slice ar q.ret.length cr] 31)).alloc (.cells #[.slice al E.lists.length cl, .int .i64 E.each, .int .i64 E.at_] 34)
  have k2 := (Bk.newE (w := w.alloc (.cells #[.slice sa L.length sc] 24)) (g := w.heap.size + 1) (by simp) #[.slice ai q.items.length ci, .int .i64 q.mode, .int .i64 q.after, .slice aw q.wh.length cw, .int .i64 q.within, .string q.by_, .slice ar q.ret.length cr] 31).alloc (.cells #[.slice al E.lists.length cl, .int .i64 E.each, .int .i64 E.at_] 34)
  have k3 := Bk.newE (w := (w.alloc (.cells #[.slice sa L.length sc] 24)).alloc (.cells #[.slice ai q.items.length ci, .int .i64 q.mode, .int .i64 q.after, .slice aw q.wh.length cw, .int .i64 q.within, .string q.by_, .slice ar q.ret.length cr] 31)) (g := w.heap.size + 2) (by simp) #[.slice al E.lists.length cl, .int .i64 E.each, .int .i64 E.at_] 34
  go_enter Tryz.func3, Tryz.ntmps3
  go_upto_region 1 with fail
  generalize ((w.alloc _).alloc _).alloc _ = V at *
  obtain ⟨q0, q1, q2, q3, q4, q5, q6⟩ := k2.at7
  have c1 := qBeyond_any q hq _ ai ci aw cw ar cr V (AQ.keep B3)
  have c2 := fun (u : World) (g : Below w.heap.size w u) => beyond_any ns ao cap u (AN.keep g) hr hf
  have c3 := fun (u : World) (g : Below w.heap.size w u) => beyond7_any E.lists al cl u (IE.n.keep g) (by omega) (fun k => by have := hEl k; omega)
  have c4 := fun (u : World) (g : Below w.heap.size w u) => beyond7_any other bl bc u (IO.keep g) (by omega) (fun k => by have := (hOl k).1; omega)
  go_upto_region 3 with (first
    | (go_at_call 5; (with_reducible refine c1.mono ?_); rintro e u1 ⟨bb, rfl, g1⟩; have G1 := gtrans B3 g1; have Q3 := k3.keep g1; obtain ⟨t0, t1, t2⟩ := Q3.at3; cases bb)
    | (go_at_call 6; (with_reducible refine (c2 _ G1).mono ?_); rintro e u2 ⟨bb, rfl, g2⟩; have G2 := gtrans G1 g2; have P3 := Q3.keep g2; obtain ⟨s0, s1, s2⟩ := P3.at3; cases bb)
    | (go_at_call 7; (with_reducible refine (c3 _ G2).mono ?_); rintro e u3 ⟨⟨bb, rfl, hbb⟩, rfl⟩; cases bb)
    | (go_at_call 7; (with_reducible refine (c4 _ G2).mono ?_); rintro e u4 ⟨⟨bb, rfl, hbo⟩, rfl⟩; cases bb))
  all_goals try (go_ret; (first | exact ⟨rfl, G1⟩ | exact ⟨rfl, G2⟩))
  have hE := hE0 (hbb (by first | trivial | rfl))
  have hOb := hbo (by first | trivial | rfl)
  have ca := awake_any _ (K.keep G2) (T.keep G2)
  go_upto_region 5 with (first
    | (go_at_call 8; (with_reducible refine ca.mono ?_); rintro e u4 ⟨rfl, g4⟩))
  have G4 := gtrans G2 g4
  have j1 := ((k1.keep g1).keep g2).keep g4
  have j2 := ((k2.keep g1).keep g2).keep g4
  have j3 := ((k3.keep g1).keep g2).keep g4
  clear k1 k2 k3 c1 c2 c3 c4 ca q0 q1 q2 q3 q4 q5 q6 t0 t1 t2 s0 s1 s2 Q3 P3 g1 g2 g4 G1 G2 hbb hbo B1 B2 B3
  have cU := uses_any q hq ns hr hf _ ai ci aw cw ar cr ao cap u4 (AQ.keep G4) (AN.keep G4)
  obtain ⟨ba, hba⟩ : ∃ l, useK q.items baB ns q.items.length = l := ⟨_, rfl⟩
  obtain ⟨ag, hag⟩ : ∃ l, useK q.items agB ns q.items.length = l := ⟨_, rfl⟩
  obtain ⟨pa, hpa⟩ : ∃ l, useK q.items (· == 11) ns q.items.length = l := ⟨_, rfl⟩
  have lba : ba.length ≤ 9223372036854775807 := by rw [← hba]; have := useK_len q.items baB ns q.items.length; have := hq.n; omega
  have lag : ag.length ≤ 9223372036854775807 := by rw [← hag]; have := useK_len q.items agB ns q.items.length; have := hq.n; omega
  have HV : Hid (chgV q ns E other = ⟨chgE ag ba other E.lists E.each, E.each, E.at_⟩) := by
    show chgV q ns E other = _
    unfold chgV
    rw [hba, hag]
  rw [hba, hag, hpa] at cU
  clear hba hag hpa
  obtain ⟨q0, q1, q2, q3, q4, q5, q6⟩ := j2.at7
  go_upto_region 6 with (go_at_call 9; (with_reducible refine cU.mono ?_); rintro e u5 ⟨cu, rfl, ⟨⟨a1, d1, a2, d2, a3, d3, rfl, I1, I2, I3⟩⟩, g5⟩)
  have h5 := galloc g5 (.cells #[.slice a1 ba.length d1, .slice a2 pa.length d2, .slice a3 ag.length d3] 41)
  have UB := Bk.new u5 #[.slice a1 ba.length d1, .slice a2 pa.length d2, .slice a3 ag.length d3] 41
  have J1 := I1.keep (galloc (Below.refl u5.heap.size u5) (.cells #[.slice a1 ba.length d1, .slice a2 pa.length d2, .slice a3 ag.length d3] 41))
  have J3 := I3.keep (galloc (Below.refl u5.heap.size u5) (.cells #[.slice a1 ba.length d1, .slice a2 pa.length d2, .slice a3 ag.length d3] 41))
  have G5 := gtrans G4 h5
  have i1 := j1.keep h5
  have i2 := j2.keep h5
  have i3 := j3.keep h5
  clear q0 q1 q2 q3 q4 q5 q6 cU g5 h5 I1 I2 I3 j1 j2 j3 G4
  generalize u5.alloc _ = U at *
  generalize u5.heap.size = bu at *
  go_upto_region 8 with fail
  go_loopw [12, 13, 14] (fun v x _ wr => ChI w U (chgK ag ba other E.lists E.each) E.lists.length v x wr) (fun _ x _ _ => E.lists.length - (intOf x).toNat)
  case atStart => exact ⟨⟨0, [], Nat.zero_le _, rfl, Bor.nil _ _ _, Below.refl _ _⟩⟩
  case round =>
    obtain ⟨⟨k, ws, hk, rfl, N, G⟩⟩ := hrel
    have GW := gtrans G5 G
    obtain ⟨t0, t1, t2⟩ := (i3.keep G).at3
    obtain ⟨z0, z1, z2⟩ := (UB.keep G).at3
    by_cases hlt : k < E.lists.length
    · have hki : (k : Int) < (E.lists.length : Int) := by omega
      obtain ⟨g, og, a, c, rfl, x0, hfl, hsl⟩ := (IE.n.keep GW) k hlt
      have cA := has_any ag (k : Int) lag a3 d3 wr (J3.keep G)
      have cB := has_any ba (k : Int) lba a1 d1 wr (J1.keep G)
      have hfl0 : Flat w a (fl evC (E.lists.getD k [])) := by
        obtain ⟨g', og', a', c', e', x0', hfl', _⟩ := IE.n k hlt
        cases e'
        have := ((GW.cell (p := ⟨g, og + k, none⟩) (lt_of_cell x0')).trans x0').symm.trans x0
        cases this
        exact hfl'
      obtain ⟨lk, hlk⟩ : ∃ l, E.lists.getD k [] = l := ⟨_, rfl⟩
      have HLK : Hid (E.lists.getD k [] = lk) := hlk
      rw [hlk] at x0 hfl hsl hfl0
      have hlen : lk.length ≤ 2147483647 := by rw [← hlk]; exact hE.b k
      clear hlk
      -- the list of this item
      obtain ⟨lf, hlf⟩ : ∃ l, chgL ag ba other E.each k lk = l := ⟨_, rfl⟩
      go_upto_region 10 with fail
      go_cut [14] from 48 to 52 (fun s14 wx => s14 = .slice a lk.length c ∧ wx = wr)
      case first =>
        go_wp2
        go_meet
        case rel => exact ⟨rfl, rfl⟩
      obtain ⟨rfl, hwx⟩ := hcut
      have hwx' := hwx.symm
      subst hwx'
      clear hwx x0
      go_step
      go_step
      go_cut [14] from 53 to 82 (fun s14 wx => (∃ a c, s14 = .slice a lf.length c ∧ Flat w a (fl evC lf) ∧ Sl a lf.length c) ∧ wx = wr)
      case first =>
        unfold chgL at hlf
        have same : lk = lf → ∃ a' c', Value.slice a lk.length c = .slice a' lf.length c' ∧ Flat w a' (fl evC lf) ∧ Sl a' lf.length c' := fun e => by subst e; exact ⟨a, c, rfl, hfl0, hsl⟩
        cases h1 : hasI ag (k : Int) with
        | true =>
          rw [h1] at cA
          rw [if_pos (.inl h1)] at hlf
          have fin := same hlf
          clear same hlf hfl hfl0 hsl
          go_wp2_with (go_at_call 10; (with_reducible refine cA.mono ?_); rintro e _ ⟨rfl, rfl⟩)
          go_meet
          case rel => exact ⟨fin, rfl⟩
        | false =>
          rw [h1] at cA
          by_cases he : (k : Int) = E.each
          · rw [if_pos (.inr he)] at hlf
            have fin := same hlf
            rw [← he] at t1
            clear same hlf hfl hfl0 hsl he
            go_wp2_with (go_at_call 10; (with_reducible refine cA.mono ?_); rintro e _ ⟨rfl, rfl⟩)
            go_meet
            case rel => exact ⟨fin, rfl⟩
          · rw [if_neg (fun h => by rcases h with h | h; rw [h1] at h; cases h; exact he h)] at hlf
            cases h2 : hasI ba (k : Int) with
            | true =>
              rw [h2] at cB
              rw [if_pos h2] at hlf
              by_cases h3 : 1 < lk.length
              · rw [if_pos h3] at hlf
                have h31 : (1 : Int) < (lk.length : Int) := by omega
                have hlt1 : (lk.take 1).length = 1 := by rw [List.length_take]; omega
                have hcc : (1 : Int) ≤ (c : Int) := by have := hsl.1; omega
                have hcc2 : (1 : Int) ≤ (lk.length : Int) := by omega
                have hft : Flat w a (fl evC (lk.take 1)) := fun j u hu => hfl0 j u (by
                  obtain ⟨t, ht⟩ : ∃ t, fl evC lk = fl evC (lk.take 1) ++ t := ⟨fl evC (lk.drop 1), by rw [← fl_app, List.take_append_drop]⟩
                  rw [ht, List.getElem?_append_left (List.getElem?_eq_some_iff.1 hu).1]
                  exact hu)
                have fin : ∃ a' c', Value.slice a 1 c = .slice a' lf.length c' ∧ Flat w a' (fl evC lf) ∧ Sl a' lf.length c' := by
                  rw [← hlf, hlt1]
                  exact ⟨a, c, rfl, hft, ⟨by have := hsl.1; omega, fun h => by have := hsl.2 h; omega⟩⟩
                clear same hlf hft hfl hfl0 hsl
                go_wp2_with (first | (go_at_call 10; (with_reducible refine cA.mono ?_); rintro e _ ⟨rfl, rfl⟩) | (go_at_call 10; (with_reducible refine cB.mono ?_); rintro e _ ⟨rfl, rfl⟩))
                go_meet
                case rel => exact ⟨fin, rfl⟩
              · rw [if_neg h3] at hlf
                have h31 : ¬ (1 : Int) < (lk.length : Int) := by omega
                have fin := same hlf
                clear same hlf hfl hfl0 hsl
                go_wp2_with (first | (go_at_call 10; (with_reducible refine cA.mono ?_); rintro e _ ⟨rfl, rfl⟩) | (go_at_call 10; (with_reducible refine cB.mono ?_); rintro e _ ⟨rfl, rfl⟩))
                go_meet
                case rel => exact ⟨fin, rfl⟩
            | false =>
              rw [h2] at cB
              rw [if_neg (by rw [h2]; decide)] at hlf
              by_cases h3 : k < other.length
              · rw [if_pos h3] at hlf
                have h31 : (k : Int) < (other.length : Int) := by omega
                obtain ⟨g9, o9, a9, c9, rfl, y0, _, hs9⟩ := (IO.keep GW) k h3
                have hf9 : Flat w a9 (fl evC (other.getD k [])) := by
                  obtain ⟨g', og', a', c', e', x0', hfl', _⟩ := IO k h3
                  cases e'
                  have := ((GW.cell (p := ⟨g9, o9 + k, none⟩) (lt_of_cell x0')).trans x0').symm.trans y0
                  cases this
                  exact hfl'
                have fin : ∃ a' c', Value.slice a9 (other.getD k []).length c9 = .slice a' lf.length c' ∧ Flat w a' (fl evC lf) ∧ Sl a' lf.length c' := by
                  rw [← hlf]
                  exact ⟨a9, c9, rfl, hf9, hs9⟩
                clear same hlf hf9 hs9 hfl hfl0 hsl
                generalize other.getD k [] = lo at *
                go_wp2_with (first | (go_at_call 10; (with_reducible refine cA.mono ?_); rintro e _ ⟨rfl, rfl⟩) | (go_at_call 10; (with_reducible refine cB.mono ?_); rintro e _ ⟨rfl, rfl⟩))
                go_meet
                case rel => exact ⟨fin, rfl⟩
              · rw [if_neg h3] at hlf
                have h31 : ¬ (k : Int) < (other.length : Int) := by omega
                have fin : ∃ a' c', Value.slice none 0 0 = .slice a' lf.length c' ∧ Flat w a' (fl evC lf) ∧ Sl a' lf.length c' := by
                  rw [← hlf]
                  exact ⟨none, 0, rfl, Flat.nil _ _, ⟨Nat.le_refl _, fun _ => ⟨rfl, rfl⟩⟩⟩
                clear same hlf hfl hfl0 hsl
                go_wp2_with (first | (go_at_call 10; (with_reducible refine cA.mono ?_); rintro e _ ⟨rfl, rfl⟩) | (go_at_call 10; (with_reducible refine cB.mono ?_); rintro e _ ⟨rfl, rfl⟩))
                go_meet
                case rel => exact ⟨fin, rfl⟩
      case rest =>
        obtain ⟨⟨a', c', rfl, hfl', hsl'⟩, hwx⟩ := hcut
        have hwx' := hwx.symm
        subst hwx'
        clear hwx cA cB hfl hsl hfl0 t0 t1 t2 z0 z1 z2
        have hst := chgK_succ ag ba other E.lists E.each k
        rw [HLK.out] at hst
        have hlK := chgK_len ag ba other E.lists E.each k
        have HF : Hid (chgK ag ba other E.lists E.each (k + 1) = chgK ag ba other E.lists E.each k ++ [lf]) := by rw [← hlf]; exact hst
        clear hst hlf
        obtain ⟨av, cv, rfl, _, _, _⟩ := own_form N.own
        have OW := N.own
        rw [hlK] at OW
        obtain ⟨i9, hj, hy0, hy1, hy2⟩ := nf_info nf_lists
        rw [hlK]
        go_wp2_with (at_builtin; refine wpList_append_own _ rfl (.tmp 83) (.tmp 85) 32 rfl U.heap.size 43 i9 (.slice none 0 0) 1 24 Tryz.underlying32 hj hy0 hy1 hy2 rfl (by decide) _ _ _ rfl (OW.alloc _) ⟨wr.heap.size, 0, none⟩ 1 1 [_] rfl rfl (one_newE rfl _ _) (fun u hu => by simp at hu; subst hu; rfl) ?c3 ?c4 ?c5 ?_)
        case c3 => unfold maxLen; omega
        case c4 => omega
        case c5 => have := G.size; simp; omega
        intro v' w2 own' hgrow _
        have ge := galloc G (.cells #[.slice a' lf.length c'] 43)
        have OE2 := OW.alloc (.cells #[.slice a' lf.length c'] 43)
        have G2 : Below U.heap.size U w2 := ge.grown hgrow (by have := G.size; simp; omega) (fun r e => by have := (OE2.lt _ e).1; omega)
        have N2 := N.snoc lf a' c' hfl' hsl' (by rw [hlK]; exact own')
        rw [← HF.out] at N2
        have fin : ChI w U (chgK ag ba other E.lists E.each) E.lists.length v' (.int .i64 ((k : Int) + 1)) w2 := ⟨⟨k + 1, _, by omega, by go_num, N2, G2⟩⟩
        clear own' hgrow N2 G2 OE2 OW N ge hfl' hsl'
        go_wp2
        go_roundw
        case rel => exact fin
        case measure => simp [intOf]; omega
    · obtain ⟨n, hn⟩ : ∃ n, E.lists.length = n := ⟨_, rfl⟩
      have hkn : k = n := by omega
      subst hkn
      have HNN := show Hid (_ = _) from hn
      have hki : ¬ (k : Int) < (k : Int) := by omega
      have hki2 : ¬ (k : Int) < (E.lists.length : Int) := by omega
      clear hn
      have hlK := chgK_len ag ba other E.lists E.each k
      obtain ⟨av, cv, rfl, _, _, hov⟩ := own_form N.own
      rw [hlK] at hov N ⊢
      have cP := has_any ba E.each lba a1 d1 wr (J1.keep G)
      have cQ := has_any ag E.each lag a3 d3 wr (J3.keep G)
      go_upto_region 19 with fail
      obtain ⟨tb, htb⟩ : ∃ tb, chgB ag ba other E.lists E.each = tb := ⟨_, rfl⟩
      go_cut [119] from 87 to 119 (fun s119 wx => s119 = .bool tb ∧ wx = wr)
      case first =>
        by_cases e1 : 0 ≤ E.each
        · by_cases e2 : E.each < (k : Int)
          · cases h3 : hasI ba E.each with
            | true =>
              have fin : tb = false := by rw [← htb]; unfold chgB; rw [h3]; simp
              rw [h3] at cP
              clear htb N
              go_wp2_with (go_at_call 10; (with_reducible refine cP.mono ?_); rintro e _ ⟨rfl, rfl⟩)
              go_meet
              case rel => exact ⟨by rw [fin], rfl⟩
            | false =>
              rw [h3] at cP
              cases h4 : hasI ag E.each with
              | true =>
                have fin : tb = false := by rw [← htb]; unfold chgB; rw [h4]; simp
                rw [h4] at cQ
                clear htb N
                go_wp2_with (first | (go_at_call 10; (with_reducible refine cP.mono ?_); rintro e _ ⟨rfl, rfl⟩) | (go_at_call 10; (with_reducible refine cQ.mono ?_); rintro e _ ⟨rfl, rfl⟩))
                go_meet
                case rel => exact ⟨by rw [fin], rfl⟩
              | false =>
                rw [h4] at cQ
                by_cases e5 : E.each < (other.length : Int)
                · have fin : tb = true := by
                    rw [← htb]
                    unfold chgB
                    rw [h3, h4, HNN.out, decide_eq_true e1, decide_eq_true e2, decide_eq_true e5]
                    rfl
                  clear htb N
                  go_wp2_with (first | (go_at_call 10; (with_reducible refine cP.mono ?_); rintro e _ ⟨rfl, rfl⟩) | (go_at_call 10; (with_reducible refine cQ.mono ?_); rintro e _ ⟨rfl, rfl⟩))
                  go_meet
                  case rel => exact ⟨by rw [fin], rfl⟩
                · have e5' := decide_eq_false e5
                  have fin : tb = false := by rw [← htb]; unfold chgB; rw [decide_eq_false e5]; simp
                  clear htb N
                  go_wp2_with (first | (go_at_call 10; (with_reducible refine cP.mono ?_); rintro e _ ⟨rfl, rfl⟩) | (go_at_call 10; (with_reducible refine cQ.mono ?_); rintro e _ ⟨rfl, rfl⟩))
                  go_meet
                  case rel => exact ⟨by rw [fin], rfl⟩
          · have fin : tb = false := by rw [← htb]; unfold chgB; rw [HNN.out, decide_eq_false e2]; simp
            clear htb N
            go_wp2
            go_meet
            case rel => exact ⟨by rw [fin], rfl⟩
        · have fin : tb = false := by rw [← htb]; unfold chgB; rw [decide_eq_false e1]; simp
          clear htb N
          go_wp2
          go_meet
          case rel => exact ⟨by rw [fin], rfl⟩
      obtain ⟨rfl, hwx⟩ := hcut
      have hwx' := hwx.symm
      subst hwx'
      clear hwx cP cQ
      go_step
      go_cut [] from 120 to 128 (fun wx => (∃ ws', Bor w wx U.heap.size (.slice av k cv) (chgE ag ba other E.lists E.each) ws') ∧ Below U.heap.size U wx)
      case first =>
        cases tb with
        | false =>
          have fin : (∃ ws', Bor w wr U.heap.size (.slice av k cv) (chgE ag ba other E.lists E.each) ws') ∧ Below U.heap.size U wr := ⟨⟨ws, by unfold chgE; rw [htb, HNN.out]; exact N⟩, G⟩
          clear N htb
          go_wp2
          go_meet
          case rel => exact fin
        | true =>
          have hb := htb
          unfold chgB at hb
          simp only [Bool.and_eq_true, decide_eq_true_eq, Bool.not_eq_true'] at hb
          obtain ⟨⟨⟨⟨e1, e2⟩, _⟩, _⟩, e5⟩ := hb
          obtain ⟨j, hj⟩ : ∃ j : Nat, E.each = (j : Int) := ⟨E.each.toNat, by omega⟩
          have hjk : j < k := by omega
          have hjo : j < other.length := by omega
          have hjk2 : (j : Int) < (k : Int) := by omega
          have hjo2 : (j : Int) < (other.length : Int) := by omega
          rw [hj] at t1
          obtain ⟨gv, hgv⟩ : ∃ gv, av = some ⟨gv, 0, none⟩ ∧ U.heap.size ≤ gv := by
            rcases hov with h | ⟨gv, h1, _, h2⟩
            · omega
            · exact ⟨gv, h1, h2⟩
          obtain ⟨rfl, hbv⟩ := hgv
          obtain ⟨g9, o9, a9, c9, rfl, y0, _, hs9⟩ := (IO.keep GW) j hjo
          have hf9 : Flat w a9 (fl evC (other.getD j [])) := by
            obtain ⟨g', og', a', c', e', x0', hfl', _⟩ := IO j hjo
            cases e'
            have := ((GW.cell (p := ⟨g9, o9 + j, none⟩) (lt_of_cell x0')).trans x0').symm.trans y0
            cases this
            exact hfl'
          have N' : Bor w wr U.heap.size (.slice (some ⟨gv, 0, none⟩) (chgK ag ba other E.lists E.each k).length cv) (chgK ag ba other E.lists E.each k) ws := by rw [hlK]; exact N
          obtain ⟨ao0, co0, ew, _, _⟩ := N'.inn j (by rw [hlK]; exact hjk)
          have y1 := World.ownsRow.cellAt N'.own j (by rw [hlK, Nat.mul_one]; exact hjk)
          rw [ew] at y1
          have y2 := own_free1 N'.own j
          have NS := N'.set j (by rw [hlK]; exact hjk) (other.getD j []) a9 c9 hf9 hs9
          rw [hlK] at NS
          have GS := gset G (p := ⟨gv, j, none⟩) hbv (.slice a9 (other.getD j []).length c9)
          have HE : chgE ag ba other E.lists E.each = (chgK ag ba other E.lists E.each k).set j (other.getD j []) := by unfold chgE; rw [if_pos htb, hj, HNN.out, Int.toNat_natCast]
          rw [← HE] at NS
          have fin : ∀ X, (X = wr ∨ X = wr.drew) → (∃ ws', Bor w (X.setCell ⟨gv, j, none⟩ (.slice a9 (other.getD j []).length c9)) U.heap.size (.slice (some ⟨gv, 0, none⟩) k cv) (chgE ag ba other E.lists E.each) ws') ∧ Below U.heap.size U (X.setCell ⟨gv, j, none⟩ (.slice a9 (other.getD j []).length c9)) := fun X hX => by
            rcases hX with rfl | rfl
            · exact ⟨⟨_, NS⟩, GS⟩
            · exact ⟨⟨_, ⟨NS.len, NS.own, NS.inn⟩⟩, gset G.drew (p := ⟨gv, j, none⟩) hbv _⟩
          have fin2 : (∃ ws', Bor w (wr.setCell ⟨gv, j, none⟩ (.slice a9 (other.getD j []).length c9)).drew U.heap.size (.slice (some ⟨gv, 0, none⟩) k cv) (chgE ag ba other E.lists E.each) ws') ∧ Below U.heap.size U (wr.setCell ⟨gv, j, none⟩ (.slice a9 (other.getD j []).length c9)).drew := ⟨⟨_, ⟨NS.len, NS.own, NS.inn⟩⟩, GS.drew⟩
          clear N N' NS GS HE htb ew hj e1 e2 e5
          generalize other.getD j [] = lo at *
          go_wp2
          go_region
          all_goals
            go_wp2
            go_meet
            case rel => first | exact fin _ (.inl rfl) | exact fin2
      case rest =>
        obtain ⟨⟨ws', N7⟩, G7⟩ := hcut
        clear t0 t1 t2 z0 z1 z2 N hov hlK hki hki2 GW htb
        have hEl' : (chgE ag ba other E.lists E.each).length = k := by rw [chgE_len]; exact HNN.out
        have hall := fun j => chgE_all ag ba other E.lists E.each (Pq := fun l => l.length * 88 ≤ 140737488351232 ∧ evsOk l ∧ l.length ≤ 2147483647) ⟨by simp, fun k => by simp; exact zeroE_ok, by simp⟩ (fun j => ⟨hEl j, hE.e j, hE.b j⟩) (fun j => ⟨by have := hEl j; rw [List.length_take]; omega, fun i => by
          rw [List.getD_eq_getElem?_getD, List.getElem?_take]
          split
          · rw [← List.getD_eq_getElem?_getD]; exact hE.e j i
          · exact zeroE_ok, by have := hE.b j; rw [List.length_take]; omega⟩) (fun j => ⟨(hOl j).1, (hOl j).2, hOb j⟩) j
        have hE' : (⟨chgE ag ba other E.lists E.each, E.each, E.at_⟩ : Envr).ok := ⟨by show (chgE ag ba other E.lists E.each).length * 24 ≤ _; rw [hEl', ← HNN.out]; exact hE.n, fun j => (hall j).1, fun j => (hall j).2.1, hE.f0, hE.f1, fun j => (hall j).2.2⟩
        have hR' := frame_run L q ns E other
        have hX' := frame_eval L q ns E other
        rw [HV.out] at hR' hX'
        generalize chgE ag ba other E.lists E.each = ls' at *
        subst hEl'
        obtain ⟨E', hEE⟩ : ∃ E', (⟨ls', E.each, E.at_⟩ : Envr) = E' := ⟨_, rfl⟩
        have e1 : E'.lists = ls' := by rw [← hEE]
        have e2 : E'.each = E.each := by rw [← hEE]
        have e3 : E'.at_ = E.at_ := by rw [← hEE]
        rw [hEE] at hE' hR' hX'
        clear hEE hall HV
        have G8 := gtrans G5 G7
        have IE' : IsEnv wc E' av cv := ⟨by rw [e1]; exact N7.nst G8, by rw [e1]; exact own_sl N7.own⟩
        rw [← e1]
        have i1 := i1.keep G7
        have i2 := i2.keep G7
        have i3 := i3.keep G7
        clear N7 G7 UB J1 J3 G
        obtain ⟨t0, t1, t2⟩ := i3.at3
        have hok := cmpG_ok L q hf hr hL
        obtain ⟨P, hP⟩ : ∃ P, cmpG L q ns = P := ⟨_, rfl⟩
        obtain ⟨⟨⟨rk, rn⟩, rc⟩, hR⟩ : ∃ x, runV P E = x := ⟨_, rfl⟩
        obtain ⟨⟨xk, xn⟩, hX⟩ : ∃ x, evalV L q E ns = x := ⟨_, rfl⟩
        rw [hP] at hok hR'
        rw [hR] at hR'
        rw [hX] at hX'
        have cC := fun (u : World) (g : Below w.heap.size w u) => Calls.mono (compile_any sa sc L q hq _ ai ci aw cw ar cr ns ao cap u (K.keep g) (A.keep g) (AQ.keep g) (AN.keep g) hf hr hL) fun e w' h => h.pr
        rw [hP] at cC
        have cR := fun (u : World) (pi : Option Addr) (pci : Nat) (pc : Option Addr) (pcc : Nat) (IP : IsPr u P pi pci pc pcc) (g : Below w.heap.size w u) => run_any P hok E hE pi pci pc pcc al cl u IP (IE.keep g) (T.keep g)
        have cS := fun (u : World) (pi : Option Addr) (pci : Nat) (pc : Option Addr) (pcc : Nat) (IP : IsPr u P pi pci pc pcc) (I : IsEnv u E' av cv) (g : Below w.heap.size w u) => run_any P hok E' hE' pi pci pc pcc av cv u IP I (T.keep g)
        have cE := fun (u : World) (g : Below w.heap.size w u) => eval_any sa sc L q hq _ ai ci aw cw ar cr ns ao cap E al cl u (K.keep g) (T.keep g) (A.keep g) (AQ.keep g) (AN.keep g) (IE.keep g) hf hr hE
        have cF := fun (u : World) (g : Below w.heap.size w u) (I : IsEnv u E' av cv) => eval_any sa sc L q hq _ ai ci aw cw ar cr ns ao cap E' av cv u (K.keep g) (T.keep g) (A.keep g) (AQ.keep g) (AN.keep g) I hf hr hE'
        rw [hR] at cR
        rw [hR'] at cS
        rw [hX] at cE
        rw [hX'] at cF
        unfold prgA at cC cR cS
        unfold envA at cF cS cE cR
        rw [e2, e3] at cF cS
        clear hR hR' hX hX' hP e1 e2 e3 hE hE' hE0 hOb hOl hEl hEn hOn IO so K T A AQ AN IE
        go_upto_region 22 with fail
        have h6 := galloc (Below.refl wc.heap.size wc) (.cells #[.slice av E'.lists.length cv, .int .i64 E.each, .int .i64 E.at_] 34)
        have EB := Bk.new wc #[.slice av E'.lists.length cv, .int .i64 E.each, .int .i64 E.at_] 34
        have IE6 := IE'.keep h6
        have G9 := gtrans G8 h6
        have i1 := i1.keep h6
        have i2 := i2.keep h6
        have i3 := i3.keep h6
        clear t0 t1 t2 IE' h6 G8
        generalize wc.alloc _ = X at *
        generalize wc.heap.size = be at *
        have c0 := i1.one1
        obtain ⟨q0, q1, q2, q3, q4, q5, q6⟩ := i2.at7
        have cC1 := cC X G9
        go_upto_region 23 with (go_at_call 11; (with_reducible refine cC1.mono ?_); rintro e u6 ⟨pi, pci, pc, pcc, pws, rfl, IP, g6, _, _⟩)
        have h6 := galloc g6 (.cells #[.slice pi P.code.length pci, .slice pc P.cols.length pcc] 48)
        have PB := Bk.new u6 #[.slice pi P.code.length pci, .slice pc P.cols.length pcc] 48
        have IP6 := IP.keep (galloc (Below.refl u6.heap.size u6) (.cells #[.slice pi P.code.length pci, .slice pc P.cols.length pcc] 48))
        have i1 := i1.keep h6
        have i2 := i2.keep h6
        have i3 := i3.keep h6
        have EB := EB.keep h6
        have IE6 := IE6.keep h6
        have G9 := gtrans G9 h6
        clear c0 q0 q1 q2 q3 q4 q5 q6 cC cC1 IP g6 h6
        generalize u6.alloc _ = X6 at *
        generalize u6.heap.size = bp at *
        obtain ⟨t0, t1, t2⟩ := i3.at3
        obtain ⟨p0, p1⟩ := PB.at2
        have cR1 := cR X6 pi pci pc pcc IP6 G9
        go_upto_region 24 with (go_at_call 12; (with_reducible refine cR1.mono ?_); rintro e u7 ⟨rfl, g7⟩)
        have h7 := galloc g7 (.cells #[.bool rk, .int .i64 rn] 51)
        have VB := Bk.new u7 #[.bool rk, .int .i64 rn] 51
        have i1 := i1.keep h7
        have i2 := i2.keep h7
        have i3 := i3.keep h7
        have EB := EB.keep h7
        have IE6 := IE6.keep h7
        have PB := PB.keep h7
        have IP6 := IP6.keep h7
        have G9 := gtrans G9 h7
        clear t0 t1 t2 p0 p1 cR cR1 g7 h7
        generalize u7.alloc _ = X7 at *
        generalize u7.heap.size = bv at *
        obtain ⟨m0, m1, m2⟩ := EB.at3
        obtain ⟨p0, p1⟩ := PB.at2
        have cS1 := cS X7 pi pci pc pcc IP6 IE6 G9
        go_upto_region 25 with (go_at_call 12; (with_reducible refine cS1.mono ?_); rintro e u8 ⟨rfl, g8⟩)
        have h8 := galloc g8 (.cells #[.bool rk, .int .i64 rn] 51)
        have WB := Bk.new u8 #[.bool rk, .int .i64 rn] 51
        have i1 := i1.keep h8
        have i2 := i2.keep h8
        have i3 := i3.keep h8
        have EB := EB.keep h8
        have IE6 := IE6.keep h8
        have VB := VB.keep h8
        have G9 := gtrans G9 h8
        clear m0 m1 m2 p0 p1 cS cS1 g8 h8 PB IP6
        generalize u8.alloc _ = X8 at *
        generalize u8.heap.size = bw at *
        have s0 := i1.one1
        obtain ⟨q0, q1, q2, q3, q4, q5, q6⟩ := i2.at7
        obtain ⟨t0, t1, t2⟩ := i3.at3
        obtain ⟨m0, m1, m2⟩ := EB.at3
        obtain ⟨v0, v1⟩ := VB.at2
        obtain ⟨x0, x1⟩ := WB.at2
        have hne0 : Nonempty (Ext X8) := ⟨⟨_, Below.refl _ _⟩⟩
        have ps0 := fun z : Ext X8 => (z.cell _ _ (lt_of_cell s0)).trans s0
        have pq0 := fun z : Ext X8 => (z.cell _ _ (lt_of_cell q0)).trans q0
        have pq1 := fun z : Ext X8 => (z.cell _ _ (lt_of_cell q1)).trans q1
        have pq2 := fun z : Ext X8 => (z.cell _ _ (lt_of_cell q2)).trans q2
        have pq3 := fun z : Ext X8 => (z.cell _ _ (lt_of_cell q3)).trans q3
        have pq4 := fun z : Ext X8 => (z.cell _ _ (lt_of_cell q4)).trans q4
        have pq5 := fun z : Ext X8 => (z.cell _ _ (lt_of_cell q5)).trans q5
        have pq6 := fun z : Ext X8 => (z.cell _ _ (lt_of_cell q6)).trans q6
        have pt0 := fun z : Ext X8 => (z.cell _ _ (lt_of_cell t0)).trans t0
        have pt1 := fun z : Ext X8 => (z.cell _ _ (lt_of_cell t1)).trans t1
        have pt2 := fun z : Ext X8 => (z.cell _ _ (lt_of_cell t2)).trans t2
        have pm0 := fun z : Ext X8 => (z.cell _ _ (lt_of_cell m0)).trans m0
        have pm1 := fun z : Ext X8 => (z.cell _ _ (lt_of_cell m1)).trans m1
        have pm2 := fun z : Ext X8 => (z.cell _ _ (lt_of_cell m2)).trans m2
        have pv0 := fun z : Ext X8 => (z.cell _ _ (lt_of_cell v0)).trans v0
        have pv1 := fun z : Ext X8 => (z.cell _ _ (lt_of_cell v1)).trans v1
        have px0 := fun z : Ext X8 => (z.cell _ _ (lt_of_cell x0)).trans x0
        have px1 := fun z : Ext X8 => (z.cell _ _ (lt_of_cell x1)).trans x1
        have y1 := fun z : Ext X8 => ext_of (W := X8) (n := z) (cE z.X (gtrans G9 z.h))
        have y2 := fun z : Ext X8 => ext_of (W := X8) (n := z) (cF z.X (gtrans G9 z.h) (IE6.keep z.h))
        have GG := G9
        clear cE cF
        go_upto_region 25 with fail
        refine wp_region_ext (by kernel_rfl) (by kernel_rfl) ?_
        repeat (first
          | (refine quiet_eql_valF rfl _ _ rfl rk rn rfl rfl _ rfl ?_; simp only [Act.put, List.setIfInBounds_toArray, List.set_cons_succ, List.set_cons_zero])
          | (refine quiet_eql_valF rfl _ _ rfl xk xn rfl rfl _ rfl ?_; simp only [Act.put, List.setIfInBounds_toArray, List.set_cons_succ, List.set_cons_zero])
          | go_big_quiet_step (first | (go_at_call 13; with_reducible exact y1 _) | (go_at_call 13; with_reducible exact y2 _)))
        refine wpQuiet_nil ?_
        intro _ hw'
        obtain ⟨nz, hw''⟩ := hw'
        subst hw''
        have g9 := gtrans GG nz.h
        generalize nz.X = X9 at *
        go_wp2
        go_ret
        exact ⟨rfl, g9⟩

end Go.Proofs.YtnolbpekdikamaaGreatDoor
