/- Parse. -/
import Derived.Test.YtmoimmghmmomlaaDoorQi
namespace Go.Proofs.YtmoimmghmmomlaaDoor
open Go.RowKit Go.BigFrame
set_option linter.unusedVariables false
set_option linter.unusedSimpArgs false

/-- The outcome of Parse. -/
def paO (s : ByteArray) : Qy × Sps × Int × Int :=
  if (lexO s).2.1 ≠ 0 then (noQ, noS, (lexO s).2.1, (lexO s).2.2) else
  match queryP s.size (lexO s).1 with
  | .ok (q, sp) => (q, sp, 0, 0)
  | .error (c, x) => (noQ, noS, c, plc s.size x)
def GQ (b B : Nat) (q : Qy) (s : Sps) (u : World) : Prop := ∃ vi vw vr si sw sr, u.heap[b + 1 + 1]? = some (Obj.cells (qyA q vi vw vr) 39 (0, 0)) ∧ u.heap[b + 1 + 1 + 1]? = some (Obj.cells (spA s si sw sr) 42 (0, 0)) ∧ QRows u B q s vi vw vr si sw sr
theorem QRows.mono {w : World} {b b' : Nat} {q : Qy} {s : Sps} {vi vw vr si sw sr : Value} (R : QRows w b q s vi vw vr si sw sr) (hb : b' ≤ b) : QRows w b' q s vi vw vr si sw sr := by
  obtain ⟨l1, n1, e1⟩ := R.its
  obtain ⟨l2, n2, e2, e2'⟩ := R.ret
  obtain ⟨l3, n3, e3, e3'⟩ := R.sre
  exact ⟨⟨l1, n1.mono hb, e1⟩, own_mono R.wh hb, ⟨l2, n2.mono hb, e2, e2'⟩, own_mono R.sit hb, own_mono R.swh hb, ⟨l3, n3.mono hb, e3, e3'⟩, R.ap⟩
theorem QRows.nil (w : World) (b : Nat) : QRows w b noQ noS nilV nilV nilV nilV nilV nilV := ⟨⟨[], Nest.nil _ _, rfl⟩, World.ownsRow_nil _ _ _ _, ⟨[], Nest.nil _ _, rfl, fun p hp => absurd hp (by simp)⟩, World.ownsRow_nil _ _ _ _, World.ownsRow_nil _ _ _ _, ⟨[], Nest.nil _ _, rfl, fun p hp => absurd hp (by simp)⟩, fun g h => by cases h⟩
theorem results_rows2t {P : Program} {fn : Func} {p q r s : Tmp} {t1 t2 : TypeId} (h : fn.results = #[.cell p t1, .cell q t2, .tmp r, .tmp s]) (tmps : Array Value) (w : World) (g1 g2 : Nat) (u1 u2 : TypeId) (c1 c2 : Array Value) (f1 f2 : Nat × Nat) (d1 d2 : TypeDesc) (x y : Value)
    (hp : tmps.getD p undef = .pointer (some ⟨g1, 0, none⟩)) (hq : tmps.getD q undef = .pointer (some ⟨g2, 0, none⟩)) (hx : tmps.getD r undef = x) (hy : tmps.getD s undef = y) (h1 : w.heap[g1]? = some (.cells c1 u1 f1)) (h2 : w.heap[g2]? = some (.cells c2 u2 f2))
    (hu1 : P.underlying t1 = some d1) (hu2 : P.underlying t2 = some d2) (hd1 : (match d1 with | .struct _ | .array _ _ => true | _ => false) = true) (hd2 : (match d2 with | .struct _ | .array _ _ => true | _ => false) = true) (hi1 : (P.info? t1).map (·.size) = some c1.size) (hi2 : (P.info? t2).map (·.size) = some c2.size) :
    (results fn tmps).run P w = .ok (.tuple #[.agg c1, .agg c2, x, y]) w := by
  have hp' : tmps[p]?.getD undef = .pointer (some ⟨g1, 0, none⟩) := by simpa using hp
  have hq' : tmps[q]?.getD undef = .pointer (some ⟨g2, 0, none⟩) := by simpa using hq
  subst hx; subst hy
  simp [results, h, hp', hq', asAddr, run_loadVar_row w g1 u1 t1 c1 f1 d1 h1 hu1 hd1 hi1, run_loadVar_row w g2 u2 t2 c2 f2 d2 h2 hu2 hd2 hi2]
set_option maxRecDepth 100000 in
set_option maxHeartbeats 4000000 in
theorem parseRead_any (b : Nat) (s : ByteArray) (ts : List Tok) (hts : ts.length ≤ 400) (B d g : Nat) (u : World) (D : De u d g s.size ts 0) (hB : B ≤ d) (h1 : b + 1 + 1 + 1 < d)
    (O1 : u.heap[b + 1 + 1]? = some (Obj.cells (qyA noQ nilV nilV nilV) 39 (0, 0))) (O2 : u.heap[b + 1 + 1 + 1]? = some (Obj.cells (spA noS nilV nilV nilV) 42 (0, 0))) :
    Calls Tryd.prog 28 #[.pointer (some ⟨d, 0, none⟩), .pointer (some ⟨b + 1 + 1, 0, none⟩), .pointer (some ⟨b + 1 + 1 + 1, 0, none⟩)] u
      (ReadP [b + 1 + 1, b + 1 + 1 + 1] d (match queryP s.size ts with | .ok (q, sp) => GQ b B q sp | .error _ => fun _ => True) (match queryP s.size ts with | .ok _ => .ok () | .error (c, x) => .error (c, plc s.size x)) u) := by
  have c1 := query_any u d g s.size ts hts D
  have hlt := D.lt
  cases hr : queryP s.size ts with
  | error cx =>
    obtain ⟨c, x⟩ := cx
    rw [hr] at c1
    dsimp only
    clear hr
    go_enter Tryd.func28, Tryd.ntmps28
    go_wp2_with (go_at_call 29; (with_reducible refine c1.mono ?_); rintro e u3 ⟨rfl, K3⟩)
    exact ⟨rfl, rfl, Fr.of (K3.below (by omega))⟩
  | ok r =>
    obtain ⟨q, sp⟩ := r
    rw [hr] at c1
    dsimp only
    clear hr
    replace c1 : Calls Tryd.prog 29 #[.pointer (some ⟨d, 0, none⟩)] u (fun e w' => ∃ vi vw vr si sw sr, e = .returned (.tuple #[.agg #[vi, .int .i64 q.mode, .int .i64 q.after, vw, .int .i64 q.within, .string q.by_, vr], .agg #[si, sw, .int .i64 sp.within, .int .i64 sp.by_, sr]]) ∧ QRows w' u.heap.size q sp vi vw vr si sw sr ∧ Kd d u.heap.size u w') := c1
    go_enter Tryd.func28, Tryd.ntmps28
    go_wp2_with (go_at_call 29; (with_reducible refine c1.mono ?_); rintro e u3 ⟨vi, vw, vr, si, sw, sr, rfl, RW, K3⟩; obtain ⟨l1, n1, e1⟩ := RW.its; obtain ⟨l2, n2, e2, e2'⟩ := RW.ret; obtain ⟨l3, n3, e3, e3'⟩ := RW.sre; have n4 := RW.wh; have n5 := RW.sit; have n6 := RW.swh; obtain ⟨o1, p1, rfl⟩ := own_shape n1.out; obtain ⟨o2, p2, rfl⟩ := own_shape n2.out; obtain ⟨o3, p3, rfl⟩ := own_shape n3.out; obtain ⟨o4, p4, rfl⟩ := own_shape n4; obtain ⟨o5, p5, rfl⟩ := own_shape n5; obtain ⟨o6, p6, rfl⟩ := own_shape n6; clear e1 e2 e3 e2' e3' n1 n2 n3 n4 n5 n6; have P1 := (K3.blk (b + 1 + 1) (by omega) (by omega)).trans O1; have P2 := (K3.blk (b + 1 + 1 + 1) (by omega) (by omega)).trans O2; have cq : ∀ k, u3.cell? ⟨b + 1 + 1, k, none⟩ = (qyA noQ nilV nilV nilV)[k]? := (fun k => by simp [World.cell?, P1]); have cs : ∀ k, u3.cell? ⟨b + 1 + 1 + 1, k, none⟩ = (spA noS nilV nilV nilV)[k]? := (fun k => by simp [World.cell?, P2]); have fq : ∀ k, u3.frozen? ⟨b + 1 + 1, k, none⟩ = false := (fun k => by simp [World.frozen?, P1]); have fs : ∀ k, u3.frozen? ⟨b + 1 + 1 + 1, k, none⟩ = false := (fun k => by simp [World.frozen?, P2]); have r00 := cq 0; have r01 := cq 1; have r02 := cq 2; have r03 := cq 3; have r04 := cq 4; have r05 := cq 5; have r06 := cq 6; have r10 := cs 0; have r11 := cs 1; have r12 := cs 2; have r13 := cs 3; have r14 := cs 4; simp [qyA, spA, noQ, noS] at r00 r01 r02 r03 r04 r05 r06 r10 r11 r12 r13 r14; clear cq cs)
    go_end0
    have E0 := setv7 P1 (.slice o1 l1.length p1) (.int .i64 q.mode) (.int .i64 q.after) (.slice o4 q.wh.length p4) (.int .i64 q.within) (.string q.by_) (.slice o2 l2.length p2)
    have E1 := (setv7_other u3 (by omega : b + 1 + 1 + 1 ≠ b + 1 + 1) (.slice o1 l1.length p1) (.int .i64 q.mode) (.int .i64 q.after) (.slice o4 q.wh.length p4) (.int .i64 q.within) (.string q.by_) (.slice o2 l2.length p2)).trans P2
    have EO := fun j (hj : j ≠ b + 1 + 1) => setv7_other u3 hj (.slice o1 l1.length p1) (.int .i64 q.mode) (.int .i64 q.after) (.slice o4 q.wh.length p4) (.int .i64 q.within) (.string q.by_) (.slice o2 l2.length p2)
    have EB : Below 0 u3 (((((((u3.setCell ⟨b + 1 + 1, 0, none⟩ (.slice o1 l1.length p1)).setCell ⟨b + 1 + 1, 1, none⟩ (.int .i64 q.mode)).setCell ⟨b + 1 + 1, 2, none⟩ (.int .i64 q.after)).setCell ⟨b + 1 + 1, 3, none⟩ (.slice o4 q.wh.length p4)).setCell ⟨b + 1 + 1, 4, none⟩ (.int .i64 q.within)).setCell ⟨b + 1 + 1, 5, none⟩ (.string q.by_)).setCell ⟨b + 1 + 1, 6, none⟩ (.slice o2 l2.length p2)) := (((((((Below.refl 0 u3).setCell (Nat.zero_le _) _).setCell (Nat.zero_le _) _).setCell (Nat.zero_le _) _).setCell (Nat.zero_le _) _).setCell (Nat.zero_le _) _).setCell (Nat.zero_le _) _).setCell (Nat.zero_le _) _
    generalize (((((((u3.setCell ⟨b + 1 + 1, 0, none⟩ (.slice o1 l1.length p1)).setCell ⟨b + 1 + 1, 1, none⟩ (.int .i64 q.mode)).setCell ⟨b + 1 + 1, 2, none⟩ (.int .i64 q.after)).setCell ⟨b + 1 + 1, 3, none⟩ (.slice o4 q.wh.length p4)).setCell ⟨b + 1 + 1, 4, none⟩ (.int .i64 q.within)).setCell ⟨b + 1 + 1, 5, none⟩ (.string q.by_)).setCell ⟨b + 1 + 1, 6, none⟩ (.slice o2 l2.length p2)) = W7 at *
    have F1 := setv5 E1 (.slice o5 sp.items.length p5) (.slice o6 sp.wh.length p6) (.int .i64 sp.within) (.int .i64 sp.by_) (.slice o3 l3.length p3)
    have F0 := (setv5_other W7 (by omega : b + 1 + 1 ≠ b + 1 + 1 + 1) (.slice o5 sp.items.length p5) (.slice o6 sp.wh.length p6) (.int .i64 sp.within) (.int .i64 sp.by_) (.slice o3 l3.length p3)).trans E0
    have FO := fun j (hj : j ≠ b + 1 + 1 + 1) => setv5_other W7 hj (.slice o5 sp.items.length p5) (.slice o6 sp.wh.length p6) (.int .i64 sp.within) (.int .i64 sp.by_) (.slice o3 l3.length p3)
    have FB : Below 0 u3 (((((W7.setCell ⟨b + 1 + 1 + 1, 0, none⟩ (.slice o5 sp.items.length p5)).setCell ⟨b + 1 + 1 + 1, 1, none⟩ (.slice o6 sp.wh.length p6)).setCell ⟨b + 1 + 1 + 1, 2, none⟩ (.int .i64 sp.within)).setCell ⟨b + 1 + 1 + 1, 3, none⟩ (.int .i64 sp.by_)).setCell ⟨b + 1 + 1 + 1, 4, none⟩ (.slice o3 l3.length p3)) := ((((EB.setCell (Nat.zero_le _) _).setCell (Nat.zero_le _) _).setCell (Nat.zero_le _) _).setCell (Nat.zero_le _) _).setCell (Nat.zero_le _) _
    generalize (((((W7.setCell ⟨b + 1 + 1 + 1, 0, none⟩ (.slice o5 sp.items.length p5)).setCell ⟨b + 1 + 1 + 1, 1, none⟩ (.slice o6 sp.wh.length p6)).setCell ⟨b + 1 + 1 + 1, 2, none⟩ (.int .i64 sp.within)).setCell ⟨b + 1 + 1 + 1, 3, none⟩ (.int .i64 sp.by_)).setCell ⟨b + 1 + 1 + 1, 4, none⟩ (.slice o3 l3.length p3)) = W8 at *
    have RR : QRows W8 u.heap.size q sp (.slice o1 l1.length p1) (.slice o4 q.wh.length p4) (.slice o2 l2.length p2) (.slice o5 sp.items.length p5) (.slice o6 sp.wh.length p6) (.slice o3 l3.length p3) :=
      RW.blk (fun k hk _ _ => (FO k (by omega)).trans (EO k (by omega)))
    refine ⟨rfl, ⟨_, _, _, _, _, _, F0, F1, RR.mono (by omega)⟩, ⟨FB.os.trans K3.os, FB.tape.trans K3.tape, FB.output.trans K3.output, Nat.le_trans K3.size FB.size, fun k hk hv => ?_⟩⟩
    simp only [List.mem_cons, List.not_mem_nil, or_false, not_or] at hv
    exact ((FO k hv.2).trans (EO k hv.1)).trans (K3.blk k (by omega) (by omega))
theorem enParse1 : ∀ (args : Array Value) (v : World), (callFunc 28 args).run Tryd.prog v = .ok (.enter 28 args) v := enters_of Tryd.func28 (by kernel_rfl) rfl
set_option maxRecDepth 100000 in
set_option maxHeartbeats 8000000 in
theorem parse_call (s : ByteArray) (hs : s.size ≤ 140737488351232) (w : World) (K : KwAt w) (Sg : SgAt w) (E : ErAt w) :
    Calls Tryd.prog 14 #[.string s] w fun e w' => ∃ vi vw vr si sw sr, e = .returned (.tuple #[.agg (qyA (paO s).1 vi vw vr), .agg (spA (paO s).2.1 si sw sr), .int .i64 (paO s).2.2.1, .int .i64 (paO s).2.2.2]) ∧ QRows w' w.heap.size (paO s).1 (paO s).2.1 vi vw vr si sw sr ∧ Below w.heap.size w w' := by
  have B := galloc (galloc (galloc (galloc (Below.refl w.heap.size w) (.cells (qyA noQ nilV nilV nilV) 39)) (.cells (spA noS nilV nilV nilV) 42)) (.cells (qyA noQ nilV nilV nilV) 39)) (.cells (spA noS nilV nilV nilV) 42)
  obtain ⟨H0, H1, H2, H3⟩ := heap4 w (.cells (qyA noQ nilV nilV nilV) 39) (.cells (spA noS nilV nilV nilV) 42) (.cells (qyA noQ nilV nilV nilV) 39) (.cells (spA noS nilV nilV nilV) 42)
  have hmf : ∀ (fn : Fn) (first cap : Array Value) (w : World), (Instr.makeFunc fn first cap).run Tryd.prog w = .ok (.func fn first cap) w := fun _ _ _ _ => rfl
  have hl4 := lexO_len s
  obtain ⟨z, hz⟩ : ∃ z, z = paO s := ⟨_, rfl⟩
  rw [← hz]
  have HZ : Hid (z = paO s) := hz
  clear hz
  go_enter Tryd.func14, Tryd.ntmps14
  go_upto_region 3 with fail
  generalize hV : (((w.alloc (.cells (qyA noQ nilV nilV nilV) 39)).alloc (.cells (spA noS nilV nilV nilV) 42)).alloc (.cells (qyA noQ nilV nilV nilV) 39)).alloc (.cells (spA noS nilV nilV nilV) 42) = V at *
  change Code.wp _ _ _ _ ((((w.alloc (.cells (qyA noQ nilV nilV nilV) 39)).alloc (.cells (spA noS nilV nilV nilV) 42)).alloc (.cells (qyA noQ nilV nilV nilV) 39)).alloc (.cells (spA noS nilV nilV nilV) 42))
  rw [hV]
  clear hV
  have l3 := lt_of_block H3
  have hVw : ∀ k ∈ [w.heap.size + 1 + 1, w.heap.size + 1 + 1 + 1], k < V.heap.size := fun k hk => by simp at hk; omega
  obtain ⟨⟨ts, c, pl⟩, hL⟩ : ∃ x, lexO s = x := ⟨_, rfl⟩
  rw [hL] at hl4
  -- behind the attempt: the variables, the code and the place
  have fin : ∀ (q : Qy) (sp : Sps) (c p : Int), z = (q, sp, c, p) → ∀ (Kk : Act → World → Prop) , True := fun _ _ _ _ _ _ => trivial
  clear fin
  have c1 : Calls Tryd.prog 25 #[.string s, .func (.func 28) #[] #[.pointer (some ⟨w.heap.size + 1 + 1, 0, none⟩), .pointer (some ⟨w.heap.size + 1 + 1 + 1, 0, none⟩)]] V fun e w' => ∃ vi vw vr si sw sr, e = .returned (.tuple #[.int .i64 z.2.2.1, .int .i64 z.2.2.2]) ∧ w'.heap[w.heap.size]? = some (Obj.cells (qyA noQ nilV nilV nilV) 39 (0, 0)) ∧ w'.heap[w.heap.size + 1]? = some (Obj.cells (spA noS nilV nilV nilV) 42 (0, 0)) ∧ w'.heap[w.heap.size + 1 + 1]? = some (Obj.cells (qyA z.1 vi vw vr) 39 (0, 0)) ∧ w'.heap[w.heap.size + 1 + 1 + 1]? = some (Obj.cells (spA z.2.1 si sw sr) 42 (0, 0)) ∧ QRows w' (V.heap.size + 2) z.1 z.2.1 vi vw vr si sw sr ∧ Below w.heap.size w w' := by
    have bel : ∀ {w' : World} {Vl : List Nat}, Fr Vl V.heap.size V w' → (∀ k ∈ Vl, w.heap.size ≤ k) → Below w.heap.size w w' := fun F hk => ⟨F.os.trans B.os, F.tape.trans B.tape, F.output.trans B.output, Nat.le_trans B.size F.size, fun k h => (F.blk k (by omega) (fun hm => by have := hk k hm; omega)).trans (B.block k h)⟩
    by_cases h0 : c = 0
    · subst h0
      have c1 := attempt_any _ enParse1 #[.pointer (some ⟨w.heap.size + 1 + 1, 0, none⟩), .pointer (some ⟨w.heap.size + 1 + 1 + 1, 0, none⟩)] [w.heap.size + 1 + 1, w.heap.size + 1 + 1 + 1] (match queryP s.size ts with | .ok (q, sp) => GQ w.heap.size (V.heap.size + 2) q sp | .error _ => fun _ => True) (match queryP s.size ts with | .ok _ => .ok () | .error (c, x) => .error (c, plc s.size x)) s hs V (K.keep B) (Sg.keep B) (E.keep B) ts pl hL hVw (fun u v h hk => by
        cases hw : queryP s.size ts with
        | error _ => trivial
        | ok r =>
          obtain ⟨q, sp⟩ := r
          rw [hw] at h
          obtain ⟨vi, vw, vr, si, sw, sr, p1, p2, p3⟩ := h
          exact ⟨vi, vw, vr, si, sw, sr, (hk _ (by omega) (by omega)).trans p1, (hk _ (by omega) (by omega)).trans p2, p3.blk (fun k hk1 _ _ => hk k (by omega) (by omega))⟩)
        (fun u d g D hd hB => parseRead_any w.heap.size s ts hl4 (V.heap.size + 2) d g u D hd (by omega) ((hB.block _ (by omega)).trans H2) ((hB.block _ (by omega)).trans H3))
      cases hw : queryP s.size ts with
      | error cx =>
        obtain ⟨c, x⟩ := cx
        rw [hw] at c1
        have e9 : z = (noQ, noS, c, plc s.size x) := by rw [HZ.out]; unfold paO; rw [hL]; simp only [hw]; simp
        subst e9
        refine c1.mono ?_
        rintro e u ⟨rfl, F1⟩
        exact ⟨_, _, _, _, _, _, rfl, (F1.blk _ (by omega) (by simp)).trans H0, (F1.blk _ (by omega) (by simp)).trans H1, (F1.blk _ (by omega) (by simp)).trans H2, (F1.blk _ (by omega) (by simp)).trans H3, QRows.nil _ _, bel F1 (fun k hk => by simp at hk)⟩
      | ok r =>
        obtain ⟨q, sp⟩ := r
        rw [hw] at c1
        have e9 : z = (q, sp, 0, 0) := by rw [HZ.out]; unfold paO; rw [hL]; simp only [hw]; simp
        subst e9
        refine c1.mono ?_
        rintro e u ⟨rfl, ⟨vi, vw, vr, si, sw, sr, p1, p2, p3⟩, F1⟩
        exact ⟨vi, vw, vr, si, sw, sr, rfl, (F1.blk _ (by omega) (by simp; omega)).trans H0, (F1.blk _ (by omega) (by simp)).trans H1, p1, p2, p3, bel F1 (fun k hk => by simp at hk; omega)⟩
    · have e9 : z = (noQ, noS, c, (pl : Int)) := by rw [HZ.out]; unfold paO; rw [hL]; simp [h0]
      subst e9
      refine (attempt_lex _ [] (fun _ => True) s hs V (K.keep B) (Sg.keep B) (E.keep B) ts c pl hL h0).mono ?_
      rintro e u ⟨rfl, F1⟩
      exact ⟨_, _, _, _, _, _, rfl, (F1.blk _ (by omega) (by simp)).trans H0, (F1.blk _ (by omega) (by simp)).trans H1, (F1.blk _ (by omega) (by simp)).trans H2, (F1.blk _ (by omega) (by simp)).trans H3, QRows.nil _ _, bel F1 (fun k hk => by simp at hk)⟩
  have hVb : w.heap.size ≤ V.heap.size + 2 := by have := B.size; omega
  clear HZ hL H0 H1 H2 H3 hVw B hl4
  obtain ⟨q, sp, cd, pa⟩ := z
  dsimp only at c1 ⊢
  go_upto_region 4 with (go_at_call 25; (with_reducible refine c1.mono ?_); rintro e u ⟨vi, vw, vr, si, sw, sr, rfl, G0, G1, G2, G3, RW, BB⟩)
  obtain ⟨l1, n1, e1⟩ := RW.its
  obtain ⟨l2, n2, e2, e2'⟩ := RW.ret
  obtain ⟨l3, n3, e3, e3'⟩ := RW.sre
  have n4 := RW.wh
  have n5 := RW.sit
  have n6 := RW.swh
  obtain ⟨o1, p1, rfl⟩ := own_shape n1.out
  obtain ⟨o2, p2, rfl⟩ := own_shape n2.out
  obtain ⟨o3, p3, rfl⟩ := own_shape n3.out
  obtain ⟨o4, p4, rfl⟩ := own_shape n4
  obtain ⟨o5, p5, rfl⟩ := own_shape n5
  obtain ⟨o6, p6, rfl⟩ := own_shape n6
  clear e1 e2 e3 e2' e3' n1 n2 n3 n4 n5 n6 c1
  have m2 : ∀ k, u.cell? ⟨w.heap.size + 1 + 1, k, none⟩ = (qyA q (.slice o1 l1.length p1) (.slice o4 q.wh.length p4) (.slice o2 l2.length p2))[k]? := fun k => by simp [World.cell?, G2]
  have m3 : ∀ k, u.cell? ⟨w.heap.size + 1 + 1 + 1, k, none⟩ = (spA sp (.slice o5 sp.items.length p5) (.slice o6 sp.wh.length p6) (.slice o3 l3.length p3))[k]? := fun k => by simp [World.cell?, G3]
  have cq : ∀ k, u.cell? ⟨w.heap.size, k, none⟩ = (qyA noQ nilV nilV nilV)[k]? := fun k => by simp [World.cell?, G0]
  have cs : ∀ k, u.cell? ⟨w.heap.size + 1, k, none⟩ = (spA noS nilV nilV nilV)[k]? := fun k => by simp [World.cell?, G1]
  have fq : ∀ k, u.frozen? ⟨w.heap.size, k, none⟩ = false := fun k => by simp [World.frozen?, G0]
  have fs : ∀ k, u.frozen? ⟨w.heap.size + 1, k, none⟩ = false := fun k => by simp [World.frozen?, G1]
  have z20 := m2 0
  have z21 := m2 1
  have z22 := m2 2
  have z23 := m2 3
  have z24 := m2 4
  have z25 := m2 5
  have z26 := m2 6
  have z30 := m3 0
  have z31 := m3 1
  have z32 := m3 2
  have z33 := m3 3
  have z34 := m3 4
  have r00 := cq 0
  have r01 := cq 1
  have r02 := cq 2
  have r03 := cq 3
  have r04 := cq 4
  have r05 := cq 5
  have r06 := cq 6
  have r10 := cs 0
  have r11 := cs 1
  have r12 := cs 2
  have r13 := cs 3
  have r14 := cs 4
  simp [qyA, spA, noQ, noS] at z20 z21 z22 z23 z24 z25 z26 z30 z31 z32 z33 z34 r00 r01 r02 r03 r04 r05 r06 r10 r11 r12 r13 r14
  clear m2 m3 cq cs
  go_region
  all_goals
    have E0 := setv7 G0 (.slice o1 l1.length p1) (.int .i64 q.mode) (.int .i64 q.after) (.slice o4 q.wh.length p4) (.int .i64 q.within) (.string q.by_) (.slice o2 l2.length p2)
    have E1 := (setv7_other u (by omega : w.heap.size + 1 ≠ w.heap.size) (.slice o1 l1.length p1) (.int .i64 q.mode) (.int .i64 q.after) (.slice o4 q.wh.length p4) (.int .i64 q.within) (.string q.by_) (.slice o2 l2.length p2)).trans G1
    have EO := fun j (hj : j ≠ w.heap.size) => setv7_other u hj (.slice o1 l1.length p1) (.int .i64 q.mode) (.int .i64 q.after) (.slice o4 q.wh.length p4) (.int .i64 q.within) (.string q.by_) (.slice o2 l2.length p2)
    have EB : Below w.heap.size w (((((((u.setCell ⟨w.heap.size, 0, none⟩ (.slice o1 l1.length p1)).setCell ⟨w.heap.size, 1, none⟩ (.int .i64 q.mode)).setCell ⟨w.heap.size, 2, none⟩ (.int .i64 q.after)).setCell ⟨w.heap.size, 3, none⟩ (.slice o4 q.wh.length p4)).setCell ⟨w.heap.size, 4, none⟩ (.int .i64 q.within)).setCell ⟨w.heap.size, 5, none⟩ (.string q.by_)).setCell ⟨w.heap.size, 6, none⟩ (.slice o2 l2.length p2)) := (((((((BB.setCell (Nat.le_refl _) _).setCell (Nat.le_refl _) _).setCell (Nat.le_refl _) _).setCell (Nat.le_refl _) _).setCell (Nat.le_refl _) _).setCell (Nat.le_refl _) _).setCell (Nat.le_refl _) _)
    generalize (((((((u.setCell ⟨w.heap.size, 0, none⟩ (.slice o1 l1.length p1)).setCell ⟨w.heap.size, 1, none⟩ (.int .i64 q.mode)).setCell ⟨w.heap.size, 2, none⟩ (.int .i64 q.after)).setCell ⟨w.heap.size, 3, none⟩ (.slice o4 q.wh.length p4)).setCell ⟨w.heap.size, 4, none⟩ (.int .i64 q.within)).setCell ⟨w.heap.size, 5, none⟩ (.string q.by_)).setCell ⟨w.heap.size, 6, none⟩ (.slice o2 l2.length p2)) = W7 at *
    have F1 := setv5 E1 (.slice o5 sp.items.length p5) (.slice o6 sp.wh.length p6) (.int .i64 sp.within) (.int .i64 sp.by_) (.slice o3 l3.length p3)
    have F0 := (setv5_other W7 (by omega : w.heap.size ≠ w.heap.size + 1) (.slice o5 sp.items.length p5) (.slice o6 sp.wh.length p6) (.int .i64 sp.within) (.int .i64 sp.by_) (.slice o3 l3.length p3)).trans E0
    have FO := fun j (hj : j ≠ w.heap.size + 1) => setv5_other W7 hj (.slice o5 sp.items.length p5) (.slice o6 sp.wh.length p6) (.int .i64 sp.within) (.int .i64 sp.by_) (.slice o3 l3.length p3)
    have hle : w.heap.size ≤ w.heap.size + 1 := Nat.le_succ _
    have FB : Below w.heap.size w (((((W7.setCell ⟨w.heap.size + 1, 0, none⟩ (.slice o5 sp.items.length p5)).setCell ⟨w.heap.size + 1, 1, none⟩ (.slice o6 sp.wh.length p6)).setCell ⟨w.heap.size + 1, 2, none⟩ (.int .i64 sp.within)).setCell ⟨w.heap.size + 1, 3, none⟩ (.int .i64 sp.by_)).setCell ⟨w.heap.size + 1, 4, none⟩ (.slice o3 l3.length p3)) := ((((EB.setCell hle _).setCell hle _).setCell hle _).setCell hle _).setCell hle _
    generalize (((((W7.setCell ⟨w.heap.size + 1, 0, none⟩ (.slice o5 sp.items.length p5)).setCell ⟨w.heap.size + 1, 1, none⟩ (.slice o6 sp.wh.length p6)).setCell ⟨w.heap.size + 1, 2, none⟩ (.int .i64 sp.within)).setCell ⟨w.heap.size + 1, 3, none⟩ (.int .i64 sp.by_)).setCell ⟨w.heap.size + 1, 4, none⟩ (.slice o3 l3.length p3)) = W8 at *
    have RR : QRows W8 (V.heap.size + 2) q sp (.slice o1 l1.length p1) (.slice o4 q.wh.length p4) (.slice o2 l2.length p2) (.slice o5 sp.items.length p5) (.slice o6 sp.wh.length p6) (.slice o3 l3.length p3) :=
      RW.blk (fun k _ _ ⟨cs, ty, q1, q2, q3⟩ => (FO k (fun e => by subst e; rw [G1] at q1; simp at q1; exact q3 q1.2.symm)).trans (EO k (fun e => by subst e; rw [G0] at q1; simp at q1; exact q2 q1.2.symm)))
    clear z20 z21 z22 z23 z24 z25 z26 z30 z31 z32 z33 z34 r00 r01 r02 r03 r04 r05 r06 r10 r11 r12 r13 r14 fq fs E0 E1 EO EB FO
    go_wp2
    refine bodyPost_ret (results_rows2t rfl _ _ w.heap.size (w.heap.size + 1) 39 42 _ _ (0, 0) (0, 0) _ _ _ _ rfl rfl rfl rfl F0 F1 Tryd.underlying39 Tryd.underlying42 rfl rfl infoQ infoP) rfl ?_
    exact ⟨_, _, _, _, _, _, rfl, (RR.mono hVb).keep (Below.refl _ _).drew, FB.drew⟩

end Go.Proofs.YtmoimmghmmomlaaDoor
