/- What a well shaped tree is: the pure answer; the program's and the document's look at one node. -/
import Derived.Test.YtlejhococjlijaaGreatDoorSha
import Derived.Test.YtlejhococjlijaaGreatDoorEvdJ
namespace Go.Proofs.YtlejhococjlijaaGreatDoor
open Go.RowKit Go.BigFrame Go.Proofs.YtlejhococjlijaaGreatDoor.Ev
set_option linter.unusedVariables false
set_option linter.unusedSimpArgs false

/-- A node without operands, as it may stand. -/
def leafN (n : Nd) : Bool := decide (n.l = -1 ∧ n.r = -1 ∧
  ((n.op = 1 ∧ 0 ≤ n.n ∧ n.v = eS ∧ n.x = eS) ∨ ((n.op = 2 ∨ n.op = 3) ∧ n.n = 0 ∧ n.v = eS ∧ n.x = eS) ∨
   (n.op = 5 ∧ n.n = 0 ∧ nameB n.v = true ∧ n.x = eS) ∨ ((n.op = 4 ∨ (6 ≤ n.op ∧ n.op ≤ 11)) ∧ n.n = 0 ∧ nameB n.v = true ∧ nameB n.x = true)))
def bareN (n : Nd) : Bool := decide (n.n = 0 ∧ n.v = eS ∧ n.x = eS)
/-- Where the subtree of a node begins that stands behind others, whose begin at bs. -/
def nodeO (n : Nd) (bs : List Int) : Option Int :=
  if leafN n = true then some bs.length
  else if n.op = 12 ∨ n.op = 13 then
    if bareN n = true ∧ bs ≠ [] ∧ n.l = (bs.length : Int) - 1 ∧ n.r = -1 then some (bs.getD (bs.length - 1) 0) else none
  else if 14 ≤ n.op ∧ n.op ≤ 26 then
    if bareN n = true ∧ bs ≠ [] ∧ n.r = (bs.length : Int) - 1 ∧ 1 ≤ bs.getD (bs.length - 1) 0 ∧ n.l = bs.getD (bs.length - 1) 0 - 1 then some (bs.getD (bs.getD (bs.length - 1) 0 - 1).toNat 0) else none
  else none
def begsO : List Nd → List Int → Option (List Int)
  | [], bs => some bs
  | n :: t, bs => match nodeO n bs with
    | some b => begsO t (bs ++ [b])
    | none => none
/-- Is it a well shaped tree? -/
def treeB (ns : List Nd) : Bool := match begsO ns [] with
  | some bs => decide (0 < ns.length ∧ bs.getD (ns.length - 1) 0 = 0)
  | none => false
/-- Each begins at itself or ahead. -/
def Bgs (bs : List Int) : Prop := ∀ i, i < bs.length → 0 ≤ bs.getD i 0 ∧ bs.getD i 0 ≤ (i : Int)
theorem Bgs.nil : Bgs [] := fun i hi => absurd hi (Nat.not_lt_zero _)
theorem getD_last (bs : List Int) (b : Int) (i : Nat) (h : i < (bs ++ [b]).length) : (bs ++ [b]).getD i 0 = if i < bs.length then bs.getD i 0 else b := by
  rw [List.length_append] at h
  by_cases hi : i < bs.length
  · rw [if_pos hi, List.getD_eq_getElem?_getD, List.getD_eq_getElem?_getD, List.getElem?_append_left hi]
  · rw [if_neg hi, List.getD_eq_getElem?_getD, List.getElem?_append_right (by omega)]
    have : i - bs.length = 0 := by simp at h; omega
    rw [this]; rfl
theorem Bgs.more {bs : List Int} (h : Bgs bs) {n : Nd} {b : Int} (hb : nodeO n bs = some b) : Bgs (bs ++ [b]) := by
  have hb2 : 0 ≤ b ∧ b ≤ (bs.length : Int) := by
    unfold nodeO at hb
    split at hb
    · simp only [Option.some.injEq] at hb; omega
    · split at hb
      · split at hb
        · rename_i h3
          simp only [Option.some.injEq] at hb
          have hl : 0 < bs.length := List.length_pos_iff.2 h3.2.1
          have := h (bs.length - 1) (by omega)
          omega
        · cases hb
      · split at hb
        · split at hb
          · rename_i h3
            simp only [Option.some.injEq] at hb
            have hl : 0 < bs.length := List.length_pos_iff.2 h3.2.1
            have h4 := h (bs.length - 1) (by omega)
            have h5 := h (bs.getD (bs.length - 1) 0 - 1).toNat (by omega)
            omega
          · cases hb
        · cases hb
  intro i hi
  rw [getD_last bs b i hi]
  by_cases h1 : i < bs.length
  · rw [if_pos h1]; exact h i h1
  · rw [if_neg h1]
    rw [List.length_append] at hi
    simp at hi
    omega

/-- A node that is a local. -/
def NlAt (w : World) (b : Nat) (n : Nd) : Prop := w.heap[b]? = some (.cells (ndA n) 29 (0, 0))
theorem NlAt.new (w : World) (n : Nd) : NlAt (w.alloc (.cells (ndA n) 29)) w.heap.size n := by
  show (w.heap.push _)[w.heap.size]? = _
  simp
theorem NlAt.lt {w : World} {b : Nat} {n : Nd} (h : NlAt w b n) : b < w.heap.size := lt_of_block h
theorem NlAt.keep {w u : World} {b : Nat} {n : Nd} (h : NlAt w b n) (G : Below w.heap.size w u) : NlAt u b n := (G.block b h.lt).trans h
theorem NlAt.at {w : World} {b : Nat} {n : Nd} (h : NlAt w b n) : w.cell? ⟨b, 0, none⟩ = some (.int .i64 n.op) ∧ w.cell? ⟨b, 1, none⟩ = some (.int .i64 n.n) ∧ w.cell? ⟨b, 2, none⟩ = some (.string n.v) ∧ w.cell? ⟨b, 3, none⟩ = some (.string n.x) ∧ w.cell? ⟨b, 4, none⟩ = some (.int .i64 n.l) ∧ w.cell? ⟨b, 5, none⟩ = some (.int .i64 n.r) :=
  ⟨cell_of_row w b 0 _ _ _ h, cell_of_row w b 1 _ _ _ h, cell_of_row w b 2 _ _ _ h, cell_of_row w b 3 _ _ _ h, cell_of_row w b 4 _ _ _ h, cell_of_row w b 5 _ _ _ h⟩
theorem nd_size (n : Nd) : (Tryz.prog.info? 29).map (·.size) = some (ndA n).size := by
  obtain ⟨i, e, _, h, _⟩ := of_info nd_info
  rw [e]
  show some i.size = _
  rw [h]
  rfl
/-- In a region that only reads: a row that is loaded whole. -/
theorem quiet_load_nd {P : Program} {ops : Array Oper} {C : World → Prop} {Q : Act → Prop} {o : Oper} {rest : List Oper} {a : Act} (hw : Region.wanted o (yielded ops a.tmps) = true) (ty : TypeId) (x : Operand) (ho : o.op = .load ty x)
    (g : Nat) (hx : a.eval x = .pointer (some ⟨g, 0, none⟩)) (t : TypeId) (cs : Array Value) (fr : Nat × Nat) (d : TypeDesc) (hg : ∀ w, C w → w.heap[g]? = some (.cells cs t fr))
    (hu : P.underlying ty = some d) (hd : (match d with | .struct _ | .array _ _ => true | _ => false) = true) (hi : (P.info? ty).map (·.size) = some cs.size)
    (a' : Act) (ha : a.put o.dst (.agg cs) = a') (h : wpQuiet P ops C Q rest a') : wpQuiet P ops C Q (o :: rest) a := by
  subst ha
  refine wpQuiet_want hw fun K hK => ⟨.agg cs, fun w hC => ?_, hK _ h⟩
  unfold Oper.quietAt execOp
  simp only [ho, hx, Instr.loadAt, Instr.sureAddr, Sem.run_bind, Sem.run_pure, Result.andThen_ok, run_loadVar_row w g t ty cs fr d (hg w hC) hu hd hi]
  exact ⟨rfl, rfl⟩

/-- Are two nodes the same? -/
def ndE (a b : Nd) : Bool := decide (a.op = b.op ∧ a.n = b.n ∧ a.v = b.v ∧ a.x = b.x ∧ a.l = b.l ∧ a.r = b.r)
theorem bytes_inj {a b : ByteArray} : a.toList = b.toList ↔ a = b := by
  rw [ByteArray.toList_eq, ByteArray.toList_eq, Array.toList_inj]
  exact ⟨fun h => ByteArray.ext h, fun h => by rw [h]⟩
theorem nd_eq (a b : Nd) (w : World) : (Op.equalIn 10000 29 (.agg (ndA a)) (.agg (ndA b))).run Tryz.prog w = .ok (ndE a b) w := by
  have u1 := Tryz.underlying27
  have u2 := Tryz.underlying2
  have u3 := Tryz.underlying9
  have u4 := Tryz.underlying3
  have hS : Tryz.prog.underlying 29 = some (.struct (Tryz.prog.fieldsOf 29)) := by kernel_rfl
  have hp : Tryz.prog.stoodInHeld 29 = false := by kernel_rfl
  rw [show (10000 : Nat) = 9999 + 1 from rfl, run_equalIn_agg w 9999 29 _ _ hS hp]
  simp only [Program.fieldsOf, Tryz.underlying29, ndA]
  go_simp
  unfold ndE
  simp only [bytes_inj]
  repeat' split
  all_goals simp_all
/-- In a region that only reads: two nodes are compared. -/
theorem quiet_eql_nd {ops : Array Oper} {C : World → Prop} {Q : Act → Prop} {o : Oper} {rest : List Oper} {a : Act} (hw : Region.wanted o (yielded ops a.tmps) = true) (x y : Operand) (ho : o.op = .binOp .eql 29 x y 29)
    (n k : Nd) (hx : a.eval x = .agg (ndA n)) (hy : a.eval y = .agg (ndA k)) (a' : Act) (ha : a.put o.dst (.bool (ndE n k)) = a') (h : wpQuiet Tryz.prog ops C Q rest a') : wpQuiet Tryz.prog ops C Q (o :: rest) a := by
  subst ha
  refine wpQuiet_want hw fun K hK => ⟨.bool (ndE n k), fun w hC => ?_, hK _ h⟩
  unfold Oper.quietAt execOp
  simp only [ho, hx, hy, Sem.run_bind, Sem.run_pure, run_eqGuard_agg (P := Tryz.prog) w .eql 29 x y (ndA n) (ndA k) (by kernel_rfl), run_eql_struct, nd_eq, Result.andThen_ok]
  exact ⟨rfl, rfl⟩

theorem ndE_iff (a b : Nd) : ndE a b = true ↔ (a.op = b.op ∧ a.n = b.n ∧ a.v = b.v ∧ a.x = b.x ∧ a.l = b.l ∧ a.r = b.r) := by unfold ndE; exact decide_eq_true_iff
theorem node_of {n : Nd} {bs : List Int} {z : Int} {g : Bool} (h : nodeO n bs = if g = true then some z else none) : (nodeO n bs).isSome = g ∧ ∀ b, nodeO n bs = some b → z = b := by
  rw [h]
  cases g
  · exact ⟨rfl, fun b hb => by simp at hb⟩
  · exact ⟨rfl, fun b hb => by simpa using hb⟩
theorem leafN_iff (n : Nd) : leafN n = true ↔ (n.l = -1 ∧ n.r = -1 ∧
  ((n.op = 1 ∧ 0 ≤ n.n ∧ n.v = eS ∧ n.x = eS) ∨ ((n.op = 2 ∨ n.op = 3) ∧ n.n = 0 ∧ n.v = eS ∧ n.x = eS) ∨
   (n.op = 5 ∧ n.n = 0 ∧ nameB n.v = true ∧ n.x = eS) ∨ ((n.op = 4 ∨ (6 ≤ n.op ∧ n.op ≤ 11)) ∧ n.n = 0 ∧ nameB n.v = true ∧ nameB n.x = true))) := by unfold leafN; exact decide_eq_true_iff
theorem bareN_iff (n : Nd) : bareN n = true ↔ (n.n = 0 ∧ n.v = eS ∧ n.x = eS) := by unfold bareN; exact decide_eq_true_iff
theorem node_leaf {n : Nd} {bs : List Int} {g : Bool} (h0 : n.op < 12) (h : g = true ↔ leafN n = true) : nodeO n bs = if g = true then some (bs.length : Int) else none := by
  unfold nodeO
  by_cases hg : g = true
  · rw [if_pos hg, if_pos (h.1 hg)]
  · rw [if_neg hg, if_neg (fun e => hg (h.2 e)), if_neg (by omega), if_neg (by omega)]
theorem node_none {n : Nd} {bs : List Int} (h : n.op < 1 ∨ 26 < n.op) : nodeO n bs = none := by
  unfold nodeO
  rw [if_neg, if_neg (by omega), if_neg (by omega)]
  intro e
  have := (leafN_iff n).1 e
  omega
theorem node_one {n : Nd} {bs : List Int} {g : Bool} (h0 : n.op = 12 ∨ n.op = 13) (h : g = true ↔ (bareN n = true ∧ bs ≠ [] ∧ n.l = (bs.length : Int) - 1 ∧ n.r = -1)) : nodeO n bs = if g = true then some (bs.getD (bs.length - 1) 0) else none := by
  unfold nodeO
  rw [if_neg (fun e => by have := (leafN_iff n).1 e; omega), if_pos h0]
  by_cases hg : g = true
  · rw [if_pos hg, if_pos (h.1 hg)]
  · rw [if_neg hg, if_neg (fun e => hg (h.2 e))]
theorem node_two {n : Nd} {bs : List Int} {g : Bool} (h0 : 14 ≤ n.op ∧ n.op ≤ 26) (h : g = true ↔ (bareN n = true ∧ bs ≠ [] ∧ n.r = (bs.length : Int) - 1 ∧ 1 ≤ bs.getD (bs.length - 1) 0 ∧ n.l = bs.getD (bs.length - 1) 0 - 1)) : nodeO n bs = if g = true then some (bs.getD (bs.getD (bs.length - 1) 0 - 1).toNat 0) else none := by
  unfold nodeO
  rw [if_neg (fun e => by have := (leafN_iff n).1 e; omega), if_neg (by omega), if_pos h0]
  by_cases hg : g = true
  · rw [if_pos hg, if_pos (h.1 hg)]
  · rw [if_neg hg, if_neg (fun e => hg (h.2 e))]

set_option maxRecDepth 100000 in
set_option maxHeartbeats 8000000 in
theorem beginOf_any (n : Nd) (hf : n.fit) (bs : List Int) (hb : Bgs bs) (hl : bs.length ≤ 17592186044416) (ao : Option Addr) (c : Nat) (w : World) (K : KwAt w) (B : IsInts w ao bs) :
    Calls Tryz.prog 59 #[.agg (ndA n), .slice ao bs.length c] w fun e w' => ∃ z, e = .returned (.tuple #[.int .i64 z, .bool (nodeO n bs).isSome]) ∧ (∀ b, nodeO n bs = some b → z = b) ∧ Below w.heap.size w w' := by
  obtain ⟨m, hm⟩ : ∃ m, bs.length = m := ⟨_, rfl⟩
  have B0 := galloc (Below.refl w.heap.size w) (.cells (ndA n) 29)
  have N0 := NlAt.new w n
  go_enter Tryz.func59, Tryz.ntmps59
  rw [hm] at hl ⊢
  go_upto_region 1 with fail
  generalize hV : w.alloc (.cells (ndA n) 29) = V at *
  obtain ⟨a0, a1, a2, a3, a4, a5⟩ := N0.at
  have p0 := fun z : Ext V => (z.cell _ _ N0.lt).trans a0
  have p1 := fun z : Ext V => (z.cell _ _ N0.lt).trans a1
  have p2 := fun z : Ext V => (z.cell _ _ N0.lt).trans a2
  have p3 := fun z : Ext V => (z.cell _ _ N0.lt).trans a3
  have hne : Nonempty (Ext V) := ⟨⟨_, Below.refl _ _⟩⟩
  obtain ⟨yo, yn, yv, yx, yl, yr⟩ := n
  dsimp only at *
  have yV : ∀ z : Ext V, Calls Tryz.prog 48 #[.string yv] z.X (fun e' w'' => e' = .returned (.bool (nameB yv)) ∧ ∃ m : Ext V, w'' = m.X) := fun z => ext_of (isName_any yv z.X (K.keep (gtrans B0 z.h)))
  have yX : ∀ z : Ext V, Calls Tryz.prog 48 #[.string yx] z.X (fun e' w'' => e' = .returned (.bool (nameB yx)) ∧ ∃ m : Ext V, w'' = m.X) := fun z => ext_of (isName_any yx z.X (K.keep (gtrans B0 z.h)))
  by_cases h1 : yo = 1
  · subst h1
    by_cases h2 : 0 ≤ yn
    · go_wp2
      refine wp_region_ext (by kernel_rfl) (by kernel_rfl) ?_
      repeat (first
        | go_big_quiet_step (first | (go_at_call 48; with_reducible exact yV _) | (go_at_call 48; with_reducible exact yX _))
        | (refine quiet_load_nd rfl 29 (.tmp 2) rfl w.heap.size rfl 29 _ (0, 0) _ (fun X hX => by obtain ⟨nx, rfl⟩ := hX; exact N0.keep nx.h) Tryz.underlying29 rfl (nd_size _) _ rfl ?_; simp only [Act.put, List.setIfInBounds_toArray, List.set_cons_succ, List.set_cons_zero])
        | (refine quiet_eql_nd rfl _ _ rfl ⟨1, yn, yv, yx, yl, yr⟩ ⟨1, yn, eS, eS, -1, -1⟩ rfl rfl _ rfl ?_; simp only [Act.put, List.setIfInBounds_toArray, List.set_cons_succ, List.set_cons_zero]))
      refine wpQuiet_nil ?_
      intro _ hw'
      obtain ⟨nx2, hw''⟩ := hw'
      subst hw''
      go_wp2
      go_ret2
      obtain ⟨q1, q2⟩ := node_of (n := ⟨1, yn, yv, yx, yl, yr⟩) (bs := bs) (z := m) (g := ndE ⟨1, yn, yv, yx, yl, yr⟩ ⟨1, yn, eS, eS, -1, -1⟩) (by rw [← hm]; exact node_leaf (by show (1 : Int) < 12; omega) (by rw [leafN_iff]; rw [ndE_iff]; simp [h2]; grind))
      exact ⟨_, by rw [q1]; rfl, q2, gtrans B0 nx2.h⟩
    · have h2d : decide (0 ≤ yn) = false := decide_eq_false h2
      have h2n : yn < 0 := by omega
      go_wp2
      refine wp_region_ext (by kernel_rfl) (by kernel_rfl) ?_
      repeat (first
        | go_big_quiet_step (first | (go_at_call 48; with_reducible exact yV _) | (go_at_call 48; with_reducible exact yX _))
        | (refine quiet_load_nd rfl 29 (.tmp 2) rfl w.heap.size rfl 29 _ (0, 0) _ (fun X hX => by obtain ⟨nx, rfl⟩ := hX; exact N0.keep nx.h) Tryz.underlying29 rfl (nd_size _) _ rfl ?_; simp only [Act.put, List.setIfInBounds_toArray, List.set_cons_succ, List.set_cons_zero])
        | (refine quiet_eql_nd rfl _ _ rfl ⟨1, yn, yv, yx, yl, yr⟩ ⟨1, yn, eS, eS, -1, -1⟩ rfl rfl _ rfl ?_; simp only [Act.put, List.setIfInBounds_toArray, List.set_cons_succ, List.set_cons_zero]))
      refine wpQuiet_nil ?_
      intro _ hw'
      obtain ⟨nx2, hw''⟩ := hw'
      subst hw''
      go_wp2
      go_ret2
      obtain ⟨q1, q2⟩ := node_of (n := ⟨1, yn, yv, yx, yl, yr⟩) (bs := bs) (z := m) (g := false) (by rw [← hm]; exact node_leaf (by show (1 : Int) < 12; omega) (by rw [leafN_iff]; dsimp only; exact ⟨fun h => (by cases h), fun h => (by omega)⟩))
      exact ⟨_, by rw [q1]; rfl, q2, gtrans B0 nx2.h⟩
  by_cases h2 : yo = 2
  · subst h2
    go_wp2
    refine wp_region_ext (by kernel_rfl) (by kernel_rfl) ?_
    repeat (first
      | go_big_quiet_step (first | (go_at_call 48; with_reducible exact yV _) | (go_at_call 48; with_reducible exact yX _))
      | (refine quiet_load_nd rfl 29 (.tmp 2) rfl w.heap.size rfl 29 _ (0, 0) _ (fun X hX => by obtain ⟨nx, rfl⟩ := hX; exact N0.keep nx.h) Tryz.underlying29 rfl (nd_size _) _ rfl ?_; simp only [Act.put, List.setIfInBounds_toArray, List.set_cons_succ, List.set_cons_zero])
      | (refine quiet_eql_nd rfl _ _ rfl ⟨2, yn, yv, yx, yl, yr⟩ ⟨2, 0, eS, eS, -1, -1⟩ rfl rfl _ rfl ?_; simp only [Act.put, List.setIfInBounds_toArray, List.set_cons_succ, List.set_cons_zero]))
    refine wpQuiet_nil ?_
    intro _ hw'
    obtain ⟨nx2, hw''⟩ := hw'
    subst hw''
    go_wp2
    go_ret2
    obtain ⟨q1, q2⟩ := node_of (n := ⟨2, yn, yv, yx, yl, yr⟩) (bs := bs) (z := m) (g := ndE ⟨2, yn, yv, yx, yl, yr⟩ ⟨2, 0, eS, eS, -1, -1⟩) (by rw [← hm]; exact node_leaf (by show (2 : Int) < 12; omega) (by rw [leafN_iff]; rw [ndE_iff]; simp; grind))
    exact ⟨_, by rw [q1]; rfl, q2, gtrans B0 nx2.h⟩
  by_cases h3 : yo = 3
  · subst h3
    go_wp2
    refine wp_region_ext (by kernel_rfl) (by kernel_rfl) ?_
    repeat (first
      | go_big_quiet_step (first | (go_at_call 48; with_reducible exact yV _) | (go_at_call 48; with_reducible exact yX _))
      | (refine quiet_load_nd rfl 29 (.tmp 2) rfl w.heap.size rfl 29 _ (0, 0) _ (fun X hX => by obtain ⟨nx, rfl⟩ := hX; exact N0.keep nx.h) Tryz.underlying29 rfl (nd_size _) _ rfl ?_; simp only [Act.put, List.setIfInBounds_toArray, List.set_cons_succ, List.set_cons_zero])
      | (refine quiet_eql_nd rfl _ _ rfl ⟨3, yn, yv, yx, yl, yr⟩ ⟨3, 0, eS, eS, -1, -1⟩ rfl rfl _ rfl ?_; simp only [Act.put, List.setIfInBounds_toArray, List.set_cons_succ, List.set_cons_zero]))
    refine wpQuiet_nil ?_
    intro _ hw'
    obtain ⟨nx2, hw''⟩ := hw'
    subst hw''
    go_wp2
    go_ret2
    obtain ⟨q1, q2⟩ := node_of (n := ⟨3, yn, yv, yx, yl, yr⟩) (bs := bs) (z := m) (g := ndE ⟨3, yn, yv, yx, yl, yr⟩ ⟨3, 0, eS, eS, -1, -1⟩) (by rw [← hm]; exact node_leaf (by show (3 : Int) < 12; omega) (by rw [leafN_iff]; rw [ndE_iff]; simp; grind))
    exact ⟨_, by rw [q1]; rfl, q2, gtrans B0 nx2.h⟩
  by_cases h5 : yo = 5
  · subst h5
    cases hv : nameB yv
    · rw [hv] at yV
      go_wp2
      refine wp_region_ext (by kernel_rfl) (by kernel_rfl) ?_
      repeat (first
        | go_big_quiet_step (first | (go_at_call 48; with_reducible exact yV _) | (go_at_call 48; with_reducible exact yX _))
        | (refine quiet_load_nd rfl 29 (.tmp 2) rfl w.heap.size rfl 29 _ (0, 0) _ (fun X hX => by obtain ⟨nx, rfl⟩ := hX; exact N0.keep nx.h) Tryz.underlying29 rfl (nd_size _) _ rfl ?_; simp only [Act.put, List.setIfInBounds_toArray, List.set_cons_succ, List.set_cons_zero])
        | (refine quiet_eql_nd rfl _ _ rfl ⟨5, yn, yv, yx, yl, yr⟩ ⟨5, 0, yv, eS, -1, -1⟩ rfl rfl _ rfl ?_; simp only [Act.put, List.setIfInBounds_toArray, List.set_cons_succ, List.set_cons_zero]))
      refine wpQuiet_nil ?_
      intro _ hw'
      obtain ⟨nx2, hw''⟩ := hw'
      subst hw''
      go_wp2
      go_ret2
      obtain ⟨q1, q2⟩ := node_of (n := ⟨5, yn, yv, yx, yl, yr⟩) (bs := bs) (z := m) (g := false) (by rw [← hm]; exact node_leaf (by show (5 : Int) < 12; omega) (by rw [leafN_iff]; dsimp only; rw [hv]; simp))
      exact ⟨_, by rw [q1]; rfl, q2, gtrans B0 nx2.h⟩
    · rw [hv] at yV
      go_wp2
      refine wp_region_ext (by kernel_rfl) (by kernel_rfl) ?_
      repeat (first
        | go_big_quiet_step (first | (go_at_call 48; with_reducible exact yV _) | (go_at_call 48; with_reducible exact yX _))
        | (refine quiet_load_nd rfl 29 (.tmp 2) rfl w.heap.size rfl 29 _ (0, 0) _ (fun X hX => by obtain ⟨nx, rfl⟩ := hX; exact N0.keep nx.h) Tryz.underlying29 rfl (nd_size _) _ rfl ?_; simp only [Act.put, List.setIfInBounds_toArray, List.set_cons_succ, List.set_cons_zero])
        | (refine quiet_eql_nd rfl _ _ rfl ⟨5, yn, yv, yx, yl, yr⟩ ⟨5, 0, yv, eS, -1, -1⟩ rfl rfl _ rfl ?_; simp only [Act.put, List.setIfInBounds_toArray, List.set_cons_succ, List.set_cons_zero]))
      refine wpQuiet_nil ?_
      intro _ hw'
      obtain ⟨nx2, hw''⟩ := hw'
      subst hw''
      go_wp2
      go_ret2
      obtain ⟨q1, q2⟩ := node_of (n := ⟨5, yn, yv, yx, yl, yr⟩) (bs := bs) (z := m) (g := ndE ⟨5, yn, yv, yx, yl, yr⟩ ⟨5, 0, yv, eS, -1, -1⟩) (by rw [← hm]; exact node_leaf (by show (5 : Int) < 12; omega) (by rw [leafN_iff]; rw [ndE_iff]; simp [hv]; grind))
      exact ⟨_, by rw [q1]; rfl, q2, gtrans B0 nx2.h⟩
  by_cases h4 : yo = 4
  · subst h4
    cases hv : nameB yv
    · rw [hv] at yV
      go_wp2
      refine wp_region_ext (by kernel_rfl) (by kernel_rfl) ?_
      repeat (first
        | go_big_quiet_step (first | (go_at_call 48; with_reducible exact yV _) | (go_at_call 48; with_reducible exact yX _))
        | (refine quiet_load_nd rfl 29 (.tmp 2) rfl w.heap.size rfl 29 _ (0, 0) _ (fun X hX => by obtain ⟨nx, rfl⟩ := hX; exact N0.keep nx.h) Tryz.underlying29 rfl (nd_size _) _ rfl ?_; simp only [Act.put, List.setIfInBounds_toArray, List.set_cons_succ, List.set_cons_zero])
        | (refine quiet_eql_nd rfl _ _ rfl ⟨4, yn, yv, yx, yl, yr⟩ ⟨4, 0, yv, yx, -1, -1⟩ rfl rfl _ rfl ?_; simp only [Act.put, List.setIfInBounds_toArray, List.set_cons_succ, List.set_cons_zero]))
      refine wpQuiet_nil ?_
      intro _ hw'
      obtain ⟨nx2, hw''⟩ := hw'
      subst hw''
      go_wp2
      go_ret2
      obtain ⟨q1, q2⟩ := node_of (n := ⟨4, yn, yv, yx, yl, yr⟩) (bs := bs) (z := m) (g := false) (by rw [← hm]; exact node_leaf (by show (4 : Int) < 12; omega) (by rw [leafN_iff]; dsimp only; constructor; (intro h; cases h); (intro h; exfalso; rcases h with ⟨_, _, h | h | h | h⟩; omega; omega; omega; (rw [hv] at h; exact absurd h.2.2.1 (by decide)))))
      exact ⟨_, by rw [q1]; rfl, q2, gtrans B0 nx2.h⟩
    · rw [hv] at yV
      cases hx : nameB yx
      · rw [hx] at yX
        go_wp2
        refine wp_region_ext (by kernel_rfl) (by kernel_rfl) ?_
        repeat (first
          | go_big_quiet_step (first | (go_at_call 48; with_reducible exact yV _) | (go_at_call 48; with_reducible exact yX _))
          | (refine quiet_load_nd rfl 29 (.tmp 2) rfl w.heap.size rfl 29 _ (0, 0) _ (fun X hX => by obtain ⟨nx, rfl⟩ := hX; exact N0.keep nx.h) Tryz.underlying29 rfl (nd_size _) _ rfl ?_; simp only [Act.put, List.setIfInBounds_toArray, List.set_cons_succ, List.set_cons_zero])
          | (refine quiet_eql_nd rfl _ _ rfl ⟨4, yn, yv, yx, yl, yr⟩ ⟨4, 0, yv, yx, -1, -1⟩ rfl rfl _ rfl ?_; simp only [Act.put, List.setIfInBounds_toArray, List.set_cons_succ, List.set_cons_zero]))
        refine wpQuiet_nil ?_
        intro _ hw'
        obtain ⟨nx2, hw''⟩ := hw'
        subst hw''
        go_wp2
        go_ret2
        obtain ⟨q1, q2⟩ := node_of (n := ⟨4, yn, yv, yx, yl, yr⟩) (bs := bs) (z := m) (g := false) (by rw [← hm]; exact node_leaf (by show (4 : Int) < 12; omega) (by rw [leafN_iff]; dsimp only; constructor; (intro h; cases h); (intro h; exfalso; rcases h with ⟨_, _, h | h | h | h⟩; omega; omega; omega; (rw [hx] at h; exact absurd h.2.2.2 (by decide)))))
        exact ⟨_, by rw [q1]; rfl, q2, gtrans B0 nx2.h⟩
      · rw [hx] at yX
        go_wp2
        refine wp_region_ext (by kernel_rfl) (by kernel_rfl) ?_
        repeat (first
          | go_big_quiet_step (first | (go_at_call 48; with_reducible exact yV _) | (go_at_call 48; with_reducible exact yX _))
          | (refine quiet_load_nd rfl 29 (.tmp 2) rfl w.heap.size rfl 29 _ (0, 0) _ (fun X hX => by obtain ⟨nx, rfl⟩ := hX; exact N0.keep nx.h) Tryz.underlying29 rfl (nd_size _) _ rfl ?_; simp only [Act.put, List.setIfInBounds_toArray, List.set_cons_succ, List.set_cons_zero])
          | (refine quiet_eql_nd rfl _ _ rfl ⟨4, yn, yv, yx, yl, yr⟩ ⟨4, 0, yv, yx, -1, -1⟩ rfl rfl _ rfl ?_; simp only [Act.put, List.setIfInBounds_toArray, List.set_cons_succ, List.set_cons_zero]))
        refine wpQuiet_nil ?_
        intro _ hw'
        obtain ⟨nx2, hw''⟩ := hw'
        subst hw''
        go_wp2
        go_ret2
        obtain ⟨q1, q2⟩ := node_of (n := ⟨4, yn, yv, yx, yl, yr⟩) (bs := bs) (z := m) (g := ndE ⟨4, yn, yv, yx, yl, yr⟩ ⟨4, 0, yv, yx, -1, -1⟩) (by rw [← hm]; exact node_leaf (by show (4 : Int) < 12; omega) (by rw [leafN_iff]; rw [ndE_iff]; dsimp only; constructor; (intro h; exact ⟨h.2.2.2.2.1, h.2.2.2.2.2, .inr (.inr (.inr ⟨by omega, h.2.1, hv, hx⟩))⟩); (intro h; rcases h with ⟨e1, e2, h | h | h | h⟩; omega; omega; omega; exact ⟨rfl, h.2.1, rfl, rfl, e1, e2⟩)))
        exact ⟨_, by rw [q1]; rfl, q2, gtrans B0 nx2.h⟩
  by_cases h6 : 6 ≤ yo ∧ yo ≤ 11
  · obtain ⟨h6a, h6b⟩ := h6
    have b1 : (yo == 1) = false := beq_eq_false_iff_ne.2 h1
    have b2 : (yo == 2) = false := beq_eq_false_iff_ne.2 h2
    have b3 : (yo == 3) = false := beq_eq_false_iff_ne.2 h3
    have b4 : (yo == 4) = false := beq_eq_false_iff_ne.2 h4
    have b5 : (yo == 5) = false := beq_eq_false_iff_ne.2 h5
    cases hv : nameB yv
    · rw [hv] at yV
      go_wp2
      refine wp_region_ext (by kernel_rfl) (by kernel_rfl) ?_
      repeat (first
        | go_big_quiet_step (first | (go_at_call 48; with_reducible exact yV _) | (go_at_call 48; with_reducible exact yX _))
        | (refine quiet_load_nd rfl 29 (.tmp 2) rfl w.heap.size rfl 29 _ (0, 0) _ (fun X hX => by obtain ⟨nx, rfl⟩ := hX; exact N0.keep nx.h) Tryz.underlying29 rfl (nd_size _) _ rfl ?_; simp only [Act.put, List.setIfInBounds_toArray, List.set_cons_succ, List.set_cons_zero])
        | (refine quiet_eql_nd rfl _ _ rfl ⟨yo, yn, yv, yx, yl, yr⟩ ⟨yo, 0, yv, yx, -1, -1⟩ rfl rfl _ rfl ?_; simp only [Act.put, List.setIfInBounds_toArray, List.set_cons_succ, List.set_cons_zero]))
      refine wpQuiet_nil ?_
      intro _ hw'
      obtain ⟨nx2, hw''⟩ := hw'
      subst hw''
      go_wp2
      go_ret2
      obtain ⟨q1, q2⟩ := node_of (n := ⟨yo, yn, yv, yx, yl, yr⟩) (bs := bs) (z := m) (g := false) (by rw [← hm]; exact node_leaf (by show (yo : Int) < 12; omega) (by rw [leafN_iff]; dsimp only; constructor; (intro h; cases h); (intro h; exfalso; rcases h with ⟨_, _, h | h | h | h⟩; omega; omega; omega; (rw [hv] at h; exact absurd h.2.2.1 (by decide)))))
      exact ⟨_, by rw [q1]; rfl, q2, gtrans B0 nx2.h⟩
    · rw [hv] at yV
      cases hx : nameB yx
      · rw [hx] at yX
        go_wp2
        refine wp_region_ext (by kernel_rfl) (by kernel_rfl) ?_
        repeat (first
          | go_big_quiet_step (first | (go_at_call 48; with_reducible exact yV _) | (go_at_call 48; with_reducible exact yX _))
          | (refine quiet_load_nd rfl 29 (.tmp 2) rfl w.heap.size rfl 29 _ (0, 0) _ (fun X hX => by obtain ⟨nx, rfl⟩ := hX; exact N0.keep nx.h) Tryz.underlying29 rfl (nd_size _) _ rfl ?_; simp only [Act.put, List.setIfInBounds_toArray, List.set_cons_succ, List.set_cons_zero])
          | (refine quiet_eql_nd rfl _ _ rfl ⟨yo, yn, yv, yx, yl, yr⟩ ⟨yo, 0, yv, yx, -1, -1⟩ rfl rfl _ rfl ?_; simp only [Act.put, List.setIfInBounds_toArray, List.set_cons_succ, List.set_cons_zero]))
        refine wpQuiet_nil ?_
        intro _ hw'
        obtain ⟨nx2, hw''⟩ := hw'
        subst hw''
        go_wp2
        go_ret2
        obtain ⟨q1, q2⟩ := node_of (n := ⟨yo, yn, yv, yx, yl, yr⟩) (bs := bs) (z := m) (g := false) (by rw [← hm]; exact node_leaf (by show (yo : Int) < 12; omega) (by rw [leafN_iff]; dsimp only; constructor; (intro h; cases h); (intro h; exfalso; rcases h with ⟨_, _, h | h | h | h⟩; omega; omega; omega; (rw [hx] at h; exact absurd h.2.2.2 (by decide)))))
        exact ⟨_, by rw [q1]; rfl, q2, gtrans B0 nx2.h⟩
      · rw [hx] at yX
        go_wp2
        refine wp_region_ext (by kernel_rfl) (by kernel_rfl) ?_
        repeat (first
          | go_big_quiet_step (first | (go_at_call 48; with_reducible exact yV _) | (go_at_call 48; with_reducible exact yX _))
          | (refine quiet_load_nd rfl 29 (.tmp 2) rfl w.heap.size rfl 29 _ (0, 0) _ (fun X hX => by obtain ⟨nx, rfl⟩ := hX; exact N0.keep nx.h) Tryz.underlying29 rfl (nd_size _) _ rfl ?_; simp only [Act.put, List.setIfInBounds_toArray, List.set_cons_succ, List.set_cons_zero])
          | (refine quiet_eql_nd rfl _ _ rfl ⟨yo, yn, yv, yx, yl, yr⟩ ⟨yo, 0, yv, yx, -1, -1⟩ rfl rfl _ rfl ?_; simp only [Act.put, List.setIfInBounds_toArray, List.set_cons_succ, List.set_cons_zero]))
        refine wpQuiet_nil ?_
        intro _ hw'
        obtain ⟨nx2, hw''⟩ := hw'
        subst hw''
        go_wp2
        go_ret2
        obtain ⟨q1, q2⟩ := node_of (n := ⟨yo, yn, yv, yx, yl, yr⟩) (bs := bs) (z := m) (g := ndE ⟨yo, yn, yv, yx, yl, yr⟩ ⟨yo, 0, yv, yx, -1, -1⟩) (by rw [← hm]; exact node_leaf (by show (yo : Int) < 12; omega) (by rw [leafN_iff]; rw [ndE_iff]; dsimp only; constructor; (intro h; exact ⟨h.2.2.2.2.1, h.2.2.2.2.2, .inr (.inr (.inr ⟨by omega, h.2.1, hv, hx⟩))⟩); (intro h; rcases h with ⟨e1, e2, h | h | h | h⟩; omega; omega; omega; exact ⟨rfl, h.2.1, rfl, rfl, e1, e2⟩)))
        exact ⟨_, by rw [q1]; rfl, q2, gtrans B0 nx2.h⟩
  have b1x : (yo == 1) = false := beq_eq_false_iff_ne.2 h1
  have b2 : (yo == 2) = false := beq_eq_false_iff_ne.2 h2
  have b3 : (yo == 3) = false := beq_eq_false_iff_ne.2 h3
  have b4 : (yo == 4) = false := beq_eq_false_iff_ne.2 h4
  have b5 : (yo == 5) = false := beq_eq_false_iff_ne.2 h5
  have hcl : yo < 1 ∨ 12 ≤ yo := by omega
  have e6 : ∀ (u : Nat), (decide (6 ≤ yo) && decide (yo ≤ 11)) = false := fun _ => by
    rcases hcl with h | h
    · rw [decide_eq_false (by omega)]; rfl
    · rw [decide_eq_false (p := yo ≤ 11) (by omega), Bool.and_false]
  cases m with
  | zero =>
    have hz : bs = [] := List.length_eq_zero_iff.1 hm
    have hno : nodeO ⟨yo, yn, yv, yx, yl, yr⟩ bs = none := by
      subst hz
      unfold nodeO
      rw [if_neg (fun e => by have := (leafN_iff _).1 e; dsimp only at this; omega)]
      simp
    rcases hcl with h | h
    · have d6 : decide (6 ≤ yo) = false := decide_eq_false (by omega)
      go_wp2
      go_ret2
      first | exact ⟨⟨_, rfl⟩, B0⟩ | exact ⟨_, by rw [hno]; rfl, fun b hb => (by rw [hno] at hb; cases hb), B0⟩
    · have d6 : decide (yo ≤ 11) = false := decide_eq_false (by omega)
      have d6b : 6 ≤ yo := by omega
      go_wp2
      go_ret2
      first | exact ⟨⟨_, rfl⟩, B0⟩ | exact ⟨_, by rw [hno]; rfl, fun b hb => (by rw [hno] at hb; cases hb), B0⟩
  | succ k =>
    obtain ⟨g, o, rfl, x0⟩ := B k (by omega)
    have hnn : bs ≠ [] := fun e => by rw [e] at hm; simp at hm
    have pk := fun z : Ext V => (z.cell g (o + k) (Nat.lt_of_lt_of_le (lt_of_cell x0) B0.size)).trans ((B0.cell (p := ⟨_, _, none⟩) (lt_of_cell x0)).trans x0)
    have xk := (B0.cell (p := ⟨_, _, none⟩) (lt_of_cell x0)).trans x0
    have hbk := hb k (by omega)
    have hbq := hb
    obtain ⟨z, hz'⟩ : ∃ z, bs.getD k 0 = z := ⟨_, rfl⟩
    rw [hz'] at pk xk hbk
    by_cases h12 : yo = 12
    · subst h12
      go_wp2
      refine wp_region_ext (by kernel_rfl) (by kernel_rfl) ?_
      repeat (first
        | go_big_quiet_step (first | (go_at_call 48; with_reducible exact yV _) | (go_at_call 48; with_reducible exact yX _))
        | (refine quiet_load_nd rfl 29 (.tmp 2) rfl w.heap.size rfl 29 _ (0, 0) _ (fun X hX => by obtain ⟨nx, rfl⟩ := hX; exact N0.keep nx.h) Tryz.underlying29 rfl (nd_size _) _ rfl ?_; simp only [Act.put, List.setIfInBounds_toArray, List.set_cons_succ, List.set_cons_zero])
        | (refine quiet_eql_nd rfl _ _ rfl ⟨12, yn, yv, yx, yl, yr⟩ ⟨12, 0, eS, eS, (k : Int), -1⟩ rfl rfl _ rfl ?_; simp only [Act.put, List.setIfInBounds_toArray, List.set_cons_succ, List.set_cons_zero]))
      refine wpQuiet_nil ?_
      intro _ hw'
      obtain ⟨nx2, hw''⟩ := hw'
      subst hw''
      go_wp2
      go_ret2
      obtain ⟨q1, q2⟩ := node_of (n := ⟨12, yn, yv, yx, yl, yr⟩) (bs := bs) (z := z) (g := ndE ⟨12, yn, yv, yx, yl, yr⟩ ⟨12, 0, eS, eS, (k : Int), -1⟩) (by rw [← hz', show k = bs.length - 1 by omega]; exact node_one (by dsimp only; omega) (by rw [ndE_iff, bareN_iff]; dsimp only; constructor; (intro h; exact ⟨⟨h.2.1, h.2.2.1, h.2.2.2.1⟩, hnn, by omega, h.2.2.2.2.2⟩); (intro h; exact ⟨rfl, h.1.1, h.1.2.1, h.1.2.2, by omega, h.2.2.2⟩)))
      exact ⟨_, by rw [q1]; rfl, q2, gtrans B0 nx2.h⟩
    by_cases h13 : yo = 13
    · subst h13
      go_wp2
      refine wp_region_ext (by kernel_rfl) (by kernel_rfl) ?_
      repeat (first
        | go_big_quiet_step (first | (go_at_call 48; with_reducible exact yV _) | (go_at_call 48; with_reducible exact yX _))
        | (refine quiet_load_nd rfl 29 (.tmp 2) rfl w.heap.size rfl 29 _ (0, 0) _ (fun X hX => by obtain ⟨nx, rfl⟩ := hX; exact N0.keep nx.h) Tryz.underlying29 rfl (nd_size _) _ rfl ?_; simp only [Act.put, List.setIfInBounds_toArray, List.set_cons_succ, List.set_cons_zero])
        | (refine quiet_eql_nd rfl _ _ rfl ⟨13, yn, yv, yx, yl, yr⟩ ⟨13, 0, eS, eS, (k : Int), -1⟩ rfl rfl _ rfl ?_; simp only [Act.put, List.setIfInBounds_toArray, List.set_cons_succ, List.set_cons_zero]))
      refine wpQuiet_nil ?_
      intro _ hw'
      obtain ⟨nx2, hw''⟩ := hw'
      subst hw''
      go_wp2
      go_ret2
      obtain ⟨q1, q2⟩ := node_of (n := ⟨13, yn, yv, yx, yl, yr⟩) (bs := bs) (z := z) (g := ndE ⟨13, yn, yv, yx, yl, yr⟩ ⟨13, 0, eS, eS, (k : Int), -1⟩) (by rw [← hz', show k = bs.length - 1 by omega]; exact node_one (by dsimp only; omega) (by rw [ndE_iff, bareN_iff]; dsimp only; constructor; (intro h; exact ⟨⟨h.2.1, h.2.2.1, h.2.2.2.1⟩, hnn, by omega, h.2.2.2.2.2⟩); (intro h; exact ⟨rfl, h.1.1, h.1.2.1, h.1.2.2, by omega, h.2.2.2⟩)))
      exact ⟨_, by rw [q1]; rfl, q2, gtrans B0 nx2.h⟩
    have b12 : (yo == 12) = false := beq_eq_false_iff_ne.2 h12
    have b13 : (yo == 13) = false := beq_eq_false_iff_ne.2 h13
    by_cases hz0 : z ≤ 0
    · have dz : decide (0 < z) = false := decide_eq_false (by omega)
      have hz1 : ¬ 0 < z := by omega
      have hno : nodeO ⟨yo, yn, yv, yx, yl, yr⟩ bs = none := by
        by_cases hr : yo < 1 ∨ 26 < yo
        · exact node_none hr
        · exact node_two (g := false) (by dsimp only; omega) (by rw [show bs.length - 1 = k by omega, hz']; constructor; (intro h; cases h); (intro h; omega))
      rcases hcl with h | h
      · have d6 : decide (6 ≤ yo) = false := decide_eq_false (by omega)
        go_wp2
        go_ret2
        first | exact ⟨⟨_, rfl⟩, B0⟩ | exact ⟨_, by rw [hno]; rfl, fun b hb => (by rw [hno] at hb; cases hb), B0⟩
      · have d6 : decide (yo ≤ 11) = false := decide_eq_false (by omega)
        have d6b : 6 ≤ yo := by omega
        go_wp2
        go_ret2
        first | exact ⟨⟨_, rfl⟩, B0⟩ | exact ⟨_, by rw [hno]; rfl, fun b hb => (by rw [hno] at hb; cases hb), B0⟩
    obtain ⟨j, rfl⟩ : ∃ j : Nat, z = ((j : Int) + 1) := ⟨(z - 1).toNat, by omega⟩
    have hj0 : 0 < (j : Int) + 1 := by omega
    by_cases hr : yo < 1 ∨ 26 < yo
    · have hno : nodeO ⟨yo, yn, yv, yx, yl, yr⟩ bs = none := node_none hr
      rcases hr with h | h
      · have d6 : decide (6 ≤ yo) = false := decide_eq_false (by omega)
        have d14 : decide (14 ≤ yo) = false := decide_eq_false (by omega)
        go_wp2
        go_ret2
        first | exact ⟨⟨_, rfl⟩, B0⟩ | exact ⟨_, by rw [hno]; rfl, fun b hb => (by rw [hno] at hb; cases hb), B0⟩
      · have d6 : decide (yo ≤ 11) = false := decide_eq_false (by omega)
        have d6b : 6 ≤ yo := by omega
        have d14 : decide (yo ≤ 26) = false := decide_eq_false (by omega)
        have d14b : 14 ≤ yo := by omega
        go_wp2
        go_ret2
        first | exact ⟨⟨_, rfl⟩, B0⟩ | exact ⟨_, by rw [hno]; rfl, fun b hb => (by rw [hno] at hb; cases hb), B0⟩
    have d6 : decide (yo ≤ 11) = false := decide_eq_false (by omega)
    have d6b : 6 ≤ yo := by omega
    have d14 : yo ≤ 26 := by omega
    have d14b : 14 ≤ yo := by omega
    obtain ⟨g', o', e', y0⟩ := B j (by omega)
    simp only [Option.some.injEq, Addr.mk.injEq, and_true] at e'
    obtain ⟨rfl, rfl⟩ := e'
    have pj := fun z : Ext V => (z.cell g (o + j) (Nat.lt_of_lt_of_le (lt_of_cell y0) B0.size)).trans ((B0.cell (p := ⟨_, _, none⟩) (lt_of_cell y0)).trans y0)
    have hjk : (j : Int) < (k : Int) + 1 := by omega
    obtain ⟨z2, hz2⟩ : ∃ z2, bs.getD j 0 = z2 := ⟨_, rfl⟩
    rw [hz2] at pj
    go_wp2
    refine wp_region_ext (by kernel_rfl) (by kernel_rfl) ?_
    repeat (first
      | go_big_quiet_step (first | (go_at_call 48; with_reducible exact yV _) | (go_at_call 48; with_reducible exact yX _))
      | (refine quiet_load_nd rfl 29 (.tmp 2) rfl w.heap.size rfl 29 _ (0, 0) _ (fun X hX => by obtain ⟨nx, rfl⟩ := hX; exact N0.keep nx.h) Tryz.underlying29 rfl (nd_size _) _ rfl ?_; simp only [Act.put, List.setIfInBounds_toArray, List.set_cons_succ, List.set_cons_zero])
      | (refine quiet_eql_nd rfl _ _ rfl ⟨yo, yn, yv, yx, yl, yr⟩ ⟨yo, 0, eS, eS, (j : Int), (k : Int)⟩ rfl rfl _ rfl ?_; simp only [Act.put, List.setIfInBounds_toArray, List.set_cons_succ, List.set_cons_zero]))
    refine wpQuiet_nil ?_
    intro _ hw'
    obtain ⟨nx2, hw''⟩ := hw'
    subst hw''
    go_wp2
    go_ret2
    obtain ⟨q1, q2⟩ := node_of (n := ⟨yo, yn, yv, yx, yl, yr⟩) (bs := bs) (z := z2) (g := ndE ⟨yo, yn, yv, yx, yl, yr⟩ ⟨yo, 0, eS, eS, (j : Int), (k : Int)⟩) (by
      have e1 : bs.length - 1 = k := by omega
      have e2 : (bs.getD (bs.length - 1) 0 - 1).toNat = j := by rw [e1, hz']; omega
      have h9 := node_two (n := ⟨yo, yn, yv, yx, yl, yr⟩) (bs := bs) (g := ndE ⟨yo, yn, yv, yx, yl, yr⟩ ⟨yo, 0, eS, eS, (j : Int), (k : Int)⟩) ⟨d14b, d14⟩ (by rw [ndE_iff, bareN_iff, e1, hz']; dsimp only; constructor; (intro h; exact ⟨⟨h.2.1, h.2.2.1, h.2.2.2.1⟩, hnn, by omega, by omega, by omega⟩); (intro h; exact ⟨rfl, h.1.1, h.1.2.1, h.1.2.2, by omega, by omega⟩))
      rw [e2, hz2] at h9
      exact h9)
    exact ⟨_, by rw [q1]; rfl, q2, gtrans B0 nx2.h⟩

end Go.Proofs.YtlejhococjlijaaGreatDoor
