/- Truths; where a subtree begins; its size: the program's side. And what goes with it: 2 texts in one. -/
import Derived.Test.YtglagbedgjkdbaaGreatDoorJb06
import Derived.Deep.OwnRows
namespace Go.Proofs.YtglagbedgjkdbaaGreatDoor
open Go.RowKit Go.BigFrame Go.Proofs.YtglagbedgjkdbaaGreatDoor.Ev
set_option linter.unusedVariables false
set_option linter.unusedSimpArgs false

def trB (op : Int) : Bool := decide (op = 2 ∨ op = 3 ∨ op = 13 ∨ (19 ≤ op ∧ op ≤ 26))
def jnB (op : Int) : Bool := decide (op = 13 ∨ op = 25 ∨ op = 26)
theorem op_cases (op : Int) : op = 2 ∨ op = 3 ∨ op = 13 ∨ op = 25 ∨ op = 26 ∨ ((op ≠ 2 ∧ op ≠ 3 ∧ op ≠ 13 ∧ op ≠ 25 ∧ op ≠ 26) ∧ ((19 ≤ op ∧ op ≤ 24) ∨ op < 19 ∨ 26 < op)) := by omega

set_option maxRecDepth 100000 in
set_option maxHeartbeats 4000000 in
theorem joins_any (op : Int) (w : World) : Calls Tryz.prog 59 #[.int .i64 op] w fun e w' => e = .returned (.bool (jnB op)) ∧ w = w' := by
  obtain ⟨v, hv⟩ : ∃ v, jnB op = v := ⟨_, rfl⟩
  rw [hv]
  skip
  rcases op_cases op with rfl | rfl | rfl | rfl | rfl | ⟨⟨n1, n2, n3, n4, n5⟩, hc⟩
  iterate 5
    · cases hv
      go_enter Tryz.func59, Tryz.ntmps59
      go_wp2
      go_ret
      exact ⟨rfl, rfl⟩
  have b1 : (op == 2) = false := beq_eq_false_iff_ne.2 n1
  have b2 : (op == 3) = false := beq_eq_false_iff_ne.2 n2
  have b3 : (op == 13) = false := beq_eq_false_iff_ne.2 n3
  have b4 : (op == 25) = false := beq_eq_false_iff_ne.2 n4
  have b5 : (op == 26) = false := beq_eq_false_iff_ne.2 n5
  have hv' : decide (op = 2 ∨ op = 3 ∨ op = 13 ∨ (19 ≤ op ∧ op ≤ 26)) = decide (19 ≤ op ∧ op ≤ 24) := decide_eq_decide.2 (by omega)
  have hj : jnB op = false := decide_eq_false (by omega)
  rcases hc with ⟨h1, h2⟩ | h1 | h1
  · have d1 : decide (19 ≤ op) = true := decide_eq_true h1
    have d2 : decide (op ≤ 24) = true := decide_eq_true h2
    have d3 : decide (op ≤ 26) = true := decide_eq_true (by omega)
    obtain rfl : false = v := by rw [← hv]; first | exact hj.symm | exact (hv'.trans (decide_eq_true ⟨h1, h2⟩)).symm
    clear hv hv'
    try rw [hj] at cJ
    go_enter Tryz.func59, Tryz.ntmps59
    go_wp2
    go_ret
    exact ⟨rfl, rfl⟩
  · have d1 : decide (19 ≤ op) = false := decide_eq_false (by omega)
    obtain rfl : false = v := by rw [← hv]; first | exact hj.symm | exact (hv'.trans (decide_eq_false (by omega))).symm
    clear hv hv'
    try rw [hj] at cJ
    go_enter Tryz.func59, Tryz.ntmps59
    go_wp2
    go_ret
    exact ⟨rfl, rfl⟩
  · have d1 : decide (19 ≤ op) = true := decide_eq_true (by omega)
    have d2 : decide (op ≤ 24) = false := decide_eq_false (by omega)
    have d3 : decide (op ≤ 26) = false := decide_eq_false (by omega)
    obtain rfl : false = v := by rw [← hv]; first | exact hj.symm | exact (hv'.trans (decide_eq_false (by omega))).symm
    clear hv hv'
    try rw [hj] at cJ
    go_enter Tryz.func59, Tryz.ntmps59
    go_wp2
    go_ret
    exact ⟨rfl, rfl⟩

set_option maxRecDepth 100000 in
set_option maxHeartbeats 4000000 in
theorem isTruth_any (op : Int) (w : World) : Calls Tryz.prog 34 #[.int .i64 op] w fun e w' => e = .returned (.bool (trB op)) ∧ w = w' := by
  obtain ⟨v, hv⟩ : ∃ v, trB op = v := ⟨_, rfl⟩
  rw [hv]
  have cJ := joins_any op
  rcases op_cases op with rfl | rfl | rfl | rfl | rfl | ⟨⟨n1, n2, n3, n4, n5⟩, hc⟩
  iterate 5
    · cases hv
      go_enter Tryz.func34, Tryz.ntmps34
      go_wp2_with (go_at_call 59; (with_reducible refine (cJ _).mono ?_); rintro e u ⟨rfl, rfl⟩)
      go_ret
      exact ⟨rfl, rfl⟩
  have b1 : (op == 2) = false := beq_eq_false_iff_ne.2 n1
  have b2 : (op == 3) = false := beq_eq_false_iff_ne.2 n2
  have b3 : (op == 13) = false := beq_eq_false_iff_ne.2 n3
  have b4 : (op == 25) = false := beq_eq_false_iff_ne.2 n4
  have b5 : (op == 26) = false := beq_eq_false_iff_ne.2 n5
  have hv' : decide (op = 2 ∨ op = 3 ∨ op = 13 ∨ (19 ≤ op ∧ op ≤ 26)) = decide (19 ≤ op ∧ op ≤ 24) := decide_eq_decide.2 (by omega)
  have hj : jnB op = false := decide_eq_false (by omega)
  rcases hc with ⟨h1, h2⟩ | h1 | h1
  · have d1 : decide (19 ≤ op) = true := decide_eq_true h1
    have d2 : decide (op ≤ 24) = true := decide_eq_true h2
    have d3 : decide (op ≤ 26) = true := decide_eq_true (by omega)
    obtain rfl : true = v := by rw [← hv]; first | exact hj.symm | exact (hv'.trans (decide_eq_true ⟨h1, h2⟩)).symm
    clear hv hv'
    try rw [hj] at cJ
    go_enter Tryz.func34, Tryz.ntmps34
    go_wp2_with (go_at_call 59; (with_reducible refine (cJ _).mono ?_); rintro e u ⟨rfl, rfl⟩)
    go_ret
    exact ⟨rfl, rfl⟩
  · have d1 : decide (19 ≤ op) = false := decide_eq_false (by omega)
    obtain rfl : false = v := by rw [← hv]; first | exact hj.symm | exact (hv'.trans (decide_eq_false (by omega))).symm
    clear hv hv'
    try rw [hj] at cJ
    go_enter Tryz.func34, Tryz.ntmps34
    go_wp2_with (go_at_call 59; (with_reducible refine (cJ _).mono ?_); rintro e u ⟨rfl, rfl⟩)
    go_ret
    exact ⟨rfl, rfl⟩
  · have d1 : decide (19 ≤ op) = true := decide_eq_true (by omega)
    have d2 : decide (op ≤ 24) = false := decide_eq_false (by omega)
    have d3 : decide (op ≤ 26) = false := decide_eq_false (by omega)
    obtain rfl : false = v := by rw [← hv]; first | exact hj.symm | exact (hv'.trans (decide_eq_false (by omega))).symm
    clear hv hv'
    try rw [hj] at cJ
    go_enter Tryz.func34, Tryz.ntmps34
    go_wp2_with (go_at_call 59; (with_reducible refine (cJ _).mono ?_); rintro e u ⟨rfl, rfl⟩)
    go_ret
    exact ⟨rfl, rfl⟩

/-- Is the last node a truth? -/
def lastT (ns : List Nd) : Bool := decide (0 < ns.length) && trB (ns.getD (ns.length - 1) noNd).op

set_option maxRecDepth 100000 in
set_option maxHeartbeats 4000000 in
theorem IsTruth_any (ns : List Nd) (ao : Option Addr) (cap : Nat) (w : World) (A : IsNds w ao ns) (hr : ns.length * 64 ≤ 140737488351232) :
    Calls Tryz.prog 10 #[.slice ao ns.length cap] w fun e w' => e = .returned (.bool (lastT ns)) ∧ Below w.heap.size w w' := by
  obtain ⟨n, hn⟩ : ∃ n, ns.length = n := ⟨_, rfl⟩
  rw [hn] at hr ⊢
  by_cases h0 : n = 0
  · have hf : lastT ns = false := by unfold lastT; rw [hn, h0]; rfl
    rw [hf]
    subst h0
    go_enter Tryz.func10, Tryz.ntmps10
    go_wp2
    go_ret
    exact ⟨rfl, Below.refl _ _⟩
  obtain ⟨j, hj⟩ : ∃ j, n = j + 1 := ⟨n - 1, by omega⟩
  have hT : lastT ns = trB (ns.getD j noNd).op := by unfold lastT; rw [hn, hj]; simp
  rw [hT]
  obtain ⟨g, o, rfl, x0, _⟩ := A j (by omega)
  have cT := isTruth_any (ns.getD j noNd).op
  generalize trB (ns.getD j noNd).op = v at *
  generalize (ns.getD j noNd).op = op at *
  have hji : (n : Int) - 1 = (j : Int) := by omega
  have hjn : (j : Int) < (n : Int) := by omega
  have hi0 : (0 : Int) < (n : Int) := by omega
  have hb0 : ((n : Int) == 0) = false := beq_eq_false_iff_ne.2 (by omega)
  clear hj h0 hT
  go_enter Tryz.func10, Tryz.ntmps10
  go_wp2_with (go_at_call 34; (with_reducible refine (cT _).mono ?_); rintro e u ⟨rfl, rfl⟩)
  go_ret
  exact ⟨rfl, by first | exact Below.refl _ _ | exact (Below.refl _ _).drew⟩

/-- The left operand begins where the node does. -/
theorem kin_left {ns : List Nd} {bs : List Int} (K : ∀ i, i < ns.length → Kin ns bs i) (k : Nat) (hk : k < ns.length) : ((ns.getD k noNd).l = -1 ∧ bg bs k = k) ∨ ∃ m : Nat, m < k ∧ (ns.getD k noNd).l = (m : Int) ∧ bg bs m = bg bs k := by
  rcases (K k hk).how with ⟨_, e, e1, _⟩ | ⟨_, e0, e1, _, e⟩ | ⟨_, e0, e1, _, e3, e⟩
  · exact .inl ⟨e1, e⟩
  · exact .inr ⟨k - 1, by omega, e1, e.symm⟩
  · have := (K (k - 1) (by omega)).le
    exact .inr ⟨_, by omega, e3, e.symm⟩
set_option maxRecDepth 100000 in
set_option maxHeartbeats 4000000 in
theorem begin_any (ns : List Nd) (bs : List Int) (K : ∀ i, i < ns.length → Kin ns bs i) (root : Nat) (hroot : root < ns.length) (ao : Option Addr) (cap : Nat) (w : World) (A : IsNds w ao ns) (hr : ns.length * 64 ≤ 140737488351232) :
    Calls Tryz.prog 40 #[.slice ao ns.length cap, .int .i64 root] w fun e w' => e = .returned (.int .i64 (bg bs root)) ∧ Below w.heap.size w w' := by
  obtain ⟨n, hn⟩ : ∃ n, ns.length = n := ⟨_, rfl⟩
  rw [hn] at hr hroot ⊢
  go_enter Tryz.func40, Tryz.ntmps40
  go_wp2
  go_loopw [5] (fun x wr => ∃ k : Nat, k < n ∧ x = .int .i64 k ∧ bg bs k = bg bs root ∧ Below w.heap.size w wr) (fun x _ => (intOf x).toNat)
  case atStart => exact ⟨root, hroot, rfl, rfl, Below.refl _ _⟩
  case round =>
    obtain ⟨k, hk, rfl, hb, G⟩ := hrel
    obtain ⟨g, o, rfl, x0, x1, x2, x3, x4, x5⟩ := (A.keep G) k (by omega)
    have hki : (k : Int) < (n : Int) := by omega
    rcases kin_left K k (by omega) with ⟨e1, e2⟩ | ⟨m, hm, e1, e2⟩
    · rw [e1] at x4
      have HB := show Hid (_ = _) from e2.symm.trans hb
      clear e1 e2 hb x0 x1 x2 x3 x5
      go_wp2
      go_ret
      exact ⟨by rw [HB.out]; rfl, by first | exact G | exact G.drew⟩
    · rw [e1] at x4
      have HB := show Hid (_ = _) from e2.trans hb
      clear e1 e2 hb x0 x1 x2 x3 x5
      go_wp2
      go_roundw
      case rel => exact ⟨m, by omega, rfl, HB.out, by first | exact G | exact G.drew⟩
      case measure => simp [intOf]; omega
/-- Is it a place of a well shaped tree? -/
def plB (ns : List Nd) (root : Int) : Bool := decide (0 ≤ root ∧ root < (ns.length : Int)) && treeB ns
set_option maxRecDepth 100000 in
set_option maxHeartbeats 4000000 in
theorem isPlace_any (ns : List Nd) (root : Int) (ao : Option Addr) (cap : Nat) (w : World) (A : IsNds w ao ns) (hr : ns.length * 64 ≤ 140737488351232) (hf : ∀ k, (ns.getD k noNd).fit) (K : KwAt w) :
    Calls Tryz.prog 39 #[.slice ao ns.length cap, .int .i64 root] w fun e w' => e = .returned (.bool (plB ns root)) ∧ Below w.heap.size w w' := by
  have c1 := shTree_any ns ao cap w K A hr hf
  obtain ⟨v, hv⟩ : ∃ v, plB ns root = v := ⟨_, rfl⟩
  rw [hv]
  unfold plB at hv
  generalize treeB ns = tb at *
  obtain ⟨n, hn⟩ : ∃ n, ns.length = n := ⟨_, rfl⟩
  rw [hn] at hr hv c1 ⊢
  have HV := show Hid (_ = v) from hv
  clear hv
  by_cases h1 : 0 ≤ root
  · by_cases h2 : root < (n : Int)
    · obtain rfl : tb = v := by have := HV.out; rw [decide_eq_true ⟨h1, h2⟩, Bool.true_and] at this; exact this
      go_enter Tryz.func39, Tryz.ntmps39
      go_wp2_with (go_at_call 31; (with_reducible refine c1.mono ?_); rintro e u ⟨rfl, g⟩)
      go_ret
      exact ⟨rfl, g⟩
    · have d2 : decide (root < (n : Int)) = false := decide_eq_false h2
      obtain rfl : false = v := by have := HV.out; rw [decide_eq_false (fun h => h2 h.2), Bool.false_and] at this; exact this
      go_enter Tryz.func39, Tryz.ntmps39
      go_wp2_with (go_at_call 31; (with_reducible refine c1.mono ?_); rintro e u ⟨rfl, g⟩)
      go_ret
      exact ⟨rfl, Below.refl _ _⟩
  · have d1 : decide (0 ≤ root) = false := decide_eq_false h1
    obtain rfl : false = v := by have := HV.out; rw [decide_eq_false (fun h => h1 h.1), Bool.false_and] at this; exact this
    go_enter Tryz.func39, Tryz.ntmps39
    go_wp2_with (go_at_call 31; (with_reducible refine c1.mono ?_); rintro e u ⟨rfl, g⟩)
    go_ret
    exact ⟨rfl, Below.refl _ _⟩
/-- Where the subtrees of a tree begin; none: it is no tree. -/
def bsOf (ns : List Nd) : List Int := (begsO ns []).getD []
theorem tree_bs {ns : List Nd} (h : treeB ns = true) : begsO ns [] = some (bsOf ns) ∧ 0 < ns.length ∧ bg (bsOf ns) (ns.length - 1) = 0 ∧ ∀ i, i < ns.length → Kin ns (bsOf ns) i := by
  unfold treeB at h
  cases hb : begsO ns [] with
  | none => rw [hb] at h; cases h
  | some bs =>
    rw [hb] at h
    have h2 := of_decide_eq_true h
    have e : bsOf ns = bs := by unfold bsOf; rw [hb]; rfl
    rw [e]
    exact ⟨rfl, h2.1, by unfold bg; rw [h2.2]; rfl, kin_of hb⟩
/-- The size of a subtree. -/
def sizeO (ns : List Nd) (root : Int) : Int := if plB ns root = true then root - (bg (bsOf ns) root.toNat : Int) + 1 else 0
end Go.Proofs.YtglagbedgjkdbaaGreatDoor
namespace Go.Proofs.YtglagbedgjkdbaaGreatDoor
open Go.RowKit Go.BigFrame Go.Proofs.YtglagbedgjkdbaaGreatDoor.Ev
set_option linter.unusedVariables false
set_option linter.unusedSimpArgs false

set_option maxRecDepth 100000 in
set_option maxHeartbeats 4000000 in
theorem refOne_any (o : Int) (w : World) : Calls Tryz.prog 129 #[.int .i64 o] w fun e w' => e = .returned (.bool (decide (o = 12 ∨ o = 13))) ∧ w = w' := by
  obtain ⟨v, hv⟩ : ∃ v, decide (o = 12 ∨ o = 13) = v := ⟨_, rfl⟩
  rw [hv]
  by_cases h1 : o = 12
  · subst h1
    obtain rfl : true = v := hv
    go_enter Tryz.func129, Tryz.ntmps129
    go_wp2
    go_ret
    exact ⟨rfl, rfl⟩
  · have b1 : (o == 12) = false := beq_eq_false_iff_ne.2 h1
    by_cases h2 : o = 13
    · subst h2
      obtain rfl : true = v := hv
      go_enter Tryz.func129, Tryz.ntmps129
      go_wp2
      go_ret
      exact ⟨rfl, rfl⟩
    · have b2 : (o == 13) = false := beq_eq_false_iff_ne.2 h2
      obtain rfl : false = v := by rw [← hv, decide_eq_false (by omega)]
      clear hv
      go_enter Tryz.func129, Tryz.ntmps129
      go_wp2
      go_ret
      exact ⟨rfl, rfl⟩
set_option maxRecDepth 100000 in
set_option maxHeartbeats 4000000 in
theorem refTwo_any (o : Int) (w : World) : Calls Tryz.prog 130 #[.int .i64 o] w fun e w' => e = .returned (.bool (decide (14 ≤ o ∧ o ≤ 26))) ∧ w = w' := by
  obtain ⟨v, hv⟩ : ∃ v, decide (14 ≤ o ∧ o ≤ 26) = v := ⟨_, rfl⟩
  rw [hv]
  by_cases h1 : 14 ≤ o
  · by_cases h2 : o ≤ 26
    · obtain rfl : true = v := by rw [← hv, decide_eq_true ⟨h1, h2⟩]
      clear hv
      go_enter Tryz.func130, Tryz.ntmps130
      go_wp2
      go_ret
      exact ⟨rfl, rfl⟩
    · have d2 : decide (o ≤ 26) = false := decide_eq_false h2
      obtain rfl : false = v := by rw [← hv, decide_eq_false (by omega)]
      clear hv
      go_enter Tryz.func130, Tryz.ntmps130
      go_wp2
      go_ret
      exact ⟨rfl, rfl⟩
  · have d1 : decide (14 ≤ o) = false := decide_eq_false h1
    obtain rfl : false = v := by rw [← hv, decide_eq_false (by omega)]
    clear hv
    go_enter Tryz.func130, Tryz.ntmps130
    go_wp2
    go_ret
    exact ⟨rfl, rfl⟩

theorem ne_toList {s : ByteArray} (h : s ≠ eS) : (s.toList == ([] : List UInt8)) = false ∧ (s == (⟨#[]⟩ : ByteArray)) = false ∧ s.toList ≠ [] := by
  have h0 : eS.toList = [] := by rw [ByteArray.toList_eq]
  have h1 : s.toList ≠ [] := fun e => h (bytes_inj.1 (by rw [e, h0]))
  exact ⟨beq_eq_false_iff_ne.2 h1, by rw [beq_toListBytes, h0]; exact beq_eq_false_iff_ne.2 h1, h1⟩
set_option maxRecDepth 100000 in
set_option maxHeartbeats 8000000 in
theorem refLeaf_any (n : Nd) (hf : n.fit) (w : World) (K : KwAt w) :
    Calls Tryz.prog 128 #[.agg (ndA n)] w fun e w' => e = .returned (.bool (leafN n)) ∧ Below w.heap.size w w' := by
  have B0 := galloc (Below.refl w.heap.size w) (.cells (ndA n) 64)
  have N0 := NlAt.new w n
  obtain ⟨v, hv⟩ : ∃ v, leafN n = v := ⟨_, rfl⟩
  rw [hv]
  have HV : Hid (leafN n = v) := hv
  clear hv
  go_enter Tryz.func128, Tryz.ntmps128
  go_upto_region 1 with fail
  generalize hV : w.alloc (.cells (ndA n) 64) = V at *
  obtain ⟨a0, a1, a2, a3, a4, a5⟩ := N0.at
  obtain ⟨yo, yn, yv, yx, yl, yr⟩ := n
  dsimp only at *
  have cV := refIsName_any yv V (K.keep B0)
  have cX := refIsName_any yx V (K.keep B0)
  clear hV N0
  by_cases hl : yl ≠ -1
  · have bl : (yl == -1) = false := beq_eq_false_iff_ne.2 hl
    obtain rfl : false = v := by rw [← HV.out]; unfold leafN; simp [hl]
    clear HV
    go_wp2
    go_ret
    exact ⟨rfl, B0⟩
  replace hl : yl = -1 := Classical.not_not.1 hl
  by_cases hr : yr ≠ -1
  · have br : (yr == -1) = false := beq_eq_false_iff_ne.2 hr
    obtain rfl : false = v := by rw [← HV.out]; unfold leafN; simp [hr]
    clear HV
    subst hl
    go_wp2
    go_ret
    exact ⟨rfl, B0⟩
  replace hr : yr = -1 := Classical.not_not.1 hr
  subst hl
  subst hr
  by_cases h1 : yo = 1
  · subst h1
    by_cases hn : 0 ≤ yn
    · by_cases hv : yv = eS
      · subst hv
        by_cases hx : yx = eS
        · subst hx
          obtain rfl : true = v := by rw [← HV.out]; unfold leafN; simp [hn]
          clear HV
          go_wp2
          go_ret
          exact ⟨rfl, B0⟩
        · obtain ⟨q1, q2, q3⟩ := ne_toList hx
          obtain rfl : false = v := by rw [← HV.out]; unfold leafN; simp [hx]
          clear HV
          go_wp2
          go_ret
          exact ⟨rfl, B0⟩
      · obtain ⟨q1, q2, q3⟩ := ne_toList hv
        obtain rfl : false = v := by rw [← HV.out]; unfold leafN; simp [hv]
        clear HV
        go_wp2
        go_ret
        exact ⟨rfl, B0⟩
    · have dn : decide (0 ≤ yn) = false := decide_eq_false hn
      obtain rfl : false = v := by rw [← HV.out]; unfold leafN; simp [hn]
      clear HV
      go_wp2
      go_ret
      exact ⟨rfl, B0⟩
  by_cases h2 : yo = 2
  · subst h2
    by_cases hn : yn = 0
    · subst hn
      by_cases hv : yv = eS
      · subst hv
        by_cases hx : yx = eS
        · subst hx
          obtain rfl : true = v := by rw [← HV.out]; unfold leafN; simp
          clear HV
          go_wp2
          go_ret
          exact ⟨rfl, B0⟩
        · obtain ⟨q1, q2, q3⟩ := ne_toList hx
          obtain rfl : false = v := by rw [← HV.out]; unfold leafN; simp [hx]
          clear HV
          go_wp2
          go_ret
          exact ⟨rfl, B0⟩
      · obtain ⟨q1, q2, q3⟩ := ne_toList hv
        obtain rfl : false = v := by rw [← HV.out]; unfold leafN; simp [hv]
        clear HV
        go_wp2
        go_ret
        exact ⟨rfl, B0⟩
    · have bn : (yn == 0) = false := beq_eq_false_iff_ne.2 hn
      obtain rfl : false = v := by rw [← HV.out]; unfold leafN; simp [hn]
      clear HV
      go_wp2
      go_ret
      exact ⟨rfl, B0⟩
  by_cases h3 : yo = 3
  · subst h3
    by_cases hn : yn = 0
    · subst hn
      by_cases hv : yv = eS
      · subst hv
        by_cases hx : yx = eS
        · subst hx
          obtain rfl : true = v := by rw [← HV.out]; unfold leafN; simp
          clear HV
          go_wp2
          go_ret
          exact ⟨rfl, B0⟩
        · obtain ⟨q1, q2, q3⟩ := ne_toList hx
          obtain rfl : false = v := by rw [← HV.out]; unfold leafN; simp [hx]
          clear HV
          go_wp2
          go_ret
          exact ⟨rfl, B0⟩
      · obtain ⟨q1, q2, q3⟩ := ne_toList hv
        obtain rfl : false = v := by rw [← HV.out]; unfold leafN; simp [hv]
        clear HV
        go_wp2
        go_ret
        exact ⟨rfl, B0⟩
    · have bn : (yn == 0) = false := beq_eq_false_iff_ne.2 hn
      obtain rfl : false = v := by rw [← HV.out]; unfold leafN; simp [hn]
      clear HV
      go_wp2
      go_ret
      exact ⟨rfl, B0⟩
  by_cases h5 : yo = 5
  · subst h5
    by_cases hn : yn = 0
    · subst hn
      cases hv : nameB yv
      · rw [hv] at cV
        obtain rfl : false = v := by rw [← HV.out]; unfold leafN; simp [hv]
        clear HV
        go_wp2_with (first
          | (go_at_call 147; (with_reducible refine cV.mono ?_); rintro e u ⟨rfl, rfl⟩)
          | (go_at_call 147; (with_reducible refine cX.mono ?_); rintro e u ⟨rfl, rfl⟩))
        go_ret
        exact ⟨rfl, B0⟩
      · rw [hv] at cV
        by_cases hx : yx = eS
        · subst hx
          obtain rfl : true = v := by rw [← HV.out]; unfold leafN; simp [hv]
          clear HV
          go_wp2_with (first
            | (go_at_call 147; (with_reducible refine cV.mono ?_); rintro e u ⟨rfl, rfl⟩)
            | (go_at_call 147; (with_reducible refine cX.mono ?_); rintro e u ⟨rfl, rfl⟩))
          go_ret
          exact ⟨rfl, B0⟩
        · obtain ⟨q1, q2, q3⟩ := ne_toList hx
          obtain rfl : false = v := by rw [← HV.out]; unfold leafN; simp [hx]
          clear HV
          go_wp2_with (first
            | (go_at_call 147; (with_reducible refine cV.mono ?_); rintro e u ⟨rfl, rfl⟩)
            | (go_at_call 147; (with_reducible refine cX.mono ?_); rintro e u ⟨rfl, rfl⟩))
          go_ret
          exact ⟨rfl, B0⟩
    · have bn : (yn == 0) = false := beq_eq_false_iff_ne.2 hn
      obtain rfl : false = v := by rw [← HV.out]; unfold leafN; simp [hn]
      clear HV
      go_wp2
      go_ret
      exact ⟨rfl, B0⟩
  by_cases hq : yo = 4 ∨ yo = 6 ∨ yo = 7 ∨ yo = 8 ∨ yo = 9 ∨ yo = 10 ∨ yo = 11
  · by_cases hn : yn = 0
    · subst hn
      cases hv : nameB yv
      · rw [hv] at cV
        rcases hq with rfl | rfl | rfl | rfl | rfl | rfl | rfl
        all_goals
          obtain rfl : false = v := by rw [← HV.out]; unfold leafN; simp [hv]
          clear HV
          go_wp2_with (first
            | (go_at_call 147; (with_reducible refine cV.mono ?_); rintro e u ⟨rfl, rfl⟩)
            | (go_at_call 147; (with_reducible refine cX.mono ?_); rintro e u ⟨rfl, rfl⟩))
          go_ret
          exact ⟨rfl, B0⟩
      · rw [hv] at cV
        cases hx : nameB yx
        · rw [hx] at cX
          rcases hq with rfl | rfl | rfl | rfl | rfl | rfl | rfl
          all_goals
            obtain rfl : false = v := by rw [← HV.out]; unfold leafN; simp [hx]
            clear HV
            go_wp2_with (first
              | (go_at_call 147; (with_reducible refine cV.mono ?_); rintro e u ⟨rfl, rfl⟩)
              | (go_at_call 147; (with_reducible refine cX.mono ?_); rintro e u ⟨rfl, rfl⟩))
            go_ret
            exact ⟨rfl, B0⟩
        · rw [hx] at cX
          rcases hq with rfl | rfl | rfl | rfl | rfl | rfl | rfl
          all_goals
            obtain rfl : true = v := by rw [← HV.out]; unfold leafN; simp [hv, hx]
            clear HV
            go_wp2_with (first
              | (go_at_call 147; (with_reducible refine cV.mono ?_); rintro e u ⟨rfl, rfl⟩)
              | (go_at_call 147; (with_reducible refine cX.mono ?_); rintro e u ⟨rfl, rfl⟩))
            go_ret
            exact ⟨rfl, B0⟩
    · have bn : (yn == 0) = false := beq_eq_false_iff_ne.2 hn
      rcases hq with rfl | rfl | rfl | rfl | rfl | rfl | rfl
      all_goals
        obtain rfl : false = v := by rw [← HV.out]; unfold leafN; simp [hn]
        clear HV
        go_wp2
        go_ret
        exact ⟨rfl, B0⟩
  have b1 : (yo == 1) = false := beq_eq_false_iff_ne.2 (by omega)
  have b2 : (yo == 2) = false := beq_eq_false_iff_ne.2 (by omega)
  have b3 : (yo == 3) = false := beq_eq_false_iff_ne.2 (by omega)
  have b4 : (yo == 4) = false := beq_eq_false_iff_ne.2 (by omega)
  have b5 : (yo == 5) = false := beq_eq_false_iff_ne.2 (by omega)
  have b6 : (yo == 6) = false := beq_eq_false_iff_ne.2 (by omega)
  have b7 : (yo == 7) = false := beq_eq_false_iff_ne.2 (by omega)
  have b8 : (yo == 8) = false := beq_eq_false_iff_ne.2 (by omega)
  have b9 : (yo == 9) = false := beq_eq_false_iff_ne.2 (by omega)
  have b10 : (yo == 10) = false := beq_eq_false_iff_ne.2 (by omega)
  have b11 : (yo == 11) = false := beq_eq_false_iff_ne.2 (by omega)
  obtain rfl : false = v := by rw [← HV.out]; unfold leafN; rw [decide_eq_false]; intro h; dsimp only at h; omega
  clear HV
  go_wp2
  go_ret
  exact ⟨rfl, B0⟩

end Go.Proofs.YtglagbedgjkdbaaGreatDoor
