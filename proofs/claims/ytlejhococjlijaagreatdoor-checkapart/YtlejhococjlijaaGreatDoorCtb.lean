/- Truths; where a subtree begins; its size: the program's side. -/
import Derived.Test.YtlejhococjlijaaGreatDoorCta
import Derived.Test.YtlejhococjlijaaGreatDoorShc
import Derived.Deep.OwnRows
namespace Go.Proofs.YtlejhococjlijaaGreatDoor
open Go.RowKit Go.BigFrame Go.Proofs.YtlejhococjlijaaGreatDoor.Ev
set_option linter.unusedVariables false
set_option linter.unusedSimpArgs false

def trB (op : Int) : Bool := decide (op = 2 ∨ op = 3 ∨ op = 13 ∨ (19 ≤ op ∧ op ≤ 26))
def jnB (op : Int) : Bool := decide (op = 13 ∨ op = 25 ∨ op = 26)
theorem op_cases (op : Int) : op = 2 ∨ op = 3 ∨ op = 13 ∨ op = 25 ∨ op = 26 ∨ ((op ≠ 2 ∧ op ≠ 3 ∧ op ≠ 13 ∧ op ≠ 25 ∧ op ≠ 26) ∧ ((19 ≤ op ∧ op ≤ 24) ∨ op < 19 ∨ 26 < op)) := by omega

set_option maxRecDepth 100000 in
set_option maxHeartbeats 4000000 in
theorem joins_any (op : Int) (w : World) : Calls Tryz.prog 64 #[.int .i64 op] w fun e w' => e = .returned (.bool (jnB op)) ∧ w = w' := by
  obtain ⟨v, hv⟩ : ∃ v, jnB op = v := ⟨_, rfl⟩
  rw [hv]
  skip
  rcases op_cases op with rfl | rfl | rfl | rfl | rfl | ⟨⟨n1, n2, n3, n4, n5⟩, hc⟩
  iterate 5
    · cases hv
      go_enter Tryz.func64, Tryz.ntmps64
      go_wp2
      go_ret
      exact ⟨rfl, rfl⟩
  have b1 : (op == 2) = false := beq_eq_false_iff_ne.2 n1
  have b2 : (op == 3) = false := beq_eq_false_iff_ne.2 n2
  have b3 : (op == 13) = false := beq_eq_false_iff_ne.2 n3
  have b4 : (op == 25) = false := beq_eq_false_iff_ne.2 n4
  have b5 : (op == 26) = false := beq_eq_false_iff_ne.2 n5
  have hv' : decide (op = 2 ∨ op = 3 ∨ op = 13 ∨ (19 ≤ op ∧ op ≤ 26)) = decide (19 ≤ op ∧ op ≤ 24) := decide_eq_decide.2 (by omega)
  have hj : jnB op = false := decide_eq_false (by omega)
  rcases hc with ⟨h1, h2⟩ | h1 | h1
  · have d1 : decide (19 ≤ op) = true := decide_eq_true h1
    have d2 : decide (op ≤ 24) = true := decide_eq_true h2
    have d3 : decide (op ≤ 26) = true := decide_eq_true (by omega)
    obtain rfl : false = v := by rw [← hv]; first | exact hj.symm | exact (hv'.trans (decide_eq_true ⟨h1, h2⟩)).symm
    clear hv hv'
    try rw [hj] at cJ
    go_enter Tryz.func64, Tryz.ntmps64
    go_wp2
    go_ret
    exact ⟨rfl, rfl⟩
  · have d1 : decide (19 ≤ op) = false := decide_eq_false (by omega)
    obtain rfl : false = v := by rw [← hv]; first | exact hj.symm | exact (hv'.trans (decide_eq_false (by omega))).symm
    clear hv hv'
    try rw [hj] at cJ
    go_enter Tryz.func64, Tryz.ntmps64
    go_wp2
    go_ret
    exact ⟨rfl, rfl⟩
  · have d1 : decide (19 ≤ op) = true := decide_eq_true (by omega)
    have d2 : decide (op ≤ 24) = false := decide_eq_false (by omega)
    have d3 : decide (op ≤ 26) = false := decide_eq_false (by omega)
    obtain rfl : false = v := by rw [← hv]; first | exact hj.symm | exact (hv'.trans (decide_eq_false (by omega))).symm
    clear hv hv'
    try rw [hj] at cJ
    go_enter Tryz.func64, Tryz.ntmps64
    go_wp2
    go_ret
    exact ⟨rfl, rfl⟩

set_option maxRecDepth 100000 in
set_option maxHeartbeats 4000000 in
theorem isTruth_any (op : Int) (w : World) : Calls Tryz.prog 39 #[.int .i64 op] w fun e w' => e = .returned (.bool (trB op)) ∧ w = w' := by
  obtain ⟨v, hv⟩ : ∃ v, trB op = v := ⟨_, rfl⟩
  rw [hv]
  have cJ := joins_any op
  rcases op_cases op with rfl | rfl | rfl | rfl | rfl | ⟨⟨n1, n2, n3, n4, n5⟩, hc⟩
  iterate 5
    · cases hv
      go_enter Tryz.func39, Tryz.ntmps39
      go_wp2_with (go_at_call 64; (with_reducible refine (cJ _).mono ?_); rintro e u ⟨rfl, rfl⟩)
      go_ret
      exact ⟨rfl, rfl⟩
  have b1 : (op == 2) = false := beq_eq_false_iff_ne.2 n1
  have b2 : (op == 3) = false := beq_eq_false_iff_ne.2 n2
  have b3 : (op == 13) = false := beq_eq_false_iff_ne.2 n3
  have b4 : (op == 25) = false := beq_eq_false_iff_ne.2 n4
  have b5 : (op == 26) = false := beq_eq_false_iff_ne.2 n5
  have hv' : decide (op = 2 ∨ op = 3 ∨ op = 13 ∨ (19 ≤ op ∧ op ≤ 26)) = decide (19 ≤ op ∧ op ≤ 24) := decide_eq_decide.2 (by omega)
  have hj : jnB op = false := decide_eq_false (by omega)
  rcases hc with ⟨h1, h2⟩ | h1 | h1
  · have d1 : decide (19 ≤ op) = true := decide_eq_true h1
    have d2 : decide (op ≤ 24) = true := decide_eq_true h2
    have d3 : decide (op ≤ 26) = true := decide_eq_true (by omega)
    obtain rfl : true = v := by rw [← hv]; first | exact hj.symm | exact (hv'.trans (decide_eq_true ⟨h1, h2⟩)).symm
    clear hv hv'
    try rw [hj] at cJ
    go_enter Tryz.func39, Tryz.ntmps39
    go_wp2_with (go_at_call 64; (with_reducible refine (cJ _).mono ?_); rintro e u ⟨rfl, rfl⟩)
    go_ret
    exact ⟨rfl, rfl⟩
  · have d1 : decide (19 ≤ op) = false := decide_eq_false (by omega)
    obtain rfl : false = v := by rw [← hv]; first | exact hj.symm | exact (hv'.trans (decide_eq_false (by omega))).symm
    clear hv hv'
    try rw [hj] at cJ
    go_enter Tryz.func39, Tryz.ntmps39
    go_wp2_with (go_at_call 64; (with_reducible refine (cJ _).mono ?_); rintro e u ⟨rfl, rfl⟩)
    go_ret
    exact ⟨rfl, rfl⟩
  · have d1 : decide (19 ≤ op) = true := decide_eq_true (by omega)
    have d2 : decide (op ≤ 24) = false := decide_eq_false (by omega)
    have d3 : decide (op ≤ 26) = false := decide_eq_false (by omega)
    obtain rfl : false = v := by rw [← hv]; first | exact hj.symm | exact (hv'.trans (decide_eq_false (by omega))).symm
    clear hv hv'
    try rw [hj] at cJ
    go_enter Tryz.func39, Tryz.ntmps39
    go_wp2_with (go_at_call 64; (with_reducible refine (cJ _).mono ?_); rintro e u ⟨rfl, rfl⟩)
    go_ret
    exact ⟨rfl, rfl⟩

/-- Is the last node a truth? -/
def lastT (ns : List Nd) : Bool := decide (0 < ns.length) && trB (ns.getD (ns.length - 1) noNd).op

set_option maxRecDepth 100000 in
set_option maxHeartbeats 4000000 in
theorem IsTruth_any (ns : List Nd) (ao : Option Addr) (cap : Nat) (w : World) (A : IsNds w ao ns) (hr : ns.length * 64 ≤ 140737488351232) :
    Calls Tryz.prog 19 #[.slice ao ns.length cap] w fun e w' => e = .returned (.bool (lastT ns)) ∧ Below w.heap.size w w' := by
  obtain ⟨n, hn⟩ : ∃ n, ns.length = n := ⟨_, rfl⟩
  rw [hn] at hr ⊢
  by_cases h0 : n = 0
  · have hf : lastT ns = false := by unfold lastT; rw [hn, h0]; rfl
    rw [hf]
    subst h0
    go_enter Tryz.func19, Tryz.ntmps19
    go_wp2
    go_ret
    exact ⟨rfl, Below.refl _ _⟩
  obtain ⟨j, hj⟩ : ∃ j, n = j + 1 := ⟨n - 1, by omega⟩
  have hT : lastT ns = trB (ns.getD j noNd).op := by unfold lastT; rw [hn, hj]; simp
  rw [hT]
  obtain ⟨g, o, rfl, x0, _⟩ := A j (by omega)
  have cT := isTruth_any (ns.getD j noNd).op
  generalize trB (ns.getD j noNd).op = v at *
  generalize (ns.getD j noNd).op = op at *
  have hji : (n : Int) - 1 = (j : Int) := by omega
  have hjn : (j : Int) < (n : Int) := by omega
  have hi0 : (0 : Int) < (n : Int) := by omega
  have hb0 : ((n : Int) == 0) = false := beq_eq_false_iff_ne.2 (by omega)
  clear hj h0 hT
  go_enter Tryz.func19, Tryz.ntmps19
  go_wp2_with (go_at_call 39; (with_reducible refine (cT _).mono ?_); rintro e u ⟨rfl, rfl⟩)
  go_ret
  exact ⟨rfl, by first | exact Below.refl _ _ | exact (Below.refl _ _).drew⟩

/-- The left operand begins where the node does. -/
theorem kin_left {ns : List Nd} {bs : List Int} (K : ∀ i, i < ns.length → Kin ns bs i) (k : Nat) (hk : k < ns.length) : ((ns.getD k noNd).l = -1 ∧ bg bs k = k) ∨ ∃ m : Nat, m < k ∧ (ns.getD k noNd).l = (m : Int) ∧ bg bs m = bg bs k := by
  rcases (K k hk).how with ⟨_, e, e1, _⟩ | ⟨_, e0, e1, _, e⟩ | ⟨_, e0, e1, _, e3, e⟩
  · exact .inl ⟨e1, e⟩
  · exact .inr ⟨k - 1, by omega, e1, e.symm⟩
  · have := (K (k - 1) (by omega)).le
    exact .inr ⟨_, by omega, e3, e.symm⟩
set_option maxRecDepth 100000 in
set_option maxHeartbeats 4000000 in
theorem begin_any (ns : List Nd) (bs : List Int) (K : ∀ i, i < ns.length → Kin ns bs i) (root : Nat) (hroot : root < ns.length) (ao : Option Addr) (cap : Nat) (w : World) (A : IsNds w ao ns) (hr : ns.length * 64 ≤ 140737488351232) :
    Calls Tryz.prog 21 #[.slice ao ns.length cap, .int .i64 root] w fun e w' => e = .returned (.int .i64 (bg bs root)) ∧ Below w.heap.size w w' := by
  obtain ⟨n, hn⟩ : ∃ n, ns.length = n := ⟨_, rfl⟩
  rw [hn] at hr hroot ⊢
  go_enter Tryz.func21, Tryz.ntmps21
  go_wp2
  go_loopw [5] (fun x wr => ∃ k : Nat, k < n ∧ x = .int .i64 k ∧ bg bs k = bg bs root ∧ Below w.heap.size w wr) (fun x _ => (intOf x).toNat)
  case atStart => exact ⟨root, hroot, rfl, rfl, Below.refl _ _⟩
  case round =>
    obtain ⟨k, hk, rfl, hb, G⟩ := hrel
    obtain ⟨g, o, rfl, x0, x1, x2, x3, x4, x5⟩ := (A.keep G) k (by omega)
    have hki : (k : Int) < (n : Int) := by omega
    rcases kin_left K k (by omega) with ⟨e1, e2⟩ | ⟨m, hm, e1, e2⟩
    · rw [e1] at x4
      have HB := show Hid (_ = _) from e2.symm.trans hb
      clear e1 e2 hb x0 x1 x2 x3 x5
      go_wp2
      go_ret
      exact ⟨by rw [HB.out]; rfl, by first | exact G | exact G.drew⟩
    · rw [e1] at x4
      have HB := show Hid (_ = _) from e2.trans hb
      clear e1 e2 hb x0 x1 x2 x3 x5
      go_wp2
      go_roundw
      case rel => exact ⟨m, by omega, rfl, HB.out, by first | exact G | exact G.drew⟩
      case measure => simp [intOf]; omega
/-- Is it a place of a well shaped tree? -/
def plB (ns : List Nd) (root : Int) : Bool := decide (0 ≤ root ∧ root < (ns.length : Int)) && treeB ns
set_option maxRecDepth 100000 in
set_option maxHeartbeats 4000000 in
theorem isPlace_any (ns : List Nd) (root : Int) (ao : Option Addr) (cap : Nat) (w : World) (A : IsNds w ao ns) (hr : ns.length * 64 ≤ 140737488351232) (hf : ∀ k, (ns.getD k noNd).fit) (K : KwAt w) :
    Calls Tryz.prog 20 #[.slice ao ns.length cap, .int .i64 root] w fun e w' => e = .returned (.bool (plB ns root)) ∧ Below w.heap.size w w' := by
  have c1 := shTree_any ns ao cap w K A hr hf
  obtain ⟨v, hv⟩ : ∃ v, plB ns root = v := ⟨_, rfl⟩
  rw [hv]
  unfold plB at hv
  generalize treeB ns = tb at *
  obtain ⟨n, hn⟩ : ∃ n, ns.length = n := ⟨_, rfl⟩
  rw [hn] at hr hv c1 ⊢
  have HV := show Hid (_ = v) from hv
  clear hv
  by_cases h1 : 0 ≤ root
  · by_cases h2 : root < (n : Int)
    · obtain rfl : tb = v := by have := HV.out; rw [decide_eq_true ⟨h1, h2⟩, Bool.true_and] at this; exact this
      go_enter Tryz.func20, Tryz.ntmps20
      go_wp2_with (go_at_call 35; (with_reducible refine c1.mono ?_); rintro e u ⟨rfl, g⟩)
      go_ret
      exact ⟨rfl, g⟩
    · have d2 : decide (root < (n : Int)) = false := decide_eq_false h2
      obtain rfl : false = v := by have := HV.out; rw [decide_eq_false (fun h => h2 h.2), Bool.false_and] at this; exact this
      go_enter Tryz.func20, Tryz.ntmps20
      go_wp2_with (go_at_call 35; (with_reducible refine c1.mono ?_); rintro e u ⟨rfl, g⟩)
      go_ret
      exact ⟨rfl, Below.refl _ _⟩
  · have d1 : decide (0 ≤ root) = false := decide_eq_false h1
    obtain rfl : false = v := by have := HV.out; rw [decide_eq_false (fun h => h1 h.1), Bool.false_and] at this; exact this
    go_enter Tryz.func20, Tryz.ntmps20
    go_wp2_with (go_at_call 35; (with_reducible refine c1.mono ?_); rintro e u ⟨rfl, g⟩)
    go_ret
    exact ⟨rfl, Below.refl _ _⟩
/-- Where the subtrees of a tree begin; none: it is no tree. -/
def bsOf (ns : List Nd) : List Int := (begsO ns []).getD []
theorem tree_bs {ns : List Nd} (h : treeB ns = true) : begsO ns [] = some (bsOf ns) ∧ 0 < ns.length ∧ bg (bsOf ns) (ns.length - 1) = 0 ∧ ∀ i, i < ns.length → Kin ns (bsOf ns) i := by
  unfold treeB at h
  cases hb : begsO ns [] with
  | none => rw [hb] at h; cases h
  | some bs =>
    rw [hb] at h
    have h2 := of_decide_eq_true h
    have e : bsOf ns = bs := by unfold bsOf; rw [hb]; rfl
    rw [e]
    exact ⟨rfl, h2.1, by unfold bg; rw [h2.2]; rfl, kin_of hb⟩
/-- The size of a subtree. -/
def sizeO (ns : List Nd) (root : Int) : Int := if plB ns root = true then root - (bg (bsOf ns) root.toNat : Int) + 1 else 0
set_option maxRecDepth 100000 in
set_option maxHeartbeats 4000000 in
theorem size_any (ns : List Nd) (root : Int) (ao : Option Addr) (cap : Nat) (w : World) (A : IsNds w ao ns) (hr : ns.length * 64 ≤ 140737488351232) (hf : ∀ k, (ns.getD k noNd).fit) (K : KwAt w) :
    Calls Tryz.prog 8 #[.slice ao ns.length cap, .int .i64 root] w fun e w' => e = .returned (.int .i64 (sizeO ns root)) ∧ Below w.heap.size w w' := by
  have c1 := isPlace_any ns root ao cap w A hr hf K
  unfold sizeO
  cases hp : plB ns root
  · rw [hp] at c1
    rw [if_neg (by decide)]
    go_enter Tryz.func8, Tryz.ntmps8
    go_wp2_with (go_at_call 20; (with_reducible refine c1.mono ?_); rintro e u ⟨rfl, g⟩)
    go_ret
    exact ⟨rfl, g⟩
  rw [hp] at c1
  rw [if_pos rfl]
  unfold plB at hp
  rw [Bool.and_eq_true] at hp
  obtain ⟨h1, h2⟩ := of_decide_eq_true hp.1
  obtain ⟨_, _, _, KN⟩ := tree_bs hp.2
  obtain ⟨r, rfl⟩ : ∃ r : Nat, root = (r : Int) := ⟨root.toNat, by omega⟩
  have c2 := fun (u : World) (g : Below w.heap.size w u) => begin_any ns (bsOf ns) KN r (by omega) ao cap u (A.keep g) hr
  have hle := (KN r (by omega)).le
  rw [Int.toNat_natCast]
  generalize bg (bsOf ns) r = b at *
  have hr2 : (r : Int) ≤ 2199023255488 := by omega
  clear KN hp
  go_enter Tryz.func8, Tryz.ntmps8
  go_wp2_with (first
    | (go_at_call 20; (with_reducible refine c1.mono ?_); rintro e u ⟨rfl, g⟩)
    | (go_at_call 21; (with_reducible refine (c2 _ g).mono ?_); rintro e u2 ⟨rfl, g2⟩))
  go_ret
  exact ⟨rfl, gtrans g g2⟩

end Go.Proofs.YtlejhococjlijaaGreatDoor
