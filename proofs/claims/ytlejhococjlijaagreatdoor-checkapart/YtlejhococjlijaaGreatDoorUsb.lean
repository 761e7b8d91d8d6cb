/- What nodes mention of the items: the program's side. -/
import Derived.Test.YtlejhococjlijaaGreatDoorUsa
import Derived.Test.YtlejhococjlijaaGreatDoorMpa
import Derived.Test.YtlejhococjlijaaGreatDoorTqa
import Derived.Deep.AppendLies
import Derived.Deep.RegionHeld3
import Derived.Deep.Onto
namespace Go.Proofs.YtlejhococjlijaaGreatDoor
open Go.RowKit Go.BigFrame
set_option linter.unusedVariables false
set_option linter.unusedSimpArgs false

def baB (op : Int) : Bool := decide (op = 4 ∨ op = 11)
def agB (op : Int) : Bool := decide (5 ≤ op ∧ op ≤ 10)
set_option maxRecDepth 100000 in
set_option maxHeartbeats 4000000 in
theorem isBare_any (op : Int) (w : World) : Calls Tryz.prog 61 #[.int .i64 op] w fun e w' => e = .returned (.bool (baB op)) ∧ w = w' := by
  obtain ⟨v, hv⟩ : ∃ v, baB op = v := ⟨_, rfl⟩
  rw [hv]
  by_cases h1 : op = 4
  · subst h1
    cases hv
    go_enter Tryz.func61, Tryz.ntmps61
    go_wp2
    go_ret
    exact ⟨rfl, rfl⟩
  have b1 : (op == 4) = false := beq_eq_false_iff_ne.2 h1
  by_cases h2 : op = 11
  · subst h2
    cases hv
    go_enter Tryz.func61, Tryz.ntmps61
    go_wp2
    go_ret
    exact ⟨rfl, rfl⟩
  have b2 : (op == 11) = false := beq_eq_false_iff_ne.2 h2
  obtain rfl : false = v := by rw [← hv]; exact (decide_eq_false (by omega)).symm
  clear hv
  go_enter Tryz.func61, Tryz.ntmps61
  go_wp2
  go_ret
  exact ⟨rfl, rfl⟩
set_option maxRecDepth 100000 in
set_option maxHeartbeats 4000000 in
theorem isAgg_any (op : Int) (w : World) : Calls Tryz.prog 62 #[.int .i64 op] w fun e w' => e = .returned (.bool (agB op)) ∧ w = w' := by
  obtain ⟨v, hv⟩ : ∃ v, agB op = v := ⟨_, rfl⟩
  rw [hv]
  unfold agB at hv
  by_cases h1 : 5 ≤ op
  · by_cases h2 : op ≤ 10
    · obtain rfl : true = v := by rw [← hv]; exact (decide_eq_true ⟨h1, h2⟩).symm
      clear hv
      go_enter Tryz.func62, Tryz.ntmps62
      go_wp2
      go_ret
      exact ⟨rfl, rfl⟩
    · have d2 : decide (op ≤ 10) = false := decide_eq_false h2
      obtain rfl : false = v := by rw [← hv]; exact (decide_eq_false (by omega)).symm
      clear hv
      go_enter Tryz.func62, Tryz.ntmps62
      go_wp2
      go_ret
      exact ⟨rfl, rfl⟩
  · have d1 : decide (5 ≤ op) = false := decide_eq_false h1
    obtain rfl : false = v := by rw [← hv]; exact (decide_eq_false (by omega)).symm
    clear hv
    go_enter Tryz.func62, Tryz.ntmps62
    go_wp2
    go_ret
    exact ⟨rfl, rfl⟩
/-- The items that the nodes mention so. -/
def useL (M : ByteArray → Option Int) (p : Int → Bool) (ns : List Nd) : List Int := ns.filterMap fun n => if p n.op then M n.v else none
theorem useL_step (M : ByteArray → Option Int) (p : Int → Bool) (ns : List Nd) (k : Nat) (hk : k < ns.length) : useL M p (ns.take (k + 1)) = useL M p (ns.take k) ++ (if p (ns.getD k noNd).op then (M (ns.getD k noNd).v).toList else []) := by
  unfold useL
  rw [List.take_add_one, List.filterMap_append, List.getElem?_eq_getElem hk, List.getD_eq_getElem?_getD, List.getElem?_eq_getElem hk]
  congr 1
  simp only [Option.toList_some, Option.getD_some, List.filterMap_cons, List.filterMap_nil]
  split
  · rename_i h
    split at h
    · rw [h]; simp_all
    · simp_all
  · rename_i h
    split at h
    · simp_all
    · simp_all
theorem useL_len (M : ByteArray → Option Int) (p : Int → Bool) (ns : List Nd) : (useL M p ns).length ≤ ns.length := List.length_filterMap_le _ _
def Apt (u v : Value) : Prop := ∀ g, u.ownBlock = some g → v.ownBlock ≠ some g
/-- The three lists that are built. -/
structure UseS (base ub : Nat) (w : World) (L0 L1 L2 : List Int) (a0 : Option Addr) (c0 : Nat) (a1 : Option Addr) (c1 : Nat) (a2 : Option Addr) (c2 : Nat) : Prop where
  lt : ub < base
  u : Bk w ub #[.slice a0 L0.length c0, .slice a1 L1.length c1, .slice a2 L2.length c2] 52
  o0 : w.ownsRow base 3 1 (.slice a0 L0.length c0) L0.length (intsV L0)
  o1 : w.ownsRow base 3 1 (.slice a1 L1.length c1) L1.length (intsV L1)
  o2 : w.ownsRow base 3 1 (.slice a2 L2.length c2) L2.length (intsV L2)
  p01 : Apt (.slice a0 L0.length c0) (.slice a1 L1.length c1)
  p02 : Apt (.slice a0 L0.length c0) (.slice a2 L2.length c2)
  p12 : Apt (.slice a1 L1.length c1) (.slice a2 L2.length c2)
theorem Apt.symm {u v : Value} (h : Apt u v) : Apt v u := fun g h1 h2 => h g h2 h1
theorem UseS.keep {base ub : Nat} {w u : World} {L0 L1 L2 : List Int} {a0 : Option Addr} {c0 : Nat} {a1 : Option Addr} {c1 : Nat} {a2 : Option Addr} {c2 : Nat} (S : UseS base ub w L0 L1 L2 a0 c0 a1 c1 a2 c2) (G : Below w.heap.size w u) : UseS base ub u L0 L1 L2 a0 c0 a1 c1 a2 c2 :=
  ⟨S.lt, S.u.keep G, own_keep S.o0 G, own_keep S.o1 G, own_keep S.o2 G, S.p01, S.p02, S.p12⟩
theorem row_far {w w1 : World} {base : Nat} {vx vy : Value} {ny : Nat} {ys : List Value} (hy : w.ownsRow base 3 1 vy ny ys) (hap : Apt vx vy) (hgrow : w.grownBy w1 vx.ownBlock) : w1.ownsRow base 3 1 vy ny ys := by
  obtain ⟨h1, h2⟩ := hy
  refine ⟨h1, ?_⟩
  rcases h2 with h2 | ⟨g, c, cur, rfl, hb, hh, r⟩
  · exact .inl h2
  · exact .inr ⟨g, c, cur, rfl, hb, (hgrow.block g (lt_of_block hh) (fun e => hap g e.symm rfl)).trans hh, r⟩
theorem apt_new {w : World} {base : Nat} {vx vy : Value} {ny : Nat} {ys : List Value} {g : Nat} (hy : w.ownsRow base 3 1 vy ny ys) (hap : Apt vx vy) (hat : vx.ownBlock = some g ∨ g = w.heap.size) {n c : Nat} : Apt (.slice (some ⟨g, 0, none⟩) n c) vy := fun k hk hk2 => by
  have hkg : g = k := by cases hk; rfl
  subst hkg
  rcases hat with h | h
  · exact hap g h hk2
  · have := (hy.lt _ hk2).2
    omega
theorem UseS.app0 {base ub : Nat} {w w1 : World} {L0 L1 L2 : List Int} {a0 : Option Addr} {c0 : Nat} {a1 : Option Addr} {c1 : Nat} {a2 : Option Addr} {c2 : Nat} (S : UseS base ub w L0 L1 L2 a0 c0 a1 c1 a2 c2) (i : Int) {g c : Nat} (hown : w1.ownsRow base 3 1 (.slice (some ⟨g, 0, none⟩) (L0.length + 1) c) (L0.length + 1) (intsV L0 ++ [.int .i64 i])) (hgrow : w.grownBy w1 (Value.slice a0 L0.length c0).ownBlock) (hat : (Value.slice a0 L0.length c0).ownBlock = some g ∨ g = w.heap.size) :
    UseS base ub (w1.setCell ⟨ub, 0, none⟩ (.slice (some ⟨g, 0, none⟩) (L0.length + 1) c)) (L0 ++ [i]) L1 L2 (some ⟨g, 0, none⟩) c a1 c1 a2 c2 := by
  have hu : Bk w1 ub _ _ := (hgrow.block ub S.u.lt (fun e => by have := (S.o0.lt _ e.symm).1; have := S.lt; omega)).trans S.u
  have BE := (But.refl ub w1).set 0 (.slice (some ⟨g, 0, none⟩) (L0.length + 1) c)
  have r1 := own_but (row_far S.o1 S.p01 hgrow) hu (by decide) BE
  have q1 := apt_new S.o1 S.p01 hat (n := L0.length + 1) (c := c)
  have r2 := own_but (row_far S.o2 S.p02 hgrow) hu (by decide) BE
  have q2 := apt_new S.o2 S.p02 hat (n := L0.length + 1) (c := c)
  have rn := own_but hown hu (by decide) BE
  have hl : (L0 ++ [i]).length = L0.length + 1 := by simp
  have hv : intsV (L0 ++ [i]) = intsV L0 ++ [.int .i64 i] := by simp [intsV]
  refine ⟨S.lt, ?_, ?_, ?_, ?_, ?_, ?_, ?_⟩
  · rw [hl]; exact hu.set 0 (.slice (some ⟨g, 0, none⟩) (L0.length + 1) c)
  · rw [hl, hv]; exact rn
  · exact r1
  · exact r2
  · rw [hl]; exact q1
  · rw [hl]; exact q2
  · exact S.p12
theorem UseS.app1 {base ub : Nat} {w w1 : World} {L0 L1 L2 : List Int} {a0 : Option Addr} {c0 : Nat} {a1 : Option Addr} {c1 : Nat} {a2 : Option Addr} {c2 : Nat} (S : UseS base ub w L0 L1 L2 a0 c0 a1 c1 a2 c2) (i : Int) {g c : Nat} (hown : w1.ownsRow base 3 1 (.slice (some ⟨g, 0, none⟩) (L1.length + 1) c) (L1.length + 1) (intsV L1 ++ [.int .i64 i])) (hgrow : w.grownBy w1 (Value.slice a1 L1.length c1).ownBlock) (hat : (Value.slice a1 L1.length c1).ownBlock = some g ∨ g = w.heap.size) :
    UseS base ub (w1.setCell ⟨ub, 1, none⟩ (.slice (some ⟨g, 0, none⟩) (L1.length + 1) c)) L0 (L1 ++ [i]) L2 a0 c0 (some ⟨g, 0, none⟩) c a2 c2 := by
  have hu : Bk w1 ub _ _ := (hgrow.block ub S.u.lt (fun e => by have := (S.o1.lt _ e.symm).1; have := S.lt; omega)).trans S.u
  have BE := (But.refl ub w1).set 1 (.slice (some ⟨g, 0, none⟩) (L1.length + 1) c)
  have r0 := own_but (row_far S.o0 S.p01.symm hgrow) hu (by decide) BE
  have q0 := apt_new S.o0 S.p01.symm hat (n := L1.length + 1) (c := c)
  have r2 := own_but (row_far S.o2 S.p12 hgrow) hu (by decide) BE
  have q2 := apt_new S.o2 S.p12 hat (n := L1.length + 1) (c := c)
  have rn := own_but hown hu (by decide) BE
  have hl : (L1 ++ [i]).length = L1.length + 1 := by simp
  have hv : intsV (L1 ++ [i]) = intsV L1 ++ [.int .i64 i] := by simp [intsV]
  refine ⟨S.lt, ?_, ?_, ?_, ?_, ?_, ?_, ?_⟩
  · rw [hl]; exact hu.set 1 (.slice (some ⟨g, 0, none⟩) (L1.length + 1) c)
  · exact r0
  · rw [hl, hv]; exact rn
  · exact r2
  · rw [hl]; exact q0.symm
  · exact S.p02
  · rw [hl]; exact q2
theorem UseS.app2 {base ub : Nat} {w w1 : World} {L0 L1 L2 : List Int} {a0 : Option Addr} {c0 : Nat} {a1 : Option Addr} {c1 : Nat} {a2 : Option Addr} {c2 : Nat} (S : UseS base ub w L0 L1 L2 a0 c0 a1 c1 a2 c2) (i : Int) {g c : Nat} (hown : w1.ownsRow base 3 1 (.slice (some ⟨g, 0, none⟩) (L2.length + 1) c) (L2.length + 1) (intsV L2 ++ [.int .i64 i])) (hgrow : w.grownBy w1 (Value.slice a2 L2.length c2).ownBlock) (hat : (Value.slice a2 L2.length c2).ownBlock = some g ∨ g = w.heap.size) :
    UseS base ub (w1.setCell ⟨ub, 2, none⟩ (.slice (some ⟨g, 0, none⟩) (L2.length + 1) c)) L0 L1 (L2 ++ [i]) a0 c0 a1 c1 (some ⟨g, 0, none⟩) c := by
  have hu : Bk w1 ub _ _ := (hgrow.block ub S.u.lt (fun e => by have := (S.o2.lt _ e.symm).1; have := S.lt; omega)).trans S.u
  have BE := (But.refl ub w1).set 2 (.slice (some ⟨g, 0, none⟩) (L2.length + 1) c)
  have r0 := own_but (row_far S.o0 S.p02.symm hgrow) hu (by decide) BE
  have q0 := apt_new S.o0 S.p02.symm hat (n := L2.length + 1) (c := c)
  have r1 := own_but (row_far S.o1 S.p12.symm hgrow) hu (by decide) BE
  have q1 := apt_new S.o1 S.p12.symm hat (n := L2.length + 1) (c := c)
  have rn := own_but hown hu (by decide) BE
  have hl : (L2 ++ [i]).length = L2.length + 1 := by simp
  have hv : intsV (L2 ++ [i]) = intsV L2 ++ [.int .i64 i] := by simp [intsV]
  refine ⟨S.lt, ?_, ?_, ?_, ?_, ?_, ?_, ?_⟩
  · rw [hl]; exact hu.set 2 (.slice (some ⟨g, 0, none⟩) (L2.length + 1) c)
  · exact r0
  · exact r1
  · rw [hl, hv]; exact rn
  · exact S.p01
  · rw [hl]; exact q0.symm
  · rw [hl]; exact q1.symm
theorem apt_len {v : Value} {a : Option Addr} {n c m : Nat} (h : Apt v (.slice a n c)) : Apt v (.slice a m c) := fun g h1 h2 => h g h1 (by cases a <;> exact h2)
/-- How far the lists are. -/
structure UseR (base : Nat) (w : World) (M : ByteArray → Option Int) (ns : List Nd) (x : Value) (wr : World) : Prop where
  ex : ∃ (k : Nat) (a0 : Option Addr) (c0 : Nat) (a1 : Option Addr) (c1 : Nat) (a2 : Option Addr) (c2 : Nat), k ≤ ns.length ∧ x = .int .i64 k ∧ UseS base (w.heap.size + 1) wr (useL M baB (ns.take k)) (useL M (· == 11) (ns.take k)) (useL M agB (ns.take k)) a0 c0 a1 c1 a2 c2 ∧ Bk wr w.heap.size #[.slice none 0 0, .slice none 0 0, .slice none 0 0] 52 ∧ base ≤ wr.heap.size ∧ Below w.heap.size w wr
set_option maxRecDepth 100000 in
set_option maxHeartbeats 8000000 in
theorem usesOf_any (M : ByteArray → Option Int) (bm nm : Nat) (ns : List Nd) (hr : ns.length * 64 ≤ 140737488351232) (hf : ∀ k, (ns.getD k noNd).fit) (ao : Option Addr) (cap : Nat) (w : World) (A : IsNds w ao ns) (MP : MpAt w bm nm M) :
    Calls Tryz.prog 37 #[.map (some bm), .slice ao ns.length cap] w fun e w' => ∃ a1 c1 a2 c2 a3 c3, e = .returned (.agg #[.slice a1 (risO (useL M baB ns)).length c1, .slice a2 (risO (useL M (· == 11) ns)).length c2, .slice a3 (risO (useL M agB ns)).length c3]) ∧ w'.ownsRow w.heap.size 3 1 (.slice a1 (risO (useL M baB ns)).length c1) (risO (useL M baB ns)).length (intsV (risO (useL M baB ns))) ∧ w'.ownsRow w.heap.size 3 1 (.slice a2 (risO (useL M (· == 11) ns)).length c2) (risO (useL M (· == 11) ns)).length (intsV (risO (useL M (· == 11) ns))) ∧ w'.ownsRow w.heap.size 3 1 (.slice a3 (risO (useL M agB ns)).length c3) (risO (useL M agB ns)).length (intsV (risO (useL M agB ns))) ∧ Below w.heap.size w w' := by
  obtain ⟨i0, hi, hz0, hz1, hz2⟩ := nf_info nf_int
  have B0 := galloc (galloc (Below.refl w.heap.size w) (.cells #[.slice none 0 0, .slice none 0 0, .slice none 0 0] 52)) (.cells #[.slice none 0 0, .slice none 0 0, .slice none 0 0] 52)
  have R0 := (Bk.new w #[.slice none 0 0, .slice none 0 0, .slice none 0 0] 52).alloc (.cells #[.slice none 0 0, .slice none 0 0, .slice none 0 0] 52)
  have U0 := Bk.newE (w := w.alloc (.cells #[.slice none 0 0, .slice none 0 0, .slice none 0 0] 52)) (g := w.heap.size + 1) (by simp) #[.slice none 0 0, .slice none 0 0, .slice none 0 0] 52
  go_enter Tryz.func37, Tryz.ntmps37
  go_wp2
  have zV : ((w.alloc (.cells #[.slice none 0 0, .slice none 0 0, .slice none 0 0] 52)).alloc (.cells #[.slice none 0 0, .slice none 0 0, .slice none 0 0] 52)).heap.size = w.heap.size + 2 := by simp
  generalize (w.alloc (.cells #[.slice none 0 0, .slice none 0 0, .slice none 0 0] 52)).alloc (.cells #[.slice none 0 0, .slice none 0 0, .slice none 0 0] 52) = V at *
  have HZ := show Hid (V.heap.size = w.heap.size + 2) from zV
  clear zV
  have nn : ∀ (v : Value), Apt (.slice none 0 0) v := fun v g h => by cases h
  go_loopw [7, 8, 9, 12] (fun _ _ _ x wr => UseR V.heap.size w M ns x wr) (fun _ _ _ x _ => ns.length - (intOf x).toNat)
  case atStart => exact ⟨0, none, 0, none, 0, none, 0, Nat.zero_le _, rfl, ⟨by have := HZ.out; omega, U0, World.ownsRow_nil _ _ _ _, World.ownsRow_nil _ _ _ _, World.ownsRow_nil _ _ _ _, nn _, nn _, nn _⟩, R0, Nat.le_refl _, B0⟩
  case round =>
    obtain ⟨⟨k, a0, c0, a1, c1, a2, c2, hk, rfl, SU, RR, zz, G⟩⟩ := hrel
    have zV1 : w.heap.size + 2 ≤ V.heap.size := by have := HZ.out; omega
    by_cases hlt : k < ns.length
    · obtain ⟨g, o, rfl, y0, y1, y2, y3, y4, y5⟩ := (A.keep G) k hlt
      have hki : (k : Int) < (ns.length : Int) := by omega
      have hfk := hf k
      have s0 := useL_step M baB ns k hlt
      have s1 := useL_step M (· == 11) ns k hlt
      have s2 := useL_step M agB ns k hlt
      have hv := hfk.v
      have lk := fun o : Obj => ((MP.keep G).keep (galloc (Below.refl _ _) o)).look (ns.getD k noNd).v hv
      have cB := isBare_any (ns.getD k noNd).op
      have cG := isAgg_any (ns.getD k noNd).op
      have l0 := useL_len M baB (ns.take k)
      have l1 := useL_len M (· == 11) (ns.take k)
      have l2 := useL_len M agB (ns.take k)
      rw [List.length_take] at l0 l1 l2
      generalize ns.getD k noNd = y at *
      obtain ⟨yo, yn, yv, yx, yl, yr⟩ := y
      dsimp only at y0 y1 y2 y3 y4 y5 hv lk s0 s1 s2 cB cG
      have HS0 := show Hid (_ = _) from s0
      have HS1 := show Hid (_ = _) from s1
      have HS2 := show Hid (_ = _) from s2
      clear s0 s1 s2 hfk
      have GN := galloc (Below.refl wr.heap.size wr) (.cells #[.int .i64 yo, .int .i64 yn, .string yv, .string yx, .int .i64 yl, .int .i64 yr] 29)
      have SA := SU.keep GN
      have RA := RR.keep GN
      have GA := galloc G (.cells #[.int .i64 yo, .int .i64 yn, .string yv, .string yx, .int .i64 yl, .int .i64 yr] 29)
      have NA := Bk.new wr #[.int .i64 yo, .int .i64 yn, .string yv, .string yx, .int .i64 yl, .int .i64 yr] 29
      have zA : V.heap.size ≤ (wr.alloc (.cells #[.int .i64 yo, .int .i64 yn, .string yv, .string yx, .int .i64 yl, .int .i64 yr] 29)).heap.size := Nat.le_trans zz GN.size
      replace lk := lk (.cells #[.int .i64 yo, .int .i64 yn, .string yv, .string yx, .int .i64 yl, .int .i64 yr] 29)
      have lw : wr.heap.size ≠ w.heap.size + 1 := by omega
      go_upto_region 5 with fail
      clear GN SU RR
      obtain ⟨nb, hnb⟩ : ∃ nb, wr.heap.size = nb := ⟨_, rfl⟩
      rw [hnb] at NA lw
      generalize wr.alloc (.cells #[.int .i64 yo, .int .i64 yn, .string yv, .string yx, .int .i64 yl, .int .i64 yr] 29) = X at *
      rw [hnb]
      obtain ⟨u0, u1, u2⟩ := SA.u.at3
      have f0 := SA.u.free 0
      have f1 := SA.u.free 1
      have f2 := SA.u.free 2
      obtain ⟨n0, n1, n2, n3, n4, n5⟩ := NA.at6
      clear hnb
      cases hM : M yv with
      | none =>
        rw [hM] at lk
        have e0 : useL M baB (ns.take (k + 1)) = useL M baB (ns.take k) := by rw [HS0.out, hM]; split <;> simp
        have e1 : useL M (· == 11) (ns.take (k + 1)) = useL M (· == 11) (ns.take k) := by rw [HS1.out, hM]; split <;> simp
        have e2 : useL M agB (ns.take (k + 1)) = useL M agB (ns.take k) := by rw [HS2.out, hM]; split <;> simp
        have fin : UseR V.heap.size w M ns (.int .i64 ((k : Int) + 1)) X := ⟨k + 1, a0, c0, a1, c1, a2, c2, by omega, by go_num, by rw [e0, e1, e2]; exact SA, RA, zA, GA⟩
        clear hM e0 e1 e2 HS0 HS1 HS2 SA RA
        go_wp2
        go_roundw
        case rel => exact fin
        case measure => simp [intOf]; omega
      | some i =>
        rw [hM] at lk
        by_cases h4 : yo = 4
        · subst h4
          have e0 : useL M baB (ns.take (k + 1)) = useL M baB (ns.take k) ++ [i] := by rw [HS0.out, hM]; rfl
          have e1 : useL M (· == 11) (ns.take (k + 1)) = useL M (· == 11) (ns.take k) := by rw [HS1.out, if_neg (by decide), List.append_nil]
          have e2 : useL M agB (ns.take (k + 1)) = useL M agB (ns.take k) := by rw [HS2.out, if_neg (by decide), List.append_nil]
          have E := show Hid (_ ∧ _ ∧ _) from ⟨e0, e1, e2⟩
          rw [show baB 4 = true from rfl] at cB
          rw [show agB 4 = false from rfl] at cG
          clear hM e0 e1 e2 HS0 HS1 HS2
          go_wp2_with (first
            | (go_at_call 61; (with_reducible refine (cB _).mono ?_); rintro e u ⟨rfl, rfl⟩)
            | (go_at_call 62; (with_reducible refine (cG _).mono ?_); rintro e u ⟨rfl, rfl⟩)
            | (at_builtin; refine wpList_append_lies _ rfl (.tmp 29) (.tmp 31) 49 rfl V.heap.size 3 i0 (.int .i64 0) 1 8 Tryz.underlying49 hi hz0 hz1 hz2 rfl (by decide) _ _ _ rfl (SA.o0.alloc (.cells #[.int .i64 i] 3)) ⟨X.heap.size, 0, none⟩ 1 1 [_] rfl rfl (cell_one_new _ _ _) (fun u hu => by simp at hu; subst hu; rfl) (by decide) ?c3 ?c4 ?c5 _ rfl ?_))
          case c3 => unfold maxLen; omega
          case c4 => omega
          case c5 => first | omega | (simp; omega)
          intro gp cp' wp hownp hgrowp hatp _
          have gep := galloc (Below.refl X.heap.size X) (.cells #[.int .i64 i] 3)
          have SEp := SA.keep gep
          have Sp := SEp.app0 i hownp hgrowp (hatp.imp id (fun h => by simp; exact h))
          have Np := (bk_far (NA.keep gep) SEp.o0 (by decide) hgrowp).other (b' := w.heap.size + 1) (by have := SA.u.lt; omega) 0 (.slice (some ⟨gp, 0, none⟩) ((useL M baB (ns.take k)).length + 1) cp')
          have Rp := (bk_far (RA.keep gep) SEp.o0 (by decide) hgrowp).other (b' := w.heap.size + 1) (by omega) 0 (.slice (some ⟨gp, 0, none⟩) ((useL M baB (ns.take k)).length + 1) cp')
          have Up := bk_far SEp.u SEp.o0 (by decide) hgrowp
          have GWp : Below w.heap.size w wp := (gtrans GA gep).grown hgrowp (by have := GA.size; simp; omega) (fun r e => by have := (SEp.o0.lt _ e).1; omega)
          have Gp := gset GWp (p := ⟨w.heap.size + 1, 0, none⟩) (by dsimp only; omega) (.slice (some ⟨gp, 0, none⟩) ((useL M baB (ns.take k)).length + 1) cp')
          have zp : V.heap.size ≤ wp.heap.size := by have := hgrowp.size; simp at this; omega
          have ccp := Up.at3
          have ffp := Up.free 0
          obtain ⟨ccp0, ccp1, ccp2⟩ := ccp
          obtain ⟨m0, _⟩ := Np.at6
          have fin : UseR V.heap.size w M ns (.int .i64 ((k : Int) + 1)) _ := ⟨k + 1, _, _, a1, c1, a2, c2, by omega, by go_num, by rw [E.out.1, E.out.2.1, E.out.2.2]; exact Sp, Rp, by simp; omega, Gp⟩
          clear Sp Rp Np SEp hownp hgrowp E SA RA NA Up GWp Gp
          go_wp2_with (first
            | (go_at_call 61; (with_reducible refine (cB _).mono ?_); rintro e u ⟨rfl, rfl⟩)
            | (go_at_call 62; (with_reducible refine (cG _).mono ?_); rintro e u ⟨rfl, rfl⟩))
          go_roundw
          case rel => exact fin
          case measure => simp [intOf]; omega
        have b4 : (yo == 4) = false := beq_eq_false_iff_ne.2 h4
        by_cases h11 : yo = 11
        · subst h11
          have e0 : useL M baB (ns.take (k + 1)) = useL M baB (ns.take k) ++ [i] := by rw [HS0.out, hM]; rfl
          have e1 : useL M (· == 11) (ns.take (k + 1)) = useL M (· == 11) (ns.take k) ++ [i] := by rw [HS1.out, hM]; rfl
          have e2 : useL M agB (ns.take (k + 1)) = useL M agB (ns.take k) := by rw [HS2.out, if_neg (by decide), List.append_nil]
          have E := show Hid (_ ∧ _ ∧ _) from ⟨e0, e1, e2⟩
          rw [show baB 11 = true from rfl] at cB
          rw [show agB 11 = false from rfl] at cG
          clear hM e0 e1 e2 HS0 HS1 HS2
          go_wp2_with (first
            | (go_at_call 61; (with_reducible refine (cB _).mono ?_); rintro e u ⟨rfl, rfl⟩)
            | (go_at_call 62; (with_reducible refine (cG _).mono ?_); rintro e u ⟨rfl, rfl⟩)
            | (at_builtin; refine wpList_append_lies _ rfl (.tmp 29) (.tmp 31) 49 rfl V.heap.size 3 i0 (.int .i64 0) 1 8 Tryz.underlying49 hi hz0 hz1 hz2 rfl (by decide) _ _ _ rfl (SA.o0.alloc (.cells #[.int .i64 i] 3)) ⟨X.heap.size, 0, none⟩ 1 1 [_] rfl rfl (cell_one_new _ _ _) (fun u hu => by simp at hu; subst hu; rfl) (by decide) ?c3 ?c4 ?c5 _ rfl ?_))
          case c3 => unfold maxLen; omega
          case c4 => omega
          case c5 => first | omega | (simp; omega)
          intro gp cp' wp hownp hgrowp hatp _
          have gep := galloc (Below.refl X.heap.size X) (.cells #[.int .i64 i] 3)
          have SEp := SA.keep gep
          have Sp := SEp.app0 i hownp hgrowp (hatp.imp id (fun h => by simp; exact h))
          have Np := (bk_far (NA.keep gep) SEp.o0 (by decide) hgrowp).other (b' := w.heap.size + 1) (by have := SA.u.lt; omega) 0 (.slice (some ⟨gp, 0, none⟩) ((useL M baB (ns.take k)).length + 1) cp')
          have Rp := (bk_far (RA.keep gep) SEp.o0 (by decide) hgrowp).other (b' := w.heap.size + 1) (by omega) 0 (.slice (some ⟨gp, 0, none⟩) ((useL M baB (ns.take k)).length + 1) cp')
          have Up := bk_far SEp.u SEp.o0 (by decide) hgrowp
          have GWp : Below w.heap.size w wp := (gtrans GA gep).grown hgrowp (by have := GA.size; simp; omega) (fun r e => by have := (SEp.o0.lt _ e).1; omega)
          have Gp := gset GWp (p := ⟨w.heap.size + 1, 0, none⟩) (by dsimp only; omega) (.slice (some ⟨gp, 0, none⟩) ((useL M baB (ns.take k)).length + 1) cp')
          have zp : V.heap.size ≤ wp.heap.size := by have := hgrowp.size; simp at this; omega
          have ccp := Up.at3
          have ffp := Up.free 0
          obtain ⟨ccp0, ccp1, ccp2⟩ := ccp
          go_upto_region 9 with fail
          have zY : V.heap.size ≤ (wp.setCell ⟨w.heap.size + 1, 0, none⟩ (.slice (some ⟨gp, 0, none⟩) ((useL M baB (ns.take k)).length + 1) cp')).heap.size := by simp; omega
          clear SA RA NA GA zA SEp gep hownp hgrowp hatp Up GWp u0 u1 u2 f0 f1 f2 n0 n1 n2 n3 n4 n5 ccp0 ccp1 ccp2 ffp
          generalize wp.setCell ⟨w.heap.size + 1, 0, none⟩ (.slice (some ⟨gp, 0, none⟩) ((useL M baB (ns.take k)).length + 1) cp') = Y at *
          obtain ⟨u0, u1, u2⟩ := Sp.u.at3
          obtain ⟨n0, n1, n2, n3, n4, n5⟩ := Np.at6
          have f1 := Sp.u.free 1
          go_wp2_with (first
            | (go_at_call 61; (with_reducible refine (cB _).mono ?_); rintro e u ⟨rfl, rfl⟩)
            | (go_at_call 62; (with_reducible refine (cG _).mono ?_); rintro e u ⟨rfl, rfl⟩)
            | (at_builtin; refine wpList_append_lies _ rfl (.tmp 38) (.tmp 40) 49 rfl V.heap.size 3 i0 (.int .i64 0) 1 8 Tryz.underlying49 hi hz0 hz1 hz2 rfl (by decide) _ _ _ rfl (Sp.o1.alloc (.cells #[.int .i64 i] 3)) ⟨Y.heap.size, 0, none⟩ 1 1 [_] rfl rfl (cell_one_new _ _ _) (fun u hu => by simp at hu; subst hu; rfl) (by decide) ?c3 ?c4 ?c5 _ rfl ?_))
          case c3 => unfold maxLen; omega
          case c4 => omega
          case c5 => first | omega | (simp; omega)
          intro gr cr' wr hownr hgrowr hatr _
          have ger := galloc (Below.refl Y.heap.size Y) (.cells #[.int .i64 i] 3)
          have SEr := Sp.keep ger
          have Sr := SEr.app1 i hownr hgrowr (hatr.imp id (fun h => by simp; exact h))
          have Nr := (bk_far (Np.keep ger) SEr.o1 (by decide) hgrowr).other (b' := w.heap.size + 1) (by have := Sp.u.lt; omega) 1 (.slice (some ⟨gr, 0, none⟩) ((useL M (· == 11) (ns.take k)).length + 1) cr')
          have Rr := (bk_far (Rp.keep ger) SEr.o1 (by decide) hgrowr).other (b' := w.heap.size + 1) (by omega) 1 (.slice (some ⟨gr, 0, none⟩) ((useL M (· == 11) (ns.take k)).length + 1) cr')
          have Ur := bk_far SEr.u SEr.o1 (by decide) hgrowr
          have GWr : Below w.heap.size w wr := (gtrans Gp ger).grown hgrowr (by have := Gp.size; simp; omega) (fun r e => by have := (SEr.o1.lt _ e).1; omega)
          have Gr := gset GWr (p := ⟨w.heap.size + 1, 1, none⟩) (by dsimp only; omega) (.slice (some ⟨gr, 0, none⟩) ((useL M (· == 11) (ns.take k)).length + 1) cr')
          have zr : V.heap.size ≤ wr.heap.size := by have := hgrowr.size; simp at this; omega
          have ccr := Ur.at3
          have ffr := Ur.free 1
          obtain ⟨ccr0, ccr1, ccr2⟩ := ccr
          obtain ⟨m0, _⟩ := Nr.at6
          have fin : UseR V.heap.size w M ns (.int .i64 ((k : Int) + 1)) _ := ⟨k + 1, _, _, _, _, a2, c2, by omega, by go_num, by rw [E.out.1, E.out.2.1, E.out.2.2]; exact Sr, Rr, by simp; omega, Gr⟩
          clear Sr Rr Nr SEr hownr hgrowr E Sp Rp Np Ur GWr Gr
          go_wp2_with (first
            | (go_at_call 61; (with_reducible refine (cB _).mono ?_); rintro e u ⟨rfl, rfl⟩)
            | (go_at_call 62; (with_reducible refine (cG _).mono ?_); rintro e u ⟨rfl, rfl⟩))
          go_roundw
          case rel => exact fin
          case measure => simp [intOf]; omega
        have b11 : (yo == 11) = false := beq_eq_false_iff_ne.2 h11
        have hB : baB yo = false := decide_eq_false (by omega)
        rw [hB] at cB
        have e0 : useL M baB (ns.take (k + 1)) = useL M baB (ns.take k) := by rw [HS0.out, if_neg (by rw [hB]; decide), List.append_nil]
        have e1 : useL M (· == 11) (ns.take (k + 1)) = useL M (· == 11) (ns.take k) := by rw [HS1.out, if_neg (by simp [h11]), List.append_nil]
        cases hG : agB yo
        · rw [hG] at cG
          have e2 : useL M agB (ns.take (k + 1)) = useL M agB (ns.take k) := by rw [HS2.out, if_neg (by rw [hG]; decide), List.append_nil]
          have fin : UseR V.heap.size w M ns (.int .i64 ((k : Int) + 1)) X := ⟨k + 1, a0, c0, a1, c1, a2, c2, by omega, by go_num, by rw [e0, e1, e2]; exact SA, RA, zA, GA⟩
          clear hM e0 e1 e2 HS0 HS1 HS2 SA RA hB hG
          go_wp2_with (first
            | (go_at_call 61; (with_reducible refine (cB _).mono ?_); rintro e u ⟨rfl, rfl⟩)
            | (go_at_call 62; (with_reducible refine (cG _).mono ?_); rintro e u ⟨rfl, rfl⟩))
          go_roundw
          case rel => exact fin
          case measure => simp [intOf]; omega
        · rw [hG] at cG
          have e2 : useL M agB (ns.take (k + 1)) = useL M agB (ns.take k) ++ [i] := by rw [HS2.out, hM, if_pos hG]; rfl
          have E := show Hid (_ ∧ _ ∧ _) from ⟨e0, e1, e2⟩
          clear hM e0 e1 e2 HS0 HS1 HS2 hB hG
          go_wp2_with (first
            | (go_at_call 61; (with_reducible refine (cB _).mono ?_); rintro e u ⟨rfl, rfl⟩)
            | (go_at_call 62; (with_reducible refine (cG _).mono ?_); rintro e u ⟨rfl, rfl⟩)
            | (at_builtin; refine wpList_append_lies _ rfl (.tmp 47) (.tmp 49) 49 rfl V.heap.size 3 i0 (.int .i64 0) 1 8 Tryz.underlying49 hi hz0 hz1 hz2 rfl (by decide) _ _ _ rfl (SA.o2.alloc (.cells #[.int .i64 i] 3)) ⟨X.heap.size, 0, none⟩ 1 1 [_] rfl rfl (cell_one_new _ _ _) (fun u hu => by simp at hu; subst hu; rfl) (by decide) ?c3 ?c4 ?c5 _ rfl ?_))
          case c3 => unfold maxLen; omega
          case c4 => omega
          case c5 => first | omega | (simp; omega)
          intro gp cp' wp hownp hgrowp hatp _
          have gep := galloc (Below.refl X.heap.size X) (.cells #[.int .i64 i] 3)
          have SEp := SA.keep gep
          have Sp := SEp.app2 i hownp hgrowp (hatp.imp id (fun h => by simp; exact h))
          have Np := (bk_far (NA.keep gep) SEp.o2 (by decide) hgrowp).other (b' := w.heap.size + 1) (by have := SA.u.lt; omega) 2 (.slice (some ⟨gp, 0, none⟩) ((useL M agB (ns.take k)).length + 1) cp')
          have Rp := (bk_far (RA.keep gep) SEp.o2 (by decide) hgrowp).other (b' := w.heap.size + 1) (by omega) 2 (.slice (some ⟨gp, 0, none⟩) ((useL M agB (ns.take k)).length + 1) cp')
          have Up := bk_far SEp.u SEp.o2 (by decide) hgrowp
          have GWp : Below w.heap.size w wp := (gtrans GA gep).grown hgrowp (by have := GA.size; simp; omega) (fun r e => by have := (SEp.o2.lt _ e).1; omega)
          have Gp := gset GWp (p := ⟨w.heap.size + 1, 2, none⟩) (by dsimp only; omega) (.slice (some ⟨gp, 0, none⟩) ((useL M agB (ns.take k)).length + 1) cp')
          have zp : V.heap.size ≤ wp.heap.size := by have := hgrowp.size; simp at this; omega
          have ccp := Up.at3
          have ffp := Up.free 2
          obtain ⟨ccp0, ccp1, ccp2⟩ := ccp
          have fin : UseR V.heap.size w M ns (.int .i64 ((k : Int) + 1)) _ := ⟨k + 1, a0, c0, a1, c1, _, _, by omega, by go_num, by rw [E.out.1, E.out.2.1, E.out.2.2]; exact Sp, Rp, by simp; omega, Gp⟩
          clear Sp Rp Np SEp hownp hgrowp E SA RA NA Up GWp Gp
          go_wp2
          go_roundw
          case rel => exact fin
          case measure => simp [intOf]; omega
    · have hkn : k = ns.length := by omega
      subst hkn
      rw [List.take_length] at SU
      have r0 := useL_len M baB ns
      have r1 := useL_len M (· == 11) ns
      have r2 := useL_len M agB ns
      have k0 := fun (X : World) (h : X.ownsRow V.heap.size 3 1 (.slice a0 (useL M baB ns).length c0) (useL M baB ns).length (intsV (useL M baB ns))) => rising_any (useL M baB ns) (by omega) V.heap.size a0 c0 X h
      have k1 := fun (X : World) (h : X.ownsRow V.heap.size 3 1 (.slice a1 (useL M (· == 11) ns).length c1) (useL M (· == 11) ns).length (intsV (useL M (· == 11) ns))) => rising_any (useL M (· == 11) ns) (by omega) V.heap.size a1 c1 X h
      have k2 := fun (X : World) (h : X.ownsRow V.heap.size 3 1 (.slice a2 (useL M agB ns).length c2) (useL M agB ns).length (intsV (useL M agB ns))) => rising_any (useL M agB ns) (by omega) V.heap.size a2 c2 X h
      obtain ⟨L0, hL0⟩ : ∃ L, useL M baB ns = L := ⟨_, rfl⟩
      obtain ⟨L1, hL1⟩ : ∃ L, useL M (· == 11) ns = L := ⟨_, rfl⟩
      obtain ⟨L2, hL2⟩ : ∃ L, useL M agB ns = L := ⟨_, rfl⟩
      rw [hL0, hL1, hL2] at SU
      rw [hL0] at r0 k0
      rw [hL1] at r1 k1
      rw [hL2] at r2 k2
      have HL := show Hid (_ ∧ _ ∧ _) from ⟨hL0, hL1, hL2⟩
      clear hL0 hL1 hL2
      have hSd : ∀ (X : World), Bk X (w.heap.size + 1) #[.slice a0 L0.length c0, .slice a1 L1.length c1, .slice a2 L2.length c2] 52 → X.cell? ⟨w.heap.size + 1, 0, none⟩ = some (.slice a0 L0.length c0) ∧ X.cell? ⟨w.heap.size + 1, 1, none⟩ = some (.slice a1 L1.length c1) ∧ X.cell? ⟨w.heap.size + 1, 2, none⟩ = some (.slice a2 L2.length c2) := fun X h => h.at3
      have zG := G.size
      go_wp2
      have hW := hSd wr SU.u
      have hWd := hSd wr.drew SU.u
      go_region_held3 (fun X : World => X.cell? ⟨w.heap.size + 1, 0, none⟩ = some (.slice a0 L0.length c0) ∧ X.cell? ⟨w.heap.size + 1, 1, none⟩ = some (.slice a1 L1.length c1) ∧ X.cell? ⟨w.heap.size + 1, 2, none⟩ = some (.slice a2 L2.length c2)) (first | (with_reducible exact hW) | (with_reducible exact hWd) | (with_reducible exact hX1) | (with_reducible exact hX2) | (with_reducible exact hX3) | go_keep) (first
        | (go_at_call 63; (with_reducible refine (k0 _ (by first | exact SU.o0 | exact SU.o0.drew)).mono ?_); rintro e x1 ⟨rfl, P0, q1⟩; have q1' : wr.grownBy x1 (Value.slice a0 L0.length c0).ownBlock := ⟨q1.os, q1.tape, q1.output, q1.size, q1.block⟩; have P1 := row_far SU.o1 SU.p01 q1'; have P2 := row_far SU.o2 SU.p02 q1'; have UX1 := bk_far SU.u SU.o0 (by decide) q1'; have RX1 := bk_far RR SU.o0 (by decide) q1'; have hX1 := hSd x1 UX1; have GX1 : Below w.heap.size w x1 := G.grown q1' zG (fun r e => by have := (SU.o0.lt _ e).1; omega))
        | (go_at_call 63; (with_reducible refine (k1 _ P1).mono ?_); rintro e x2 ⟨rfl, Q1, q2⟩; have Q0 := row_far P0 (apt_len SU.p01.symm) q2; have Q2 := row_far P2 SU.p12 q2; have UX2 := bk_far UX1 P1 (by decide) q2; have RX2 := bk_far RX1 P1 (by decide) q2; have hX2 := hSd x2 UX2; have GX2 : Below w.heap.size w x2 := GX1.grown q2 GX1.size (fun r e => by have := (P1.lt _ e).1; omega))
        | (go_at_call 63; (with_reducible refine (k2 _ Q2).mono ?_); rintro e x3 ⟨rfl, T2, q3⟩; have T0 := row_far Q0 (apt_len SU.p02.symm) q3; have T1 := row_far Q1 (apt_len SU.p12.symm) q3; have UX3 := bk_far UX2 Q2 (by decide) q3; have RX3 := bk_far RX2 Q2 (by decide) q3; have hX3 := hSd x3 UX3; have GX3 : Below w.heap.size w x3 := GX2.grown q3 GX2.size (fun r e => by have := (Q2.lt _ e).1; omega); obtain ⟨v0, v1, v2⟩ := RX3.at3; have w0 := RX3.free 0; have w1 := RX3.free 1; have w2 := RX3.free 2))
      have BE := (((But.refl w.heap.size x3).set 0 (.slice a0 (risO L0).length c0)).set 1 (.slice a1 (risO L1).length c1)).set 2 (.slice a2 (risO L2).length c2)
      have RE := ((RX3.set 0 (.slice a0 (risO L0).length c0)).set 1 (.slice a1 (risO L1).length c1)).set 2 (.slice a2 (risO L2).length c2)
      have RE' : Bk (((x3.setCell ⟨w.heap.size, 0, none⟩ (.slice a0 (risO L0).length c0)).setCell ⟨w.heap.size, 1, none⟩ (.slice a1 (risO L1).length c1)).setCell ⟨w.heap.size, 2, none⟩ (.slice a2 (risO L2).length c2)) w.heap.size #[.slice a0 (risO L0).length c0, .slice a1 (risO L1).length c1, .slice a2 (risO L2).length c2] 52 := RE
      have E0 := World.ownsRow.mono (own_but T0 RX3 (by decide) BE) (show w.heap.size ≤ V.heap.size by omega)
      have E1 := World.ownsRow.mono (own_but T1 RX3 (by decide) BE) (show w.heap.size ≤ V.heap.size by omega)
      have E2 := World.ownsRow.mono (own_but T2 RX3 (by decide) BE) (show w.heap.size ≤ V.heap.size by omega)
      have GE := gset (gset (gset GX3 (p := ⟨w.heap.size, 0, none⟩) (Nat.le_refl _) (.slice a0 (risO L0).length c0)) (p := ⟨w.heap.size, 1, none⟩) (Nat.le_refl _) (.slice a1 (risO L1).length c1)) (p := ⟨w.heap.size, 2, none⟩) (Nat.le_refl _) (.slice a2 (risO L2).length c2)
      obtain ⟨m0, m1, m2⟩ := RE'.at3
      go_wp2
      exact bodyPost_ret (v := .agg #[.slice a0 (risO L0).length c0, .slice a1 (risO L1).length c1, .slice a2 (risO L2).length c2]) (by simp [results, Tryz.results37, go_sem, m0, m1, m2]) rfl (by rw [HL.out.1, HL.out.2.1, HL.out.2.2]; exact ⟨a0, c0, a1, c1, a2, c2, rfl, E0, E1, E2, GE⟩)

end Go.Proofs.YtlejhococjlijaaGreatDoor
