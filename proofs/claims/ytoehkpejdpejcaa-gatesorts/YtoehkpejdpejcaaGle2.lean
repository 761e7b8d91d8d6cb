/- A step of a script on a gate: Advance, Flush, none. -/
import Derived.Test.YtoehkpejdpejcaaGle
namespace Go.Proofs.Ytoehkpejdpejcaa
open Go.RowKit Go.BigFrame Go.Maps
set_option linter.unusedVariables false
set_option linter.unusedSimpArgs false
set_option linter.unusedSectionVars false

theorem ev_fone (l : List Ev) : ∀ u ∈ fl evC l, u.oneCell' = true := fl_one ev_ones1 l
theorem thr_room {n m : Nat} (h : (n + 1) * 112 ≤ 140737488351232) (hm : m ≤ n) : m * 88 ≤ 140737488355328 := by omega
section
variable (N tb g n t : Nat) (cap : Int) (A T : List Ev) (M : Int) (C : Bool) (aA aT : Option Addr) (cA cT : Nat) (S : Nat → Prop) (s : Gs) (x : Gop) (w : World)
  (tl : Tl w tb N A T M C aA aT cA cT) (GG : Gat w g S s t) (I : TInv A T M C s) (hcap : s.cap = cap) (hn : A.length ≤ n) (hnl : (n + 1) * 112 ≤ 140737488351232) (ht : t + 1 ≤ 140737488351232) (hS : ∀ k, S k → N ≤ k) (hN : N ≤ w.heap.size) (xok : x.e.ok)
include tl GG I hcap hn hnl ht hS hN xok
set_option maxRecDepth 100000 in
set_option maxHeartbeats 4000000 in
theorem stp0 (k1 : x.kd ≠ 1) (k2 : x.kd ≠ 2) (k3 : x.kd ≠ 3) : Calls Try.prog 21 #[.pointer (some ⟨tb, 0, none⟩), .pointer (some ⟨g, 0, none⟩), .int .i64 cap, .agg (gopC x)] w fun e w' => e = .returned (.bool true) ∧ StpP N tb g (n + 1) (t + 1) cap w w' := by
  have B := galloc (Below.refl w.heap.size w) (.cells (gopC x) 54)
  have b1 := Bk.new w (gopC x) 54
  have tV := tl.keep B
  have GV := GG.keep B
  generalize hV : w.alloc (.cells (gopC x) 54) = V at *
  have dk : V.cell? ⟨w.heap.size, 0, none⟩ = some (.int .i64 x.kd) := cell_of_row V _ 0 _ _ _ b1
  have k1' : (x.kd == 1) = false := beq_eq_false_iff_ne.2 k1
  have k2' : (x.kd == 2) = false := beq_eq_false_iff_ne.2 k2
  have k3' : (x.kd == 3) = false := beq_eq_false_iff_ne.2 k3
  go_enter Try.func21, Try.ntmps21
  go_wp2
  go_ret
  exact ⟨rfl, A, T, M, C, _, _, _, _, S, s, tV, GV.mono (Nat.le_succ _), I, hcap, by omega, B.mono hN, hS⟩
set_option maxRecDepth 100000 in
set_option maxHeartbeats 8000000 in
theorem stp2 (k2 : x.kd = 2) : Calls Try.prog 21 #[.pointer (some ⟨tb, 0, none⟩), .pointer (some ⟨g, 0, none⟩), .int .i64 cap, .agg (gopC x)] w fun e w' => e = .returned (.bool true) ∧ StpP N tb g (n + 1) (t + 1) cap w w' := by
  have B := galloc (Below.refl w.heap.size w) (.cells (gopC x) 54)
  have b1 := Bk.new w (gopC x) 54
  have tV := tl.keep B
  have GV := GG.keep B
  generalize hV : w.alloc (.cells (gopC x) 54) = V at *
  have dk : V.cell? ⟨w.heap.size, 0, none⟩ = some (.int .i64 x.kd) := cell_of_row V _ 0 _ _ _ b1
  rw [k2] at dk
  have dm : V.cell? ⟨w.heap.size, 13, none⟩ = some (.int .i64 x.m) := cell_of_row V _ 13 _ _ _ b1
  have c2 := adv_any g t S s x.m V GV
  have HC : Hid (s.cap = cap) := hcap
  have BV : Below N w V := B.mono hN
  have hsub : (T ++ s.advL x.m).length ≤ n := by
    refine Nat.le_trans ?_ hn
    rw [← I.perm.length_eq, List.length_append, List.length_append]
    have : (s.advL x.m).length ≤ s.l.length := by
      unfold Gs.advL
      split
      · exact (List.takeWhile_sublist _).length_le
      · exact Nat.zero_le _
    omega
  rw [List.length_append] at hsub
  have hcl := I.cl
  cases hcc : C with
  | true =>
    subst hcc
    have eC : s.advC x.m = 101 := by unfold Gs.advC; rw [if_pos hcl]
    have hne : s.advC x.m ≠ 0 := by rw [eC]; decide
    rw [eC, (Gs.adv_no hne).1, (Gs.adv_no hne).2] at c2
    clear hsub hne
    have hb3 : Hid ((T.length + 0) * 88 ≤ 140737488355328) := thr_room hnl (by have := I.perm.length_eq; rw [List.length_append] at this; omega)
    have hb4 : Hid (T.length + 0 ≤ 140737488351232) := by unfold Hid; have := I.perm.length_eq; rw [List.length_append] at this; omega
    clear eC
    go_enter Try.func21, Try.ntmps21
    go_upto_region 10 with (first
      | (go_at_call 12; (with_reducible refine c2.mono ?_); rintro e u2 ⟨a5, cp5, rfl, P2⟩))
    obtain ⟨S2, G2, F2, V2⟩ := P2.step.ex
    have O5 := P2.own
    have B2 := F2.toBelow BV hN hS
    have t2 := tV.frm F2 GV
    have b3 := F2.loc GV b1 (by decide) (by decide) (by decide)
    have lo2 : ∀ k, S2 k → N ≤ k := fun k e => (V2 k e).elim (hS k) fun h => Nat.le_trans (Nat.le_trans hN B.size) h
    have d1 := t2.blk.at4.2.1
    have d2 := t2.blk.at4.2.2.1
    have d3 := t2.blk.at4.2.2.2
    have dm2 : u2.cell? ⟨w.heap.size, 13, none⟩ = some (.int .i64 x.m) := cell_of_row u2 _ 13 _ _ _ b3
    clear c2 P2 V2 F2
    have OT := t2.oT
    have hNu : N ≤ u2.heap.size := Nat.le_trans hN B2.size
    have fin : ∀ (ao8 : Option Addr) (cap8 : Nat) (w8 : World), w8.ownsRow N 30 11 (.slice ao8 (T.length + 0) cap8) (T.length + 0) (fl evC T ++ []) → u2.grownBy w8 (Value.slice aT T.length cT).ownBlock → ((Value.slice ao8 (T.length + 0) cap8).ownBlock = (Value.slice aT T.length cT).ownBlock ∨ (Value.slice ao8 (T.length + 0) cap8).ownBlock = some u2.heap.size) → Bk w8 tb #[.slice aA A.length cA, .slice aT T.length cT, .int .i64 M, .bool true] 59 ∧ StpP N tb g (n + 1) (t + 1) cap w (w8.setCell ⟨tb, 1, none⟩ (.slice ao8 (T.length + 0) cap8)) := by
      intro ao8 cap8 w8 O8 Q8 L8
      obtain ⟨tF, bF⟩ := t2.growT (l := ([] : List Ev)) (M' := 0) (C' := false) O8 Q8 L8
      exact ⟨bF, A, T ++ ([] : List Ev), M, true, _, _, _, _, S2, _, tF, ((G2.grown t2.oT (by decide) (by decide) (by decide) Q8).setB bF (by decide) (by decide) (by decide) 1 _).mono (Nat.le_succ _), by rw [List.append_nil]; exact I, HC, by omega, (B2.grown Q8 hNu fun k e => (World.ownsRow.lt t2.oT k e).1).setCell tl.lo _, lo2⟩
    have Fl := own_flat O5
    have Sll := own_sl O5
    go_wp2_with (first
      | (at_builtin; refine wpList_append_flat_at rfl (.tmp 99) (.tmp 100) rfl Try.underlying36 nfEv rfl (by decide) (.slice aT T.length cT) N T.length _ rfl OT hNu a5 0 cp5 [] rfl Sll Fl (fl_len ev_size ([] : List Ev)) (ev_fone ([] : List Ev)) hb3.out hb4.out ?_; intro ao8 cap8 w8 O8 Q8 L8; obtain ⟨b8, SP⟩ := fin ao8 cap8 w8 O8 Q8 L8; have f8 := b8.free 1; have d8 := b8.at4.2.1; clear O8 Q8 L8))
    go_ret
    exact ⟨rfl, SP⟩
  | false =>
    subst hcc
    have hmk := I.mrk rfl
    by_cases h1 : x.m < -1152921504606846976 ∨ 1152921504606846976 < x.m
    · have eC0 : s.advC x.m = 106 := by unfold Gs.advC; rw [if_neg (by rw [hcl]; decide), if_pos h1]
      by_cases h1a : x.m < -1152921504606846976
      · clear h1
        have eC : s.advC x.m = 106 := by exact eC0
        have hne : s.advC x.m ≠ 0 := by rw [eC]; decide
        rw [eC, (Gs.adv_no hne).1, (Gs.adv_no hne).2] at c2
        clear hsub hne
        have hb3 : Hid ((T.length + 0) * 88 ≤ 140737488355328) := thr_room hnl (by have := I.perm.length_eq; rw [List.length_append] at this; omega)
        have hb4 : Hid (T.length + 0 ≤ 140737488351232) := by unfold Hid; have := I.perm.length_eq; rw [List.length_append] at this; omega
        clear eC
        go_enter Try.func21, Try.ntmps21
        go_upto_region 10 with (first
          | (go_at_call 12; (with_reducible refine c2.mono ?_); rintro e u2 ⟨a5, cp5, rfl, P2⟩))
        obtain ⟨S2, G2, F2, V2⟩ := P2.step.ex
        have O5 := P2.own
        have B2 := F2.toBelow BV hN hS
        have t2 := tV.frm F2 GV
        have b3 := F2.loc GV b1 (by decide) (by decide) (by decide)
        have lo2 : ∀ k, S2 k → N ≤ k := fun k e => (V2 k e).elim (hS k) fun h => Nat.le_trans (Nat.le_trans hN B.size) h
        have d1 := t2.blk.at4.2.1
        have d2 := t2.blk.at4.2.2.1
        have d3 := t2.blk.at4.2.2.2
        have dm2 : u2.cell? ⟨w.heap.size, 13, none⟩ = some (.int .i64 x.m) := cell_of_row u2 _ 13 _ _ _ b3
        clear eC0
        clear c2 P2 V2 F2
        have OT := t2.oT
        have hNu : N ≤ u2.heap.size := Nat.le_trans hN B2.size
        have fin : ∀ (ao8 : Option Addr) (cap8 : Nat) (w8 : World), w8.ownsRow N 30 11 (.slice ao8 (T.length + 0) cap8) (T.length + 0) (fl evC T ++ []) → u2.grownBy w8 (Value.slice aT T.length cT).ownBlock → ((Value.slice ao8 (T.length + 0) cap8).ownBlock = (Value.slice aT T.length cT).ownBlock ∨ (Value.slice ao8 (T.length + 0) cap8).ownBlock = some u2.heap.size) → Bk w8 tb #[.slice aA A.length cA, .slice aT T.length cT, .int .i64 M, .bool false] 59 ∧ StpP N tb g (n + 1) (t + 1) cap w (w8.setCell ⟨tb, 1, none⟩ (.slice ao8 (T.length + 0) cap8)) := by
          intro ao8 cap8 w8 O8 Q8 L8
          obtain ⟨tF, bF⟩ := t2.growT (l := ([] : List Ev)) (M' := 0) (C' := false) O8 Q8 L8
          exact ⟨bF, A, T ++ ([] : List Ev), M, false, _, _, _, _, S2, _, tF, ((G2.grown t2.oT (by decide) (by decide) (by decide) Q8).setB bF (by decide) (by decide) (by decide) 1 _).mono (Nat.le_succ _), by rw [List.append_nil]; exact I, HC, by omega, (B2.grown Q8 hNu fun k e => (World.ownsRow.lt t2.oT k e).1).setCell tl.lo _, lo2⟩
        have Fl := own_flat O5
        have Sll := own_sl O5
        go_wp2_with (first
          | (at_builtin; refine wpList_append_flat_at rfl (.tmp 99) (.tmp 100) rfl Try.underlying36 nfEv rfl (by decide) (.slice aT T.length cT) N T.length _ rfl OT hNu a5 0 cp5 [] rfl Sll Fl (fl_len ev_size ([] : List Ev)) (ev_fone ([] : List Ev)) hb3.out hb4.out ?_; intro ao8 cap8 w8 O8 Q8 L8; obtain ⟨b8, SP⟩ := fin ao8 cap8 w8 O8 Q8 L8; have f8 := b8.free 1; have d8 := b8.at4.2.1; clear O8 Q8 L8))
        go_ret
        exact ⟨rfl, SP⟩
      · have h1b : 1152921504606846976 < x.m := by omega
        clear h1
        have eC : s.advC x.m = 106 := by exact eC0
        have hne : s.advC x.m ≠ 0 := by rw [eC]; decide
        rw [eC, (Gs.adv_no hne).1, (Gs.adv_no hne).2] at c2
        clear hsub hne
        have hb3 : Hid ((T.length + 0) * 88 ≤ 140737488355328) := thr_room hnl (by have := I.perm.length_eq; rw [List.length_append] at this; omega)
        have hb4 : Hid (T.length + 0 ≤ 140737488351232) := by unfold Hid; have := I.perm.length_eq; rw [List.length_append] at this; omega
        clear eC
        go_enter Try.func21, Try.ntmps21
        go_upto_region 10 with (first
          | (go_at_call 12; (with_reducible refine c2.mono ?_); rintro e u2 ⟨a5, cp5, rfl, P2⟩))
        obtain ⟨S2, G2, F2, V2⟩ := P2.step.ex
        have O5 := P2.own
        have B2 := F2.toBelow BV hN hS
        have t2 := tV.frm F2 GV
        have b3 := F2.loc GV b1 (by decide) (by decide) (by decide)
        have lo2 : ∀ k, S2 k → N ≤ k := fun k e => (V2 k e).elim (hS k) fun h => Nat.le_trans (Nat.le_trans hN B.size) h
        have d1 := t2.blk.at4.2.1
        have d2 := t2.blk.at4.2.2.1
        have d3 := t2.blk.at4.2.2.2
        have dm2 : u2.cell? ⟨w.heap.size, 13, none⟩ = some (.int .i64 x.m) := cell_of_row u2 _ 13 _ _ _ b3
        clear eC0
        clear c2 P2 V2 F2
        have OT := t2.oT
        have hNu : N ≤ u2.heap.size := Nat.le_trans hN B2.size
        have fin : ∀ (ao8 : Option Addr) (cap8 : Nat) (w8 : World), w8.ownsRow N 30 11 (.slice ao8 (T.length + 0) cap8) (T.length + 0) (fl evC T ++ []) → u2.grownBy w8 (Value.slice aT T.length cT).ownBlock → ((Value.slice ao8 (T.length + 0) cap8).ownBlock = (Value.slice aT T.length cT).ownBlock ∨ (Value.slice ao8 (T.length + 0) cap8).ownBlock = some u2.heap.size) → Bk w8 tb #[.slice aA A.length cA, .slice aT T.length cT, .int .i64 M, .bool false] 59 ∧ StpP N tb g (n + 1) (t + 1) cap w (w8.setCell ⟨tb, 1, none⟩ (.slice ao8 (T.length + 0) cap8)) := by
          intro ao8 cap8 w8 O8 Q8 L8
          obtain ⟨tF, bF⟩ := t2.growT (l := ([] : List Ev)) (M' := 0) (C' := false) O8 Q8 L8
          exact ⟨bF, A, T ++ ([] : List Ev), M, false, _, _, _, _, S2, _, tF, ((G2.grown t2.oT (by decide) (by decide) (by decide) Q8).setB bF (by decide) (by decide) (by decide) 1 _).mono (Nat.le_succ _), by rw [List.append_nil]; exact I, HC, by omega, (B2.grown Q8 hNu fun k e => (World.ownsRow.lt t2.oT k e).1).setCell tl.lo _, lo2⟩
        have Fl := own_flat O5
        have Sll := own_sl O5
        go_wp2_with (first
          | (at_builtin; refine wpList_append_flat_at rfl (.tmp 99) (.tmp 100) rfl Try.underlying36 nfEv rfl (by decide) (.slice aT T.length cT) N T.length _ rfl OT hNu a5 0 cp5 [] rfl Sll Fl (fl_len ev_size ([] : List Ev)) (ev_fone ([] : List Ev)) hb3.out hb4.out ?_; intro ao8 cap8 w8 O8 Q8 L8; obtain ⟨b8, SP⟩ := fin ao8 cap8 w8 O8 Q8 L8; have f8 := b8.free 1; have d8 := b8.at4.2.1; clear O8 Q8 L8))
        go_ret
        exact ⟨rfl, SP⟩
    have h1a : -1152921504606846976 ≤ x.m := by omega
    have h1b : x.m ≤ 1152921504606846976 := by omega
    by_cases h2 : x.m < s.mark
    · have eC0 : s.advC x.m = 105 := by unfold Gs.advC; rw [if_neg (by rw [hcl]; decide), if_neg h1, if_pos h2]
      have h2a : x.m < M := by rw [← hmk]; exact h2
      clear h1 h2 hmk
      have eC : s.advC x.m = 105 := by exact eC0
      have hne : s.advC x.m ≠ 0 := by rw [eC]; decide
      rw [eC, (Gs.adv_no hne).1, (Gs.adv_no hne).2] at c2
      clear hsub hne
      have hb3 : Hid ((T.length + 0) * 88 ≤ 140737488355328) := thr_room hnl (by have := I.perm.length_eq; rw [List.length_append] at this; omega)
      have hb4 : Hid (T.length + 0 ≤ 140737488351232) := by unfold Hid; have := I.perm.length_eq; rw [List.length_append] at this; omega
      clear eC
      go_enter Try.func21, Try.ntmps21
      go_upto_region 10 with (first
        | (go_at_call 12; (with_reducible refine c2.mono ?_); rintro e u2 ⟨a5, cp5, rfl, P2⟩))
      obtain ⟨S2, G2, F2, V2⟩ := P2.step.ex
      have O5 := P2.own
      have B2 := F2.toBelow BV hN hS
      have t2 := tV.frm F2 GV
      have b3 := F2.loc GV b1 (by decide) (by decide) (by decide)
      have lo2 : ∀ k, S2 k → N ≤ k := fun k e => (V2 k e).elim (hS k) fun h => Nat.le_trans (Nat.le_trans hN B.size) h
      have d1 := t2.blk.at4.2.1
      have d2 := t2.blk.at4.2.2.1
      have d3 := t2.blk.at4.2.2.2
      have dm2 : u2.cell? ⟨w.heap.size, 13, none⟩ = some (.int .i64 x.m) := cell_of_row u2 _ 13 _ _ _ b3
      clear eC0
      clear c2 P2 V2 F2
      have hne0 : Nonempty (Ext u2) := ⟨⟨_, Below.refl _ _⟩⟩
      have x13 := fun z : Ext u2 => (z.cell _ _ b3.lt).trans dm2
      have x2 := fun z : Ext u2 => (z.cell _ _ t2.blk.lt).trans d2
      go_upto_region 15 with fail
      refine wp_region_ext (by kernel_rfl) (by kernel_rfl) ?_
      repeat go_big_quiet_step (fail)
      refine wpQuiet_nil ?_
      intro _ hw'
      obtain ⟨n1, hw''⟩ := hw'
      subst hw''
      clear x13 x2 hne0
      have t3 := t2.keep n1.h
      have G3 := G2.keep n1.h
      have B3 : Below N w n1.X := B2.trans (n1.h.mono (Nat.le_trans hN B2.size))
      have O6 := own_keep O5 n1.h
      have b5 := b3.keep n1.h
      have e1 := t3.blk.at4.2.1
      have e3 := t3.blk.at4.2.2.2
      have e13 : n1.X.cell? ⟨w.heap.size, 13, none⟩ = some (.int .i64 x.m) := cell_of_row n1.X _ 13 _ _ _ b5
      have OT := t3.oT
      have hNu : N ≤ n1.X.heap.size := Nat.le_trans hN B3.size
      have fin : ∀ (ao8 : Option Addr) (cap8 : Nat) (w8 : World), w8.ownsRow N 30 11 (.slice ao8 (T.length + 0) cap8) (T.length + 0) (fl evC T ++ []) → n1.X.grownBy w8 (Value.slice aT T.length cT).ownBlock → ((Value.slice ao8 (T.length + 0) cap8).ownBlock = (Value.slice aT T.length cT).ownBlock ∨ (Value.slice ao8 (T.length + 0) cap8).ownBlock = some n1.X.heap.size) → Bk w8 tb #[.slice aA A.length cA, .slice aT T.length cT, .int .i64 M, .bool false] 59 ∧ StpP N tb g (n + 1) (t + 1) cap w (w8.setCell ⟨tb, 1, none⟩ (.slice ao8 (T.length + 0) cap8)) := by
        intro ao8 cap8 w8 O8 Q8 L8
        obtain ⟨tF, bF⟩ := t3.growT (l := ([] : List Ev)) (M' := 0) (C' := false) O8 Q8 L8
        exact ⟨bF, A, T ++ ([] : List Ev), M, false, _, _, _, _, S2, _, tF, ((G3.grown t3.oT (by decide) (by decide) (by decide) Q8).setB bF (by decide) (by decide) (by decide) 1 _).mono (Nat.le_succ _), by rw [List.append_nil]; exact I, HC, by omega, (B3.grown Q8 hNu fun k e => (World.ownsRow.lt t3.oT k e).1).setCell tl.lo _, lo2⟩
      have Fl := own_flat O6
      have Sll := own_sl O6
      go_wp2_with (first
        | (at_builtin; refine wpList_append_flat_at rfl (.tmp 99) (.tmp 100) rfl Try.underlying36 nfEv rfl (by decide) (.slice aT T.length cT) N T.length _ rfl OT hNu a5 0 cp5 [] rfl Sll Fl (fl_len ev_size ([] : List Ev)) (ev_fone ([] : List Ev)) hb3.out hb4.out ?_; intro ao8 cap8 w8 O8 Q8 L8; obtain ⟨b8, SP⟩ := fin ao8 cap8 w8 O8 Q8 L8; have f8 := b8.free 1; have d8 := b8.at4.2.1; clear O8 Q8 L8))
      go_ret
      exact ⟨rfl, SP⟩
    · have eC0 : s.advC x.m = 0 := by unfold Gs.advC; rw [if_neg (by rw [hcl]; decide), if_neg h1, if_neg h2]
      have h2a : decide (x.m < M) = false := decide_eq_false (by rw [← hmk]; exact h2)
      clear h1 h2 hmk
      have eC : s.advC x.m = 0 := by exact eC0
      have I2 := I.adv x.m eC
      have ecap : (s.adv x.m).cap = cap := by rw [Gs.adv_cap]; exact HC
      rw [eC] at c2
      generalize s.advL x.m = l at *
      generalize s.adv x.m = s2 at *
      have hb3 : Hid ((T.length + l.length) * 88 ≤ 140737488355328) := thr_room hnl hsub
      have hb4 : Hid (T.length + l.length ≤ 140737488351232) := by unfold Hid; omega
      clear hsub
      clear eC
      go_enter Try.func21, Try.ntmps21
      go_upto_region 10 with (first
        | (go_at_call 12; (with_reducible refine c2.mono ?_); rintro e u2 ⟨a5, cp5, rfl, P2⟩))
      obtain ⟨S2, G2, F2, V2⟩ := P2.step.ex
      have O5 := P2.own
      have B2 := F2.toBelow BV hN hS
      have t2 := tV.frm F2 GV
      have b3 := F2.loc GV b1 (by decide) (by decide) (by decide)
      have lo2 : ∀ k, S2 k → N ≤ k := fun k e => (V2 k e).elim (hS k) fun h => Nat.le_trans (Nat.le_trans hN B.size) h
      have d1 := t2.blk.at4.2.1
      have d2 := t2.blk.at4.2.2.1
      have d3 := t2.blk.at4.2.2.2
      have dm2 : u2.cell? ⟨w.heap.size, 13, none⟩ = some (.int .i64 x.m) := cell_of_row u2 _ 13 _ _ _ b3
      clear eC0
      clear c2 P2 V2 F2
      have hne0 : Nonempty (Ext u2) := ⟨⟨_, Below.refl _ _⟩⟩
      have x13 := fun z : Ext u2 => (z.cell _ _ b3.lt).trans dm2
      have x2 := fun z : Ext u2 => (z.cell _ _ t2.blk.lt).trans d2
      go_upto_region 15 with fail
      refine wp_region_ext (by kernel_rfl) (by kernel_rfl) ?_
      repeat go_big_quiet_step (fail)
      refine wpQuiet_nil ?_
      intro _ hw'
      obtain ⟨n1, hw''⟩ := hw'
      subst hw''
      clear x13 x2 hne0
      have t3 := t2.keep n1.h
      have G3 := G2.keep n1.h
      have B3 : Below N w n1.X := B2.trans (n1.h.mono (Nat.le_trans hN B2.size))
      have O6 := own_keep O5 n1.h
      have b5 := b3.keep n1.h
      have e1 := t3.blk.at4.2.1
      have e3 := t3.blk.at4.2.2.2
      have e13 : n1.X.cell? ⟨w.heap.size, 13, none⟩ = some (.int .i64 x.m) := cell_of_row n1.X _ 13 _ _ _ b5
      have t4 := t3.setM x.m
      have G4 := G3.setB t3.blk (by decide) (by decide) (by decide) 2 (.int .i64 x.m)
      have B4 := B3.setCell (p := ⟨tb, 2, none⟩) tl.lo (.int .i64 x.m)
      have O7 := ty_set O6 t3.blk (by decide) 2 (.int .i64 x.m)
      have fr2 := t3.blk.free 2
      have e2 := t3.blk.at4.2.2.1
      generalize hX4 : n1.X.setCell ⟨tb, 2, none⟩ (.int .i64 x.m) = X4 at *
      have h1 := t4.blk.at4.2.1
      have OT := t4.oT
      have hNu : N ≤ X4.heap.size := Nat.le_trans hN B4.size
      have fin : ∀ (ao8 : Option Addr) (cap8 : Nat) (w8 : World), w8.ownsRow N 30 11 (.slice ao8 (T.length + l.length) cap8) (T.length + l.length) (fl evC T ++ (fl evC l)) → X4.grownBy w8 (Value.slice aT T.length cT).ownBlock → ((Value.slice ao8 (T.length + l.length) cap8).ownBlock = (Value.slice aT T.length cT).ownBlock ∨ (Value.slice ao8 (T.length + l.length) cap8).ownBlock = some X4.heap.size) → Bk w8 tb #[.slice aA A.length cA, .slice aT T.length cT, .int .i64 x.m, .bool false] 59 ∧ StpP N tb g (n + 1) (t + 1) cap w (w8.setCell ⟨tb, 1, none⟩ (.slice ao8 (T.length + l.length) cap8)) := by
        intro ao8 cap8 w8 O8 Q8 L8
        obtain ⟨tF, bF⟩ := t4.growT (l := l) (M' := 0) (C' := false) O8 Q8 L8
        exact ⟨bF, A, T ++ l, x.m, false, _, _, _, _, S2, _, tF, ((G4.grown t4.oT (by decide) (by decide) (by decide) Q8).setB bF (by decide) (by decide) (by decide) 1 _).mono (Nat.le_succ _), I2, ecap, by omega, (B4.grown Q8 hNu fun k e => (World.ownsRow.lt t4.oT k e).1).setCell tl.lo _, lo2⟩
      have Fl := own_flat O7
      have Sll := own_sl O7
      go_wp2_with (first
        | (at_builtin; refine wpList_append_flat_at rfl (.tmp 99) (.tmp 100) rfl Try.underlying36 nfEv rfl (by decide) (.slice aT T.length cT) N T.length _ rfl OT hNu a5 l.length cp5 (fl evC l) rfl Sll Fl (fl_len ev_size l) (ev_fone l) hb3.out hb4.out ?_; intro ao8 cap8 w8 O8 Q8 L8; obtain ⟨b8, SP⟩ := fin ao8 cap8 w8 O8 Q8 L8; have f8 := b8.free 1; have d8 := b8.at4.2.1; clear O8 Q8 L8))
      go_ret
      exact ⟨rfl, SP⟩
set_option maxRecDepth 100000 in
set_option maxHeartbeats 8000000 in
theorem stp3 (k3 : x.kd = 3) : Calls Try.prog 21 #[.pointer (some ⟨tb, 0, none⟩), .pointer (some ⟨g, 0, none⟩), .int .i64 cap, .agg (gopC x)] w fun e w' => e = .returned (.bool true) ∧ StpP N tb g (n + 1) (t + 1) cap w w' := by
  have B := galloc (Below.refl w.heap.size w) (.cells (gopC x) 54)
  have b1 := Bk.new w (gopC x) 54
  have tV := tl.keep B
  have GV := GG.keep B
  generalize hV : w.alloc (.cells (gopC x) 54) = V at *
  have dk : V.cell? ⟨w.heap.size, 0, none⟩ = some (.int .i64 x.kd) := cell_of_row V _ 0 _ _ _ b1
  rw [k3] at dk
  have c2 := flu_any g t S s V GV
  have HC : Hid (s.cap = cap) := hcap
  have BV : Below N w V := B.mono hN
  have hsub : (T ++ s.fluL).length ≤ n := by
    refine Nat.le_trans ?_ hn
    rw [← I.perm.length_eq, List.length_append, List.length_append]
    have : s.fluL.length ≤ s.l.length := by
      unfold Gs.fluL
      split
      · exact Nat.zero_le _
      · exact Nat.le_refl _
    omega
  rw [List.length_append] at hsub
  have hcl := I.cl
  cases hcc : C with
  | true =>
    subst hcc
    have eC : s.fluC = 101 := by unfold Gs.fluC; rw [if_pos hcl]
    have I2 := I.flu GG.1
    have ecap : s.flu.cap = cap := by rw [Gs.flu_cap]; exact HC
    rw [eC] at c2
    have hne : s.fluC ≠ 0 := by rw [eC]; decide
    rw [(Gs.flu_no hne).1, (Gs.flu_no hne).2] at c2
    clear hsub hne
    have hb3 : Hid ((T.length + 0) * 88 ≤ 140737488355328) := thr_room hnl (by have := I.perm.length_eq; rw [List.length_append] at this; omega)
    have hb4 : Hid (T.length + 0 ≤ 140737488351232) := by unfold Hid; have := I.perm.length_eq; rw [List.length_append] at this; omega
    rw [(Gs.flu_no (show s.fluC ≠ 0 by rw [eC]; decide)).1, (Gs.flu_no (show s.fluC ≠ 0 by rw [eC]; decide)).2] at I2
    rw [(Gs.flu_no (show s.fluC ≠ 0 by rw [eC]; decide)).1] at ecap
    clear eC
    go_enter Try.func21, Try.ntmps21
    go_upto_region 24 with (first
      | (go_at_call 16; (with_reducible refine c2.mono ?_); rintro e u2 ⟨a5, cp5, rfl, P2⟩))
    obtain ⟨S2, G2, F2, V2⟩ := P2.step.ex
    have O5 := P2.own
    have B2 := F2.toBelow BV hN hS
    have t2 := tV.frm F2 GV
    have b3 := F2.loc GV b1 (by decide) (by decide) (by decide)
    have lo2 : ∀ k, S2 k → N ≤ k := fun k e => (V2 k e).elim (hS k) fun h => Nat.le_trans (Nat.le_trans hN B.size) h
    have d1 := t2.blk.at4.2.1
    have d2 := t2.blk.at4.2.2.1
    have d3 := t2.blk.at4.2.2.2
    have dm2 : u2.cell? ⟨w.heap.size, 13, none⟩ = some (.int .i64 x.m) := cell_of_row u2 _ 13 _ _ _ b3
    clear c2 P2 V2 F2
    have t4 := t2.setC true
    have G4 := G2.setB t2.blk (by decide) (by decide) (by decide) 3 (.bool true)
    have B4 := B2.setCell (p := ⟨tb, 3, none⟩) tl.lo (.bool true)
    have O7 := ty_set O5 t2.blk (by decide) 3 (.bool true)
    have fr2 := t2.blk.free 3
    generalize hX4 : u2.setCell ⟨tb, 3, none⟩ (.bool true) = X4 at *
    have h1 := t4.blk.at4.2.1
    have OT := t4.oT
    have hNu : N ≤ X4.heap.size := Nat.le_trans hN B4.size
    have fin : ∀ (ao8 : Option Addr) (cap8 : Nat) (w8 : World), w8.ownsRow N 30 11 (.slice ao8 (T.length + 0) cap8) (T.length + 0) (fl evC T ++ []) → X4.grownBy w8 (Value.slice aT T.length cT).ownBlock → ((Value.slice ao8 (T.length + 0) cap8).ownBlock = (Value.slice aT T.length cT).ownBlock ∨ (Value.slice ao8 (T.length + 0) cap8).ownBlock = some X4.heap.size) → Bk w8 tb #[.slice aA A.length cA, .slice aT T.length cT, .int .i64 M, .bool true] 59 ∧ StpP N tb g (n + 1) (t + 1) cap w (w8.setCell ⟨tb, 1, none⟩ (.slice ao8 (T.length + 0) cap8)) := by
      intro ao8 cap8 w8 O8 Q8 L8
      obtain ⟨tF, bF⟩ := t4.growT (l := ([] : List Ev)) (M' := 0) (C' := false) O8 Q8 L8
      exact ⟨bF, A, T ++ ([] : List Ev), M, true, _, _, _, _, S2, _, tF, ((G4.grown t4.oT (by decide) (by decide) (by decide) Q8).setB bF (by decide) (by decide) (by decide) 1 _).mono (Nat.le_succ _), I2, ecap, by omega, (B4.grown Q8 hNu fun k e => (World.ownsRow.lt t4.oT k e).1).setCell tl.lo _, lo2⟩
    have Fl := own_flat O7
    have Sll := own_sl O7
    go_wp2_with (first
      | (at_builtin; refine wpList_append_flat_at rfl (.tmp 145) (.tmp 146) rfl Try.underlying36 nfEv rfl (by decide) (.slice aT T.length cT) N T.length _ rfl OT hNu a5 0 cp5 [] rfl Sll Fl (fl_len ev_size ([] : List Ev)) (ev_fone ([] : List Ev)) hb3.out hb4.out ?_; intro ao8 cap8 w8 O8 Q8 L8; obtain ⟨b8, SP⟩ := fin ao8 cap8 w8 O8 Q8 L8; have f8 := b8.free 1; have d8 := b8.at4.2.1; clear O8 Q8 L8))
    go_ret
    exact ⟨rfl, SP⟩
  | false =>
    subst hcc
    have eC : s.fluC = 0 := by unfold Gs.fluC; rw [if_neg (by rw [hcl]; decide)]
    have I2 := I.flu GG.1
    have ecap : s.flu.cap = cap := by rw [Gs.flu_cap]; exact HC
    rw [eC] at c2
    generalize s.fluL = l at *
    generalize s.flu = s2 at *
    have hb3 : Hid ((T.length + l.length) * 88 ≤ 140737488355328) := thr_room hnl hsub
    have hb4 : Hid (T.length + l.length ≤ 140737488351232) := by unfold Hid; omega
    clear hsub
    clear eC
    go_enter Try.func21, Try.ntmps21
    go_upto_region 24 with (first
      | (go_at_call 16; (with_reducible refine c2.mono ?_); rintro e u2 ⟨a5, cp5, rfl, P2⟩))
    obtain ⟨S2, G2, F2, V2⟩ := P2.step.ex
    have O5 := P2.own
    have B2 := F2.toBelow BV hN hS
    have t2 := tV.frm F2 GV
    have b3 := F2.loc GV b1 (by decide) (by decide) (by decide)
    have lo2 : ∀ k, S2 k → N ≤ k := fun k e => (V2 k e).elim (hS k) fun h => Nat.le_trans (Nat.le_trans hN B.size) h
    have d1 := t2.blk.at4.2.1
    have d2 := t2.blk.at4.2.2.1
    have d3 := t2.blk.at4.2.2.2
    have dm2 : u2.cell? ⟨w.heap.size, 13, none⟩ = some (.int .i64 x.m) := cell_of_row u2 _ 13 _ _ _ b3
    clear c2 P2 V2 F2
    have t4 := t2.setC true
    have G4 := G2.setB t2.blk (by decide) (by decide) (by decide) 3 (.bool true)
    have B4 := B2.setCell (p := ⟨tb, 3, none⟩) tl.lo (.bool true)
    have O7 := ty_set O5 t2.blk (by decide) 3 (.bool true)
    have fr2 := t2.blk.free 3
    generalize hX4 : u2.setCell ⟨tb, 3, none⟩ (.bool true) = X4 at *
    have h1 := t4.blk.at4.2.1
    have OT := t4.oT
    have hNu : N ≤ X4.heap.size := Nat.le_trans hN B4.size
    have fin : ∀ (ao8 : Option Addr) (cap8 : Nat) (w8 : World), w8.ownsRow N 30 11 (.slice ao8 (T.length + l.length) cap8) (T.length + l.length) (fl evC T ++ (fl evC l)) → X4.grownBy w8 (Value.slice aT T.length cT).ownBlock → ((Value.slice ao8 (T.length + l.length) cap8).ownBlock = (Value.slice aT T.length cT).ownBlock ∨ (Value.slice ao8 (T.length + l.length) cap8).ownBlock = some X4.heap.size) → Bk w8 tb #[.slice aA A.length cA, .slice aT T.length cT, .int .i64 M, .bool true] 59 ∧ StpP N tb g (n + 1) (t + 1) cap w (w8.setCell ⟨tb, 1, none⟩ (.slice ao8 (T.length + l.length) cap8)) := by
      intro ao8 cap8 w8 O8 Q8 L8
      obtain ⟨tF, bF⟩ := t4.growT (l := l) (M' := 0) (C' := false) O8 Q8 L8
      exact ⟨bF, A, T ++ l, M, true, _, _, _, _, S2, _, tF, ((G4.grown t4.oT (by decide) (by decide) (by decide) Q8).setB bF (by decide) (by decide) (by decide) 1 _).mono (Nat.le_succ _), I2, ecap, by omega, (B4.grown Q8 hNu fun k e => (World.ownsRow.lt t4.oT k e).1).setCell tl.lo _, lo2⟩
    have Fl := own_flat O7
    have Sll := own_sl O7
    go_wp2_with (first
      | (at_builtin; refine wpList_append_flat_at rfl (.tmp 145) (.tmp 146) rfl Try.underlying36 nfEv rfl (by decide) (.slice aT T.length cT) N T.length _ rfl OT hNu a5 l.length cp5 (fl evC l) rfl Sll Fl (fl_len ev_size l) (ev_fone l) hb3.out hb4.out ?_; intro ao8 cap8 w8 O8 Q8 L8; obtain ⟨b8, SP⟩ := fin ao8 cap8 w8 O8 Q8 L8; have f8 := b8.free 1; have d8 := b8.at4.2.1; clear O8 Q8 L8))
    go_ret
    exact ⟨rfl, SP⟩
end

end Go.Proofs.Ytoehkpejdpejcaa
