/- A step of a script on a gate: Push, Advance, Flush, none. -/
import Derived.Test.YtoehkpejdpejcaaGld
namespace Go.Proofs.Ytoehkpejdpejcaa
open Go.RowKit Go.BigFrame Go.Maps
set_option linter.unusedVariables false
set_option linter.unusedSimpArgs false
set_option linter.unusedSectionVars false

theorem app_room {n m : Nat} (h : (n + 1) * 112 ≤ 140737488351232) (hm : m ≤ n) : ((m + 1) + (m + 1) / 4 + 192) * 88 ≤ 281474976710656 := by
  have h0 : m + 1 ≤ 1256584717421 := by omega
  have h1 : (m + 1) / 4 ≤ 314146179356 := Nat.div_le_of_le_mul (by omega)
  refine Nat.le_trans (Nat.mul_le_mul_right 88 (show (m + 1) + (m + 1) / 4 + 192 ≤ 1256584717421 + 314146179356 + 192 from Nat.add_le_add_right (Nat.add_le_add h0 h1) _)) (by decide)
section
variable (N tb g n t : Nat) (cap : Int) (A T : List Ev) (M : Int) (C : Bool) (aA aT : Option Addr) (cA cT : Nat) (S : Nat → Prop) (s : Gs) (x : Gop) (w : World)
  (tl : Tl w tb N A T M C aA aT cA cT) (GG : Gat w g S s t) (I : TInv A T M C s) (hcap : s.cap = cap) (hn : A.length ≤ n) (hnl : (n + 1) * 112 ≤ 140737488351232) (ht : t + 1 ≤ 140737488351232) (hS : ∀ k, S k → N ≤ k) (hN : N ≤ w.heap.size) (xok : x.e.ok)
include tl GG I hcap hn hnl ht hS hN xok
set_option maxRecDepth 100000 in
set_option maxHeartbeats 8000000 in
theorem stp1 (k1 : x.kd = 1) : Calls Try.prog 21 #[.pointer (some ⟨tb, 0, none⟩), .pointer (some ⟨g, 0, none⟩), .int .i64 cap, .agg (gopC x)] w fun e w' => e = .returned (.bool true) ∧ StpP N tb g (n + 1) (t + 1) cap w w' := by
  have B := galloc (Below.refl w.heap.size w) (.cells (gopC x) 54)
  have b1 := Bk.new w (gopC x) 54
  have tV := tl.keep B
  have GV := GG.keep B
  have hr := rsn_eq I GG.1 x.e
  generalize hV : w.alloc (.cells (gopC x) 54) = V at *
  have dk : V.cell? ⟨w.heap.size, 0, none⟩ = some (.int .i64 x.kd) := cell_of_row V _ 0 _ _ _ b1
  rw [k1] at dk
  have r1 := gop_range b1.range
  have c1 := reason_any tb N A T M C aA aT cA cT cap x.e V tV (by omega)
  rw [← hcap, hr, hcap] at c1
  have HC : Hid (s.cap = cap) := hcap
  have hb1 : Hid (A.length + 1 ≤ 9223372036854775807) := by unfold Hid; omega
  have hb2 : Hid (((A.length + 1) + (A.length + 1) / 4 + 192) * 88 ≤ 281474976710656) := app_room hnl hn
  have BV : Below N w V := B.mono hN
  go_enter Try.func21, Try.ntmps21
  go_upto_region 4 with (first
    | (refine wpList_load_mid rfl 30 _ rfl w.heap.size 2 rfl (evC x.e).toList _ r1 Try.underlying30 rfl infoEv ?_)
    | (go_at_call 34; (with_reducible refine c1.mono ?_); rintro e u1 ⟨rfl, g1⟩))
  have b2 := b1.keep g1
  have r2 := gop_range b2.range
  have t1 := tV.keep g1
  have G1 := GV.keep g1
  have B1 : Below N w u1 := BV.trans (g1.mono (Nat.le_trans hN B.size))
  have c2 := push_any g t S s x.e u1 G1 xok ht
  clear c1
  go_upto_region 5 with (first
    | (refine wpList_load_mid rfl 30 _ rfl w.heap.size 2 rfl (evC x.e).toList _ r2 Try.underlying30 rfl infoEv ?_)
    | (go_at_call 10; (with_reducible refine c2.mono ?_); rintro e u2 ⟨rfl, P2⟩))
  obtain ⟨S2, G2, F2, V2⟩ := P2.ex
  have B2 := F2.toBelow B1 hN hS
  have t2 := t1.frm F2 G1
  have b3 := F2.loc G1 b2 (by decide) (by decide) (by decide)
  have lo2 : ∀ k, S2 k → N ≤ k := fun k e => (V2 k e).elim (hS k) fun h => Nat.le_trans (Nat.le_trans hN B1.size) h
  clear c2
  by_cases hC : s.pushC x.e = 0
  · have hbq : (s.pushC x.e == 0) = true := beq_iff_eq.2 hC
    have I2 := I.push x.e hC
    have r3 := gop_range b3.range
    have hne0 : Nonempty (Ext u2) := ⟨⟨_, Below.refl _ _⟩⟩
    have p0 := fun z : Ext u2 => (z.cell _ _ t2.blk.lt).trans t2.blk.at4.1
    rw [hC]
    clear hbq hr
    go_upto_region 6 with fail
    refine wp_region_ext_new 8 0 7 (by omega) (by omega) (.pointer (some ⟨tb, 0, none⟩)) _ _ _ rfl rfl rfl rfl rfl rfl (by kernel_rfl) (by kernel_rfl) (fun c a d v w h => by cases d <;> exact h) ?_
    simp only [List.take_succ_cons, List.take_zero, List.drop_succ_cons, List.drop_zero, List.eraseIdx_cons_succ, List.eraseIdx_cons_zero, Act.put, List.setIfInBounds_toArray, List.set_cons_succ, List.set_cons_zero]
    repeat (first
      | (refine wpQuiet_load_mid rfl 30 _ rfl w.heap.size 2 rfl (evC x.e) _ (fun X hX => by obtain ⟨nx, rfl⟩ := hX; exact rangeAt_keep r3 nx.h) Try.underlying30 rfl infoEv _ rfl ?_; simp only [Act.put, List.setIfInBounds_toArray, List.set_cons_succ, List.set_cons_zero])
      | go_big_quiet_step (fail))
    refine wpQuiet_nil ?_
    intro X hX
    obtain ⟨nx, rfl⟩ := hX
    refine ⟨.slice (some ⟨nx.X.heap.size, 0, none⟩) 1 1, nx.X.alloc (.cells (evC x.e) 30), buildS_run (evBuildE x.e nx.X), ⟨⟨_, galloc nx.h _⟩, rfl⟩, ?_⟩
    have Q1 := galloc nx.h (.cells (evC x.e) 30)
    have bn := Bk.new nx.X (evC x.e) 30
    have hnews := World.news_of_block bn
    generalize nx.X.alloc (.cells (evC x.e) 30) = Y at *
    generalize nx.X.heap.size = gy at *
    simp only [List.setIfInBounds_toArray, List.set_cons_succ, List.set_cons_zero]
    have tY := t2.keep Q1
    have GY := G2.keep Q1
    have BY : Below N w Y := B2.trans (Q1.mono (Nat.le_trans hN B2.size))
    have hNY : N ≤ Y.heap.size := Nat.le_trans hN BY.size
    have fin : ∀ (g8 cap8 : Nat) (w8 : World), w8.ownsRow N 30 11 (.slice (some ⟨g8, 0, none⟩) (A.length + 1) cap8) (A.length + 1) (fl evC A ++ (evC x.e).toList) → Y.grownBy w8 (Value.slice aA A.length cA).ownBlock → ((Value.slice aA A.length cA).ownBlock = some g8 ∨ g8 = Y.heap.size) → Bk w8 tb #[.slice aA A.length cA, .slice aT T.length cT, .int .i64 M, .bool C] 59 ∧ StpP N tb g (n + 1) (t + 1) cap w (w8.setCell ⟨tb, 0, none⟩ (.slice (some ⟨g8, 0, none⟩) (A.length + 1) cap8)) := by
      intro g8 cap8 w8 O8 Q8 L8
      obtain ⟨tF, bF⟩ := tY.growA (w := w) O8 Q8 L8
      refine ⟨bF, A ++ [x.e], T, M, C, _, _, _, _, S2, _, tF, (GY.grown tY.oA (by decide) (by decide) (by decide) Q8).setB bF (by decide) (by decide) (by decide) 0 _, I2, by rw [Gs.push_cap]; exact HC, by simp; omega, (BY.grown Q8 hNY fun k e => (World.ownsRow.lt tY.oA k e).1).setCell tl.lo _, lo2⟩
    have OA := tY.oA
    clear p0 hne0 bn I2 t2 G2 F2 V2 P2 b3 r3
    refine wpList_append_one rfl (.tmp 35) (.tmp 38) rfl Try.underlying36 nfEv rfl (by decide) (.slice aA A.length cA) N A.length _ rfl OA hNY ⟨gy, 0, none⟩ 1 (evC x.e).toList rfl rfl hnews (ev_ones1 x.e) hb1.out hb2.out ?_
    intro g8 cap8 w8 O8 Q8 L8
    obtain ⟨b8, SP⟩ := fin g8 cap8 w8 O8 Q8 L8
    have f8 := b8.free 0
    have d8 := b8.at4.1
    clear O8 Q8 L8 fin hnews OA
    go_wp2
    go_ret
    exact ⟨rfl, SP⟩
  · have hC' : (s.pushC x.e == 0) = false := beq_eq_false_iff_ne.2 hC
    rw [Gs.push_no hC] at G2
    have SP : StpP N tb g (n + 1) (t + 1) cap w u2 := ⟨A, T, M, C, _, _, _, _, S2, s, t2, G2, I, HC, by omega, B2, lo2⟩
    clear hC
    go_wp2
    go_ret
    exact ⟨by simp, SP⟩
end

end Go.Proofs.Ytoehkpejdpejcaa
