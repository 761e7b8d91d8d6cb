/- What the line reader's method next comes to. -/
import Derived.Test.YtkpnnofonocilaaDoorWl
import Derived.Deep.RegionHeld3
namespace Go.Proofs.YtkpnnofonocilaaDoor
open Go.RowKit Go.BigFrame
set_option linter.unusedVariables false
set_option linter.unusedSimpArgs false

theorem grown_iterAt {w u : World} {r : Option Nat} (h : w.grownBy u r) {k : Nat} (hk : w.heap.size ≤ k) (s : ByteArray) (pos : Nat) : w.grownBy (u.iterAt k s pos) r :=
  ⟨h.os, h.tape, h.output, by rw [Lib.iterAt_size]; exact h.size, fun i hi hne => (Lib.iterAt_other u k i s pos (by omega)).trans (h.block i hi hne)⟩
theorem Lr.iterAt {w : World} {b : Nat} {s : ByteArray} {a e : Int} (h : Lr w b s a e) {k : Nat} (hk : b ≠ k) (x : ByteArray) (pos : Nat) : Lr (w.iterAt k x pos) b s a e := (Lib.iterAt_other w k b x pos hk).trans h

set_option maxRecDepth 100000 in
set_option maxHeartbeats 8000000 in
theorem next_any (b : Nat) (s : ByteArray) (hs : s.size ≤ 9223372036854775807) (a : Int) (p : Nat) (hp : p ≤ s.size) (w : World) (R : Lr w b s a p) :
    Calls Tryd.prog 53 #[.pointer (some ⟨b, 0, none⟩)] w fun e w' => e = .returned (.string (wd s p)) ∧ Lr w' b s (wA s p) (wE s p) ∧ w.grownBy w' (some b) := by
  have hz : (s.extract p s.size).size = s.size - p := by rw [ByteArray.size_extract]; omega
  obtain ⟨hA, hE⟩ := word_sub s p hp
  obtain ⟨r0, r1, r2⟩ := R.at
  have f1 := R.free 1
  have f2 := R.free 2
  have hb := R.lt
  have q1 : (p : Int) ≤ (s.size : Int) := by omega
  have q2 : (0 : Int) ≤ (p : Int) := by omega
  go_enter Tryd.func53, Tryd.ntmps53
  have lrS : ∀ (X : World) (a' e' : Int), Lr X b s a' e' → X.frozen? ⟨b, 1, none⟩ = false ∧ X.frozen? ⟨b, 2, none⟩ = false ∧ X.cell? ⟨b, 0, none⟩ = some (.string s) := fun X a' e' h => ⟨h.free 1, h.free 2, h.at.1⟩
  have R1 := R.set1 s.size
  have R2 := R1.set2 s.size
  have hS1 := lrS _ _ _ R1.drew
  have hS2 := lrS _ _ _ R2.drew
  go_wp2
  go_region_held3 (fun X => X.frozen? ⟨b, 1, none⟩ = false ∧ X.frozen? ⟨b, 2, none⟩ = false ∧ X.cell? ⟨b, 0, none⟩ = some (.string s)) (first | exact hS1 | exact hS2 | go_keep) (fail)
  have R3 := R2.drew
  have G3 : w.grownBy ((w.setCell ⟨b, 1, none⟩ (.int .i64 s.size)).setCell ⟨b, 2, none⟩ (.int .i64 s.size)).drew (some b) := by
    have g := grown_trans (grown_set w b 1 (.int .i64 s.size)) (grown_set (w.setCell ⟨b, 1, none⟩ (.int .i64 s.size)) b 2 (.int .i64 s.size))
    exact ⟨g.os, g.tape, g.output, g.size, g.block⟩
  generalize ((w.setCell ⟨b, 1, none⟩ (.int .i64 s.size)).setCell ⟨b, 2, none⟩ (.int .i64 s.size)).drew = V at *
  clear R R1 R2 hS1 hS2 lrS f1 f2 r0 r1 r2
  obtain ⟨r0, r1, r2⟩ := R3.at
  have hV := R3.lt
  have hz1 := hz
  generalize ht : s.extract p s.size = t at *
  have wa := wA_le s p hp
  have we := wE_le s p hp
  have u1 : (wA s p : Int) ≤ (wE s p : Int) := by omega
  have u2 : (wE s p : Int) ≤ (s.size : Int) := by omega
  have u3 : (0 : Int) ≤ (wA s p : Int) := by omega
  have hA' : wA t 0 = scan gapB t t.size 0 := rfl
  have hE' : wE t 0 = scan ngB t t.size (wA t 0) := rfl
  go_wp2
  go_loopw [4] (fun vin wr => ∃ (q : Nat) (ins : Bool) (a' : Int), vin = .bool ins ∧ q ≤ t.size ∧ wr.heap[V.heap.size]? = some (.stringIter t q) ∧ Lr wr b s a' s.size ∧ (ins = false → a' = s.size ∧ wA t 0 = scan gapB t t.size q) ∧ (ins = true → a' = (wA s p : Int) ∧ wE t 0 = scan ngB t t.size q) ∧ V.grownBy wr (some b)) (fun _ wr => t.size - wr.iterPos V.heap.size)
  case atStart => exact ⟨0, false, s.size, rfl, Nat.zero_le _, World.iter_heap V t 0, R3.alloc _, fun _ => ⟨rfl, hA'⟩, fun h => (by cases h), grown_below _ (galloc (Below.refl _ _) _)⟩
  case round =>
    obtain ⟨q, ins, a', rfl, hq, hit, Rr, hno, hyes, G⟩ := hrel
    have hVr : V.heap.size < wr.heap.size := (Array.getElem?_eq_some_iff.1 hit).1
    have hbV : b ≠ V.heap.size := by omega
    by_cases hlt : q < t.size
    · have hnx : ∀ ty, (Instr.next (.pointer (some ⟨V.heap.size, 0, none⟩)) true ty).run Tryd.prog wr = .ok (.tuple #[.bool true, .int .i64 q, .int .i32 (rn t q)]) (wr.iterAt V.heap.size t (nx t q)) := fun ty => Lib.run_next_any_at wr V.heap.size t q ty hit hlt
      have hq2 := nx_gt t q hlt
      have hit2 := Lib.iterAt_heap wr V.heap.size t q (nx t q) hit
      have R4 := Rr.iterAt hbV t (nx t q)
      have G4 := grown_iterAt G (Nat.le_refl _) t (nx t q)
      have hmz : wr.iterPos V.heap.size = q := by simp [World.iterPos, hit]
      have hmeas : ∀ u : World, u.heap[V.heap.size]? = some (.stringIter t (nx t q)) → t.size - u.iterPos V.heap.size < t.size - wr.iterPos V.heap.size := fun u hu => by
        rw [hmz, show u.iterPos V.heap.size = nx t q from by simp [World.iterPos, hu]]; omega
      have cG := fun (u : World) => isGap_any (rn t q) u
      rw [rn_gap t q hlt] at cG
      have n1 := fun h => nx_gap t q hlt h
      have n2 := fun h => nx_not t q hlt h
      have n3 := fun h => scan_go gapB t q hlt h
      generalize rn t q = r at *
      generalize nx t q = q' at *
      generalize wr.iterAt V.heap.size t q' = wi at *
      obtain ⟨m0, m1, m2⟩ := R4.at
      have mf1 := R4.free 1
      have mf2 := R4.free 2
      have hqI : (p : Int) + (q : Int) ≤ (s.size : Int) := by omega
      cases hg : gapB (at_ t q)
      · rw [hg] at cG
        have n4 := n2 hg
        cases ins
        · obtain ⟨rfl, h5⟩ := hno rfl
          have h6 : wA t 0 = q := h5.trans (scan_stop gapB t t.size q (by rw [hg]; simp))
          have h7 : wE t 0 = scan ngB t t.size q' := by rw [hE', h6, n4]
          have h8 : ((p : Int) + (q : Int)) = (wA s p : Int) := by omega
          have HW : Hid (Lr (wi.setCell ⟨b, 1, none⟩ (.int .i64 ((p : Int) + (q : Int)))) b s (wA s p) s.size) := by
            show Lr _ _ _ _ _
            rw [h8]
            exact R4.set1 _
          have hit3 : (wi.setCell ⟨b, 1, none⟩ (.int .i64 ((p : Int) + (q : Int)))).heap[V.heap.size]? = some (.stringIter t q') := (Below.heap_setCell wi _ _ _ (by show V.heap.size ≠ b; omega)).trans hit2
          clear h8 h6 hno hyes h5 n1 n2 n3 n4
          go_wp2_with (go_at_call 80; (with_reducible refine (cG _).mono ?_); rintro e4 u4' ⟨rfl, rfl⟩)
          go_roundw
          case rel => exact ⟨q', true, _, rfl, hq2.2, hit3, HW.out, fun h => (by cases h), fun _ => ⟨rfl, h7⟩, grown_trans G4 (grown_set _ b 1 _)⟩
          case measure => exact hmeas _ hit3
        · obtain ⟨rfl, h5⟩ := hyes rfl
          rw [n4] at h5
          clear hno hyes n1 n2 n3 n4
          go_wp2_with (go_at_call 80; (with_reducible refine (cG _).mono ?_); rintro e4 u4' ⟨rfl, rfl⟩)
          go_roundw
          case rel => exact ⟨q', true, _, rfl, hq2.2, hit2, R4, fun h => (by cases h), fun _ => ⟨rfl, h5⟩, G4⟩
          case measure => exact hmeas _ hit2
      · rw [hg] at cG
        have n4 := n1 hg
        subst n4
        cases ins
        · obtain ⟨rfl, h5⟩ := hno rfl
          rw [n3 hg] at h5
          clear hno hyes n1 n2 n3
          go_wp2_with (go_at_call 80; (with_reducible refine (cG _).mono ?_); rintro e4 u4' ⟨rfl, rfl⟩)
          go_roundw
          case rel => exact ⟨q + 1, false, _, rfl, hq2.2, hit2, R4, fun _ => ⟨rfl, h5⟩, fun h => (by cases h), G4⟩
          case measure => exact hmeas _ hit2
        · obtain ⟨rfl, h5⟩ := hyes rfl
          have h6 : wE t 0 = q := h5.trans (scan_stop ngB t t.size q (by unfold ngB; rw [hg]; simp))
          have h8 : ((p : Int) + (q : Int)) = (wE s p : Int) := by omega
          have HW : Hid (Lr (wi.setCell ⟨b, 2, none⟩ (.int .i64 ((p : Int) + (q : Int)))) b s (wA s p) (wE s p)) := by
            show Lr _ _ _ _ _
            rw [h8]
            exact R4.set2 _
          clear h8 h6 hno hyes h5 n1 n2 n3
          go_wp2_with (go_at_call 80; (with_reducible refine (cG _).mono ?_); rintro e4 u4' ⟨rfl, rfl⟩)
          have Rz : Lr (wi.setCell ⟨b, 2, none⟩ (.int .i64 ((p : Int) + (q : Int)))) b s (wA s p) (wE s p) := HW.out
          have Gz : w.grownBy (wi.setCell ⟨b, 2, none⟩ (.int .i64 ((p : Int) + (q : Int)))) (some b) := grown_trans (grown_trans G3 G4) (grown_set wi b 2 _)
          obtain ⟨z0, z1, z2⟩ := Rz.at
          have p0 := fun z : Ext ((wi.setCell ⟨b, 2, none⟩ (.int .i64 ((p : Int) + (q : Int))))) => (z.cell _ _ Rz.lt).trans z0
          have p1 := fun z : Ext ((wi.setCell ⟨b, 2, none⟩ (.int .i64 ((p : Int) + (q : Int))))) => (z.cell _ _ Rz.lt).trans z1
          have p2 := fun z : Ext ((wi.setCell ⟨b, 2, none⟩ (.int .i64 ((p : Int) + (q : Int))))) => (z.cell _ _ Rz.lt).trans z2
          have hne : Nonempty (Ext ((wi.setCell ⟨b, 2, none⟩ (.int .i64 ((p : Int) + (q : Int)))))) := ⟨⟨_, Below.refl _ _⟩⟩
          generalize (wi.setCell ⟨b, 2, none⟩ (.int .i64 ((p : Int) + (q : Int)))) = Y at *
          clear z0 z1 z2
          refine wp_region_ext (by kernel_rfl) (by kernel_rfl) ?_
          repeat (go_big_quiet_step (fail))
          refine wpQuiet_nil ?_
          intro _ hw'
          obtain ⟨nxw, hw''⟩ := hw'
          subst hw''
          go_wp2
          go_ret
          exact ⟨rfl, Rz.keep nxw.h, grown_trans Gz (grown_below _ nxw.h)⟩
    · have hnx : ∀ ty, (Instr.next (.pointer (some ⟨V.heap.size, 0, none⟩)) true ty).run Tryd.prog wr = .ok (.tuple #[.bool false]) wr := fun ty => Lib.run_next_end_at wr V.heap.size t q ty hit hlt
      have HW : Hid (Lr wr b s (wA s p) (wE s p)) := by
        have e1 : q = t.size := by omega
        cases ins
        · obtain ⟨rfl, h5⟩ := hno rfl
          have h6 : wA t 0 = t.size := by rw [h5, e1]; exact scan_stop gapB t t.size t.size (by omega)
          have h7 : wE t 0 = t.size := by rw [hE', h6]; exact scan_stop ngB t t.size t.size (by omega)
          show Lr _ _ _ _ _
          rw [show (wA s p : Int) = (s.size : Int) by omega, show (wE s p : Int) = (s.size : Int) by omega]
          exact Rr
        · obtain ⟨rfl, h5⟩ := hyes rfl
          have h7 : wE t 0 = t.size := by rw [h5, e1]; exact scan_stop ngB t t.size t.size (by omega)
          show Lr _ _ _ _ _
          rw [show (wE s p : Int) = (s.size : Int) by omega]
          exact Rr
      clear hno hyes
      go_wp2
      have Rz : Lr wr b s (wA s p) (wE s p) := HW.out
      have Gz : w.grownBy wr (some b) := grown_trans G3 G
      obtain ⟨z0, z1, z2⟩ := Rz.at
      have p0 := fun z : Ext (wr) => (z.cell _ _ Rz.lt).trans z0
      have p1 := fun z : Ext (wr) => (z.cell _ _ Rz.lt).trans z1
      have p2 := fun z : Ext (wr) => (z.cell _ _ Rz.lt).trans z2
      have hne : Nonempty (Ext (wr)) := ⟨⟨_, Below.refl _ _⟩⟩
      generalize wr = Y at *
      clear z0 z1 z2
      refine wp_region_ext (by kernel_rfl) (by kernel_rfl) ?_
      repeat (go_big_quiet_step (fail))
      refine wpQuiet_nil ?_
      intro _ hw'
      obtain ⟨nxw, hw''⟩ := hw'
      subst hw''
      go_wp2
      go_ret
      exact ⟨rfl, Rz.keep nxw.h, grown_trans Gz (grown_below _ nxw.h)⟩

end Go.Proofs.YtkpnnofonocilaaDoor
