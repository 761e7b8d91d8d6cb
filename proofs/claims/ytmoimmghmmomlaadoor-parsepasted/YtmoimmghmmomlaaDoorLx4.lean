/- The method sign of lex's machine. -/
import Derived.Test.YtmoimmghmmomlaaDoorLx3
import Derived.Test.YtmoimmghmmomlaaDoorQt
namespace Go.Proofs.YtmoimmghmmomlaaDoor
open Go.RowKit Go.BigFrame
set_option linter.unusedVariables false
set_option linter.unusedSimpArgs false

theorem setBoth {w X : World} {B : Nat} (h : Below B w X) (p : Addr) (v : Value) : Below B (w.setCell p v) (X.setCell p v) := by
  obtain ⟨h1, h2, h3, h4, h5⟩ := h
  refine ⟨h1, h2, h3, by simpa using h4, fun j hj => ?_⟩
  show (X.heap.modify p.block _)[j]? = (w.heap.modify p.block _)[j]?
  rw [Array.getElem?_modify, Array.getElem?_modify, h5 j hj]
/-- Where the sign at a place ends. -/
def sgnE (s : ByteArray) (pos : Nat) : Nat := if (bt s pos = 33 ∨ bt s pos = 60 ∨ bt s pos = 62) ∧ pos + 1 < s.size ∧ bt s (pos + 1) = 61 then pos + 2 else pos + 1

theorem set4C {B : Nat} {w0 w : World} (h : Below B w0 w) (a0 a1 a2 a3 : Value) : Below B w0 ((((w.setCell ⟨B, 0, none⟩ a0).setCell ⟨B, 1, none⟩ a1).setCell ⟨B, 2, none⟩ a2).setCell ⟨B, 3, none⟩ a3) :=
  (((h.setCell (Nat.le_refl _) _).setCell (Nat.le_refl _) _).setCell (Nat.le_refl _) _).setCell (Nat.le_refl _) _
theorem SgAt.other {w : World} (K : SgAt w) {b o : Nat} {v : Value} (h : 2 ≠ b) : SgAt (w.setCell ⟨b, o, none⟩ v) :=
  ⟨by simpa using K.1, fun j hj => (World.cell?_setCell_other _ _ _ _ (by simp [h])).trans (K.2 j hj)⟩
set_option maxRecDepth 100000 in
set_option maxHeartbeats 4000000 in
theorem msign_any (b : Nat) (s : ByteArray) (pos : Nat) (tk : Value) (w : World) (M : Mach w b s pos pos tk) (hp : pos < s.size) (hs : s.size ≤ 8192) (K : SgAt w) (hKb : 2 ≠ b) :
    Calls Tryd.prog 42 #[.pointer (some ⟨b, 0, none⟩)] w fun e w' => e = .returned (.agg (tokA ⟨sgK (s.extract pos (sgnE s pos)), ⟨#[]⟩, 0, pos⟩)) ∧ Below w.heap.size (w.setCell ⟨b, 2, none⟩ (.int .i64 (sgnE s pos : Int))) w' := by
  have i0 := byteW s pos hp Tryd.prog 9 (by kernel_rfl)
  rw [show ((s.data.getD pos 0).toNat : Int) = bt s pos from rfl] at i0
  have hpi : (pos : Int) < (s.size : Int) := by omega
  obtain ⟨E, hE⟩ : ∃ E, E = sgnE s pos := ⟨_, rfl⟩
  rw [← hE]
  have HE : Hid (E = sgnE s pos) := hE
  clear hE
  have B := galloc (Below.refl w.heap.size w) (.cells (tokA noTok) 79)
  have R := TokAt.new w noTok
  have hbl := M.lt
  go_enter Tryd.func42, Tryd.ntmps42
  go_upto_region 1 with fail
  replace M := M.keep B
  replace K := K.keep B
  generalize hV : w.alloc (.cells (tokA noTok) 79) = V at B R M K
  rw [show w.alloc (.cells #[.int .i64 0, .string ⟨#[]⟩, .int .i64 0, .int .i64 0] 79) = V from hV]
  clear hV
  have p0 := fun z : Ext V => (z.cell _ _ M.lt).trans M.at.1
  have p1 := fun z : Ext V => (z.cell _ _ M.lt).trans M.at.2.1
  have p2 := fun z : Ext V => (z.cell _ _ M.lt).trans M.at.2.2.1
  have p3 := fun z : Ext V => (z.cell _ _ M.lt).trans M.at.2.2.2
  have hne : Nonempty (Ext V) := ⟨⟨_, Below.refl _ _⟩⟩
  refine wp_region_ext (by kernel_rfl) (by kernel_rfl) ?_
  repeat (go_big_quiet_step (fail))
  refine wpQuiet_nil ?_
  intro _ hw'
  obtain ⟨nxw, hw''⟩ := hw'
  subst hw''
  replace M := M.keep nxw.h
  replace K := K.keep nxw.h
  replace R := R.keep nxw.h
  have hB := gtrans B nxw.h
  generalize nxw.X = X at M K R hB ⊢
  clear hne p0 p1 p2 p3 nxw
  cases h33 : (bt s pos == 33)
  · cases h60 : (bt s pos == 60)
    · cases h62 : (bt s pos == 62)
      · have hE2 : E = pos + 1 := by
          rw [HE.out]; unfold sgnE
          simp only [beq_eq_false_iff_ne] at h33 h60 h62
          rw [if_neg (by rintro ⟨h1 | h1 | h1, _⟩ <;> contradiction)]
        clear HE
        obtain ⟨m0, m1, m2, m3⟩ := M.at
        have mf := M.free
        generalize hbt : bt s pos = n at *
        go_wp2
        have W2 := setBoth hB ⟨b, 2, none⟩ (.int .i64 ((pos + 1 : Nat) : Int))
        have M2 := M.setAt (pos + 1)
        have R2 : TokAt (X.setCell ⟨b, 2, none⟩ (.int .i64 ((pos + 1 : Nat) : Int))) w.heap.size noTok := (Below.heap_setCell _ _ _ _ (by show w.heap.size ≠ b; omega)).trans R
        have K2 : SgAt (X.setCell ⟨b, 2, none⟩ (.int .i64 ((pos + 1 : Nat) : Int))) := SgAt.other K hKb
        rw [show ((pos : Int) + 1) = ((pos + 1 : Nat) : Int) by omega]
        generalize hY : X.setCell ⟨b, 2, none⟩ (.int .i64 ((pos + 1 : Nat) : Int)) = Y at W2 M2 R2 K2 ⊢
        clear hY m0 m1 m2 m3 mf
        have p0 := fun z : Ext Y => (z.cell _ _ M2.lt).trans M2.at.1
        have p1 := fun z : Ext Y => (z.cell _ _ M2.lt).trans M2.at.2.1
        have p2 := fun z : Ext Y => (z.cell _ _ M2.lt).trans M2.at.2.2.1
        have p3 := fun z : Ext Y => (z.cell _ _ M2.lt).trans M2.at.2.2.2
        have hne : Nonempty (Ext Y) := ⟨⟨_, Below.refl _ _⟩⟩
        have y1 : ∀ z : Ext Y, Calls Tryd.prog 62 #[.string (s.extract pos (pos + 1))] z.X (fun e' w'' => e' = .returned (.int .i64 (sgK (s.extract pos (pos + 1)))) ∧ ∃ m : Ext Y, w'' = m.X) := fun z => ext_of ((signKind_any _ z.X (K2.keep z.h)).mono fun e u ⟨he, hu⟩ => ⟨he, hu ▸ Below.refl _ _⟩)
        obtain ⟨k, hk0⟩ : ∃ k, k = sgK (s.extract pos (pos + 1)) := ⟨_, rfl⟩
        rw [← hk0] at y1
        have HK : Hid (k = sgK (s.extract pos (pos + 1))) := hk0
        clear hk0
        have hsz1 : (pos : Int) + 1 ≤ (s.size : Int) := by omega
        subst hE2
        refine wp_region_ext_tail 19 (by kernel_rfl) (by kernel_rfl) ?_
        simp only [List.take_succ_cons, List.take_zero, List.drop_succ_cons, List.drop_zero]
        repeat (go_big_quiet_step (first | (go_at_call 62; with_reducible exact y1 _)))
        refine wpQuiet_nil ?_
        intro _ hw'
        obtain ⟨nx2, hw''⟩ := hw'
        subst hw''
        have R3 := R2.keep nx2.h
        obtain ⟨r0, r1, r2, r3⟩ := R3.at
        have rf := R3.free
        go_wp2
        (try simp only [Exit.inBlock, Exit.then])
        refine bodyPost_ret (results_cell_row rfl _ _ w.heap.size 79 (tokA ⟨k, ⟨#[]⟩, 0, pos⟩) (0, 0) _ rfl (R3.set4 _ _ _ _) Tryd.underlying79 rfl infoTok) rfl ⟨by rw [HK.out], set4C (W2.trans (nx2.h.mono (by have := W2.size; simpa using this))) _ _ _ _⟩
      · have hv : bt s pos = 62 := by simpa using h62
        by_cases hlt : pos + 1 < s.size
        · have i2 := byteW s (pos + 1) hlt Tryd.prog 9 (by kernel_rfl)
          rw [show ((s.data.getD (pos + 1) 0).toNat : Int) = bt s (pos + 1) from rfl, show (((pos + 1 : Nat)) : Int) = (pos : Int) + 1 by omega] at i2
          have hl3 : (pos : Int) + 1 < (s.size : Int) := by omega
          cases h61 : (bt s (pos + 1) == 61)
          · have hE2 : E = pos + 1 := by
              rw [HE.out]; unfold sgnE
              simp only [beq_eq_false_iff_ne] at h61
              rw [if_neg (by rintro ⟨_, _, h1⟩; contradiction)]
            clear HE
            generalize hbt : bt s pos = n at *
            generalize hbt2 : bt s (pos + 1) = n2 at *
            have p0 := fun z : Ext X => (z.cell _ _ M.lt).trans M.at.1
            have p1 := fun z : Ext X => (z.cell _ _ M.lt).trans M.at.2.1
            have p2 := fun z : Ext X => (z.cell _ _ M.lt).trans M.at.2.2.1
            have p3 := fun z : Ext X => (z.cell _ _ M.lt).trans M.at.2.2.2
            have hne : Nonempty (Ext X) := ⟨⟨_, Below.refl _ _⟩⟩
            go_wp2
            refine wp_region_ext (by kernel_rfl) (by kernel_rfl) ?_
            repeat (go_big_quiet_step (fail))
            refine wpQuiet_nil ?_
            intro _ hw'
            obtain ⟨nx4, hw''⟩ := hw'
            subst hw''
            replace M := M.keep nx4.h
            replace K := K.keep nx4.h
            replace R := R.keep nx4.h
            have hB := gtrans hB nx4.h
            generalize nx4.X = X at M K R hB ⊢
            clear hne p0 p1 p2 p3 nx4
            obtain ⟨m0, m1, m2, m3⟩ := M.at
            have mf := M.free
            go_wp2
            have W2 := setBoth hB ⟨b, 2, none⟩ (.int .i64 ((pos + 1 : Nat) : Int))
            have M2 := M.setAt (pos + 1)
            have R2 : TokAt (X.setCell ⟨b, 2, none⟩ (.int .i64 ((pos + 1 : Nat) : Int))) w.heap.size noTok := (Below.heap_setCell _ _ _ _ (by show w.heap.size ≠ b; omega)).trans R
            have K2 : SgAt (X.setCell ⟨b, 2, none⟩ (.int .i64 ((pos + 1 : Nat) : Int))) := SgAt.other K hKb
            rw [show ((pos : Int) + 1) = ((pos + 1 : Nat) : Int) by omega]
            generalize hY : X.setCell ⟨b, 2, none⟩ (.int .i64 ((pos + 1 : Nat) : Int)) = Y at W2 M2 R2 K2 ⊢
            clear hY m0 m1 m2 m3 mf
            have p0 := fun z : Ext Y => (z.cell _ _ M2.lt).trans M2.at.1
            have p1 := fun z : Ext Y => (z.cell _ _ M2.lt).trans M2.at.2.1
            have p2 := fun z : Ext Y => (z.cell _ _ M2.lt).trans M2.at.2.2.1
            have p3 := fun z : Ext Y => (z.cell _ _ M2.lt).trans M2.at.2.2.2
            have hne : Nonempty (Ext Y) := ⟨⟨_, Below.refl _ _⟩⟩
            have y1 : ∀ z : Ext Y, Calls Tryd.prog 62 #[.string (s.extract pos (pos + 1))] z.X (fun e' w'' => e' = .returned (.int .i64 (sgK (s.extract pos (pos + 1)))) ∧ ∃ m : Ext Y, w'' = m.X) := fun z => ext_of ((signKind_any _ z.X (K2.keep z.h)).mono fun e u ⟨he, hu⟩ => ⟨he, hu ▸ Below.refl _ _⟩)
            obtain ⟨k, hk0⟩ : ∃ k, k = sgK (s.extract pos (pos + 1)) := ⟨_, rfl⟩
            rw [← hk0] at y1
            have HK : Hid (k = sgK (s.extract pos (pos + 1))) := hk0
            clear hk0
            have hsz1 : (pos : Int) + 1 ≤ (s.size : Int) := by omega
            subst hE2
            refine wp_region_ext_tail 19 (by kernel_rfl) (by kernel_rfl) ?_
            simp only [List.take_succ_cons, List.take_zero, List.drop_succ_cons, List.drop_zero]
            repeat (go_big_quiet_step (first | (go_at_call 62; with_reducible exact y1 _)))
            refine wpQuiet_nil ?_
            intro _ hw'
            obtain ⟨nx2, hw''⟩ := hw'
            subst hw''
            have R3 := R2.keep nx2.h
            obtain ⟨r0, r1, r2, r3⟩ := R3.at
            have rf := R3.free
            go_wp2
            (try simp only [Exit.inBlock, Exit.then])
            refine bodyPost_ret (results_cell_row rfl _ _ w.heap.size 79 (tokA ⟨k, ⟨#[]⟩, 0, pos⟩) (0, 0) _ rfl (R3.set4 _ _ _ _) Tryd.underlying79 rfl infoTok) rfl ⟨by rw [HK.out], set4C (W2.trans (nx2.h.mono (by have := W2.size; simpa using this))) _ _ _ _⟩
          · have hE2 : E = pos + 2 := by
              rw [HE.out]; unfold sgnE
              simp only [beq_iff_eq] at h61
              rw [if_pos ⟨by omega, hlt, h61⟩]
            clear HE
            generalize hbt : bt s pos = n at *
            generalize hbt2 : bt s (pos + 1) = n2 at *
            have p0 := fun z : Ext X => (z.cell _ _ M.lt).trans M.at.1
            have p1 := fun z : Ext X => (z.cell _ _ M.lt).trans M.at.2.1
            have p2 := fun z : Ext X => (z.cell _ _ M.lt).trans M.at.2.2.1
            have p3 := fun z : Ext X => (z.cell _ _ M.lt).trans M.at.2.2.2
            have hne : Nonempty (Ext X) := ⟨⟨_, Below.refl _ _⟩⟩
            go_wp2
            refine wp_region_ext (by kernel_rfl) (by kernel_rfl) ?_
            repeat (go_big_quiet_step (fail))
            refine wpQuiet_nil ?_
            intro _ hw'
            obtain ⟨nx4, hw''⟩ := hw'
            subst hw''
            replace M := M.keep nx4.h
            replace K := K.keep nx4.h
            replace R := R.keep nx4.h
            have hB := gtrans hB nx4.h
            generalize nx4.X = X at M K R hB ⊢
            clear hne p0 p1 p2 p3 nx4
            obtain ⟨m0, m1, m2, m3⟩ := M.at
            have mf := M.free
            go_wp2
            have W2 := setBoth hB ⟨b, 2, none⟩ (.int .i64 ((pos + 2 : Nat) : Int))
            have M2 := M.setAt (pos + 2)
            have R2 : TokAt (X.setCell ⟨b, 2, none⟩ (.int .i64 ((pos + 2 : Nat) : Int))) w.heap.size noTok := (Below.heap_setCell _ _ _ _ (by show w.heap.size ≠ b; omega)).trans R
            have K2 : SgAt (X.setCell ⟨b, 2, none⟩ (.int .i64 ((pos + 2 : Nat) : Int))) := SgAt.other K hKb
            rw [show ((pos : Int) + 2) = ((pos + 2 : Nat) : Int) by omega]
            generalize hY : X.setCell ⟨b, 2, none⟩ (.int .i64 ((pos + 2 : Nat) : Int)) = Y at W2 M2 R2 K2 ⊢
            clear hY m0 m1 m2 m3 mf
            have p0 := fun z : Ext Y => (z.cell _ _ M2.lt).trans M2.at.1
            have p1 := fun z : Ext Y => (z.cell _ _ M2.lt).trans M2.at.2.1
            have p2 := fun z : Ext Y => (z.cell _ _ M2.lt).trans M2.at.2.2.1
            have p3 := fun z : Ext Y => (z.cell _ _ M2.lt).trans M2.at.2.2.2
            have hne : Nonempty (Ext Y) := ⟨⟨_, Below.refl _ _⟩⟩
            have y1 : ∀ z : Ext Y, Calls Tryd.prog 62 #[.string (s.extract pos (pos + 2))] z.X (fun e' w'' => e' = .returned (.int .i64 (sgK (s.extract pos (pos + 2)))) ∧ ∃ m : Ext Y, w'' = m.X) := fun z => ext_of ((signKind_any _ z.X (K2.keep z.h)).mono fun e u ⟨he, hu⟩ => ⟨he, hu ▸ Below.refl _ _⟩)
            obtain ⟨k, hk0⟩ : ∃ k, k = sgK (s.extract pos (pos + 2)) := ⟨_, rfl⟩
            rw [← hk0] at y1
            have HK : Hid (k = sgK (s.extract pos (pos + 2))) := hk0
            clear hk0
            have hsz1 : (pos : Int) + 2 ≤ (s.size : Int) := by omega
            subst hE2
            refine wp_region_ext_tail 19 (by kernel_rfl) (by kernel_rfl) ?_
            simp only [List.take_succ_cons, List.take_zero, List.drop_succ_cons, List.drop_zero]
            repeat (go_big_quiet_step (first | (go_at_call 62; with_reducible exact y1 _)))
            refine wpQuiet_nil ?_
            intro _ hw'
            obtain ⟨nx2, hw''⟩ := hw'
            subst hw''
            have R3 := R2.keep nx2.h
            obtain ⟨r0, r1, r2, r3⟩ := R3.at
            have rf := R3.free
            go_wp2
            (try simp only [Exit.inBlock, Exit.then])
            refine bodyPost_ret (results_cell_row rfl _ _ w.heap.size 79 (tokA ⟨k, ⟨#[]⟩, 0, pos⟩) (0, 0) _ rfl (R3.set4 _ _ _ _) Tryd.underlying79 rfl infoTok) rfl ⟨by rw [HK.out], set4C (W2.trans (nx2.h.mono (by have := W2.size; simpa using this))) _ _ _ _⟩
        · have hl3 : (s.size : Int) = (pos : Int) + 1 := by omega
          have hE2 : E = pos + 1 := by
            rw [HE.out]; unfold sgnE
            rw [if_neg (by rintro ⟨_, h1, _⟩; contradiction)]
          clear HE
          generalize hbt : bt s pos = n at *
          have p0 := fun z : Ext X => (z.cell _ _ M.lt).trans M.at.1
          have p1 := fun z : Ext X => (z.cell _ _ M.lt).trans M.at.2.1
          have p2 := fun z : Ext X => (z.cell _ _ M.lt).trans M.at.2.2.1
          have p3 := fun z : Ext X => (z.cell _ _ M.lt).trans M.at.2.2.2
          have hne : Nonempty (Ext X) := ⟨⟨_, Below.refl _ _⟩⟩
          go_wp2
          refine wp_region_ext (by kernel_rfl) (by kernel_rfl) ?_
          repeat (go_big_quiet_step (fail))
          refine wpQuiet_nil ?_
          intro _ hw'
          obtain ⟨nx4, hw''⟩ := hw'
          subst hw''
          replace M := M.keep nx4.h
          replace K := K.keep nx4.h
          replace R := R.keep nx4.h
          have hB := gtrans hB nx4.h
          generalize nx4.X = X at M K R hB ⊢
          clear hne p0 p1 p2 p3 nx4
          obtain ⟨m0, m1, m2, m3⟩ := M.at
          have mf := M.free
          go_wp2
          have W2 := setBoth hB ⟨b, 2, none⟩ (.int .i64 ((pos + 1 : Nat) : Int))
          have M2 := M.setAt (pos + 1)
          have R2 : TokAt (X.setCell ⟨b, 2, none⟩ (.int .i64 ((pos + 1 : Nat) : Int))) w.heap.size noTok := (Below.heap_setCell _ _ _ _ (by show w.heap.size ≠ b; omega)).trans R
          have K2 : SgAt (X.setCell ⟨b, 2, none⟩ (.int .i64 ((pos + 1 : Nat) : Int))) := SgAt.other K hKb
          rw [show ((pos : Int) + 1) = ((pos + 1 : Nat) : Int) by omega]
          generalize hY : X.setCell ⟨b, 2, none⟩ (.int .i64 ((pos + 1 : Nat) : Int)) = Y at W2 M2 R2 K2 ⊢
          clear hY m0 m1 m2 m3 mf
          have p0 := fun z : Ext Y => (z.cell _ _ M2.lt).trans M2.at.1
          have p1 := fun z : Ext Y => (z.cell _ _ M2.lt).trans M2.at.2.1
          have p2 := fun z : Ext Y => (z.cell _ _ M2.lt).trans M2.at.2.2.1
          have p3 := fun z : Ext Y => (z.cell _ _ M2.lt).trans M2.at.2.2.2
          have hne : Nonempty (Ext Y) := ⟨⟨_, Below.refl _ _⟩⟩
          have y1 : ∀ z : Ext Y, Calls Tryd.prog 62 #[.string (s.extract pos (pos + 1))] z.X (fun e' w'' => e' = .returned (.int .i64 (sgK (s.extract pos (pos + 1)))) ∧ ∃ m : Ext Y, w'' = m.X) := fun z => ext_of ((signKind_any _ z.X (K2.keep z.h)).mono fun e u ⟨he, hu⟩ => ⟨he, hu ▸ Below.refl _ _⟩)
          obtain ⟨k, hk0⟩ : ∃ k, k = sgK (s.extract pos (pos + 1)) := ⟨_, rfl⟩
          rw [← hk0] at y1
          have HK : Hid (k = sgK (s.extract pos (pos + 1))) := hk0
          clear hk0
          have hsz1 : (pos : Int) + 1 ≤ (s.size : Int) := by omega
          subst hE2
          refine wp_region_ext_tail 19 (by kernel_rfl) (by kernel_rfl) ?_
          simp only [List.take_succ_cons, List.take_zero, List.drop_succ_cons, List.drop_zero]
          repeat (go_big_quiet_step (first | (go_at_call 62; with_reducible exact y1 _)))
          refine wpQuiet_nil ?_
          intro _ hw'
          obtain ⟨nx2, hw''⟩ := hw'
          subst hw''
          have R3 := R2.keep nx2.h
          obtain ⟨r0, r1, r2, r3⟩ := R3.at
          have rf := R3.free
          go_wp2
          (try simp only [Exit.inBlock, Exit.then])
          refine bodyPost_ret (results_cell_row rfl _ _ w.heap.size 79 (tokA ⟨k, ⟨#[]⟩, 0, pos⟩) (0, 0) _ rfl (R3.set4 _ _ _ _) Tryd.underlying79 rfl infoTok) rfl ⟨by rw [HK.out], set4C (W2.trans (nx2.h.mono (by have := W2.size; simpa using this))) _ _ _ _⟩
    · have hv : bt s pos = 60 := by simpa using h60
      by_cases hlt : pos + 1 < s.size
      · have i2 := byteW s (pos + 1) hlt Tryd.prog 9 (by kernel_rfl)
        rw [show ((s.data.getD (pos + 1) 0).toNat : Int) = bt s (pos + 1) from rfl, show (((pos + 1 : Nat)) : Int) = (pos : Int) + 1 by omega] at i2
        have hl3 : (pos : Int) + 1 < (s.size : Int) := by omega
        cases h61 : (bt s (pos + 1) == 61)
        · have hE2 : E = pos + 1 := by
            rw [HE.out]; unfold sgnE
            simp only [beq_eq_false_iff_ne] at h61
            rw [if_neg (by rintro ⟨_, _, h1⟩; contradiction)]
          clear HE
          generalize hbt : bt s pos = n at *
          generalize hbt2 : bt s (pos + 1) = n2 at *
          have p0 := fun z : Ext X => (z.cell _ _ M.lt).trans M.at.1
          have p1 := fun z : Ext X => (z.cell _ _ M.lt).trans M.at.2.1
          have p2 := fun z : Ext X => (z.cell _ _ M.lt).trans M.at.2.2.1
          have p3 := fun z : Ext X => (z.cell _ _ M.lt).trans M.at.2.2.2
          have hne : Nonempty (Ext X) := ⟨⟨_, Below.refl _ _⟩⟩
          go_wp2
          refine wp_region_ext (by kernel_rfl) (by kernel_rfl) ?_
          repeat (go_big_quiet_step (fail))
          refine wpQuiet_nil ?_
          intro _ hw'
          obtain ⟨nx4, hw''⟩ := hw'
          subst hw''
          replace M := M.keep nx4.h
          replace K := K.keep nx4.h
          replace R := R.keep nx4.h
          have hB := gtrans hB nx4.h
          generalize nx4.X = X at M K R hB ⊢
          clear hne p0 p1 p2 p3 nx4
          obtain ⟨m0, m1, m2, m3⟩ := M.at
          have mf := M.free
          go_wp2
          have W2 := setBoth hB ⟨b, 2, none⟩ (.int .i64 ((pos + 1 : Nat) : Int))
          have M2 := M.setAt (pos + 1)
          have R2 : TokAt (X.setCell ⟨b, 2, none⟩ (.int .i64 ((pos + 1 : Nat) : Int))) w.heap.size noTok := (Below.heap_setCell _ _ _ _ (by show w.heap.size ≠ b; omega)).trans R
          have K2 : SgAt (X.setCell ⟨b, 2, none⟩ (.int .i64 ((pos + 1 : Nat) : Int))) := SgAt.other K hKb
          rw [show ((pos : Int) + 1) = ((pos + 1 : Nat) : Int) by omega]
          generalize hY : X.setCell ⟨b, 2, none⟩ (.int .i64 ((pos + 1 : Nat) : Int)) = Y at W2 M2 R2 K2 ⊢
          clear hY m0 m1 m2 m3 mf
          have p0 := fun z : Ext Y => (z.cell _ _ M2.lt).trans M2.at.1
          have p1 := fun z : Ext Y => (z.cell _ _ M2.lt).trans M2.at.2.1
          have p2 := fun z : Ext Y => (z.cell _ _ M2.lt).trans M2.at.2.2.1
          have p3 := fun z : Ext Y => (z.cell _ _ M2.lt).trans M2.at.2.2.2
          have hne : Nonempty (Ext Y) := ⟨⟨_, Below.refl _ _⟩⟩
          have y1 : ∀ z : Ext Y, Calls Tryd.prog 62 #[.string (s.extract pos (pos + 1))] z.X (fun e' w'' => e' = .returned (.int .i64 (sgK (s.extract pos (pos + 1)))) ∧ ∃ m : Ext Y, w'' = m.X) := fun z => ext_of ((signKind_any _ z.X (K2.keep z.h)).mono fun e u ⟨he, hu⟩ => ⟨he, hu ▸ Below.refl _ _⟩)
          obtain ⟨k, hk0⟩ : ∃ k, k = sgK (s.extract pos (pos + 1)) := ⟨_, rfl⟩
          rw [← hk0] at y1
          have HK : Hid (k = sgK (s.extract pos (pos + 1))) := hk0
          clear hk0
          have hsz1 : (pos : Int) + 1 ≤ (s.size : Int) := by omega
          subst hE2
          refine wp_region_ext_tail 19 (by kernel_rfl) (by kernel_rfl) ?_
          simp only [List.take_succ_cons, List.take_zero, List.drop_succ_cons, List.drop_zero]
          repeat (go_big_quiet_step (first | (go_at_call 62; with_reducible exact y1 _)))
          refine wpQuiet_nil ?_
          intro _ hw'
          obtain ⟨nx2, hw''⟩ := hw'
          subst hw''
          have R3 := R2.keep nx2.h
          obtain ⟨r0, r1, r2, r3⟩ := R3.at
          have rf := R3.free
          go_wp2
          (try simp only [Exit.inBlock, Exit.then])
          refine bodyPost_ret (results_cell_row rfl _ _ w.heap.size 79 (tokA ⟨k, ⟨#[]⟩, 0, pos⟩) (0, 0) _ rfl (R3.set4 _ _ _ _) Tryd.underlying79 rfl infoTok) rfl ⟨by rw [HK.out], set4C (W2.trans (nx2.h.mono (by have := W2.size; simpa using this))) _ _ _ _⟩
        · have hE2 : E = pos + 2 := by
            rw [HE.out]; unfold sgnE
            simp only [beq_iff_eq] at h61
            rw [if_pos ⟨by omega, hlt, h61⟩]
          clear HE
          generalize hbt : bt s pos = n at *
          generalize hbt2 : bt s (pos + 1) = n2 at *
          have p0 := fun z : Ext X => (z.cell _ _ M.lt).trans M.at.1
          have p1 := fun z : Ext X => (z.cell _ _ M.lt).trans M.at.2.1
          have p2 := fun z : Ext X => (z.cell _ _ M.lt).trans M.at.2.2.1
          have p3 := fun z : Ext X => (z.cell _ _ M.lt).trans M.at.2.2.2
          have hne : Nonempty (Ext X) := ⟨⟨_, Below.refl _ _⟩⟩
          go_wp2
          refine wp_region_ext (by kernel_rfl) (by kernel_rfl) ?_
          repeat (go_big_quiet_step (fail))
          refine wpQuiet_nil ?_
          intro _ hw'
          obtain ⟨nx4, hw''⟩ := hw'
          subst hw''
          replace M := M.keep nx4.h
          replace K := K.keep nx4.h
          replace R := R.keep nx4.h
          have hB := gtrans hB nx4.h
          generalize nx4.X = X at M K R hB ⊢
          clear hne p0 p1 p2 p3 nx4
          obtain ⟨m0, m1, m2, m3⟩ := M.at
          have mf := M.free
          go_wp2
          have W2 := setBoth hB ⟨b, 2, none⟩ (.int .i64 ((pos + 2 : Nat) : Int))
          have M2 := M.setAt (pos + 2)
          have R2 : TokAt (X.setCell ⟨b, 2, none⟩ (.int .i64 ((pos + 2 : Nat) : Int))) w.heap.size noTok := (Below.heap_setCell _ _ _ _ (by show w.heap.size ≠ b; omega)).trans R
          have K2 : SgAt (X.setCell ⟨b, 2, none⟩ (.int .i64 ((pos + 2 : Nat) : Int))) := SgAt.other K hKb
          rw [show ((pos : Int) + 2) = ((pos + 2 : Nat) : Int) by omega]
          generalize hY : X.setCell ⟨b, 2, none⟩ (.int .i64 ((pos + 2 : Nat) : Int)) = Y at W2 M2 R2 K2 ⊢
          clear hY m0 m1 m2 m3 mf
          have p0 := fun z : Ext Y => (z.cell _ _ M2.lt).trans M2.at.1
          have p1 := fun z : Ext Y => (z.cell _ _ M2.lt).trans M2.at.2.1
          have p2 := fun z : Ext Y => (z.cell _ _ M2.lt).trans M2.at.2.2.1
          have p3 := fun z : Ext Y => (z.cell _ _ M2.lt).trans M2.at.2.2.2
          have hne : Nonempty (Ext Y) := ⟨⟨_, Below.refl _ _⟩⟩
          have y1 : ∀ z : Ext Y, Calls Tryd.prog 62 #[.string (s.extract pos (pos + 2))] z.X (fun e' w'' => e' = .returned (.int .i64 (sgK (s.extract pos (pos + 2)))) ∧ ∃ m : Ext Y, w'' = m.X) := fun z => ext_of ((signKind_any _ z.X (K2.keep z.h)).mono fun e u ⟨he, hu⟩ => ⟨he, hu ▸ Below.refl _ _⟩)
          obtain ⟨k, hk0⟩ : ∃ k, k = sgK (s.extract pos (pos + 2)) := ⟨_, rfl⟩
          rw [← hk0] at y1
          have HK : Hid (k = sgK (s.extract pos (pos + 2))) := hk0
          clear hk0
          have hsz1 : (pos : Int) + 2 ≤ (s.size : Int) := by omega
          subst hE2
          refine wp_region_ext_tail 19 (by kernel_rfl) (by kernel_rfl) ?_
          simp only [List.take_succ_cons, List.take_zero, List.drop_succ_cons, List.drop_zero]
          repeat (go_big_quiet_step (first | (go_at_call 62; with_reducible exact y1 _)))
          refine wpQuiet_nil ?_
          intro _ hw'
          obtain ⟨nx2, hw''⟩ := hw'
          subst hw''
          have R3 := R2.keep nx2.h
          obtain ⟨r0, r1, r2, r3⟩ := R3.at
          have rf := R3.free
          go_wp2
          (try simp only [Exit.inBlock, Exit.then])
          refine bodyPost_ret (results_cell_row rfl _ _ w.heap.size 79 (tokA ⟨k, ⟨#[]⟩, 0, pos⟩) (0, 0) _ rfl (R3.set4 _ _ _ _) Tryd.underlying79 rfl infoTok) rfl ⟨by rw [HK.out], set4C (W2.trans (nx2.h.mono (by have := W2.size; simpa using this))) _ _ _ _⟩
      · have hl3 : (s.size : Int) = (pos : Int) + 1 := by omega
        have hE2 : E = pos + 1 := by
          rw [HE.out]; unfold sgnE
          rw [if_neg (by rintro ⟨_, h1, _⟩; contradiction)]
        clear HE
        generalize hbt : bt s pos = n at *
        have p0 := fun z : Ext X => (z.cell _ _ M.lt).trans M.at.1
        have p1 := fun z : Ext X => (z.cell _ _ M.lt).trans M.at.2.1
        have p2 := fun z : Ext X => (z.cell _ _ M.lt).trans M.at.2.2.1
        have p3 := fun z : Ext X => (z.cell _ _ M.lt).trans M.at.2.2.2
        have hne : Nonempty (Ext X) := ⟨⟨_, Below.refl _ _⟩⟩
        go_wp2
        refine wp_region_ext (by kernel_rfl) (by kernel_rfl) ?_
        repeat (go_big_quiet_step (fail))
        refine wpQuiet_nil ?_
        intro _ hw'
        obtain ⟨nx4, hw''⟩ := hw'
        subst hw''
        replace M := M.keep nx4.h
        replace K := K.keep nx4.h
        replace R := R.keep nx4.h
        have hB := gtrans hB nx4.h
        generalize nx4.X = X at M K R hB ⊢
        clear hne p0 p1 p2 p3 nx4
        obtain ⟨m0, m1, m2, m3⟩ := M.at
        have mf := M.free
        go_wp2
        have W2 := setBoth hB ⟨b, 2, none⟩ (.int .i64 ((pos + 1 : Nat) : Int))
        have M2 := M.setAt (pos + 1)
        have R2 : TokAt (X.setCell ⟨b, 2, none⟩ (.int .i64 ((pos + 1 : Nat) : Int))) w.heap.size noTok := (Below.heap_setCell _ _ _ _ (by show w.heap.size ≠ b; omega)).trans R
        have K2 : SgAt (X.setCell ⟨b, 2, none⟩ (.int .i64 ((pos + 1 : Nat) : Int))) := SgAt.other K hKb
        rw [show ((pos : Int) + 1) = ((pos + 1 : Nat) : Int) by omega]
        generalize hY : X.setCell ⟨b, 2, none⟩ (.int .i64 ((pos + 1 : Nat) : Int)) = Y at W2 M2 R2 K2 ⊢
        clear hY m0 m1 m2 m3 mf
        have p0 := fun z : Ext Y => (z.cell _ _ M2.lt).trans M2.at.1
        have p1 := fun z : Ext Y => (z.cell _ _ M2.lt).trans M2.at.2.1
        have p2 := fun z : Ext Y => (z.cell _ _ M2.lt).trans M2.at.2.2.1
        have p3 := fun z : Ext Y => (z.cell _ _ M2.lt).trans M2.at.2.2.2
        have hne : Nonempty (Ext Y) := ⟨⟨_, Below.refl _ _⟩⟩
        have y1 : ∀ z : Ext Y, Calls Tryd.prog 62 #[.string (s.extract pos (pos + 1))] z.X (fun e' w'' => e' = .returned (.int .i64 (sgK (s.extract pos (pos + 1)))) ∧ ∃ m : Ext Y, w'' = m.X) := fun z => ext_of ((signKind_any _ z.X (K2.keep z.h)).mono fun e u ⟨he, hu⟩ => ⟨he, hu ▸ Below.refl _ _⟩)
        obtain ⟨k, hk0⟩ : ∃ k, k = sgK (s.extract pos (pos + 1)) := ⟨_, rfl⟩
        rw [← hk0] at y1
        have HK : Hid (k = sgK (s.extract pos (pos + 1))) := hk0
        clear hk0
        have hsz1 : (pos : Int) + 1 ≤ (s.size : Int) := by omega
        subst hE2
        refine wp_region_ext_tail 19 (by kernel_rfl) (by kernel_rfl) ?_
        simp only [List.take_succ_cons, List.take_zero, List.drop_succ_cons, List.drop_zero]
        repeat (go_big_quiet_step (first | (go_at_call 62; with_reducible exact y1 _)))
        refine wpQuiet_nil ?_
        intro _ hw'
        obtain ⟨nx2, hw''⟩ := hw'
        subst hw''
        have R3 := R2.keep nx2.h
        obtain ⟨r0, r1, r2, r3⟩ := R3.at
        have rf := R3.free
        go_wp2
        (try simp only [Exit.inBlock, Exit.then])
        refine bodyPost_ret (results_cell_row rfl _ _ w.heap.size 79 (tokA ⟨k, ⟨#[]⟩, 0, pos⟩) (0, 0) _ rfl (R3.set4 _ _ _ _) Tryd.underlying79 rfl infoTok) rfl ⟨by rw [HK.out], set4C (W2.trans (nx2.h.mono (by have := W2.size; simpa using this))) _ _ _ _⟩
  · have hv : bt s pos = 33 := by simpa using h33
    by_cases hlt : pos + 1 < s.size
    · have i2 := byteW s (pos + 1) hlt Tryd.prog 9 (by kernel_rfl)
      rw [show ((s.data.getD (pos + 1) 0).toNat : Int) = bt s (pos + 1) from rfl, show (((pos + 1 : Nat)) : Int) = (pos : Int) + 1 by omega] at i2
      have hl3 : (pos : Int) + 1 < (s.size : Int) := by omega
      cases h61 : (bt s (pos + 1) == 61)
      · have hE2 : E = pos + 1 := by
          rw [HE.out]; unfold sgnE
          simp only [beq_eq_false_iff_ne] at h61
          rw [if_neg (by rintro ⟨_, _, h1⟩; contradiction)]
        clear HE
        generalize hbt : bt s pos = n at *
        generalize hbt2 : bt s (pos + 1) = n2 at *
        have p0 := fun z : Ext X => (z.cell _ _ M.lt).trans M.at.1
        have p1 := fun z : Ext X => (z.cell _ _ M.lt).trans M.at.2.1
        have p2 := fun z : Ext X => (z.cell _ _ M.lt).trans M.at.2.2.1
        have p3 := fun z : Ext X => (z.cell _ _ M.lt).trans M.at.2.2.2
        have hne : Nonempty (Ext X) := ⟨⟨_, Below.refl _ _⟩⟩
        go_wp2
        refine wp_region_ext (by kernel_rfl) (by kernel_rfl) ?_
        repeat (go_big_quiet_step (fail))
        refine wpQuiet_nil ?_
        intro _ hw'
        obtain ⟨nx4, hw''⟩ := hw'
        subst hw''
        replace M := M.keep nx4.h
        replace K := K.keep nx4.h
        replace R := R.keep nx4.h
        have hB := gtrans hB nx4.h
        generalize nx4.X = X at M K R hB ⊢
        clear hne p0 p1 p2 p3 nx4
        obtain ⟨m0, m1, m2, m3⟩ := M.at
        have mf := M.free
        go_wp2
        have W2 := setBoth hB ⟨b, 2, none⟩ (.int .i64 ((pos + 1 : Nat) : Int))
        have M2 := M.setAt (pos + 1)
        have R2 : TokAt (X.setCell ⟨b, 2, none⟩ (.int .i64 ((pos + 1 : Nat) : Int))) w.heap.size noTok := (Below.heap_setCell _ _ _ _ (by show w.heap.size ≠ b; omega)).trans R
        have K2 : SgAt (X.setCell ⟨b, 2, none⟩ (.int .i64 ((pos + 1 : Nat) : Int))) := SgAt.other K hKb
        rw [show ((pos : Int) + 1) = ((pos + 1 : Nat) : Int) by omega]
        generalize hY : X.setCell ⟨b, 2, none⟩ (.int .i64 ((pos + 1 : Nat) : Int)) = Y at W2 M2 R2 K2 ⊢
        clear hY m0 m1 m2 m3 mf
        have p0 := fun z : Ext Y => (z.cell _ _ M2.lt).trans M2.at.1
        have p1 := fun z : Ext Y => (z.cell _ _ M2.lt).trans M2.at.2.1
        have p2 := fun z : Ext Y => (z.cell _ _ M2.lt).trans M2.at.2.2.1
        have p3 := fun z : Ext Y => (z.cell _ _ M2.lt).trans M2.at.2.2.2
        have hne : Nonempty (Ext Y) := ⟨⟨_, Below.refl _ _⟩⟩
        have y1 : ∀ z : Ext Y, Calls Tryd.prog 62 #[.string (s.extract pos (pos + 1))] z.X (fun e' w'' => e' = .returned (.int .i64 (sgK (s.extract pos (pos + 1)))) ∧ ∃ m : Ext Y, w'' = m.X) := fun z => ext_of ((signKind_any _ z.X (K2.keep z.h)).mono fun e u ⟨he, hu⟩ => ⟨he, hu ▸ Below.refl _ _⟩)
        obtain ⟨k, hk0⟩ : ∃ k, k = sgK (s.extract pos (pos + 1)) := ⟨_, rfl⟩
        rw [← hk0] at y1
        have HK : Hid (k = sgK (s.extract pos (pos + 1))) := hk0
        clear hk0
        have hsz1 : (pos : Int) + 1 ≤ (s.size : Int) := by omega
        subst hE2
        refine wp_region_ext_tail 19 (by kernel_rfl) (by kernel_rfl) ?_
        simp only [List.take_succ_cons, List.take_zero, List.drop_succ_cons, List.drop_zero]
        repeat (go_big_quiet_step (first | (go_at_call 62; with_reducible exact y1 _)))
        refine wpQuiet_nil ?_
        intro _ hw'
        obtain ⟨nx2, hw''⟩ := hw'
        subst hw''
        have R3 := R2.keep nx2.h
        obtain ⟨r0, r1, r2, r3⟩ := R3.at
        have rf := R3.free
        go_wp2
        (try simp only [Exit.inBlock, Exit.then])
        refine bodyPost_ret (results_cell_row rfl _ _ w.heap.size 79 (tokA ⟨k, ⟨#[]⟩, 0, pos⟩) (0, 0) _ rfl (R3.set4 _ _ _ _) Tryd.underlying79 rfl infoTok) rfl ⟨by rw [HK.out], set4C (W2.trans (nx2.h.mono (by have := W2.size; simpa using this))) _ _ _ _⟩
      · have hE2 : E = pos + 2 := by
          rw [HE.out]; unfold sgnE
          simp only [beq_iff_eq] at h61
          rw [if_pos ⟨by omega, hlt, h61⟩]
        clear HE
        generalize hbt : bt s pos = n at *
        generalize hbt2 : bt s (pos + 1) = n2 at *
        have p0 := fun z : Ext X => (z.cell _ _ M.lt).trans M.at.1
        have p1 := fun z : Ext X => (z.cell _ _ M.lt).trans M.at.2.1
        have p2 := fun z : Ext X => (z.cell _ _ M.lt).trans M.at.2.2.1
        have p3 := fun z : Ext X => (z.cell _ _ M.lt).trans M.at.2.2.2
        have hne : Nonempty (Ext X) := ⟨⟨_, Below.refl _ _⟩⟩
        go_wp2
        refine wp_region_ext (by kernel_rfl) (by kernel_rfl) ?_
        repeat (go_big_quiet_step (fail))
        refine wpQuiet_nil ?_
        intro _ hw'
        obtain ⟨nx4, hw''⟩ := hw'
        subst hw''
        replace M := M.keep nx4.h
        replace K := K.keep nx4.h
        replace R := R.keep nx4.h
        have hB := gtrans hB nx4.h
        generalize nx4.X = X at M K R hB ⊢
        clear hne p0 p1 p2 p3 nx4
        obtain ⟨m0, m1, m2, m3⟩ := M.at
        have mf := M.free
        go_wp2
        have W2 := setBoth hB ⟨b, 2, none⟩ (.int .i64 ((pos + 2 : Nat) : Int))
        have M2 := M.setAt (pos + 2)
        have R2 : TokAt (X.setCell ⟨b, 2, none⟩ (.int .i64 ((pos + 2 : Nat) : Int))) w.heap.size noTok := (Below.heap_setCell _ _ _ _ (by show w.heap.size ≠ b; omega)).trans R
        have K2 : SgAt (X.setCell ⟨b, 2, none⟩ (.int .i64 ((pos + 2 : Nat) : Int))) := SgAt.other K hKb
        rw [show ((pos : Int) + 2) = ((pos + 2 : Nat) : Int) by omega]
        generalize hY : X.setCell ⟨b, 2, none⟩ (.int .i64 ((pos + 2 : Nat) : Int)) = Y at W2 M2 R2 K2 ⊢
        clear hY m0 m1 m2 m3 mf
        have p0 := fun z : Ext Y => (z.cell _ _ M2.lt).trans M2.at.1
        have p1 := fun z : Ext Y => (z.cell _ _ M2.lt).trans M2.at.2.1
        have p2 := fun z : Ext Y => (z.cell _ _ M2.lt).trans M2.at.2.2.1
        have p3 := fun z : Ext Y => (z.cell _ _ M2.lt).trans M2.at.2.2.2
        have hne : Nonempty (Ext Y) := ⟨⟨_, Below.refl _ _⟩⟩
        have y1 : ∀ z : Ext Y, Calls Tryd.prog 62 #[.string (s.extract pos (pos + 2))] z.X (fun e' w'' => e' = .returned (.int .i64 (sgK (s.extract pos (pos + 2)))) ∧ ∃ m : Ext Y, w'' = m.X) := fun z => ext_of ((signKind_any _ z.X (K2.keep z.h)).mono fun e u ⟨he, hu⟩ => ⟨he, hu ▸ Below.refl _ _⟩)
        obtain ⟨k, hk0⟩ : ∃ k, k = sgK (s.extract pos (pos + 2)) := ⟨_, rfl⟩
        rw [← hk0] at y1
        have HK : Hid (k = sgK (s.extract pos (pos + 2))) := hk0
        clear hk0
        have hsz1 : (pos : Int) + 2 ≤ (s.size : Int) := by omega
        subst hE2
        refine wp_region_ext_tail 19 (by kernel_rfl) (by kernel_rfl) ?_
        simp only [List.take_succ_cons, List.take_zero, List.drop_succ_cons, List.drop_zero]
        repeat (go_big_quiet_step (first | (go_at_call 62; with_reducible exact y1 _)))
        refine wpQuiet_nil ?_
        intro _ hw'
        obtain ⟨nx2, hw''⟩ := hw'
        subst hw''
        have R3 := R2.keep nx2.h
        obtain ⟨r0, r1, r2, r3⟩ := R3.at
        have rf := R3.free
        go_wp2
        (try simp only [Exit.inBlock, Exit.then])
        refine bodyPost_ret (results_cell_row rfl _ _ w.heap.size 79 (tokA ⟨k, ⟨#[]⟩, 0, pos⟩) (0, 0) _ rfl (R3.set4 _ _ _ _) Tryd.underlying79 rfl infoTok) rfl ⟨by rw [HK.out], set4C (W2.trans (nx2.h.mono (by have := W2.size; simpa using this))) _ _ _ _⟩
    · have hl3 : (s.size : Int) = (pos : Int) + 1 := by omega
      have hE2 : E = pos + 1 := by
        rw [HE.out]; unfold sgnE
        rw [if_neg (by rintro ⟨_, h1, _⟩; contradiction)]
      clear HE
      generalize hbt : bt s pos = n at *
      have p0 := fun z : Ext X => (z.cell _ _ M.lt).trans M.at.1
      have p1 := fun z : Ext X => (z.cell _ _ M.lt).trans M.at.2.1
      have p2 := fun z : Ext X => (z.cell _ _ M.lt).trans M.at.2.2.1
      have p3 := fun z : Ext X => (z.cell _ _ M.lt).trans M.at.2.2.2
      have hne : Nonempty (Ext X) := ⟨⟨_, Below.refl _ _⟩⟩
      go_wp2
      refine wp_region_ext (by kernel_rfl) (by kernel_rfl) ?_
      repeat (go_big_quiet_step (fail))
      refine wpQuiet_nil ?_
      intro _ hw'
      obtain ⟨nx4, hw''⟩ := hw'
      subst hw''
      replace M := M.keep nx4.h
      replace K := K.keep nx4.h
      replace R := R.keep nx4.h
      have hB := gtrans hB nx4.h
      generalize nx4.X = X at M K R hB ⊢
      clear hne p0 p1 p2 p3 nx4
      obtain ⟨m0, m1, m2, m3⟩ := M.at
      have mf := M.free
      go_wp2
      have W2 := setBoth hB ⟨b, 2, none⟩ (.int .i64 ((pos + 1 : Nat) : Int))
      have M2 := M.setAt (pos + 1)
      have R2 : TokAt (X.setCell ⟨b, 2, none⟩ (.int .i64 ((pos + 1 : Nat) : Int))) w.heap.size noTok := (Below.heap_setCell _ _ _ _ (by show w.heap.size ≠ b; omega)).trans R
      have K2 : SgAt (X.setCell ⟨b, 2, none⟩ (.int .i64 ((pos + 1 : Nat) : Int))) := SgAt.other K hKb
      rw [show ((pos : Int) + 1) = ((pos + 1 : Nat) : Int) by omega]
      generalize hY : X.setCell ⟨b, 2, none⟩ (.int .i64 ((pos + 1 : Nat) : Int)) = Y at W2 M2 R2 K2 ⊢
      clear hY m0 m1 m2 m3 mf
      have p0 := fun z : Ext Y => (z.cell _ _ M2.lt).trans M2.at.1
      have p1 := fun z : Ext Y => (z.cell _ _ M2.lt).trans M2.at.2.1
      have p2 := fun z : Ext Y => (z.cell _ _ M2.lt).trans M2.at.2.2.1
      have p3 := fun z : Ext Y => (z.cell _ _ M2.lt).trans M2.at.2.2.2
      have hne : Nonempty (Ext Y) := ⟨⟨_, Below.refl _ _⟩⟩
      have y1 : ∀ z : Ext Y, Calls Tryd.prog 62 #[.string (s.extract pos (pos + 1))] z.X (fun e' w'' => e' = .returned (.int .i64 (sgK (s.extract pos (pos + 1)))) ∧ ∃ m : Ext Y, w'' = m.X) := fun z => ext_of ((signKind_any _ z.X (K2.keep z.h)).mono fun e u ⟨he, hu⟩ => ⟨he, hu ▸ Below.refl _ _⟩)
      obtain ⟨k, hk0⟩ : ∃ k, k = sgK (s.extract pos (pos + 1)) := ⟨_, rfl⟩
      rw [← hk0] at y1
      have HK : Hid (k = sgK (s.extract pos (pos + 1))) := hk0
      clear hk0
      have hsz1 : (pos : Int) + 1 ≤ (s.size : Int) := by omega
      subst hE2
      refine wp_region_ext_tail 19 (by kernel_rfl) (by kernel_rfl) ?_
      simp only [List.take_succ_cons, List.take_zero, List.drop_succ_cons, List.drop_zero]
      repeat (go_big_quiet_step (first | (go_at_call 62; with_reducible exact y1 _)))
      refine wpQuiet_nil ?_
      intro _ hw'
      obtain ⟨nx2, hw''⟩ := hw'
      subst hw''
      have R3 := R2.keep nx2.h
      obtain ⟨r0, r1, r2, r3⟩ := R3.at
      have rf := R3.free
      go_wp2
      (try simp only [Exit.inBlock, Exit.then])
      refine bodyPost_ret (results_cell_row rfl _ _ w.heap.size 79 (tokA ⟨k, ⟨#[]⟩, 0, pos⟩) (0, 0) _ rfl (R3.set4 _ _ _ _) Tryd.underlying79 rfl infoTok) rfl ⟨by rw [HK.out], set4C (W2.trans (nx2.h.mono (by have := W2.size; simpa using this))) _ _ _ _⟩


end Go.Proofs.YtmoimmghmmomlaaDoor
