/- The methods of lex's machine: atEnd, entered. -/
import Derived.Test.YtmoimmghmmomlaaDoorLx1
namespace Go.Proofs.YtmoimmghmmomlaaDoor
open Go.RowKit Go.BigFrame
set_option linter.unusedVariables false
set_option linter.unusedSimpArgs false

/-- The machine in memory: its text, where it began, where it is, its tokens. -/
def Mach (w : World) (b : Nat) (s : ByteArray) (bg pos : Nat) (tk : Value) : Prop := w.heap[b]? = some (.cells #[.string s, .int .i64 (bg : Int), .int .i64 (pos : Int), tk] 64 (0, 0))
theorem Mach.lt {w : World} {b : Nat} {s : ByteArray} {bg pos : Nat} {tk : Value} (h : Mach w b s bg pos tk) : b < w.heap.size := lt_of_block h
theorem Mach.keep {w u : World} {b : Nat} {s : ByteArray} {bg pos : Nat} {tk : Value} (h : Mach w b s bg pos tk) (G : Below w.heap.size w u) : Mach u b s bg pos tk := (G.block b h.lt).trans h
theorem Mach.alloc {w : World} {b : Nat} {s : ByteArray} {bg pos : Nat} {tk : Value} (h : Mach w b s bg pos tk) (o : Obj) : Mach (w.alloc o) b s bg pos tk := (Below.heap_alloc w o b h.lt).trans h
theorem Mach.at {w : World} {b : Nat} {s : ByteArray} {bg pos : Nat} {tk : Value} (h : Mach w b s bg pos tk) :
    w.cell? ⟨b, 0, none⟩ = some (.string s) ∧ w.cell? ⟨b, 1, none⟩ = some (.int .i64 bg) ∧ w.cell? ⟨b, 2, none⟩ = some (.int .i64 pos) ∧ w.cell? ⟨b, 3, none⟩ = some tk := by
  unfold Mach at h
  refine ⟨?_, ?_, ?_, ?_⟩ <;> simp [World.cell?, h]
theorem Mach.free {w : World} {b : Nat} {s : ByteArray} {bg pos : Nat} {tk : Value} (h : Mach w b s bg pos tk) (o : Nat) : w.frozen? ⟨b, o, none⟩ = false := by
  unfold Mach at h
  simp [World.frozen?, h]
theorem Mach.setAt {w : World} {b : Nat} {s : ByteArray} {bg pos : Nat} {tk : Value} (h : Mach w b s bg pos tk) (p : Nat) : Mach (w.setCell ⟨b, 2, none⟩ (.int .i64 (p : Int))) b s bg p tk := by
  have hlt := h.lt
  unfold Mach at h
  have h' : w.heap[b] = .cells #[.string s, .int .i64 (bg : Int), .int .i64 (pos : Int), tk] 64 (0, 0) := by simpa [Array.getElem?_eq_getElem hlt] using h
  show (w.heap.modify b _)[b]? = _
  rw [Array.getElem?_eq_getElem (by simpa using hlt), Array.getElem_modify_self, h']
  rfl
theorem Mach.setBegin {w : World} {b : Nat} {s : ByteArray} {bg pos : Nat} {tk : Value} (h : Mach w b s bg pos tk) (p : Nat) : Mach (w.setCell ⟨b, 1, none⟩ (.int .i64 (p : Int))) b s p pos tk := by
  have hlt := h.lt
  unfold Mach at h
  have h' : w.heap[b] = .cells #[.string s, .int .i64 (bg : Int), .int .i64 (pos : Int), tk] 64 (0, 0) := by simpa [Array.getElem?_eq_getElem hlt] using h
  show (w.heap.modify b _)[b]? = _
  rw [Array.getElem?_eq_getElem (by simpa using hlt), Array.getElem_modify_self, h']
  rfl
theorem Mach.setToks {w : World} {b : Nat} {s : ByteArray} {bg pos : Nat} {tk : Value} (h : Mach w b s bg pos tk) (v : Value) : Mach (w.setCell ⟨b, 3, none⟩ v) b s bg pos v := by
  have hlt := h.lt
  unfold Mach at h
  have h' : w.heap[b] = .cells #[.string s, .int .i64 (bg : Int), .int .i64 (pos : Int), tk] 64 (0, 0) := by simpa [Array.getElem?_eq_getElem hlt] using h
  show (w.heap.modify b _)[b]? = _
  rw [Array.getElem?_eq_getElem (by simpa using hlt), Array.getElem_modify_self, h']
  rfl

def bt (s : ByteArray) (i : Nat) : Int := ((s.data.getD i 0).toNat : Int)

set_option maxHeartbeats 1000000 in
theorem atEnd_any (b : Nat) (s : ByteArray) (bg pos : Nat) (tk : Value) (w : World) (M : Mach w b s bg pos tk) :
    Calls Tryd.prog 36 #[.pointer (some ⟨b, 0, none⟩)] w fun e w' => e = .returned (.bool ((pos : Int) == (s.size : Int))) ∧ Below w.heap.size w w' := by
  have p0 := fun z : Ext w => (z.cell _ _ M.lt).trans M.at.1
  have p1 := fun z : Ext w => (z.cell _ _ M.lt).trans M.at.2.1
  have p2 := fun z : Ext w => (z.cell _ _ M.lt).trans M.at.2.2.1
  have p3 := fun z : Ext w => (z.cell _ _ M.lt).trans M.at.2.2.2
  have hne : Nonempty (Ext w) := ⟨⟨_, Below.refl _ _⟩⟩
  go_enter Tryd.func36, Tryd.ntmps36
  go_upto_region 1 with fail
  refine wp_region_ext (by kernel_rfl) (by kernel_rfl) ?_
  repeat (go_big_quiet_step (fail))
  refine wpQuiet_nil ?_
  intro _ hw'
  obtain ⟨nxw, hw''⟩ := hw'
  subst hw''
  go_wp2
  go_ret
  exact ⟨by first | rfl | simp, nxw.h⟩

/-- The state into which a byte leads. -/
def entI (n : Int) (k : Int) : Int := if blB n then 0 else if n = 35 then 4 else if ltB n then 1 else if dgB n then 2 else if k ≠ 0 then 3 else 5

set_option maxRecDepth 100000 in
set_option maxHeartbeats 4000000 in
theorem entered_any (b : Nat) (s : ByteArray) (bg pos : Nat) (tk : Value) (w : World) (M : Mach w b s bg pos tk) (hp : pos < s.size) (hs : s.size ≤ 8192) (K : SgAt w) :
    Calls Tryd.prog 37 #[.pointer (some ⟨b, 0, none⟩)] w fun e w' => e = .returned (.int .i64 (entI (bt s pos) (sgK (s.extract pos (pos + 1))))) ∧ Below w.heap.size w w' := by
  have i1 := byteW s pos hp Tryd.prog 9 (by kernel_rfl)
  rw [show ((s.data.getD pos 0).toNat : Int) = bt s pos from rfl] at i1
  generalize hn : bt s pos = n at i1
  have cB := isBlank_any n
  have cL := beginsWord_any n
  have cD := isDigit_any n
  have p0 := fun z : Ext w => (z.cell _ _ M.lt).trans M.at.1
  have p1 := fun z : Ext w => (z.cell _ _ M.lt).trans M.at.2.1
  have p2 := fun z : Ext w => (z.cell _ _ M.lt).trans M.at.2.2.1
  have p3 := fun z : Ext w => (z.cell _ _ M.lt).trans M.at.2.2.2
  have hne : Nonempty (Ext w) := ⟨⟨_, Below.refl _ _⟩⟩
  go_enter Tryd.func37, Tryd.ntmps37
  go_upto_region 1 with fail
  refine wp_region_ext (by kernel_rfl) (by kernel_rfl) ?_
  repeat (go_big_quiet_step (fail))
  refine wpQuiet_nil ?_
  intro _ hw'
  obtain ⟨nxw, hw''⟩ := hw'
  subst hw''
  clear hne p0 p1 p2 p3
  replace M := M.keep nxw.h
  replace K := K.keep nxw.h
  obtain ⟨X, hX⟩ : ∃ X, X = nxw.X := ⟨_, rfl⟩
  have hB := nxw.h
  rw [← hX] at M K hB ⊢
  clear hX
  have p0 := fun z : Ext X => (z.cell _ _ M.lt).trans M.at.1
  have p1 := fun z : Ext X => (z.cell _ _ M.lt).trans M.at.2.1
  have p2 := fun z : Ext X => (z.cell _ _ M.lt).trans M.at.2.2.1
  have p3 := fun z : Ext X => (z.cell _ _ M.lt).trans M.at.2.2.2
  have hne : Nonempty (Ext X) := ⟨⟨_, Below.refl _ _⟩⟩
  have hsz1 : (pos : Int) + 1 ≤ (s.size : Int) := by omega
  have y1 : ∀ z : Ext X, Calls Tryd.prog 62 #[.string (s.extract pos (pos + 1))] z.X (fun e' w'' => e' = .returned (.int .i64 (sgK (s.extract pos (pos + 1)))) ∧ ∃ m : Ext X, w'' = m.X) := fun z => ext_of ((signKind_any _ z.X (K.keep z.h)).mono fun e u ⟨he, hu⟩ => ⟨he, hu ▸ Below.refl _ _⟩)
  obtain ⟨k, hk0⟩ : ∃ k, k = sgK (s.extract pos (pos + 1)) := ⟨_, rfl⟩
  rw [← hk0] at y1
  have HK : Hid (k = sgK (s.extract pos (pos + 1))) := hk0
  clear hk0
  cases hb : blB n
  · cases hh : (n == 35)
    · cases hl : ltB n
      · cases hd : dgB n
        · rw [hb] at cB
          rw [hl] at cL
          rw [hd] at cD
          go_wp2_with (first
            | (go_at_call 60; with_reducible refine (cB _).mono ?_; rintro e u ⟨rfl, rfl⟩)
            | (go_at_call 61; with_reducible refine (cL _).mono ?_; rintro e u ⟨rfl, rfl⟩)
            | (go_at_call 40; with_reducible refine (cD _).mono ?_; rintro e u ⟨rfl, rfl⟩))
          cases hk : (k == 0)
          · refine wp_region_ext (by kernel_rfl) (by kernel_rfl) ?_
            repeat (go_big_quiet_step (first | (go_at_call 62; with_reducible exact y1 _)))
            refine wpQuiet_nil ?_
            intro _ hw'
            obtain ⟨nx2, hw''⟩ := hw'
            subst hw''
            go_wp2
            go_ret
            exact ⟨by rw [← HK.out]; unfold entI; rw [hb, hl, hd]; simp only [beq_eq_false_iff_ne] at hh hk; simp [hh, hk], gtrans hB nx2.h⟩
          · refine wp_region_ext (by kernel_rfl) (by kernel_rfl) ?_
            repeat (go_big_quiet_step (first | (go_at_call 62; with_reducible exact y1 _)))
            refine wpQuiet_nil ?_
            intro _ hw'
            obtain ⟨nx2, hw''⟩ := hw'
            subst hw''
            go_wp2
            go_ret
            exact ⟨by rw [← HK.out]; unfold entI; rw [hb, hl, hd]; simp only [beq_eq_false_iff_ne, beq_iff_eq] at hh hk; simp [hh, hk], gtrans hB nx2.h⟩
        · rw [hb] at cB
          rw [hl] at cL
          rw [hd] at cD
          go_wp2_with (first
            | (go_at_call 60; with_reducible refine (cB _).mono ?_; rintro e u ⟨rfl, rfl⟩)
            | (go_at_call 61; with_reducible refine (cL _).mono ?_; rintro e u ⟨rfl, rfl⟩)
            | (go_at_call 40; with_reducible refine (cD _).mono ?_; rintro e u ⟨rfl, rfl⟩))
          go_ret
          exact ⟨by unfold entI; rw [hb, hl, hd]; simp only [beq_eq_false_iff_ne] at hh; simp [hh], hB⟩
      · rw [hb] at cB
        rw [hl] at cL
        go_wp2_with (first
          | (go_at_call 60; with_reducible refine (cB _).mono ?_; rintro e u ⟨rfl, rfl⟩)
          | (go_at_call 61; with_reducible refine (cL _).mono ?_; rintro e u ⟨rfl, rfl⟩)
          | (go_at_call 40; with_reducible refine (cD _).mono ?_; rintro e u ⟨rfl, rfl⟩))
        go_ret
        exact ⟨by unfold entI; rw [hb, hl]; simp only [beq_eq_false_iff_ne] at hh; simp [hh], hB⟩
    · rw [hb] at cB
      go_wp2_with (first
        | (go_at_call 60; with_reducible refine (cB _).mono ?_; rintro e u ⟨rfl, rfl⟩)
        | (go_at_call 61; with_reducible refine (cL _).mono ?_; rintro e u ⟨rfl, rfl⟩)
        | (go_at_call 40; with_reducible refine (cD _).mono ?_; rintro e u ⟨rfl, rfl⟩))
      go_ret
      exact ⟨by unfold entI; rw [hb]; simp only [beq_iff_eq] at hh; simp [hh], hB⟩
  · rw [hb] at cB
    go_wp2_with (first
      | (go_at_call 60; with_reducible refine (cB _).mono ?_; rintro e u ⟨rfl, rfl⟩)
      | (go_at_call 61; with_reducible refine (cL _).mono ?_; rintro e u ⟨rfl, rfl⟩)
      | (go_at_call 40; with_reducible refine (cD _).mono ?_; rintro e u ⟨rfl, rfl⟩))
    go_ret
    exact ⟨by unfold entI; rw [hb]; rfl, hB⟩

end Go.Proofs.YtmoimmghmmomlaaDoor
