/- The schema's reader, in plain data, and what its methods attr and attrs come to. -/
import Derived.Test.YtkpnnofonocilaaDoorPc
namespace Go.Proofs.YtkpnnofonocilaaDoor
open Go.RowKit Go.BigFrame
set_option linter.unusedVariables false
set_option linter.unusedSimpArgs false

def hd (l : List Pc) : Pc := l.headD noPc
def atE (ss : List ByteArray) (x : ByteArray) : Int := if (!(nameB x) || (x.toList == [116, 115])) = true then 22 else if hasN ss x = true then 25 else 0
/-- The error of an attribute. -/
def rdT (ss : List ByteArray) (p : Pc) : Int := if p.may = false then 21 else if ss.length = 8 then 24 else atE ss p.w
/-- Attributes and the marks behind them: what is left, the attributes, the error. -/
def rdL : Nat → List ByteArray → List Pc → List Pc × List ByteArray × Int
  | 0, ss, l => (l, [], 21)
  | n + 1, ss, l =>
    if rdT ss (hd l) ≠ 0 then (l, [], rdT ss (hd l))
    else if (hd l.tail).isM 41 = true then (l.tail.tail, ss ++ [(hd l).w], 0)
    else if (hd l.tail).isM 44 = true then rdL n (ss ++ [(hd l).w]) l.tail.tail
    else (l.tail, [], 21)
def rdA (l : List Pc) : List Pc × List ByteArray × Int :=
  if (hd l).isM 40 = false then (l, [], 21) else if (hd l.tail).isM 41 = true then (l.tail.tail, [], 0) else rdL 9 [] l.tail
/-- There is an end. -/
def En (l : List Pc) : Prop := ∃ p ∈ l, p.k = 2
theorem En.ne {l : List Pc} (h : En l) : l ≠ [] := by
  obtain ⟨p, hp, _⟩ := h
  intro e
  subst e
  cases hp
theorem En.tail {l : List Pc} (h : En l) (hk : (hd l).k ≠ 2) : En l.tail := by
  cases l with
  | nil => exact absurd rfl h.ne
  | cons p r =>
    obtain ⟨q, hq, hk2⟩ := h
    rcases List.mem_cons.1 hq with e | e
    · subst e; exact absurd hk2 hk
    · exact ⟨q, e, hk2⟩
theorem may_k {p : Pc} (h : p.may = true) : p.k = 0 := by
  unfold Pc.may at h
  have := (Bool.and_eq_true_iff.1 h).1
  simpa using this
theorem isM_k {p : Pc} {c : Int} (h : p.isM c = true) : p.k = 1 := by
  unfold Pc.isM at h
  have := (Bool.and_eq_true_iff.1 h).1
  simpa using this
theorem isW_k {p : Pc} {x : ByteArray} (h : p.isW x = true) : p.k = 0 := by
  unfold Pc.isW at h
  have := (Bool.and_eq_true_iff.1 h).1
  simpa using this
theorem rdT_may {ss : List ByteArray} {p : Pc} (h : rdT ss p = 0) : p.may = true := by
  unfold rdT at h
  cases hm : p.may
  · rw [hm, if_pos rfl] at h; cases h
  · rfl

theorem here_is (b g o : Nat) (l : List Pc) (hl : l ≠ []) (cap : Nat) (v : Value) (w : World) (R : RdAt w b g o l cap v) :
    Calls Tryd.prog 25 #[.pointer (some ⟨b, 0, none⟩)] w fun e w' => e = .returned (.agg (pcA (hd l))) ∧ Below w.heap.size w w' := by
  cases l with
  | nil => exact absurd rfl hl
  | cons p r => exact here_any b g o p r cap v w R
theorem step_is (b g o : Nat) (l : List Pc) (hl : l.tail ≠ []) (cap : Nat) (v : Value) (w : World) (R : RdAt w b g o l cap v) :
    Calls Tryd.prog 67 #[.pointer (some ⟨b, 0, none⟩)] w fun e w' => (∃ x, e = .returned x) ∧ RdAt w' b g (o + 4) l.tail (cap - 1) v ∧ w.grownBy w' (some b) := by
  cases l with
  | nil => exact absurd rfl hl
  | cons p r => exact step_any b g o p r hl cap v w R
theorem RdAt.hdw {w : World} {b g o : Nat} {l : List Pc} {cap : Nat} {v : Value} (R : RdAt w b g o l cap v) : (hd l).k = 0 → 0 < (hd l).w.size := by
  cases l with
  | nil => intro h; cases h
  | cons p r => exact (R.pcs 0 (by simp)).2
theorem grown_trans {w u v : World} {r : Option Nat} (h : w.grownBy u r) (k : u.grownBy v r) : w.grownBy v r :=
  ⟨k.os.trans h.os, k.tape.trans h.tape, k.output.trans h.output, Nat.le_trans h.size k.size, fun i hi hne => (k.block i (Nat.lt_of_lt_of_le hi h.size) hne).trans (h.block i hi hne)⟩
theorem grown_below {w u : World} (r : Option Nat) (h : Below w.heap.size w u) : w.grownBy u r := ⟨h.os, h.tape, h.output, h.size, fun k hk _ => h.block k hk⟩

theorem pc_f0 (k : Int) (x : ByteArray) (m a : Int) (w : World) : (Instr.field 63 (.agg #[.int .i64 k, .string x, .int .i32 m, .int .i64 a]) 0).run Tryd.prog w = .ok (.int .i64 k) w := by kernel_rfl
theorem pc_f1 (k : Int) (x : ByteArray) (m a : Int) (w : World) : (Instr.field 63 (.agg #[.int .i64 k, .string x, .int .i32 m, .int .i64 a]) 1).run Tryd.prog w = .ok (.string x) w := by kernel_rfl
theorem pc_f3 (k : Int) (x : ByteArray) (m a : Int) (w : World) : (Instr.field 63 (.agg #[.int .i64 k, .string x, .int .i32 m, .int .i64 a]) 3).run Tryd.prog w = .ok (.int .i64 a) w := by kernel_rfl

set_option maxRecDepth 100000 in
set_option maxHeartbeats 4000000 in
theorem attr_any (b g o : Nat) (l : List Pc) (hE : En l) (cap : Nat) (v : Value) (ao : Option Addr) (n c : Nat) (ss : List ByteArray) (w : World) (R : RdAt w b g o l cap v) (A : IsStrs w ao n ss) (K : KwAt w) :
    Calls Tryd.prog 87 #[.pointer (some ⟨b, 0, none⟩), .slice ao n c] w fun e w' => ((rdT ss (hd l) ≠ 0 ∧ e = .returned (.tuple #[.string ⟨#[]⟩, .int .i64 (rdT ss (hd l))]) ∧ RdAt w' b g o l cap v) ∨ (rdT ss (hd l) = 0 ∧ e = .returned (.tuple #[.string (hd l).w, .int .i64 0]) ∧ RdAt w' b g (o + 4) l.tail (cap - 1) v)) ∧ w.grownBy w' (some b) := by
  have hl := hE.ne
  have cH := fun (u : World) (G : Below w.heap.size w u) => here_is b g o l hl cap v u (R.keep hl G)
  have cM := fun (u : World) => mayBeName_any (hd l) R.hdw u
  have hn := A.1
  have hn2 := A.2.1
  have hT : rdT ss (hd l) = if (hd l).may = false then 21 else if ss.length = 8 then 24 else atE ss (hd l).w := rfl
  rw [hn] at hT
  cases hm : (hd l).may
  · rw [hm, if_pos rfl] at hT
    rw [hm] at cM
    have HT : Hid (rdT ss (hd l) = 21) := hT
    clear hT
    go_enter Tryd.func87, Tryd.ntmps87
    go_wp2_with (first
      | (go_at_call 25; (with_reducible refine (cH _ (Below.refl _ _)).mono ?_); rintro e u1 ⟨rfl, g1⟩)
      | (go_at_call 68; (with_reducible refine (cM _).mono ?_); rintro e u2 ⟨rfl, g2⟩))
    go_ret2
    exact ⟨.inl ⟨by rw [HT.out]; decide, by rw [HT.out]; rfl, R.keep hl (gtrans g1 g2)⟩, grown_below _ (gtrans g1 g2)⟩
  rw [hm, if_neg (by decide)] at hT
  rw [hm] at cM
  have hk0 := may_k hm
  have hl2 := (hE.tail (by rw [hk0]; decide)).ne
  clear hk0
  by_cases h8 : n = 8
  · rw [if_pos h8] at hT
    have HT : Hid (rdT ss (hd l) = 24) := hT
    clear hT
    subst h8
    go_enter Tryd.func87, Tryd.ntmps87
    go_wp2_with (first
      | (go_at_call 25; (with_reducible refine (cH _ (Below.refl _ _)).mono ?_); rintro e u1 ⟨rfl, g1⟩)
      | (go_at_call 68; (with_reducible refine (cM _).mono ?_); rintro e u2 ⟨rfl, g2⟩))
    go_ret2
    exact ⟨.inl ⟨by rw [HT.out]; decide, by rw [HT.out]; rfl, R.keep hl (gtrans g1 g2)⟩, grown_below _ (gtrans g1 g2)⟩
  rw [if_neg h8] at hT
  have n8 : ((n : Int) == 8) = false := by rw [beq_eq_false_iff_ne]; omega
  have cA := fun (u : World) (G : Below w.heap.size w u) => checkAttrName_any ao n c ss (hd l).w u (A.keep G) (K.keep G)
  have HT : Hid (rdT ss (hd l) = atE ss (hd l).w) := hT
  replace cA : ∀ (u : World) (G : Below w.heap.size w u), Calls Tryd.prog 50 #[.slice ao n c, .string (hd l).w] u fun e w' => e = .returned (.int .i64 (atE ss (hd l).w)) ∧ Below u.heap.size u w' := cA
  clear hT
  generalize hp : hd l = p at *
  generalize atE ss p.w = z at *
  replace cH : ∀ (u : World) (G : Below w.heap.size w u), Calls Tryd.prog 25 #[.pointer (some ⟨b, 0, none⟩)] u fun e w' => e = .returned (.agg #[.int .i64 p.k, .string p.w, .int .i32 p.m, .int .i64 p.a]) ∧ Below u.heap.size u w' := cH
  replace cM : ∀ (u : World), Calls Tryd.prog 68 #[.agg #[.int .i64 p.k, .string p.w, .int .i32 p.m, .int .i64 p.a]] u fun e w' => e = .returned (.bool true) ∧ Below u.heap.size u w' := cM
  have pf1 := fun u => pc_f1 p.k p.w p.m p.a u
  by_cases hz : z = 0
  · subst hz
    go_enter Tryd.func87, Tryd.ntmps87
    go_wp2_with (first
      | (go_at_call 68; (with_reducible refine (cM _).mono ?_); rintro e u2 ⟨rfl, g2⟩; have G2 := gtrans g1 g2)
      | (go_at_call 50; (with_reducible refine (cA _ G3).mono ?_); rintro e u4 ⟨rfl, g4⟩; have cT := step_is b g o l hl2 cap v u4 (R.keep hl (gtrans G3 g4)))
      | (go_at_call 67; (with_reducible refine cT.mono ?_); rintro e u5 ⟨⟨x5, rfl⟩, R5, g5⟩)
      | (go_at_call 25; (with_reducible refine (cH _ G2).mono ?_); rintro e u3 ⟨rfl, g3⟩; have G3 := gtrans G2 g3)
      | (go_at_call 25; (with_reducible refine (cH _ (Below.refl _ _)).mono ?_); rintro e u1 ⟨rfl, g1⟩))
    go_ret2
    exact ⟨.inr ⟨HT.out, rfl, R5⟩, grown_trans (grown_below _ (gtrans G3 g4)) g5⟩
  · have zb : (z == 0) = false := by simpa using hz
    go_enter Tryd.func87, Tryd.ntmps87
    go_wp2_with (first
      | (go_at_call 68; (with_reducible refine (cM _).mono ?_); rintro e u2 ⟨rfl, g2⟩; have G2 := gtrans g1 g2)
      | (go_at_call 50; (with_reducible refine (cA _ G3).mono ?_); rintro e u4 ⟨rfl, g4⟩)
      | (go_at_call 25; (with_reducible refine (cH _ G2).mono ?_); rintro e u3 ⟨rfl, g3⟩; have G3 := gtrans G2 g3)
      | (go_at_call 25; (with_reducible refine (cH _ (Below.refl _ _)).mono ?_); rintro e u1 ⟨rfl, g1⟩))
    go_ret2
    exact ⟨.inl ⟨by rw [HT.out]; exact hz, by rw [HT.out]; rfl, R.keep hl (gtrans G3 g4)⟩, grown_below _ (gtrans G3 g4)⟩

end Go.Proofs.YtkpnnofonocilaaDoor
