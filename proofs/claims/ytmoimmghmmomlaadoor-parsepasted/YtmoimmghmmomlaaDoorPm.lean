/- A descent in memory, and its small steps. -/
import Derived.Test.YtmoimmghmmomlaaDoorPq
import Derived.Test.YtmoimmghmmomlaaDoorLx4
namespace Go.Proofs.YtmoimmghmmomlaaDoor
open Go.RowKit Go.BigFrame
set_option linter.unusedVariables false
set_option linter.unusedSimpArgs false

/-- Tokens that lie in a row. -/
def Tk (w : World) (g o : Nat) (ts : List Tok) : Prop := ∀ i, i < ts.length → w.cell? ⟨g, o + i * 4, none⟩ = some (.int .i64 (ts.getD i noTok).k) ∧ w.cell? ⟨g, o + i * 4 + 1, none⟩ = some (.string (ts.getD i noTok).t) ∧ w.cell? ⟨g, o + i * 4 + 2, none⟩ = some (.int .i64 (ts.getD i noTok).n) ∧ w.cell? ⟨g, o + i * 4 + 3, none⟩ = some (.int .i64 (ts.getD i noTok).a)
theorem Tk.tail {w : World} {g o : Nat} {t : Tok} {tl : List Tok} (h : Tk w g o (t :: tl)) : Tk w g (o + 4) tl := fun i hi => by
  have := h (i + 1) (by simpa using hi)
  rw [show o + (i + 1) * 4 = o + 4 + i * 4 by omega] at this
  exact this
theorem Tk.head {w : World} {g o : Nat} {t : Tok} {tl : List Tok} (h : Tk w g o (t :: tl)) : w.cell? ⟨g, o, none⟩ = some (.int .i64 t.k) ∧ w.cell? ⟨g, o + 1, none⟩ = some (.string t.t) ∧ w.cell? ⟨g, o + 2, none⟩ = some (.int .i64 t.n) ∧ w.cell? ⟨g, o + 3, none⟩ = some (.int .i64 t.a) := by
  have := h 0 (by simp)
  rw [Nat.zero_mul, Nat.add_zero] at this
  exact this
theorem Tk.same {w u : World} {g o : Nat} {ts : List Tok} (h : Tk w g o ts) (e : u.heap[g]? = w.heap[g]?) : Tk u g o ts := fun i hi => by
  obtain ⟨a, b, c, d⟩ := h i hi
  unfold World.cell? at *
  simp only at *
  rw [e]
  exact ⟨a, b, c, d⟩
structure De (w : World) (d g : Nat) (e : Int) (ts : List Tok) (o : Nat) : Prop where
  lo : g < d
  ex : ∃ ao c, w.heap[d]? = some (.cells #[.slice ao ts.length c, .int .i64 e, .int .i64 o] 108 (0, 0)) ∧ ts.length ≤ c ∧ (ts ≠ [] → ∃ off, ao = some ⟨g, off, none⟩ ∧ Tk w g off ts)
theorem De.lt {w : World} {d g : Nat} {e : Int} {ts : List Tok} {o : Nat} (h : De w d g e ts o) : d < w.heap.size := by
  obtain ⟨_, _, h, _⟩ := h.ex
  exact lt_of_block h
/-- All below b but the block d is as it was. -/
structure Kd (d b : Nat) (w u : World) : Prop where
  os : u.os = w.os
  tape : u.tape = w.tape
  output : u.output = w.output
  size : w.heap.size ≤ u.heap.size
  blk : ∀ k, k < b → k ≠ d → u.heap[k]? = w.heap[k]?
theorem Kd.refl (d b : Nat) (w : World) : Kd d b w w := ⟨rfl, rfl, rfl, Nat.le_refl _, fun _ _ _ => rfl⟩
theorem Kd.trans {d b : Nat} {w u v : World} (h : Kd d b w u) (k : Kd d b u v) : Kd d b w v :=
  ⟨k.os.trans h.os, k.tape.trans h.tape, k.output.trans h.output, Nat.le_trans h.size k.size, fun j h1 h2 => (k.blk j h1 h2).trans (h.blk j h1 h2)⟩
theorem Kd.mono {d b b' : Nat} {w u : World} (h : Kd d b w u) (hb : b' ≤ b) : Kd d b' w u := ⟨h.os, h.tape, h.output, h.size, fun j h1 h2 => h.blk j (by omega) h2⟩
theorem Kd.of {d : Nat} {w u : World} (h : Below w.heap.size w u) (b : Nat) (hb : b ≤ w.heap.size) : Kd d b w u := ⟨h.os, h.tape, h.output, h.size, fun j h1 _ => h.block j (by omega)⟩
theorem Kd.gt {d : Nat} {w u v : World} (h : Kd d w.heap.size w u) (k : Kd d u.heap.size u v) : Kd d w.heap.size w v := h.trans (k.mono h.size)
theorem Kd.gb {d : Nat} {w u v : World} (h : Kd d w.heap.size w u) (k : Below u.heap.size u v) : Kd d w.heap.size w v := h.gt (Kd.of k _ (Nat.le_refl _))
theorem Kd.bg {d : Nat} {w u v : World} (h : Below w.heap.size w u) (k : Kd d u.heap.size u v) : Kd d w.heap.size w v := (Kd.of h _ (Nat.le_refl _)).gt k
theorem Kd.below {d b : Nat} {w u : World} (h : Kd d b w u) (hd : d ≤ b) : Below d w u := ⟨h.os, h.tape, h.output, h.size, fun j h1 => h.blk j (by omega) (by omega)⟩
theorem De.keep {w u : World} {d g : Nat} {e : Int} {ts : List Tok} {o : Nat} (h : De w d g e ts o) (G : Below w.heap.size w u) : De u d g e ts o := by
  have hl := h.lt
  have h0 := h.lo
  obtain ⟨ao, c, hb, hc, ht⟩ := h.ex
  exact ⟨h0, ao, c, (G.block d hl).trans hb, hc, fun hne => by obtain ⟨off, e1, e2⟩ := ht hne; exact ⟨off, e1, e2.same (G.block g (by omega))⟩⟩
theorem Kd.set (w : World) (d k b : Nat) (v : Value) : Kd d b w (w.setCell ⟨d, k, none⟩ v) :=
  have h : Below d w (w.setCell ⟨d, k, none⟩ v) := (Below.refl d w).setCell (Nat.le_refl _) v
  ⟨h.os, h.tape, h.output, h.size, fun j _ h2 => Below.heap_setCell w ⟨d, k, none⟩ v j h2⟩
theorem De.set0 {w : World} {d g : Nat} {e : Int} {ts : List Tok} {o : Nat} (h : De w d g e ts o) {ts' : List Tok} (ao : Option Addr) (c : Nat) (hc : ts'.length ≤ c) (ht : ts' ≠ [] → ∃ off, ao = some ⟨g, off, none⟩ ∧ Tk w g off ts') : De (w.setCell ⟨d, 0, none⟩ (.slice ao ts'.length c)) d g e ts' o := by
  have h0 := h.lo
  obtain ⟨a1, c1, hb, _, _⟩ := h.ex
  refine ⟨h0, ao, c, heap_setCell_same w d 0 _ _ _ hb, hc, fun hne => ?_⟩
  obtain ⟨off, e1, e2⟩ := ht hne
  exact ⟨off, e1, e2.same (Below.heap_setCell w ⟨d, 0, none⟩ _ g (by show g ≠ d; omega))⟩
theorem De.setO {w : World} {d g : Nat} {e : Int} {ts : List Tok} {o : Nat} (h : De w d g e ts o) (o' : Nat) : De (w.setCell ⟨d, 2, none⟩ (.int .i64 o')) d g e ts o' := by
  have h0 := h.lo
  obtain ⟨a1, c1, hb, hc, ht⟩ := h.ex
  refine ⟨h0, a1, c1, heap_setCell_same w d 2 _ _ _ hb, hc, fun hne => ?_⟩
  obtain ⟨off, e1, e2⟩ := ht hne
  exact ⟨off, e1, e2.same (Below.heap_setCell w ⟨d, 2, none⟩ _ g (by show g ≠ d; omega))⟩
theorem heap_two (X : World) (A B : Obj) (n : Nat) (hn : n = X.heap.size) : ((X.alloc A).alloc B).heap[n]? = some A := by
  subst hn
  exact (Below.heap_alloc (X.alloc A) B X.heap.size (by simp)).trans (heap_alloc_new _ _)
theorem De.other {w : World} {d g : Nat} {e : Int} {ts : List Tok} {o : Nat} (h : De w d g e ts o) {p : Addr} (hp : d < p.block) (v : Value) : De (w.setCell p v) d g e ts o := by
  have h0 := h.lo
  obtain ⟨ao, c, hb, hc, ht⟩ := h.ex
  exact ⟨h0, ao, c, (Below.heap_setCell w p v d (by omega)).trans hb, hc, fun hne => by obtain ⟨off, e1, e2⟩ := ht hne; exact ⟨off, e1, e2.same (Below.heap_setCell w p v g (by omega))⟩⟩
theorem Kd.far {d b : Nat} {w u : World} (h : Kd d b w u) {p : Addr} (hp : b ≤ p.block) (v : Value) : Kd d b w (u.setCell p v) :=
  have k : Below p.block u (u.setCell p v) := (Below.refl p.block u).setCell (Nat.le_refl _) v
  ⟨k.os.trans h.os, k.tape.trans h.tape, k.output.trans h.output, Nat.le_trans h.size k.size, fun j h1 h2 => (Below.heap_setCell u p v j (by omega)).trans (h.blk j h1 h2)⟩
def rfV (c p : Int) : Value := .iface 105 (.agg #[.int .i64 c, .int .i64 p])
def rfC (c p : Int) : List PanicEntry := [{ v := rfV c p, recovered := false }]

theorem tokF0 (k : Int) (s : ByteArray) (n a : Int) (w : World) : (Instr.field 79 (.agg #[.int .i64 k, .string s, .int .i64 n, .int .i64 a]) 0).run Tryd.prog w = .ok (.int .i64 k) w := by kernel_rfl
theorem tokF1 (k : Int) (s : ByteArray) (n a : Int) (w : World) : (Instr.field 79 (.agg #[.int .i64 k, .string s, .int .i64 n, .int .i64 a]) 1).run Tryd.prog w = .ok (.string s) w := by kernel_rfl
theorem tokF2 (k : Int) (s : ByteArray) (n a : Int) (w : World) : (Instr.field 79 (.agg #[.int .i64 k, .string s, .int .i64 n, .int .i64 a]) 2).run Tryd.prog w = .ok (.int .i64 n) w := by kernel_rfl
section
variable (w : World) (d g : Nat) (e0 : Int) (o : Nat)
theorem De.open_ {ts : List Tok} (D : De w d g e0 ts o) : ∃ ao c, w.cell? ⟨d, 0, none⟩ = some (.slice ao ts.length c) ∧ w.cell? ⟨d, 1, none⟩ = some (.int .i64 e0) ∧ w.cell? ⟨d, 2, none⟩ = some (.int .i64 o) ∧ ts.length ≤ c ∧ (∀ k, w.frozen? ⟨d, k, none⟩ = false) ∧ (ts ≠ [] → ∃ off, ao = some ⟨g, off, none⟩ ∧ Tk w g off ts) := by
  obtain ⟨ao, c, hb, hc, ht⟩ := D.ex
  exact ⟨ao, c, by simp [World.cell?, hb], by simp [World.cell?, hb], by simp [World.cell?, hb], hc, fun k => by simp [World.frozen?, hb], ht⟩

set_option maxRecDepth 100000 in
set_option maxHeartbeats 1000000 in
theorem place_any (ts : List Tok) (D : De w d g e0 ts o) : Calls Tryd.prog 69 #[.pointer (some ⟨d, 0, none⟩)] w fun e w' => e = .returned (.int .i64 (plc e0 ts)) ∧ w = w' := by
  obtain ⟨ao, c, c0, c1, c2, hc, _, ht⟩ := De.open_ w d g e0 o D
  cases ts with
  | nil =>
    simp only [List.length_nil] at c0
    go_enter Tryd.func69, Tryd.ntmps69
    go_wp2
    go_ret
    exact ⟨rfl, rfl⟩
  | cons t tl =>
    obtain ⟨off, rfl, T⟩ := ht (by simp)
    obtain ⟨_, _, _, h3⟩ := T.head
    simp only [List.length_cons] at c0
    generalize tl.length = n at *
    have q : (((n + 1 : Nat) : Int) == 0) = false := by simp; omega
    have q2 : (0 : Int) < ((n + 1 : Nat) : Int) := by omega
    go_enter Tryd.func69, Tryd.ntmps69
    go_wp2
    go_ret
    exact ⟨rfl, rfl⟩
set_option maxRecDepth 100000 in
set_option maxHeartbeats 1000000 in
theorem ahead_any (ts : List Tok) (D : De w d g e0 ts o) : Calls Tryd.prog 67 #[.pointer (some ⟨d, 0, none⟩)] w fun e w' => e = .returned (.int .i64 (kd ts)) ∧ w = w' := by
  obtain ⟨ao, c, c0, c1, c2, hc, _, ht⟩ := De.open_ w d g e0 o D
  cases ts with
  | nil =>
    simp only [List.length_nil] at c0
    go_enter Tryd.func67, Tryd.ntmps67
    go_wp2
    go_ret
    exact ⟨rfl, rfl⟩
  | cons t tl =>
    obtain ⟨off, rfl, T⟩ := ht (by simp)
    obtain ⟨h3, _, _, _⟩ := T.head
    simp only [List.length_cons] at c0
    generalize tl.length = n at *
    have q : (((n + 1 : Nat) : Int) == 0) = false := by simp; omega
    have q2 : (0 : Int) < ((n + 1 : Nat) : Int) := by omega
    go_enter Tryd.func67, Tryd.ntmps67
    go_wp2
    go_ret
    exact ⟨rfl, rfl⟩
set_option maxRecDepth 100000 in
set_option maxHeartbeats 1000000 in
theorem pass_any (t : Tok) (tl : List Tok) (D : De w d g e0 (t :: tl) o) : Calls Tryd.prog 68 #[.pointer (some ⟨d, 0, none⟩)] w fun e w' => e = .returned (.agg (tokA t)) ∧ De w' d g e0 tl o ∧ Kd d w.heap.size w w' := by
  obtain ⟨ao, c, c0, c1, c2, hc, hf, ht⟩ := De.open_ w d g e0 o D
  obtain ⟨off, rfl, T⟩ := ht (by simp)
  obtain ⟨h0, h1, h2, h3⟩ := T.head
  have hd := D.lt
  have hg := D.lo
  simp only [List.length_cons] at c0 hc
  obtain ⟨n, hn⟩ : ∃ n, tl.length = n := ⟨_, rfl⟩
  rw [hn] at c0 hc
  have q2 : (0 : Int) < ((n + 1 : Nat) : Int) := by omega
  have hgs : g < w.heap.size := by omega
  by_cases hc1 : c = 1
  · subst hc1
    obtain rfl : n = 0 := by omega
    go_enter Tryd.func68, Tryd.ntmps68
    go_wp2
    have D1 := (De.set0 D (ts' := tl) (some ⟨g, off, none⟩) 0 (by omega) (fun h => absurd (List.length_eq_zero_iff.1 hn) h)).keep (galloc (galloc (Below.refl _ _) (.cells (tokA t) 79)) (.cells (tokA t) 79))
    rw [hn] at D1
    refine bodyPost_ret (results_cell_row rfl _ _ w.heap.size 79 (tokA t) (0, 0) _ rfl (heap_two _ _ _ _ (by simp)) Tryd.underlying79 rfl infoTok) rfl ⟨rfl, D1, ?_⟩
    exact (Kd.set w d 0 _ _).gb (galloc (galloc (Below.refl _ _) _) _)
  · go_enter Tryd.func68, Tryd.ntmps68
    go_wp2
    have hc1 : tl.length ≤ c - 1 := by omega
    have D1 := (De.set0 D (ts' := tl) (some ⟨g, off + 4, none⟩) (c - 1) hc1 (fun _ => ⟨_, rfl, T.tail⟩)).keep (galloc (galloc (Below.refl _ _) (.cells (tokA t) 79)) (.cells (tokA t) 79))
    rw [hn] at D1
    refine bodyPost_ret (results_cell_row rfl _ _ w.heap.size 79 (tokA t) (0, 0) _ rfl (heap_two _ _ _ _ (by simp)) Tryd.underlying79 rfl infoTok) rfl ⟨rfl, D1, ?_⟩
    exact (Kd.set w d 0 _ _).gb (galloc (galloc (Below.refl _ _) _) _)
theorem giveUp_any (c : Int) (ts : List Tok) (D : De w d g e0 ts o) : Calls Tryd.prog 66 #[.pointer (some ⟨d, 0, none⟩), .int .i64 c] w fun e w' => e = .panicked (rfC c (plc e0 ts)) ∧ w = w' := by
  have c1 := place_any w d g e0 o ts D
  go_enter Tryd.func66, Tryd.ntmps66
  go_wp2_with (go_at_call 69; with_reducible refine c1.mono ?_; rintro e u ⟨rfl, rfl⟩)
  exact ⟨rfl, rfl, rfl⟩
set_option maxRecDepth 100000 in
set_option maxHeartbeats 1000000 in
theorem need_ok (k : Int) (t : Tok) (tl : List Tok) (hk : t.k = k) (D : De w d g e0 (t :: tl) o) : Calls Tryd.prog 49 #[.pointer (some ⟨d, 0, none⟩), .int .i64 k] w fun e w' => e = .returned (.agg (tokA t)) ∧ De w' d g e0 tl o ∧ Kd d w.heap.size w w' := by
  subst hk
  have B := galloc (Below.refl w.heap.size w) (.cells (tokA noTok) 79)
  have R := TokAt.new w noTok
  have D1 := D.keep B
  go_enter Tryd.func49, Tryd.ntmps49
  go_upto_region 1 with fail
  generalize hV : w.alloc (.cells (tokA noTok) 79) = V at B R D1
  rw [show w.alloc (.cells #[.int .i64 0, .string ⟨#[]⟩, .int .i64 0, .int .i64 0] 79) = V from hV]
  clear hV
  have c1 := ahead_any V d g e0 o _ D1
  have c2 := pass_any V d g e0 o t tl D1
  have ek : kd (t :: tl) = t.k := rfl
  rw [ek] at c1
  simp only [tokA] at c2
  have q : (t.k != t.k) = false := by simp
  go_wp2_with (first
    | (go_at_call 67; (with_reducible refine c1.mono ?_); rintro e u ⟨rfl, rfl⟩)
    | (go_at_call 68; (with_reducible refine c2.mono ?_); rintro e u ⟨rfl, D2, K2⟩; have R2 : TokAt u w.heap.size noTok := (K2.blk _ R.lt (by have := D.lt; omega)).trans R; obtain ⟨r0, r1, r2, r3⟩ := R2.at; have rf := R2.free))
  (try simp only [Exit.inBlock, Exit.then])
  have hlt := D.lt
  refine bodyPost_ret (results_cell_row rfl _ _ w.heap.size 79 (tokA t) (0, 0) _ rfl (R2.set4 _ _ _ _) Tryd.underlying79 rfl infoTok) rfl ⟨rfl, ?_, ?_⟩
  · exact (((D2.other hlt _).other hlt _).other hlt _).other hlt _
  · exact ((((Kd.bg B K2).far (Nat.le_refl _) _).far (Nat.le_refl _) _).far (Nat.le_refl _) _).far (Nat.le_refl _) _
set_option maxRecDepth 100000 in
set_option maxHeartbeats 1000000 in
theorem need_bad (k : Int) (ts : List Tok) (hk : kd ts ≠ k) (D : De w d g e0 ts o) : Calls Tryd.prog 49 #[.pointer (some ⟨d, 0, none⟩), .int .i64 k] w fun e w' => e = .panicked (rfC 40 (plc e0 ts)) ∧ Kd d w.heap.size w w' := by
  obtain ⟨p0, hp⟩ : ∃ p0, plc e0 ts = p0 := ⟨_, rfl⟩
  rw [hp]
  have B := galloc (Below.refl w.heap.size w) (.cells (tokA noTok) 79)
  have D1 := D.keep B
  go_enter Tryd.func49, Tryd.ntmps49
  go_upto_region 1 with fail
  generalize hV : w.alloc (.cells (tokA noTok) 79) = V at B D1
  rw [show w.alloc (.cells #[.int .i64 0, .string ⟨#[]⟩, .int .i64 0, .int .i64 0] 79) = V from hV]
  clear hV
  have c1 := ahead_any V d g e0 o _ D1
  have c2 := giveUp_any V d g e0 o 40 ts D1
  have q : (kd ts != k) = true := by simpa using hk
  generalize kd ts = k0 at *
  rw [hp] at c2
  clear hp
  clear hk
  go_wp2_with (first
    | (go_at_call 67; (with_reducible refine c1.mono ?_); rintro e u ⟨rfl, rfl⟩)
    | (go_at_call 66; (with_reducible refine c2.mono ?_); rintro e u ⟨rfl, rfl⟩))
  exact ⟨rfl, rfl, Kd.of B _ (Nat.le_refl _)⟩
set_option maxRecDepth 100000 in
set_option maxHeartbeats 1000000 in
theorem has_yes (k : Int) (t : Tok) (tl : List Tok) (hk : t.k = k) (D : De w d g e0 (t :: tl) o) : Calls Tryd.prog 51 #[.pointer (some ⟨d, 0, none⟩), .int .i64 k] w fun e w' => e = .returned (.bool true) ∧ De w' d g e0 tl o ∧ Kd d w.heap.size w w' := by
  subst hk
  have c1 := ahead_any w d g e0 o _ D
  have c2 := pass_any w d g e0 o t tl D
  have ek : kd (t :: tl) = t.k := rfl
  rw [ek] at c1
  simp only [tokA] at c2
  have q : (t.k != t.k) = false := by simp
  go_enter Tryd.func51, Tryd.ntmps51
  go_wp2_with (first
    | (go_at_call 67; (with_reducible refine c1.mono ?_); rintro e u ⟨rfl, rfl⟩)
    | (go_at_call 68; (with_reducible refine c2.mono ?_); rintro e u ⟨rfl, D2, K2⟩))
  go_ret
  exact ⟨rfl, D2, K2⟩
set_option maxRecDepth 100000 in
set_option maxHeartbeats 1000000 in
theorem has_no (k : Int) (ts : List Tok) (hk : kd ts ≠ k) (D : De w d g e0 ts o) : Calls Tryd.prog 51 #[.pointer (some ⟨d, 0, none⟩), .int .i64 k] w fun e w' => e = .returned (.bool false) ∧ w = w' := by
  have c1 := ahead_any w d g e0 o _ D
  have q : (kd ts != k) = true := by simpa using hk
  generalize kd ts = k0 at *
  clear hk
  go_enter Tryd.func51, Tryd.ntmps51
  go_wp2_with (first
    | (go_at_call 67; (with_reducible refine c1.mono ?_); rintro e u ⟨rfl, rfl⟩))
  go_ret
  exact ⟨rfl, rfl⟩
set_option maxRecDepth 100000 in
set_option maxHeartbeats 1000000 in
theorem enter_ok (t : Tok) (tl : List Tok) (ho : o < 32) (D : De w d g e0 (t :: tl) o) : Calls Tryd.prog 117 #[.pointer (some ⟨d, 0, none⟩)] w fun e w' => e = .returned (.agg (tokA t)) ∧ De w' d g e0 tl (o + 1) ∧ Kd d w.heap.size w w' := by
  have B := galloc (Below.refl w.heap.size w) (.cells (tokA noTok) 79)
  have R := TokAt.new w noTok
  have D1 := D.keep B
  have q : ((o : Int) == 32) = false := by simp; omega
  go_enter Tryd.func117, Tryd.ntmps117
  go_upto_region 1 with fail
  generalize hV : w.alloc (.cells (tokA noTok) 79) = V at B R D1
  rw [show w.alloc (.cells #[.int .i64 0, .string ⟨#[]⟩, .int .i64 0, .int .i64 0] 79) = V from hV]
  clear hV
  obtain ⟨ao, c, c0, c1, c2, hc, hf, ht⟩ := De.open_ V d g e0 o D1
  go_upto_region 4 with fail
  have D2 := D1.setO (o + 1)
  have K2 := Kd.set V d 2 V.heap.size (.int .i64 ((o + 1 : Nat) : Int))
  have R2 : TokAt (V.setCell ⟨d, 2, none⟩ (.int .i64 ((o + 1 : Nat) : Int))) w.heap.size noTok := (K2.blk _ R.lt (by have := D.lt; omega)).trans R
  rw [show ((o : Int) + 1) = ((o + 1 : Nat) : Int) by omega]
  generalize V.setCell ⟨d, 2, none⟩ (.int .i64 ((o + 1 : Nat) : Int)) = V2 at *
  have c3 := pass_any V2 d g e0 (o + 1) t tl D2
  simp only [tokA] at c3
  go_wp2_with (first
    | (go_at_call 68; (with_reducible refine c3.mono ?_); rintro e u ⟨rfl, D3, K3⟩; have R3 : TokAt u w.heap.size noTok := (K3.blk _ R2.lt (by have := D.lt; omega)).trans R2; obtain ⟨r0, r1, r2, r3⟩ := R3.at; have rf := R3.free))
  (try simp only [Exit.inBlock, Exit.then])
  have hlt := D.lt
  refine bodyPost_ret (results_cell_row rfl _ _ w.heap.size 79 (tokA t) (0, 0) _ rfl (R3.set4 _ _ _ _) Tryd.underlying79 rfl infoTok) rfl ⟨rfl, ?_, ?_⟩
  · exact (((D3.other hlt _).other hlt _).other hlt _).other hlt _
  · exact (((((Kd.bg B K2).gt K3).far (Nat.le_refl _) _).far (Nat.le_refl _) _).far (Nat.le_refl _) _).far (Nat.le_refl _) _
set_option maxRecDepth 100000 in
set_option maxHeartbeats 1000000 in
theorem enter_deep (ts : List Tok) (D : De w d g e0 ts 32) : Calls Tryd.prog 117 #[.pointer (some ⟨d, 0, none⟩)] w fun e w' => e = .panicked (rfC 41 (plc e0 ts)) ∧ Kd d w.heap.size w w' := by
  obtain ⟨p0, hp⟩ : ∃ p0, plc e0 ts = p0 := ⟨_, rfl⟩
  rw [hp]
  have B := galloc (Below.refl w.heap.size w) (.cells (tokA noTok) 79)
  have D1 := D.keep B
  go_enter Tryd.func117, Tryd.ntmps117
  go_upto_region 1 with fail
  generalize hV : w.alloc (.cells (tokA noTok) 79) = V at B D1
  rw [show w.alloc (.cells #[.int .i64 0, .string ⟨#[]⟩, .int .i64 0, .int .i64 0] 79) = V from hV]
  clear hV
  obtain ⟨ao, c, c0, c1, c2, hc, hf, ht⟩ := De.open_ V d g e0 32 D1
  have c3 := giveUp_any V d g e0 32 41 ts D1
  replace c2 : V.cell? ⟨d, 2, none⟩ = some (.int .i64 32) := c2
  rw [hp] at c3
  clear hp
  go_wp2_with (first
    | (go_at_call 66; (with_reducible refine c3.mono ?_); rintro e u ⟨rfl, rfl⟩))
  exact ⟨rfl, rfl, Kd.of B _ (Nat.le_refl _)⟩
set_option maxRecDepth 100000 in
set_option maxHeartbeats 1000000 in
theorem leave_any (ts : List Tok) (ho : 1 ≤ o) (ho2 : o ≤ 40) (D : De w d g e0 ts o) : Calls Tryd.prog 118 #[.pointer (some ⟨d, 0, none⟩)] w fun e w' => e = .returned (.tuple #[]) ∧ De w' d g e0 ts (o - 1) ∧ Kd d w.heap.size w w' := by
  obtain ⟨ao, c, c0, c1, c2, hc, hf, ht⟩ := De.open_ w d g e0 o D
  have D2 := D.setO (o - 1)
  have K2 := Kd.set w d 2 w.heap.size (.int .i64 ((o - 1 : Nat) : Int))
  go_enter Tryd.func118, Tryd.ntmps118
  go_wp2
  rw [show ((o : Int) - 1) = ((o - 1 : Nat) : Int) by omega]
  go_end0
  exact ⟨rfl, D2, K2⟩
set_option maxRecDepth 100000 in
set_option maxHeartbeats 1000000 in
theorem needEnd_ok (D : De w d g e0 [] o) : Calls Tryd.prog 48 #[.pointer (some ⟨d, 0, none⟩)] w fun e w' => e = .returned (.tuple #[]) ∧ w = w' := by
  obtain ⟨ao, c, c0, c1, c2, hc, hf, ht⟩ := De.open_ w d g e0 o D
  simp only [List.length_nil] at c0
  go_enter Tryd.func48, Tryd.ntmps48
  go_wp2
  go_end0
  exact ⟨rfl, rfl⟩
set_option maxRecDepth 100000 in
set_option maxHeartbeats 1000000 in
theorem needEnd_bad (t : Tok) (tl : List Tok) (D : De w d g e0 (t :: tl) o) : Calls Tryd.prog 48 #[.pointer (some ⟨d, 0, none⟩)] w fun e w' => e = .panicked (rfC 40 (plc e0 (t :: tl))) ∧ w = w' := by
  obtain ⟨ao, c, c0, c1, c2, hc, hf, ht⟩ := De.open_ w d g e0 o D
  have c3 := giveUp_any w d g e0 o 40 _ D
  simp only [List.length_cons] at c0
  generalize tl.length = n at c0
  have q : (0 : Int) < ((n + 1 : Nat) : Int) := by omega
  generalize plc e0 (t :: tl) = p0 at *
  go_enter Tryd.func48, Tryd.ntmps48
  go_wp2_with (first
    | (go_at_call 66; (with_reducible refine c3.mono ?_); rintro e u ⟨rfl, rfl⟩))
  exact ⟨rfl, rfl, rfl⟩
set_option maxRecDepth 100000 in
set_option maxHeartbeats 1000000 in
theorem name_ok (t : Tok) (tl : List Tok) (hk : t.k = 1) (D : De w d g e0 (t :: tl) o) : Calls Tryd.prog 86 #[.pointer (some ⟨d, 0, none⟩)] w fun e w' => e = .returned (.string t.t) ∧ De w' d g e0 tl o ∧ Kd d w.heap.size w w' := by
  have c1 := need_ok w d g e0 o 1 t tl hk D
  simp only [tokA] at c1
  clear hk
  have f1 := tokF1
  go_enter Tryd.func86, Tryd.ntmps86
  go_wp2_with (first
    | (go_at_call 49; (with_reducible refine c1.mono ?_); rintro e u ⟨rfl, D2, K2⟩))
  go_ret
  exact ⟨rfl, D2, K2⟩
set_option maxRecDepth 100000 in
set_option maxHeartbeats 1000000 in
theorem name_bad (ts : List Tok) (hk : kd ts ≠ 1) (D : De w d g e0 ts o) : Calls Tryd.prog 86 #[.pointer (some ⟨d, 0, none⟩)] w fun e w' => e = .panicked (rfC 40 (plc e0 ts)) ∧ Kd d w.heap.size w w' := by
  have c1 := need_bad w d g e0 o 1 ts hk D
  generalize plc e0 ts = p0 at *
  go_enter Tryd.func86, Tryd.ntmps86
  go_wp2_with (first
    | (go_at_call 49; (with_reducible refine c1.mono ?_); rintro e u ⟨rfl, K2⟩))
  exact ⟨rfl, rfl, K2⟩
end

end Go.Proofs.YtmoimmghmmomlaaDoor
