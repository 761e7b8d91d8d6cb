/- The pieces of a schema text, and what is asked of one. -/
import Derived.Test.YtkpnnofonocilaaDoorIsNm
import Derived.Test.YtkpnnofonocilaaDoorTwin
import Derived.Test.YtkpnnofonocilaaDoorChk2
import Derived.Lib.OthersKept
import Derived.Laws.Rows
namespace Go.Proofs.YtkpnnofonocilaaDoor
open Go.RowKit Go.BigFrame
set_option linter.unusedVariables false
set_option linter.unusedSimpArgs false

/-- A piece: its kind (0 a word, 1 a mark, 2 the end), the word, the mark, its place. -/
structure Pc where
  k : Int
  w : ByteArray
  m : Int
  a : Int
def pcA (p : Pc) : Array Value := #[.int .i64 p.k, .string p.w, .int .i32 p.m, .int .i64 p.a]
def noPc : Pc := ⟨2, ⟨#[]⟩, 0, 0⟩
def Pc.isW (p : Pc) (x : ByteArray) : Bool := (p.k == 0) && (p.w.toList == x.toList)
def Pc.isM (p : Pc) (c : Int) : Bool := (p.k == 1) && (p.m == c)
def Pc.may (p : Pc) : Bool := (p.k == 0) && !(digB (at_ p.w 0))

def blkB (n : Int) : Bool := decide (n = 32 ∨ n = 9 ∨ n = 10 ∨ n = 13)
set_option maxHeartbeats 1000000 in
theorem isBlankR_any (n : Int) (w : World) : Calls Tryd.prog 43 #[.int .i32 n] w fun e w' => e = .returned (.bool (blkB n)) ∧ w = w' := by
  obtain ⟨v, hv⟩ : ∃ v, blkB n = v := ⟨_, rfl⟩
  rw [hv]
  have HV : Hid (blkB n = v) := hv
  clear hv
  cases a : (n == 32) <;> cases b : (n == 9) <;> cases c : (n == 10) <;> cases d : (n == 13)
  all_goals
    have HQ : Hid (n = 32 ∨ n = 9 ∨ n = 10 ∨ n = 13 ↔ ((n == 32) || (n == 9) || (n == 10) || (n == 13)) = true) := by show _ ↔ _; simp [or_assoc]
    go_enter Tryd.func43, Tryd.ntmps43
    go_wp2
    go_ret
    refine ⟨congrArg (fun b => Ending.returned (Value.bool b)) (Eq.trans ?_ HV.out), rfl⟩
    have hq := HQ.out
    rw [a, b, c, d] at hq
    unfold blkB
    first | exact (decide_eq_true (hq.2 rfl)).symm | exact (decide_eq_false (fun h => by have := hq.1 h; cases this)).symm

set_option maxHeartbeats 1000000 in
theorem isWord_any (p : Pc) (x : ByteArray) (w : World) : Calls Tryd.prog 66 #[.agg (pcA p), .string x] w fun e w' => e = .returned (.bool (p.isW x)) ∧ Below w.heap.size w w' := by
  obtain ⟨k, y, m, a⟩ := p
  obtain ⟨z, hz⟩ : ∃ z, Pc.isW ⟨k, y, m, a⟩ x = z := ⟨_, rfl⟩
  rw [hz]
  have HZ : Hid (((k == 0) && (y.toList == x.toList)) = z) := hz
  clear hz
  unfold pcA
  cases h1 : (k == 0) <;> cases h2 : (y.toList == x.toList)
  all_goals
    go_enter Tryd.func66, Tryd.ntmps66
    go_wp2
    go_ret
    refine ⟨?_, galloc (Below.refl _ _) _⟩
    rw [← HZ.out, h1, h2]
    rfl
set_option maxHeartbeats 1000000 in
theorem isMark_any (p : Pc) (c : Int) (w : World) : Calls Tryd.prog 86 #[.agg (pcA p), .int .i32 c] w fun e w' => e = .returned (.bool (p.isM c)) ∧ Below w.heap.size w w' := by
  obtain ⟨k, y, m, a⟩ := p
  obtain ⟨z, hz⟩ : ∃ z, Pc.isM ⟨k, y, m, a⟩ c = z := ⟨_, rfl⟩
  rw [hz]
  have HZ : Hid (((k == 1) && (m == c)) = z) := hz
  clear hz
  unfold pcA
  cases h1 : (k == 1) <;> cases h2 : (m == c)
  all_goals
    go_enter Tryd.func86, Tryd.ntmps86
    go_wp2
    go_ret
    refine ⟨?_, galloc (Below.refl _ _) _⟩
    rw [← HZ.out, h1, h2]
    rfl
set_option maxHeartbeats 1000000 in
theorem mayBeName_any (p : Pc) (hw : p.k = 0 → 0 < p.w.size) (w : World) : Calls Tryd.prog 68 #[.agg (pcA p)] w fun e w' => e = .returned (.bool p.may) ∧ Below w.heap.size w w' := by
  obtain ⟨k, y, m, a⟩ := p
  dsimp only at hw
  obtain ⟨z, hz⟩ : ∃ z, Pc.may ⟨k, y, m, a⟩ = z := ⟨_, rfl⟩
  rw [hz]
  have HZ : Hid (((k == 0) && !(digB (at_ y 0))) = z) := hz
  clear hz
  unfold pcA
  have cD := isDigit_any (at_ y 0)
  cases h1 : (k == 0)
  · clear hw
    go_enter Tryd.func68, Tryd.ntmps68
    go_wp2
    go_ret
    refine ⟨?_, galloc (Below.refl _ _) _⟩
    rw [← HZ.out, h1]
    rfl
  · have h0 := hw (by simpa using h1)
    have i0 : ∀ u : World, (Instr.index 9 (.string y) (.int .i64 0)).run Tryd.prog u = .ok (.int .u8 (at_ y 0)) u := byteW y 0 h0 Tryd.prog 9 (by kernel_rfl)
    have hab : 0 ≤ at_ y 0 ∧ at_ y 0 ≤ 255 := by unfold at_; have := (y.data.getD 0 0).toNat_lt; omega
    clear hw
    generalize digB (at_ y 0) = dg at *
    generalize at_ y 0 = n0 at *
    cases dg
    all_goals
      go_enter Tryd.func68, Tryd.ntmps68
      go_wp2_with (go_at_call 65; (with_reducible refine (cD _).mono ?_); rintro e u ⟨rfl, rfl⟩)
      go_ret
      refine ⟨?_, galloc (Below.refl _ _) _⟩
      rw [← HZ.out, h1]
      rfl
theorem infoPc : (Tryd.prog.info? 63).map (·.size) = some 4 := by kernel_rfl
set_option maxHeartbeats 1000000 in
theorem wordPiece_any (x : ByteArray) (a : Int) (w : World) : Calls Tryd.prog 42 #[.string x, .int .i64 a] w fun e w' => e = .returned (.agg (pcA ⟨0, x, 0, a⟩)) ∧ Below w.heap.size w w' := by
  go_enter Tryd.func42, Tryd.ntmps42
  go_wp2
  refine bodyPost_ret (results_cell_row rfl _ _ w.heap.size 63 (pcA ⟨0, x, 0, a⟩) (0, 0) _ rfl (heap_alloc_new _ _) Tryd.underlying63 rfl infoPc) rfl ⟨rfl, galloc (Below.refl _ _) _⟩


/-- A row of pieces in memory; a word is not empty. -/
def IsPcs (w : World) (g o : Nat) (l : List Pc) : Prop := ∀ i, i < l.length → (w.cell? ⟨g, o + i * 4, none⟩ = some (.int .i64 (l.getD i noPc).k) ∧ w.cell? ⟨g, o + i * 4 + 1, none⟩ = some (.string (l.getD i noPc).w) ∧ w.cell? ⟨g, o + i * 4 + 2, none⟩ = some (.int .i32 (l.getD i noPc).m) ∧ w.cell? ⟨g, o + i * 4 + 3, none⟩ = some (.int .i64 (l.getD i noPc).a)) ∧ ((l.getD i noPc).k = 0 → 0 < (l.getD i noPc).w.size)
theorem IsPcs.keep {w u : World} {g o : Nat} {l : List Pc} (h : IsPcs w g o l) (hc : ∀ i, u.cell? ⟨g, i, none⟩ = w.cell? ⟨g, i, none⟩) : IsPcs u g o l := fun i hi => by
  obtain ⟨⟨a0, a1, a2, a3⟩, a4⟩ := h i hi
  exact ⟨⟨(hc _).trans a0, (hc _).trans a1, (hc _).trans a2, (hc _).trans a3⟩, a4⟩
theorem IsPcs.lt {w : World} {g o : Nat} {l : List Pc} (h : IsPcs w g o l) (hl : l ≠ []) : g < w.heap.size := by
  have := (h 0 (List.length_pos_iff.2 hl)).1.1
  exact lt_of_cell this
theorem IsPcs.tail {w : World} {g o : Nat} {p : Pc} {l : List Pc} (h : IsPcs w g o (p :: l)) : IsPcs w g (o + 4) l := fun i hi => by
  have := h (i + 1) (by simp; omega)
  rw [show (p :: l).getD (i + 1) noPc = l.getD i noPc from rfl, show o + (i + 1) * 4 = o + 4 + i * 4 by omega] at this
  exact this
/-- The reader: what is left of the pieces, and the types. -/
structure RdAt (w : World) (b g o : Nat) (l : List Pc) (cap : Nat) (v : Value) : Prop where
  two : Two w b (.slice (some ⟨g, o, none⟩) l.length cap) v 59
  pcs : IsPcs w g o l
  cap : l.length ≤ cap
  ne : g ≠ b
theorem RdAt.keep {w u : World} {b g o : Nat} {l : List Pc} {cap : Nat} {v : Value} (h : RdAt w b g o l cap v) (hl : l ≠ []) (G : Below w.heap.size w u) : RdAt u b g o l cap v :=
  ⟨h.two.keep G, h.pcs.keep (fun i => G.cell (p := ⟨g, i, none⟩) (h.pcs.lt hl)), h.cap, h.ne⟩

set_option maxHeartbeats 1000000 in
theorem here_any (b g o : Nat) (p : Pc) (l : List Pc) (cap : Nat) (v : Value) (w : World) (R : RdAt w b g o (p :: l) cap v) :
    Calls Tryd.prog 25 #[.pointer (some ⟨b, 0, none⟩)] w fun e w' => e = .returned (.agg (pcA p)) ∧ Below w.heap.size w w' := by
  have r0 := R.two.at0
  have r1 := R.two.at1
  obtain ⟨⟨c0, c1, c2, c3⟩, _⟩ := R.pcs 0 (by simp)
  have hg := R.pcs.lt (by simp)
  have hb := R.two.lt
  rw [show (p :: l).getD 0 noPc = p from rfl] at c0 c1 c2 c3
  rw [Nat.zero_mul, Nat.add_zero] at c0 c1 c2 c3
  obtain ⟨n, hn⟩ : ∃ n, (p :: l).length = n := ⟨_, rfl⟩
  have hn0 : 0 < n := by rw [← hn]; simp
  rw [hn] at r0
  clear R hn
  go_enter Tryd.func25, Tryd.ntmps25
  go_wp2
  refine bodyPost_ret (results_cell_row rfl _ _ w.heap.size 63 (pcA p) (0, 0) _ rfl (heap_alloc_new _ _) Tryd.underlying63 rfl infoPc) rfl ⟨rfl, galloc (Below.refl _ _) _⟩
theorem grown_set (w : World) (b o : Nat) (x : Value) : w.grownBy (w.setCell ⟨b, o, none⟩ x) (some b) :=
  ⟨rfl, rfl, rfl, by simp, fun k hk hne => Below.heap_setCell w ⟨b, o, none⟩ x k (fun e => hne (by rw [e]))⟩
theorem cell_other (w : World) (b o g i : Nat) (x : Value) (h : g ≠ b) : (w.setCell ⟨b, o, none⟩ x).cell? ⟨g, i, none⟩ = w.cell? ⟨g, i, none⟩ := by
  have := Below.heap_setCell w ⟨b, o, none⟩ x g h
  simp only [World.cell?, this]
set_option maxHeartbeats 1000000 in
theorem step_any (b g o : Nat) (p : Pc) (l : List Pc) (hl : l ≠ []) (cap : Nat) (v : Value) (w : World) (R : RdAt w b g o (p :: l) cap v) :
    Calls Tryd.prog 67 #[.pointer (some ⟨b, 0, none⟩)] w fun e w' => (∃ x, e = .returned x) ∧ RdAt w' b g (o + 4) l (cap - 1) v ∧ w.grownBy w' (some b) := by
  have r0 := R.two.at0
  have r1 := R.two.at1
  have hc := R.cap
  obtain ⟨n, hn⟩ : ∃ n, l.length = n := ⟨_, rfl⟩
  rw [List.length_cons, hn] at r0 hc
  have hf := R.two.free 0
  have hn1 : 0 < n := by rw [← hn]; exact List.length_pos_iff.2 hl
  have hc1 : ¬ cap = 1 := by omega
  go_enter Tryd.func67, Tryd.ntmps67
  go_wp2
  refine bodyPost_end (results_none rfl _ _ _) rfl ?_
  refine ⟨⟨_, rfl⟩, ⟨?_, ?_, by omega, R.ne⟩, grown_set _ _ _ _⟩
  · rw [hn]; exact R.two.set0 _
  · exact R.pcs.tail.keep (fun i => cell_other _ _ _ _ _ _ R.ne)

end Go.Proofs.YtkpnnofonocilaaDoor
