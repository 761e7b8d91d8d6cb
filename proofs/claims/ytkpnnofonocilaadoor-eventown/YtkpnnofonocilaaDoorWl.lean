/- The words of an event line; what the line reader's method next comes to. -/
import Derived.Test.YtkpnnofonocilaaDoorCp
import Derived.Test.YtkpnnofonocilaaDoorRd2
namespace Go.Proofs.YtkpnnofonocilaaDoor
open Go.RowKit Go.BigFrame
set_option linter.unusedVariables false
set_option linter.unusedSimpArgs false

def gapB (n : Int) : Bool := decide (n = 32 ∨ n = 9)
def ngB (n : Int) : Bool := !(gapB n)
/-- Where the next word begins, and where it ends. -/
def wA (s : ByteArray) (e : Nat) : Nat := scan gapB s s.size e
def wE (s : ByteArray) (e : Nat) : Nat := scan ngB s s.size (wA s e)
def wd (s : ByteArray) (e : Nat) : ByteArray := s.extract (wA s e) (wE s e)
theorem wA_le (s : ByteArray) (e : Nat) (h : e ≤ s.size) : e ≤ wA s e ∧ wA s e ≤ s.size := ⟨scan_ge _ _ _ _, scan_le _ _ _ _ h⟩
theorem wE_le (s : ByteArray) (e : Nat) (h : e ≤ s.size) : wA s e ≤ wE s e ∧ wE s e ≤ s.size := ⟨scan_ge _ _ _ _, scan_le _ _ _ _ (wA_le s e h).2⟩
theorem scan_out (f : Int → Bool) (s : ByteArray) : ∀ n k, s.size ≤ k + n → scan f s n k < s.size → f (at_ s (scan f s n k)) = false := by
  intro n
  induction n with
  | zero => intro k h1 h2; unfold scan at h2; omega
  | succ n ih =>
    intro k h1 h2
    unfold scan at h2 ⊢
    split
    · rename_i h
      rw [if_pos h] at h2
      exact ih (k + 1) (by omega) h2
    · rename_i h
      rw [if_neg h] at h2
      cases e : f (at_ s k)
      · rfl
      · exact absurd ⟨h2, e⟩ h
theorem wE_gt (s : ByteArray) (e : Nat) (h : wA s e < s.size) : wA s e < wE s e := by
  have h1 : gapB (at_ s (wA s e)) = false := scan_out gapB s s.size e (by omega) h
  unfold wE
  rw [scan_go ngB s (wA s e) h (by unfold ngB; rw [h1]; rfl)]
  have := scan_ge ngB s s.size (wA s e + 1)
  omega
/-- The reader in memory. -/
def Lr (w : World) (b : Nat) (s : ByteArray) (a e : Int) : Prop := w.heap[b]? = some (.cells #[.string s, .int .i64 a, .int .i64 e] 73 (0, 0))
theorem Lr.lt {w : World} {b : Nat} {s : ByteArray} {a e : Int} (h : Lr w b s a e) : b < w.heap.size := lt_of_block h
theorem Lr.at {w : World} {b : Nat} {s : ByteArray} {a e : Int} (h : Lr w b s a e) : w.cell? ⟨b, 0, none⟩ = some (.string s) ∧ w.cell? ⟨b, 1, none⟩ = some (.int .i64 a) ∧ w.cell? ⟨b, 2, none⟩ = some (.int .i64 e) := by
  unfold Lr at h
  refine ⟨?_, ?_, ?_⟩ <;> simp [World.cell?, h]
theorem Lr.free {w : World} {b : Nat} {s : ByteArray} {a e : Int} (h : Lr w b s a e) (o : Nat) : w.frozen? ⟨b, o, none⟩ = false := by unfold Lr at h; simp [World.frozen?, h]
theorem Lr.keep {w u : World} {b : Nat} {s : ByteArray} {a e : Int} (h : Lr w b s a e) (G : Below w.heap.size w u) : Lr u b s a e := (G.block b h.lt).trans h
theorem Lr.drew {w : World} {b : Nat} {s : ByteArray} {a e : Int} (h : Lr w b s a e) : Lr w.drew b s a e := h
theorem Lr.alloc {w : World} {b : Nat} {s : ByteArray} {a e : Int} (h : Lr w b s a e) (o : Obj) : Lr (w.alloc o) b s a e := (Below.heap_alloc w o b h.lt).trans h
theorem Lr.other {w : World} {b : Nat} {s : ByteArray} {a e : Int} (h : Lr w b s a e) {p : Addr} (hp : b ≠ p.block) (u : Value) : Lr (w.setCell p u) b s a e := (Below.heap_setCell w p u b hp).trans h
theorem Lr.set1 {w : World} {b : Nat} {s : ByteArray} {a e : Int} (h : Lr w b s a e) (x : Int) : Lr (w.setCell ⟨b, 1, none⟩ (.int .i64 x)) b s x e := by
  have hlt := h.lt
  unfold Lr at h
  have h' : w.heap[b] = .cells #[.string s, .int .i64 a, .int .i64 e] 73 (0, 0) := by simpa [Array.getElem?_eq_getElem hlt] using h
  show (w.heap.modify b _)[b]? = _
  rw [Array.getElem?_eq_getElem (by simpa using hlt), Array.getElem_modify_self, h']
  rfl
theorem Lr.set2 {w : World} {b : Nat} {s : ByteArray} {a e : Int} (h : Lr w b s a e) (x : Int) : Lr (w.setCell ⟨b, 2, none⟩ (.int .i64 x)) b s a x := by
  have hlt := h.lt
  unfold Lr at h
  have h' : w.heap[b] = .cells #[.string s, .int .i64 a, .int .i64 e] 73 (0, 0) := by simpa [Array.getElem?_eq_getElem hlt] using h
  show (w.heap.modify b _)[b]? = _
  rw [Array.getElem?_eq_getElem (by simpa using hlt), Array.getElem_modify_self, h']
  rfl
theorem Lr.new (w : World) (s : ByteArray) (a e : Int) : Lr (w.alloc (.cells #[.string s, .int .i64 a, .int .i64 e] 73)) w.heap.size s a e := by
  show (w.heap.push _)[w.heap.size]? = _
  simp
set_option maxHeartbeats 1000000 in
theorem isGap_any (n : Int) (w : World) : Calls Tryd.prog 80 #[.int .i32 n] w fun e w' => e = .returned (.bool (gapB n)) ∧ w = w' := by
  obtain ⟨v, hv⟩ : ∃ v, gapB n = v := ⟨_, rfl⟩
  rw [hv]
  have HV : Hid (gapB n = v) := hv
  clear hv
  cases a : (n == 32) <;> cases b : (n == 9)
  all_goals
    have HQ : Hid (n = 32 ∨ n = 9 ↔ ((n == 32) || (n == 9)) = true) := by show _ ↔ _; simp
    go_enter Tryd.func80, Tryd.ntmps80
    go_wp2
    go_ret
    refine ⟨congrArg (fun b => Ending.returned (Value.bool b)) (Eq.trans ?_ HV.out), rfl⟩
    have hq := HQ.out
    rw [a, b] at hq
    unfold gapB
    first | exact (decide_eq_true (hq.2 rfl)).symm | exact (decide_eq_false (fun h => by have := hq.1 h; cases this)).symm
theorem gap_lo {c : Int} (h : gapB c = true) : c < 128 := by
  unfold gapB at h
  have := of_decide_eq_true h
  omega
theorem gap_hi {c : Int} (h : 128 ≤ c) : gapB c = false := by
  cases e : gapB c
  · rfl
  · have := gap_lo e; omega
theorem rn_gap (s : ByteArray) (p : Nat) (h : p < s.size) : gapB (rn s p) = gapB (at_ s p) := by
  rcases lo_or_hi (at_ s p) with e | e
  · rw [(dec_lo s p h e).1]
  · rw [gap_hi e, gap_hi (dec_hi s p h e).1]
/-- A gap's rune is one byte. -/
theorem nx_gap (s : ByteArray) (p : Nat) (h : p < s.size) (hg : gapB (at_ s p) = true) : nx s p = p + 1 := (dec_lo s p h (gap_lo hg)).2
/-- Of a rune that is no gap no byte is one. -/
theorem nx_not (s : ByteArray) (p : Nat) (h : p < s.size) (hg : gapB (at_ s p) = false) : scan ngB s s.size p = scan ngB s s.size (nx s p) := by
  have hq := nx_gt s p h
  have := scan_skip ngB s (nx s p - p) p (fun j a b => by
    refine ⟨by omega, ?_⟩
    unfold ngB
    rcases lo_or_hi (at_ s p) with e | e
    · have := (dec_lo s p h e).2
      obtain rfl : j = p := by omega
      rw [hg]; rfl
    · rw [gap_hi ((dec_hi s p h e).2 j a (by omega))]; rfl)
  rw [show p + (nx s p - p) = nx s p by omega] at this
  exact this
theorem at_sub (s : ByteArray) (p j : Nat) (hp : p ≤ s.size) (h : j < (s.extract p s.size).size) : at_ (s.extract p s.size) j = at_ s (p + j) := by
  rw [ByteArray.size_extract] at h
  unfold at_
  simp only [ByteArray.data_extract, Array.getD_eq_getD_getElem?]
  rw [Array.getElem?_extract]
  rw [if_pos (show j < min s.size s.data.size - p from h)]
theorem scan_sub (f : Int → Bool) (s : ByteArray) (p : Nat) (hp : p ≤ s.size) : ∀ n k, k ≤ (s.extract p s.size).size → p + scan f (s.extract p s.size) n k = scan f s n (p + k) := by
  have hz : (s.extract p s.size).size = s.size - p := by rw [ByteArray.size_extract]; omega
  intro n
  induction n with
  | zero => intro k _; rfl
  | succ n ih =>
    intro k hk
    unfold scan
    by_cases h : k < (s.extract p s.size).size
    · rw [at_sub s p k hp h]
      by_cases h2 : f (at_ s (p + k)) = true
      · rw [if_pos ⟨h, h2⟩, if_pos ⟨by omega, h2⟩, ih (k + 1) (by omega), show p + (k + 1) = p + k + 1 by omega]
      · rw [if_neg (fun e => h2 e.2), if_neg (fun e => h2 e.2)]
    · rw [if_neg (fun e => h e.1), if_neg (fun e => by omega)]
/-- The word in the rest of the line. -/
theorem word_sub (s : ByteArray) (p : Nat) (hp : p ≤ s.size) : p + wA (s.extract p s.size) 0 = wA s p ∧ p + wE (s.extract p s.size) 0 = wE s p := by
  have hz : (s.extract p s.size).size = s.size - p := by rw [ByteArray.size_extract]; omega
  have h1 : p + wA (s.extract p s.size) 0 = wA s p := by
    unfold wA
    rw [scan_sub gapB s p hp _ 0 (Nat.zero_le _), Nat.add_zero]
    exact scan_fuel gapB s _ _ p (by omega) (by omega)
  refine ⟨h1, ?_⟩
  unfold wE
  rw [scan_sub ngB s p hp _ _ (wA_le _ 0 (Nat.zero_le _)).2, h1]
  have := wA_le s p hp
  exact scan_fuel ngB s _ _ _ (by omega) (by omega)

end Go.Proofs.YtkpnnofonocilaaDoor
