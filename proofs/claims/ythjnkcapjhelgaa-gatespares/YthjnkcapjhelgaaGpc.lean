/- A gate in memory; isSafe, holds, hold. -/
import Derived.Test.YthjnkcapjhelgaaGpb
import Derived.Test.YthjnkcapjhelgaaHpn
import Derived.Test.YthjnkcapjhelgaaHlg
import Derived.Test.YthjnkcapjhelgaaQt
namespace Go.Proofs.Ythjnkcapjhelgaa
open Go.RowKit Go.BigFrame Go.Maps
set_option linter.unusedVariables false
set_option linter.unusedSimpArgs false

/-- Of what was there only blocks of S have turned. -/
structure Frm (S : Nat → Prop) (w u : World) : Prop where
  os : u.os = w.os
  tape : u.tape = w.tape
  output : u.output = w.output
  size : w.heap.size ≤ u.heap.size
  blk : ∀ k, k < w.heap.size → ¬ S k → u.heap[k]? = w.heap[k]?
section
variable {S S' : Nat → Prop} {w u x : World}
theorem Frm.of (h : Below w.heap.size w u) : Frm S w u := ⟨h.os, h.tape, h.output, h.size, fun k hk _ => h.block k hk⟩
theorem Frm.refl (S : Nat → Prop) (w : World) : Frm S w w := ⟨rfl, rfl, rfl, Nat.le_refl _, fun _ _ _ => rfl⟩
theorem Frm.trans (h : Frm S w u) (k : Frm S' u x) (hs : ∀ j, S' j → S j ∨ w.heap.size ≤ j) : Frm S w x :=
  ⟨k.os.trans h.os, k.tape.trans h.tape, k.output.trans h.output, Nat.le_trans h.size k.size, fun j h1 h2 => (k.blk j (Nat.lt_of_lt_of_le h1 h.size) (fun e => by
    rcases hs j e with e' | e'
    · exact h2 e'
    · omega)).trans (h.blk j h1 h2)⟩
theorem Frm.below (h : Frm S w u) (k : Below u.heap.size u x) : Frm S w x := h.trans (S' := S) (Frm.of k) fun j e => .inl e
theorem Frm.first (k : Below w.heap.size w u) (h : Frm S u x) : Frm S w x := (Frm.of (S := S) k).trans h fun j e => .inl e
theorem Frm.mono (h : Frm S w u) (hs : ∀ j, S j → S' j) : Frm S' w u := ⟨h.os, h.tape, h.output, h.size, fun k h1 h2 => h.blk k h1 fun e => h2 (hs k e)⟩
theorem Frm.toBelow {N : Nat} {w0 : World} (F : Frm S w u) (B : Below N w0 w) (hN : N ≤ w0.heap.size) (hS : ∀ j, S j → N ≤ j) : Below N w0 u :=
  ⟨F.os.trans B.os, F.tape.trans B.tape, F.output.trans B.output, Nat.le_trans B.size F.size, fun k hk => (F.blk k (Nat.lt_of_lt_of_le hk (Nat.le_trans hN B.size)) (fun e => by have := hS k e; omega)).trans (B.block k hk)⟩
theorem Frm.bk (F : Frm S w u) {b : Nat} {cs : Array Value} {t : TypeId} (h : Bk w b cs t) (hn : ¬ S b) : Bk u b cs t := (F.blk b h.lt hn).trans h
end
/-- The cells of a gate. -/
def gtC (p b : Nat) (s : Gs) : Array Value := #[.pointer (some ⟨p, 0, none⟩), .map (some b), .int .i64 s.cap, .int .i64 s.mark, .bool s.cl]
/-- A gate in memory. -/
structure GatI (w : World) (g p b base : Nat) (v : Value) (L : List (Ev × Nat)) (t : Nat) (s : Gs) : Prop where
  blk : Bk w g (gtC p b s) 76
  pile : evPa w p base v L t
  names : MpN w b t s.l
  fst : L.map Prod.fst = s.l
  len : L.length ≤ t
  bs : base ≤ w.heap.size
def foot (g p b : Nat) (v : Value) (k : Nat) : Prop := k = g ∨ k = p ∨ k = b ∨ v.ownBlock = some k
/-- What the blocks of a gate are. -/
theorem GatI.far {w : World} {g p b base : Nat} {v : Value} {L : List (Ev × Nat)} {t : Nat} {s : Gs} (G : GatI w g p b base v L t s) {k : Nat} {cs : Array Value} {T : TypeId} {fr : Nat × Nat} (h : w.heap[k]? = some (.cells cs T fr)) (h1 : T ≠ 76) (h2 : T ≠ 97) (h3 : T ≠ 101) : ¬ foot g p b v k := by
  rintro (e | e | e | e)
  · subst e
    rw [show w.heap[k]? = _ from G.blk] at h
    simp only [Option.some.injEq, Obj.cells.injEq] at h
    exact h1 h.2.1.symm
  · subst e
    rw [show w.heap[k]? = _ from G.pile.blk] at h
    simp only [Option.some.injEq, Obj.cells.injEq] at h
    exact h2 h.2.1.symm
  · subst e
    exact G.names.notCells h
  · obtain ⟨xs, R⟩ := G.pile.row
    rcases R.2 with ⟨rfl, _⟩ | ⟨g1, c1, cur1, rfl, _, hh1, _⟩
    · simp [Value.ownBlock] at e
    · have : g1 = k := by simpa [Value.ownBlock] using e
      subst this
      rw [hh1] at h
      simp only [Option.some.injEq, Obj.cells.injEq] at h
      exact h3 h.2.1.symm
theorem GatI.lt {w : World} {g p b base : Nat} {v : Value} {L : List (Ev × Nat)} {t : Nat} {s : Gs} (G : GatI w g p b base v L t s) : ∀ k, foot g p b v k → k < w.heap.size := by
  rintro k (e | e | e | e)
  · rw [e]; exact G.blk.lt
  · rw [e]; exact G.pile.blk.lt
  · rw [e]; exact G.names.lt
  · obtain ⟨xs, R⟩ := G.pile.row
    exact (World.ownsRow.lt R k e).2
theorem GatI.same {w u : World} {g p b base : Nat} {v : Value} {L : List (Ev × Nat)} {t : Nat} {s : Gs} (G : GatI w g p b base v L t s) (hz : w.heap.size ≤ u.heap.size) (h : ∀ k, foot g p b v k → u.heap[k]? = w.heap[k]?) : GatI u g p b base v L t s :=
  ⟨(h g (.inl rfl)).trans G.blk, G.pile.same (h p (.inr (.inl rfl))) (fun k e => h k (.inr (.inr (.inr e)))), G.names.of_block (h b (.inr (.inr (.inl rfl)))), G.fst, G.len, Nat.le_trans G.bs hz⟩
theorem GatI.keep {w u : World} {g p b base : Nat} {v : Value} {L : List (Ev × Nat)} {t : Nat} {s : Gs} (G : GatI w g p b base v L t s) (B : Below w.heap.size w u) : GatI u g p b base v L t s := G.same B.size fun k e => B.block k (G.lt k e)
/-- A gate at g that holds s; S: its blocks; t bounds its pushes. -/
def Gat (w : World) (g : Nat) (S : Nat → Prop) (s : Gs) (t : Nat) : Prop := s.ok ∧ ∃ p b base v L t0, t0 ≤ t ∧ S = foot g p b v ∧ GatI w g p b base v L t0 s
theorem Gat.mono {w : World} {g : Nat} {S : Nat → Prop} {s : Gs} {t t' : Nat} (G : Gat w g S s t) (h : t ≤ t') : Gat w g S s t' := by
  obtain ⟨h0, p, b, base, v, L, t0, ht, e, G⟩ := G
  exact ⟨h0, p, b, base, v, L, t0, Nat.le_trans ht h, e, G⟩
theorem Gat.keep {w u : World} {g : Nat} {S : Nat → Prop} {s : Gs} {t : Nat} (G : Gat w g S s t) (B : Below w.heap.size w u) : Gat u g S s t := by
  obtain ⟨h, p, b, base, v, L, t0, ht, e, G⟩ := G
  exact ⟨h, p, b, base, v, L, t0, ht, e, G.keep B⟩
theorem Gat.lt {w : World} {g : Nat} {S : Nat → Prop} {s : Gs} {t : Nat} (G : Gat w g S s t) : ∀ k, S k → k < w.heap.size := by
  obtain ⟨h, p, b, base, v, L, t0, ht, rfl, G⟩ := G
  exact G.lt
theorem Gat.same {w u : World} {g : Nat} {S : Nat → Prop} {s : Gs} {t : Nat} (G : Gat w g S s t) (hz : w.heap.size ≤ u.heap.size) (h : ∀ k, S k → u.heap[k]? = w.heap[k]?) : Gat u g S s t := by
  obtain ⟨h0, p, b, base, v, L, t0, ht, rfl, G⟩ := G
  exact ⟨h0, p, b, base, v, L, t0, ht, rfl, G.same hz h⟩
theorem Gat.far {w : World} {g : Nat} {S : Nat → Prop} {s : Gs} {t : Nat} (G : Gat w g S s t) {k : Nat} {cs : Array Value} {T : TypeId} {fr : Nat × Nat} (h : w.heap[k]? = some (.cells cs T fr)) (h1 : T ≠ 76) (h2 : T ≠ 97) (h3 : T ≠ 101) : ¬ S k := by
  obtain ⟨h0, p, b, base, v, L, t0, ht, rfl, G⟩ := G
  exact G.far h h1 h2 h3
def safeB (ts : Int) : Bool := decide (-1152921504606846976 ≤ ts ∧ ts ≤ 1152921504606846976)
set_option maxHeartbeats 400000 in
theorem isSafe_any (ts : Int) (w : World) : Calls Try.prog 29 #[.int .i64 ts] w fun e w' => e = .returned (.bool (safeB ts)) ∧ w' = w := by
  by_cases h1 : -1152921504606846976 ≤ ts
  · by_cases h2 : ts ≤ 1152921504606846976
    · have hv : safeB ts = true := decide_eq_true ⟨h1, h2⟩
      rw [hv]; clear hv
      go_enter Try.func29, Try.ntmps29
      go_wp2
      go_ret
      exact ⟨rfl, rfl⟩
    · have hv : safeB ts = false := decide_eq_false (by omega)
      rw [hv]; clear hv
      go_enter Try.func29, Try.ntmps29
      go_wp2
      go_ret
      exact ⟨rfl, rfl⟩
  · have hv : safeB ts = false := decide_eq_false (by omega)
    rw [hv]; clear hv
    go_enter Try.func29, Try.ntmps29
    go_wp2
    go_ret
    exact ⟨rfl, rfl⟩
set_option maxHeartbeats 1000000 in
theorem holds_any (g b n : Nat) (l : List Ev) (c0 c2 c3 c4 : Value) (ts id : Int) (w : World) (B : Bk w g #[c0, .map (some b), c2, c3, c4] 76) (M : MpN w b n l) (h : okN ts id) :
    Calls Try.prog 30 #[.pointer (some ⟨g, 0, none⟩), nmV ts id] w fun e w' => e = .returned (.bool (hasN l ts id)) ∧ Below w.heap.size w w' := by
  have G0 := galloc (Below.refl w.heap.size w) (.cells #[.int .i64 ts, .int .u64 id] 80)
  have b3 := Bk.new w #[.int .i64 ts, .int .u64 id] 80
  have MV := M.keep G0
  have gV := B.keep G0
  unfold nmV
  go_enter Try.func30, Try.ntmps30
  go_upto_region 1 with fail
  generalize w.alloc _ = V at *
  have l0 := (show MpN V.drew b n l from MV.of_block rfl).look h
  have l1 := fun o : Obj => (show MpN (V.alloc o).drew b n l from (MV.keep (galloc (Below.refl _ _) o)).of_block rfl).look h
  unfold nmV at l0 l1
  have d1 := gV.at5.2.1
  have d2 := b3.at2.1
  have d3 := b3.at2.2
  have hgl := gV.lt
  have hbl := b3.lt
  go_region
  all_goals
    go_wp2
    go_ret
    exact ⟨rfl, gtrans G0 ((galloc (Below.refl _ _) _).drew)⟩

end Go.Proofs.Ythjnkcapjhelgaa
