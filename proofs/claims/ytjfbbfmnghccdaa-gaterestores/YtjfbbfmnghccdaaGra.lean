/- The document's gate in memory: New, Mark, Closed, Len, Held, Flush, Advance. -/
import Derived.Test.YtjfbbfmnghccdaaGld
namespace Go.Proofs.Ytjfbbfmnghccdaa
open Go.RowKit Go.BigFrame Go.Maps
set_option linter.unusedVariables false
set_option linter.unusedSimpArgs false

/-- The document's gate: its list lies in a row of events that nobody writes. -/
def Mog (w : World) (m : Nat) (s : Gs) : Prop := ∃ ao cp, Bk w m #[.int .i64 s.cap, .int .i64 s.mark, .bool s.cl, .slice ao s.l.length cp] 117 ∧ Sl ao s.l.length cp ∧ Flat w ao (fl evC s.l) ∧ ∀ b o, ao = some ⟨b, o, none⟩ → ∃ cs fr, w.heap[b]? = some (.cells cs 29 fr)
theorem Mog.same {w u : World} {m : Nat} {s : Gs} (M : Mog w m s) (h : ∀ (k : Nat) (cs : Array Value) (t : TypeId) (fr : Nat × Nat), w.heap[k]? = some (.cells cs t fr) → (t = 29 ∨ k = m) → u.heap[k]? = w.heap[k]?) : Mog u m s := by
  obtain ⟨ao, cap, b, sl, F, t⟩ := M
  refine ⟨ao, cap, (h m _ _ _ b (.inr rfl)).trans b, sl, fun j v hv => ?_, fun b o e => ?_⟩
  · obtain ⟨g, o, e, c⟩ := F j v hv
    obtain ⟨cs, fr, hc⟩ := t g o e
    exact ⟨g, o, e, by rw [World.cell?_of_block (h g _ _ _ hc (.inl rfl))]; exact c⟩
  · obtain ⟨cs, fr, hc⟩ := t b o e
    exact ⟨cs, fr, (h b _ _ _ hc (.inl rfl)).trans hc⟩
theorem Mog.keep {w u : World} {m : Nat} {s : Gs} (M : Mog w m s) (G : Below w.heap.size w u) : Mog u m s := M.same fun k cs t fr hc _ => G.block k (lt_of_block hc)
theorem Mog.blk {w : World} {m : Nat} {s : Gs} (M : Mog w m s) : ∃ cs, Bk w m cs 117 := by obtain ⟨_, _, b, _⟩ := M; exact ⟨_, b⟩
theorem Mog.lt {w : World} {m : Nat} {s : Gs} (M : Mog w m s) : m < w.heap.size := by obtain ⟨_, b⟩ := M.blk; exact b.lt
/-- While a gate turns, the document's stays. -/
theorem Mog.frm {w u : World} {m g t : Nat} {S : Nat → Prop} {s s0 : Gs} (M : Mog w m s) (G : Gat w g S s0 t) (F : Frm S w u) : Mog u m s := by
  obtain ⟨cs0, b0⟩ := M.blk
  refine M.same fun k cs ty fr hc hk => F.blk k (lt_of_block hc) ?_
  rcases hk with h | h
  · subst h; exact G.far hc (by decide) (by decide) (by decide)
  · subst h; exact G.far b0 (by decide) (by decide) (by decide)
/-- While the document's turns, a gate stays. -/
theorem Gat.frmM {w u : World} {m g t : Nat} {S : Nat → Prop} {s s0 : Gs} (G : Gat w g S s0 t) (M : Mog w m s) (F : Frm (fun k => k = m) w u) : Gat u g S s0 t := by
  obtain ⟨cs0, b0⟩ := M.blk
  exact G.same F.size fun k e => F.blk k (G.lt k e) fun e' => by
    subst e'
    exact G.far b0 (by decide) (by decide) (by decide) e
theorem Mog_new (w : World) (cap : Int) : Mog (w.alloc (.cells #[.int .i64 cap, .int .i64 (-1152921504606846977), .bool false, .slice none 0 0] 117)) w.heap.size ⟨cap, -1152921504606846977, false, []⟩ :=
  ⟨none, 0, Bk.new w _ _, ⟨Nat.le_refl _, fun _ => ⟨rfl, rfl⟩⟩, Flat.nil _ _, fun b o e => by cases e⟩
theorem buildM (cap : Int) (w : World) : (Instr.build 117 #[(0, .int .i64 cap), (1, .int .i64 (-1152921504606846977))]).run Try.prog w = .ok (.agg #[.int .i64 cap, .int .i64 (-1152921504606846977), .bool false, .slice none 0 0]) w := by kernel_rfl
set_option maxHeartbeats 1000000 in
theorem refMark (m : Nat) (s : Gs) (w : World) (M : Mog w m s) : Calls Try.prog 68 #[.pointer (some ⟨m, 0, none⟩)] w fun e w' => e = .returned (.int .i64 s.mark) ∧ w' = w := by
  obtain ⟨ao, cap, b, _⟩ := M
  have c0 := b.at4.2.1
  go_enter Try.func68, Try.ntmps68
  go_wp2
  go_ret
  exact ⟨rfl, rfl⟩
set_option maxHeartbeats 1000000 in
theorem refClosed (m : Nat) (s : Gs) (w : World) (M : Mog w m s) : Calls Try.prog 69 #[.pointer (some ⟨m, 0, none⟩)] w fun e w' => e = .returned (.bool s.cl) ∧ w' = w := by
  obtain ⟨ao, cap, b, _⟩ := M
  have c0 := b.at4.2.2.1
  go_enter Try.func69, Try.ntmps69
  go_wp2
  go_ret
  exact ⟨rfl, rfl⟩
set_option maxHeartbeats 1000000 in
theorem refLenM (m : Nat) (s : Gs) (w : World) (M : Mog w m s) : Calls Try.prog 70 #[.pointer (some ⟨m, 0, none⟩)] w fun e w' => e = .returned (.int .i64 (s.l.length : Int)) ∧ w' = w := by
  obtain ⟨ao, cap, b, _⟩ := M
  have c0 := b.at4.2.2.2
  go_enter Try.func70, Try.ntmps70
  go_wp2
  go_ret
  exact ⟨rfl, rfl⟩
theorem tiny_room {n : Nat} (h : n ≤ 5000) : (n + n / 4 + 192) * 88 ≤ 281474976710656 := by
  have h1 : n / 4 ≤ 5000 := Nat.le_trans (Nat.div_le_self _ _) h
  refine Nat.le_trans (Nat.mul_le_mul_right 88 (show n + n / 4 + 192 ≤ 5000 + 5000 + 192 from Nat.add_le_add_right (Nat.add_le_add h h1) _)) (by decide)
set_option maxRecDepth 100000 in
set_option maxHeartbeats 1000000 in
theorem refHeld (m : Nat) (s : Gs) (w : World) (M : Mog w m s) (hl : s.l.length ≤ 4096) : Calls Try.prog 71 #[.pointer (some ⟨m, 0, none⟩)] w fun e w' => ∃ a c, e = .returned (.slice a s.l.length c) ∧ w'.ownsRow w.heap.size 29 11 (.slice a s.l.length c) s.l.length (fl evC s.l) ∧ Below w.heap.size w w' := by
  obtain ⟨ao, cap, b, hsl, F, _⟩ := M
  have c0 := b.at4.2.2.2
  have hb1 : Hid (((0 + s.l.length) + (0 + s.l.length) / 4 + 192) * 88 ≤ 281474976710656) := tiny_room (by omega)
  have hb2 : Hid (0 + s.l.length ≤ 9223372036854775807) := by unfold Hid; omega
  go_enter Try.func71, Try.ntmps71
  go_wp2_with (first
    | (at_builtin; refine wpList_append_flatw rfl (.tmp 4) (.tmp 8) rfl Try.underlying22 nfEv rfl (by decide) (.slice none 0 0) w.heap.size 0 [] rfl (World.ownsRow_nil _ _ _ _) (Nat.le_refl _) ao s.l.length cap (fl evC s.l) rfl hsl F (fl_len ev_size s.l) (fl_one ev_ones1 s.l) hb1.out hb2.out ?_; intro v' w6 O6 G6; rw [Nat.zero_add, List.nil_append] at O6; obtain ⟨a6, p6, rfl, _⟩ := own_form O6))
  go_ret
  exact ⟨a6, p6, rfl, O6, (Below.refl _ _).grown G6 (Nat.le_refl _) (fun k e => by simp [Value.ownBlock] at e)⟩
/-- What the document's Advance and Flush tell. -/
structure TelM (m : Nat) (w : World) (s' : Gs) (l : List Ev) (ao : Option Addr) (cp : Nat) (w' : World) : Prop where
  sl : Sl ao l.length cp
  flat : Flat w' ao (fl evC l)
  mod : Mog w' m s'
  frm : Frm (fun k => k = m) w w'
set_option maxRecDepth 100000 in
set_option maxHeartbeats 2000000 in
theorem refFlush (m : Nat) (s : Gs) (w : World) (M : Mog w m s) : Calls Try.prog 65 #[.pointer (some ⟨m, 0, none⟩)] w fun e w' => ∃ ao cp, e = .returned (.tuple #[.slice ao s.fluL.length cp, .int .i64 s.fluC]) ∧ TelM m w s.flu s.fluL ao cp w' := by
  obtain ⟨ao, cap, b, hsl, F, ht⟩ := id M
  have c3 := b.at4.2.2.2
  have c2 := b.at4.2.2.1
  have f1 := b.free 1
  have f2 := b.free 2
  have f3 := b.free 3
  have c1 := b.at4.2.1
  cases hc : s.cl with
  | true =>
    have eC : s.fluC = 101 := by unfold Gs.fluC; rw [if_pos hc]
    have e1 : s.fluL = [] := by unfold Gs.fluL; rw [if_pos hc]
    have e2 : s.flu = s := by unfold Gs.flu; rw [if_pos hc]
    rw [eC, e1, e2]
    rw [hc] at c2
    clear eC e1 e2
    go_enter Try.func65, Try.ntmps65
    go_wp2
    go_ret2
    exact ⟨none, 0, rfl, ⟨Nat.le_refl _, fun _ => ⟨rfl, rfl⟩⟩, Flat.nil _ _, M, Frm.refl _ _⟩
  | false =>
    have eC : s.fluC = 0 := by unfold Gs.fluC; rw [if_neg (by rw [hc]; decide)]
    have e1 : s.fluL = s.l := by unfold Gs.fluL; rw [if_neg (by rw [hc]; decide)]
    have e2 : s.flu = { s with mark := 1152921504606846976, cl := true, l := [] } := by unfold Gs.flu; rw [if_neg (by rw [hc]; decide)]
    rw [eC, e1, e2]
    rw [hc] at c2
    have b3 := ((b.set 3 (.slice none 0 0)).set 1 (.int .i64 1152921504606846976)).set 2 (.bool true)
    have ne : ∀ k, k ≠ m → ((((w.setCell ⟨m, 3, none⟩ (.slice none 0 0)).setCell ⟨m, 1, none⟩ (.int .i64 1152921504606846976)).setCell ⟨m, 2, none⟩ (.bool true)).heap[k]? = w.heap[k]?) := fun k hk => by
      rw [Below.heap_setCell _ _ _ k (by exact hk), Below.heap_setCell _ _ _ k (by exact hk), Below.heap_setCell _ _ _ k (by exact hk)]
    have hF : Frm (fun k => k = m) w (((w.setCell ⟨m, 3, none⟩ (.slice none 0 0)).setCell ⟨m, 1, none⟩ (.int .i64 1152921504606846976)).setCell ⟨m, 2, none⟩ (.bool true)) := ⟨rfl, rfl, rfl, by simp, fun k _ hk => ne k hk⟩
    have hFl : Flat (((w.setCell ⟨m, 3, none⟩ (.slice none 0 0)).setCell ⟨m, 1, none⟩ (.int .i64 1152921504606846976)).setCell ⟨m, 2, none⟩ (.bool true)) ao (fl evC s.l) := fun j v hv => by
      obtain ⟨g, o, e, c⟩ := F j v hv
      obtain ⟨cs, fr, hcc⟩ := ht g o e
      have hgm : g ≠ m := fun e' => by
        subst e'
        rw [show w.heap[g]? = _ from b] at hcc
        simp only [Option.some.injEq, Obj.cells.injEq] at hcc
        exact absurd hcc.2.1 (by decide)
      exact ⟨g, o, e, by rw [World.cell?_of_block (ne g hgm)]; exact c⟩
    have HF : Hid (TelM m w { s with mark := 1152921504606846976, cl := true, l := [] } s.l ao cap (((w.setCell ⟨m, 3, none⟩ (.slice none 0 0)).setCell ⟨m, 1, none⟩ (.int .i64 1152921504606846976)).setCell ⟨m, 2, none⟩ (.bool true))) := ⟨hsl, hFl, ⟨none, 0, b3, ⟨Nat.le_refl _, fun _ => ⟨rfl, rfl⟩⟩, Flat.nil _ _, fun b o e => by cases e⟩, hF⟩
    clear eC e1 e2 ne hF hFl b3
    go_enter Try.func65, Try.ntmps65
    go_wp2
    go_ret2
    exact ⟨ao, cap, rfl, HF⟩
theorem filt_take {m : Int} : ∀ {l : List Ev}, (l.Pairwise fun a b => evLt a b = true) → l.filter (atM m) = l.takeWhile (atM m) ∧ l.filter (fun e => !atM m e) = l.dropWhile (atM m)
  | [], _ => ⟨rfl, rfl⟩
  | y :: l, h => by
    obtain ⟨h1, h2⟩ := List.pairwise_cons.1 h
    obtain ⟨i1, i2⟩ := filt_take (m := m) h2
    by_cases hy : atM m y = true
    · rw [List.takeWhile_cons, List.dropWhile_cons, if_pos hy, if_pos hy, List.filter_cons, if_pos hy, i1, List.filter_cons, if_neg (by simp [hy]), i2]
      try exact ⟨rfl, rfl⟩
    · have hall : ∀ e ∈ l, ¬ atM m e = true := fun e he e1 => by
        have h3 := (evLt_iff _ _).1 (h1 e he)
        have h4 : e.ts ≤ m := of_decide_eq_true e1
        exact hy (decide_eq_true (by omega))
      rw [List.takeWhile_cons, List.dropWhile_cons, if_neg hy, if_neg hy, List.filter_cons, if_neg hy, List.filter_eq_nil_iff.2 hall, List.filter_cons, if_pos (by simpa using hy), List.filter_eq_self.2 (fun e he => by simpa using hall e he)]
      try exact ⟨rfl, rfl⟩
theorem filter_snoc {p : Ev → Bool} (l : List Ev) (x : Ev) : (l ++ [x]).filter p = l.filter p ++ if p x = true then [x] else [] := by
  rw [List.filter_append, List.filter_cons]
  by_cases h : p x = true
  · rw [if_pos h, if_pos h]; rfl
  · rw [if_neg h, if_neg h]; rfl

end Go.Proofs.Ytjfbbfmnghccdaa
