/- The law's twinQuery. And what goes with it: 5 texts in one. -/
import Derived.Test.YtglagbedgjkdbaaGreatDoorJb29
import Derived.Deep.Onto
namespace Go.Proofs.YtglagbedgjkdbaaGreatDoor
open Go.RowKit Go.BigFrame
set_option linter.unusedVariables false
set_option linter.unusedSimpArgs false

/-- The cells of a row of items. -/
theorem its_cells {w : World} {ao : Option Addr} {l : List It} (A : IsIts w ao l) : ∀ k, k ≤ l.length → ∃ xs : List Value, xs.length = k * 5 ∧ Flat w ao xs ∧ (∀ u ∈ xs, u.oneCell' = true) ∧ ∀ j, j < k → ∃ a c, (∀ r, r < 5 → xs[j * 5 + r]? = (itC (l.getD j noIt) a c).toList[r]?) ∧ IsSs w a (l.getD j noIt).ty ∧ Sl a (l.getD j noIt).ty.length c
  | 0, _ => ⟨[], rfl, Flat.nil _ _, fun u hu => (by cases hu), fun j hj => absurd hj (Nat.not_lt_zero _)⟩
  | k + 1, hk => by
    obtain ⟨xs, h1, h2, h3, h4⟩ := its_cells A k (by omega)
    obtain ⟨g, o, rfl, a, c, x0, x1, x2, x3, x4, I, sl⟩ := A k (by omega)
    have hl : (itC (l.getD k noIt) a c).toList.length = 5 := rfl
    refine ⟨xs ++ (itC (l.getD k noIt) a c).toList, by rw [List.length_append, h1, hl]; omega, fun j u hu => ?_, fun u hu => ?_, fun j hj => ?_⟩
    · by_cases hj : j < k * 5
      · rw [List.getElem?_append_left (by omega)] at hu
        exact h2 j u hu
      · rw [List.getElem?_append_right (by omega), h1] at hu
        have hlt := (List.getElem?_eq_some_iff.1 hu).1
        rw [hl] at hlt
        obtain ⟨r, hr, hr2⟩ : ∃ r, j - k * 5 = r ∧ j = k * 5 + r := ⟨j - k * 5, rfl, by omega⟩
        rw [hr] at hu hlt
        subst hr2
        refine ⟨g, o, rfl, ?_⟩
        rw [← Nat.add_assoc]
        rcases (show r = 0 ∨ r = 1 ∨ r = 2 ∨ r = 3 ∨ r = 4 from by omega) with rfl | rfl | rfl | rfl | rfl
        · rw [Nat.add_zero, x0, ← hu]; rfl
        · rw [x1, ← hu]; rfl
        · rw [x2, ← hu]; rfl
        · rw [x3, ← hu]; rfl
        · rw [x4, ← hu]; rfl
    · rcases List.mem_append.1 hu with hu | hu
      · exact h3 u hu
      · exact it_one _ _ _ u hu
    · by_cases hjk : j < k
      · obtain ⟨a', c', e1, e2, e3⟩ := h4 j hjk
        exact ⟨a', c', fun r hr => by rw [List.getElem?_append_left (by omega)]; exact e1 r hr, e2, e3⟩
      · obtain rfl : j = k := by omega
        exact ⟨a, c, fun r hr => by rw [List.getElem?_append_right (by omega), h1, Nat.add_sub_cancel_left], I, sl⟩
/-- A row of items of one's own whose types lie where they lay. -/
theorem own_its2 {w : World} {b : Nat} {ao : Option Addr} {c : Nat} {l : List It} {vs : List Value} (h : w.ownsRow b 70 5 (.slice ao l.length c) l.length vs) (hin : ∀ j, j < l.length → ∃ a c', (∀ r, r < 5 → vs[j * 5 + r]? = (itC (l.getD j noIt) a c').toList[r]?) ∧ IsSs w a (l.getD j noIt).ty ∧ Sl a (l.getD j noIt).ty.length c') : IsIts w ao l := fun i hi => by
  obtain ⟨a, c', e, I, s⟩ := hin i hi
  rcases h.2 with ⟨h1, h2⟩ | ⟨g, c2, cur, h1, _, _, _, _⟩
  · omega
  · cases h1
    have hc : ∀ r, r < 5 → w.cell? ⟨g, i * 5 + r, none⟩ = (itC (l.getD i noIt) a c').toList[r]? := fun r hr => by rw [World.ownsRow.cellAt h (i * 5 + r) (by omega), e r hr]
    refine ⟨g, 0, rfl, a, c', ?_⟩
    rw [Nat.zero_add]
    exact ⟨hc 0 (by omega), hc 1 (by omega), hc 2 (by omega), hc 3 (by omega), hc 4 (by omega), I, s⟩
set_option maxRecDepth 100000 in
set_option maxHeartbeats 8000000 in
theorem twinQ7_any (q : Qy) (hq : q.fit) (cs : Array Value) (ai : Option Addr) (ci : Nat) (aw : Option Addr) (cw : Nat) (ar : Option Addr) (cr : Nat) (w : World) (A : IsQ w q cs ai ci aw cw ar cr) :
    Calls Tryz.prog 18 #[.agg cs] w fun e w' => ∃ ai' ci', e = .returned (.agg #[.slice ai' q.items.length ci', .int .i64 q.mode, .int .i64 q.after, .slice aw q.wh.length cw, .int .i64 q.within, .string q.by_, .slice ar q.ret.length cr]) ∧ IsQ w' q #[.slice ai' q.items.length ci', .int .i64 q.mode, .int .i64 q.after, .slice aw q.wh.length cw, .int .i64 q.within, .string q.by_, .slice ar q.ret.length cr] ai' ci' aw cw ar cr ∧ Below w.heap.size w w' := by
  obtain ⟨he, Ai, Aw, Ar, si, sw, sr⟩ := A
  subst he
  have hnn := hq.n
  obtain ⟨xs, h1, h2, h3, h4⟩ := its_cells Ai q.items.length (Nat.le_refl _)
  obtain ⟨n, hn⟩ : ∃ n, q.items.length = n := ⟨_, rfl⟩
  have HN := show Hid (_ = _) from hn
  rw [hn] at si h1 h4 hnn ⊢
  have T0 := Bk.newE (w := (w.alloc (.cells #[.slice ai n ci, .int .i64 q.mode, .int .i64 q.after, .slice aw q.wh.length cw, .int .i64 q.within, .string q.by_, .slice ar q.ret.length cr] 31)).alloc (.cells #[.slice none 0 0, .int .i64 0, .int .i64 0, .slice none 0 0, .int .i64 0, .string ⟨#[]⟩, .slice none 0 0] 31)) (g := w.heap.size + 1 + 1) (by simp) #[.slice ai n ci, .int .i64 q.mode, .int .i64 q.after, .slice aw q.wh.length cw, .int .i64 q.within, .string q.by_, .slice ar q.ret.length cr] 31
  have R0 := (Bk.newE (w := w.alloc (.cells #[.slice ai n ci, .int .i64 q.mode, .int .i64 q.after, .slice aw q.wh.length cw, .int .i64 q.within, .string q.by_, .slice ar q.ret.length cr] 31)) (g := w.heap.size + 1) (by simp) #[.slice none 0 0, .int .i64 0, .int .i64 0, .slice none 0 0, .int .i64 0, .string ⟨#[]⟩, .slice none 0 0] 31).alloc (.cells #[.slice ai n ci, .int .i64 q.mode, .int .i64 q.after, .slice aw q.wh.length cw, .int .i64 q.within, .string q.by_, .slice ar q.ret.length cr] 31)
  have S0 := ((Bk.new w #[.slice ai n ci, .int .i64 q.mode, .int .i64 q.after, .slice aw q.wh.length cw, .int .i64 q.within, .string q.by_, .slice ar q.ret.length cr] 31).alloc (.cells #[.slice none 0 0, .int .i64 0, .int .i64 0, .slice none 0 0, .int .i64 0, .string ⟨#[]⟩, .slice none 0 0] 31)).alloc (.cells #[.slice ai n ci, .int .i64 q.mode, .int .i64 q.after, .slice aw q.wh.length cw, .int .i64 q.within, .string q.by_, .slice ar q.ret.length cr] 31)
  have B0 := galloc (galloc (galloc (Below.refl w.heap.size w) (.cells #[.slice ai n ci, .int .i64 q.mode, .int .i64 q.after, .slice aw q.wh.length cw, .int .i64 q.within, .string q.by_, .slice ar q.ret.length cr] 31)) (.cells #[.slice none 0 0, .int .i64 0, .int .i64 0, .slice none 0 0, .int .i64 0, .string ⟨#[]⟩, .slice none 0 0] 31)) (.cells #[.slice ai n ci, .int .i64 q.mode, .int .i64 q.after, .slice aw q.wh.length cw, .int .i64 q.within, .string q.by_, .slice ar q.ret.length cr] 31)
  go_enter Tryz.func18, Tryz.ntmps18
  go_upto_region 2 with fail
  have hzZ : (((w.alloc (.cells #[.slice ai n ci, .int .i64 q.mode, .int .i64 q.after, .slice aw q.wh.length cw, .int .i64 q.within, .string q.by_, .slice ar q.ret.length cr] 31)).alloc (.cells #[.slice none 0 0, .int .i64 0, .int .i64 0, .slice none 0 0, .int .i64 0, .string ⟨#[]⟩, .slice none 0 0] 31)).alloc (.cells #[.slice ai n ci, .int .i64 q.mode, .int .i64 q.after, .slice aw q.wh.length cw, .int .i64 q.within, .string q.by_, .slice ar q.ret.length cr] 31)).heap.size = w.heap.size + 3 := by simp
  generalize ((w.alloc (.cells #[.slice ai n ci, .int .i64 q.mode, .int .i64 q.after, .slice aw q.wh.length cw, .int .i64 q.within, .string q.by_, .slice ar q.ret.length cr] 31)).alloc (.cells #[.slice none 0 0, .int .i64 0, .int .i64 0, .slice none 0 0, .int .i64 0, .string ⟨#[]⟩, .slice none 0 0] 31)).alloc (.cells #[.slice ai n ci, .int .i64 q.mode, .int .i64 q.after, .slice aw q.wh.length cw, .int .i64 q.within, .string q.by_, .slice ar q.ret.length cr] 31) = Z at *
  have s0 : ∀ o, (Z.alloc o).cell? ⟨w.heap.size, 0, none⟩ = some (.slice ai n ci) := fun o => (S0.alloc o).at7.1
  have O0 : (Z.alloc (.cells #[] 70)).ownsRow (w.heap.size + 3) 70 5 (.slice (some ⟨w.heap.size + 3, 0, none⟩) 0 0) 0 [] := by
    have := World.ownsRow_made (e := 70) (size := 5) (base := w.heap.size + 3) Z #[] 0 (by omega) (Nat.zero_le _) rfl
    rw [hzZ] at this
    exact this
  have F0 := (h2.keep B0).keep (galloc (Below.refl Z.heap.size Z) (.cells #[] 70))
  go_upto_region 3 with (at_builtin; refine wpList_append_flat rfl (.tmp 5) (.tmp 7) rfl Tryz.underlying25 nf_it rfl (by decide) (.slice (some ⟨w.heap.size + 3, 0, none⟩) 0 0) (w.heap.size + 3) 0 [] rfl O0 (by simp; omega) ai n ci xs rfl si F0 h1 h3 (by omega) (by omega) ?_; intro v5 w6 hown6 hgrow6; rw [Nat.zero_add, List.nil_append] at hown6; obtain ⟨a5, c5, rfl, _, _, _⟩ := own_form hown6; have hb6 := fun j (hj : j < w.heap.size + 3) => hgrow6.block j (by simp; omega) (fun e => by simp [Value.ownBlock] at e; omega); have T6 : Bk w6 (w.heap.size + 1 + 1) #[.slice ai n ci, .int .i64 q.mode, .int .i64 q.after, .slice aw q.wh.length cw, .int .i64 q.within, .string q.by_, .slice ar q.ret.length cr] 31 := (hb6 _ (by omega)).trans (T0.alloc _); have R6 : Bk w6 (w.heap.size + 1) #[.slice none 0 0, .int .i64 0, .int .i64 0, .slice none 0 0, .int .i64 0, .string ⟨#[]⟩, .slice none 0 0] 31 := (hb6 _ (by omega)).trans (R0.alloc _); obtain ⟨t0, _⟩ := T6.at7; have t1 := T6.free 0)
  have G6 : Below w.heap.size w w6 := (galloc B0 _).grown hgrow6 (by simp; omega) (fun r e => by simp [Value.ownBlock] at e; omega)
  have GX := gset G6 (p := ⟨w.heap.size + 1 + 1, 0, none⟩) (by dsimp only; omega) (.slice a5 n c5)
  have TX := T6.set 0 (.slice a5 n c5)
  have BT := (But.refl (w.heap.size + 1 + 1) w6).set 0 (.slice a5 n c5)
  have RX : Bk (w6.setCell ⟨w.heap.size + 1 + 1, 0, none⟩ (.slice a5 n c5)) (w.heap.size + 1) #[.slice none 0 0, .int .i64 0, .int .i64 0, .slice none 0 0, .int .i64 0, .string ⟨#[]⟩, .slice none 0 0] 31 := (BT _ (by omega)).trans R6
  have OX := own_but hown6 T6 (by decide) BT
  clear hown6 hgrow6 hb6 t0 t1 S0 T0 R0 s0 O0 F0 T6 R6 G6 BT B0
  replace TX : Bk (w6.setCell ⟨w.heap.size + 1 + 1, 0, none⟩ (.slice a5 n c5)) (w.heap.size + 1 + 1) #[.slice a5 n c5, .int .i64 q.mode, .int .i64 q.after, .slice aw q.wh.length cw, .int .i64 q.within, .string q.by_, .slice ar q.ret.length cr] 31 := TX
  generalize w6.setCell ⟨w.heap.size + 1 + 1, 0, none⟩ (.slice a5 n c5) = wr at *
  obtain ⟨t0, t1, t2, t3, t4, t5, t6⟩ := TX.at7
  obtain ⟨r0, r1, r2, r3, r4, r5, r6⟩ := RX.at7
  have q0 := RX.free 0
  have q1 := RX.free 1
  have q2 := RX.free 2
  have q3 := RX.free 3
  have q4 := RX.free 4
  have q5 := RX.free 5
  have q6 := RX.free 6
  have BE := (((((((But.refl (w.heap.size + 1) wr).set 0 (.slice a5 n c5)).set 1 (.int .i64 q.mode)).set 2 (.int .i64 q.after)).set 3 (.slice aw q.wh.length cw)).set 4 (.int .i64 q.within)).set 5 (.string q.by_)).set 6 (.slice ar q.ret.length cr)
  have RE := ((((((RX.set 0 (.slice a5 n c5)).set 1 (.int .i64 q.mode)).set 2 (.int .i64 q.after)).set 3 (.slice aw q.wh.length cw)).set 4 (.int .i64 q.within)).set 5 (.string q.by_)).set 6 (.slice ar q.ret.length cr)
  have GE := gset (gset (gset (gset (gset (gset (gset (GX) (p := ⟨w.heap.size + 1, 0, none⟩) (by dsimp only; omega) (.slice a5 n c5)) (p := ⟨w.heap.size + 1, 1, none⟩) (by dsimp only; omega) (.int .i64 q.mode)) (p := ⟨w.heap.size + 1, 2, none⟩) (by dsimp only; omega) (.int .i64 q.after)) (p := ⟨w.heap.size + 1, 3, none⟩) (by dsimp only; omega) (.slice aw q.wh.length cw)) (p := ⟨w.heap.size + 1, 4, none⟩) (by dsimp only; omega) (.int .i64 q.within)) (p := ⟨w.heap.size + 1, 5, none⟩) (by dsimp only; omega) (.string q.by_)) (p := ⟨w.heap.size + 1, 6, none⟩) (by dsimp only; omega) (.slice ar q.ret.length cr)
  have RE' : Bk (((((((wr.setCell ⟨w.heap.size + 1, 0, none⟩ (.slice a5 n c5)).setCell ⟨w.heap.size + 1, 1, none⟩ (.int .i64 q.mode)).setCell ⟨w.heap.size + 1, 2, none⟩ (.int .i64 q.after)).setCell ⟨w.heap.size + 1, 3, none⟩ (.slice aw q.wh.length cw)).setCell ⟨w.heap.size + 1, 4, none⟩ (.int .i64 q.within)).setCell ⟨w.heap.size + 1, 5, none⟩ (.string q.by_)).setCell ⟨w.heap.size + 1, 6, none⟩ (.slice ar q.ret.length cr)) (w.heap.size + 1) #[.slice a5 n c5, .int .i64 q.mode, .int .i64 q.after, .slice aw q.wh.length cw, .int .i64 q.within, .string q.by_, .slice ar q.ret.length cr] 31 := RE
  obtain ⟨e0, e1, e2, e3, e4, e5, e6⟩ := RE'.at7
  have O9 := own_but OX RX (by decide) BE
  have O9' : World.ownsRow (((((((wr.setCell ⟨w.heap.size + 1, 0, none⟩ (.slice a5 n c5)).setCell ⟨w.heap.size + 1, 1, none⟩ (.int .i64 q.mode)).setCell ⟨w.heap.size + 1, 2, none⟩ (.int .i64 q.after)).setCell ⟨w.heap.size + 1, 3, none⟩ (.slice aw q.wh.length cw)).setCell ⟨w.heap.size + 1, 4, none⟩ (.int .i64 q.within)).setCell ⟨w.heap.size + 1, 5, none⟩ (.string q.by_)).setCell ⟨w.heap.size + 1, 6, none⟩ (.slice ar q.ret.length cr)) (w.heap.size + 3) 70 5 (.slice a5 q.items.length c5) q.items.length xs := by rw [HN.out]; exact O9
  have I9 := own_its2 O9' (fun j hj => by
    obtain ⟨a, c, y1, y2, y3⟩ := h4 j (by rw [← HN.out]; exact hj)
    exact ⟨a, c, y1, y2.keep GE, y3⟩)
  have fin : IsQ (((((((wr.setCell ⟨w.heap.size + 1, 0, none⟩ (.slice a5 n c5)).setCell ⟨w.heap.size + 1, 1, none⟩ (.int .i64 q.mode)).setCell ⟨w.heap.size + 1, 2, none⟩ (.int .i64 q.after)).setCell ⟨w.heap.size + 1, 3, none⟩ (.slice aw q.wh.length cw)).setCell ⟨w.heap.size + 1, 4, none⟩ (.int .i64 q.within)).setCell ⟨w.heap.size + 1, 5, none⟩ (.string q.by_)).setCell ⟨w.heap.size + 1, 6, none⟩ (.slice ar q.ret.length cr)) q #[.slice a5 q.items.length c5, .int .i64 q.mode, .int .i64 q.after, .slice aw q.wh.length cw, .int .i64 q.within, .string q.by_, .slice ar q.ret.length cr] a5 c5 aw cw ar cr := ⟨rfl, I9, Aw.keep GE, Ar.keep GE, own_sl O9', sw, sr⟩
  rw [HN.out] at fin
  have FIN := show Hid _ from fin
  clear BE RE O9 O9' I9 fin TX OX GX h4 h3 h2
  go_wp2
  exact bodyPost_ret (v := .agg #[.slice a5 n c5, .int .i64 q.mode, .int .i64 q.after, .slice aw q.wh.length cw, .int .i64 q.within, .string q.by_, .slice ar q.ret.length cr]) (by simp [results, Tryz.results18, go_sem, e0, e1, e2, e3, e4, e5, e6]) rfl ⟨_, _, rfl, FIN.out, GE⟩

end Go.Proofs.YtglagbedgjkdbaaGreatDoor
namespace Go.Proofs.YtglagbedgjkdbaaGreatDoor
open Go.RowKit Go.BigFrame
set_option linter.unusedVariables false
set_option linter.unusedSimpArgs false

/-- Blocks that are no rows of T are as they were. -/
def KT (T : TypeId) (w u : World) : Prop := w.heap.size ≤ u.heap.size ∧ ∀ k : Nat, k < w.heap.size → (∀ cs f, w.heap[k]? ≠ some (Obj.cells cs T f)) → u.heap[k]? = w.heap[k]?
theorem KT.refl (T : TypeId) (w : World) : KT T w w := ⟨Nat.le_refl _, fun _ _ _ => rfl⟩
theorem KT.set {T : TypeId} {w u : World} (h : KT T w u) {g : Nat} {cs : Array Value} {f : Nat × Nat} (hb : u.heap[g]? = some (.cells cs T f)) (o : Nat) (v : Value) : KT T w (u.setCell ⟨g, o, none⟩ v) := ⟨by have := h.1; simpa [World.setCell] using this, fun k hl hk => by
  have e := h.2 k hl hk
  have hne : g ≠ k := fun e2 => by subst e2; rw [e] at hb; exact hk _ _ hb
  rw [← e]
  show (u.heap.modify g _)[k]? = _
  rw [Array.getElem?_modify, if_neg hne]⟩
theorem KT.ext {T : TypeId} {w u v : World} (h : KT T w u) (G : Below u.heap.size u v) : KT T w v := ⟨Nat.le_trans h.1 G.size, fun k hk hn => (G.block k (Nat.lt_of_lt_of_le hk h.1)).trans (h.2 k hk hn)⟩
theorem own_kt {T : TypeId} {w u : World} (h : KT T w u) {b : Nat} {e : TypeId} {s : Nat} {v : Value} {n : Nat} {xs : List Value} (O : w.ownsRow b e s v n xs) (hT : e ≠ T) : u.ownsRow b e s v n xs :=
  own_of_block O fun g cur _ hh => h.2 g (lt_of_block hh) fun cs f e2 => by rw [hh] at e2; cases e2; exact hT rfl
theorem bk_kt {T : TypeId} {w u : World} (h : KT T w u) {b : Nat} {cs : Array Value} {e : TypeId} (B : Bk w b cs e) (hT : e ≠ T) : Bk u b cs e := (h.2 b B.lt fun cs' f e2 => by unfold Bk at B; rw [B] at e2; cases e2; exact hT rfl).trans B
theorem xor_fits (a b : Int) : -9223372036854775808 ≤ bits .xor .i64 a b ∧ bits .xor .i64 a b ≤ 9223372036854775807 := by
  unfold bits
  simp only [IntKind.wrap_i64]
  omega
theorem ONst.put {β : Type} {w : World} {b : Nat} {TS T : TypeId} {sz : Nat} {cv : β → Array Value} {v : Value} {l : List (List β)} {ws : List Value} (N : ONst w b TS T sz cv v l ws) (hT : TS ≠ T) (hc : ∀ x, (cv x).size = sz) (z0 : β) {i j o : Nat} (hi : i < l.length) (hj : j < (l.getD i []).length) (ho : o < sz) (u : Value) (y : β) (hy : (cv y).toList = (cv ((l.getD i []).getD j z0)).toList.set o u) {g c : Nat} (hw : ws[i]? = some (.slice (some ⟨g, 0, none⟩) (l.getD i []).length c)) :
    ONst (w.setCell ⟨g, j * sz + o, none⟩ u) b TS T sz cv v (l.set i ((l.getD i []).set j y)) ws := by
  obtain ⟨a, c', e, O⟩ := N.inn i hi
  rw [hw] at e
  cases e
  obtain ⟨cur, hcur⟩ : ∃ cur, w.heap[g]? = some (.cells cur T (0, 0)) := by
    rcases O.2 with ⟨h1, _⟩ | ⟨g', c2, cur, h1, _, hh, _⟩
    · cases h1
    · cases h1; exact ⟨cur, hh⟩
  refine ⟨by simp [N.len], by rw [List.length_set]; exact ty_set N.own hcur (fun e => hT e.symm) _ _, fun k hk => ?_, N.apart⟩
  rw [List.length_set] at hk
  by_cases e : k = i
  · subst e
    have hg : (l.set k ((l.getD k []).set j y)).getD k [] = (l.getD k []).set j y := by rw [List.getD_eq_getElem?_getD, List.getElem?_set_self hk]; rfl
    rw [hg, List.length_set]
    refine ⟨some ⟨g, 0, none⟩, c, hw, ?_⟩
    rw [← fl_set hc z0 (l.getD k []) j o u y hj ho hy]
    exact (World.ownsRow.stored O _ _).1
  · have hg : (l.set i ((l.getD i []).set j y)).getD k [] = l.getD k [] := by rw [List.getD_eq_getElem?_getD, List.getElem?_set_ne (fun e2 => e e2.symm), ← List.getD_eq_getElem?_getD]
    rw [hg]
    obtain ⟨a', c', e', O'⟩ := N.inn k hk
    refine ⟨a', c', e', ownsRow_setCell_other O' (fun e2 => ?_) _⟩
    exact e (N.apart k i _ _ g e' hw e2 rfl)
structure Oth (l : List (List Ev)) (b : Nat) (v : Value) (ws : List Value) (w wr : World) : Prop where
  ex : ∃ l' : List (List Ev), l'.length = l.length ∧ (∀ k, (l'.getD k []).length = (l.getD k []).length) ∧ (∀ k, evsOk (l'.getD k [])) ∧ ONst wr b 65 76 11 evC v l' ws ∧ KT 76 w wr ∧ Below b w wr
theorem evsOk_set {l : List Ev} (h : evsOk l) (j : Nat) {e : Ev} (he : e.ok) : evsOk (l.set j e) := fun k => by
  rw [List.getD_eq_getElem?_getD, List.getElem?_set]
  have := h k
  rw [List.getD_eq_getElem?_getD] at this
  split
  · split
    · exact he
    · exact zeroE_ok
  · exact this

set_option maxRecDepth 100000 in
set_option maxHeartbeats 8000000 in
theorem otherwise_any (l : List (List Ev)) (b : Nat) (ao : Option Addr) (cap : Nat) (ws : List Value) (w : World) (N : ONst w b 65 76 11 evC (.slice ao l.length cap) l ws) (hok : ∀ k, evsOk (l.getD k [])) (hl : l.length ≤ 140737488351232) (hn : ∀ k, (l.getD k []).length * 88 ≤ 140737488351232) (hb : b ≤ w.heap.size) :
    Calls Tryz.prog 27 #[.slice ao l.length cap] w fun e w' => (∃ v, e = .returned v) ∧ Oth l b (.slice ao l.length cap) ws w w' := by
  go_enter Tryz.func27, Tryz.ntmps27
  go_wp2
  go_loopw [2, 3, 4] (fun i _ _ wr => (∃ k : Nat, k ≤ l.length ∧ i = .int .i64 k) ∧ Oth l b (.slice ao l.length cap) ws w wr) (fun i _ _ _ => l.length - (intOf i).toNat)
  case atStart => exact ⟨⟨0, Nat.zero_le _, rfl⟩, ⟨⟨l, rfl, fun _ => rfl, hok, N, KT.refl _ _, Below.refl _ _⟩⟩⟩
  case round =>
    obtain ⟨⟨i, hi, rfl⟩, O1⟩ := hrel
    by_cases hlt : i < l.length
    · have hki : (i : Int) < (l.length : Int) := by omega
      obtain ⟨lr, hlr⟩ : ∃ lr, (l.getD i []).length = lr := ⟨_, rfl⟩
      have HLR := show Hid (_ = _) from hlr
      have hnr := hn i
      rw [hlr] at hnr
      clear hlr
      go_wp2
      go_loopw [3, 4] (fun j _ wr => (∃ k : Nat, k ≤ lr ∧ j = .int .i64 k) ∧ Oth l b (.slice ao l.length cap) ws w wr) (fun j _ _ => lr - (intOf j).toNat)
      case atStart => exact ⟨⟨0, Nat.zero_le _, rfl⟩, O1⟩
      case round =>
        clear O1
        obtain ⟨⟨j, hj, rfl⟩, O1⟩ := hrel
        have hcell : ∃ g o ar cr, ao = some ⟨g, o, none⟩ ∧ wr.cell? ⟨g, o + i, none⟩ = some (.slice ar lr cr) := by
          obtain ⟨⟨l', hl1, hl2, hl3, N1, K1, B1⟩⟩ := O1
          rw [← hl1] at N1
          obtain ⟨g, o, ar, cr, e, x0, _, _⟩ := N1.nst i (by omega)
          rw [hl2, HLR.out] at x0
          exact ⟨g, o, ar, cr, e, x0⟩
        obtain ⟨g, o, ar, cr, rfl, x0⟩ := hcell
        by_cases hjt : j < lr
        · have hji : (j : Int) < (lr : Int) := by omega
          go_wp2
          go_loopw [4] (fun k wr => (∃ n : Nat, n ≤ 8 ∧ k = .int .i64 n) ∧ Oth l b (.slice (some ⟨g, o, none⟩) l.length cap) ws w wr) (fun k _ => 8 - (intOf k).toNat)
          case atStart => exact ⟨⟨0, Nat.zero_le _, rfl⟩, O1⟩
          case round =>
            clear O1 x0
            obtain ⟨⟨k, hk, rfl⟩, O1⟩ := hrel
            by_cases hk8 : k < 8
            · have hki8 : (k : Int) < 8 := by omega
              obtain ⟨⟨l', hl1, hl2, hl3, N1, K1, B1⟩⟩ := O1
              have N2 := N1
              rw [← hl1] at N2
              obtain ⟨ar, cr, hws, OR⟩ := N1.inn i (by omega)
              have hlr2 : (l'.getD i []).length = lr := (hl2 i).trans HLR.out
              obtain ⟨gr, rfl, _, hbr⟩ : ∃ gr, ar = some ⟨gr, 0, none⟩ ∧ gr < wr.heap.size ∧ b ≤ gr := by
                obtain ⟨_, _, e1, _, _, h⟩ := own_form OR
                cases e1
                rcases h with h | ⟨gr, h1, h2, h3⟩
                · omega
                · exact ⟨gr, h1, h2, h3⟩
              obtain ⟨g', o', _, _, eg, x0, _, _⟩ := N2.nst i (by omega)
              cases eg
              have x1 : wr.cell? ⟨g, o + i, none⟩ = some (.slice (some ⟨gr, 0, none⟩) lr cr) := by
                obtain ⟨g5, o5, e5, c5⟩ := own_flat N2.own i _ hws
                cases e5
                rw [c5, hlr2]
              have y0 : wr.cell? ⟨gr, j * 11 + 3 + k, none⟩ = some (.int .i64 (((l'.getD i []).getD j zeroE).at k)) := by
                rw [World.ownsRow.cellAt OR _ (by omega), Nat.add_assoc, fl_at evC_sz zeroE (l'.getD i []) j (3 + k) (by omega) (by omega), evC_at _ _ hk8]
              have yf : wr.frozen? ⟨gr, j * 11 + 3 + k, none⟩ = false := World.ownsRow.frozenAt OR _
              have hek := hl3 i j
              obtain ⟨e, he⟩ : ∃ e, (l'.getD i []).getD j zeroE = e := ⟨_, rfl⟩
              rw [he] at y0 hek
              obtain ⟨zz, hzz⟩ : ∃ zz, e.at k = zz := ⟨_, rfl⟩
              rw [hzz] at y0
              have hne : Nonempty (Ext wr) := ⟨⟨_, Below.refl _ _⟩⟩
              have p0 := fun z : Ext wr => (z.cell _ _ (lt_of_cell x1)).trans x1
              have p1 := fun z : Ext wr => (z.cell _ _ (lt_of_cell y0)).trans y0
              go_wp2
              refine wp_region_ext_tail 20 (by kernel_rfl) (by kernel_rfl) ?_
              simp only [List.take_succ_cons, List.take_zero, List.drop_succ_cons, List.drop_zero]
              repeat (go_big_quiet_step (fail))
              refine wpQuiet_nil ?_
              intro _ hw'
              obtain ⟨nx, hw''⟩ := hw'
              subst hw''
              have hcur : ∃ cur, wr.heap[gr]? = some (.cells cur 76 (0, 0)) := by
                rcases OR.2 with ⟨h1, _⟩ | ⟨g', c2, cur, h1, _, hh, _⟩
                · cases h1
                · cases h1; exact ⟨cur, hh⟩
              obtain ⟨cur, hcur⟩ := hcur
              have hcur2 := (nx.h.block gr (lt_of_block hcur)).trans hcur
              have N3 := N1.keep nx.h
              have K3 := (K1.ext nx.h).set hcur2 (j * 11 + 3 + k) (.int .i64 (bits .xor .i64 zz 3))
              have B3 : Below b w (nx.X.setCell ⟨gr, j * 11 + 3 + k, none⟩ (.int .i64 (bits .xor .i64 zz 3))) := (B1.trans (nx.h.mono (Nat.le_trans hb B1.size))).setCell hbr _
              obtain ⟨xf0, xf1⟩ := xor_fits zz 3
              have N4 := N3.put (by decide) evC_sz zeroE (i := i) (j := j) (o := 3 + k) (by omega) (by omega) (by omega) (.int .i64 (bits .xor .i64 zz 3)) (e.put k (bits .xor .i64 zz 3)) (by rw [he]; exact evC_put e k hk8 _) hws
              rw [← Nat.add_assoc] at N4
              have fin : Oth l b (.slice (some ⟨g, o, none⟩) l.length cap) ws w (nx.X.setCell ⟨gr, j * 11 + 3 + k, none⟩ (.int .i64 (bits .xor .i64 zz 3))) := by
                refine ⟨⟨l'.set i ((l'.getD i []).set j (e.put k (bits .xor .i64 zz 3))), by rw [List.length_set]; exact hl1, fun m => ?_, fun m => ?_, N4, K3, B3⟩⟩
                · rw [List.getD_eq_getElem?_getD, List.getElem?_set]
                  by_cases em : i = m
                  · subst em
                    rw [if_pos rfl, if_pos (by omega)]
                    simp only [Option.getD_some, List.length_set]
                    exact hl2 i
                  · rw [if_neg em, ← List.getD_eq_getElem?_getD]; exact hl2 m
                · rw [List.getD_eq_getElem?_getD, List.getElem?_set]
                  by_cases em : i = m
                  · subst em
                    rw [if_pos rfl, if_pos (by omega)]
                    exact evsOk_set (hl3 i) _ (Ev.put_ok hek _ xf0 xf1)
                  · rw [if_neg em, ← List.getD_eq_getElem?_getD]; exact hl3 m
              have y1 := (nx.cell _ _ (lt_of_cell y0)).trans y0
              have yf1 : nx.X.frozen? ⟨gr, j * 11 + 3 + k, none⟩ = false := (nx.h.frozen (p := ⟨gr, j * 11 + 3 + k, none⟩) (lt_of_cell y0)).trans yf
              generalize nx.X = X at *
              generalize bits BinOp.xor IntKind.i64 zz 3 = zx at *
              clear p0 p1 N1 N2 N3 N4 OR K1 K3 B1 B3 hne
              go_wp2
              go_roundw
              case rel => exact ⟨⟨k + 1, by omega, by go_num⟩, fin⟩
              case measure => simp [intOf]; omega
            · obtain rfl : k = 8 := by omega
              go_wp2
              go_roundw
              case rel => exact ⟨⟨j + 1, by omega, by go_num⟩, O1⟩
              case measure => simp [intOf]; omega
        · obtain rfl : j = lr := by omega
          have hnj : ¬ ((j : Int) < (j : Int)) := by omega
          go_wp2
          go_roundw
          case rel => exact ⟨⟨i + 1, by omega, by go_num⟩, O1⟩
          case measure => simp [intOf]; omega
    · obtain rfl : i = l.length := by omega
      have hnk : ¬ ((l.length : Int) < (l.length : Int)) := by omega
      go_wp2
      exact bodyPost_end (results_none rfl _ _ _) rfl ⟨⟨_, rfl⟩, O1⟩

end Go.Proofs.YtglagbedgjkdbaaGreatDoor
namespace Go.Proofs.YtglagbedgjkdbaaGreatDoor
open Go.RowKit Go.BigFrame Go.Proofs.YtglagbedgjkdbaaGreatDoor.Ev
set_option linter.unusedVariables false
set_option linter.unusedSimpArgs false

set_option maxRecDepth 100000 in
set_option maxHeartbeats 4000000 in
theorem clone_any (ns : List Nd) (ad : Addr) (cap : Nat) (w : World) (A : IsNds w (some ad) ns) (hr : ns.length * 64 ≤ 140737488351232) :
    Calls Tryz.prog 41 #[.slice (some ad) ns.length cap] w fun e w' => ∃ v, e = .returned v ∧ w'.ownsRow w.heap.size 64 6 v ns.length (ndsV ns) ∧ Below w.heap.size w w' := by
  have q22 : ∀ (w : World) (a : Option Addr) (n c n' c' : Nat), (binOp .eql 28 (.slice a n c) (.slice none n' c')).run Tryz.prog w = .ok (.bool a.isNone) w := fun w a n c n' c' => Lib.run_eql_slice_nil w _ _ a n c n' c' Tryz.underlying28
  have B0 := galloc (Below.refl w.heap.size w) (.cells #[] 64)
  have A0 := A.keep B0
  go_enter Tryz.func41, Tryz.ntmps41
  go_wp2_with (at_builtin; refine wpList_append_nds rfl _ _ rfl _ w.heap.size 0 [] rfl (World.ownsRow_made w #[] 0 (Nat.le_refl _) (Nat.zero_le _) rfl) B0.size (some ad) cap ns rfl (fun e => by cases e) A0 (by omega) ?_; intro v' w1 O1 g1)
  rw [Nat.zero_add, List.nil_append] at O1
  go_wp2
  go_ret
  exact ⟨_, rfl, O1, B0.grown g1 B0.size (fun k e => by cases e; exact Nat.le_refl _)⟩

end Go.Proofs.YtglagbedgjkdbaaGreatDoor
namespace Go.Proofs.YtglagbedgjkdbaaGreatDoor
open Go.RowKit Go.BigFrame Go.Proofs.YtglagbedgjkdbaaGreatDoor.Ev
set_option linter.unusedVariables false
set_option linter.unusedSimpArgs false

def shI (f : Nat) (a : Int) : Int := if a < 0 then a else a - (f : Int)
def shN (f : Nat) (n : Nd) : Nd := ⟨n.op, n.n, n.v, n.x, shI f n.l, shI f n.r⟩
def subL (ns : List Nd) (f r : Nat) : List Nd := ((ns.drop f).take (r + 1 - f)).map (shN f)
theorem getD_mem_lt {α : Type} (l : List α) (z : α) (i : Nat) (h : i < l.length) : l.getD i z = l[i] := by
  rw [List.getD_eq_getElem?_getD, List.getElem?_eq_getElem h]; rfl
theorem take_succ_getD (bs : List Int) (k : Nat) (h : k < bs.length) : bs.take (k + 1) = bs.take k ++ [bs.getD k 0] := by
  rw [List.take_add_one, List.getElem?_eq_getElem h, getD_mem_lt bs 0 k h]; rfl
/-- Node by node, back. -/
theorem begs_of (ns : List Nd) (bs : List Int) (hl : bs.length = ns.length) (h : ∀ i, i < ns.length → nodeO (ns.getD i noNd) (bs.take i) = some (bs.getD i 0)) : begsO ns [] = some bs := by
  have go : ∀ m k, k + m = ns.length → begsO (ns.drop k) (bs.take k) = some bs := by
    intro m
    induction m with
    | zero =>
      intro k hk
      rw [List.drop_eq_nil_of_le (by omega), List.take_of_length_le (by omega)]
      rfl
    | succ m ih =>
      intro k hk
      rw [begsO_app ns (bs.take k) k (by omega), h k (by omega)]
      dsimp only
      rw [← take_succ_getD bs k (by omega)]
      exact ih (k + 1) (by omega)
  have := go ns.length 0 (by omega)
  simpa using this
/-- Node by node, on. -/
theorem begs_to (ns : List Nd) (bs : List Int) (h : begsO ns [] = some bs) : bs.length = ns.length ∧ ∀ i, i < ns.length → nodeO (ns.getD i noNd) (bs.take i) = some (bs.getD i 0) := by
  have hl : bs.length = ns.length := by have := begsO_len ns [] bs h; simpa using this
  refine ⟨hl, ?_⟩
  have go : ∀ m k l, k + m = ns.length → l.length = k → begsO (ns.drop k) l = some bs → l = bs.take k ∧ ∀ i, k ≤ i → i < ns.length → nodeO (ns.getD i noNd) (bs.take i) = some (bs.getD i 0) := by
    intro m
    induction m with
    | zero =>
      intro k l hk hlk hb
      rw [List.drop_eq_nil_of_le (by omega)] at hb
      simp only [begsO, Option.some.injEq] at hb
      subst hb
      exact ⟨(List.take_of_length_le (by omega)).symm, fun i h1 h2 => by omega⟩
    | succ m ih =>
      intro k l hk hlk hb
      rw [begsO_app ns l k (by omega)] at hb
      cases hn : nodeO (ns.getD k noNd) l with
      | none => rw [hn] at hb; cases hb
      | some b =>
        rw [hn] at hb
        dsimp only at hb
        obtain ⟨e1, e2⟩ := ih (k + 1) (l ++ [b]) (by omega) (by simp; omega) hb
        rw [take_succ_getD bs k (by omega)] at e1
        obtain ⟨e3, e4⟩ := List.append_inj e1 (by rw [hlk, List.length_take]; omega)
        simp only [List.cons.injEq, and_true] at e4
        refine ⟨e3, fun i h1 h2 => ?_⟩
        rcases Nat.eq_or_lt_of_le h1 with e | e
        · subst e; rw [← e3, hn, e4]
        · exact e2 i (by omega) h2
  exact fun i hi => (go ns.length 0 [] (by omega) rfl h).2 i (Nat.zero_le _) hi

end Go.Proofs.YtglagbedgjkdbaaGreatDoor
namespace Go.Proofs.YtglagbedgjkdbaaGreatDoor
open Go.RowKit Go.BigFrame Go.Proofs.YtglagbedgjkdbaaGreatDoor.Ev
set_option linter.unusedVariables false
set_option linter.unusedSimpArgs false

set_option maxRecDepth 100000 in
set_option maxHeartbeats 4000000 in
theorem shifted_any (a : Int) (ha : fI a) (f : Nat) (hf : f ≤ 2199023255488) (w : World) : Calls Tryz.prog 42 #[.int .i64 a, .int .i64 f] w fun e w' => e = .returned (.int .i64 (shI f a)) ∧ w = w' := by
  obtain ⟨h1, h2⟩ := ha
  unfold shI
  by_cases h : a < 0
  · rw [if_pos h]
    go_enter Tryz.func42, Tryz.ntmps42
    go_wp2
    go_ret
    exact ⟨rfl, rfl⟩
  · rw [if_neg h]
    have d : decide (a < 0) = false := decide_eq_false h
    go_enter Tryz.func42, Tryz.ntmps42
    go_wp2
    go_ret
    exact ⟨rfl, rfl⟩
/-- The first k are shifted. -/
def shL (f : Nat) (ns : List Nd) (k : Nat) : List Nd := (ns.take k).map (shN f) ++ ns.drop k
theorem shL_len (f : Nat) (ns : List Nd) (k : Nat) (h : k ≤ ns.length) : (shL f ns k).length = ns.length := by
  unfold shL
  simp
  omega
theorem shL_at (f : Nat) (ns : List Nd) (k : Nat) (h : k < ns.length) : (shL f ns k).getD k noNd = ns.getD k noNd := by
  unfold shL
  have hl : ((ns.take k).map (shN f)).length = k := by simp; omega
  rw [List.getD_eq_getElem?_getD, List.getD_eq_getElem?_getD, List.getElem?_append_right (by omega), hl, Nat.sub_self, List.getElem?_drop, Nat.add_zero]
theorem shL_step (f : Nat) (ns : List Nd) (k : Nat) (h : k < ns.length) : (shL f ns k).set k (shN f (ns.getD k noNd)) = shL f ns (k + 1) := by
  unfold shL
  have hl : ((ns.take k).map (shN f)).length = k := by simp; omega
  rw [List.set_append_right _ _ (by omega), hl, Nat.sub_self, List.take_add_one, List.getElem?_eq_getElem h, Option.toList_some, List.map_append, List.append_assoc]
  congr 1
  rw [List.drop_eq_getElem_cons h, List.getD_eq_getElem?_getD, List.getElem?_eq_getElem h]
  rfl
theorem nds_set2 (ns : List Nd) (k : Nat) (hk : k < ns.length) (a c : Int) : ((ndsV ns).set (k * 6 + 4) (.int .i64 a)).set (k * 6 + 5) (.int .i64 c) = ndsV (ns.set k ⟨(ns.getD k noNd).op, (ns.getD k noNd).n, (ns.getD k noNd).v, (ns.getD k noNd).x, a, c⟩) := by
  rw [nds_set ns k 4 hk (by decide) (.int .i64 a) ⟨(ns.getD k noNd).op, (ns.getD k noNd).n, (ns.getD k noNd).v, (ns.getD k noNd).x, a, (ns.getD k noNd).r⟩ rfl]
  have hg : (ns.set k ⟨(ns.getD k noNd).op, (ns.getD k noNd).n, (ns.getD k noNd).v, (ns.getD k noNd).x, a, (ns.getD k noNd).r⟩).getD k noNd = ⟨(ns.getD k noNd).op, (ns.getD k noNd).n, (ns.getD k noNd).v, (ns.getD k noNd).x, a, (ns.getD k noNd).r⟩ := by
    rw [List.getD_eq_getElem?_getD, List.getElem?_set_self hk]; rfl
  rw [nds_set _ k 5 (by simpa using hk) (by decide) (.int .i64 c) ⟨(ns.getD k noNd).op, (ns.getD k noNd).n, (ns.getD k noNd).v, (ns.getD k noNd).x, a, c⟩ (by rw [hg]; rfl), List.set_set]
theorem own_free {w : World} {base : Nat} {e : TypeId} {size g n cap : Nat} {xs : List Value} (h : w.ownsRow base e size (.slice (some ⟨g, 0, none⟩) n cap) n xs) (o : Nat) : w.frozen? ⟨g, o, none⟩ = false := by
  rcases h.2 with ⟨h', _⟩ | ⟨g', cap', cur, h', hb, hg, _⟩
  · simp at h'
  · simp only [Value.slice.injEq, Option.some.injEq, Addr.mk.injEq, and_true, true_and] at h'
    obtain ⟨rfl, rfl⟩ := h'
    simp [World.frozen?, hg]
/-- The subtree as a tree of its own. -/
def subO (ns : List Nd) (root : Int) : List Nd := if plB ns root = true then subL ns (bg (bsOf ns) root.toNat) root.toNat else []
set_option maxRecDepth 100000 in
set_option maxHeartbeats 8000000 in
theorem csub_any (ns : List Nd) (root : Int) (ao : Option Addr) (cap : Nat) (hcap : ns.length ≤ cap) (w : World) (A : IsNds w ao ns) (hr : ns.length * 64 ≤ 140737488351232) (hf : ∀ k, (ns.getD k noNd).fit) (K : KwAt w) :
    Calls Tryz.prog 14 #[.slice ao ns.length cap, .int .i64 root] w fun e w' => ∃ v, e = .returned v ∧ w'.ownsRow w.heap.size 64 6 v (subO ns root).length (ndsV (subO ns root)) ∧ Below w.heap.size w w' := by
  have c1 := isPlace_any ns root ao cap w A hr hf K
  unfold subO
  cases hp : plB ns root
  · rw [hp] at c1
    rw [if_neg (by decide)]
    go_enter Tryz.func14, Tryz.ntmps14
    go_wp2_with (go_at_call 39; (with_reducible refine c1.mono ?_); rintro e u ⟨rfl, g⟩)
    go_ret
    exact ⟨_, rfl, World.ownsRow_nil _ _ _ _, g⟩
  rw [hp] at c1
  rw [if_pos rfl]
  unfold plB at hp
  rw [Bool.and_eq_true] at hp
  obtain ⟨h1, h2⟩ := of_decide_eq_true hp.1
  obtain ⟨_, _, _, KN⟩ := tree_bs hp.2
  obtain ⟨r, rfl⟩ : ∃ r : Nat, root = (r : Int) := ⟨root.toNat, by omega⟩
  have c2 := fun (u : World) (g : Below w.heap.size w u) => begin_any ns (bsOf ns) KN r (by omega) ao cap u (A.keep g) hr
  have hle := (KN r (by omega)).le
  rw [Int.toNat_natCast]
  generalize bg (bsOf ns) r = b at *
  have hr2 : r < ns.length := by omega
  obtain ⟨g0, o0, rfl, _⟩ := A r hr2
  obtain ⟨m, hm⟩ : ∃ m, r + 1 - b = m := ⟨_, rfl⟩
  have As := nds_sub A b m (by omega)
  have hsl : ((ns.drop b).take m).length = m := by simp; omega
  have c3 := fun (u : World) (g : Below w.heap.size w u) (c : Nat) => clone_any _ _ c u (As.keep g) (by rw [hsl]; omega)
  rw [hsl] at c3
  have hS : Hid (subL ns b r = ((ns.drop b).take m).map (shN b)) := by show _ = _; unfold subL; rw [hm]
  have hsf : ∀ k, (((ns.drop b).take m).getD k noNd).fit := fun k => by
    rw [List.getD_eq_getElem?_getD, List.getElem?_take]
    split
    · rw [List.getElem?_drop, ← List.getD_eq_getElem?_getD]; exact hf _
    · exact noNd_fit
  generalize (ns.drop b).take m = ss at *
  obtain ⟨n, hn⟩ : ∃ n, ns.length = n := ⟨_, rfl⟩
  rw [hn] at c1 c2 hr h2 hr2 hcap ⊢
  have hbi : (b : Int) ≤ (r : Int) + 1 := by omega
  have hri : (r : Int) + 1 ≤ (cap : Int) := by omega
  have hri2 : (r : Int) ≤ 2199023255488 := by omega
  have hmi : (r : Int) + 1 - (b : Int) = (m : Int) := by omega
  clear KN hp A As hf
  go_enter Tryz.func14, Tryz.ntmps14
  go_wp2_with (first
    | (go_at_call 39; (with_reducible refine c1.mono ?_); rintro e u ⟨rfl, g⟩)
    | (go_at_call 40; (with_reducible refine (c2 _ g).mono ?_); rintro e u2 ⟨rfl, g2⟩)
    | (go_at_call 41; (with_reducible refine (c3 _ (gtrans g g2) _).mono ?_); rintro e u3 ⟨v3, rfl, O3, g3⟩; obtain ⟨vo, vc, rfl, _, _, _⟩ := own_form O3))
  obtain ⟨gv, rfl⟩ : ∃ gv, vo = some ⟨gv, 0, none⟩ := by
    rcases (own_form O3) with ⟨ao', c', e, _, _, hh | ⟨gq, e2, _⟩⟩
    · omega
    · cases e; exact ⟨gq, e2⟩
  have G3 := gtrans (gtrans g g2) g3
  have hgv : u2.heap.size ≤ gv := by
    rcases (own_form O3) with ⟨ao', c', e, _, _, hh | ⟨gq, e2, _, e3⟩⟩
    · omega
    · cases e; cases e2; exact e3
  have zz := (gtrans g g2).size
  have hO : Hid (u3.ownsRow u2.heap.size 64 6 (.slice (some ⟨gv, 0, none⟩) m vc) m (ndsV ss)) := O3
  clear O3 c1 c2 c3
  go_loopw [7, 23] (fun _ x wr => ∃ k : Nat, k ≤ m ∧ x = .int .i64 k ∧ wr.ownsRow u2.heap.size 64 6 (.slice (some ⟨gv, 0, none⟩) m vc) m (ndsV (shL b ss k)) ∧ Below w.heap.size w wr) (fun _ x _ => m - (intOf x).toNat)
  case atStart => exact ⟨0, Nat.zero_le _, rfl, hO.out, G3⟩
  case round =>
    obtain ⟨k, hk, rfl, O, G⟩ := hrel
    by_cases hlt : k < m
    · have hlen := shL_len b ss k (by omega)
      obtain ⟨g', o', e', x0, x1, x2, x3, x4, x5⟩ := nds_of_own (ns := shL b ss k) (b := u2.heap.size) (c := vc) (by rw [hlen, hsl]; exact O) k (by omega)
      cases e'
      rw [shL_at b ss k (by omega)] at x4 x5
      rw [Nat.zero_add] at x4 x5
      have cA := shifted_any (ss.getD k noNd).l (hsf k).l b (by omega)
      have cB := shifted_any (ss.getD k noNd).r (hsf k).r b (by omega)
      have O1 := (O.stored (k * 6 + 4) (.int .i64 (shI b (ss.getD k noNd).l))).1
      have O2 := (O1.stored (k * 6 + 5) (.int .i64 (shI b (ss.getD k noNd).r))).1
      rw [nds_set2 (shL b ss k) k (by omega), shL_at b ss k (by omega)] at O2
      replace O2 := show World.ownsRow _ _ _ _ _ _ (ndsV ((shL b ss k).set k (shN b (ss.getD k noNd)))) from O2
      rw [shL_step b ss k (by omega)] at O2
      have f4 := own_free O (k * 6 + 4)
      have f5 := own_free O (k * 6 + 5)
      have lg : gv < wr.heap.size := lt_of_cell x4
      clear x0 x1 x2 x3 O O1 hlen
      generalize (ss.getD k noNd).l = yl at *
      generalize (ss.getD k noNd).r = yr at *
      generalize shI b yl = zl at *
      generalize shI b yr = zr at *
      have hki : (k : Int) < (m : Int) := by omega
      have GE := gset (gset G (p := ⟨gv, k * 6 + 4, none⟩) (by dsimp only; omega) (.int .i64 zl)) (p := ⟨gv, k * 6 + 5, none⟩) (by dsimp only; omega) (.int .i64 zr)
      go_wp2_with (first | (go_at_call 42; (with_reducible refine (cA _).mono ?_); rintro e u ⟨rfl, rfl⟩) | (go_at_call 42; (with_reducible refine (cB _).mono ?_); rintro e u ⟨rfl, rfl⟩))
      go_roundw
      case rel => exact ⟨k + 1, by omega, by go_num, O2, GE⟩
      case measure => simp [intOf]; omega
    · obtain rfl : k = m := by omega
      have hS2 := hS.out
      rw [show shL b ss k = ss.map (shN b) by unfold shL; rw [List.take_of_length_le (by omega), List.drop_of_length_le (by omega), List.append_nil], ← hS2] at O
      have hl9 : (subL ns b r).length = k := by rw [hS2, List.length_map, hsl]
      go_wp2
      go_ret
      exact ⟨_, rfl, by rw [hl9]; exact World.ownsRow.mono O zz, G⟩

end Go.Proofs.YtglagbedgjkdbaaGreatDoor
