/- The law's twinQuery. And what goes with it: 6 texts in one. -/
import Derived.Test.YtnmppmmanigpcaaDoorJa16
import Derived.Deep.OwnRows
import Derived.Deep.Onto
import Derived.Deep.CutRange
namespace Go.Proofs.YtnmppmmanigpcaaDoor
open Go.RowKit Go.BigFrame
set_option linter.unusedVariables false
set_option linter.unusedSimpArgs false

/-- The cells of a row of items. -/
theorem its_cells {w : World} {ao : Option Addr} {l : List It} (A : IsIts w ao l) : ∀ k, k ≤ l.length → ∃ xs : List Value, xs.length = k * 5 ∧ Flat w ao xs ∧ (∀ u ∈ xs, u.oneCell' = true) ∧ ∀ j, j < k → ∃ a c, (∀ r, r < 5 → xs[j * 5 + r]? = (itC (l.getD j noIt) a c).toList[r]?) ∧ IsSs w a (l.getD j noIt).ty ∧ Sl a (l.getD j noIt).ty.length c
  | 0, _ => ⟨[], rfl, Flat.nil _ _, fun u hu => (by cases hu), fun j hj => absurd hj (Nat.not_lt_zero _)⟩
  | k + 1, hk => by
    obtain ⟨xs, h1, h2, h3, h4⟩ := its_cells A k (by omega)
    obtain ⟨g, o, rfl, a, c, x0, x1, x2, x3, x4, I, sl⟩ := A k (by omega)
    have hl : (itC (l.getD k noIt) a c).toList.length = 5 := rfl
    refine ⟨xs ++ (itC (l.getD k noIt) a c).toList, by rw [List.length_append, h1, hl]; omega, fun j u hu => ?_, fun u hu => ?_, fun j hj => ?_⟩
    · by_cases hj : j < k * 5
      · rw [List.getElem?_append_left (by omega)] at hu
        exact h2 j u hu
      · rw [List.getElem?_append_right (by omega), h1] at hu
        have hlt := (List.getElem?_eq_some_iff.1 hu).1
        rw [hl] at hlt
        obtain ⟨r, hr, hr2⟩ : ∃ r, j - k * 5 = r ∧ j = k * 5 + r := ⟨j - k * 5, rfl, by omega⟩
        rw [hr] at hu hlt
        subst hr2
        refine ⟨g, o, rfl, ?_⟩
        rw [← Nat.add_assoc]
        rcases (show r = 0 ∨ r = 1 ∨ r = 2 ∨ r = 3 ∨ r = 4 from by omega) with rfl | rfl | rfl | rfl | rfl
        · rw [Nat.add_zero, x0, ← hu]; rfl
        · rw [x1, ← hu]; rfl
        · rw [x2, ← hu]; rfl
        · rw [x3, ← hu]; rfl
        · rw [x4, ← hu]; rfl
    · rcases List.mem_append.1 hu with hu | hu
      · exact h3 u hu
      · exact it_one _ _ _ u hu
    · by_cases hjk : j < k
      · obtain ⟨a', c', e1, e2, e3⟩ := h4 j hjk
        exact ⟨a', c', fun r hr => by rw [List.getElem?_append_left (by omega)]; exact e1 r hr, e2, e3⟩
      · obtain rfl : j = k := by omega
        exact ⟨a, c, fun r hr => by rw [List.getElem?_append_right (by omega), h1, Nat.add_sub_cancel_left], I, sl⟩
/-- A row of items of one's own whose types lie where they lay. -/
theorem own_its2 {w : World} {b : Nat} {ao : Option Addr} {c : Nat} {l : List It} {vs : List Value} (h : w.ownsRow b 79 5 (.slice ao l.length c) l.length vs) (hin : ∀ j, j < l.length → ∃ a c', (∀ r, r < 5 → vs[j * 5 + r]? = (itC (l.getD j noIt) a c').toList[r]?) ∧ IsSs w a (l.getD j noIt).ty ∧ Sl a (l.getD j noIt).ty.length c') : IsIts w ao l := fun i hi => by
  obtain ⟨a, c', e, I, s⟩ := hin i hi
  rcases h.2 with ⟨h1, h2⟩ | ⟨g, c2, cur, h1, _, _, _, _⟩
  · omega
  · cases h1
    have hc : ∀ r, r < 5 → w.cell? ⟨g, i * 5 + r, none⟩ = (itC (l.getD i noIt) a c').toList[r]? := fun r hr => by rw [World.ownsRow.cellAt h (i * 5 + r) (by omega), e r hr]
    refine ⟨g, 0, rfl, a, c', ?_⟩
    rw [Nat.zero_add]
    exact ⟨hc 0 (by omega), hc 1 (by omega), hc 2 (by omega), hc 3 (by omega), hc 4 (by omega), I, s⟩
set_option maxRecDepth 100000 in
set_option maxHeartbeats 8000000 in
theorem twinQ7_any (q : Qy) (hq : q.fit) (cs : Array Value) (ai : Option Addr) (ci : Nat) (aw : Option Addr) (cw : Nat) (ar : Option Addr) (cr : Nat) (w : World) (A : IsQ w q cs ai ci aw cw ar cr) :
    Calls Tryd.prog 8 #[.agg cs] w fun e w' => ∃ ai' ci', e = .returned (.agg #[.slice ai' q.items.length ci', .int .i64 q.mode, .int .i64 q.after, .slice aw q.wh.length cw, .int .i64 q.within, .string q.by_, .slice ar q.ret.length cr]) ∧ IsQ w' q #[.slice ai' q.items.length ci', .int .i64 q.mode, .int .i64 q.after, .slice aw q.wh.length cw, .int .i64 q.within, .string q.by_, .slice ar q.ret.length cr] ai' ci' aw cw ar cr ∧ Below w.heap.size w w' := by
  obtain ⟨he, Ai, Aw, Ar, si, sw, sr⟩ := A
  subst he
  have hnn := hq.n
  obtain ⟨xs, h1, h2, h3, h4⟩ := its_cells Ai q.items.length (Nat.le_refl _)
  obtain ⟨n, hn⟩ : ∃ n, q.items.length = n := ⟨_, rfl⟩
  have HN := show Hid (_ = _) from hn
  rw [hn] at si h1 h4 hnn ⊢
  have T0 := Bk.newE (w := (w.alloc (.cells #[.slice ai n ci, .int .i64 q.mode, .int .i64 q.after, .slice aw q.wh.length cw, .int .i64 q.within, .string q.by_, .slice ar q.ret.length cr] 31)).alloc (.cells #[.slice none 0 0, .int .i64 0, .int .i64 0, .slice none 0 0, .int .i64 0, .string ⟨#[]⟩, .slice none 0 0] 31)) (g := w.heap.size + 1 + 1) (by simp) #[.slice ai n ci, .int .i64 q.mode, .int .i64 q.after, .slice aw q.wh.length cw, .int .i64 q.within, .string q.by_, .slice ar q.ret.length cr] 31
  have R0 := (Bk.newE (w := w.alloc (.cells #[.slice ai n ci, .int .i64 q.mode, .int .i64 q.after, .slice aw q.wh.length cw, .int .i64 q.within, .string q.by_, .slice ar q.ret.length cr] 31)) (g := w.heap.size + 1) (by simp) #[.slice none 0 0, .int .i64 0, .int .i64 0, .slice none 0 0, .int .i64 0, .string ⟨#[]⟩, .slice none 0 0] 31).alloc (.cells #[.slice ai n ci, .int .i64 q.mode, .int .i64 q.after, .slice aw q.wh.length cw, .int .i64 q.within, .string q.by_, .slice ar q.ret.length cr] 31)
  have S0 := ((Bk.new w #[.slice ai n ci, .int .i64 q.mode, .int .i64 q.after, .slice aw q.wh.length cw, .int .i64 q.within, .string q.by_, .slice ar q.ret.length cr] 31).alloc (.cells #[.slice none 0 0, .int .i64 0, .int .i64 0, .slice none 0 0, .int .i64 0, .string ⟨#[]⟩, .slice none 0 0] 31)).alloc (.cells #[.slice ai n ci, .int .i64 q.mode, .int .i64 q.after, .slice aw q.wh.length cw, .int .i64 q.within, .string q.by_, .slice ar q.ret.length cr] 31)
  have B0 := galloc (galloc (galloc (Below.refl w.heap.size w) (.cells #[.slice ai n ci, .int .i64 q.mode, .int .i64 q.after, .slice aw q.wh.length cw, .int .i64 q.within, .string q.by_, .slice ar q.ret.length cr] 31)) (.cells #[.slice none 0 0, .int .i64 0, .int .i64 0, .slice none 0 0, .int .i64 0, .string ⟨#[]⟩, .slice none 0 0] 31)) (.cells #[.slice ai n ci, .int .i64 q.mode, .int .i64 q.after, .slice aw q.wh.length cw, .int .i64 q.within, .string q.by_, .slice ar q.ret.length cr] 31)
  go_enter Tryd.func8, Tryd.ntmps8
  go_upto_region 2 with fail
  have hzZ : (((w.alloc (.cells #[.slice ai n ci, .int .i64 q.mode, .int .i64 q.after, .slice aw q.wh.length cw, .int .i64 q.within, .string q.by_, .slice ar q.ret.length cr] 31)).alloc (.cells #[.slice none 0 0, .int .i64 0, .int .i64 0, .slice none 0 0, .int .i64 0, .string ⟨#[]⟩, .slice none 0 0] 31)).alloc (.cells #[.slice ai n ci, .int .i64 q.mode, .int .i64 q.after, .slice aw q.wh.length cw, .int .i64 q.within, .string q.by_, .slice ar q.ret.length cr] 31)).heap.size = w.heap.size + 3 := by simp
  generalize ((w.alloc (.cells #[.slice ai n ci, .int .i64 q.mode, .int .i64 q.after, .slice aw q.wh.length cw, .int .i64 q.within, .string q.by_, .slice ar q.ret.length cr] 31)).alloc (.cells #[.slice none 0 0, .int .i64 0, .int .i64 0, .slice none 0 0, .int .i64 0, .string ⟨#[]⟩, .slice none 0 0] 31)).alloc (.cells #[.slice ai n ci, .int .i64 q.mode, .int .i64 q.after, .slice aw q.wh.length cw, .int .i64 q.within, .string q.by_, .slice ar q.ret.length cr] 31) = Z at *
  have s0 : ∀ o, (Z.alloc o).cell? ⟨w.heap.size, 0, none⟩ = some (.slice ai n ci) := fun o => (S0.alloc o).at7.1
  have O0 : (Z.alloc (.cells #[] 79)).ownsRow (w.heap.size + 3) 79 5 (.slice (some ⟨w.heap.size + 3, 0, none⟩) 0 0) 0 [] := by
    have := World.ownsRow_made (e := 79) (size := 5) (base := w.heap.size + 3) Z #[] 0 (by omega) (Nat.zero_le _) rfl
    rw [hzZ] at this
    exact this
  have F0 := (h2.keep B0).keep (galloc (Below.refl Z.heap.size Z) (.cells #[] 79))
  go_upto_region 3 with (at_builtin; refine wpList_append_flat rfl (.tmp 5) (.tmp 7) rfl Tryd.underlying25 nf_it rfl (by decide) (.slice (some ⟨w.heap.size + 3, 0, none⟩) 0 0) (w.heap.size + 3) 0 [] rfl O0 (by simp; omega) ai n ci xs rfl si F0 h1 h3 (by omega) (by omega) ?_; intro v5 w6 hown6 hgrow6; rw [Nat.zero_add, List.nil_append] at hown6; obtain ⟨a5, c5, rfl, _, _, _⟩ := own_form hown6; have hb6 := fun j (hj : j < w.heap.size + 3) => hgrow6.block j (by simp; omega) (fun e => by simp [Value.ownBlock] at e; omega); have T6 : Bk w6 (w.heap.size + 1 + 1) #[.slice ai n ci, .int .i64 q.mode, .int .i64 q.after, .slice aw q.wh.length cw, .int .i64 q.within, .string q.by_, .slice ar q.ret.length cr] 31 := (hb6 _ (by omega)).trans (T0.alloc _); have R6 : Bk w6 (w.heap.size + 1) #[.slice none 0 0, .int .i64 0, .int .i64 0, .slice none 0 0, .int .i64 0, .string ⟨#[]⟩, .slice none 0 0] 31 := (hb6 _ (by omega)).trans (R0.alloc _); obtain ⟨t0, _⟩ := T6.at7; have t1 := T6.free 0)
  have G6 : Below w.heap.size w w6 := (galloc B0 _).grown hgrow6 (by simp; omega) (fun r e => by simp [Value.ownBlock] at e; omega)
  have GX := gset G6 (p := ⟨w.heap.size + 1 + 1, 0, none⟩) (by dsimp only; omega) (.slice a5 n c5)
  have TX := T6.set 0 (.slice a5 n c5)
  have BT := (But.refl (w.heap.size + 1 + 1) w6).set 0 (.slice a5 n c5)
  have RX : Bk (w6.setCell ⟨w.heap.size + 1 + 1, 0, none⟩ (.slice a5 n c5)) (w.heap.size + 1) #[.slice none 0 0, .int .i64 0, .int .i64 0, .slice none 0 0, .int .i64 0, .string ⟨#[]⟩, .slice none 0 0] 31 := (BT _ (by omega)).trans R6
  have OX := own_but hown6 T6 (by decide) BT
  clear hown6 hgrow6 hb6 t0 t1 S0 T0 R0 s0 O0 F0 T6 R6 G6 BT B0
  replace TX : Bk (w6.setCell ⟨w.heap.size + 1 + 1, 0, none⟩ (.slice a5 n c5)) (w.heap.size + 1 + 1) #[.slice a5 n c5, .int .i64 q.mode, .int .i64 q.after, .slice aw q.wh.length cw, .int .i64 q.within, .string q.by_, .slice ar q.ret.length cr] 31 := TX
  generalize w6.setCell ⟨w.heap.size + 1 + 1, 0, none⟩ (.slice a5 n c5) = wr at *
  obtain ⟨t0, t1, t2, t3, t4, t5, t6⟩ := TX.at7
  obtain ⟨r0, r1, r2, r3, r4, r5, r6⟩ := RX.at7
  have q0 := RX.free 0
  have q1 := RX.free 1
  have q2 := RX.free 2
  have q3 := RX.free 3
  have q4 := RX.free 4
  have q5 := RX.free 5
  have q6 := RX.free 6
  have BE := (((((((But.refl (w.heap.size + 1) wr).set 0 (.slice a5 n c5)).set 1 (.int .i64 q.mode)).set 2 (.int .i64 q.after)).set 3 (.slice aw q.wh.length cw)).set 4 (.int .i64 q.within)).set 5 (.string q.by_)).set 6 (.slice ar q.ret.length cr)
  have RE := ((((((RX.set 0 (.slice a5 n c5)).set 1 (.int .i64 q.mode)).set 2 (.int .i64 q.after)).set 3 (.slice aw q.wh.length cw)).set 4 (.int .i64 q.within)).set 5 (.string q.by_)).set 6 (.slice ar q.ret.length cr)
  have GE := gset (gset (gset (gset (gset (gset (gset (GX) (p := ⟨w.heap.size + 1, 0, none⟩) (by dsimp only; omega) (.slice a5 n c5)) (p := ⟨w.heap.size + 1, 1, none⟩) (by dsimp only; omega) (.int .i64 q.mode)) (p := ⟨w.heap.size + 1, 2, none⟩) (by dsimp only; omega) (.int .i64 q.after)) (p := ⟨w.heap.size + 1, 3, none⟩) (by dsimp only; omega) (.slice aw q.wh.length cw)) (p := ⟨w.heap.size + 1, 4, none⟩) (by dsimp only; omega) (.int .i64 q.within)) (p := ⟨w.heap.size + 1, 5, none⟩) (by dsimp only; omega) (.string q.by_)) (p := ⟨w.heap.size + 1, 6, none⟩) (by dsimp only; omega) (.slice ar q.ret.length cr)
  have RE' : Bk (((((((wr.setCell ⟨w.heap.size + 1, 0, none⟩ (.slice a5 n c5)).setCell ⟨w.heap.size + 1, 1, none⟩ (.int .i64 q.mode)).setCell ⟨w.heap.size + 1, 2, none⟩ (.int .i64 q.after)).setCell ⟨w.heap.size + 1, 3, none⟩ (.slice aw q.wh.length cw)).setCell ⟨w.heap.size + 1, 4, none⟩ (.int .i64 q.within)).setCell ⟨w.heap.size + 1, 5, none⟩ (.string q.by_)).setCell ⟨w.heap.size + 1, 6, none⟩ (.slice ar q.ret.length cr)) (w.heap.size + 1) #[.slice a5 n c5, .int .i64 q.mode, .int .i64 q.after, .slice aw q.wh.length cw, .int .i64 q.within, .string q.by_, .slice ar q.ret.length cr] 31 := RE
  obtain ⟨e0, e1, e2, e3, e4, e5, e6⟩ := RE'.at7
  have O9 := own_but OX RX (by decide) BE
  have O9' : World.ownsRow (((((((wr.setCell ⟨w.heap.size + 1, 0, none⟩ (.slice a5 n c5)).setCell ⟨w.heap.size + 1, 1, none⟩ (.int .i64 q.mode)).setCell ⟨w.heap.size + 1, 2, none⟩ (.int .i64 q.after)).setCell ⟨w.heap.size + 1, 3, none⟩ (.slice aw q.wh.length cw)).setCell ⟨w.heap.size + 1, 4, none⟩ (.int .i64 q.within)).setCell ⟨w.heap.size + 1, 5, none⟩ (.string q.by_)).setCell ⟨w.heap.size + 1, 6, none⟩ (.slice ar q.ret.length cr)) (w.heap.size + 3) 79 5 (.slice a5 q.items.length c5) q.items.length xs := by rw [HN.out]; exact O9
  have I9 := own_its2 O9' (fun j hj => by
    obtain ⟨a, c, y1, y2, y3⟩ := h4 j (by rw [← HN.out]; exact hj)
    exact ⟨a, c, y1, y2.keep GE, y3⟩)
  have fin : IsQ (((((((wr.setCell ⟨w.heap.size + 1, 0, none⟩ (.slice a5 n c5)).setCell ⟨w.heap.size + 1, 1, none⟩ (.int .i64 q.mode)).setCell ⟨w.heap.size + 1, 2, none⟩ (.int .i64 q.after)).setCell ⟨w.heap.size + 1, 3, none⟩ (.slice aw q.wh.length cw)).setCell ⟨w.heap.size + 1, 4, none⟩ (.int .i64 q.within)).setCell ⟨w.heap.size + 1, 5, none⟩ (.string q.by_)).setCell ⟨w.heap.size + 1, 6, none⟩ (.slice ar q.ret.length cr)) q #[.slice a5 q.items.length c5, .int .i64 q.mode, .int .i64 q.after, .slice aw q.wh.length cw, .int .i64 q.within, .string q.by_, .slice ar q.ret.length cr] a5 c5 aw cw ar cr := ⟨rfl, I9, Aw.keep GE, Ar.keep GE, own_sl O9', sw, sr⟩
  rw [HN.out] at fin
  have FIN := show Hid _ from fin
  clear BE RE O9 O9' I9 fin TX OX GX h4 h3 h2
  go_wp2
  exact bodyPost_ret (v := .agg #[.slice a5 n c5, .int .i64 q.mode, .int .i64 q.after, .slice aw q.wh.length cw, .int .i64 q.within, .string q.by_, .slice ar q.ret.length cr]) (by simp [results, Tryd.results8, go_sem, e0, e1, e2, e3, e4, e5, e6]) rfl ⟨_, _, rfl, FIN.out, GE⟩

end Go.Proofs.YtnmppmmanigpcaaDoor
namespace Go.Proofs.YtnmppmmanigpcaaDoor
open Go.RowKit Go.BigFrame
set_option linter.unusedVariables false
set_option linter.unusedSimpArgs false

/-- Blocks that are no rows of T are as they were. -/
def KT (T : TypeId) (w u : World) : Prop := w.heap.size ≤ u.heap.size ∧ ∀ k : Nat, k < w.heap.size → (∀ cs f, w.heap[k]? ≠ some (Obj.cells cs T f)) → u.heap[k]? = w.heap[k]?
theorem KT.refl (T : TypeId) (w : World) : KT T w w := ⟨Nat.le_refl _, fun _ _ _ => rfl⟩
theorem KT.set {T : TypeId} {w u : World} (h : KT T w u) {g : Nat} {cs : Array Value} {f : Nat × Nat} (hb : u.heap[g]? = some (.cells cs T f)) (o : Nat) (v : Value) : KT T w (u.setCell ⟨g, o, none⟩ v) := ⟨by have := h.1; simpa [World.setCell] using this, fun k hl hk => by
  have e := h.2 k hl hk
  have hne : g ≠ k := fun e2 => by subst e2; rw [e] at hb; exact hk _ _ hb
  rw [← e]
  show (u.heap.modify g _)[k]? = _
  rw [Array.getElem?_modify, if_neg hne]⟩
theorem KT.ext {T : TypeId} {w u v : World} (h : KT T w u) (G : Below u.heap.size u v) : KT T w v := ⟨Nat.le_trans h.1 G.size, fun k hk hn => (G.block k (Nat.lt_of_lt_of_le hk h.1)).trans (h.2 k hk hn)⟩
theorem own_kt {T : TypeId} {w u : World} (h : KT T w u) {b : Nat} {e : TypeId} {s : Nat} {v : Value} {n : Nat} {xs : List Value} (O : w.ownsRow b e s v n xs) (hT : e ≠ T) : u.ownsRow b e s v n xs :=
  own_of_block O fun g cur _ hh => h.2 g (lt_of_block hh) fun cs f e2 => by rw [hh] at e2; cases e2; exact hT rfl
theorem bk_kt {T : TypeId} {w u : World} (h : KT T w u) {b : Nat} {cs : Array Value} {e : TypeId} (B : Bk w b cs e) (hT : e ≠ T) : Bk u b cs e := (h.2 b B.lt fun cs' f e2 => by unfold Bk at B; rw [B] at e2; cases e2; exact hT rfl).trans B
theorem xor_fits (a b : Int) : -9223372036854775808 ≤ bits .xor .i64 a b ∧ bits .xor .i64 a b ≤ 9223372036854775807 := by
  unfold bits
  simp only [IntKind.wrap_i64]
  omega
theorem ONst.put {β : Type} {w : World} {b : Nat} {TS T : TypeId} {sz : Nat} {cv : β → Array Value} {v : Value} {l : List (List β)} {ws : List Value} (N : ONst w b TS T sz cv v l ws) (hT : TS ≠ T) (hc : ∀ x, (cv x).size = sz) (z0 : β) {i j o : Nat} (hi : i < l.length) (hj : j < (l.getD i []).length) (ho : o < sz) (u : Value) (y : β) (hy : (cv y).toList = (cv ((l.getD i []).getD j z0)).toList.set o u) {g c : Nat} (hw : ws[i]? = some (.slice (some ⟨g, 0, none⟩) (l.getD i []).length c)) :
    ONst (w.setCell ⟨g, j * sz + o, none⟩ u) b TS T sz cv v (l.set i ((l.getD i []).set j y)) ws := by
  obtain ⟨a, c', e, O⟩ := N.inn i hi
  rw [hw] at e
  cases e
  obtain ⟨cur, hcur⟩ : ∃ cur, w.heap[g]? = some (.cells cur T (0, 0)) := by
    rcases O.2 with ⟨h1, _⟩ | ⟨g', c2, cur, h1, _, hh, _⟩
    · cases h1
    · cases h1; exact ⟨cur, hh⟩
  refine ⟨by simp [N.len], by rw [List.length_set]; exact ty_set N.own hcur (fun e => hT e.symm) _ _, fun k hk => ?_, N.apart⟩
  rw [List.length_set] at hk
  by_cases e : k = i
  · subst e
    have hg : (l.set k ((l.getD k []).set j y)).getD k [] = (l.getD k []).set j y := by rw [List.getD_eq_getElem?_getD, List.getElem?_set_self hk]; rfl
    rw [hg, List.length_set]
    refine ⟨some ⟨g, 0, none⟩, c, hw, ?_⟩
    rw [← fl_set hc z0 (l.getD k []) j o u y hj ho hy]
    exact (World.ownsRow.stored O _ _).1
  · have hg : (l.set i ((l.getD i []).set j y)).getD k [] = l.getD k [] := by rw [List.getD_eq_getElem?_getD, List.getElem?_set_ne (fun e2 => e e2.symm), ← List.getD_eq_getElem?_getD]
    rw [hg]
    obtain ⟨a', c', e', O'⟩ := N.inn k hk
    refine ⟨a', c', e', ownsRow_setCell_other O' (fun e2 => ?_) _⟩
    exact e (N.apart k i _ _ g e' hw e2 rfl)
structure Oth (l : List (List Ev)) (b : Nat) (v : Value) (ws : List Value) (w wr : World) : Prop where
  ex : ∃ l' : List (List Ev), l'.length = l.length ∧ (∀ k, (l'.getD k []).length = (l.getD k []).length) ∧ (∀ k, evsOk (l'.getD k [])) ∧ ONst wr b 80 86 11 evC v l' ws ∧ KT 86 w wr ∧ Below b w wr
theorem evsOk_set {l : List Ev} (h : evsOk l) (j : Nat) {e : Ev} (he : e.ok) : evsOk (l.set j e) := fun k => by
  rw [List.getD_eq_getElem?_getD, List.getElem?_set]
  have := h k
  rw [List.getD_eq_getElem?_getD] at this
  split
  · split
    · exact he
    · exact zeroE_ok
  · exact this

end Go.Proofs.YtnmppmmanigpcaaDoor
namespace Go.Proofs.YtnmppmmanigpcaaDoor
open Go.RowKit Go.BigFrame Go.Proofs.YtnmppmmanigpcaaDoor.Ev
set_option linter.unusedVariables false
set_option linter.unusedSimpArgs false

def trB (op : Int) : Bool := decide (op = 2 ∨ op = 3 ∨ op = 13 ∨ (19 ≤ op ∧ op ≤ 26))
def jnB (op : Int) : Bool := decide (op = 13 ∨ op = 25 ∨ op = 26)
theorem op_cases (op : Int) : op = 2 ∨ op = 3 ∨ op = 13 ∨ op = 25 ∨ op = 26 ∨ ((op ≠ 2 ∧ op ≠ 3 ∧ op ≠ 13 ∧ op ≠ 25 ∧ op ≠ 26) ∧ ((19 ≤ op ∧ op ≤ 24) ∨ op < 19 ∨ 26 < op)) := by omega

/-- Is the last node a truth? -/
def lastT (ns : List Nd) : Bool := decide (0 < ns.length) && trB (ns.getD (ns.length - 1) noNd).op

/-- The left operand begins where the node does. -/
theorem kin_left {ns : List Nd} {bs : List Int} (K : ∀ i, i < ns.length → Kin ns bs i) (k : Nat) (hk : k < ns.length) : ((ns.getD k noNd).l = -1 ∧ bg bs k = k) ∨ ∃ m : Nat, m < k ∧ (ns.getD k noNd).l = (m : Int) ∧ bg bs m = bg bs k := by
  rcases (K k hk).how with ⟨_, e, e1, _⟩ | ⟨_, e0, e1, _, e⟩ | ⟨_, e0, e1, _, e3, e⟩
  · exact .inl ⟨e1, e⟩
  · exact .inr ⟨k - 1, by omega, e1, e.symm⟩
  · have := (K (k - 1) (by omega)).le
    exact .inr ⟨_, by omega, e3, e.symm⟩
/-- Is it a place of a well shaped tree? -/
def plB (ns : List Nd) (root : Int) : Bool := decide (0 ≤ root ∧ root < (ns.length : Int)) && treeB ns
/-- Where the subtrees of a tree begin; none: it is no tree. -/
def bsOf (ns : List Nd) : List Int := (begsO ns []).getD []
theorem tree_bs {ns : List Nd} (h : treeB ns = true) : begsO ns [] = some (bsOf ns) ∧ 0 < ns.length ∧ bg (bsOf ns) (ns.length - 1) = 0 ∧ ∀ i, i < ns.length → Kin ns (bsOf ns) i := by
  unfold treeB at h
  cases hb : begsO ns [] with
  | none => rw [hb] at h; cases h
  | some bs =>
    rw [hb] at h
    have h2 := of_decide_eq_true h
    have e : bsOf ns = bs := by unfold bsOf; rw [hb]; rfl
    rw [e]
    exact ⟨rfl, h2.1, by unfold bg; rw [h2.2]; rfl, kin_of hb⟩
/-- The size of a subtree. -/
def sizeO (ns : List Nd) (root : Int) : Int := if plB ns root = true then root - (bg (bsOf ns) root.toNat : Int) + 1 else 0
end Go.Proofs.YtnmppmmanigpcaaDoor
namespace Go.Proofs.YtnmppmmanigpcaaDoor
open Go.RowKit Go.BigFrame Go.Proofs.YtnmppmmanigpcaaDoor.Ev
set_option linter.unusedVariables false
set_option linter.unusedSimpArgs false

def shI (f : Nat) (a : Int) : Int := if a < 0 then a else a - (f : Int)
def shN (f : Nat) (n : Nd) : Nd := ⟨n.op, n.n, n.v, n.x, shI f n.l, shI f n.r⟩
def subL (ns : List Nd) (f r : Nat) : List Nd := ((ns.drop f).take (r + 1 - f)).map (shN f)
theorem getD_mem_lt {α : Type} (l : List α) (z : α) (i : Nat) (h : i < l.length) : l.getD i z = l[i] := by
  rw [List.getD_eq_getElem?_getD, List.getElem?_eq_getElem h]; rfl
theorem take_succ_getD (bs : List Int) (k : Nat) (h : k < bs.length) : bs.take (k + 1) = bs.take k ++ [bs.getD k 0] := by
  rw [List.take_add_one, List.getElem?_eq_getElem h, getD_mem_lt bs 0 k h]; rfl
/-- Node by node, back. -/
theorem begs_of (ns : List Nd) (bs : List Int) (hl : bs.length = ns.length) (h : ∀ i, i < ns.length → nodeO (ns.getD i noNd) (bs.take i) = some (bs.getD i 0)) : begsO ns [] = some bs := by
  have go : ∀ m k, k + m = ns.length → begsO (ns.drop k) (bs.take k) = some bs := by
    intro m
    induction m with
    | zero =>
      intro k hk
      rw [List.drop_eq_nil_of_le (by omega), List.take_of_length_le (by omega)]
      rfl
    | succ m ih =>
      intro k hk
      rw [begsO_app ns (bs.take k) k (by omega), h k (by omega)]
      dsimp only
      rw [← take_succ_getD bs k (by omega)]
      exact ih (k + 1) (by omega)
  have := go ns.length 0 (by omega)
  simpa using this
/-- Node by node, on. -/
theorem begs_to (ns : List Nd) (bs : List Int) (h : begsO ns [] = some bs) : bs.length = ns.length ∧ ∀ i, i < ns.length → nodeO (ns.getD i noNd) (bs.take i) = some (bs.getD i 0) := by
  have hl : bs.length = ns.length := by have := begsO_len ns [] bs h; simpa using this
  refine ⟨hl, ?_⟩
  have go : ∀ m k l, k + m = ns.length → l.length = k → begsO (ns.drop k) l = some bs → l = bs.take k ∧ ∀ i, k ≤ i → i < ns.length → nodeO (ns.getD i noNd) (bs.take i) = some (bs.getD i 0) := by
    intro m
    induction m with
    | zero =>
      intro k l hk hlk hb
      rw [List.drop_eq_nil_of_le (by omega)] at hb
      simp only [begsO, Option.some.injEq] at hb
      subst hb
      exact ⟨(List.take_of_length_le (by omega)).symm, fun i h1 h2 => by omega⟩
    | succ m ih =>
      intro k l hk hlk hb
      rw [begsO_app ns l k (by omega)] at hb
      cases hn : nodeO (ns.getD k noNd) l with
      | none => rw [hn] at hb; cases hb
      | some b =>
        rw [hn] at hb
        dsimp only at hb
        obtain ⟨e1, e2⟩ := ih (k + 1) (l ++ [b]) (by omega) (by simp; omega) hb
        rw [take_succ_getD bs k (by omega)] at e1
        obtain ⟨e3, e4⟩ := List.append_inj e1 (by rw [hlk, List.length_take]; omega)
        simp only [List.cons.injEq, and_true] at e4
        refine ⟨e3, fun i h1 h2 => ?_⟩
        rcases Nat.eq_or_lt_of_le h1 with e | e
        · subst e; rw [← e3, hn, e4]
        · exact e2 i (by omega) h2
  exact fun i hi => (go ns.length 0 [] (by omega) rfl h).2 i (Nat.zero_le _) hi

end Go.Proofs.YtnmppmmanigpcaaDoor
namespace Go.Proofs.YtnmppmmanigpcaaDoor
open Go.RowKit Go.BigFrame Go.Proofs.YtnmppmmanigpcaaDoor.Ev
set_option linter.unusedVariables false
set_option linter.unusedSimpArgs false

/-- The first k are shifted. -/
def shL (f : Nat) (ns : List Nd) (k : Nat) : List Nd := (ns.take k).map (shN f) ++ ns.drop k
theorem shL_len (f : Nat) (ns : List Nd) (k : Nat) (h : k ≤ ns.length) : (shL f ns k).length = ns.length := by
  unfold shL
  simp
  omega
theorem shL_at (f : Nat) (ns : List Nd) (k : Nat) (h : k < ns.length) : (shL f ns k).getD k noNd = ns.getD k noNd := by
  unfold shL
  have hl : ((ns.take k).map (shN f)).length = k := by simp; omega
  rw [List.getD_eq_getElem?_getD, List.getD_eq_getElem?_getD, List.getElem?_append_right (by omega), hl, Nat.sub_self, List.getElem?_drop, Nat.add_zero]
theorem shL_step (f : Nat) (ns : List Nd) (k : Nat) (h : k < ns.length) : (shL f ns k).set k (shN f (ns.getD k noNd)) = shL f ns (k + 1) := by
  unfold shL
  have hl : ((ns.take k).map (shN f)).length = k := by simp; omega
  rw [List.set_append_right _ _ (by omega), hl, Nat.sub_self, List.take_add_one, List.getElem?_eq_getElem h, Option.toList_some, List.map_append, List.append_assoc]
  congr 1
  rw [List.drop_eq_getElem_cons h, List.getD_eq_getElem?_getD, List.getElem?_eq_getElem h]
  rfl
theorem nds_set2 (ns : List Nd) (k : Nat) (hk : k < ns.length) (a c : Int) : ((ndsV ns).set (k * 6 + 4) (.int .i64 a)).set (k * 6 + 5) (.int .i64 c) = ndsV (ns.set k ⟨(ns.getD k noNd).op, (ns.getD k noNd).n, (ns.getD k noNd).v, (ns.getD k noNd).x, a, c⟩) := by
  rw [nds_set ns k 4 hk (by decide) (.int .i64 a) ⟨(ns.getD k noNd).op, (ns.getD k noNd).n, (ns.getD k noNd).v, (ns.getD k noNd).x, a, (ns.getD k noNd).r⟩ rfl]
  have hg : (ns.set k ⟨(ns.getD k noNd).op, (ns.getD k noNd).n, (ns.getD k noNd).v, (ns.getD k noNd).x, a, (ns.getD k noNd).r⟩).getD k noNd = ⟨(ns.getD k noNd).op, (ns.getD k noNd).n, (ns.getD k noNd).v, (ns.getD k noNd).x, a, (ns.getD k noNd).r⟩ := by
    rw [List.getD_eq_getElem?_getD, List.getElem?_set_self hk]; rfl
  rw [nds_set _ k 5 (by simpa using hk) (by decide) (.int .i64 c) ⟨(ns.getD k noNd).op, (ns.getD k noNd).n, (ns.getD k noNd).v, (ns.getD k noNd).x, a, c⟩ (by rw [hg]; rfl), List.set_set]
theorem own_free {w : World} {base : Nat} {e : TypeId} {size g n cap : Nat} {xs : List Value} (h : w.ownsRow base e size (.slice (some ⟨g, 0, none⟩) n cap) n xs) (o : Nat) : w.frozen? ⟨g, o, none⟩ = false := by
  rcases h.2 with ⟨h', _⟩ | ⟨g', cap', cur, h', hb, hg, _⟩
  · simp at h'
  · simp only [Value.slice.injEq, Option.some.injEq, Addr.mk.injEq, and_true, true_and] at h'
    obtain ⟨rfl, rfl⟩ := h'
    simp [World.frozen?, hg]
/-- The subtree as a tree of its own. -/
def subO (ns : List Nd) (root : Int) : List Nd := if plB ns root = true then subL ns (bg (bsOf ns) root.toNat) root.toNat else []
end Go.Proofs.YtnmppmmanigpcaaDoor
namespace Go.Proofs.YtnmppmmanigpcaaDoor
open Go.RowKit Go.BigFrame Go.Proofs.YtnmppmmanigpcaaDoor.Ev
set_option linter.unusedVariables false
set_option linter.unusedSimpArgs false

/-- Since w nothing but nodes has turned, and nothing below base; the row at g holds nodes. -/
structure TuS (w : World) (g base N c : Nat) (wr : World) : Prop where
  ex : ∃ ms : List Nd, ms.length = N ∧ (∀ k, (ms.getD k noNd).fit) ∧ wr.ownsRow base 63 6 (.slice (some ⟨g, 0, none⟩) N c) N (ndsV ms)
  kt : KT 63 w wr
  low : Below base w wr
theorem own_base {w : World} {base : Nat} {e : TypeId} {s : Nat} {g n c : Nat} {xs : List Value} (h : w.ownsRow base e s (.slice (some ⟨g, 0, none⟩) n c) n xs) : base ≤ g ∧ g < w.heap.size ∧ ∃ cs, w.heap[g]? = some (.cells cs e (0, 0)) := by
  rcases h.2 with ⟨h', _⟩ | ⟨g', cap', cur, h', hb, hg, _⟩
  · simp at h'
  · simp only [Value.slice.injEq, Option.some.injEq, Addr.mk.injEq, and_true, true_and] at h'
    obtain ⟨rfl, rfl⟩ := h'
    exact ⟨hb, lt_of_block hg, cur, hg⟩
theorem fit_set {ms : List Nd} (h : ∀ k, (ms.getD k noNd).fit) {i : Nat} {y : Nd} (hy : y.fit) : ∀ k, ((ms.set i y).getD k noNd).fit := fun k => by
  rw [List.getD_eq_getElem?_getD, List.getElem?_set]
  split
  · split
    · exact hy
    · exact noNd_fit
  · rw [← List.getD_eq_getElem?_getD]; exact h k
theorem TuS.put {w wr : World} {g base N c : Nat} (kt : KT 63 w wr) (low : Below base w wr) {ms : List Nd} (hl : ms.length = N) (hf : ∀ k, (ms.getD k noNd).fit) (O : wr.ownsRow base 63 6 (.slice (some ⟨g, 0, none⟩) N c) N (ndsV ms)) {i : Nat} (hi : i < N) {r : Nat} (hr : r < 6) (u : Value) (y : Nd) (h : (ndA (ms.getD i noNd)).toList.set r u = (ndA y).toList) (hy : y.fit) : TuS w g base N c (wr.setCell ⟨g, i * 6 + r, none⟩ u) := by
  obtain ⟨h1, h2, cs, h3⟩ := own_base O
  have O1 := (O.stored (i * 6 + r) u).1
  rw [nds_set ms i r (by omega) hr u y h] at O1
  exact ⟨⟨ms.set i y, by rw [List.length_set]; exact hl, fit_set hf hy, O1⟩, kt.set h3 _ _, low.setCell (p := ⟨g, i * 6 + r, none⟩) h1 u⟩
theorem TuS.ext {w wr X : World} {g base N c : Nat} (h : TuS w g base N c wr) (G : Below wr.heap.size wr X) : TuS w g base N c X := by
  obtain ⟨⟨ms, h1, h2, O⟩, kt, low⟩ := h
  obtain ⟨h3, h4, _⟩ := own_base O
  exact ⟨⟨ms, h1, h2, own_keep O G⟩, kt.ext G, low.trans (G.mono (by omega))⟩
/-- The cells of the node i. -/
theorem row_nd {wr : World} {g base N c : Nat} {ms : List Nd} (hl : ms.length = N) (O : wr.ownsRow base 63 6 (.slice (some ⟨g, 0, none⟩) N c) N (ndsV ms)) {i : Nat} (hi : i < N) :
    wr.cell? ⟨g, i * 6, none⟩ = some (.int .i64 (ms.getD i noNd).op) ∧ wr.cell? ⟨g, i * 6 + 1, none⟩ = some (.int .i64 (ms.getD i noNd).n) ∧ wr.cell? ⟨g, i * 6 + 3, none⟩ = some (.string (ms.getD i noNd).x) := by
  subst hl
  obtain ⟨g', o', e', x0, x1, x2, x3, x4, x5⟩ := nds_of_own O i hi
  cases e'
  rw [Nat.zero_add] at x0 x1 x3
  exact ⟨x0, x1, x3⟩
set_option maxRecDepth 100000 in
set_option maxHeartbeats 8000000 in
theorem turned_any (ms : List Nd) (g base N c n cap : Nat) (hn : n ≤ N) (hN : N * 64 ≤ 140737488355328) (w : World) (hl : ms.length = N) (hf : ∀ k, (ms.getD k noNd).fit) (O : w.ownsRow base 63 6 (.slice (some ⟨g, 0, none⟩) N c) N (ndsV ms)) :
    Calls Tryd.prog 17 #[.slice (some ⟨g, 0, none⟩) n cap] w fun e w' => (∃ v, e = .returned v) ∧ TuS w g base N c w' := by
  have hbw : base ≤ w.heap.size := by obtain ⟨h1, h2, _⟩ := own_base O; omega
  have T0 : TuS w g base N c w := ⟨⟨ms, hl, hf, O⟩, KT.refl _ _, (Below.refl w.heap.size w).mono hbw⟩
  clear hl hf O
  go_enter Tryd.func17, Tryd.ntmps17
  go_wp2
  go_loopw [2, 3] (fun x _ wr => (∃ i : Nat, i ≤ n ∧ x = .int .i64 (i : Int)) ∧ TuS w g base N c wr) (fun x _ _ => n - (intOf x).toNat)
  case atStart => exact ⟨⟨0, Nat.zero_le _, rfl⟩, T0⟩
  case round =>
    clear T0
    obtain ⟨⟨i, hi, rfl⟩, T⟩ := hrel
    by_cases hlt : i < n
    · have hii : (i : Int) < (n : Int) := by omega
      have hiN : i < N := by omega
      obtain ⟨⟨ms, hl, hf, O⟩, kt, low⟩ := id T
      obtain ⟨x0, x1, x3⟩ := row_nd hl O hiN
      have f0 := own_free O (i * 6)
      have f1 := own_free O (i * 6 + 1)
      have hy := hf i
      have put1 := fun (z : Int) (hz : fI z) => TuS.put kt low hl hf O hiN (r := 1) (by omega) (.int .i64 z) ⟨(ms.getD i noNd).op, z, (ms.getD i noNd).v, (ms.getD i noNd).x, (ms.getD i noNd).l, (ms.getD i noNd).r⟩ rfl ⟨hy.op, hz, hy.l, hy.r, hy.v, hy.x⟩
      have put0 := fun (z : Int) (hz : fI z) => TuS.put kt low hl hf O hiN (r := 0) (by omega) (.int .i64 z) ⟨z, (ms.getD i noNd).n, (ms.getD i noNd).v, (ms.getD i noNd).x, (ms.getD i noNd).l, (ms.getD i noNd).r⟩ rfl ⟨hz, hy.n, hy.l, hy.r, hy.v, hy.x⟩
      have TT : TuS w g base N c wr := ⟨⟨ms, hl, hf, O⟩, kt, low⟩
      generalize ms.getD i noNd = y at *
      obtain ⟨yop, yn, yv, yx, yl, yr⟩ := y
      dsimp only at *
      clear hf O kt low hy T
      go_upto_region 3 with fail
      go_cut [14] from 10 to 14 (fun s wx => s = .int .i64 yop ∧ wx = wr)
      case first =>
        go_wp2
        go_meet
        case rel => exact ⟨rfl, rfl⟩
      case rest =>
        obtain ⟨rfl, hwx⟩ := hcut
        have hwx' := hwx.symm
        subst hwx'
        clear hwx
        go_step
        go_cut [] from 15 to 39 (fun wx => TuS w g base N c wx)
        case first =>
          by_cases h1 : yop = 1
          · subst h1
            have hz := xor_fits yn 1
            have P := put1 _ hz
            have HP := show Hid _ from P
            clear P put0 put1 TT
            go_wp2
            go_meet
            case rel => exact HP.out
          have e1 : (yop == 1) = false := beq_eq_false_iff_ne.2 h1
          by_cases h2 : yop = 2
          · subst h2
            have P := put0 3 ⟨by decide, by decide⟩
            rw [Nat.add_zero] at P
            have HP := show Hid _ from P
            clear P put0 put1 TT
            go_wp2
            go_meet
            case rel => exact HP.out
          have e2 : (yop == 2) = false := beq_eq_false_iff_ne.2 h2
          by_cases h3 : yop = 3
          · subst h3
            have P := put0 2 ⟨by decide, by decide⟩
            rw [Nat.add_zero] at P
            have HP := show Hid _ from P
            clear P put0 put1 TT
            go_wp2
            go_meet
            case rel => exact HP.out
          have e3 : (yop == 3) = false := beq_eq_false_iff_ne.2 h3
          have HT := show Hid _ from TT
          clear put0 put1 TT h1 h2 h3
          go_wp2
          go_meet
          case rel => exact HT.out
        case rest =>
          clear put0 put1 TT x0 x1 x3 f0 f1
          have T := hcut
          clear hcut
          go_upto_region 10 with fail
          go_loopw [3] (fun x wr => (∃ k : Nat, k ≤ n ∧ x = .int .i64 (k : Int)) ∧ TuS w g base N c wr) (fun x _ => n - (intOf x).toNat)
          case atStart => exact ⟨⟨i + 1, by omega, by go_num⟩, T⟩
          case round =>
            clear T
            obtain ⟨⟨k, hk, rfl⟩, T⟩ := hrel
            by_cases hkt : k < n
            · have hki : (k : Int) < (n : Int) := by omega
              have hkN : k < N := by omega
              have TT := T
              obtain ⟨⟨ms, hl, hf, O⟩, kt, low⟩ := T
              obtain ⟨_, _, x3⟩ := row_nd hl O hiN
              obtain ⟨_, _, z3⟩ := row_nd hl O hkN
              have hy := hf i
              have hz := (hf k).x
              clear hl O kt low
              by_cases hye : (ms.getD i noNd).x = eS
              · have e1 : (ms.getD i noNd).x.toList = [] := by rw [hye, ByteArray.toList_eq]
                have e0 : (ms.getD i noNd).x.toList.isEmpty = true := by rw [e1]; rfl
                generalize (ms.getD i noNd).x = yx at *
                have HT := show Hid _ from TT
                clear TT hf hy hz e1 hye z3
                go_wp2
                go_roundw
                case rel => exact ⟨⟨i + 1, by omega, by go_num⟩, HT.out⟩
                case measure => simp [intOf]; omega
              · have e1 : (ms.getD i noNd).x.toList ≠ [] := fun h => hye (bytes_inj.1 (h.trans (by rw [ByteArray.toList_eq])))
                have e0 : (ms.getD i noNd).x.toList.isEmpty = false := by cases h : (ms.getD i noNd).x.toList with
                  | nil => exact absurd h e1
                  | cons _ _ => rfl
                have hne0 : Nonempty (Ext wr) := ⟨⟨_, Below.refl _ _⟩⟩
                have p0 := fun e : Ext wr => (e.cell _ _ (lt_of_cell x3)).trans x3
                have p1 := fun e : Ext wr => (e.cell _ _ (lt_of_cell z3)).trans z3
                by_cases hze : (ms.getD k noNd).x = eS
                · have e3 : (ms.getD k noNd).x.toList = [] := by rw [hze, ByteArray.toList_eq]
                  have e2 : (ms.getD k noNd).x.toList.isEmpty = true := by rw [e3]; rfl
                  generalize (ms.getD i noNd).x = yx at *
                  generalize (ms.getD k noNd).x = zx at *
                  have HT := show Hid _ from TT
                  clear TT hf hy hz e3 hze
                  go_upto_region 12 with fail
                  refine wp_region_ext (by kernel_rfl) (by kernel_rfl) ?_
                  repeat (go_big_quiet_step (fail))
                  refine wpQuiet_nil ?_
                  intro _ hw'
                  obtain ⟨ny, hw''⟩ := hw'
                  subst hw''
                  have TX := HT.out.ext ny.h
                  have HX := show Hid _ from TX
                  generalize ny.X = Y at *
                  clear p0 p1 hne0 TX HT
                  go_wp2
                  go_roundw
                  case rel => exact ⟨⟨k + 1, by omega, by go_num⟩, HX.out⟩
                  case measure => simp [intOf]; omega
                · have e3 : (ms.getD k noNd).x.toList ≠ [] := fun h => hze (bytes_inj.1 (h.trans (by rw [ByteArray.toList_eq])))
                  have e2 : (ms.getD k noNd).x.toList.isEmpty = false := by cases h : (ms.getD k noNd).x.toList with
                    | nil => exact absurd h e3
                    | cons _ _ => rfl
                  by_cases hzy : (ms.getD k noNd).x = (ms.getD i noNd).x
                  · rw [hzy] at p1 e2 e3
                    generalize (ms.getD i noNd).x = yx at *
                    have HT := show Hid _ from TT
                    clear TT hf hy hz e3 hze hzy
                    go_upto_region 12 with fail
                    refine wp_region_ext (by kernel_rfl) (by kernel_rfl) ?_
                    repeat (go_big_quiet_step (fail))
                    refine wpQuiet_nil ?_
                    intro _ hw'
                    obtain ⟨ny, hw''⟩ := hw'
                    subst hw''
                    have TX := HT.out.ext ny.h
                    have HX := show Hid _ from TX
                    generalize ny.X = Y at *
                    clear p0 p1 hne0 TX HT
                    go_wp2
                    go_roundw
                    case rel => exact ⟨⟨k + 1, by omega, by go_num⟩, HX.out⟩
                    case measure => simp [intOf]; omega
                  · have ne1 : (ms.getD k noNd).x.toList ≠ (ms.getD i noNd).x.toList := fun h => hzy (bytes_inj.1 h)
                    have nb1 : ((ms.getD k noNd).x.toList == (ms.getD i noNd).x.toList) = false := beq_eq_false_iff_ne.2 ne1
                    obtain ⟨yx, hyx⟩ : ∃ z, (ms.getD i noNd).x = z := ⟨_, rfl⟩
                    obtain ⟨zx, hzx⟩ : ∃ z, (ms.getD k noNd).x = z := ⟨_, rfl⟩
                    rw [hyx] at p0 e0 e1 ne1 nb1 x3 hye hzy
                    rw [hzx] at p1 e2 e3 ne1 nb1 z3 hze hzy hz
                    have HZ := show Hid (_ ≤ _) from hz
                    have HT := show Hid (TuS w g base N c wr) from TT
                    clear TT hf hy hz hyx hzx hzy hze hye
                    go_upto_region 12 with fail
                    refine wp_region_ext (by kernel_rfl) (by kernel_rfl) ?_
                    repeat (go_big_quiet_step (fail))
                    refine wpQuiet_nil ?_
                    intro _ hw'
                    obtain ⟨ny, hw''⟩ := hw'
                    subst hw''
                    have TX := HT.out.ext ny.h
                    have v3 := (ny.cell _ _ (lt_of_cell x3)).trans x3
                    have v4 := (ny.cell _ _ (lt_of_cell z3)).trans z3
                    generalize ny.X = Y at *
                    clear p0 p1 hne0 HT
                    obtain ⟨⟨ms2, hl2, hf2, O2⟩, kt2, low2⟩ := TX
                    have f3 := own_free O2 (i * 6 + 3)
                    have P := TuS.put kt2 low2 hl2 hf2 O2 hiN (r := 3) (by omega) (.string zx) ⟨(ms2.getD i noNd).op, (ms2.getD i noNd).n, (ms2.getD i noNd).v, zx, (ms2.getD i noNd).l, (ms2.getD i noNd).r⟩ rfl ⟨(hf2 i).op, (hf2 i).n, (hf2 i).l, (hf2 i).r, (hf2 i).v, HZ.out⟩
                    have HP := show Hid _ from P
                    clear P O2 kt2 low2 hf2 hl2 x3 z3
                    go_wp2
                    go_roundw
                    case rel => exact ⟨⟨k + 1, by omega, by go_num⟩, HP.out⟩
                    case measure => simp [intOf]; omega
            · obtain rfl : k = n := by omega
              have HT := show Hid _ from T
              clear T
              have hnk : ¬ ((k : Int) < (k : Int)) := by omega
              go_wp2
              go_roundw
              case rel => exact ⟨⟨i + 1, by omega, by go_num⟩, HT.out⟩
              case measure => simp [intOf]; omega
    · obtain rfl : i = n := by omega
      have hnk : ¬ ((i : Int) < (i : Int)) := by omega
      go_wp2
      exact bodyPost_end (results_none rfl _ _ _) rfl ⟨⟨_, rfl⟩, T⟩

end Go.Proofs.YtnmppmmanigpcaaDoor
