/- All events of lists of one's own made other ones: otherwise. -/
import Derived.Test.YtjeffmfnaihhjaaDoorClc
import Derived.Test.YtjeffmfnaihhjaaDoorQt
namespace Go.Proofs.YtjeffmfnaihhjaaDoor
open Go.RowKit Go.BigFrame
set_option linter.unusedVariables false
set_option linter.unusedSimpArgs false

/-- Blocks that are no rows of T are as they were. -/
def KT (T : TypeId) (w u : World) : Prop := w.heap.size ≤ u.heap.size ∧ ∀ k : Nat, k < w.heap.size → (∀ cs f, w.heap[k]? ≠ some (Obj.cells cs T f)) → u.heap[k]? = w.heap[k]?
theorem KT.refl (T : TypeId) (w : World) : KT T w w := ⟨Nat.le_refl _, fun _ _ _ => rfl⟩
theorem KT.set {T : TypeId} {w u : World} (h : KT T w u) {g : Nat} {cs : Array Value} {f : Nat × Nat} (hb : u.heap[g]? = some (.cells cs T f)) (o : Nat) (v : Value) : KT T w (u.setCell ⟨g, o, none⟩ v) := ⟨by have := h.1; simpa [World.setCell] using this, fun k hl hk => by
  have e := h.2 k hl hk
  have hne : g ≠ k := fun e2 => by subst e2; rw [e] at hb; exact hk _ _ hb
  rw [← e]
  show (u.heap.modify g _)[k]? = _
  rw [Array.getElem?_modify, if_neg hne]⟩
theorem KT.ext {T : TypeId} {w u v : World} (h : KT T w u) (G : Below u.heap.size u v) : KT T w v := ⟨Nat.le_trans h.1 G.size, fun k hk hn => (G.block k (Nat.lt_of_lt_of_le hk h.1)).trans (h.2 k hk hn)⟩
theorem own_kt {T : TypeId} {w u : World} (h : KT T w u) {b : Nat} {e : TypeId} {s : Nat} {v : Value} {n : Nat} {xs : List Value} (O : w.ownsRow b e s v n xs) (hT : e ≠ T) : u.ownsRow b e s v n xs :=
  own_of_block O fun g cur _ hh => h.2 g (lt_of_block hh) fun cs f e2 => by rw [hh] at e2; cases e2; exact hT rfl
theorem bk_kt {T : TypeId} {w u : World} (h : KT T w u) {b : Nat} {cs : Array Value} {e : TypeId} (B : Bk w b cs e) (hT : e ≠ T) : Bk u b cs e := (h.2 b B.lt fun cs' f e2 => by unfold Bk at B; rw [B] at e2; cases e2; exact hT rfl).trans B
theorem xor_fits (a b : Int) : -9223372036854775808 ≤ bits .xor .i64 a b ∧ bits .xor .i64 a b ≤ 9223372036854775807 := by
  unfold bits
  simp only [IntKind.wrap_i64]
  omega
theorem ONst.put {β : Type} {w : World} {b : Nat} {TS T : TypeId} {sz : Nat} {cv : β → Array Value} {v : Value} {l : List (List β)} {ws : List Value} (N : ONst w b TS T sz cv v l ws) (hT : TS ≠ T) (hc : ∀ x, (cv x).size = sz) (z0 : β) {i j o : Nat} (hi : i < l.length) (hj : j < (l.getD i []).length) (ho : o < sz) (u : Value) (y : β) (hy : (cv y).toList = (cv ((l.getD i []).getD j z0)).toList.set o u) {g c : Nat} (hw : ws[i]? = some (.slice (some ⟨g, 0, none⟩) (l.getD i []).length c)) :
    ONst (w.setCell ⟨g, j * sz + o, none⟩ u) b TS T sz cv v (l.set i ((l.getD i []).set j y)) ws := by
  obtain ⟨a, c', e, O⟩ := N.inn i hi
  rw [hw] at e
  cases e
  obtain ⟨cur, hcur⟩ : ∃ cur, w.heap[g]? = some (.cells cur T (0, 0)) := by
    rcases O.2 with ⟨h1, _⟩ | ⟨g', c2, cur, h1, _, hh, _⟩
    · cases h1
    · cases h1; exact ⟨cur, hh⟩
  refine ⟨by simp [N.len], by rw [List.length_set]; exact ty_set N.own hcur (fun e => hT e.symm) _ _, fun k hk => ?_, N.apart⟩
  rw [List.length_set] at hk
  by_cases e : k = i
  · subst e
    have hg : (l.set k ((l.getD k []).set j y)).getD k [] = (l.getD k []).set j y := by rw [List.getD_eq_getElem?_getD, List.getElem?_set_self hk]; rfl
    rw [hg, List.length_set]
    refine ⟨some ⟨g, 0, none⟩, c, hw, ?_⟩
    rw [← fl_set hc z0 (l.getD k []) j o u y hj ho hy]
    exact (World.ownsRow.stored O _ _).1
  · have hg : (l.set i ((l.getD i []).set j y)).getD k [] = l.getD k [] := by rw [List.getD_eq_getElem?_getD, List.getElem?_set_ne (fun e2 => e e2.symm), ← List.getD_eq_getElem?_getD]
    rw [hg]
    obtain ⟨a', c', e', O'⟩ := N.inn k hk
    refine ⟨a', c', e', ownsRow_setCell_other O' (fun e2 => ?_) _⟩
    exact e (N.apart k i _ _ g e' hw e2 rfl)
structure Oth (l : List (List Ev)) (b : Nat) (v : Value) (ws : List Value) (w wr : World) : Prop where
  ex : ∃ l' : List (List Ev), l'.length = l.length ∧ (∀ k, (l'.getD k []).length = (l.getD k []).length) ∧ (∀ k, evsOk (l'.getD k [])) ∧ ONst wr b 47 69 11 evC v l' ws ∧ KT 69 w wr ∧ Below b w wr
theorem evsOk_set {l : List Ev} (h : evsOk l) (j : Nat) {e : Ev} (he : e.ok) : evsOk (l.set j e) := fun k => by
  rw [List.getD_eq_getElem?_getD, List.getElem?_set]
  have := h k
  rw [List.getD_eq_getElem?_getD] at this
  split
  · split
    · exact he
    · exact zeroE_ok
  · exact this

set_option maxRecDepth 100000 in
set_option maxHeartbeats 8000000 in
theorem otherwise_any (l : List (List Ev)) (b : Nat) (ao : Option Addr) (cap : Nat) (ws : List Value) (w : World) (N : ONst w b 47 69 11 evC (.slice ao l.length cap) l ws) (hok : ∀ k, evsOk (l.getD k [])) (hl : l.length ≤ 140737488351232) (hn : ∀ k, (l.getD k []).length * 88 ≤ 140737488351232) (hb : b ≤ w.heap.size) :
    Calls Tryd.prog 14 #[.slice ao l.length cap] w fun e w' => (∃ v, e = .returned v) ∧ Oth l b (.slice ao l.length cap) ws w w' := by
  go_enter Tryd.func14, Tryd.ntmps14
  go_wp2
  go_loopw [2, 3, 4] (fun i _ _ wr => (∃ k : Nat, k ≤ l.length ∧ i = .int .i64 k) ∧ Oth l b (.slice ao l.length cap) ws w wr) (fun i _ _ _ => l.length - (intOf i).toNat)
  case atStart => exact ⟨⟨0, Nat.zero_le _, rfl⟩, ⟨⟨l, rfl, fun _ => rfl, hok, N, KT.refl _ _, Below.refl _ _⟩⟩⟩
  case round =>
    obtain ⟨⟨i, hi, rfl⟩, O1⟩ := hrel
    by_cases hlt : i < l.length
    · have hki : (i : Int) < (l.length : Int) := by omega
      obtain ⟨lr, hlr⟩ : ∃ lr, (l.getD i []).length = lr := ⟨_, rfl⟩
      have HLR := show Hid (_ = _) from hlr
      have hnr := hn i
      rw [hlr] at hnr
      clear hlr
      go_wp2
      go_loopw [3, 4] (fun j _ wr => (∃ k : Nat, k ≤ lr ∧ j = .int .i64 k) ∧ Oth l b (.slice ao l.length cap) ws w wr) (fun j _ _ => lr - (intOf j).toNat)
      case atStart => exact ⟨⟨0, Nat.zero_le _, rfl⟩, O1⟩
      case round =>
        clear O1
        obtain ⟨⟨j, hj, rfl⟩, O1⟩ := hrel
        have hcell : ∃ g o ar cr, ao = some ⟨g, o, none⟩ ∧ wr.cell? ⟨g, o + i, none⟩ = some (.slice ar lr cr) := by
          obtain ⟨⟨l', hl1, hl2, hl3, N1, K1, B1⟩⟩ := O1
          rw [← hl1] at N1
          obtain ⟨g, o, ar, cr, e, x0, _, _⟩ := N1.nst i (by omega)
          rw [hl2, HLR.out] at x0
          exact ⟨g, o, ar, cr, e, x0⟩
        obtain ⟨g, o, ar, cr, rfl, x0⟩ := hcell
        by_cases hjt : j < lr
        · have hji : (j : Int) < (lr : Int) := by omega
          go_wp2
          go_loopw [4] (fun k wr => (∃ n : Nat, n ≤ 8 ∧ k = .int .i64 n) ∧ Oth l b (.slice (some ⟨g, o, none⟩) l.length cap) ws w wr) (fun k _ => 8 - (intOf k).toNat)
          case atStart => exact ⟨⟨0, Nat.zero_le _, rfl⟩, O1⟩
          case round =>
            clear O1 x0
            obtain ⟨⟨k, hk, rfl⟩, O1⟩ := hrel
            by_cases hk8 : k < 8
            · have hki8 : (k : Int) < 8 := by omega
              obtain ⟨⟨l', hl1, hl2, hl3, N1, K1, B1⟩⟩ := O1
              have N2 := N1
              rw [← hl1] at N2
              obtain ⟨ar, cr, hws, OR⟩ := N1.inn i (by omega)
              have hlr2 : (l'.getD i []).length = lr := (hl2 i).trans HLR.out
              obtain ⟨gr, rfl, _, hbr⟩ : ∃ gr, ar = some ⟨gr, 0, none⟩ ∧ gr < wr.heap.size ∧ b ≤ gr := by
                obtain ⟨_, _, e1, _, _, h⟩ := own_form OR
                cases e1
                rcases h with h | ⟨gr, h1, h2, h3⟩
                · omega
                · exact ⟨gr, h1, h2, h3⟩
              obtain ⟨g', o', _, _, eg, x0, _, _⟩ := N2.nst i (by omega)
              cases eg
              have x1 : wr.cell? ⟨g, o + i, none⟩ = some (.slice (some ⟨gr, 0, none⟩) lr cr) := by
                obtain ⟨g5, o5, e5, c5⟩ := own_flat N2.own i _ hws
                cases e5
                rw [c5, hlr2]
              have y0 : wr.cell? ⟨gr, j * 11 + 3 + k, none⟩ = some (.int .i64 (((l'.getD i []).getD j zeroE).at k)) := by
                rw [World.ownsRow.cellAt OR _ (by omega), Nat.add_assoc, fl_at evC_sz zeroE (l'.getD i []) j (3 + k) (by omega) (by omega), evC_at _ _ hk8]
              have yf : wr.frozen? ⟨gr, j * 11 + 3 + k, none⟩ = false := World.ownsRow.frozenAt OR _
              have hek := hl3 i j
              obtain ⟨e, he⟩ : ∃ e, (l'.getD i []).getD j zeroE = e := ⟨_, rfl⟩
              rw [he] at y0 hek
              obtain ⟨zz, hzz⟩ : ∃ zz, e.at k = zz := ⟨_, rfl⟩
              rw [hzz] at y0
              have hne : Nonempty (Ext wr) := ⟨⟨_, Below.refl _ _⟩⟩
              have p0 := fun z : Ext wr => (z.cell _ _ (lt_of_cell x1)).trans x1
              have p1 := fun z : Ext wr => (z.cell _ _ (lt_of_cell y0)).trans y0
              go_wp2
              refine wp_region_ext_tail 20 (by kernel_rfl) (by kernel_rfl) ?_
              simp only [List.take_succ_cons, List.take_zero, List.drop_succ_cons, List.drop_zero]
              repeat (go_big_quiet_step (fail))
              refine wpQuiet_nil ?_
              intro _ hw'
              obtain ⟨nx, hw''⟩ := hw'
              subst hw''
              have hcur : ∃ cur, wr.heap[gr]? = some (.cells cur 69 (0, 0)) := by
                rcases OR.2 with ⟨h1, _⟩ | ⟨g', c2, cur, h1, _, hh, _⟩
                · cases h1
                · cases h1; exact ⟨cur, hh⟩
              obtain ⟨cur, hcur⟩ := hcur
              have hcur2 := (nx.h.block gr (lt_of_block hcur)).trans hcur
              have N3 := N1.keep nx.h
              have K3 := (K1.ext nx.h).set hcur2 (j * 11 + 3 + k) (.int .i64 (bits .xor .i64 zz 3))
              have B3 : Below b w (nx.X.setCell ⟨gr, j * 11 + 3 + k, none⟩ (.int .i64 (bits .xor .i64 zz 3))) := (B1.trans (nx.h.mono (Nat.le_trans hb B1.size))).setCell hbr _
              obtain ⟨xf0, xf1⟩ := xor_fits zz 3
              have N4 := N3.put (by decide) evC_sz zeroE (i := i) (j := j) (o := 3 + k) (by omega) (by omega) (by omega) (.int .i64 (bits .xor .i64 zz 3)) (e.put k (bits .xor .i64 zz 3)) (by rw [he]; exact evC_put e k hk8 _) hws
              rw [← Nat.add_assoc] at N4
              have fin : Oth l b (.slice (some ⟨g, o, none⟩) l.length cap) ws w (nx.X.setCell ⟨gr, j * 11 + 3 + k, none⟩ (.int .i64 (bits .xor .i64 zz 3))) := by
                refine ⟨⟨l'.set i ((l'.getD i []).set j (e.put k (bits .xor .i64 zz 3))), by rw [List.length_set]; exact hl1, fun m => ?_, fun m => ?_, N4, K3, B3⟩⟩
                · rw [List.getD_eq_getElem?_getD, List.getElem?_set]
                  by_cases em : i = m
                  · subst em
                    rw [if_pos rfl, if_pos (by omega)]
                    simp only [Option.getD_some, List.length_set]
                    exact hl2 i
                  · rw [if_neg em, ← List.getD_eq_getElem?_getD]; exact hl2 m
                · rw [List.getD_eq_getElem?_getD, List.getElem?_set]
                  by_cases em : i = m
                  · subst em
                    rw [if_pos rfl, if_pos (by omega)]
                    exact evsOk_set (hl3 i) _ (Ev.put_ok hek _ xf0 xf1)
                  · rw [if_neg em, ← List.getD_eq_getElem?_getD]; exact hl3 m
              have y1 := (nx.cell _ _ (lt_of_cell y0)).trans y0
              have yf1 : nx.X.frozen? ⟨gr, j * 11 + 3 + k, none⟩ = false := (nx.h.frozen (p := ⟨gr, j * 11 + 3 + k, none⟩) (lt_of_cell y0)).trans yf
              generalize nx.X = X at *
              generalize bits BinOp.xor IntKind.i64 zz 3 = zx at *
              clear p0 p1 N1 N2 N3 N4 OR K1 K3 B1 B3 hne
              go_wp2
              go_roundw
              case rel => exact ⟨⟨k + 1, by omega, by go_num⟩, fin⟩
              case measure => simp [intOf]; omega
            · obtain rfl : k = 8 := by omega
              go_wp2
              go_roundw
              case rel => exact ⟨⟨j + 1, by omega, by go_num⟩, O1⟩
              case measure => simp [intOf]; omega
        · obtain rfl : j = lr := by omega
          have hnj : ¬ ((j : Int) < (j : Int)) := by omega
          go_wp2
          go_roundw
          case rel => exact ⟨⟨i + 1, by omega, by go_num⟩, O1⟩
          case measure => simp [intOf]; omega
    · obtain rfl : i = l.length := by omega
      have hnk : ¬ ((l.length : Int) < (l.length : Int)) := by omega
      go_wp2
      exact bodyPost_end (results_none rfl _ _ _) rfl ⟨⟨_, rfl⟩, O1⟩

end Go.Proofs.YtjeffmfnaihhjaaDoor
