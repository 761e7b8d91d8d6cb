/- What the reader's methods definition and schema come to. -/
import Derived.Test.YtkpnnofonocilaaDoorRd2
namespace Go.Proofs.YtkpnnofonocilaaDoor
open Go.RowKit Go.BigFrame
set_option linter.unusedVariables false
set_option linter.unusedSimpArgs false

def tyW : ByteArray := ⟨#[116, 121, 112, 101]⟩
/-- A definition: what is left, the types, the error. -/
def rdD (L : List Ty) (l : List Pc) : List Pc × List Ty × Int :=
  if (hd l).isW tyW = false then (l, L, 21) else if L.length = 16 then (l, L, 23)
  else if (hd l.tail).may = false then (l.tail, L, 21) else if nameE L (hd l.tail).w ≠ 0 then (l.tail, L, nameE L (hd l.tail).w)
  else if (rdA l.tail.tail).2.2 ≠ 0 then ((rdA l.tail.tail).1, L, (rdA l.tail.tail).2.2)
  else ((rdA l.tail.tail).1, L ++ [((hd l.tail).w, (rdA l.tail.tail).2.1)], 0)
theorem rdD_en {L : List Ty} {l : List Pc} (h : En l) : En (rdD L l).1 := by
  unfold rdD
  split
  · exact h
  · rename_i h0
    have h1 : En l.tail := h.tail (by rw [isW_k (p := hd l) (x := tyW) (by cases e : (hd l).isW tyW; exact absurd e h0; rfl)]; decide)
    split
    · exact h
    · split
      · exact h1
      · rename_i h2
        have h3 : En l.tail.tail := h1.tail (by rw [may_k (p := hd l.tail) (by cases e : (hd l.tail).may; exact absurd e h2; rfl)]; decide)
        split
        · exact h1
        · split
          · exact rdA_en h3
          · exact rdA_en h3
/-- The value v holds the types L in memory that lies at base or behind, each list of attributes in a row of its own. -/
def OwnP (base : Nat) (w : World) (v : Value) (n : Nat) (L : List Ty) : Prop :=
  L.length = n ∧ ∃ cells : List Value, w.ownsRow base 35 2 v n cells ∧ (∀ j, j < n → cells[j * 2]? = some (.string (L.getD j noTy).1) ∧
    ∃ aj cj, cells[j * 2 + 1]? = some (.slice aj (L.getD j noTy).2.length cj) ∧ w.ownsRow base 9 1 (.slice aj (L.getD j noTy).2.length cj) (L.getD j noTy).2.length (strsV (L.getD j noTy).2)) ∧
    ∀ i j, i < j → j < n → ∀ vi vj g, cells[i * 2 + 1]? = some vi → cells[j * 2 + 1]? = some vj → vi.ownBlock = some g → vj.ownBlock ≠ some g
theorem OwnP.own {base : Nat} {w : World} {v : Value} {n : Nat} {L : List Ty} (h : OwnP base w v n L) : OwnT base w v n L := by
  obtain ⟨h0, cells, h1, h2, _⟩ := h
  exact ⟨h0, cells, h1, h2⟩
theorem OwnP.blocks {base : Nat} {w u : World} {v : Value} {n : Nat} {L : List Ty} (h : OwnP base w v n L) (hk : ∀ g cur (e : TypeId), base ≤ g → w.heap[g]? = some (.cells cur e (0, 0)) → u.heap[g]? = w.heap[g]?) : OwnP base u v n L := by
  obtain ⟨h0, cells, h1, h2, h3⟩ := h
  refine ⟨h0, cells, own_of_block h1 (fun g cur hg hh => hk g cur _ hg hh), fun j hj => ?_, h3⟩
  obtain ⟨e1, aj, cj, e2, e3⟩ := h2 j hj
  exact ⟨e1, aj, cj, e2, own_of_block e3 (fun g cur hg hh => hk g cur _ hg hh)⟩
theorem OwnP.keep {base : Nat} {w u : World} {v : Value} {n : Nat} {L : List Ty} (h : OwnP base w v n L) (G : Below w.heap.size w u) : OwnP base u v n L :=
  h.blocks (fun g _ _ _ hh => G.block g (lt_of_block hh))
theorem OwnP.apart {base : Nat} {w u : World} {v : Value} {n : Nat} {L : List Ty} {b : Nat} (h : OwnP base w v n L) (G : w.grownBy u (some b)) (hb : b < base) : OwnP base u v n L :=
  h.blocks (fun g _ _ hg hh => G.block g (lt_of_block hh) (fun e => by have := Option.some.inj e; omega))
theorem OwnT.isTypes {base : Nat} {w : World} {ao : Option Addr} {n c : Nat} {L : List Ty} (h : OwnT base w (.slice ao n c) n L) : IsTypes w ao n L := by
  obtain ⟨_, _, e, t⟩ := h.types
  simp only [Value.slice.injEq, true_and] at e
  obtain ⟨rfl, rfl⟩ := e
  exact t
theorem one2 (x : ByteArray) (a : Option Addr) (n c : Nat) : ∀ u ∈ [Value.string x, .slice a n c], u.oneCell' = true := by intro u hu; simp at hu; rcases hu with rfl | rfl <;> rfl
theorem OwnP.nil (base : Nat) (w : World) : OwnP base w (.slice none 0 0) 0 [] := ⟨rfl, [], World.ownsRow_nil _ _ _ _, fun j hj => absurd hj (Nat.not_lt_zero _), fun i j _ hj => absurd hj (Nat.not_lt_zero _)⟩
theorem below_apart {N : Nat} {w u : World} {b : Nat} (G : w.grownBy u (some b)) (hb : N ≤ b) (hN : N ≤ w.heap.size) : Below N w u := (Below.refl N w).grown G hN (fun r e => by cases e; exact hb)

set_option maxRecDepth 100000 in
set_option maxHeartbeats 8000000 in
theorem definition_any (b g o : Nat) (l : List Pc) (hE : En l) (cap : Nat) (v : Value) (B n : Nat) (L : List Ty) (w : World) (R : RdAt w b g o l cap v) (T : OwnP B w v n L) (hBw : B ≤ w.heap.size) (hbB : b < B) (hgB : g < B) (hn16 : n ≤ 16) (K : KwAt w) (hKb : 0 ≠ b) :
    Calls Tryd.prog 44 #[.pointer (some ⟨b, 0, none⟩)] w fun e w' => ∃ v' o' cap', e = .returned (.int .i64 (rdD L l).2.2) ∧ RdAt w' b g o' (rdD L l).1 cap' v' ∧ OwnP B w' v' (rdD L l).2.1.length (rdD L l).2.1 ∧ Below b w w' ∧ w.heap.size ≤ w'.heap.size := by
  obtain ⟨i3, ti, tz0, tz1, tz2⟩ := info_partsT
  have hl := hE.ne
  have hbw : b < w.heap.size := R.two.lt
  have hTl := T.1
  have hz : rdD L l = if (hd l).isW tyW = false then (l, L, 21) else if L.length = 16 then (l, L, 23) else if (hd l.tail).may = false then (l.tail, L, 21) else if nameE L (hd l.tail).w ≠ 0 then (l.tail, L, nameE L (hd l.tail).w) else if (rdA l.tail.tail).2.2 ≠ 0 then ((rdA l.tail.tail).1, L, (rdA l.tail.tail).2.2) else ((rdA l.tail.tail).1, L ++ [((hd l.tail).w, (rdA l.tail.tail).2.1)], 0) := rfl
  have cH0 := here_is b g o l hl cap v w R
  have cW0 : ∀ u : World, Calls Tryd.prog 66 #[.agg (pcA (hd l)), .string ⟨#[116, 121, 112, 101]⟩] u fun e w' => e = .returned (.bool ((hd l).isW tyW)) ∧ Below u.heap.size u w' := fun u => isWord_any (hd l) tyW u
  obtain ⟨ao, tc, rfl, _⟩ := T.own.types
  obtain ⟨_, cells, C1, C2, C3⟩ := id T
  have C9 : ∀ u, w.grownBy u (some b) → u.ownsRow B 35 2 (.slice ao n tc) n cells := fun u G => own_apart C1 G hbB
  have endOf : ∀ (u : World) (code : Int) (l' : List Pc) (o' cap' : Nat), rdD L l = (l', L, code) → RdAt u b g o' l' cap' (.slice ao n tc) → w.grownBy u (some b) → ∃ v' o' cap', Ending.returned (.int .i64 code) = .returned (.int .i64 (rdD L l).2.2) ∧ RdAt u b g o' (rdD L l).1 cap' v' ∧ OwnP B u v' (rdD L l).2.1.length (rdD L l).2.1 ∧ Below b w u ∧ w.heap.size ≤ u.heap.size := fun u code l' o' cap' e R' G => by
    rw [e]
    exact ⟨_, o', cap', rfl, R', by show OwnP B u _ L.length L; rw [hTl]; exact T.apart G hbB, below_apart G (Nat.le_refl _) (by omega), G.size⟩
  cases h1 : (hd l).isW tyW
  · rw [h1, if_pos rfl] at hz
    rw [h1] at cW0
    have HZ : Hid (rdD L l = (l, L, 21)) := hz
    clear hz
    go_enter Tryd.func44, Tryd.ntmps44
    go_wp2_with (first
      | (go_at_call 25; (with_reducible refine cH0.mono ?_); rintro e u1 ⟨rfl, g1⟩)
      | (go_at_call 66; (with_reducible refine (cW0 _).mono ?_); rintro e u2 ⟨rfl, g2⟩))
    go_ret
    exact endOf _ _ _ _ _ HZ.out (R.keep hl (gtrans g1 g2)) (grown_below _ (gtrans g1 g2))
  rw [h1, if_neg (by decide)] at hz
  rw [h1] at cW0
  have hE1 : En l.tail := hE.tail (by rw [isW_k h1]; decide)
  have hl1 := hE1.ne
  by_cases h16 : n = 16
  · rw [if_pos (by omega)] at hz
    have HZ : Hid (rdD L l = (l, L, 23)) := hz
    clear hz
    subst h16
    go_enter Tryd.func44, Tryd.ntmps44
    go_wp2_with (first
      | (go_at_call 25; (with_reducible refine cH0.mono ?_); rintro e u1 ⟨rfl, g1⟩)
      | (go_at_call 66; (with_reducible refine (cW0 _).mono ?_); rintro e u2 ⟨rfl, g2⟩; have R2 := R.keep hl (gtrans g1 g2); have t1 := R2.two.at1))
    go_ret
    exact endOf _ _ _ _ _ HZ.out R2 (grown_below _ (gtrans g1 g2))
  rw [if_neg (by omega)] at hz
  have n16 : ((n : Int) == 16) = false := by rw [beq_eq_false_iff_ne]; omega
  have cM1 := fun (u : World) (h : (hd l.tail).k = 0 → 0 < (hd l.tail).w.size) => mayBeName_any (hd l.tail) h u
  cases h2 : (hd l.tail).may
  · rw [h2, if_pos rfl] at hz
    rw [h2] at cM1
    have HZ : Hid (rdD L l = (l.tail, L, 21)) := hz
    clear hz
    go_enter Tryd.func44, Tryd.ntmps44
    go_wp2_with (first
      | (go_at_call 25; (with_reducible refine cH0.mono ?_); rintro e u1 ⟨rfl, g1⟩)
      | (go_at_call 66; (with_reducible refine (cW0 _).mono ?_); rintro e u2 ⟨rfl, g2⟩; have R2 := R.keep hl (gtrans g1 g2); have t1 := R2.two.at1; have cT1 := step_is b g o l hl1 cap _ u2 R2)
      | (go_at_call 67; (with_reducible refine cT1.mono ?_); rintro e u3 ⟨⟨x3, rfl⟩, R3, g3⟩; have cH1 := here_is b g (o + 4) l.tail hl1 (cap - 1) _ u3 R3)
      | (go_at_call 25; (with_reducible refine cH1.mono ?_); rintro e u4 ⟨rfl, g4⟩; have cM2 := cM1 u4 R3.hdw)
      | (go_at_call 68; (with_reducible refine cM2.mono ?_); rintro e u5 ⟨rfl, g5⟩))
    go_ret
    exact endOf _ _ _ _ _ HZ.out (R3.keep hl1 (gtrans g4 g5)) (grown_trans (grown_trans (grown_below _ (gtrans g1 g2)) g3) (grown_below _ (gtrans g4 g5)))
  rw [h2, if_neg (by decide)] at hz
  rw [h2] at cM1
  have hE2 : En l.tail.tail := hE1.tail (by rw [may_k h2]; decide)
  have hl2 := hE2.ne
  have cN := fun (u : World) (G : w.grownBy u (some b)) => checkTypeName_any ao n tc L (hd l.tail).w u ((T.apart G hbB).own.isTypes) (K.apart G hKb)
  have hpf1 := fun u => pc_f1 (hd l.tail).k (hd l.tail).w (hd l.tail).m (hd l.tail).a u
  have hHd : ∀ (u : World) (R' : RdAt u b g (o + 4) l.tail (cap - 1) (.slice ao n tc)), Calls Tryd.prog 25 #[.pointer (some ⟨b, 0, none⟩)] u fun e w' => e = .returned (.agg #[.int .i64 (hd l.tail).k, .string (hd l.tail).w, .int .i32 (hd l.tail).m, .int .i64 (hd l.tail).a]) ∧ Below u.heap.size u w' := fun u R' => here_is b g (o + 4) l.tail hl1 (cap - 1) _ u R'
  replace cM1 : ∀ (u : World) (h : (hd l.tail).k = 0 → 0 < (hd l.tail).w.size), Calls Tryd.prog 68 #[.agg #[.int .i64 (hd l.tail).k, .string (hd l.tail).w, .int .i32 (hd l.tail).m, .int .i64 (hd l.tail).a]] u fun e w' => e = .returned (.bool true) ∧ Below u.heap.size u w' := cM1
  have hdw : ∀ (u : World) (R' : RdAt u b g (o + 4) l.tail (cap - 1) (.slice ao n tc)), (hd l.tail).k = 0 → 0 < (hd l.tail).w.size := fun u R' => R'.hdw
  generalize hp : hd l.tail = p at *
  by_cases h3 : nameE L p.w = 0
  · rw [if_neg (by rw [h3]; decide)] at hz
    rw [h3] at cN
    obtain ⟨q, hq⟩ : ∃ q, rdA l.tail.tail = q := ⟨_, rfl⟩
    have cA := fun (u : World) (o' cap' : Nat) (R' : RdAt u b g o' l.tail.tail cap' (.slice ao n tc)) (G : w.grownBy u (some b)) => attrs_any b g o' l.tail.tail hE2 cap' _ u R' (K.apart G hKb) hKb
    rw [hq] at hz
    have hEq : En q.1 := by rw [← hq]; exact rdA_en hE2
    obtain ⟨ql, qs, qc⟩ := q
    rw [hq] at cA
    dsimp only at hz cA hEq
    by_cases h4 : qc = 0
    · rw [if_neg (by rw [h4]; decide)] at hz
      subst h4
      have HZ : Hid (rdD L l = (ql, L ++ [(p.w, qs)], 0)) := hz
      clear hz h1 h2 h3 hp
      go_enter Tryd.func44, Tryd.ntmps44
      go_wp2_with (first
        | (go_at_call 25; (with_reducible refine cH0.mono ?_); rintro e u1 ⟨rfl, g1⟩)
        | (go_at_call 66; (with_reducible refine (cW0 _).mono ?_); rintro e u2 ⟨rfl, g2⟩; have R2 := R.keep hl (gtrans g1 g2); have t1 := R2.two.at1; have cT1 := step_is b g o l hl1 cap _ u2 R2)
        | (go_at_call 67; (with_reducible refine cT1.mono ?_); rintro e u3 ⟨⟨x3, rfl⟩, R3, g3⟩; have cH1 := hHd u3 R3)
        | (go_at_call 25; (with_reducible refine cH1.mono ?_); rintro e u4 ⟨rfl, g4⟩; have cM2 := cM1 u4 (hdw _ R3))
        | (go_at_call 68; (with_reducible refine cM2.mono ?_); rintro e u5 ⟨rfl, g5⟩; have R5 := R3.keep hl1 (gtrans g4 g5); have G5 := grown_trans (grown_trans (grown_below (some b) (gtrans g1 g2)) g3) (grown_below _ (gtrans g4 g5)); have cH2 := hHd u5 R5)
        | (go_at_call 25; (with_reducible refine cH2.mono ?_); rintro e u6 ⟨rfl, g6⟩; have R6 := R5.keep hl1 g6; have t6 := R6.two.at1; have cN6 := cN u6 (grown_trans G5 (grown_below _ g6)))
        | (go_at_call 49; (with_reducible refine cN6.mono ?_); rintro e u7 ⟨rfl, g7⟩; have R7 := R6.keep hl1 g7; have G7 := grown_trans (grown_trans G5 (grown_below _ g6)) (grown_below _ g7); have cT2 := step_is b g (o + 4) l.tail hl2 (cap - 1) _ u7 R7)
        | (go_at_call 67; (with_reducible refine cT2.mono ?_); rintro e u8 ⟨⟨x8, rfl⟩, R8, g8⟩; have G8 := grown_trans G7 g8; have cA8 := cA u8 _ _ R8 G8)
        | (go_at_call 69; (with_reducible refine cA8.mono ?_); rintro e u9 ⟨v9, o9, cap9, rfl, R9, O9, g9⟩; have O9' : u9.ownsRow u8.heap.size 9 1 v9 qs.length (strsV qs) := (by first | exact O9 rfl | exact O9 | exact O9 trivial); obtain ⟨a9, c9, rfl, _⟩ := isStrs_own O9'; have t9 := R9.two.at1; have tf := R9.two.free 1)
        | (at_builtin; refine wpList_append_own _ rfl (.tmp 49) (.tmp 53) 22 rfl B 35 i3 (.agg #[.string ⟨#[]⟩, .slice none 0 0]) 2 40 Tryd.underlying22 ti tz0 tz1 tz2 rfl (by decide) _ n cells rfl ((C9 _ (grown_trans G8 g9)).alloc _) ⟨u9.heap.size, 0, none⟩ 1 1 [.string p.w, .slice a9 qs.length c9] rfl rfl (new2 _ _ _ _) (one2 _ _ _ _) (by unfold maxLen; omega) (by omega) (by have h5 := (grown_trans G8 g9).size; simp; omega) ?_))
      intro v10 w10 hown10 hgrow10 _
      obtain ⟨a10, c10, hv10, _⟩ := own_shape hown10
      have G9 := grown_trans G8 g9
      have z9 := G9.size
      have z8 := G8.size
      have C1' := C9 _ G9
      have hlq : ql ≠ [] := hEq.ne
      have R10 : RdAt w10 b g o9 ql cap9 (.slice ao n tc) := (R9.keep hlq (galloc (Below.refl _ _) _)).grown hlq hgrow10 (fun e => by have := (C1'.lt _ e).1; omega) (fun e => by have := (C1'.lt _ e).1; omega)
      have tf10 := R10.two.free 1
      have far : ∀ (g' : Nat) (cur : Array Value), B ≤ g' → u9.heap[g']? = some (.cells cur 9 (0, 0)) → (w10.setCell ⟨b, 1, none⟩ v10).heap[g']? = u9.heap[g']? := by
        intro g' cur k1 k2
        have k3 := lt_of_block k2
        rw [Below.heap_setCell w10 _ _ g' (by show g' ≠ b; omega), hgrow10.block g' (by simp; omega) (row_apart C1' k2), Below.heap_alloc _ _ _ k3]
      have hcl : cells.length = n * 2 := C1.1
      have T11 : OwnP B (w10.setCell ⟨b, 1, none⟩ v10) v10 (n + 1) (L ++ [(p.w, qs)]) := by
        refine ⟨by simp [hTl], cells ++ [.string p.w, .slice a9 qs.length c9], own_of_block hown10 (fun g' _ hg' _ => Below.heap_setCell w10 _ _ g' (by show g' ≠ b; omega)), fun j hj => ?_, fun i j hij hj vi vj gg e1 e2 e3 => ?_⟩
        · rcases Nat.lt_or_ge j n with e | e
          · obtain ⟨d1, aj, cj, d2, d3⟩ := C2 j e
            rw [show (L ++ [(p.w, qs)]).getD j noTy = L.getD j noTy from by rw [List.getD_eq_getElem?_getD, List.getElem?_append_left (by omega), ← List.getD_eq_getElem?_getD]]
            exact ⟨by rw [List.getElem?_append_left (by omega)]; exact d1, aj, cj, by rw [List.getElem?_append_left (by omega)]; exact d2, own_of_block (own_apart d3 G9 hbB) far⟩
          · obtain rfl : j = n := by omega
            rw [show (L ++ [(p.w, qs)]).getD j noTy = (p.w, qs) from by rw [List.getD_eq_getElem?_getD, List.getElem?_append_right (by omega), hTl, Nat.sub_self]; rfl]
            refine ⟨by rw [List.getElem?_append_right (by omega), hcl, Nat.sub_self]; rfl, a9, c9, ?_, own_of_block (own_mono O9' (by omega)) far⟩
            rw [List.getElem?_append_right (by omega), hcl, show j * 2 + 1 - j * 2 = 1 by omega]; rfl
        · rw [List.getElem?_append_left (by omega)] at e1
          rcases Nat.lt_or_ge j n with e | e
          · rw [List.getElem?_append_left (by omega)] at e2
            exact C3 i j hij e vi vj gg e1 e2 e3
          · obtain rfl : j = n := by omega
            rw [List.getElem?_append_right (by omega), hcl, show j * 2 + 1 - j * 2 = 1 by omega] at e2
            obtain rfl : Value.slice a9 qs.length c9 = vj := Option.some.inj e2
            obtain ⟨_, ai, ci, f2, f3⟩ := C2 i (by omega)
            rw [f2] at e1
            obtain rfl := Option.some.inj e1
            have b1 := (f3.lt gg e3).2
            intro e4
            have b2 := (O9'.lt gg e4).1
            omega
      have R11 : RdAt (w10.setCell ⟨b, 1, none⟩ v10) b g o9 ql cap9 v10 := ⟨R10.two.set1 _, R10.pcs.keep (fun i => cell_other _ _ _ _ _ _ R10.ne), R10.cap, R10.ne⟩
      have B10 : Below b w w10 := (((below_apart G9 (Nat.le_refl _) (by omega)).alloc (by omega) _).grown hgrow10 (by simp; omega) (fun r e => by have := (C1'.lt _ e).1; omega))
      have z10 := hgrow10.size
      have t10 := R10.two.at1
      clear far hown10 hgrow10
      subst hv10
      go_wp2
      go_ret
      refine ⟨.slice a10 (n + 1) c10, o9, cap9, by rw [HZ.out]; rfl, ?_, ?_, B10.setCell (Nat.le_refl _) _, ?_⟩
      · rw [HZ.out]; exact R11
      · rw [HZ.out]; show OwnP B _ _ (L ++ [(p.w, qs)]).length (L ++ [(p.w, qs)]); rw [List.length_append, hTl]; exact T11
      · simp at z10 ⊢; omega
    · rw [if_pos h4] at hz
      have HZ : Hid (rdD L l = (ql, L, qc)) := hz
      have q0 : (qc == 0) = false := by simpa using h4
      clear hz h1 h2 h3 hp
      go_enter Tryd.func44, Tryd.ntmps44
      go_wp2_with (first
        | (go_at_call 25; (with_reducible refine cH0.mono ?_); rintro e u1 ⟨rfl, g1⟩)
        | (go_at_call 66; (with_reducible refine (cW0 _).mono ?_); rintro e u2 ⟨rfl, g2⟩; have R2 := R.keep hl (gtrans g1 g2); have t1 := R2.two.at1; have cT1 := step_is b g o l hl1 cap _ u2 R2)
        | (go_at_call 67; (with_reducible refine cT1.mono ?_); rintro e u3 ⟨⟨x3, rfl⟩, R3, g3⟩; have cH1 := hHd u3 R3)
        | (go_at_call 25; (with_reducible refine cH1.mono ?_); rintro e u4 ⟨rfl, g4⟩; have cM2 := cM1 u4 (hdw _ R3))
        | (go_at_call 68; (with_reducible refine cM2.mono ?_); rintro e u5 ⟨rfl, g5⟩; have R5 := R3.keep hl1 (gtrans g4 g5); have G5 := grown_trans (grown_trans (grown_below (some b) (gtrans g1 g2)) g3) (grown_below _ (gtrans g4 g5)); have cH2 := hHd u5 R5)
        | (go_at_call 25; (with_reducible refine cH2.mono ?_); rintro e u6 ⟨rfl, g6⟩; have R6 := R5.keep hl1 g6; have t6 := R6.two.at1; have cN6 := cN u6 (grown_trans G5 (grown_below _ g6)))
        | (go_at_call 49; (with_reducible refine cN6.mono ?_); rintro e u7 ⟨rfl, g7⟩; have R7 := R6.keep hl1 g7; have G7 := grown_trans (grown_trans G5 (grown_below _ g6)) (grown_below _ g7); have cT2 := step_is b g (o + 4) l.tail hl2 (cap - 1) _ u7 R7)
        | (go_at_call 67; (with_reducible refine cT2.mono ?_); rintro e u8 ⟨⟨x8, rfl⟩, R8, g8⟩; have G8 := grown_trans G7 g8; have cA8 := cA u8 _ _ R8 G8)
        | (go_at_call 69; (with_reducible refine cA8.mono ?_); rintro e u9 ⟨v9, o9, cap9, rfl, R9, O9, g9⟩))
      go_ret
      exact endOf _ _ _ _ _ HZ.out R9 (grown_trans G8 g9)
  · rw [if_pos h3] at hz
    have HZ : Hid (rdD L l = (l.tail, L, nameE L p.w)) := hz
    clear hz h1 h2 hp
    generalize nameE L p.w = q at *
    have q0 : (q == 0) = false := by simpa using h3
    go_enter Tryd.func44, Tryd.ntmps44
    go_wp2_with (first
      | (go_at_call 25; (with_reducible refine cH0.mono ?_); rintro e u1 ⟨rfl, g1⟩)
      | (go_at_call 66; (with_reducible refine (cW0 _).mono ?_); rintro e u2 ⟨rfl, g2⟩; have R2 := R.keep hl (gtrans g1 g2); have t1 := R2.two.at1; have cT1 := step_is b g o l hl1 cap _ u2 R2)
      | (go_at_call 67; (with_reducible refine cT1.mono ?_); rintro e u3 ⟨⟨x3, rfl⟩, R3, g3⟩; have cH1 := hHd u3 R3)
      | (go_at_call 25; (with_reducible refine cH1.mono ?_); rintro e u4 ⟨rfl, g4⟩; have cM2 := cM1 u4 (hdw _ R3))
      | (go_at_call 68; (with_reducible refine cM2.mono ?_); rintro e u5 ⟨rfl, g5⟩; have R5 := R3.keep hl1 (gtrans g4 g5); have G5 := grown_trans (grown_trans (grown_below (some b) (gtrans g1 g2)) g3) (grown_below _ (gtrans g4 g5)); have cH2 := hHd u5 R5)
      | (go_at_call 25; (with_reducible refine cH2.mono ?_); rintro e u6 ⟨rfl, g6⟩; have R6 := R5.keep hl1 g6; have t6 := R6.two.at1; have cN6 := cN u6 (grown_trans G5 (grown_below _ g6)))
      | (go_at_call 49; (with_reducible refine cN6.mono ?_); rintro e u7 ⟨rfl, g7⟩; have R7 := R6.keep hl1 g7; have G7 := grown_trans (grown_trans G5 (grown_below _ g6)) (grown_below _ g7)))
    go_ret
    exact endOf _ _ _ _ _ HZ.out R7 G7

end Go.Proofs.YtkpnnofonocilaaDoor
