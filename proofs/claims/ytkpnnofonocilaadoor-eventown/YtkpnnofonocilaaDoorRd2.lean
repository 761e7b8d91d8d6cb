/- What the reader's method attrs comes to. -/
import Derived.Test.YtkpnnofonocilaaDoorRd
import Derived.Test.YtkpnnofonocilaaDoorChk3
namespace Go.Proofs.YtkpnnofonocilaaDoor
open Go.RowKit Go.BigFrame
set_option linter.unusedVariables false
set_option linter.unusedSimpArgs false

theorem rdL_en : ∀ (n : Nat) (ss : List ByteArray) (l : List Pc), En l → En (rdL n ss l).1 := by
  intro n
  induction n with
  | zero => intro ss l h; exact h
  | succ n ih =>
    intro ss l h
    unfold rdL
    split
    · exact h
    · rename_i h0
      have h1 : En l.tail := h.tail (by rw [may_k (rdT_may (Decidable.byContradiction h0))]; decide)
      split
      · rename_i h2; exact h1.tail (by rw [isM_k h2]; decide)
      · split
        · rename_i h2; exact ih _ _ (h1.tail (by rw [isM_k h2]; decide))
        · exact h1
theorem rdA_en {l : List Pc} (h : En l) : En (rdA l).1 := by
  unfold rdA
  split
  · exact h
  · rename_i h0
    have h1 : En l.tail := h.tail (by rw [isM_k (p := hd l) (c := 40) (by cases e : (hd l).isM 40; exact absurd e h0; rfl)]; decide)
    split
    · rename_i h2; exact h1.tail (by rw [isM_k h2]; decide)
    · exact rdL_en _ _ _ h1
def lenA : Value → Nat
  | .slice _ n _ => n
  | _ => 0
theorem RdAt.grown {w u : World} {b g o : Nat} {l : List Pc} {cap : Nat} {v : Value} {r : Option Nat} (h : RdAt w b g o l cap v) (hl : l ≠ []) (G : w.grownBy u r) (hb : r ≠ some b) (hg : r ≠ some g) : RdAt u b g o l cap v := by
  refine ⟨(G.block b h.two.lt (fun e => hb e.symm)).trans h.two, h.pcs.keep (fun i => ?_), h.cap, h.ne⟩
  have := G.block g (h.pcs.lt hl) (fun e => hg e.symm)
  simp only [World.cell?, this]
theorem own_apart {w u : World} {base : Nat} {e : TypeId} {size : Nat} {v : Value} {n : Nat} {xs : List Value} {b : Nat} (h : w.ownsRow base e size v n xs) (G : w.grownBy u (some b)) (hb : b < base) : u.ownsRow base e size v n xs :=
  own_of_block h fun g cur hg hh => G.block g (lt_of_block hh) (fun e' => by have := Option.some.inj e'; omega)
theorem grown_far {w u v : World} {b : Nat} {r : Option Nat} (h : w.grownBy u (some b)) (k : u.grownBy v r) (hr : ∀ g, r = some g → w.heap.size ≤ g) : w.grownBy v (some b) :=
  ⟨k.os.trans h.os, k.tape.trans h.tape, k.output.trans h.output, Nat.le_trans h.size k.size, fun i hi hne => (k.block i (Nat.lt_of_lt_of_le hi h.size) (fun e => by have := hr i e.symm; omega)).trans (h.block i hi hne)⟩
theorem rdT_may' {ss : List ByteArray} {p : Pc} (h : (if p.may = false then (21 : Int) else if ss.length = 8 then 24 else atE ss p.w) = 0) : p.may = true := rdT_may (ss := ss) h
theorem strsV_snoc (ss : List ByteArray) (x : ByteArray) : strsV (ss ++ [x]) = strsV ss ++ [.string x] := by unfold strsV; simp
theorem KwAt.apart {w u : World} {b : Nat} (h : KwAt w) (G : w.grownBy u (some b)) (hb : 0 ≠ b) : KwAt u :=
  ⟨Nat.lt_of_lt_of_le h.1 G.size, fun j hj => by
    have := G.block _ h.1 (fun e => hb (Option.some.inj e))
    have h2 := h.2 j hj
    simp only [World.cell?, this] at h2 ⊢
    exact h2⟩

theorem attr_ok (b g o : Nat) (l : List Pc) (hE : En l) (cap : Nat) (v : Value) (ao : Option Addr) (n c : Nat) (ss : List ByteArray) (w : World) (R : RdAt w b g o l cap v) (A : IsStrs w ao n ss) (K : KwAt w) (ht : rdT ss (hd l) = 0) :
    Calls Tryd.prog 87 #[.pointer (some ⟨b, 0, none⟩), .slice ao n c] w fun e w' => e = .returned (.tuple #[.string (hd l).w, .int .i64 0]) ∧ RdAt w' b g (o + 4) l.tail (cap - 1) v ∧ w.grownBy w' (some b) :=
  (attr_any b g o l hE cap v ao n c ss w R A K).mono fun e w' ⟨h, k⟩ => by
    rcases h with ⟨h1, _⟩ | ⟨_, h2, h3⟩
    · exact absurd ht h1
    · exact ⟨h2, h3, k⟩
theorem attr_err (b g o : Nat) (l : List Pc) (hE : En l) (cap : Nat) (v : Value) (ao : Option Addr) (n c : Nat) (ss : List ByteArray) (w : World) (R : RdAt w b g o l cap v) (A : IsStrs w ao n ss) (K : KwAt w) (ht : rdT ss (hd l) ≠ 0) :
    Calls Tryd.prog 87 #[.pointer (some ⟨b, 0, none⟩), .slice ao n c] w fun e w' => e = .returned (.tuple #[.string ⟨#[]⟩, .int .i64 (rdT ss (hd l))]) ∧ RdAt w' b g o l cap v ∧ w.grownBy w' (some b) :=
  (attr_any b g o l hE cap v ao n c ss w R A K).mono fun e w' ⟨h, k⟩ => by
    rcases h with ⟨_, h2, h3⟩ | ⟨h1, _⟩
    · exact ⟨h2, h3, k⟩
    · exact absurd h1 ht

set_option maxRecDepth 100000 in
set_option maxHeartbeats 8000000 in
theorem attrs_any (b g o : Nat) (l : List Pc) (hE : En l) (cap : Nat) (v : Value) (w : World) (R : RdAt w b g o l cap v) (K : KwAt w) (hKb : 0 ≠ b) :
    Calls Tryd.prog 69 #[.pointer (some ⟨b, 0, none⟩)] w fun e w' => ∃ v2 o' cap', e = .returned (.tuple #[v2, .int .i64 (rdA l).2.2]) ∧ RdAt w' b g o' (rdA l).1 cap' v ∧ ((rdA l).2.2 = 0 → w'.ownsRow w.heap.size 9 1 v2 (rdA l).2.1.length (strsV (rdA l).2.1)) ∧ w.grownBy w' (some b) := by
  obtain ⟨i0, hi, hz0, hz1, hz2⟩ := info_partsS
  have hl := hE.ne
  have hbw : b < w.heap.size := R.two.lt
  have hgw : g < w.heap.size := R.pcs.lt hl
  have hz : rdA l = if (hd l).isM 40 = false then (l, [], 21) else if (hd l.tail).isM 41 = true then (l.tail.tail, [], 0) else rdL 9 [] l.tail := rfl
  have cH0 := here_is b g o l hl cap v w R
  have cM0 := fun (u : World) => isMark_any (hd l) 40 u
  cases h40 : (hd l).isM 40
  · rw [h40, if_pos rfl] at hz
    rw [h40] at cM0
    have HZ : Hid (rdA l = (l, [], 21)) := hz
    clear hz
    go_enter Tryd.func69, Tryd.ntmps69
    go_wp2_with (first
      | (go_at_call 25; (with_reducible refine cH0.mono ?_); rintro e u1 ⟨rfl, g1⟩)
      | (go_at_call 86; (with_reducible refine (cM0 _).mono ?_); rintro e u2 ⟨rfl, g2⟩))
    go_ret2
    refine ⟨_, o, cap, by rw [HZ.out]; rfl, ?_, fun h => ?_, grown_below _ (gtrans g1 g2)⟩
    · rw [HZ.out]; exact R.keep hl (gtrans g1 g2)
    · rw [HZ.out] at h; cases h
  rw [h40, if_neg (by decide)] at hz
  rw [h40] at cM0
  have hE1 : En l.tail := hE.tail (by rw [isM_k h40]; decide)
  have hl1 := hE1.ne
  have cM1 := fun (u : World) => isMark_any (hd l.tail) 41 u
  cases h41 : (hd l.tail).isM 41
  · rw [h41, if_neg (by decide)] at hz
    rw [h41] at cM1
    have HZ : Hid (rdA l = rdL 9 [] l.tail) := hz
    clear hz
    generalize rdA l = z at HZ ⊢
    go_enter Tryd.func69, Tryd.ntmps69
    go_wp2_with (first
      | (go_at_call 25; (with_reducible refine cH0.mono ?_); rintro e u1 ⟨rfl, g1⟩)
      | (go_at_call 86; (with_reducible refine (cM0 u1).mono ?_); rintro e u2 ⟨rfl, g2⟩; have cT1 := step_is b g o l hl1 cap v u2 (R.keep hl (gtrans g1 g2)))
      | (go_at_call 67; (with_reducible refine cT1.mono ?_); rintro e u3 ⟨⟨x3, rfl⟩, R3, g3⟩; have cH1 := here_is b g (o + 4) l.tail hl1 (cap - 1) v u3 R3)
      | (go_at_call 25; (with_reducible refine cH1.mono ?_); rintro e u4 ⟨rfl, g4⟩)
      | (go_at_call 86; (with_reducible refine (cM1 u4).mono ?_); rintro e u5 ⟨rfl, g5⟩))
    have G5 : w.grownBy u5 (some b) := grown_trans (grown_trans (grown_below _ (gtrans g1 g2)) g3) (grown_below _ (gtrans g4 g5))
    have R5 := R3.keep hl1 (gtrans g4 g5)
    clear g1 g2 g3 g4 g5 R3 cH0 cM0 cM1
    go_loopw [4] (fun va wr => ∃ (f : Nat) (ss : List ByteArray) (lc : List Pc) (o' cap' : Nat), wr.ownsRow w.heap.size 9 1 va ss.length (strsV ss) ∧ RdAt wr b g o' lc cap' v ∧ En lc ∧ z = rdL f ss lc ∧ ss.length + f = 9 ∧ 0 < f ∧ w.grownBy wr (some b)) (fun va _ => 9 - lenA va)
    case atStart => exact ⟨9, [], l.tail, o + 4, cap - 1, World.ownsRow_nil _ _ _ _, R5, hE1, HZ.out, rfl, by omega, G5⟩
    case round =>
      obtain ⟨f, ss, lc, o', cap', O, Rc, hEc, hzc, hsf, hf0, G⟩ := hrel
      obtain ⟨f, rfl⟩ : ∃ f', f = f' + 1 := ⟨f - 1, by omega⟩
      obtain ⟨ao, c2, rfl, A⟩ := isStrs_own O
      have hlc := hEc.ne
      have hzc' : z = if rdT ss (hd lc) ≠ 0 then (lc, [], rdT ss (hd lc)) else if (hd lc.tail).isM 41 = true then (lc.tail.tail, ss ++ [(hd lc).w], 0) else if (hd lc.tail).isM 44 = true then rdL f (ss ++ [(hd lc).w]) lc.tail.tail else (lc.tail, [], 21) := hzc
      clear hzc HZ
      by_cases ht : rdT ss (hd lc) = 0
      · rw [if_neg (by rw [ht]; decide)] at hzc'
        have hE2 : En lc.tail := hEc.tail (by rw [may_k (rdT_may ht)]; decide)
        have hl2 := hE2.ne
        have cA := attr_ok b g o' lc hEc cap' v ao ss.length c2 ss wr Rc A (K.apart G hKb) ht
        generalize (hd lc).w = x at *
        generalize hss : ss.length = n at *
        have hwr := G.size
        have hone : ∀ u ∈ [Value.string x], u.oneCell' = true := by intro u hu; simp at hu; subst hu; rfl
        go_wp2_with (first
          | (go_at_call 87; (with_reducible refine cA.mono ?_); rintro e u6 ⟨rfl, R6, g6⟩; have O6 := own_apart O g6 hbw; have z6 := g6.size)
          | (at_builtin; refine wpList_append_own _ rfl (.tmp 29) (.tmp 31) 33 rfl w.heap.size 9 i0 (.string ⟨#[]⟩) 1 16 Tryd.underlying33 hi hz0 hz1 hz2 rfl (by decide) _ _ _ rfl (O6.alloc _) ⟨u6.heap.size, 0, none⟩ 1 1 [.string x] rfl rfl (cell_one_new _ _ _) hone (by unfold maxLen; omega) (by omega) (by simp; omega) ?_))
        intro v7 w7 hown7 hgrow7 _
        have hown8 : w7.ownsRow w.heap.size 9 1 v7 (ss ++ [x]).length (strsV (ss ++ [x])) := by
          rw [strsV_snoc, List.length_append, hss]; exact hown7
        have R7 : RdAt w7 b g (o' + 4) lc.tail (cap' - 1) v := (R6.keep hl2 (galloc (Below.refl _ _) _)).grown hl2 hgrow7 (fun e => by have := (O6.lt _ e).1; omega) (fun e => by have := (O6.lt _ e).1; omega)
        have G7 : w.grownBy w7 (some b) := grown_far (grown_trans (grown_trans G g6) (grown_below _ (galloc (Below.refl _ _) _))) hgrow7 (fun r e => (O6.lt _ e).1)
        have hss9 : (ss ++ [x]).length = n + 1 := by rw [List.length_append, hss]; rfl
        obtain ⟨ao7, c7, rfl, _⟩ := isStrs_own hown8
        rw [hss9] at hown8 ⊢
        clear hown7 hgrow7 O6 O g6 R6 cA A Rc
        have cH2 := here_is b g (o' + 4) lc.tail hl2 (cap' - 1) v w7 R7
        have cM2 := fun (u : World) => isMark_any (hd lc.tail) 41 u
        have cM3 := fun (u : World) => isMark_any (hd lc.tail) 44 u
        cases h41' : (hd lc.tail).isM 41
        · rw [h41', if_neg (by decide)] at hzc'
          rw [h41'] at cM2
          cases h44 : (hd lc.tail).isM 44
          · rw [h44, if_neg (by decide)] at hzc'
            rw [h44] at cM3
            have HZ : Hid (z = (lc.tail, [], 21)) := hzc'
            clear hzc'
            go_wp2_with (first
              | (go_at_call 25; (with_reducible refine cH2.mono ?_); rintro e u8 ⟨rfl, g8⟩)
              | (go_at_call 86; (with_reducible refine (cM2 u8).mono ?_); rintro e u9 ⟨rfl, g9⟩; have cH3 := here_is b g (o' + 4) lc.tail hl2 (cap' - 1) v u9 (R7.keep hl2 (gtrans g8 g9)))
              | (go_at_call 25; (with_reducible refine cH3.mono ?_); rintro e u10 ⟨rfl, g10⟩)
              | (go_at_call 86; (with_reducible refine (cM3 u10).mono ?_); rintro e u11 ⟨rfl, g11⟩))
            go_ret2
            refine ⟨_, o' + 4, cap' - 1, by rw [HZ.out]; rfl, ?_, fun h => ?_, grown_trans G7 (grown_below _ (gtrans (gtrans (gtrans g8 g9) g10) g11))⟩
            · rw [HZ.out]; exact R7.keep hl2 (gtrans (gtrans (gtrans g8 g9) g10) g11)
            · rw [HZ.out] at h; cases h
          · rw [h44, if_pos rfl] at hzc'
            rw [h44] at cM3
            have HZ : Hid (z = rdL f (ss ++ [x]) lc.tail.tail) := hzc'
            clear hzc'
            have hE3 : En lc.tail.tail := hE2.tail (by rw [isM_k h44]; decide)
            have hl3 := hE3.ne
            go_wp2_with (first
              | (go_at_call 25; (with_reducible refine cH2.mono ?_); rintro e u8 ⟨rfl, g8⟩)
              | (go_at_call 86; (with_reducible refine (cM2 u8).mono ?_); rintro e u9 ⟨rfl, g9⟩; have cH3 := here_is b g (o' + 4) lc.tail hl2 (cap' - 1) v u9 (R7.keep hl2 (gtrans g8 g9)))
              | (go_at_call 25; (with_reducible refine cH3.mono ?_); rintro e u10 ⟨rfl, g10⟩)
              | (go_at_call 86; (with_reducible refine (cM3 u10).mono ?_); rintro e u11 ⟨rfl, g11⟩; have cT3 := step_is b g (o' + 4) lc.tail hl3 (cap' - 1) v u11 (R7.keep hl2 (gtrans (gtrans (gtrans g8 g9) g10) g11)))
              | (go_at_call 67; (with_reducible refine cT3.mono ?_); rintro e u12 ⟨⟨x12, rfl⟩, R12, g12⟩))
            go_roundw
            case rel =>
              refine ⟨f, ss ++ [x], lc.tail.tail, o' + 4 + 4, cap' - 1 - 1, ?_, R12, hE3, HZ.out, by rw [hss9]; omega, ?_, grown_trans (grown_trans G7 (grown_below _ (gtrans (gtrans (gtrans g8 g9) g10) g11))) g12⟩
              · rw [hss9]; exact own_apart (own_keep hown8 (gtrans (gtrans (gtrans g8 g9) g10) g11)) g12 hbw
              · apply Decidable.byContradiction
                intro hf1
                have h8 : n = 8 := by omega
                unfold rdT at ht
                rw [if_neg (by rw [rdT_may' ht]; decide), hss, if_pos h8] at ht
                cases ht
            case measure => simp [lenA]; omega
        · rw [h41', if_pos rfl] at hzc'
          rw [h41'] at cM2
          have HZ : Hid (z = (lc.tail.tail, ss ++ [x], 0)) := hzc'
          clear hzc'
          have hE3 : En lc.tail.tail := hE2.tail (by rw [isM_k h41']; decide)
          have hl3 := hE3.ne
          go_wp2_with (first
            | (go_at_call 25; (with_reducible refine cH2.mono ?_); rintro e u8 ⟨rfl, g8⟩)
            | (go_at_call 86; (with_reducible refine (cM2 u8).mono ?_); rintro e u9 ⟨rfl, g9⟩; have cT3 := step_is b g (o' + 4) lc.tail hl3 (cap' - 1) v u9 (R7.keep hl2 (gtrans g8 g9)))
            | (go_at_call 67; (with_reducible refine cT3.mono ?_); rintro e u12 ⟨⟨x12, rfl⟩, R12, g12⟩))
          go_ret2
          refine ⟨_, o' + 4 + 4, cap' - 1 - 1, by rw [HZ.out]; rfl, ?_, fun h => ?_, grown_trans (grown_trans G7 (grown_below _ (gtrans g8 g9))) g12⟩
          · rw [HZ.out]; exact R12
          · rw [HZ.out]; show World.ownsRow _ _ _ _ _ (ss ++ [x]).length _; rw [hss9]; exact own_apart (own_keep hown8 (gtrans g8 g9)) g12 hbw
      · rw [if_pos ht] at hzc'
        have HZ : Hid (z = (lc, [], rdT ss (hd lc))) := hzc'
        clear hzc'
        have cA := attr_err b g o' lc hEc cap' v ao ss.length c2 ss wr Rc A (K.apart G hKb) ht
        generalize rdT ss (hd lc) = q at *
        have qb : (q == 0) = false := by simpa using ht
        go_wp2_with (go_at_call 87; (with_reducible refine cA.mono ?_); rintro e u6 ⟨rfl, R6, g6⟩)
        go_ret2
        refine ⟨_, o', cap', by rw [HZ.out]; rfl, ?_, fun h => ?_, grown_trans G g6⟩
        · rw [HZ.out]; exact R6
        · rw [HZ.out] at h; exact absurd h ht
  · rw [h41, if_pos rfl] at hz
    rw [h41] at cM1
    have HZ : Hid (rdA l = (l.tail.tail, [], 0)) := hz
    clear hz
    have hE2 : En l.tail.tail := hE1.tail (by rw [isM_k h41]; decide)
    have hl2 := hE2.ne
    go_enter Tryd.func69, Tryd.ntmps69
    go_wp2_with (first
      | (go_at_call 25; (with_reducible refine cH0.mono ?_); rintro e u1 ⟨rfl, g1⟩)
      | (go_at_call 86; (with_reducible refine (cM0 u1).mono ?_); rintro e u2 ⟨rfl, g2⟩; have cT1 := step_is b g o l hl1 cap v u2 (R.keep hl (gtrans g1 g2)))
      | (go_at_call 67; (with_reducible refine cT1.mono ?_); rintro e u3 ⟨⟨x3, rfl⟩, R3, g3⟩; have cH1 := here_is b g (o + 4) l.tail hl1 (cap - 1) v u3 R3)
      | (go_at_call 25; (with_reducible refine cH1.mono ?_); rintro e u4 ⟨rfl, g4⟩)
      | (go_at_call 86; (with_reducible refine (cM1 u4).mono ?_); rintro e u5 ⟨rfl, g5⟩; have cT2 := step_is b g (o + 4) l.tail hl2 (cap - 1) v u5 (R3.keep hl1 (gtrans g4 g5)))
      | (go_at_call 67; (with_reducible refine cT2.mono ?_); rintro e u6 ⟨⟨x6, rfl⟩, R6, g6⟩))
    go_ret2
    refine ⟨_, o + 4 + 4, cap - 1 - 1, by rw [HZ.out]; rfl, ?_, fun h => ?_, grown_trans (grown_trans (grown_trans (grown_below _ (gtrans g1 g2)) g3) (grown_below _ (gtrans g4 g5))) g6⟩
    · rw [HZ.out]; exact R6
    · rw [HZ.out]; exact World.ownsRow_nil _ _ _ _

end Go.Proofs.YtkpnnofonocilaaDoor
