/- For every list of tokens, list of gaps and mask the law LexLoose returns true: those of the tokens that Lex could give, written with the gaps between them and keywords in letters of any case, are the same tokens, each at its place. The listed variables hold what their texts lay (the card ties that to the text). No other condition. -/
import Derived.Test.YtlcmfefcammklabDoorLs
import Derived.Test.YtlcmfefcammklabDoorRs
import Derived.Test.YtlcmfefcammklabDoorCa
import Derived.Test.YtlcmfefcammklabDoorAp
import Derived.Test.YtlcmfefcammklabDoorOpenI
import Derived.Test.YtlcmfefcammklabDoorEr
import Derived.Test.YtlcmfefcammklabDoorCards
import Derived.Test.YtlcmfefcammklabDoorTie
import Derived.Carry
import Derived.ChangeMaps5
import Derived.SizedLaws
import Derived.Lib.SmallJoins
import Derived.Lib.AppendStr
import Derived.Deep.DeepHandedRow
import Derived.Lay
namespace Go.Proofs.YtlcmfefcammklabDoor.lexLoose
open Go.ChangeShapes Go.WideShapes Go.ChangeAt Go.RowKit Go.BigFrame
set_option linter.unusedVariables false
set_option linter.unusedSimpArgs false

theorem own_at {w : World} {base g n cap : Nat} {L : List Tok} (h : w.ownsRow base 29 4 (.slice (some ⟨g, 0, none⟩) n cap) n (toksV L)) (hn : L.length = n) {k : Nat} (hk : k < n) :
    w.cell? ⟨g, k * 4, none⟩ = some (.int .i64 (L.getD k noTok).k) ∧ w.cell? ⟨g, k * 4 + 1, none⟩ = some (.string (L.getD k noTok).t) ∧ w.cell? ⟨g, k * 4 + 2, none⟩ = some (.int .i64 (L.getD k noTok).n) ∧ w.cell? ⟨g, k * 4 + 3, none⟩ = some (.int .i64 (L.getD k noTok).a) := by
  have hc : ∀ j, j < 4 → w.cell? ⟨g, k * 4 + j, none⟩ = (tokA (L.getD k noTok)).toList[j]? := fun j hj => by
    rw [World.ownsRow.cellAt h (k * 4 + j) (by omega), toksV_at L k (by omega) j hj]
  exact ⟨hc 0 (by omega), hc 1 (by omega), hc 2 (by omega), hc 3 (by omega)⟩
theorem own_cap {w : World} {base : Nat} {e : TypeId} {size : Nat} {ao : Option Addr} {n cap : Nat} {xs : List Value} (h : w.ownsRow base e size (.slice ao n cap) n xs) : n ≤ cap := by
  rcases h.2 with ⟨h1, h2⟩ | ⟨g, c, cur, h1, _, _, h2, _⟩
  · omega
  · simp only [Value.slice.injEq] at h1
    omega
theorem could_kw {t : Tok} (hc : couldB t = true) (h30 : 30 ≤ t.k) : ∃ j, j < 27 ∧ spS t = kw j := by
  obtain ⟨k, tx, n, a⟩ := t
  dsimp only at h30
  unfold couldB at hc
  dsimp only at hc
  rw [if_neg (by omega)] at hc
  by_cases n0 : n ≠ 0
  · rw [if_pos n0] at hc; cases hc
  rw [if_neg n0, if_pos (show k ≠ 1 by omega)] at hc
  have h2' := of_decide_eq_true (Bool.and_eq_true_iff.1 hc).2
  obtain ⟨j, rfl⟩ : ∃ j : Nat, k = 30 + (j : Int) := ⟨(k - 30).toNat, by omega⟩
  refine ⟨j, by omega, ?_⟩
  unfold spS; rw [if_neg (show ¬ 30 + (j : Int) = 1 by omega), if_neg (show ¬ 30 + (j : Int) = 2 by omega), if_neg (show ¬ (3 ≤ 30 + (j : Int) ∧ 30 + (j : Int) ≤ 21) by omega), if_pos (show 30 ≤ 30 + (j : Int) ∧ 30 + (j : Int) ≤ 56 by omega)]; congr 1; show (30 + (j : Int) - 30).toNat = j; omega
theorem toks_upto {w : World} {base n cap : Nat} {vo : Option Addr} {L : List Tok} (h : w.ownsRow base 29 4 (.slice vo n cap) n (toksV L)) (hn : L.length = n) {k : Nat} (hk : k ≤ n) : IsToks w vo (L.take k) := fun i hi => by
  subst hn
  obtain ⟨_, _, e, A⟩ := toks_of_own h
  simp only [Value.slice.injEq, true_and] at e
  obtain ⟨rfl, rfl⟩ := e
  rw [List.length_take] at hi
  have e2 : (L.take k).getD i noTok = L.getD i noTok := by rw [List.getD_eq_getElem?_getD, List.getElem?_take, if_pos (by omega), ← List.getD_eq_getElem?_getD]
  rw [e2]
  exact A i (by omega)
theorem markL_stay (f : Nat → Tok) (L : List Tok) : ∀ k i, k ≤ i → (markL f L k).getD i noTok = L.getD i noTok := by
  intro k
  induction k with
  | zero => intro i _; rfl
  | succ k ih =>
    intro i h
    show ((markL f L k).set k (f k)).getD i noTok = _
    rw [List.getD_eq_getElem?_getD, List.getElem?_set, if_neg (by omega), ← List.getD_eq_getElem?_getD]
    exact ih i (by omega)

set_option maxRecDepth 100000 in
set_option maxHeartbeats 8000000 in
theorem walk (ao : Option Addr) (cap : Nat) (ts : List Tok) (go : Option Addr) (gcap : Nat) (zs : List Int) (mask : Int) (hmask : (Lit.int .u64 mask).wf = true) (w : World) (K : KwAt w) (Sg : SgAt w) (E : ErAt w) (P : PwAt w) (Sr : SrAt w) (Kr : KrAt w) (Gp : GpAt w) (wc : ts.length ≤ cap) (wn : ao = none → ts.length = 0 ∧ cap = 0) (A : IsToks w ao ts) (wr' : ts.length * 40 ≤ 140737488351232) (ws : ∀ k, (ts.getD k noTok).fit) (gc : zs.length ≤ gcap) (Z : IsInts w go zs) (gr : zs.length * 8 ≤ 140737488351232) : Calls Tryd.prog 5 #[.slice ao ts.length cap, .slice go zs.length gcap, .int .u64 mask] w fun e w' => e = .returned (.bool true) ∧ Below w.heap.size w w' := by
  obtain ⟨i0, hi, hz0, hz1, hz2⟩ := info_partsB
  have cC := clean_any ts ao cap (by omega) ws w A Kr
  have hcl := cleanL_len ts ts.length
  have hco := cleanL_could ts ts.length
  generalize cleanL ts ts.length = cs at *
  have hcd : ∀ k, k < cs.length → couldB (cs.getD k noTok) = true := fun k hk => (hco _ (by rw [List.getD_eq_getElem?_getD, List.getElem?_eq_getElem hk]; exact List.getElem_mem _)).1
  have hnn : ∀ k, okN (cs.getD k noTok) := fun k => by
    by_cases hk : k < cs.length
    · obtain ⟨_, _, j, hj⟩ := hco (cs.getD k noTok) (by rw [List.getD_eq_getElem?_getD, List.getElem?_eq_getElem hk]; exact List.getElem_mem _)
      rw [hj]
      exact (ws j).1
    · rw [List.getD_eq_getElem?_getD, List.getElem?_eq_none (by omega)]; exact noTok_fit.1
  have h19 : ∀ k, (spS (cs.getD k noTok)).size ≤ 19 := fun k => by
    by_cases h : k < cs.length
    · exact could_len (hcd k h) (hnn k).2
    · rw [List.getD_eq_getElem?_getD, List.getElem?_eq_none (by omega)]; exact (by decide : (spS noTok).size ≤ 19)
  have hpure := loose_pure cs zs hcd (fun k => (hnn k).2)
  obtain ⟨n, hn⟩ : ∃ n, cs.length = n := ⟨_, rfl⟩
  rw [hn] at cC
  go_enter Tryd.func5, Tryd.ntmps5
  go_wp2_with (go_at_call 13; (with_reducible refine cC.mono ?_); rintro e u0 ⟨v0, rfl, O0, g0⟩; obtain ⟨vo, vc, rfl⟩ := own_shape O0)
  clear hco ws A wn wr' wc cC
  have hvlt : ∀ g, (Value.slice vo n vc).ownBlock = some g → w.heap.size ≤ g ∧ g < u0.heap.size := fun g e => O0.lt g e
  have z0 := g0.size
  go_loopw [7, 8, 9] (fun v7 vb i wr => ∃ k : Nat, k ≤ n ∧ v7 = .slice vo n vc ∧ i = .int .i64 k ∧ stB cs zs k ≤ 8192 ∧ (∃ l : List UInt8, wr.ownsRow u0.heap.size 5 1 vb (stB cs zs k) (rowB l) ∧ Wr cs zs k l) ∧ wr.ownsRow w.heap.size 29 4 (.slice vo n vc) n (toksV (markL (plG cs zs) cs k)) ∧ Below w.heap.size w wr ∧ u0.heap.size ≤ wr.heap.size) (fun _ _ i _ => n - (intOf i).toNat)
  case atStart => exact ⟨0, Nat.zero_le _, rfl, rfl, Nat.zero_le _, ⟨[], World.ownsRow_nil _ _ _ _, Wr.nil _ _⟩, O0, g0, Nat.le_refl _⟩
  case round =>
    obtain ⟨k, hk, rfl, rfl, hsb, ⟨l, Ob, hWr⟩, O, G, hz⟩ := hrel
    by_cases hlt : k < n
    · obtain ⟨g, cap', hv, hb, hgl⟩ := O.form (by omega)
      simp only [Value.slice.injEq] at hv
      obtain ⟨rfl, _, rfl⟩ := hv
      obtain ⟨bo, bc, rfl⟩ := own_shape Ob
      have hgl2 := gB_size zs k
      have hg10 := (gap_facts _ (gI_lt zs k)).2.2
      have hgx : Hid ((gp (gI zs k)).data.toList = gB zs k) := rfl
      have gcell := (Gp.keep G).2 (gI zs k) (gI_lt zs k)
      have hlen8 : stB cs zs k ≤ 8192 := hsb
      have hcase : (zs.length = 0 ∧ gI zs k = 0) ∨ (0 < zs.length ∧ zs.getD (k % zs.length) 0 < 0 ∧ gI zs k = 0) ∨ (0 < zs.length ∧ 12 ≤ zs.getD (k % zs.length) 0 ∧ gI zs k = 0) ∨ (0 < zs.length ∧ zs.getD (k % zs.length) 0 = (gI zs k : Int)) := by
        unfold gI gV
        by_cases h0 : 0 < zs.length
        · rw [if_pos h0]
          by_cases h1 : zs.getD (k % zs.length) 0 < 0
          · exact .inr (.inl ⟨h0, h1, if_pos (.inl h1)⟩)
          · by_cases h2 : 12 ≤ zs.getD (k % zs.length) 0
            · exact .inr (.inr (.inl ⟨h0, h2, if_pos (.inr h2)⟩))
            · exact .inr (.inr (.inr ⟨h0, by rw [if_neg (by omega)]; omega⟩))
        · exact .inl ⟨by omega, by rw [if_neg h0, if_neg (by omega)]; rfl⟩
      have hgI := gI_lt zs k
      have hgs : (gp (gI zs k)).size ≤ 10 := by rw [hgl2]; exact hg10
      have HGL : Hid ((gp (gI zs k)).size = (gB zs k).length) := hgl2
      clear hgl2 hg10
      by_cases hbig : 8192 < stB cs zs k + (gp (gI zs k)).size + 19
      · have hbigI : (8192 : Int) < (stB cs zs k : Int) + ((gp (gI zs k)).size : Int) + 19 := by omega
        have hcv := conv_own Ob
        obtain ⟨hll, hlx⟩ := hpure k (by omega) hcl l hWr hsb
        have cL := fun (u : World) (g : Below w.heap.size w u) => lexLex_any ⟨l.toArray⟩ (by rw [size_txt]; omega) u (K.keep g) (Sg.keep g) (E.keep g)
        rw [hlx] at cL
        dsimp only at cL
        have hWl : ((markL (plG cs zs) cs k).take k).length = k := by rw [List.length_take, markL_len]; omega
        have B := toks_upto O (by rw [markL_len]; exact hn) hk
        generalize (markL (plG cs zs) cs k).take k = W at *
        generalize (⟨l.toArray⟩ : ByteArray) = tx at *
        have cL' : ∀ (u : World), Below w.heap.size w u → Calls Tryd.prog 7 #[.string tx] u fun e w' => ∃ v, e = .returned (.tuple #[v, .int .i64 0, .int .i64 0]) ∧ w'.ownsRow u.heap.size 29 4 v W.length (toksV W) ∧ Below u.heap.size u w' := cL
        clear cL hpure hlx hll hcd hnn h19 hWr
        rw [hWl] at cL'
        have hkv : k ≤ vc := by have := own_cap O; omega
        generalize hgxx : gp (gI zs k) = gx at *
        generalize hgi : gI zs k = gi at *
        rcases hcase with ⟨h1, h2⟩ | ⟨h1, h2, h3⟩ | ⟨h1, h2, h3⟩ | ⟨h1, h2⟩
        all_goals
          first
            | have h1i : decide (0 < zs.length) = false := decide_eq_false (by omega)
              subst h2
              clear h1
            | have h1i : (0 : Int) < (zs.length : Int) := by omega
              have m0 : (0 : Int) ≤ (k : Int) % (zs.length : Int) := Int.emod_nonneg _ (by omega)
              have m1 : (k : Int) % (zs.length : Int) < (zs.length : Int) := Int.emod_lt_of_pos _ h1i
              obtain ⟨zg, zo, rfl, zc⟩ := (Z.keep G) (k % zs.length) (Nat.mod_lt _ h1)
              first
                | (subst h3; generalize zs.getD (k % zs.length) 0 = zv at *)
                | (rw [h2] at zc; clear h2)
        all_goals
          go_wp2_with (first
            | (go_at_call 7; (with_reducible refine (cL' _ G).mono ?_); rintro e8 u8 ⟨v8, rfl, O8, g8⟩; rw [← hWl] at O8; obtain ⟨lo, lc, rfl, D⟩ := toks_of_own O8; have s1 := same_true W (by omega) lo (some ⟨g, 0, none⟩) lc vc u8 D (B.keep g8); rw [hWl] at s1; rw [hWl])
            | (go_at_call 15; (with_reducible refine s1.mono ?_); rintro e9 u9 ⟨rfl, g9⟩))
          go_ret
          exact ⟨by first | rfl | simp, gtrans (gtrans G g8) g9⟩
      · have hbigI : decide ((8192 : Int) < (stB cs zs k : Int) + ((gp (gI zs k)).size : Int) + 19) = false := decide_eq_false (by omega)
        have h19k := h19 k
        have hsp : 30 ≤ (cs.getD k noTok).k → ∃ j, j < 27 ∧ spS (cs.getD k noTok) = kw j := could_kw (hcd k (by omega))
        have hmk : (markL (plG cs zs) cs (k + 1)).getD k noTok = plG cs zs k := markL_at _ _ (k + 1) k (by omega) (by omega)
        have hst1 : stB cs zs (k + 1) = stB cs zs k + (gB zs k).length + (spS (cs.getD k noTok)).size := rfl
        have HST : Hid (stB cs zs (k + 1) = stB cs zs k + (gB zs k).length + (spS (cs.getD k noTok)).size) := hst1
        clear hst1
        have hnnk := hnn k
        generalize hgxx : gp (gI zs k) = gx at *
        generalize hgi : gI zs k = gi at *
        rcases hcase with ⟨h1, h2⟩ | ⟨h1, h2, h3⟩ | ⟨h1, h2, h3⟩ | ⟨h1, h2⟩
        all_goals
          first
            | have h1i : decide (0 < zs.length) = false := decide_eq_false (by omega)
              subst h2
              clear h1
            | have h1i : (0 : Int) < (zs.length : Int) := by omega
              have m0 : (0 : Int) ≤ (k : Int) % (zs.length : Int) := Int.emod_nonneg _ (by omega)
              have m1 : (k : Int) % (zs.length : Int) < (zs.length : Int) := Int.emod_lt_of_pos _ h1i
              obtain ⟨zg, zo, rfl, zc⟩ := (Z.keep G) (k % zs.length) (Nat.mod_lt _ h1)
              first
                | (subst h3; generalize zs.getD (k % zs.length) 0 = zv at *)
                | (rw [h2] at zc; clear h2)
          go_wp2_with (at_builtin; refine Lib.wpList_append_own_string _ rfl (.tmp 51) (.tmp 54) 42 9 rfl u0.heap.size 5 i0 Tryd.underlying42 Tryd.underlying9 hi hz0 hz1 hz2 _ _ _ rfl Ob gx rfl (by unfold maxLen; omega) (by omega) hz ?_)
        all_goals
          intro v1 w1 hown1 hgrow1 _
          obtain ⟨m, hm⟩ : ∃ m, stB cs zs k + gx.size = m := ⟨_, rfl⟩
          have O1b : w1.ownsRow u0.heap.size 5 1 v1 m (rowB (l ++ gB zs k)) := by
            rw [show rowB (l ++ gB zs k) = rowB l ++ Lib.strCells gx from by unfold rowB Lib.strCells; rw [List.map_append, ← hgx.out]; rfl, ← hm]
            exact hown1
          obtain ⟨b1, c1, rfl⟩ := own_shape O1b
          have O1 := own_far2 O hgrow1 u0.heap.size (fun r e => (hvlt r e).2) (fun r e => (Ob.lt r e).1)
          have G1 : Below w.heap.size w w1 := G.grown hgrow1 G.size (fun r e => by have := (Ob.lt r e).1; omega)
          have z1 : u0.heap.size ≤ w1.heap.size := Nat.le_trans hz hgrow1.size
          obtain ⟨y0, y1, y2, y3⟩ := own_at O1 ((markL_len _ _ _).trans hn) hlt
          have yf := fun j => World.ownsRow.frozenAt O1 j
          have hnx := own_place O1 k (by rw [markL_len, hn]; exact hlt) (m : Int)
          rw [markL_stay (plG cs zs) cs k k (Nat.le_refl _)] at hnx y0 y1 y2 y3
          rw [show (markL (plG cs zs) cs k).set k (tA (cs.getD k noTok) (m : Int)) = markL (plG cs zs) cs (k + 1) from by rw [← hm, HGL.out]; rfl] at hnx
          obtain ⟨O2, G2⟩ := hnx
          have hgu : g < u0.heap.size := (hvlt g rfl).2
          have O2b := own_far O1b G2 (fun r e => by cases e; exact hgu)
          have GB : Below w.heap.size w (w1.setCell ⟨g, k * 4 + 3, none⟩ (.int .i64 (m : Int))) := G1.grown G2 G1.size (fun r e => by cases e; exact hb)
          have zB : u0.heap.size ≤ (w1.setCell ⟨g, k * 4 + 3, none⟩ (.int .i64 (m : Int))).heap.size := Nat.le_trans z1 G2.size
          have cS := fun (u9 : World) (g9 : Below w.heap.size w u9) => refSpell_any (tA (cs.getD k noTok) (m : Int)) hnnk u9 (Kr.keep g9) (Sr.keep g9) (P.keep g9)
          rw [spS_tA] at cS
          have hyk : (plG cs zs k).k = (cs.getD k noTok).k := rfl
          have hmle : m ≤ 8192 := by omega
          have hmI : (m : Int) ≤ 8192 := by omega
          have hok1 : ∀ l2, okX (cs.getD k noTok) l2 → Wr cs zs (k + 1) (l ++ gB zs k ++ l2) := fun l2 h => hWr.more h
          have HOK : Hid (∀ l2, (okX (cs.getD k noTok) l2 ↔ if 30 ≤ (cs.getD k noTok).k then l2.length = (spS (cs.getD k noTok)).size ∧ ∀ i, i < (spS (cs.getD k noTok)).size → upB (l2.getD i 0) = (spS (cs.getD k noTok)).data.getD i 0 else l2 = (spS (cs.getD k noTok)).data.toList)) := fun l2 => Iff.rfl
          generalize okX (cs.getD k noTok) = okY at *
          generalize hxx : spS (cs.getD k noTok) = x at *
          generalize cs.getD k noTok = y at *
          replace cS : ∀ u, Below w.heap.size w u → Calls Tryd.prog 16 #[.agg #[.int .i64 y.k, .string y.t, .int .i64 y.n, .int .i64 (m : Int)]] u fun e w' => e = .returned (.string x) ∧ Below u.heap.size u w' := cS
          clear hown1 O Ob hWr hpure hgrow1
          by_cases h30 : 30 ≤ y.k
          · obtain ⟨j, hj, rfl⟩ := hsp h30
            have hk16 : (kw j).size ≤ 16 := (kw_first j hj).2.2.1
            have cK := cased_any (kw j) hk16 (kw_letters j hj)
            generalize kw j = x at *
            go_wp2_with (first
              | (go_at_call 16; (with_reducible refine (cS _ GB).mono ?_); rintro e5 u5 ⟨rfl, g5⟩; have O5 := own_keep O2 g5; have O5b := own_keep O2b g5; have t0 := (own_at O5 ((markL_len _ _ _).trans hn) hlt).1; rw [hmk, hyk] at t0; have z5 := Nat.le_trans zB g5.size)
              | (go_at_call 17; (with_reducible refine (cK _ _).mono ?_); rintro e6 u6 ⟨⟨l2, rfl, hl2, hup⟩, g6⟩; have O6 := own_keep O5 g6; have O6b := own_keep O5b g6; have hl3 : (⟨l2.toArray⟩ : ByteArray).size = l2.length := size_txt _; have z6 := Nat.le_trans z5 g6.size)
              | (at_builtin; refine Lib.wpList_append_own_string _ rfl (.tmp 79) (.tmp 80) 42 9 rfl u0.heap.size 5 i0 Tryd.underlying42 Tryd.underlying9 hi hz0 hz1 hz2 _ _ _ rfl O6b ⟨l2.toArray⟩ rfl (by unfold maxLen; omega) (by omega) z6 ?_))
            intro v7 w7 hown7 hgrow7 _
            have O7b : w7.ownsRow u0.heap.size 5 1 v7 (stB cs zs (k + 1)) (rowB (l ++ gB zs k ++ l2)) := by
              rw [HST.out, show rowB (l ++ gB zs k ++ l2) = rowB (l ++ gB zs k) ++ Lib.strCells ⟨l2.toArray⟩ from by unfold rowB Lib.strCells; rw [List.map_append]; rfl, ← HGL.out, hm]
              first | exact hown7 | (rw [← hl2, ← hl3]; exact hown7)
            have O7 := own_far2 O6 hgrow7 u0.heap.size (fun r e => (hvlt r e).2) (fun r e => (O6b.lt r e).1)
            have G6 := gtrans (gtrans GB g5) g6
            have G7 : Below w.heap.size w w7 := G6.grown hgrow7 G6.size (fun r e => by have := (O6b.lt r e).1; omega)
            have hst8 : stB cs zs (k + 1) ≤ 8192 := by rw [HST.out, ← HGL.out]; omega
            have hW7 := hok1 l2 ((HOK.out l2).2 (by rw [if_pos h30]; exact ⟨hl2, hup⟩))
            have z7 := Nat.le_trans z6 hgrow7.size
            clear hown7 hgrow7
            go_wp2
            go_roundw
            case rel => exact ⟨k + 1, by omega, rfl, by go_num, hst8, ⟨_, O7b, hW7⟩, O7, G7, z7⟩
            case measure => simp [intOf]; omega
          · have d30 : decide ((30 : Int) ≤ y.k) = false := decide_eq_false h30
            go_wp2_with (first
              | (go_at_call 16; (with_reducible refine (cS _ GB).mono ?_); rintro e5 u5 ⟨rfl, g5⟩; have O5 := own_keep O2 g5; have O5b := own_keep O2b g5; have t0 := (own_at O5 ((markL_len _ _ _).trans hn) hlt).1; rw [hmk, hyk] at t0; have z5 := Nat.le_trans zB g5.size)
              | (at_builtin; refine Lib.wpList_append_own_string _ rfl (.tmp 79) (.tmp 80) 42 9 rfl u0.heap.size 5 i0 Tryd.underlying42 Tryd.underlying9 hi hz0 hz1 hz2 _ _ _ rfl O5b x rfl (by unfold maxLen; omega) (by omega) z5 ?_))
            intro v7 w7 hown7 hgrow7 _
            have O7b : w7.ownsRow u0.heap.size 5 1 v7 (stB cs zs (k + 1)) (rowB (l ++ gB zs k ++ x.data.toList)) := by
              rw [HST.out, show rowB (l ++ gB zs k ++ x.data.toList) = rowB (l ++ gB zs k) ++ Lib.strCells x from by unfold rowB Lib.strCells; rw [List.map_append]; rfl, ← HGL.out, hm]
              exact hown7
            have O7 := own_far2 O5 hgrow7 u0.heap.size (fun r e => (hvlt r e).2) (fun r e => (O5b.lt r e).1)
            have G5 := gtrans GB g5
            have G7 : Below w.heap.size w w7 := G5.grown hgrow7 G5.size (fun r e => by have := (O5b.lt r e).1; omega)
            have hst8 : stB cs zs (k + 1) ≤ 8192 := by rw [HST.out, ← HGL.out]; omega
            have hW7 := hok1 x.data.toList ((HOK.out _).2 (by rw [if_neg (by omega)]))
            have z7 := Nat.le_trans z5 hgrow7.size
            clear hown7 hgrow7
            go_wp2
            go_roundw
            case rel => exact ⟨k + 1, by omega, rfl, by go_num, hst8, ⟨_, O7b, hW7⟩, O7, G7, z7⟩
            case measure => simp [intOf]; omega
    · obtain rfl : k = n := by omega
      obtain ⟨bo, bc, rfl⟩ := own_shape Ob
      have hcv := conv_own Ob
      obtain ⟨hll, hlx⟩ := hpure k (by omega) hcl l hWr hsb
      have cL := fun (u : World) (g : Below w.heap.size w u) => lexLex_any ⟨l.toArray⟩ (by rw [size_txt]; omega) u (K.keep g) (Sg.keep g) (E.keep g)
      rw [hlx] at cL
      dsimp only at cL
      have hWl : ((markL (plG cs zs) cs k).take k).length = k := by rw [List.length_take, markL_len]; omega
      have B := toks_upto O (by rw [markL_len]; exact hn) hk
      generalize (markL (plG cs zs) cs k).take k = W at *
      generalize (⟨l.toArray⟩ : ByteArray) = tx at *
      have cL' : ∀ (u : World), Below w.heap.size w u → Calls Tryd.prog 7 #[.string tx] u fun e w' => ∃ v, e = .returned (.tuple #[v, .int .i64 0, .int .i64 0]) ∧ w'.ownsRow u.heap.size 29 4 v W.length (toksV W) ∧ Below u.heap.size u w' := cL
      clear cL hpure hlx hll hcd hnn h19 hWr
      rw [hWl] at cL'
      go_wp2_with (first
        | (go_at_call 7; (with_reducible refine (cL' _ G).mono ?_); rintro e8 u8 ⟨v8, rfl, O8, g8⟩; rw [← hWl] at O8; obtain ⟨lo, lc, rfl, D⟩ := toks_of_own O8; have s1 := same_true W (by omega) lo vo lc vc u8 D (B.keep g8); rw [hWl] at s1; rw [hWl])
        | (go_at_call 15; (with_reducible refine s1.mono ?_); rintro e9 u9 ⟨rfl, g9⟩))
      go_ret
      exact ⟨by first | rfl | simp, gtrans (gtrans G g8) g9⟩

theorem own : ownKnob Tryd.prog.godebug = none := by kernel_rfl
theorem laidOut : laidOutB Tryd.prog = true := by kernel_rfl

theorem gKw : Tryd.prog.globalNamed "sluice/api.Keywords" = some 2 := by kernel_rfl
theorem tabs {W : World} (h : laidMetH Tryd.prog Rows.lexLooseRow.laid W) : KwAt W := by
  have h0 : laidMet Tryd.prog Rows.lexLooseRow.laid W := (Go.MakeChecks.laidMetH_plain _ _ _ (by kernel_rfl)).mp h
  exact kwAt_of (tabS (bss := kwl) gKw (by kernel_rfl) Tryd.underlying51 Tryd.underlying9 (by kernel_rfl) (laidMet_tail (laidMet_tail (laidMet_tail (laidMet_tail (laidMet_tail h0))))))
theorem gKr : Tryd.prog.globalNamed "sluice/sluiceref3.Keywords" = some 4 := by kernel_rfl
theorem tabR {W : World} (h : laidMetH Tryd.prog Rows.lexLooseRow.laid W) : KrAt W := by
  have h0 : laidMet Tryd.prog Rows.lexLooseRow.laid W := (Go.MakeChecks.laidMetH_plain _ _ _ (by kernel_rfl)).mp h
  exact krAt_of (tabS (bss := kwl) gKr (by kernel_rfl) Tryd.underlying51 Tryd.underlying9 (by kernel_rfl) (laidMet_tail (laidMet_tail (laidMet_tail (laidMet_tail (laidMet_tail (laidMet_tail (laidMet_tail h0))))))))
theorem gSg : Tryd.prog.globalNamed "sluice/lex.signs" = some 1 := by kernel_rfl
theorem tabSg {W : World} (h : laidMetH Tryd.prog Rows.lexLooseRow.laid W) : SgAt W := by
  have h0 : laidMet Tryd.prog Rows.lexLooseRow.laid W := (Go.MakeChecks.laidMetH_plain _ _ _ (by kernel_rfl)).mp h
  exact sgAt_of (tabS (bss := sgl) gSg (by kernel_rfl) Tryd.underlying50 Tryd.underlying9 (by kernel_rfl) (laidMet_tail (laidMet_tail (laidMet_tail (laidMet_tail (laidMet_tail (laidMet_tail (laidMet_tail (laidMet_tail h0)))))))))
theorem gSr : Tryd.prog.globalNamed "sluice/sluiceref3.Signs" = some 3 := by kernel_rfl
theorem tabSr {W : World} (h : laidMetH Tryd.prog Rows.lexLooseRow.laid W) : SrAt W := by
  have h0 : laidMet Tryd.prog Rows.lexLooseRow.laid W := (Go.MakeChecks.laidMetH_plain _ _ _ (by kernel_rfl)).mp h
  exact srAt_of (tabS (bss := sgl) gSr (by kernel_rfl) Tryd.underlying50 Tryd.underlying9 (by kernel_rfl) (laidMet_tail (laidMet_tail (laidMet_tail (laidMet_tail (laidMet_tail (laidMet_tail h0)))))))
theorem gGp : Tryd.prog.globalNamed "sluice/sluicelaw3.gaps" = some 0 := by kernel_rfl
theorem tabGp {W : World} (h : laidMetH Tryd.prog Rows.lexLooseRow.laid W) : GpAt W := by
  have h0 : laidMet Tryd.prog Rows.lexLooseRow.laid W := (Go.MakeChecks.laidMetH_plain _ _ _ (by kernel_rfl)).mp h
  exact gpAt_of (tabS (bss := gapl) gGp (by kernel_rfl) Tryd.underlying43 Tryd.underlying9 (by kernel_rfl) (laidMet_tail (laidMet_tail (laidMet_tail (laidMet_tail (laidMet_tail (laidMet_tail (laidMet_tail (laidMet_tail (laidMet_tail h0))))))))))
theorem gEr : Tryd.prog.globalNamed "strconv.ErrRange" = some 7 := by kernel_rfl
theorem tabE {W : World} (h : laidMetH Tryd.prog Rows.lexLooseRow.laid W) : ErAt W := by
  have h0 : laidMet Tryd.prog Rows.lexLooseRow.laid W := (Go.MakeChecks.laidMetH_plain _ _ _ (by kernel_rfl)).mp h
  exact ifaceAt gEr (by kernel_rfl) ⟨_, Tryd.underlying58⟩ (laidMet_tail (laidMet_tail (laidMet_tail h0)))
theorem tabP {W : World} (h : laidMetH Tryd.prog Rows.lexLooseRow.laid W) : PwAt W := by
  have h0 : laidMet Tryd.prog Rows.lexLooseRow.laid W := (Go.MakeChecks.laidMetH_plain _ _ _ (by kernel_rfl)).mp h
  exact Lib.tabIs_of_head (g := 5) (t := 87) (e := 41) (n := 20) (by kernel_rfl) (by kernel_rfl) (by kernel_rfl) (by kernel_rfl) (by kernel_rfl) (by kernel_rfl) (laidMet_tail (laidMet_tail h0))

set_option maxRecDepth 100000 in
theorem contract (H : Type) (enc : TypeId × Value → H) (W : World) (base : Nat) (args : Array Value) (ds gs : List (DataW H)) (before : List MemPlace)
    (hval : ∀ (j : Nat) t v, Tryd.f5.params[j]? = some t → args[j]? = some v → Value.okWide Tryd.prog W .any base t v)
    (hsz : (DataW.weightsEach Tryd.prog (Tryd.f5.params.toList ++ Rows.lexLooseSpec.plain.varTypes Tryd.prog) (ds ++ gs)).all (· ≤ reachBytes) = true)
    (hW : DataW.Whole enc Tryd.prog Tryd.f5.params.toList Rows.lexLooseSpec.vars false W args.toList ds gs before) (hL : laidMetH Tryd.prog Rows.lexLooseRow.laid W) :
    Calls Tryd.prog 5 args W fun e W' => ∃ v, e = .returned v ∧ Rows.lexLooseSpec.post enc Tryd.prog Tryd.f5 false true false false W args v W' := by
  have hW' := hW
  obtain ⟨p, q, hA0, hV, rfl, hfz, hnd⟩ := hW
  have hA : DataW.TrodAll enc Tryd.prog W 0 (fun _ => true) true Tryd.f5.params.toList args.toList ds p := hA0
  rw [Tryd.params5] at hA hval hsz
  obtain ⟨v0, vs0, d0, ds0, p0, q0, hargs, rfl, rfl, h0, r0⟩ := trodAll_cons hA
  obtain ⟨v1, vs1, d1, ds1, p1, q1, rfl, rfl, rfl, h1, r1⟩ := trodAll_cons r0
  obtain ⟨v2, vs2, d2, ds2, p2, q2, rfl, rfl, rfl, h2, r2⟩ := trodAll_cons r1
  obtain ⟨rfl, rfl, rfl⟩ := trodAll_nil r2
  obtain rfl : args = #[v0, v1, v2] := by cases args; simp_all
  obtain ⟨rfl, rfl⟩ := trodVars_none hV
  have k0 := h0
  have lt0 : ∀ x ∈ p0, x.block < W.heap.size := by obtain ⟨m, hm⟩ := k0; exact DataW.trod_lt m _ _ _ hm
  obtain ⟨ao0, cap0, ts0, e0, wc0, wn0, w0, wr0, ws0⟩ : ∃ ao cap ts, v0 = .slice ao ts.length cap ∧ ts.length ≤ cap ∧ (ao = none → ts.length = 0 ∧ cap = 0) ∧ IsToks W ao ts ∧ ts.length * 40 ≤ 140737488351232 ∧ ∀ k, (ts.getD k noTok).fit := by
    obtain ⟨a, len, cap, e⟩ := okWide_slice Tryd.underlying23 (hval 0 23 v0 rfl rfl)
    subst e
    obtain ⟨fuel, hf⟩ := h0
    have hf' : DataW.trod enc Tryd.prog W 0 (fun _ => true) true fuel 23 [.slice a len cap] = some (d0, p0) := hf
    exact open_toks hf' (fun b hb => by
      have h1 := List.all_eq_true.1 hsz b (DataW.weights_mem_each (j := 0) (t := 23) rfl rfl b hb)
      simpa using h1)
  subst e0
  have k1 := h1
  have lt1 : ∀ x ∈ p1, x.block < W.heap.size := by obtain ⟨m, hm⟩ := k1; exact DataW.trod_lt m _ _ _ hm
  obtain ⟨ao1, cap1, zs1, e1, wc1, w1, wr1⟩ : ∃ ao cap zs, v1 = .slice ao zs.length cap ∧ zs.length ≤ cap ∧ IsInts W ao zs ∧ zs.length * 8 ≤ 140737488351232 := by
    obtain ⟨a, len, cap, e⟩ := okWide_slice Tryd.underlying40 (hval 1 40 v1 rfl rfl)
    subst e
    obtain ⟨fuel, hf⟩ := h1
    have hf' : DataW.trod enc Tryd.prog W 0 (fun _ => true) true fuel 40 [.slice a len cap] = some (d1, p1) := hf
    exact open_gaps hf' (fun b hb => by
      have h1 := List.all_eq_true.1 hsz b (DataW.weights_mem_each (j := 1) (t := 40) rfl rfl b hb)
      simpa using h1)
  subst e1
  have k2 := h2
  have lt2 : ∀ x ∈ p2, x.block < W.heap.size := by obtain ⟨m, hm⟩ := k2; exact DataW.trod_lt m _ _ _ hm
  obtain ⟨a2, e2, _, _, w2⟩ := open_int Tryd.underlying41 (hval 2 41 v2 rfl rfl) h2
  subst e2
  clear hA0
  refine (walk ao0 cap0 ts0 ao1 cap1 zs1 a2 w2 W (tabs hL) (tabSg hL) (tabE hL) (tabP hL) (tabSr hL) (tabR hL) (tabGp hL) wc0 wn0 w0 wr0 ws0 wc1 w1 wr1).mono fun e W' ⟨he, bel⟩ => ?_
  subst he
  exact ⟨_, rfl, _, _, _, [], _, [], hW', trodAll_mk1 (shut_bool Tryd.underlying4 _), (trodAll_cons_mk (Below.trod laidOut (by kernel_rfl) (of_decide_eq_true (by kernel_rfl)) k0 bel lt0) (trodAll_cons_mk (Below.trod laidOut (by kernel_rfl) (of_decide_eq_true (by kernel_rfl)) k1 bel lt1) (trodAll_cons_mk (Below.trod laidOut (by kernel_rfl) (of_decide_eq_true (by kernel_rfl)) k2 bel lt2) trodAll_mk0))), rfl, bel.frame _, fun h => by cases h⟩

/-- For the world of the witness: the settled one, the tables holding what their text lays. -/
def put (c : Array Value) : Obj → Obj
  | .cells _ t frozen => .cells c t frozen
  | x => x
theorem laid_met (os : Os) : laidMet Tryd.prog Rows.lexLooseRow.laid ((World.laidAll Tryd.prog os Rows.lexLooseRow.laid).forCall (fun _ _ => 0) ⟨#[], #[.slice none 0 0, .slice none 0 0, .int .u64 0], []⟩).memory :=
  laidMet_laidAll _ (by kernel_rfl) (by kernel_rfl)
theorem reads (os : Os) {H : Type} (enc : TypeId × Value → H) : ∃ places, DataW.whole enc Tryd.prog ((World.laidAll Tryd.prog os Rows.lexLooseRow.laid).forCall (fun _ _ => 0) ⟨#[], #[.slice none 0 0, .slice none 0 0, .int .u64 0], []⟩).memory Tryd.f5.params.toList Rows.lexLooseSpec.vars false (#[.slice none 0 0, .slice none 0 0, .int .u64 0] : Array Value).toList 8 = some ([.nil, .nil, .lit (.int .u64 0)], [], places) :=
  ⟨[], by kernel_rfl⟩

set_option maxRecDepth 100000 in
theorem lifted (os : Os) (started : os.Started) (H : Type) (enc : TypeId × Value → H) (F : Stop.Interp) :
    ReturnsInHanded {} Tryd.checked os 5 .any ((OpenSpec.ofChange Rows.lexLooseSpec).preRow enc Tryd.prog Tryd.f5 Rows.lexLooseRow.domain false Rows.lexLooseRow.laid) (((OpenSpec.ofChange Rows.lexLooseSpec).at F).post enc Tryd.prog Tryd.f5 false true false false) := by
  obtain ⟨places, hx⟩ := reads os enc
  refine returnsInHanded_of_row (C := Tryd.checked) (s := OpenSpec.ofChange Rows.lexLooseSpec) own started (by kernel_rfl) Tryd.func5
    ⟨(World.laidAll Tryd.prog os Rows.lexLooseRow.laid), fun _ _ => 0, ⟨#[], #[.slice none 0 0, .slice none 0 0, .int .u64 0], []⟩, World.laidAll_os _ _ _, World.shaped_of_ZipB (by kernel_rfl) (by kernel_rfl), rfl, (Input.okWide_of_okWideB (show Input.okWideB Tryd.prog ((World.laidAll Tryd.prog os Rows.lexLooseRow.laid).forCall (fun _ _ => 0) ⟨#[], #[.slice none 0 0, .slice none 0 0, .int .u64 0], []⟩) 5 ⟨#[], #[.slice none 0 0, .slice none 0 0, .int .u64 0], []⟩ = true by kernel_rfl)).2,
      OpenSpec.preRow_of_cond 8 hx (by kernel_rfl) (fun k hk => by cases hk) (by kernel_rfl) (laid_met os),
      by simp only [Assume.holds]; exact ⟨by simp, by simp, by simp, by simp, by simp⟩⟩ ?_
  intro W base args ds gs before hval hW _ _ hsz hL _ _
  exact contract H enc W base args ds gs before hval hsz hW hL

theorem said : Rows.LexLooseSaid :=
  OpenClaim.holds_of_cond 5 Tryd.f5 rfl rfl rfl rfl rfl rfl rfl ⟨rfl, rfl, rfl, rfl, rfl⟩ rfl rfl rfl rfl rfl (by kernel_rfl) Tryd.func5 (by kernel_rfl)
    (of_decide_eq_true (by kernel_rfl)) (by unfold Func.isWrapper; first | (rw [if_pos (by decide +kernel)]; kernel_rfl) | (rw [if_neg (by decide +kernel)]; exact ⟨rfl, rfl⟩))
    (fun os started H enc _ F => by rw [OpenClaim.pre_eq_preRow]; exact lifted os started H enc F)

theorem plain (f : FuncId) (fn : Func) (hf : Tryd.pinned.checked.prog.funcNamed "sluice/sluicelaw3.LexLoose" = some f) (hfn : Tryd.pinned.checked.prog.funcs[f]? = some fn) :
    true = Tryd.pinned.checked.prog.looks [] ∧ ∀ (j : Nat) t, fn.params[j]? = some t → Tryd.pinned.checked.prog.wantsStandIn t = false := by
  obtain rfl : f = 5 := Option.some.inj ((show Tryd.prog.funcNamed "sluice/sluicelaw3.LexLoose" = some 5 by kernel_rfl).symm.trans hf) |>.symm
  obtain rfl : fn = Tryd.f5 := (Option.some.inj (Tryd.func5.symm.trans hfn)).symm
  refine ⟨by kernel_rfl, fun j t ht => ?_⟩
  rw [Tryd.params5] at ht
  have hm : t = 23 ∨ t = 40 ∨ t = 41 := by simpa using Array.mem_of_getElem? ht
  rcases hm with rfl | rfl | rfl
  · exact (show Tryd.prog.wantsStandIn 23 = false by kernel_rfl)
  · exact (show Tryd.prog.wantsStandIn 40 = false by kernel_rfl)
  · exact (show Tryd.prog.wantsStandIn 41 = false by kernel_rfl)

end Go.Proofs.YtlcmfefcammklabDoor.lexLoose
namespace Go.Proofs.YtlcmfefcammklabDoor
theorem lexLoose_holds : Rows.LexLooseCardSaid :=
  Claim7.holds_tied_plain_at .later [] _ _ _ _ lexLoose.said (fun _ h => by cases h) (by kernel_rfl) (fun _ h => by cases h) lexLoose_row_tie rfl ⟨rfl, rfl⟩ (by kernel_rfl) rfl lexLoose.plain (by kernel_rfl)
#print axioms lexLoose_holds
end Go.Proofs.YtlcmfefcammklabDoor
