/- The method run of lex's machine. -/
import Derived.Test.YtmoimmghmmomlaaDoorLx9
namespace Go.Proofs.YtmoimmghmmomlaaDoor
open Go.RowKit Go.BigFrame Go.Shelf
set_option linter.unusedVariables false
set_option linter.unusedSimpArgs false

/-- What holds wherever the machine jumps. -/
structure Run (W0 : World) (b tb : Nat) (s : ByteArray) (a : Act) (w : World) (bg pos : Nat) (ts : List Tok) (t : Tok) (c : Int) : Prop where
  df : a.defers = []
  sz : a.tmps.size = 119
  s0 : a.tmps.getD 0 undef = .pointer (some ⟨b, 0, none⟩)
  s3 : a.tmps.getD 3 undef = .pointer (some ⟨tb, 0, none⟩)
  s4 : a.tmps.getD 4 undef = .int .i64 c
  mach : ∃ tk, Mach w b s bg pos tk ∧ w.ownsRow (tb + 1) 79 4 tk ts.length (toksV ts)
  tok : TokAt w tb t
  below : Below W0.heap.size W0 w
  len : ts.length ≤ 400
  pl : pos ≤ s.size
  bp : bg ≤ pos

/-- The world's part of it. -/
structure Wst (W0 : World) (b tb : Nat) (s : ByteArray) (w : World) (bg pos : Nat) (ts : List Tok) (t : Tok) : Prop where
  mach : ∃ tk, Mach w b s bg pos tk ∧ w.ownsRow (tb + 1) 79 4 tk ts.length (toksV ts)
  tok : TokAt w tb t
  below : Below W0.heap.size W0 w
  hb : W0.heap.size ≤ b
  bt : b < tb
theorem Wst.keep {W0 w u : World} {b tb : Nat} {s : ByteArray} {bg pos : Nat} {ts : List Tok} {t : Tok} (h : Wst W0 b tb s w bg pos ts t) (G : Below w.heap.size w u) : Wst W0 b tb s u bg pos ts t := by
  obtain ⟨⟨tk, M, O⟩, T, B, hb, hbt⟩ := h
  exact ⟨⟨tk, M.keep G, own_keep O G⟩, T.keep G, gtrans B G, hb, hbt⟩
theorem own_setM {w : World} {b o base n : Nat} {s : ByteArray} {bg pos : Nat} {tk tk' v : Value} {xs : List Value} (M : Mach w b s bg pos tk') (O : w.ownsRow base 79 4 tk n xs) : (w.setCell ⟨b, o, none⟩ v).ownsRow base 79 4 tk n xs :=
  own_of_block O fun g cur hg hh => Below.heap_setCell w _ _ g fun e => by
    have e' : g = b := e
    rw [e', show w.heap[b]? = _ from M] at hh
    simp at hh
theorem Wst.setAt {W0 w : World} {b tb : Nat} {s : ByteArray} {bg pos : Nat} {ts : List Tok} {t : Tok} (h : Wst W0 b tb s w bg pos ts t) (p : Nat) : Wst W0 b tb s (w.setCell ⟨b, 2, none⟩ (.int .i64 (p : Int))) bg p ts t := by
  obtain ⟨⟨tk, M, O⟩, T, B, hb, hbt⟩ := h
  exact ⟨⟨tk, M.setAt p, own_setM M O⟩, (Below.heap_setCell _ _ _ _ (by show tb ≠ b; omega)).trans T, gset B hb _, hb, hbt⟩
theorem Wst.setBegin {W0 w : World} {b tb : Nat} {s : ByteArray} {bg pos : Nat} {ts : List Tok} {t : Tok} (h : Wst W0 b tb s w bg pos ts t) (p : Nat) : Wst W0 b tb s (w.setCell ⟨b, 1, none⟩ (.int .i64 (p : Int))) p pos ts t := by
  obtain ⟨⟨tk, M, O⟩, T, B, hb, hbt⟩ := h
  exact ⟨⟨tk, M.setBegin p, own_setM M O⟩, (Below.heap_setCell _ _ _ _ (by show tb ≠ b; omega)).trans T, gset B hb _, hb, hbt⟩

theorem Wst.setTok {W0 w : World} {b tb : Nat} {s : ByteArray} {bg pos : Nat} {ts : List Tok} {t : Tok} (h : Wst W0 b tb s w bg pos ts t) (x : Tok) : Wst W0 b tb s ((((w.setCell ⟨tb, 0, none⟩ (.int .i64 x.k)).setCell ⟨tb, 1, none⟩ (.string x.t)).setCell ⟨tb, 2, none⟩ (.int .i64 x.n)).setCell ⟨tb, 3, none⟩ (.int .i64 x.a)) bg pos ts x := by
  obtain ⟨⟨tk, M, O⟩, T, B, hb, hbt⟩ := h
  have one : ∀ (u : World) (o : Nat) (v : Value) (j : Nat), j ≠ tb → (u.setCell ⟨tb, o, none⟩ v).heap[j]? = u.heap[j]? := fun u o v j hj => Below.heap_setCell u _ _ j hj
  have all : ∀ j, j ≠ tb → ((((w.setCell ⟨tb, 0, none⟩ (.int .i64 x.k)).setCell ⟨tb, 1, none⟩ (.string x.t)).setCell ⟨tb, 2, none⟩ (.int .i64 x.n)).setCell ⟨tb, 3, none⟩ (.int .i64 x.a)).heap[j]? = w.heap[j]? := fun j hj => by
    rw [one _ _ _ j hj, one _ _ _ j hj, one _ _ _ j hj, one _ _ _ j hj]
  have hW : W0.heap.size ≤ tb := by omega
  exact ⟨⟨tk, (all b (by omega)).trans M, own_of_block O fun g _ hg _ => all g (by omega)⟩, T.set4 _ _ _ _, gset (gset (gset (gset B hW _) hW _) hW _) hW _, hb, hbt⟩

def told (s : ByteArray) (pos bg : Nat) (ts : List Tok) (x : Tok × Int) : Int × Nat × List Tok := if x.2 ≠ 0 then (x.2, bg, ts) else if ts.length = 400 then (34, bg, ts) else lexA s pos bg (ts ++ [x.1])
/-- What the rest comes to, by the label. -/
def restA (s : ByteArray) (l pos bg : Nat) (ts : List Tok) (t : Tok) (c : Int) : Int × Nat × List Tok :=
  match l with
  | 0 => lexA s pos bg ts
  | 1 => lexA s (runE cmB s pos) bg ts
  | 2 => told s (runE wdB s pos) bg ts (wordT s bg (runE wdB s pos))
  | 3 => told s (runE dgB s pos) bg ts (numT s bg (runE dgB s pos))
  | 4 => told s (sgnE s bg) bg ts (⟨sgK (s.extract bg (sgnE s bg)), ⟨#[]⟩, 0, bg⟩, 0)
  | _ => told s pos bg ts (t, c)
/-- Beside: what is known of the place, by the label. -/
def besA (s : ByteArray) (l pos bg : Nat) : Prop :=
  match l with
  | 0 => True
  | 1 => bg < s.size ∧ (pos = bg → bt s bg = 35)
  | 2 => bg < s.size ∧ (pos = bg → ltB (bt s bg) = true)
  | 3 => bg < s.size ∧ (pos = bg → dgB (bt s bg) = true) ∧ ∀ i, bg ≤ i → i < pos → dgB (bt s i) = true
  | 4 => pos = bg ∧ bg < s.size
  | _ => bg < pos
def Jr (W0 : World) (b tb : Nat) (s : ByteArray) (A : Int × Nat × List Tok) (l : Nat) (a : Act) (w : World) : Prop :=
  ∃ bg pos ts t c, l ≤ 5 ∧ Run W0 b tb s a w bg pos ts t c ∧ restA s l pos bg ts t c = A ∧ besA s l pos bg
def cellI (w : World) (b o : Nat) : Nat := match w.cell? ⟨b, o, none⟩ with | some (.int _ n) => n.toNat | _ => 0
def mu (b : Nat) (s : ByteArray) (l : Nat) (a : Act) (w : World) : Nat :=
  if l = 0 then (s.size - cellI w b 2) * (2 * (s.size + 1)) + (2 * (s.size + 1) - 1)
  else if l = 5 then (s.size - cellI w b 1) * (2 * (s.size + 1)) else if l = 4 then (s.size - cellI w b 1) * (2 * (s.size + 1)) + 1
  else (s.size - cellI w b 1) * (2 * (s.size + 1)) + (s.size - cellI w b 2) + 1

theorem cell_at {w : World} {b : Nat} {s : ByteArray} {bg pos : Nat} {tk : Value} (M : Mach w b s bg pos tk) : cellI w b 1 = bg ∧ cellI w b 2 = pos := by
  obtain ⟨_, m1, m2, _⟩ := M.at
  unfold cellI
  rw [m1, m2]
  simp
theorem mu_row {b : Nat} {s : ByteArray} {w : World} {bg pos : Nat} {tk : Value} (M : Mach w b s bg pos tk) (l : Nat) (a : Act) (h : 1 ≤ l) (h3 : l ≤ 3) : mu b s l a w = (s.size - bg) * (2 * (s.size + 1)) + (s.size - pos) + 1 := by
  unfold mu
  rw [if_neg (by omega), if_neg (by omega), if_neg (by omega), (cell_at M).1, (cell_at M).2]
theorem mu_zero {b : Nat} {s : ByteArray} {w : World} {bg pos : Nat} {tk : Value} (M : Mach w b s bg pos tk) (a : Act) : mu b s 0 a w = (s.size - pos) * (2 * (s.size + 1)) + (2 * (s.size + 1) - 1) := by
  unfold mu
  rw [if_pos rfl, (cell_at M).2]
theorem mu_five {b : Nat} {s : ByteArray} {w : World} {bg pos : Nat} {tk : Value} (M : Mach w b s bg pos tk) (a : Act) : mu b s 5 a w = (s.size - bg) * (2 * (s.size + 1)) := by
  unfold mu
  rw [if_neg (by omega), if_pos rfl, (cell_at M).1]
theorem mu_four {b : Nat} {s : ByteArray} {w : World} {bg pos : Nat} {tk : Value} (M : Mach w b s bg pos tk) (a : Act) : mu b s 4 a w = (s.size - bg) * (2 * (s.size + 1)) + 1 := by
  unfold mu
  rw [if_neg (by omega), if_neg (by omega), if_pos rfl, (cell_at M).1]
theorem mu_back2 {n bg pos : Nat} (h : bg < pos) (hp : pos ≤ n) : (n - pos) * (2 * (n + 1)) + (2 * (n + 1) - 1) < (n - bg) * (2 * (n + 1)) := by
  have h1 : (n - pos + 1) * (2 * (n + 1)) ≤ (n - bg) * (2 * (n + 1)) := Nat.mul_le_mul_right _ (by omega)
  rw [Nat.add_mul, Nat.one_mul] at h1
  omega
theorem thing_one {s : ByteArray} {p : Nat} (h : stI s p = 1) : thing s p = (runE wdB s p, wordT s p (runE wdB s p)) := by unfold thing; rw [if_pos h]
theorem thing_two {s : ByteArray} {p : Nat} (h : stI s p = 2) : thing s p = (runE dgB s p, numT s p (runE dgB s p)) := by unfold thing; rw [if_neg (by rw [h]; decide), if_pos h]
theorem thing_three {s : ByteArray} {p : Nat} (h : stI s p = 3) : thing s p = (sgnE s p, ⟨sgK (s.extract p (sgnE s p)), ⟨#[]⟩, 0, p⟩, 0) := by unfold thing; rw [if_neg (by rw [h]; decide), if_neg (by rw [h]; decide)]
theorem mu_next {n p : Nat} (h : p < n) : (n - (p + 1)) * (2 * (n + 1)) + (2 * (n + 1) - 1) < (n - p) * (2 * (n + 1)) + (2 * (n + 1) - 1) := by
  have h1 : (n - (p + 1) + 1) * (2 * (n + 1)) = (n - p) * (2 * (n + 1)) := by rw [show n - (p + 1) + 1 = n - p by omega]
  rw [Nat.add_mul, Nat.one_mul] at h1
  omega
theorem digL_of {s : ByteArray} {bg pos : Nat} (hp : pos ≤ s.size) (h : ∀ i, bg ≤ i → i < pos → dgB (bt s i) = true) : digL (s.extract bg pos).data.toList := by
  intro c hc
  obtain ⟨i, hi, rfl⟩ := List.getElem_of_mem hc
  have hi2 : i < (s.extract bg pos).size := hi
  have hi3 := hi2
  rw [ByteArray.size_extract] at hi3
  have h1 := h (bg + i) (by omega) (by omega)
  unfold bt dgB at h1
  have h2 := of_decide_eq_true h1
  have e : (s.extract bg pos).data.toList[i] = s.data.getD (bg + i) 0 := by
    have h5 : bg + i < s.data.size := by show bg + i < s.size; omega
    simp [ByteArray.data_extract, Array.getD, h5]
    intro h6
    exact absurd h6 (by have : s.data.size = s.size := rfl; omega)
  rw [e]
  omega
theorem mu_back {n bg pos q : Nat} (h : bg < pos) (hn : bg < n) : (n - pos) * (2 * (n + 1)) + (2 * (n + 1) - 1) < (n - bg) * (2 * (n + 1)) + q + 1 := by
  have h1 : (n - pos + 1) * (2 * (n + 1)) ≤ (n - bg) * (2 * (n + 1)) := Nat.mul_le_mul_right _ (by omega)
  rw [Nat.add_mul, Nat.one_mul] at h1
  omega

set_option maxRecDepth 100000 in
set_option maxHeartbeats 4000000 in
theorem mrun_any (W0 : World) (b : Nat) (hb : W0.heap.size ≤ b) (s : ByteArray) (w : World) (M : Mach w b s 0 0 (.slice none 0 0)) (hs : s.size ≤ 8192) (K : KwAt W0) (G : SgAt W0) (E : ErAt W0) (hW : Below W0.heap.size W0 w) :
    Calls Tryd.prog 24 #[.pointer (some ⟨b, 0, none⟩)] w fun e w' => e = .returned (.int .i64 (lexA s 0 0 []).1) ∧ ∃ pos tk, Mach w' b s (lexA s 0 0 []).2.1 pos tk ∧ w'.ownsRow (w.heap.size + 1) 79 4 tk (lexA s 0 0 []).2.2.length (toksV (lexA s 0 0 []).2.2) ∧ Below W0.heap.size W0 w' := by
  obtain ⟨A, hA⟩ : ∃ A, A = lexA s 0 0 [] := ⟨_, rfl⟩
  rw [← hA]
  have hbl := M.lt
  go_enter Tryd.func24, Tryd.ntmps24
  go_wp2
  refine wp_scope_from (Jr W0 b w.heap.size s A) (mu b s) ?_ ?_ ?_
  · rintro l a' w' ⟨_, _, _, _, _, hl, _⟩
    rcases (show l = 0 ∨ l = 1 ∨ l = 2 ∨ l = 3 ∨ l = 4 ∨ l = 5 by omega) with rfl | rfl | rfl | rfl | rfl | rfl <;> rfl
  · intro hp
    go_upto_region 3 with fail
    go_step3
    obtain ⟨pos, hpos⟩ : ∃ p : Nat, p = 0 := ⟨_, rfl⟩
    obtain ⟨ts, hts⟩ : ∃ ts : List Tok, ts = [] := ⟨_, rfl⟩
    obtain ⟨t, ht⟩ : ∃ t : Tok, t = noTok := ⟨_, rfl⟩
    obtain ⟨c, hc⟩ : ∃ c : Int, c = 0 := ⟨_, rfl⟩
    obtain ⟨bg, hbg⟩ : ∃ p : Nat, p = 0 := ⟨_, rfl⟩
    have S1 : Wst W0 b w.heap.size s (w.alloc (.cells (tokA noTok) 79)) bg pos ts t := by
      rw [hpos, hts, ht, hbg]
      exact ⟨⟨_, M.alloc _, World.ownsRow_nil _ _ _ _⟩, TokAt.new w noTok, hW.alloc (by omega) _, hb, hbl⟩
    have hr : lexA s pos bg ts = A := by rw [hpos, hts, hbg]; exact hA.symm
    have hlen : ts.length ≤ 400 := by rw [hts]; simp
    have hbp : bg ≤ pos := by omega
    have hpl : pos ≤ s.size := by omega
    generalize hV : w.alloc (.cells (tokA noTok) 79) = w' at S1
    rw [show w.alloc (.cells #[.int .i64 0, .string ⟨#[]⟩, .int .i64 0, .int .i64 0] 79) = w' from hV]
    have HC : Hid (c = 0) := hc
    clear hpos hts ht hbg hV hc
    obtain ⟨⟨tk, M1, O1⟩, T1, B1, _, _⟩ := id S1
    have cE := atEnd_any b s bg pos tk w' M1
    cases hend : ((pos : Int) == (s.size : Int))
    · have hlt : pos < s.size := by simp only [beq_eq_false_iff_ne] at hend; omega
      rw [hend] at cE
      go_upto_region 6 with (go_at_call 36; with_reducible refine cE.mono ?_; rintro e u ⟨rfl, g⟩; have S2 := S1.keep g; obtain ⟨⟨tk2, M2, O2⟩, T2, B2, _, _⟩ := id S2; obtain ⟨m0, m1, m2, m3⟩ := M2.at; have mf := M2.free)
      have S3 := S2.setBegin pos
      generalize u.setCell ⟨b, 1, none⟩ (.int .i64 (pos : Int)) = Y at S3 ⊢
      clear m0 m1 m2 m3 mf M2 O2 T2 B2 cE
      obtain ⟨⟨tk3, M3, O3⟩, T3, B3, _, _⟩ := id S3
      have ce : Calls Tryd.prog 37 #[.pointer (some ⟨b, 0, none⟩)] Y fun e w'' => e = .returned (.int .i64 (stI s pos)) ∧ Below Y.heap.size Y w'' := entered_any b s pos pos tk3 Y M3 hlt hs (G.keep B3)
      rcases stI_cases s pos with ⟨e0, h0⟩ | ⟨e0, h0⟩ | ⟨e0, h0⟩ | ⟨e0, h0⟩ | ⟨e0, h0⟩ | e0
      · have hk : stI s pos = 0 := by assumption
        rw [hk] at ce
        go_wp2_with (go_at_call 37; with_reducible refine ce.mono ?_; rintro e u2 ⟨rfl, g2⟩; have S4 := S3.keep g2; obtain ⟨⟨tk4, M4, O4⟩, T4, B4, _, _⟩ := id S4; obtain ⟨m0, m1, m2, m3⟩ := M4.at; have mf := M4.free)
        go_step3
        rw [show ((pos : Int) + 1) = ((pos + 1 : Nat) : Int) by omega]
        have S5 := S4.setAt (pos + 1)
        have M5 := M4.setAt (pos + 1)
        refine ⟨pos, pos + 1, ts, t, c, by omega, ⟨rfl, rfl, rfl, rfl, by rw [HC.out]; rfl, S5.mach, S5.tok, S5.below, hlen, by omega, by omega⟩, ?_, trivial⟩
        · show lexA s (pos + 1) pos ts = A; rw [lexA_step s pos bg ts hlt] at hr; rw [if_pos hk] at hr; exact hr
      · have hk : stI s pos = 4 := by assumption
        rw [hk] at ce
        go_wp2_with (go_at_call 37; with_reducible refine ce.mono ?_; rintro e u2 ⟨rfl, g2⟩; have S4 := S3.keep g2; obtain ⟨⟨tk4, M4, O4⟩, T4, B4, _, _⟩ := id S4; obtain ⟨m0, m1, m2, m3⟩ := M4.at; have mf := M4.free)
        go_step3
        have S5 := S4
        have M5 := M4
        refine ⟨pos, pos, ts, t, c, by omega, ⟨rfl, rfl, rfl, rfl, by rw [HC.out]; rfl, S5.mach, S5.tok, S5.below, hlen, by omega, by omega⟩, ?_, ⟨hlt, fun _ => h0⟩⟩
        · show lexA s (runE cmB s pos) pos ts = A; rw [lexA_step s pos bg ts hlt] at hr; rw [if_neg (by rw [hk]; decide), if_pos hk] at hr; exact hr
      · have hk : stI s pos = 1 := by assumption
        rw [hk] at ce
        go_wp2_with (go_at_call 37; with_reducible refine ce.mono ?_; rintro e u2 ⟨rfl, g2⟩; have S4 := S3.keep g2; obtain ⟨⟨tk4, M4, O4⟩, T4, B4, _, _⟩ := id S4; obtain ⟨m0, m1, m2, m3⟩ := M4.at; have mf := M4.free)
        go_step3
        have S5 := S4
        have M5 := M4
        refine ⟨pos, pos, ts, t, c, by omega, ⟨rfl, rfl, rfl, rfl, by rw [HC.out]; rfl, S5.mach, S5.tok, S5.below, hlen, by omega, by omega⟩, ?_, ⟨hlt, fun _ => h0⟩⟩
        · show told s (runE wdB s pos) pos ts (wordT s pos (runE wdB s pos)) = A; rw [lexA_step s pos bg ts hlt] at hr; rw [if_neg (by rw [hk]; decide), if_neg (by rw [hk]; decide), if_neg (by rw [hk]; decide)] at hr; rw [thing_one hk] at hr; exact hr
      · have hk : stI s pos = 2 := by assumption
        rw [hk] at ce
        go_wp2_with (go_at_call 37; with_reducible refine ce.mono ?_; rintro e u2 ⟨rfl, g2⟩; have S4 := S3.keep g2; obtain ⟨⟨tk4, M4, O4⟩, T4, B4, _, _⟩ := id S4; obtain ⟨m0, m1, m2, m3⟩ := M4.at; have mf := M4.free)
        go_step3
        have S5 := S4
        have M5 := M4
        refine ⟨pos, pos, ts, t, c, by omega, ⟨rfl, rfl, rfl, rfl, by rw [HC.out]; rfl, S5.mach, S5.tok, S5.below, hlen, by omega, by omega⟩, ?_, ⟨hlt, fun _ => h0, fun i h1 h2 => by omega⟩⟩
        · show told s (runE dgB s pos) pos ts (numT s pos (runE dgB s pos)) = A; rw [lexA_step s pos bg ts hlt] at hr; rw [if_neg (by rw [hk]; decide), if_neg (by rw [hk]; decide), if_neg (by rw [hk]; decide)] at hr; rw [thing_two hk] at hr; exact hr
      · have hk : stI s pos = 3 := by assumption
        rw [hk] at ce
        go_wp2_with (go_at_call 37; with_reducible refine ce.mono ?_; rintro e u2 ⟨rfl, g2⟩; have S4 := S3.keep g2; obtain ⟨⟨tk4, M4, O4⟩, T4, B4, _, _⟩ := id S4; obtain ⟨m0, m1, m2, m3⟩ := M4.at; have mf := M4.free)
        go_step3
        have S5 := S4
        have M5 := M4
        refine ⟨pos, pos, ts, t, c, by omega, ⟨rfl, rfl, rfl, rfl, by rw [HC.out]; rfl, S5.mach, S5.tok, S5.below, hlen, by omega, by omega⟩, ?_, ⟨rfl, hlt⟩⟩
        · show told s (sgnE s pos) pos ts (⟨sgK (s.extract pos (sgnE s pos)), ⟨#[]⟩, 0, pos⟩, 0) = A; rw [lexA_step s pos bg ts hlt] at hr; rw [if_neg (by rw [hk]; decide), if_neg (by rw [hk]; decide), if_neg (by rw [hk]; decide)] at hr; rw [thing_three hk] at hr; exact hr
      · have hA2 : A = (31, pos, ts) := by rw [← hr, lexA_step s pos bg ts hlt, if_neg (by rw [e0]; decide), if_neg (by rw [e0]; decide), if_pos e0]
        rw [e0] at ce
        go_wp2_with (go_at_call 37; with_reducible refine ce.mono ?_; rintro e u2 ⟨rfl, g2⟩; have S4 := S3.keep g2)
        simp only [jumps]
        go_ret
        obtain ⟨⟨tk6, M6, O6⟩, _, B6, _, _⟩ := S4
        rw [hA2]
        exact ⟨rfl, _, _, M6, O6, B6⟩
    · rw [hend] at cE
      have hpe : pos = s.size := by simp only [beq_iff_eq] at hend; omega
      have hA2 : A = (0, bg, ts) := by rw [← hr, hpe]; exact lexA_end s bg ts
      go_wp2_with (go_at_call 36; with_reducible refine cE.mono ?_; rintro e u ⟨rfl, g⟩; have S2 := S1.keep g)
      simp only [jumps]
      go_ret
      obtain ⟨⟨tk6, M6, O6⟩, _, B6, _, _⟩ := S2
      rw [hA2]
      exact ⟨rfl, _, _, M6, O6, B6⟩
  · rintro l rest a' w' hrest ⟨bg, pos, ts, t, c, hl, R, hr, hbes⟩
    obtain ⟨f, hf, hfr⟩ := frameN a'.tmps R.sz
    obtain ⟨tm, df⟩ := a'
    obtain rfl : df = [] := R.df
    have f0 : f 0 = .pointer (some ⟨b, 0, none⟩) := (hf 0).trans R.s0
    have f3 : f 3 = .pointer (some ⟨w.heap.size, 0, none⟩) := (hf 3).trans R.s3
    have f4 : f 4 = .int .i64 c := (hf 4).trans R.s4
    obtain ⟨_, _, _, _, _, ⟨tk, M1, O1⟩, T1, B1, hlen, hpl, hbp⟩ := R
    replace hfr : tm = _ := hfr
    rw [hfr]
    rw [f0, f3, f4]
    clear hfr hf f0 f3 f4
    rcases (show l = 0 ∨ l = 1 ∨ l = 2 ∨ l = 3 ∨ l = 4 ∨ l = 5 by omega) with rfl | rfl | rfl | rfl | rfl | rfl
    · obtain rfl := Option.some.inj (show some _ = some rest from hrest)
      replace hr : lexA s pos bg ts = A := hr
      have S1 : Wst W0 b w.heap.size s w' bg pos ts t := ⟨⟨tk, M1, O1⟩, T1, B1, hb, hbl⟩
      have cE := atEnd_any b s bg pos tk w' M1
      cases hend : ((pos : Int) == (s.size : Int))
      · have hlt : pos < s.size := by simp only [beq_eq_false_iff_ne] at hend; omega
        rw [hend] at cE
        go_upto_region 6 with (go_at_call 36; with_reducible refine cE.mono ?_; rintro e u ⟨rfl, g⟩; have S2 := S1.keep g; obtain ⟨⟨tk2, M2, O2⟩, T2, B2, _, _⟩ := id S2; obtain ⟨m0, m1, m2, m3⟩ := M2.at; have mf := M2.free)
        have S3 := S2.setBegin pos
        generalize u.setCell ⟨b, 1, none⟩ (.int .i64 (pos : Int)) = Y at S3 ⊢
        clear m0 m1 m2 m3 mf M2 O2 T2 B2 cE
        obtain ⟨⟨tk3, M3, O3⟩, T3, B3, _, _⟩ := id S3
        have ce : Calls Tryd.prog 37 #[.pointer (some ⟨b, 0, none⟩)] Y fun e w'' => e = .returned (.int .i64 (stI s pos)) ∧ Below Y.heap.size Y w'' := entered_any b s pos pos tk3 Y M3 hlt hs (G.keep B3)
        rcases stI_cases s pos with ⟨e0, h0⟩ | ⟨e0, h0⟩ | ⟨e0, h0⟩ | ⟨e0, h0⟩ | ⟨e0, h0⟩ | e0
        · have hk : stI s pos = 0 := by assumption
          rw [hk] at ce
          go_wp2_with (go_at_call 37; with_reducible refine ce.mono ?_; rintro e u2 ⟨rfl, g2⟩; have S4 := S3.keep g2; obtain ⟨⟨tk4, M4, O4⟩, T4, B4, _, _⟩ := id S4; obtain ⟨m0, m1, m2, m3⟩ := M4.at; have mf := M4.free)
          go_step3
          rw [show ((pos : Int) + 1) = ((pos + 1 : Nat) : Int) by omega]
          have S5 := S4.setAt (pos + 1)
          have M5 := M4.setAt (pos + 1)
          refine ⟨⟨pos, pos + 1, ts, t, c, by omega, ⟨rfl, rfl, rfl, rfl, rfl, S5.mach, S5.tok, S5.below, hlen, by omega, by omega⟩, ?_, trivial⟩, ?_⟩
          · show lexA s (pos + 1) pos ts = A; rw [lexA_step s pos bg ts hlt] at hr; rw [if_pos hk] at hr; exact hr
          · rw [mu_zero M1, mu_zero M5]
            first | omega | exact mu_next hlt
        · have hk : stI s pos = 4 := by assumption
          rw [hk] at ce
          go_wp2_with (go_at_call 37; with_reducible refine ce.mono ?_; rintro e u2 ⟨rfl, g2⟩; have S4 := S3.keep g2; obtain ⟨⟨tk4, M4, O4⟩, T4, B4, _, _⟩ := id S4; obtain ⟨m0, m1, m2, m3⟩ := M4.at; have mf := M4.free)
          go_step3
          have S5 := S4
          have M5 := M4
          refine ⟨⟨pos, pos, ts, t, c, by omega, ⟨rfl, rfl, rfl, rfl, rfl, S5.mach, S5.tok, S5.below, hlen, by omega, by omega⟩, ?_, ⟨hlt, fun _ => h0⟩⟩, ?_⟩
          · show lexA s (runE cmB s pos) pos ts = A; rw [lexA_step s pos bg ts hlt] at hr; rw [if_neg (by rw [hk]; decide), if_pos hk] at hr; exact hr
          · rw [mu_zero M1, mu_row M5 1 _ (by omega) (by omega)]
            first | omega | exact mu_next hlt
        · have hk : stI s pos = 1 := by assumption
          rw [hk] at ce
          go_wp2_with (go_at_call 37; with_reducible refine ce.mono ?_; rintro e u2 ⟨rfl, g2⟩; have S4 := S3.keep g2; obtain ⟨⟨tk4, M4, O4⟩, T4, B4, _, _⟩ := id S4; obtain ⟨m0, m1, m2, m3⟩ := M4.at; have mf := M4.free)
          go_step3
          have S5 := S4
          have M5 := M4
          refine ⟨⟨pos, pos, ts, t, c, by omega, ⟨rfl, rfl, rfl, rfl, rfl, S5.mach, S5.tok, S5.below, hlen, by omega, by omega⟩, ?_, ⟨hlt, fun _ => h0⟩⟩, ?_⟩
          · show told s (runE wdB s pos) pos ts (wordT s pos (runE wdB s pos)) = A; rw [lexA_step s pos bg ts hlt] at hr; rw [if_neg (by rw [hk]; decide), if_neg (by rw [hk]; decide), if_neg (by rw [hk]; decide)] at hr; rw [thing_one hk] at hr; exact hr
          · rw [mu_zero M1, mu_row M5 2 _ (by omega) (by omega)]
            first | omega | exact mu_next hlt
        · have hk : stI s pos = 2 := by assumption
          rw [hk] at ce
          go_wp2_with (go_at_call 37; with_reducible refine ce.mono ?_; rintro e u2 ⟨rfl, g2⟩; have S4 := S3.keep g2; obtain ⟨⟨tk4, M4, O4⟩, T4, B4, _, _⟩ := id S4; obtain ⟨m0, m1, m2, m3⟩ := M4.at; have mf := M4.free)
          go_step3
          have S5 := S4
          have M5 := M4
          refine ⟨⟨pos, pos, ts, t, c, by omega, ⟨rfl, rfl, rfl, rfl, rfl, S5.mach, S5.tok, S5.below, hlen, by omega, by omega⟩, ?_, ⟨hlt, fun _ => h0, fun i h1 h2 => by omega⟩⟩, ?_⟩
          · show told s (runE dgB s pos) pos ts (numT s pos (runE dgB s pos)) = A; rw [lexA_step s pos bg ts hlt] at hr; rw [if_neg (by rw [hk]; decide), if_neg (by rw [hk]; decide), if_neg (by rw [hk]; decide)] at hr; rw [thing_two hk] at hr; exact hr
          · rw [mu_zero M1, mu_row M5 3 _ (by omega) (by omega)]
            first | omega | exact mu_next hlt
        · have hk : stI s pos = 3 := by assumption
          rw [hk] at ce
          go_wp2_with (go_at_call 37; with_reducible refine ce.mono ?_; rintro e u2 ⟨rfl, g2⟩; have S4 := S3.keep g2; obtain ⟨⟨tk4, M4, O4⟩, T4, B4, _, _⟩ := id S4; obtain ⟨m0, m1, m2, m3⟩ := M4.at; have mf := M4.free)
          go_step3
          have S5 := S4
          have M5 := M4
          refine ⟨⟨pos, pos, ts, t, c, by omega, ⟨rfl, rfl, rfl, rfl, rfl, S5.mach, S5.tok, S5.below, hlen, by omega, by omega⟩, ?_, ⟨rfl, hlt⟩⟩, ?_⟩
          · show told s (sgnE s pos) pos ts (⟨sgK (s.extract pos (sgnE s pos)), ⟨#[]⟩, 0, pos⟩, 0) = A; rw [lexA_step s pos bg ts hlt] at hr; rw [if_neg (by rw [hk]; decide), if_neg (by rw [hk]; decide), if_neg (by rw [hk]; decide)] at hr; rw [thing_three hk] at hr; exact hr
          · rw [mu_zero M1, mu_four M5]
            first | omega | exact mu_next hlt
        · have hA2 : A = (31, pos, ts) := by rw [← hr, lexA_step s pos bg ts hlt, if_neg (by rw [e0]; decide), if_neg (by rw [e0]; decide), if_pos e0]
          rw [e0] at ce
          go_wp2_with (go_at_call 37; with_reducible refine ce.mono ?_; rintro e u2 ⟨rfl, g2⟩; have S4 := S3.keep g2)
          simp only [jumps]
          go_ret
          obtain ⟨⟨tk6, M6, O6⟩, _, B6, _, _⟩ := S4
          rw [hA2]
          exact ⟨rfl, _, _, M6, O6, B6⟩
      · rw [hend] at cE
        have hpe : pos = s.size := by simp only [beq_iff_eq] at hend; omega
        have hA2 : A = (0, bg, ts) := by rw [← hr, hpe]; exact lexA_end s bg ts
        go_wp2_with (go_at_call 36; with_reducible refine cE.mono ?_; rintro e u ⟨rfl, g⟩; have S2 := S1.keep g)
        simp only [jumps]
        go_ret
        obtain ⟨⟨tk6, M6, O6⟩, _, B6, _, _⟩ := S2
        rw [hA2]
        exact ⟨rfl, _, _, M6, O6, B6⟩
    · obtain rfl := Option.some.inj (show some _ = some rest from hrest)
      obtain ⟨hbs, hb35⟩ := hbes
      replace hr : lexA s (runE cmB s pos) bg ts = A := hr
      have hm := mu_row M1 1 ⟨tm, []⟩ (by omega) (by omega)
      have S1 : Wst W0 b w.heap.size s w' bg pos ts t := ⟨⟨tk, M1, O1⟩, T1, B1, hb, hbl⟩
      have p0 := fun z : Ext w' => (z.cell _ _ M1.lt).trans M1.at.1
      have p2 := fun z : Ext w' => (z.cell _ _ M1.lt).trans M1.at.2.2.1
      have hne : Nonempty (Ext w') := ⟨⟨_, Below.refl _ _⟩⟩
      have yE : ∀ z : Ext w', Calls Tryd.prog 36 #[.pointer (some ⟨b, 0, none⟩)] z.X (fun e' w'' => e' = .returned (.bool ((pos : Int) == (s.size : Int))) ∧ ∃ m : Ext w', w'' = m.X) := fun z => ext_of (atEnd_any b s bg pos tk z.X (M1.keep z.h))
      cases hend : ((pos : Int) == (s.size : Int))
      · have hlt : pos < s.size := by simp only [beq_eq_false_iff_ne] at hend; omega
        have j1 := byteW s pos hlt Tryd.prog 9 (by kernel_rfl)
        rw [show ((s.data.getD pos 0).toNat : Int) = bt s pos from rfl] at j1
        rw [hend] at yE
        cases h10 : (bt s pos == 10)
        · have hr2 : runE cmB s pos = runE cmB s (pos + 1) := runE_on hlt (by unfold cmB; rw [h10]; rfl)
          generalize hbt : bt s pos = nb at *
          go_wp2
          refine wp_region_ext (by kernel_rfl) (by kernel_rfl) ?_
          repeat (go_big_quiet_step (first | (go_at_call 36; with_reducible exact yE _)))
          refine wpQuiet_nil ?_
          intro _ hw'
          obtain ⟨nx, hw''⟩ := hw'
          subst hw''
          have S2 := S1.keep nx.h
          obtain ⟨⟨tk2, M2, O2⟩, _, _, _, _⟩ := id S2
          obtain ⟨m0, m1, m2, m3⟩ := M2.at
          have mf := M2.free
          go_wp2
          go_step3
          rw [show ((pos : Int) + 1) = ((pos + 1 : Nat) : Int) by omega]
          have S3 := S2.setAt (pos + 1)
          refine ⟨⟨bg, pos + 1, ts, t, c, by omega, ⟨rfl, rfl, rfl, rfl, rfl, S3.mach, S3.tok, S3.below, hlen, by omega, by omega⟩, ?_, hbs, fun e => by omega⟩, ?_⟩
          · show lexA s (runE cmB s (pos + 1)) bg ts = A
            rw [← hr2]; exact hr
          · rw [mu_row (M2.setAt (pos + 1)) 1 _ (by omega) (by omega), mu_row M1 1 _ (by omega) (by omega)]
            omega
        · have hr2 : runE cmB s pos = pos := runE_stop (.inr (by unfold cmB; rw [h10]; rfl))
          have hgt : bg < pos := by
            rcases Nat.eq_or_lt_of_le hbp with e | e
            · have h5 := hb35 e.symm
              rw [e] at h5
              rw [h5] at h10
              exact absurd h10 (by decide)
            · exact e
          generalize hbt : bt s pos = nb at *
          go_wp2
          refine wp_region_ext (by kernel_rfl) (by kernel_rfl) ?_
          repeat (go_big_quiet_step (first | (go_at_call 36; with_reducible exact yE _)))
          refine wpQuiet_nil ?_
          intro _ hw'
          obtain ⟨nx, hw''⟩ := hw'
          subst hw''
          have S2 := S1.keep nx.h
          obtain ⟨⟨tk2, M2, O2⟩, _, _, _, _⟩ := id S2
          go_wp2
          go_step3
          refine ⟨⟨bg, pos, ts, t, c, by omega, ⟨rfl, rfl, rfl, rfl, rfl, S2.mach, S2.tok, S2.below, hlen, hpl, hbp⟩, ?_, trivial⟩, ?_⟩
          · show lexA s pos bg ts = A
            rw [hr2] at hr; exact hr
          · rw [mu_zero M2, mu_row M1 1 _ (by omega) (by omega)]
            exact mu_back hgt hbs
      · rw [hend] at yE
        have hpe : pos = s.size := by simp only [beq_iff_eq] at hend; omega
        have hr2 : runE cmB s pos = pos := runE_stop (.inl (by omega))
        have hgt : bg < pos := by omega
        go_wp2
        refine wp_region_ext (by kernel_rfl) (by kernel_rfl) ?_
        repeat (go_big_quiet_step (first | (go_at_call 36; with_reducible exact yE _)))
        refine wpQuiet_nil ?_
        intro _ hw'
        obtain ⟨nx, hw''⟩ := hw'
        subst hw''
        have S2 := S1.keep nx.h
        obtain ⟨⟨tk2, M2, O2⟩, _, _, _, _⟩ := id S2
        go_wp2
        go_step3
        refine ⟨⟨bg, pos, ts, t, c, by omega, ⟨rfl, rfl, rfl, rfl, rfl, S2.mach, S2.tok, S2.below, hlen, hpl, hbp⟩, ?_, trivial⟩, ?_⟩
        · show lexA s pos bg ts = A
          rw [hr2] at hr; exact hr
        · rw [mu_zero M2, mu_row M1 1 _ (by omega) (by omega)]
          exact mu_back hgt hbs
    · obtain rfl := Option.some.inj (show some _ = some rest from hrest)
      have hbs : bg < s.size := hbes.1
      replace hr : told s (runE wdB s pos) bg ts (wordT s bg (runE wdB s pos)) = A := hr
      have S1 : Wst W0 b w.heap.size s w' bg pos ts t := ⟨⟨tk, M1, O1⟩, T1, B1, hb, hbl⟩
      have p0 := fun z : Ext w' => (z.cell _ _ M1.lt).trans M1.at.1
      have p2 := fun z : Ext w' => (z.cell _ _ M1.lt).trans M1.at.2.2.1
      have hne : Nonempty (Ext w') := ⟨⟨_, Below.refl _ _⟩⟩
      have yE : ∀ z : Ext w', Calls Tryd.prog 36 #[.pointer (some ⟨b, 0, none⟩)] z.X (fun e' w'' => e' = .returned (.bool ((pos : Int) == (s.size : Int))) ∧ ∃ m : Ext w', w'' = m.X) := fun z => ext_of (atEnd_any b s bg pos tk z.X (M1.keep z.h))
      have yF : ∀ z : Ext w', Calls Tryd.prog 38 #[.int .u8 (bt s pos)] z.X (fun e' w'' => e' = .returned (.bool (wdB (bt s pos))) ∧ ∃ m : Ext w', w'' = m.X) := fun z => ext_of ((goesOn_any _ z.X).mono fun e u ⟨he, hu⟩ => ⟨he, hu ▸ Below.refl _ _⟩)
      cases hend : ((pos : Int) == (s.size : Int))
      · have hlt : pos < s.size := by simp only [beq_eq_false_iff_ne] at hend; omega
        have j1 := byteW s pos hlt Tryd.prog 9 (by kernel_rfl)
        rw [show ((s.data.getD pos 0).toNat : Int) = bt s pos from rfl] at j1
        rw [hend] at yE
        cases hF : wdB (bt s pos)
        · have hr2 : runE wdB s pos = pos := runE_stop (.inr hF)
          have hgt : bg < pos := by
            rcases Nat.eq_or_lt_of_le hbp with e | e
            · have h5 := hbes.2 e.symm
              rw [e] at h5
              exact absurd hF (by simp [wdB, h5])
            · exact e
          rw [hF] at yF
          generalize hbt : bt s pos = nb at hF yF j1
          go_wp2
          refine wp_region_ext (by kernel_rfl) (by kernel_rfl) ?_
          repeat (go_big_quiet_step (first | (go_at_call 36; with_reducible exact yE _) | (go_at_call 38; with_reducible exact yF _)))
          refine wpQuiet_nil ?_
          intro _ hw'
          obtain ⟨nx, hw''⟩ := hw'
          subst hw''
          have S2 := S1.keep nx.h
          obtain ⟨⟨tk2, M2, O2⟩, T2, B2, _, _⟩ := id S2
          have cw : Calls Tryd.prog 39 #[.pointer (some ⟨b, 0, none⟩)] nx.X fun e w' => e = .returned (.tuple #[.agg #[.int .i64 (wordT s bg pos).1.k, .string (wordT s bg pos).1.t, .int .i64 (wordT s bg pos).1.n, .int .i64 (wordT s bg pos).1.a], .int .i64 (wordT s bg pos).2]) ∧ Below nx.X.heap.size nx.X w' := mword_any b s bg pos tk2 nx.X M2 hpl hbp hs (K.keep B2)
          rw [hr2] at hr
          generalize hx : wordT s bg pos = x at cw hr
          clear M2 O2 T2 B2
          go_wp2_with (go_at_call 39; with_reducible refine cw.mono ?_; rintro e u ⟨rfl, g⟩; have S3 := S2.keep g; obtain ⟨r0, r1, r2, r3⟩ := S3.tok.at; have rf := S3.tok.free)
          go_step3
          have S4 := S3.setTok x.1
          refine ⟨⟨bg, pos, ts, x.1, x.2, by omega, ⟨rfl, rfl, rfl, rfl, rfl, S4.mach, S4.tok, S4.below, hlen, hpl, hbp⟩, hr, hgt⟩, ?_⟩
          obtain ⟨tk4, M4, _⟩ := S4.mach
          rw [mu_five M4, mu_row M1 2 _ (by omega) (by omega)]
          omega
        · have hr2 : runE wdB s pos = runE wdB s (pos + 1) := runE_on hlt hF
          have hbes2 : besA s 2 (pos + 1) bg := ⟨hbs, fun e => by omega⟩
          rw [hF] at yF
          generalize hbt : bt s pos = nb at hF yF j1
          go_wp2
          refine wp_region_ext (by kernel_rfl) (by kernel_rfl) ?_
          repeat (go_big_quiet_step (first | (go_at_call 36; with_reducible exact yE _) | (go_at_call 38; with_reducible exact yF _)))
          refine wpQuiet_nil ?_
          intro _ hw'
          obtain ⟨nx, hw''⟩ := hw'
          subst hw''
          have S2 := S1.keep nx.h
          obtain ⟨⟨tk2, M2, O2⟩, T2, B2, _, _⟩ := id S2
          obtain ⟨m0, m1, m2, m3⟩ := M2.at
          have mf := M2.free
          go_wp2
          go_step3
          rw [show ((pos : Int) + 1) = ((pos + 1 : Nat) : Int) by omega]
          have S3 := S2.setAt (pos + 1)
          refine ⟨⟨bg, pos + 1, ts, t, c, by omega, ⟨rfl, rfl, rfl, rfl, rfl, S3.mach, S3.tok, S3.below, hlen, by omega, by omega⟩, ?_, hbes2⟩, ?_⟩
          · show told s (runE wdB s (pos + 1)) bg ts (wordT s bg (runE wdB s (pos + 1))) = A
            rw [← hr2]; exact hr
          · rw [mu_row (M2.setAt (pos + 1)) 2 _ (by omega) (by omega), mu_row M1 2 _ (by omega) (by omega)]
            omega
      · rw [hend] at yE
        have hpe : pos = s.size := by simp only [beq_iff_eq] at hend; omega
        have hr2 : runE wdB s pos = pos := runE_stop (.inl (by omega))
        have hgt : bg < pos := by omega
        go_wp2
        refine wp_region_ext (by kernel_rfl) (by kernel_rfl) ?_
        repeat (go_big_quiet_step (first | (go_at_call 36; with_reducible exact yE _) | (go_at_call 38; with_reducible exact yF _)))
        refine wpQuiet_nil ?_
        intro _ hw'
        obtain ⟨nx, hw''⟩ := hw'
        subst hw''
        have S2 := S1.keep nx.h
        obtain ⟨⟨tk2, M2, O2⟩, T2, B2, _, _⟩ := id S2
        have cw : Calls Tryd.prog 39 #[.pointer (some ⟨b, 0, none⟩)] nx.X fun e w' => e = .returned (.tuple #[.agg #[.int .i64 (wordT s bg pos).1.k, .string (wordT s bg pos).1.t, .int .i64 (wordT s bg pos).1.n, .int .i64 (wordT s bg pos).1.a], .int .i64 (wordT s bg pos).2]) ∧ Below nx.X.heap.size nx.X w' := mword_any b s bg pos tk2 nx.X M2 hpl hbp hs (K.keep B2)
        rw [hr2] at hr
        generalize hx : wordT s bg pos = x at cw hr
        clear M2 O2 T2 B2
        go_wp2_with (go_at_call 39; with_reducible refine cw.mono ?_; rintro e u ⟨rfl, g⟩; have S3 := S2.keep g; obtain ⟨r0, r1, r2, r3⟩ := S3.tok.at; have rf := S3.tok.free)
        go_step3
        have S4 := S3.setTok x.1
        refine ⟨⟨bg, pos, ts, x.1, x.2, by omega, ⟨rfl, rfl, rfl, rfl, rfl, S4.mach, S4.tok, S4.below, hlen, hpl, hbp⟩, hr, hgt⟩, ?_⟩
        obtain ⟨tk4, M4, _⟩ := S4.mach
        rw [mu_five M4, mu_row M1 2 _ (by omega) (by omega)]
        omega
    · obtain rfl := Option.some.inj (show some _ = some rest from hrest)
      have hbs : bg < s.size := hbes.1
      replace hr : told s (runE dgB s pos) bg ts (numT s bg (runE dgB s pos)) = A := hr
      have S1 : Wst W0 b w.heap.size s w' bg pos ts t := ⟨⟨tk, M1, O1⟩, T1, B1, hb, hbl⟩
      have p0 := fun z : Ext w' => (z.cell _ _ M1.lt).trans M1.at.1
      have p2 := fun z : Ext w' => (z.cell _ _ M1.lt).trans M1.at.2.2.1
      have hne : Nonempty (Ext w') := ⟨⟨_, Below.refl _ _⟩⟩
      have yE : ∀ z : Ext w', Calls Tryd.prog 36 #[.pointer (some ⟨b, 0, none⟩)] z.X (fun e' w'' => e' = .returned (.bool ((pos : Int) == (s.size : Int))) ∧ ∃ m : Ext w', w'' = m.X) := fun z => ext_of (atEnd_any b s bg pos tk z.X (M1.keep z.h))
      have yF : ∀ z : Ext w', Calls Tryd.prog 40 #[.int .u8 (bt s pos)] z.X (fun e' w'' => e' = .returned (.bool (dgB (bt s pos))) ∧ ∃ m : Ext w', w'' = m.X) := fun z => ext_of ((isDigit_any _ z.X).mono fun e u ⟨he, hu⟩ => ⟨he, hu ▸ Below.refl _ _⟩)
      cases hend : ((pos : Int) == (s.size : Int))
      · have hlt : pos < s.size := by simp only [beq_eq_false_iff_ne] at hend; omega
        have j1 := byteW s pos hlt Tryd.prog 9 (by kernel_rfl)
        rw [show ((s.data.getD pos 0).toNat : Int) = bt s pos from rfl] at j1
        rw [hend] at yE
        cases hF : dgB (bt s pos)
        · have hr2 : runE dgB s pos = pos := runE_stop (.inr hF)
          have hgt : bg < pos := by
            rcases Nat.eq_or_lt_of_le hbp with e | e
            · have h5 := hbes.2.1 e.symm
              rw [e] at h5
              exact absurd hF (by simp [wdB, h5])
            · exact e
          rw [hF] at yF
          generalize hbt : bt s pos = nb at hF yF j1
          go_wp2
          refine wp_region_ext (by kernel_rfl) (by kernel_rfl) ?_
          repeat (go_big_quiet_step (first | (go_at_call 36; with_reducible exact yE _) | (go_at_call 40; with_reducible exact yF _)))
          refine wpQuiet_nil ?_
          intro _ hw'
          obtain ⟨nx, hw''⟩ := hw'
          subst hw''
          have S2 := S1.keep nx.h
          obtain ⟨⟨tk2, M2, O2⟩, T2, B2, _, _⟩ := id S2
          have cw : Calls Tryd.prog 41 #[.pointer (some ⟨b, 0, none⟩)] nx.X fun e w' => e = .returned (.tuple #[.agg #[.int .i64 (numT s bg pos).1.k, .string (numT s bg pos).1.t, .int .i64 (numT s bg pos).1.n, .int .i64 (numT s bg pos).1.a], .int .i64 (numT s bg pos).2]) ∧ Below nx.X.heap.size nx.X w' := mnumber_any b s bg pos tk2 nx.X M2 hpl hgt hs (digL_of hpl hbes.2.2) (E.keep B2)
          rw [hr2] at hr
          generalize hx : numT s bg pos = x at cw hr
          clear M2 O2 T2 B2
          go_wp2_with (go_at_call 41; with_reducible refine cw.mono ?_; rintro e u ⟨rfl, g⟩; have S3 := S2.keep g; obtain ⟨r0, r1, r2, r3⟩ := S3.tok.at; have rf := S3.tok.free)
          go_step3
          have S4 := S3.setTok x.1
          refine ⟨⟨bg, pos, ts, x.1, x.2, by omega, ⟨rfl, rfl, rfl, rfl, rfl, S4.mach, S4.tok, S4.below, hlen, hpl, hbp⟩, hr, hgt⟩, ?_⟩
          obtain ⟨tk4, M4, _⟩ := S4.mach
          rw [mu_five M4, mu_row M1 3 _ (by omega) (by omega)]
          omega
        · have hr2 : runE dgB s pos = runE dgB s (pos + 1) := runE_on hlt hF
          have hbes2 : besA s 3 (pos + 1) bg := ⟨hbs, fun e => by omega, fun i h1 h2 => by
            rcases Nat.eq_or_lt_of_le (show i ≤ pos by omega) with e | e
            · rw [e]; exact hF
            · exact hbes.2.2 i h1 e⟩
          rw [hF] at yF
          generalize hbt : bt s pos = nb at hF yF j1
          go_wp2
          refine wp_region_ext (by kernel_rfl) (by kernel_rfl) ?_
          repeat (go_big_quiet_step (first | (go_at_call 36; with_reducible exact yE _) | (go_at_call 40; with_reducible exact yF _)))
          refine wpQuiet_nil ?_
          intro _ hw'
          obtain ⟨nx, hw''⟩ := hw'
          subst hw''
          have S2 := S1.keep nx.h
          obtain ⟨⟨tk2, M2, O2⟩, T2, B2, _, _⟩ := id S2
          obtain ⟨m0, m1, m2, m3⟩ := M2.at
          have mf := M2.free
          go_wp2
          go_step3
          rw [show ((pos : Int) + 1) = ((pos + 1 : Nat) : Int) by omega]
          have S3 := S2.setAt (pos + 1)
          refine ⟨⟨bg, pos + 1, ts, t, c, by omega, ⟨rfl, rfl, rfl, rfl, rfl, S3.mach, S3.tok, S3.below, hlen, by omega, by omega⟩, ?_, hbes2⟩, ?_⟩
          · show told s (runE dgB s (pos + 1)) bg ts (numT s bg (runE dgB s (pos + 1))) = A
            rw [← hr2]; exact hr
          · rw [mu_row (M2.setAt (pos + 1)) 3 _ (by omega) (by omega), mu_row M1 3 _ (by omega) (by omega)]
            omega
      · rw [hend] at yE
        have hpe : pos = s.size := by simp only [beq_iff_eq] at hend; omega
        have hr2 : runE dgB s pos = pos := runE_stop (.inl (by omega))
        have hgt : bg < pos := by omega
        go_wp2
        refine wp_region_ext (by kernel_rfl) (by kernel_rfl) ?_
        repeat (go_big_quiet_step (first | (go_at_call 36; with_reducible exact yE _) | (go_at_call 40; with_reducible exact yF _)))
        refine wpQuiet_nil ?_
        intro _ hw'
        obtain ⟨nx, hw''⟩ := hw'
        subst hw''
        have S2 := S1.keep nx.h
        obtain ⟨⟨tk2, M2, O2⟩, T2, B2, _, _⟩ := id S2
        have cw : Calls Tryd.prog 41 #[.pointer (some ⟨b, 0, none⟩)] nx.X fun e w' => e = .returned (.tuple #[.agg #[.int .i64 (numT s bg pos).1.k, .string (numT s bg pos).1.t, .int .i64 (numT s bg pos).1.n, .int .i64 (numT s bg pos).1.a], .int .i64 (numT s bg pos).2]) ∧ Below nx.X.heap.size nx.X w' := mnumber_any b s bg pos tk2 nx.X M2 hpl hgt hs (digL_of hpl hbes.2.2) (E.keep B2)
        rw [hr2] at hr
        generalize hx : numT s bg pos = x at cw hr
        clear M2 O2 T2 B2
        go_wp2_with (go_at_call 41; with_reducible refine cw.mono ?_; rintro e u ⟨rfl, g⟩; have S3 := S2.keep g; obtain ⟨r0, r1, r2, r3⟩ := S3.tok.at; have rf := S3.tok.free)
        go_step3
        have S4 := S3.setTok x.1
        refine ⟨⟨bg, pos, ts, x.1, x.2, by omega, ⟨rfl, rfl, rfl, rfl, rfl, S4.mach, S4.tok, S4.below, hlen, hpl, hbp⟩, hr, hgt⟩, ?_⟩
        obtain ⟨tk4, M4, _⟩ := S4.mach
        rw [mu_five M4, mu_row M1 3 _ (by omega) (by omega)]
        omega
    · obtain rfl := Option.some.inj (show some _ = some rest from hrest)
      obtain ⟨rfl, hbs⟩ : pos = bg ∧ bg < s.size := hbes
      replace hr : told s (sgnE s pos) pos ts (⟨sgK (s.extract pos (sgnE s pos)), ⟨#[]⟩, 0, pos⟩, 0) = A := hr
      obtain ⟨hg1, hg2⟩ := sgnE_le s pos hbs
      have S1 : Wst W0 b w.heap.size s w' pos pos ts t := ⟨⟨tk, M1, O1⟩, T1, B1, hb, hbl⟩
      have hmu := mu_four M1 ⟨tm, []⟩
      have cs : Calls Tryd.prog 42 #[.pointer (some ⟨b, 0, none⟩)] w' fun e w'' => e = .returned (.agg #[.int .i64 (sgK (s.extract pos (sgnE s pos))), .string ⟨#[]⟩, .int .i64 0, .int .i64 (pos : Int)]) ∧ Below w'.heap.size (w'.setCell ⟨b, 2, none⟩ (.int .i64 (sgnE s pos : Int))) w'' := msign_any b s pos tk w' M1 hbs hs (G.keep B1) (by have := G.1; omega)
      generalize sgnE s pos = E2 at cs hr hg1 hg2
      obtain ⟨x, hx⟩ : ∃ x : Tok, x = ⟨sgK (s.extract pos E2), ⟨#[]⟩, 0, pos⟩ := ⟨_, rfl⟩
      rw [← hx] at hr
      rw [show (#[.int .i64 (sgK (s.extract pos E2)), .string ⟨#[]⟩, .int .i64 0, .int .i64 (pos : Int)] : Array Value) = #[.int .i64 x.k, .string x.t, .int .i64 x.n, .int .i64 x.a] by rw [hx]] at cs
      clear hx O1 T1
      go_upto_region 31 with (go_at_call 42; with_reducible refine cs.mono ?_; rintro e u ⟨rfl, g⟩; have S3 := (S1.setAt E2).keep (by simpa using g); obtain ⟨r0, r1, r2, r3⟩ := S3.tok.at; have rf := S3.tok.free)
      go_step3
      have S4 := S3.setTok x
      generalize ((((u.setCell ⟨w.heap.size, 0, none⟩ (.int .i64 x.k)).setCell ⟨w.heap.size, 1, none⟩ (.string x.t)).setCell ⟨w.heap.size, 2, none⟩ (.int .i64 x.n)).setCell ⟨w.heap.size, 3, none⟩ (.int .i64 x.a)) = Y at S4 ⊢
      clear r0 r1 r2 r3 rf S3 g
      have hgt : pos < E2 := hg1
      obtain ⟨⟨tk5, M5, O5⟩, T5, B5, _, _⟩ := id S4
      obtain ⟨r0, r1, r2, r3⟩ := T5.at
      by_cases h400 : ts.length = 400
      · have hA2 : A = (34, pos, ts) := by rw [← hr]; unfold told; rw [if_neg (by simp), if_pos h400]
        obtain ⟨ao, cap, htk⟩ := own_shape O5
        have ct : Calls Tryd.prog 43 #[.pointer (some ⟨b, 0, none⟩), .agg #[.int .i64 x.k, .string x.t, .int .i64 x.n, .int .i64 x.a]] Y fun e w'' => e = .returned (.int .i64 34) ∧ Below Y.heap.size Y w'' := mtake_full b s pos E2 ao cap x Y (by rw [htk, h400] at M5; exact M5)
        go_wp2_with (go_at_call 43; with_reducible refine ct.mono ?_; rintro e u ⟨rfl, g⟩; have S6 := S4.keep g)
        simp only [jumps]
        go_ret
        obtain ⟨⟨tk6, M6, O6⟩, _, B6, _, _⟩ := S6
        rw [hA2]
        exact ⟨rfl, _, _, M6, O6, B6⟩
      · have hr5 : lexA s E2 pos (ts ++ [x]) = A := by rw [← hr]; unfold told; rw [if_neg (by simp), if_neg h400]
        have ct : Calls Tryd.prog 43 #[.pointer (some ⟨b, 0, none⟩), .agg #[.int .i64 x.k, .string x.t, .int .i64 x.n, .int .i64 x.a]] Y fun e w'' => e = .returned (.int .i64 0) ∧ ∃ v, Mach w'' b s pos E2 v ∧ w''.ownsRow (w.heap.size + 1) 79 4 v (ts.length + 1) (toksV (ts ++ [x])) ∧ Below b Y w'' ∧ ∀ j, j < w.heap.size + 1 → j ≠ b → w''.heap[j]? = Y.heap[j]? := mtake_any b (w.heap.size + 1) b (Nat.le_refl _) (by omega) s pos E2 tk5 ts x Y M5 (by have := T5.lt; omega) O5 (by omega)
        go_wp2_with (go_at_call 43; with_reducible refine ct.mono ?_; rintro e u ⟨rfl, v6, M6, O6, g6, n6⟩)
        go_step3
        refine ⟨⟨pos, E2, ts ++ [x], x, 0, by omega, ⟨rfl, rfl, rfl, rfl, rfl, ⟨v6, M6, by rw [List.length_append]; exact O6⟩, (n6 _ (by omega) (by omega)).trans T5, B5.trans (g6.mono hb), by rw [List.length_append]; show ts.length + 1 ≤ 400; omega, by omega, by omega⟩, hr5, trivial⟩, ?_⟩
        rw [mu_zero M6, mu_four M1]
        first | exact mu_back2 hgt (by omega) | exact Nat.lt_succ_of_lt (mu_back2 hgt (by omega))
    · obtain rfl := Option.some.inj (show some _ = some rest from hrest)
      replace hr : told s pos bg ts (t, c) = A := hr
      have hgt : bg < pos := hbes
      have S1 : Wst W0 b w.heap.size s w' bg pos ts t := ⟨⟨tk, M1, O1⟩, T1, B1, hb, hbl⟩
      by_cases hc : c = 0
      · subst hc
        obtain ⟨⟨tk5, M5, O5⟩, T5, B5, _, _⟩ := id S1
        obtain ⟨r0, r1, r2, r3⟩ := T5.at
        by_cases h400 : ts.length = 400
        · have hA2 : A = (34, bg, ts) := by rw [← hr]; unfold told; rw [if_neg (by simp), if_pos h400]
          obtain ⟨ao, cap, htk⟩ := own_shape O5
          have ct : Calls Tryd.prog 43 #[.pointer (some ⟨b, 0, none⟩), .agg #[.int .i64 t.k, .string t.t, .int .i64 t.n, .int .i64 t.a]] w' fun e w'' => e = .returned (.int .i64 34) ∧ Below w'.heap.size w' w'' := mtake_full b s bg pos ao cap t w' (by rw [htk, h400] at M5; exact M5)
          go_wp2_with (go_at_call 43; with_reducible refine ct.mono ?_; rintro e u ⟨rfl, g⟩; have S6 := S1.keep g)
          simp only [jumps]
          go_ret
          obtain ⟨⟨tk6, M6, O6⟩, _, B6, _, _⟩ := S6
          rw [hA2]
          exact ⟨rfl, _, _, M6, O6, B6⟩
        · have hr5 : lexA s pos bg (ts ++ [t]) = A := by rw [← hr]; unfold told; rw [if_neg (by simp), if_neg h400]
          have ct : Calls Tryd.prog 43 #[.pointer (some ⟨b, 0, none⟩), .agg #[.int .i64 t.k, .string t.t, .int .i64 t.n, .int .i64 t.a]] w' fun e w'' => e = .returned (.int .i64 0) ∧ ∃ v, Mach w'' b s bg pos v ∧ w''.ownsRow (w.heap.size + 1) 79 4 v (ts.length + 1) (toksV (ts ++ [t])) ∧ Below b w' w'' ∧ ∀ j, j < w.heap.size + 1 → j ≠ b → w''.heap[j]? = w'.heap[j]? := mtake_any b (w.heap.size + 1) b (Nat.le_refl _) (by omega) s bg pos tk5 ts t w' M5 (by have := T5.lt; omega) O5 (by omega)
          go_wp2_with (go_at_call 43; with_reducible refine ct.mono ?_; rintro e u ⟨rfl, v6, M6, O6, g6, n6⟩)
          go_step3
          refine ⟨⟨bg, pos, ts ++ [t], t, 0, by omega, ⟨rfl, rfl, rfl, rfl, rfl, ⟨v6, M6, by rw [List.length_append]; exact O6⟩, (n6 _ (by omega) (by omega)).trans T5, B5.trans (g6.mono hb), by rw [List.length_append]; show ts.length + 1 ≤ 400; omega, by omega, by omega⟩, hr5, trivial⟩, ?_⟩
          rw [mu_zero M6, mu_five M1]
          first | exact mu_back2 hgt (by omega) | exact Nat.lt_succ_of_lt (mu_back2 hgt (by omega))
      · have q0 : (c == 0) = false := by simpa using hc
        have hA2 : A = (c, bg, ts) := by rw [← hr]; unfold told; rw [if_pos hc]
        go_wp2
        simp only [jumps]
        go_ret
        rw [hA2]
        exact ⟨rfl, _, _, M1, O1, B1⟩

end Go.Proofs.YtmoimmghmmomlaaDoor
