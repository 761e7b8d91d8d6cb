/- For every two texts the law LexFresh returns true: what one call of Lex has told, written full and grown, is not seen by another call, nor by what another one has told. The listed variables hold what their texts lay (the card ties that to the text). No other condition. -/
import Derived.Test.YtlcmfefcammklaaDoorKs
import Derived.Test.YtlcmfefcammklaaDoorRr7
import Derived.Test.YtlcmfefcammklaaDoorEr
import Derived.Test.YtlcmfefcammklaaDoorCards
import Derived.Test.YtlcmfefcammklaaDoorTie
import Derived.Carry
import Derived.ChangeMaps5
import Derived.SizedLaws
import Derived.Lib.SmallJoins
import Derived.Deep.DeepHandedRow
import Derived.Lay
namespace Go.Proofs.YtlcmfefcammklaaDoor.lexFresh
open Go.ChangeShapes Go.WideShapes Go.ChangeAt Go.RowKit Go.BigFrame
set_option linter.unusedVariables false
set_option linter.unusedSimpArgs false

def fA (i : Nat) : Tok := ⟨7, ⟨#[109, 97, 114, 107]⟩, (i : Int), -1⟩
def fD (i : Nat) : Tok := ⟨4, ⟨#[111, 116, 104, 101, 114]⟩, (i : Int), -2⟩
def fO (i : Nat) : Tok := ⟨3, ⟨#[116, 104, 105, 114, 100]⟩, (i : Int), -3⟩
theorem new8 (w : World) (t u : Tok) (j : Nat) (y : Value) (h : (toksV [t, u])[j]? = some y) : (w.alloc (.cells #[.int .i64 t.k, .string t.t, .int .i64 t.n, .int .i64 t.a, .int .i64 u.k, .string u.t, .int .i64 u.n, .int .i64 u.a] 30)).cell? ((⟨w.heap.size, 0, none⟩ : Addr).add j) = some y := by
  rw [Go.WideShapes.add_plain, Nat.zero_add, World.cell?_alloc_new]
  have e : toksV [t, u] = [.int .i64 t.k, .string t.t, .int .i64 t.n, .int .i64 t.a, .int .i64 u.k, .string u.t, .int .i64 u.n, .int .i64 u.a] := rfl
  rw [e] at h
  simpa using h
theorem one8 (L : List Tok) : ∀ u ∈ toksV L, u.oneCell' = true := by
  intro u hu
  unfold toksV at hu
  obtain ⟨y, _, hy⟩ := List.mem_flatMap.1 hu
  simp [tokA] at hy
  rcases hy with rfl | rfl | rfl | rfl <;> rfl
theorem toksV_len (L : List Tok) : (toksV L).length = L.length * 4 := by
  induction L with
  | nil => rfl
  | cons y r ih =>
    have e : toksV (y :: r) = (tokA y).toList ++ toksV r := rfl
    rw [e, List.length_append, ih, List.length_cons]
    show 4 + _ = _
    omega
def t9 : Tok := ⟨9, ⟨#[]⟩, 0, 0⟩
def t8 : Tok := ⟨8, ⟨#[]⟩, 1, 0⟩
def t6 : Tok := ⟨6, ⟨#[]⟩, 2, 0⟩
def t5 : Tok := ⟨5, ⟨#[]⟩, 3, 0⟩
/-- The token at a place of an own row, cell by cell. -/
theorem own_at {w : World} {base g n cap : Nat} {L : List Tok} (h : w.ownsRow base 30 4 (.slice (some ⟨g, 0, none⟩) n cap) n (toksV L)) (hn : L.length = n) {k : Nat} (hk : k < n) :
    w.cell? ⟨g, k * 4, none⟩ = some (.int .i64 (L.getD k noTok).k) ∧ w.cell? ⟨g, k * 4 + 1, none⟩ = some (.string (L.getD k noTok).t) ∧ w.cell? ⟨g, k * 4 + 2, none⟩ = some (.int .i64 (L.getD k noTok).n) ∧ w.cell? ⟨g, k * 4 + 3, none⟩ = some (.int .i64 (L.getD k noTok).a) := by
  have hc : ∀ j, j < 4 → w.cell? ⟨g, k * 4 + j, none⟩ = (tokA (L.getD k noTok)).toList[j]? := fun j hj => by
    rw [World.ownsRow.cellAt h (k * 4 + j) (by omega), toksV_at L k (by omega) j hj]
  exact ⟨hc 0 (by omega), hc 1 (by omega), hc 2 (by omega), hc 3 (by omega)⟩

theorem same_own {w : World} {b1 b2 : Nat} {ts : List Tok} {ao bo : Option Addr} {c1 c2 : Nat} (hl : ts.length ≤ 8192) (O1 : w.ownsRow b1 30 4 (.slice ao ts.length c1) ts.length (toksV ts)) (O2 : w.ownsRow b2 30 4 (.slice bo ts.length c2) ts.length (toksV ts)) :
    Calls Tryd.prog 12 #[.slice ao ts.length c1, .slice bo ts.length c2] w fun e w' => e = .returned (.bool true) ∧ Below w.heap.size w w' := by
  obtain ⟨_, _, h1, A⟩ := toks_of_own O1
  obtain ⟨_, _, h2, B⟩ := toks_of_own O2
  cases h1
  cases h2
  exact same_true ts hl ao bo c1 c2 w A B
set_option maxRecDepth 100000 in
set_option maxHeartbeats 16000000 in
theorem walk (s : ByteArray) (hs : s.size ≤ 140737488351232) (x : ByteArray) (hx : x.size ≤ 140737488351232) (w : World) (K : KwAt w) (Sg : SgAt w) (E : ErAt w) (Sr : SrAt w) (Kr : KrAt w) : Calls Tryd.prog 8 #[.string s, .string x] w fun e w' => e = .returned (.bool true) ∧ Below w.heap.size w w' := by
  have cL := fun (y : ByteArray) (hy : y.size ≤ 9223372036854775807) (u : World) (g : Below w.heap.size w u) => lexLex_any y hy u (K.keep g) (Sg.keep g) (E.keep g)
  have cR := fun (y : ByteArray) (hy : y.size ≤ 9223372036854775807) (u : World) (g : Below w.heap.size w u) => refLex_any y hy u (Sr.keep g) (Kr.keep g)
  have c1 := cL s (by omega)
  have c2 := cL x (by omega)
  have r1 := cR s (by omega)
  have r2 := cR x (by omega)
  have hla := lexO_len s
  have hlb := lexO_len x
  clear cL cR
  generalize lexO s = za at *
  generalize lexO x = zb at *
  obtain ⟨ta, ea, pa⟩ := za
  obtain ⟨tb, eb, pb⟩ := zb
  dsimp only at c1 c2 r1 r2 hla hlb
  go_enter Tryd.func8, Tryd.ntmps8
  go_wp2_with (first
    | (go_at_call_of 18 s; (with_reducible refine (r1 _ (gtrans g1 g2)).mono ?_); rintro e u3 ⟨vw, rfl, Ow, g3⟩; obtain ⟨wo, cw, rfl⟩ := own_shape Ow)
    | (go_at_call_of 18 x; (with_reducible refine (r2 _ (gtrans (gtrans g1 g2) g3)).mono ?_); rintro e u4 ⟨vx, rfl, Ox, g4⟩; obtain ⟨xo, cx, rfl⟩ := own_shape Ox; obtain ⟨_, _, hva, Aa⟩ := toks_of_own (own_keep (own_keep (own_keep Oa g2) g3) g4); obtain ⟨_, _, hvw, Aw⟩ := toks_of_own (own_keep Ow g4); cases hva; cases hvw; have s1 := same_true ta (by omega) ao wo ca cw u4 Aa Aw)
    | (go_at_call_of 10 s; (with_reducible refine (c1 _ (Below.refl _ _)).mono ?_); rintro e u1 ⟨va, rfl, Oa, g1⟩; obtain ⟨ao, ca, rfl⟩ := own_shape Oa)
    | (go_at_call_of 10 x; (with_reducible refine (c2 _ g1).mono ?_); rintro e u2 ⟨vb, rfl, Ob, g2⟩; obtain ⟨bo, cb, rfl⟩ := own_shape Ob)
    | (go_at_call_of 12 (Value.slice ao ta.length ca); (with_reducible refine s1.mono ?_); rintro e u5 ⟨rfl, g5⟩; obtain ⟨_, _, hvb, Ab⟩ := toks_of_own (own_keep (own_keep (own_keep Ob g3) g4) g5); obtain ⟨_, _, hvx, Ax⟩ := toks_of_own (own_keep Ox g5); cases hvb; cases hvx; have s2 := same_true tb (by omega) bo xo cb cx u5 Ab Ax)
    | (go_at_call_of 12 (Value.slice bo tb.length cb); (with_reducible refine s2.mono ?_); rintro e u6 ⟨rfl, g6⟩))
  have Oa6 := own_keep (own_keep (own_keep (own_keep (own_keep Oa g2) g3) g4) g5) g6
  have Ob6 := own_keep (own_keep (own_keep (own_keep Ob g3) g4) g5) g6
  have Ow6 := own_keep (own_keep (own_keep Ow g4) g5) g6
  have Ox6 := own_keep (own_keep Ox g5) g6
  have B6 := gtrans (gtrans (gtrans (gtrans (gtrans g1 g2) g3) g4) g5) g6
  have z1 := g1.size
  have z2 := g2.size
  have z3 := g3.size
  have z4 := g4.size
  have z6 := (gtrans g5 g6).size
  have hga : ∀ g, (Value.slice ao ta.length ca).ownBlock = some g → w.heap.size ≤ g ∧ g < u1.heap.size := fun g e => Oa.lt g e
  have hgb : ∀ g, (Value.slice bo tb.length cb).ownBlock = some g → g < u2.heap.size := fun g e => (Ob.lt g e).2
  have hgw : ∀ g, (Value.slice wo ta.length cw).ownBlock = some g → g < u3.heap.size := fun g e => (Ow.lt g e).2
  have hgx : ∀ g, (Value.slice xo tb.length cx).ownBlock = some g → g < u4.heap.size := fun g e => (Ox.lt g e).2
  clear Oa Ob Ow Ox s1 s2 Aa Aw Ab Ax
  go_loopw [17] (fun i wr => ∃ k : Nat, k ≤ ta.length ∧ i = .int .i64 k ∧ wr.ownsRow w.heap.size 30 4 (.slice ao ta.length ca) ta.length (toksV (markL fA ta k)) ∧ u6.grownBy wr (Value.slice ao ta.length ca).ownBlock) (fun i _ => ta.length - (intOf i).toNat)
  case atStart => exact ⟨0, Nat.zero_le _, rfl, Oa6, World.grownBy.refl _ _⟩
  case round =>
    obtain ⟨k, hk, rfl, O, G⟩ := hrel
    by_cases hlt : k < ta.length
    · obtain ⟨g, cap, hv, hb, hgl⟩ := O.form (by omega)
      simp only [Value.slice.injEq] at hv
      obtain ⟨rfl, _, rfl⟩ := hv
      obtain ⟨y0, y1, y2, y3⟩ := own_at O (markL_len _ _ _) hlt
      have yf := fun j => World.ownsRow.frozenAt O j
      have hnx := own_store O k (by rw [markL_len]; exact hlt) (fA k)
      go_wp2
      go_roundw
      case rel => exact ⟨k + 1, by omega, by go_num, hnx.1, grown_trans G hnx.2⟩
      case measure => simp [intOf]; omega
    · obtain rfl : k = ta.length := by omega
      rename World => W7
      have zG := G.size
      have B7 : Below w.heap.size w W7 := B6.grown G (by omega) (fun g e => (hga g e).1)
      have Ob7 := own_far Ob6 G (fun g e => (hga g e).2)
      have Ow7 := own_far Ow6 G (fun g e => by have := (hga g e).2; omega)
      have Ox7 := own_far Ox6 G (fun g e => by have := (hga g e).2; omega)
      clear Oa6 Ob6 Ow6 Ox6
      have hl9 : ta.length ≤ 8192 := by omega
      go_wp2_with (at_builtin; refine wpList_append_keep rfl (.tmp 88) (.tmp 91) rfl w.heap.size _ ta.length _ rfl (O.alloc _) hl9 ⟨W7.heap.size, 0, none⟩ 2 2 (toksV [t9, t8]) rfl rfl (new8 W7 t9 t8) (one8 _) (by decide) ?c1 ?_)
      case c1 => have := B7.size; simp; omega
      intro vg W8 Og8 Oa8 H8
      have zH := H8.size
      have zA : (W7.alloc (.cells #[.int .i64 9, .string ⟨#[]⟩, .int .i64 0, .int .i64 0, .int .i64 8, .string ⟨#[]⟩, .int .i64 1, .int .i64 0] 30)).heap.size = W7.heap.size + 1 := by simp
      have zB := B7.size
      have B8 : Below w.heap.size w W8 := (galloc B7 _).grown H8 (by omega) (fun g e => (hga g e).1)
      have Ob8 := own_far (Ob7.alloc _) H8 (fun g e => (hga g e).2)
      have Ow8 := own_far (Ow7.alloc _) H8 (fun g e => by have := (hga g e).2; omega)
      have Ox8 := own_far (Ox7.alloc _) H8 (fun g e => by have := (hga g e).2; omega)
      obtain ⟨go, cg, rfl⟩ := own_shape Og8
      clear Ob7 Ow7 Ox7 O G H8
      go_wp2_with (first
        | (go_at_call_of 10 s; (with_reducible refine (c1 _ B8).mono ?_); rintro e W9 ⟨vc, rfl, Oc, G9⟩; obtain ⟨co, cc, rfl⟩ := own_shape Oc)
        | (at_builtin; refine wpList_append_keep rfl (.tmp 99) (.tmp 102) rfl W8.heap.size _ ta.length _ rfl (Oc.alloc _) hl9 ⟨W9.heap.size, 0, none⟩ 2 2 (toksV [t6, t5]) rfl rfl (new8 W9 t6 t5) (one8 _) (by decide) ?c1 ?_))
      case c1 => have := G9.size; simp; omega
      intro vm W10 Om10 Oc10 H10
      have hgc : ∀ g, (Value.slice co ta.length cc).ownBlock = some g → W8.heap.size ≤ g ∧ g < W9.heap.size := fun g e => Oc.lt g e
      have hgg : ∀ g, (Value.slice go (ta.length + 2) cg).ownBlock = some g → g < W8.heap.size := fun g e => (Og8.lt g e).2
      have zI := H10.size
      have zC : (W9.alloc (.cells #[.int .i64 6, .string ⟨#[]⟩, .int .i64 2, .int .i64 0, .int .i64 5, .string ⟨#[]⟩, .int .i64 3, .int .i64 0] 30)).heap.size = W9.heap.size + 1 := by simp
      have z9 := G9.size
      have z8 := B8.size
      have B10 : Below w.heap.size w W10 := (galloc (gtrans B8 G9) _).grown H10 (by omega) (fun g e => by have := (hgc g e).1; omega)
      have Oa10 := own_far2 ((own_keep Oa8 G9).alloc _) H10 W8.heap.size (fun g e => by have := (hga g e).2; omega) (fun g e => (hgc g e).1)
      have Og10 := own_far2 ((own_keep Og8 G9).alloc _) H10 W8.heap.size hgg (fun g e => (hgc g e).1)
      have Ob10 := own_far2 ((own_keep Ob8 G9).alloc _) H10 W8.heap.size (fun g e => by have := hgb g e; omega) (fun g e => (hgc g e).1)
      have Ow10 := own_far2 ((own_keep Ow8 G9).alloc _) H10 W8.heap.size (fun g e => by have := hgw g e; omega) (fun g e => (hgc g e).1)
      have Ox10 := own_far2 ((own_keep Ox8 G9).alloc _) H10 W8.heap.size (fun g e => by have := hgx g e; omega) (fun g e => (hgc g e).1)
      obtain ⟨mo, cm, rfl⟩ := own_shape Om10
      have hgm : ∀ g, (Value.slice mo (ta.length + 2) cm).ownBlock = some g → g < W10.heap.size := fun g e => (Om10.lt g e).2
      clear Oa8 Og8 Ob8 Ow8 Ox8 Oc H10
      go_wp2_with (first
        | (go_at_call_of 10 s; (with_reducible refine (c1 _ B10).mono ?_); rintro e W11 ⟨vd, rfl, Od, G11⟩; obtain ⟨dO, cd, rfl⟩ := own_shape Od)
        | (go_at_call_of 10 x; (with_reducible refine (c2 _ (gtrans B10 G11)).mono ?_); rintro e W12 ⟨vo, rfl, Oo, G12⟩; obtain ⟨oO, cO, rfl⟩ := own_shape Oo; have Od12 := own_keep Od G12; have F12 := gtrans G11 G12; have q1 := same_own hl9 Od12 (own_keep Ow10 F12))
        | (go_at_call_of 12 (Value.slice dO ta.length cd); (with_reducible refine q1.mono ?_); rintro e W13 ⟨rfl, g13⟩; have F13 := gtrans F12 g13; have q2 := same_own (by omega) (own_keep Ob10 F13) (own_keep Ox10 F13))
        | (go_at_call_of 12 (Value.slice bo tb.length cb); (with_reducible refine q2.mono ?_); rintro e W14 ⟨rfl, g14⟩; have F14 := gtrans F13 g14; have q3 := same_own hl9 (own_keep Oc10 F14) (own_keep Ow10 F14))
        | (go_at_call_of 12 (Value.slice co ta.length cc); (with_reducible refine q3.mono ?_); rintro e W15 ⟨rfl, g15⟩; have F15 := gtrans F14 g15; have g25 := gtrans (gtrans g13 g14) g15; have q4 := same_own (by omega) (own_keep Oo g25) (own_keep Ox10 F15))
        | (go_at_call_of 12 (Value.slice oO tb.length cO); (with_reducible refine q4.mono ?_); rintro e W16 ⟨rfl, g16⟩))
      have F16 := gtrans F15 g16
      have g26 := gtrans g25 g16
      have B16 := gtrans B10 F16
      have Oa16 := own_keep Oa10 F16
      have Og16 := own_keep Og10 F16
      have Ob16 := own_keep Ob10 F16
      have Ow16 := own_keep Ow10 F16
      have Ox16 := own_keep Ox10 F16
      have Oc16 := own_keep Oc10 F16
      have Om16 := own_keep Om10 F16
      have Od16 := own_keep Od12 g26
      have Oo16 := own_keep Oo g26
      have hgd : ∀ g, (Value.slice dO ta.length cd).ownBlock = some g → W10.heap.size ≤ g ∧ g < W11.heap.size := fun g e => Od.lt g e
      have hgo : ∀ g, (Value.slice oO tb.length cO).ownBlock = some g → W11.heap.size ≤ g ∧ g < W12.heap.size := fun g e => Oo.lt g e
      have z11 := G11.size
      have z12 := G12.size
      have z16 := g26.size
      clear q1 q2 q3 q4 Oa10 Og10 Ob10 Ow10 Ox10 Oc10 Om10 Od12 Od Oo
      go_loopw [29] (fun i wr => ∃ k : Nat, k ≤ ta.length ∧ i = .int .i64 k ∧ wr.ownsRow W10.heap.size 30 4 (.slice dO ta.length cd) ta.length (toksV (markL fD ta k)) ∧ W16.grownBy wr (Value.slice dO ta.length cd).ownBlock) (fun i _ => ta.length - (intOf i).toNat)
      case atStart => exact ⟨0, Nat.zero_le _, rfl, Od16, World.grownBy.refl _ _⟩
      case round =>
        obtain ⟨k, hk, rfl, O, G⟩ := hrel
        by_cases hlt : k < ta.length
        · obtain ⟨g, cap, hv, hb, hgl⟩ := O.form (by omega)
          simp only [Value.slice.injEq] at hv
          obtain ⟨rfl, _, rfl⟩ := hv
          obtain ⟨y0, y1, y2, y3⟩ := own_at O (markL_len _ _ _) hlt
          have yf := fun j => World.ownsRow.frozenAt O j
          have hnx := own_store O k (by rw [markL_len]; exact hlt) (fD k)
          go_wp2
          go_roundw
          case rel => exact ⟨k + 1, by omega, by go_num, hnx.1, grown_trans G hnx.2⟩
          case measure => simp [intOf]; omega
        · obtain rfl : k = ta.length := by omega
          rename World => W17
          have z17 := G.size
          have B17 : Below w.heap.size w W17 := B16.grown G (by have := B16.size; omega) (fun g e => by have := (hgd g e).1; have := B10.size; omega)
          have top : ∀ g, (Value.slice dO ta.length cd).ownBlock = some g → W10.heap.size ≤ g := fun g e => (hgd g e).1
          have Oa17 := own_far2 Oa16 G W10.heap.size (fun g e => by have := (hga g e).2; omega) top
          have Og17 := own_far2 Og16 G W10.heap.size (fun g e => by have := hgg g e; omega) top
          have Ob17 := own_far2 Ob16 G W10.heap.size (fun g e => by have := hgb g e; omega) top
          have Ow17 := own_far2 Ow16 G W10.heap.size (fun g e => by have := hgw g e; omega) top
          have Ox17 := own_far2 Ox16 G W10.heap.size (fun g e => by have := hgx g e; omega) top
          have Oc17 := own_far2 Oc16 G W10.heap.size (fun g e => by have := (hgc g e).2; omega) top
          have Om17 := own_far2 Om16 G W10.heap.size hgm top
          have Oo17 := own_far Oo16 G (fun g e => (hgd g e).2)
          have Od17 := O
          clear Oa16 Og16 Ob16 Ow16 Ox16 Oc16 Om16 Oo16 Od16 O
          go_wp2
          go_loopw [30] (fun i wr => ∃ k : Nat, k ≤ tb.length ∧ i = .int .i64 k ∧ wr.ownsRow W11.heap.size 30 4 (.slice oO tb.length cO) tb.length (toksV (markL fO tb k)) ∧ W17.grownBy wr (Value.slice oO tb.length cO).ownBlock) (fun i _ => tb.length - (intOf i).toNat)
          case atStart => exact ⟨0, Nat.zero_le _, rfl, Oo17, World.grownBy.refl _ _⟩
          case round =>
            obtain ⟨k, hk, rfl, O, G2⟩ := hrel
            by_cases hlt : k < tb.length
            · obtain ⟨g, cap, hv, hb, hgl⟩ := O.form (by omega)
              simp only [Value.slice.injEq] at hv
              obtain ⟨rfl, _, rfl⟩ := hv
              obtain ⟨y0, y1, y2, y3⟩ := own_at O (markL_len _ _ _) hlt
              have yf := fun j => World.ownsRow.frozenAt O j
              have hnx := own_store O k (by rw [markL_len]; exact hlt) (fO k)
              go_wp2
              go_roundw
              case rel => exact ⟨k + 1, by omega, by go_num, hnx.1, grown_trans G2 hnx.2⟩
              case measure => simp [intOf]; omega
            · obtain rfl : k = tb.length := by omega
              rename World => W18
              have z18 := G2.size
              have B18 : Below w.heap.size w W18 := B17.grown G2 (by have := B17.size; omega) (fun g e => by have := (hgo g e).1; have := B10.size; omega)
              have top2 : ∀ g, (Value.slice oO tb.length cO).ownBlock = some g → W11.heap.size ≤ g := fun g e => (hgo g e).1
              have Oa18 := own_far2 Oa17 G2 W11.heap.size (fun g e => by have := (hga g e).2; omega) top2
              have Og18 := own_far2 Og17 G2 W11.heap.size (fun g e => by have := hgg g e; omega) top2
              have Ob18 := own_far2 Ob17 G2 W11.heap.size (fun g e => by have := hgb g e; omega) top2
              have Ow18 := own_far2 Ow17 G2 W11.heap.size (fun g e => by have := hgw g e; omega) top2
              have Ox18 := own_far2 Ox17 G2 W11.heap.size (fun g e => by have := hgx g e; omega) top2
              have Oc18 := own_far2 Oc17 G2 W11.heap.size (fun g e => by have := (hgc g e).2; omega) top2
              have Om18 := own_far2 Om17 G2 W11.heap.size (fun g e => by have := hgm g e; omega) top2
              have Od18 := own_far2 Od17 G2 W11.heap.size (fun g e => (hgd g e).2) top2
              have q1 := same_own (by omega) Ob18 Ox18
              clear Oa17 Og17 Ob17 Ow17 Ox17 Oc17 Om17 Oo17 Od17 O G G2
              go_wp2_with (first
                | (go_at_call_of 12 (Value.slice bo tb.length cb); (with_reducible refine q1.mono ?_); rintro e W19 ⟨rfl, g19⟩; have q2 := same_own hl9 (own_keep Oc18 g19) (own_keep Ow18 g19))
                | (go_at_call_of 12 (Value.slice co ta.length cc); (with_reducible refine q2.mono ?_); rintro e W20 ⟨rfl, g20⟩))
              have F20 := gtrans g19 g20
              have Oa20 := own_keep Oa18 F20
              have Og20 := own_keep Og18 F20
              have Om20 := own_keep Om18 F20
              have Od20 := own_keep Od18 F20
              have B20 := gtrans B18 F20
              clear q1 q2 Oa18 Og18 Ob18 Ow18 Ox18 Oc18 Om18 Od18
              go_loopw [31] (fun i wr => ∃ k : Nat, k ≤ ta.length ∧ i = .int .i64 k ∧ Below W20.heap.size W20 wr) (fun i _ => ta.length - (intOf i).toNat)
              case atStart => exact ⟨0, Nat.zero_le _, rfl, Below.refl _ _⟩
              case round =>
                obtain ⟨k, hk, rfl, G3⟩ := hrel
                by_cases hlt : k < ta.length
                · have O := own_keep Od20 G3
                  obtain ⟨g, cap, hv, hb, hgl⟩ := O.form (by omega)
                  simp only [Value.slice.injEq] at hv
                  obtain ⟨rfl, _, rfl⟩ := hv
                  obtain ⟨y0, y1, y2, y3⟩ := own_at O (markL_len _ _ _) hlt
                  rw [markL_at fD ta _ k hlt hlt] at y0 y1 y2 y3
                  replace y0 : _ = some (Value.int .i64 4) := y0
                  replace y1 : _ = some (Value.string ⟨#[111, 116, 104, 101, 114]⟩) := y1
                  replace y2 : _ = some (Value.int .i64 (k : Int)) := y2
                  replace y3 : _ = some (Value.int .i64 (-2)) := y3
                  go_wp2
                  go_roundw
                  case rel => exact ⟨k + 1, by omega, by go_num, by first | exact G3 | exact G3.drew⟩
                  case measure => simp [intOf]; omega
                · obtain rfl : k = ta.length := by omega
                  rename World => W21
                  have Oa21 := own_keep Oa20 G3
                  have Og21 := own_keep Og20 G3
                  have Om21 := own_keep Om20 G3
                  have B21 := gtrans B20 G3
                  clear Oa20 Og20 Om20 Od20
                  go_wp2
                  go_loopw [32] (fun i wr => ∃ k : Nat, k ≤ ta.length ∧ i = .int .i64 k ∧ Below W21.heap.size W21 wr) (fun i _ => ta.length - (intOf i).toNat)
                  case atStart => exact ⟨0, Nat.zero_le _, rfl, Below.refl _ _⟩
                  case round =>
                    obtain ⟨k, hk, rfl, G4⟩ := hrel
                    by_cases hlt : k < ta.length
                    · have O := own_keep Oa21 G4
                      obtain ⟨g, cap, hv, hb, hgl⟩ := O.form (by omega)
                      simp only [Value.slice.injEq] at hv
                      obtain ⟨rfl, _, rfl⟩ := hv
                      obtain ⟨y0, y1, y2, y3⟩ := own_at O (markL_len _ _ _) hlt
                      rw [markL_at fA ta _ k hlt hlt] at y0 y1 y2 y3
                      replace y0 : _ = some (Value.int .i64 7) := y0
                      replace y1 : _ = some (Value.string ⟨#[109, 97, 114, 107]⟩) := y1
                      replace y2 : _ = some (Value.int .i64 (k : Int)) := y2
                      replace y3 : _ = some (Value.int .i64 (-1)) := y3
                      go_wp2
                      go_roundw
                      case rel => exact ⟨k + 1, by omega, by go_num, by first | exact G4 | exact G4.drew⟩
                      case measure => simp [intOf]; omega
                    · obtain rfl : k = ta.length := by omega
                      rename World => W22
                      have Og := own_keep Og21 G4
                      have Om := own_keep Om21 G4
                      have B22 := gtrans B21 G4
                      obtain ⟨gg, cap1, hv1, hb1, hgl1⟩ := Og.form (by omega)
                      simp only [Value.slice.injEq] at hv1
                      obtain ⟨rfl, _, rfl⟩ := hv1
                      obtain ⟨gm, cap2, hv2, hb2, hgl2⟩ := Om.form (by omega)
                      simp only [Value.slice.injEq] at hv2
                      obtain ⟨rfl, _, rfl⟩ := hv2
                      have kg := World.ownsRow.cellAt Og (ta.length * 4) (by omega)
                      have km := World.ownsRow.cellAt Om (ta.length * 4) (by omega)
                      have lg : (toksV (markL fA ta ta.length)).length = ta.length * 4 := by rw [toksV_len, markL_len]
                      have lm : (toksV ta).length = ta.length * 4 := toksV_len ta
                      rw [List.getElem?_append_right (by omega), lg, Nat.sub_self] at kg
                      rw [List.getElem?_append_right (by omega), lm, Nat.sub_self] at km
                      replace kg : _ = some (Value.int .i64 9) := kg
                      replace km : _ = some (Value.int .i64 6) := km
                      clear Oa21 Og21 Om21 Og Om lg lm
                      go_wp2
                      go_ret
                      exact ⟨by first | rfl | simp, B22⟩

theorem own : ownKnob Tryd.prog.godebug = none := by kernel_rfl
theorem laidOut : laidOutB Tryd.prog = true := by kernel_rfl

theorem gKw : Tryd.prog.globalNamed "sluice/api.Keywords" = some 1 := by kernel_rfl
theorem tabs {W : World} (h : laidMetH Tryd.prog Rows.lexFreshRow.laid W) : KwAt W := by
  have h0 : laidMet Tryd.prog Rows.lexFreshRow.laid W := (Go.MakeChecks.laidMetH_plain _ _ _ (by kernel_rfl)).mp h
  exact kwAt_of (tabS (bss := kwl) gKw (by kernel_rfl) Tryd.underlying46 Tryd.underlying9 (by kernel_rfl) (laidMet_tail (laidMet_tail (laidMet_tail (laidMet_tail (laidMet_tail h0))))))
theorem gKr : Tryd.prog.globalNamed "sluice/sluiceref3.Keywords" = some 3 := by kernel_rfl
theorem tabR {W : World} (h : laidMetH Tryd.prog Rows.lexFreshRow.laid W) : KrAt W := by
  have h0 : laidMet Tryd.prog Rows.lexFreshRow.laid W := (Go.MakeChecks.laidMetH_plain _ _ _ (by kernel_rfl)).mp h
  exact krAt_of (tabS (bss := kwl) gKr (by kernel_rfl) Tryd.underlying46 Tryd.underlying9 (by kernel_rfl) (laidMet_tail (laidMet_tail (laidMet_tail (laidMet_tail (laidMet_tail (laidMet_tail (laidMet_tail h0))))))))
theorem gSg : Tryd.prog.globalNamed "sluice/lex.signs" = some 0 := by kernel_rfl
theorem tabSg {W : World} (h : laidMetH Tryd.prog Rows.lexFreshRow.laid W) : SgAt W := by
  have h0 : laidMet Tryd.prog Rows.lexFreshRow.laid W := (Go.MakeChecks.laidMetH_plain _ _ _ (by kernel_rfl)).mp h
  exact sgAt_of (tabS (bss := sgl) gSg (by kernel_rfl) Tryd.underlying45 Tryd.underlying9 (by kernel_rfl) (laidMet_tail (laidMet_tail (laidMet_tail (laidMet_tail (laidMet_tail (laidMet_tail (laidMet_tail (laidMet_tail h0)))))))))
theorem gSr : Tryd.prog.globalNamed "sluice/sluiceref3.Signs" = some 2 := by kernel_rfl
theorem tabSr {W : World} (h : laidMetH Tryd.prog Rows.lexFreshRow.laid W) : SrAt W := by
  have h0 : laidMet Tryd.prog Rows.lexFreshRow.laid W := (Go.MakeChecks.laidMetH_plain _ _ _ (by kernel_rfl)).mp h
  exact srAt_of (tabS (bss := sgl) gSr (by kernel_rfl) Tryd.underlying45 Tryd.underlying9 (by kernel_rfl) (laidMet_tail (laidMet_tail (laidMet_tail (laidMet_tail (laidMet_tail (laidMet_tail h0)))))))
theorem gEr : Tryd.prog.globalNamed "strconv.ErrRange" = some 6 := by kernel_rfl
theorem tabE {W : World} (h : laidMetH Tryd.prog Rows.lexFreshRow.laid W) : ErAt W := by
  have h0 : laidMet Tryd.prog Rows.lexFreshRow.laid W := (Go.MakeChecks.laidMetH_plain _ _ _ (by kernel_rfl)).mp h
  exact ifaceAt gEr (by kernel_rfl) ⟨_, Tryd.underlying51⟩ (laidMet_tail (laidMet_tail (laidMet_tail h0)))

set_option maxRecDepth 100000 in
theorem contract (H : Type) (enc : TypeId × Value → H) (W : World) (base : Nat) (args : Array Value) (ds gs : List (DataW H)) (before : List MemPlace)
    (hval : ∀ (j : Nat) t v, Tryd.f8.params[j]? = some t → args[j]? = some v → Value.okWide Tryd.prog W .any base t v)
    (hsz : (DataW.weightsEach Tryd.prog (Tryd.f8.params.toList ++ Rows.lexFreshSpec.plain.varTypes Tryd.prog) (ds ++ gs)).all (· ≤ reachBytes) = true)
    (hW : DataW.Whole enc Tryd.prog Tryd.f8.params.toList Rows.lexFreshSpec.vars false W args.toList ds gs before) (hL : laidMetH Tryd.prog Rows.lexFreshRow.laid W) :
    Calls Tryd.prog 8 args W fun e W' => ∃ v, e = .returned v ∧ Rows.lexFreshSpec.post enc Tryd.prog Tryd.f8 false true false false W args v W' := by
  have hW' := hW
  obtain ⟨p, q, hA0, hV, rfl, hfz, hnd⟩ := hW
  have hA : DataW.TrodAll enc Tryd.prog W 0 (fun _ => true) true Tryd.f8.params.toList args.toList ds p := hA0
  rw [Tryd.params8] at hA hval hsz
  obtain ⟨v0, vs0, d0, ds0, p0, q0, hargs, rfl, rfl, h0, r0⟩ := trodAll_cons hA
  obtain ⟨v1, vs1, d1, ds1, p1, q1, rfl, rfl, rfl, h1, r1⟩ := trodAll_cons r0
  obtain ⟨rfl, rfl, rfl⟩ := trodAll_nil r1
  obtain rfl : args = #[v0, v1] := by cases args; simp_all
  obtain ⟨rfl, rfl⟩ := trodVars_none hV
  have k0 := h0
  have lt0 : ∀ x ∈ p0, x.block < W.heap.size := by obtain ⟨m, hm⟩ := k0; exact DataW.trod_lt m _ _ _ hm
  obtain ⟨s0, e0, g0, _, _⟩ := Go.ChangeMaps.open_string Tryd.underlying9 (hval 0 9 v0 rfl rfl) h0
  subst e0
  have w0 : s0.size ≤ 140737488351232 := by
    have h1 := sized_string hsz (j := 0) (t := 9) rfl (congrArg some g0)
    have h2 : s0.data.toList.length = s0.size := Array.length_toList
    unfold reachBytes at h1
    omega
  have k1 := h1
  have lt1 : ∀ x ∈ p1, x.block < W.heap.size := by obtain ⟨m, hm⟩ := k1; exact DataW.trod_lt m _ _ _ hm
  obtain ⟨s1, e1, g1, _, _⟩ := Go.ChangeMaps.open_string Tryd.underlying9 (hval 1 9 v1 rfl rfl) h1
  subst e1
  have w1 : s1.size ≤ 140737488351232 := by
    have h1 := sized_string hsz (j := 1) (t := 9) rfl (congrArg some g1)
    have h2 : s1.data.toList.length = s1.size := Array.length_toList
    unfold reachBytes at h1
    omega
  clear hA0
  refine (walk s0 w0 s1 w1 W (tabs hL) (tabSg hL) (tabE hL) (tabSr hL) (tabR hL)).mono fun e W' ⟨he, bel⟩ => ?_
  subst he
  exact ⟨_, rfl, _, _, _, [], _, [], hW', trodAll_mk1 (shut_bool Tryd.underlying4 _), (trodAll_cons_mk (Below.trod laidOut (by kernel_rfl) (of_decide_eq_true (by kernel_rfl)) k0 bel lt0) (trodAll_cons_mk (Below.trod laidOut (by kernel_rfl) (of_decide_eq_true (by kernel_rfl)) k1 bel lt1) trodAll_mk0)), rfl, bel.frame _, fun h => by cases h⟩

/-- For the world of the witness: the settled one, the tables holding what their text lays. -/
def put (c : Array Value) : Obj → Obj
  | .cells _ t frozen => .cells c t frozen
  | x => x
theorem laid_met (os : Os) : laidMet Tryd.prog Rows.lexFreshRow.laid ((World.laidAll Tryd.prog os Rows.lexFreshRow.laid).forCall (fun _ _ => 0) ⟨#[], #[.string ByteArray.empty, .string ByteArray.empty], []⟩).memory :=
  laidMet_laidAll _ (by kernel_rfl) (by kernel_rfl)
theorem reads (os : Os) {H : Type} (enc : TypeId × Value → H) : ∃ places, DataW.whole enc Tryd.prog ((World.laidAll Tryd.prog os Rows.lexFreshRow.laid).forCall (fun _ _ => 0) ⟨#[], #[.string ByteArray.empty, .string ByteArray.empty], []⟩).memory Tryd.f8.params.toList Rows.lexFreshSpec.vars false (#[.string ByteArray.empty, .string ByteArray.empty] : Array Value).toList 8 = some ([.lit (.string []), .lit (.string [])], [], places) :=
  ⟨[], by kernel_rfl⟩

set_option maxRecDepth 100000 in
theorem lifted (os : Os) (started : os.Started) (H : Type) (enc : TypeId × Value → H) (F : Stop.Interp) :
    ReturnsInHanded {} Tryd.checked os 8 .any ((OpenSpec.ofChange Rows.lexFreshSpec).preRow enc Tryd.prog Tryd.f8 Rows.lexFreshRow.domain false Rows.lexFreshRow.laid) (((OpenSpec.ofChange Rows.lexFreshSpec).at F).post enc Tryd.prog Tryd.f8 false true false false) := by
  obtain ⟨places, hx⟩ := reads os enc
  refine returnsInHanded_of_row (C := Tryd.checked) (s := OpenSpec.ofChange Rows.lexFreshSpec) own started (by kernel_rfl) Tryd.func8
    ⟨(World.laidAll Tryd.prog os Rows.lexFreshRow.laid), fun _ _ => 0, ⟨#[], #[.string ByteArray.empty, .string ByteArray.empty], []⟩, World.laidAll_os _ _ _, World.shaped_of_ZipB (by kernel_rfl) (by kernel_rfl), rfl, (Input.okWide_of_okWideB (show Input.okWideB Tryd.prog ((World.laidAll Tryd.prog os Rows.lexFreshRow.laid).forCall (fun _ _ => 0) ⟨#[], #[.string ByteArray.empty, .string ByteArray.empty], []⟩) 8 ⟨#[], #[.string ByteArray.empty, .string ByteArray.empty], []⟩ = true by kernel_rfl)).2,
      OpenSpec.preRow_of_cond 8 hx (by kernel_rfl) (fun k hk => by cases hk) (by kernel_rfl) (laid_met os),
      by simp only [Assume.holds]; exact ⟨by simp, by simp, by simp, by simp, by simp⟩⟩ ?_
  intro W base args ds gs before hval hW _ _ hsz hL _ _
  exact contract H enc W base args ds gs before hval hsz hW hL

theorem said : Rows.LexFreshSaid :=
  OpenClaim.holds_of_cond 8 Tryd.f8 rfl rfl rfl rfl rfl rfl rfl ⟨rfl, rfl, rfl, rfl, rfl⟩ rfl rfl rfl rfl rfl (by kernel_rfl) Tryd.func8 (by kernel_rfl)
    (of_decide_eq_true (by kernel_rfl)) (by unfold Func.isWrapper; first | (rw [if_pos (by decide +kernel)]; kernel_rfl) | (rw [if_neg (by decide +kernel)]; exact ⟨rfl, rfl⟩))
    (fun os started H enc _ F => by rw [OpenClaim.pre_eq_preRow]; exact lifted os started H enc F)

theorem plain (f : FuncId) (fn : Func) (hf : Tryd.pinned.checked.prog.funcNamed "sluice/sluicelaw3.LexFresh" = some f) (hfn : Tryd.pinned.checked.prog.funcs[f]? = some fn) :
    true = Tryd.pinned.checked.prog.looks [] ∧ ∀ (j : Nat) t, fn.params[j]? = some t → Tryd.pinned.checked.prog.wantsStandIn t = false := by
  obtain rfl : f = 8 := Option.some.inj ((show Tryd.prog.funcNamed "sluice/sluicelaw3.LexFresh" = some 8 by kernel_rfl).symm.trans hf) |>.symm
  obtain rfl : fn = Tryd.f8 := (Option.some.inj (Tryd.func8.symm.trans hfn)).symm
  refine ⟨by kernel_rfl, fun j t ht => ?_⟩
  rw [Tryd.params8] at ht
  have hm : t = 9 := by simpa using Array.mem_of_getElem? ht
  rw [hm]
  exact (show Tryd.prog.wantsStandIn 9 = false by kernel_rfl)

end Go.Proofs.YtlcmfefcammklaaDoor.lexFresh
namespace Go.Proofs.YtlcmfefcammklaaDoor
theorem lexFresh_holds : Rows.LexFreshCardSaid :=
  Claim7.holds_tied_plain_at .later [] _ _ _ _ lexFresh.said (fun _ h => by cases h) (by kernel_rfl) (fun _ h => by cases h) lexFresh_row_tie rfl ⟨rfl, rfl⟩ (by kernel_rfl) rfl lexFresh.plain (by kernel_rfl)
#print axioms lexFresh_holds
end Go.Proofs.YtlcmfefcammklaaDoor
