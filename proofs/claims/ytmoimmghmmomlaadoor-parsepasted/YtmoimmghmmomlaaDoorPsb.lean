/- An expression's text behind a WHERE and behind a RETURN: what Parse answers. -/
import Derived.Test.YtmoimmghmmomlaaDoorPsa
import Derived.Test.YtmoimmghmmomlaaDoorQj
namespace Go.Proofs.YtmoimmghmmomlaaDoor
open Go.RowKit
set_option linter.unusedVariables false
set_option linter.unusedSimpArgs false

/-- More tokens than there may be. -/
theorem inn_over {b x : ByteArray} {d : Nat} (I : Inn b x d) (hx : x.size ≤ 8192) {l m : List Tok} (hP : Path x 0 [] d l) (hl : l.length ≤ 400) (hPb : Path b 0 [] b.size m) (h4 : 400 < l.length + m.length) : ∃ p, lexO x = ([], 34, p) := by
  obtain ⟨r, hr, hPr, h0, h4', h5, h6⟩ := hPb.tok2 (400 - l.length) (Nat.zero_le _) (by omega)
  have hlen : (m.take (400 - l.length)).length = 400 - l.length := by rw [List.length_take]; omega
  have h7 := hPr.inn I l (by omega)
  rw [show shL d [] = [] from rfl, List.append_nil, Nat.add_zero] at h7
  have hst2 := I.eSt hr
  obtain ⟨t1, t2, t3⟩ := I.eThing hr
  have hno : nxt x (d + r) (l ++ shL d (m.take (400 - l.length))) = none := by
    unfold nxt
    rw [hst2, if_neg h0, if_neg h4', if_neg h5, t2, if_neg (by rw [h6]; decide), if_pos (by rw [List.length_append, shL_len]; omega)]
  refine ⟨d + r, ?_⟩
  rw [lexO_stop hx (hP.trans h7) (by have := I.sz; omega) hno]
  unfold errC
  rw [hst2, if_neg h5, t2, if_neg (by rw [h6]; decide)]
theorem app_inn (f t : ByteArray) : Inn t (f ++ t) f.size := ⟨app_size f t, fun i hi => app_ge f t i, fun i j _ _ => app_ext_ge f t i j⟩
theorem app_seg (f t : ByteArray) (h0 : 0 < f.size) (hl : bt f (f.size - 1) = 32) (hb : ∀ i, i < f.size → bt f i ≠ 35) : Seg f (f ++ t) 0 f.size :=
  ⟨Nat.le_refl _, by rw [app_size]; omega, h0, fun i hi => app_lt f t i hi, fun i j _ hj => app_ext_lt f t i j hj, hl, fun i _ hi => hb i hi⟩
/-- A text behind one that ends with a blank. -/
theorem behind (f t : ByteArray) (h0 : 0 < f.size) (hl : bt f (f.size - 1) = 32) (hb : ∀ i, i < f.size → bt f i ≠ 35) {F T : List Tok} (hF : lexO f = (F, 0, 0)) (hT : lexO t = (T, 0, 0)) (hs : (f ++ t).size ≤ 8192) :
    (F.length + T.length ≤ 400 ∧ lexO (f ++ t) = (F ++ shL f.size T, 0, 0)) ∨ (400 < F.length + T.length ∧ ∃ p, lexO (f ++ t) = ([], 34, p)) := by
  have hsz := app_size f t
  have hFl : F.length ≤ 400 := by have := lexO_len f; rw [hF] at this; exact this
  have hPF : Path f 0 [] f.size F := by
    rcases lexO_ways (s := f) (by omega) with ⟨us, hP, he⟩ | ⟨q, us, hP, hq, hn, he⟩
    · rw [hF] at he; cases he; exact hP
    · rw [hF] at he; simp only [Prod.mk.injEq] at he; exact absurd he.2.1.symm (errC_ne f q).1
  have hPT : Path t 0 [] t.size T := by
    rcases lexO_ways (s := t) (by omega) with ⟨us, hP, he⟩ | ⟨q, us, hP, hq, hn, he⟩
    · rw [hT] at he; cases he; exact hP
    · rw [hT] at he; simp only [Prod.mk.injEq] at he; exact absurd he.2.1.symm (errC_ne t q).1
  have hP1 := hPF.seg (app_seg f t h0 hl hb) (Nat.le_refl _) (Nat.le_refl _)
  by_cases h4 : F.length + T.length ≤ 400
  · left
    refine ⟨h4, lexO_path hs ?_⟩
    have h5 := hPT.inn (app_inn f t) F h4
    rw [show shL f.size [] = [] from rfl, List.append_nil, Nat.add_zero, ← hsz] at h5
    exact hP1.trans h5
  · right
    exact ⟨by omega, inn_over (app_inn f t) hs hP1 hFl hPT (by omega)⟩
def frS : ByteArray := ⟨#[80, 65, 84, 84, 69, 82, 78, 32, 83, 69, 81, 40, 65, 32, 97, 41, 32, 87, 72, 69, 82, 69, 32]⟩
def bkS : ByteArray := ⟨#[10, 87, 73, 84, 72, 73, 78, 32, 53, 32, 82, 69, 84, 85, 82, 78, 32]⟩
def wiS : ByteArray := ⟨#[87, 73, 84, 72, 73, 78, 32, 53, 32, 82, 69, 84, 85, 82, 78, 32]⟩
def frT : List Tok := [⟨30, eS, 0, 0⟩, ⟨31, eS, 0, 8⟩, ⟨3, eS, 0, 11⟩, ⟨1, ⟨#[65]⟩, 0, 12⟩, ⟨1, ⟨#[97]⟩, 0, 14⟩, ⟨4, eS, 0, 15⟩, ⟨36, eS, 0, 17⟩]
def wiT : List Tok := [⟨37, eS, 0, 0⟩, ⟨2, eS, 5, 7⟩, ⟨40, eS, 0, 9⟩]
theorem fr_lex : lexO frS = (frT, 0, 0) := by kernel_rfl
theorem wi_lex : lexO wiS = (wiT, 0, 0) := by kernel_rfl
theorem bare_of {f : ByteArray} (h : ∀ i, i < f.size → bt f i ≠ 35) : ∀ i, i < f.size → bt f i ≠ 35 := h
theorem fr_bare : ∀ i, i < frS.size → bt frS i ≠ 35 := by decide +kernel
theorem wi_bare : ∀ i, i < wiS.size → bt wiS i ≠ 35 := by decide +kernel
def whS (t : ByteArray) : ByteArray := frS ++ t ++ bkS ++ t
theorem wh_is (t : ByteArray) : whS t = (frS ++ t) ++ nlS ++ (wiS ++ t) := by
  unfold whS
  rw [show bkS = nlS ++ wiS from rfl]
  simp only [ByteArray.append_assoc]
theorem shL_shL (a b : Nat) (l : List Tok) : shL a (shL b l) = shL (a + b) l := by
  unfold shL
  rw [List.map_map]
  apply List.map_congr_left
  intro t _
  simp only [Function.comp, shT, Tok.mk.injEq, true_and]
  omega
theorem shL_app (d : Nat) (a b : List Tok) : shL d (a ++ b) = shL d a ++ shL d b := by unfold shL; exact List.map_append
/-- The tokens of the whole. -/
theorem wh_lex (t : ByteArray) {T W : List Tok} (hT : lexO t = (T, 0, 0)) (hW : lexO (whS t) = (W, 0, 0)) : W = frT ++ (shL 23 T ++ (shL (24 + t.size) wiT ++ shL (40 + t.size) T)) := by
  have hs : (whS t).size ≤ 8192 := by
    rcases Nat.lt_or_ge 8192 (whS t).size with h | h
    · unfold lexO at hW; rw [if_pos h] at hW; simp at hW
    · exact h
  rw [wh_is] at hs hW
  have z1 := app_size frS t
  have z2 := app_size wiS t
  have z3 : ((frS ++ t) ++ nlS ++ (wiS ++ t)).size = (frS ++ t).size + 1 + (wiS ++ t).size := by rw [app_size, app_size, nl_size]
  have zf : frS.size = 23 := rfl
  have zw : wiS.size = 16 := rfl
  rw [z3] at hs
  have hA := behind frS t (by decide) rfl fr_bare fr_lex hT (by omega)
  have hB := behind wiS t (by decide) rfl wi_bare wi_lex hT (by omega)
  have hfl : frT.length = 7 := rfl
  have hwl : wiT.length = 3 := rfl
  rcases seam (frS ++ t) (wiS ++ t) hs with ⟨c, p, hc, h1, h2⟩ | ⟨l, hl, h⟩
  · rw [hW] at h2
    simp only [Prod.mk.injEq] at h2
    exact absurd h2.2.1.symm hc
  obtain ⟨h4, hA⟩ : frT.length + T.length ≤ 400 ∧ lexO (frS ++ t) = (frT ++ shL frS.size T, 0, 0) := by
    rcases hA with h9 | ⟨_, p, hA⟩
    · exact h9
    · rw [hA] at hl; simp at hl
  obtain ⟨_, hB⟩ : wiT.length + T.length ≤ 400 ∧ lexO (wiS ++ t) = (wiT ++ shL wiS.size T, 0, 0) := by
    rcases hB with h9 | ⟨h5, _⟩
    · exact h9
    · omega
  rw [hA] at hl
  simp only [Prod.mk.injEq, and_true] at hl
  subst hl
  rcases h with ⟨c, q, hc, h1, _⟩ | ⟨m, hm, h⟩
  · rw [hB] at h1
    simp only [Prod.mk.injEq] at h1
    exact absurd h1.2.1.symm hc
  rw [hB] at hm
  simp only [Prod.mk.injEq, and_true] at hm
  subst hm
  rcases h with ⟨_, h⟩ | ⟨_, p, h⟩
  · rw [hW] at h
    simp only [Prod.mk.injEq, and_true] at h
    rw [h, shL_app, shL_shL, z1, zf, zw, List.append_assoc, show 23 + t.size + 1 = 24 + t.size by omega, show 24 + t.size + 16 = 40 + t.size by omega]
  · rw [hW] at h; simp at h
def Rs.told : Rs → Prop
  | .ok _ => True
  | .bad c e => c = 40 ∨ (c = 41 ∧ e ≠ [])
theorem leafR_told (s : Ps) : (leafR s).told := by
  unfold leafR
  split
  · exact .inl rfl
  · trivial
theorem Rd.told {v : Lv} {s r : Rs} (h : Rd v s r) : s.told → r.told := by
  induction h with
  | err v c e => exact id
  | lft hl h k i1 i2 => exact fun q => i2 (i1 q)
  | stop hk => exact id
  | @more l t tl o ns sp m r hk h k i1 i2 => exact fun q => i2 (by have := i1 trivial; cases m with | ok s => trivial | bad c e => exact this)
  | cmp h k i1 i2 => exact fun q => i2 (i1 q)
  | cstop hk => exact id
  | @cmore t tl o ns sp m hk h i1 => exact fun q => (by have := i1 trivial; cases m with | ok s => trivial | bad c e => exact this)
  | @pre l t tl o ns sp m hl hk ho h i1 => exact fun q => (by have := i1 trivial; cases m with | ok s => trivial | bad c e => exact this)
  | deep hl hk => exact fun _ => .inr ⟨rfl, by simp⟩
  | thru hl hk h i1 => exact i1
  | @brk t tl o ns sp m hk ho h i1 => exact fun q => (by
      have := i1 trivial
      cases m with
      | bad c e => exact this
      | ok s => simp only [Rs.shut]; split; exact .inl rfl; trivial)
  | bdeep hk => exact fun _ => .inr ⟨rfl, by simp⟩
  | leaf hk => exact fun _ => leafR_told _
theorem exR_told (ts : List Tok) : (exR ts).told := (exR_rd ts).told trivial
theorem lexO_code (s : ByteArray) : (lexO s).2.1 ≠ 41 := by
  by_cases h : 8192 < s.size
  · unfold lexO; rw [if_pos h]; decide
  · rcases lexO_ways (s := s) (by omega) with ⟨us, hP, he⟩ | ⟨q, us, hP, hq, hn, he⟩
    · rw [he]; show (0 : Int) ≠ 41; decide
    · rw [he]
      show errC s q ≠ 41
      unfold errC
      split
      · decide
      · split
        · rcases thing_code s q with h9 | h9 | h9 <;> rw [h9] <;> decide
        · decide
theorem q1a_where (q : Qy) (s : Sps) (ts : List Tok) : q1a q s (⟨36, eS, 0, 17⟩ :: ts) = match whereP ts with | .error e => .error e | .ok (r, ts) => q2 { q with mode := 0, after := 0, wh := r.1 } { s with wh := r.2 } ts := rfl
/-- What Parse answers of the whole. -/
theorem pasted (t : ByteArray) (hW : (lexO (whS t)).2.1 = 0) :
    ((exO t).2.2.1 = 41 → (paO (whS t)).2.2.1 = 41 ∧ (paO (whS t)).2.2.2 = (exO t).2.2.2 + 23) ∧
    ((exO t).2.2.1 = 0 → paO (whS t) = (⟨[⟨false, [⟨#[65]⟩], ⟨#[97]⟩, 1, 1⟩], 0, 0, (exO t).1, 5, eS, [(exO t).1]⟩, ⟨[12], (exO t).2.1.map (· + 23), 31 + t.size, 0, [(exO t).2.1.map (· + (40 + t.size))]⟩, 0, 0)) := by
  obtain ⟨W, hw⟩ : ∃ W, lexO (whS t) = (W, 0, 0) := by
    rcases lexO_cases (whS t) with ⟨_, h⟩ | ⟨_, us, _, h⟩ | ⟨_, q, us, c, _, _, hc, h⟩
    · rw [h] at hW; exact absurd hW (by decide)
    · exact ⟨us, h⟩
    · rw [h] at hW; exact absurd hW hc.1
  by_cases hL : (lexO t).2.1 ≠ 0
  · have e : exO t = ([], [], (lexO t).2.1, ((lexO t).2.2 : Int)) := by unfold exO; rw [if_pos hL]
    rw [e]
    exact ⟨fun h => absurd h (lexO_code t), fun h => absurd h hL⟩
  replace hL : (lexO t).2.1 = 0 := Classical.not_not.1 hL
  obtain ⟨T, hT⟩ : ∃ T, lexO t = (T, 0, 0) := by
    rcases lexO_cases t with ⟨_, h⟩ | ⟨_, us, _, h⟩ | ⟨_, q, us, c, _, _, hc, h⟩
    · rw [h] at hL; exact absurd hL (by decide)
    · exact ⟨us, h⟩
    · rw [h] at hL; exact absurd hL hc.1
  have hWT := wh_lex t hT hw
  have hX : foreign (kd (shL (24 + t.size) wiT ++ shL (40 + t.size) T)) := .inr rfl
  have h1 := exR_past T 23 hX
  have h2 := exR_past T (40 + t.size) (X := []) (.inl rfl)
  rw [List.append_nil] at h2
  have hq : queryP ((whS t).size : Int) W = q1a { noQ with items := [⟨false, [⟨#[65]⟩], ⟨#[97]⟩, 1, 1⟩] } { noS with items := [12] } (⟨36, eS, 0, 17⟩ :: (shL 23 T ++ (shL (24 + t.size) wiT ++ shL (40 + t.size) T))) := by
    rw [hWT]; rfl
  have hp : paO (whS t) = match q1a { noQ with items := [⟨false, [⟨#[65]⟩], ⟨#[97]⟩, 1, 1⟩] } { noS with items := [12] } (⟨36, eS, 0, 17⟩ :: (shL 23 T ++ (shL (24 + t.size) wiT ++ shL (40 + t.size) T))) with
      | .ok (q, sp) => (q, sp, 0, 0)
      | .error (c, x) => (noQ, noS, c, plc (whS t).size x) := by
    unfold paO
    rw [hw, if_neg (by simp), hq]
    rfl
  have hx : exO t = match wholeP T with
      | .ok (ns, sp) => (ns, sp, 0, 0)
      | .error (c, x) => ([], [], c, plc t.size x) := by
    unfold exO
    rw [hT, if_neg (by simp)]
    rfl
  have hwp : wholeP T = match exR T with
      | .bad c e => .error (c, e)
      | .ok s => match s.ts with | [] => .ok (s.ns, s.sp) | t :: tl => .error (40, t :: tl) := by
    unfold wholeP treeP
    cases exR T with
    | bad c e => rfl
    | ok s => cases hs : s.ts <;> simp [hs, endP, bind, Except.bind, pure, Except.pure]
  have htold := exR_told T
  cases hr : exR T with
  | bad c e =>
    rw [hr] at h1 hwp htold
    simp only at hwp
    rw [hwp] at hx
    simp only at hx
    rw [hx]
    have hpc : paO (whS t) = (noQ, noS, c, plc (whS t).size (shL 23 e ++ (shL (24 + t.size) wiT ++ shL (40 + t.size) T))) := by
      have e1 : whereP (shL 23 T ++ (shL (24 + t.size) wiT ++ shL (40 + t.size) T)) = .error (c, shL 23 e ++ (shL (24 + t.size) wiT ++ shL (40 + t.size) T)) := by
        unfold whereP treeP; rw [h1]; rfl
      rw [hp, q1a_where, e1]
    rw [hpc]
    refine ⟨fun hc => ?_, fun hc => ?_⟩
    · rcases htold with h | ⟨_, h⟩
      · rw [h] at hc; simp at hc
      · refine ⟨hc, ?_⟩
        cases e with
        | nil => exact absurd rfl h
        | cons t0 r => rfl
    · rcases htold with h | ⟨h, _⟩ <;> (rw [h] at hc; simp at hc)
  | ok s =>
    rw [hr] at h1 h2 hwp
    simp only at hwp
    cases hts : s.ts with
    | cons t0 r =>
      rw [hts] at hwp
      simp only at hwp
      rw [hwp] at hx
      simp only at hx
      rw [hx]
      exact ⟨fun hc => (by simp at hc), fun hc => (by simp at hc)⟩
    | nil =>
      rw [hts] at hwp
      simp only at hwp
      rw [hwp] at hx
      simp only at hx
      rw [hx]
      refine ⟨fun hc => (by simp at hc), fun _ => ?_⟩
      rw [hp]
      simp only [Rs.past, Ps.past, hts] at h1 h2
      rw [show shL 23 [] = [] from rfl, List.nil_append] at h1
      rw [show shL (40 + t.size) [] = [] from rfl, List.nil_append] at h2
      have e1 : whereP (shL 23 T ++ (shL (24 + t.size) wiT ++ shL (40 + t.size) T)) = .ok ((s.ns, s.sp.map (· + ((23 : Nat) : Int))), shL (24 + t.size) wiT ++ shL (40 + t.size) T) := by
        unfold whereP treeP; rw [h1]
      have e2 : retP (shL (40 + t.size) T) = .ok (([s.ns], [s.sp.map (· + ((40 + t.size : Nat) : Int))]), []) := by
        unfold retP resL treeP; rw [h2]; rfl
      have e3 : shL (24 + t.size) wiT ++ shL (40 + t.size) T = ⟨37, eS, 0, 0 + ((24 + t.size : Nat) : Int)⟩ :: ⟨2, eS, 5, 7 + ((24 + t.size : Nat) : Int)⟩ :: ⟨40, eS, 0, 9 + ((24 + t.size : Nat) : Int)⟩ :: shL (40 + t.size) T := rfl
      have h31 : 7 + ((24 + t.size : Nat) : Int) = 31 + (t.size : Int) := by omega
      have e4 : ∀ (q : Qy) (sp : Sps), q2 q sp (shL (24 + t.size) wiT ++ shL (40 + t.size) T) = .ok ({ q with within := 5, by_ := eS, ret := [s.ns] }, { sp with within := 31 + t.size, by_ := 0, ret := [s.sp.map (· + ((40 + t.size : Nat) : Int))] }) := fun q sp => by
        rw [e3, ← h31]
        have e5 : ∀ (q : Qy) (sp : Sps), q4 q sp (⟨40, eS, 0, 9 + ((24 + t.size : Nat) : Int)⟩ :: shL (40 + t.size) T) = .ok ({ q with ret := [s.ns] }, { sp with ret := [s.sp.map (· + ((40 + t.size : Nat) : Int))] }) := fun q sp => by
          unfold q4
          rw [show optP 40 ([], []) retP (⟨40, eS, 0, 9 + ((24 + t.size : Nat) : Int)⟩ :: shL (40 + t.size) T) = retP (shL (40 + t.size) T) from rfl, e2]
          rfl
        show q3 { q with within := 5 } { sp with within := 7 + ((24 + t.size : Nat) : Int) } (⟨40, eS, 0, 9 + ((24 + t.size : Nat) : Int)⟩ :: shL (40 + t.size) T) = _
        show q4 { q with within := 5, by_ := eS } { sp with within := 7 + ((24 + t.size : Nat) : Int), by_ := 0 } (⟨40, eS, 0, 9 + ((24 + t.size : Nat) : Int)⟩ :: shL (40 + t.size) T) = _
        rw [e5]
      rw [q1a_where, e1]
      simp only [e4]
      rfl

end Go.Proofs.YtmoimmghmmomlaaDoor
