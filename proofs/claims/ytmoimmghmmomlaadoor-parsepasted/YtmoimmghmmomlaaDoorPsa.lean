/- A text that stands in another one: its tokens, and what the grammar's way over them comes to. -/
import Derived.Test.YtmoimmghmmomlaaDoorSe2
import Derived.Test.YtmoimmghmmomlaaDoorPq
namespace Go.Proofs.YtmoimmghmmomlaaDoor
open Go.RowKit
set_option linter.unusedVariables false
set_option linter.unusedSimpArgs false

/-- Two texts, the same up to a place, ahead of which a blank stands; no remark between. -/
structure Seg (x y : ByteArray) (a q : Nat) : Prop where
  xs : q ≤ x.size
  ys : q ≤ y.size
  pos : a < q
  same : ∀ i, i < q → bt y i = bt x i
  ext : ∀ i j, i ≤ j → j ≤ q → y.extract i j = x.extract i j
  last : bt x (q - 1) = 32
  bare : ∀ i, a ≤ i → i < q → bt x i ≠ 35
theorem run_same {f : Int → Bool} {x y : ByteArray} {q : Nat} (hx : q ≤ x.size) (hy : q ≤ y.size) (same : ∀ i, i < q → bt y i = bt x i) : ∀ n p, p + n = q → runE f x p < q → runE f y p = runE f x p := by
  intro n
  induction n with
  | zero => intro p hp h; have := (runE_le f x p (by omega)).1; omega
  | succ n ih =>
    intro p hp h
    have hb := same p (by omega)
    cases hq : f (bt x p)
    · rw [runE_stop (.inr hq), runE_stop (.inr (by rw [hb]; exact hq))]
    · rw [runE_on (by omega) hq] at h ⊢
      rw [runE_on (by omega) (by rw [hb]; exact hq)]
      exact ih (p + 1) (by omega) h
theorem run_ends {f : Int → Bool} {x : ByteArray} {p q : Nat} (hp : p < q) (hx : q ≤ x.size) (h : f (bt x (q - 1)) = false) : runE f x p < q := by
  rcases Nat.lt_or_ge (runE f x p) q with h1 | h1
  · exact h1
  · have := runE_in f x p (q - 1) (by omega) (by omega)
    rw [h] at this; cases this
theorem Seg.eSt {x y : ByteArray} {a q : Nat} (S : Seg x y a q) {p : Nat} (hp : p < q) : stI y p = stI x p := by
  unfold stI
  rw [S.same p hp, S.ext p (p + 1) (by omega) (by omega)]
theorem ent_st4 {x : ByteArray} {p : Nat} (h : bt x p ≠ 35) : stI x p ≠ 4 := by
  unfold stI entI
  split
  · decide
  · split
    · decide
    · split
      · decide
      · split <;> decide
theorem ent_bl {x : ByteArray} {p : Nat} (h : bt x p = 32) : stI x p = 0 := by
  unfold stI entI
  rw [h]
  rfl
theorem Seg.eNxt {x y : ByteArray} {a q : Nat} (S : Seg x y a q) {p : Nat} {ts : List Tok} (ha : a ≤ p) (hp : p < q) : nxt y p ts = nxt x p ts := by
  have hxs := S.xs
  have hys := S.ys
  have h4 := ent_st4 (S.bare p ha hp)
  unfold nxt
  rw [S.eSt hp]
  by_cases h0 : stI x p = 0
  · rw [if_pos h0, if_pos h0]
  rw [if_neg h0, if_neg h0, if_neg h4, if_neg h4]
  have hlt : p + 1 < q := by
    rcases Nat.lt_or_ge (p + 1) q with h | h
    · exact h
    · exact absurd (ent_bl (by rw [show p = q - 1 by omega]; exact S.last)) h0
  have e : thing y p = thing x p := by
    unfold thing
    rw [S.eSt hp]
    by_cases h1 : stI x p = 1
    · rw [if_pos h1, if_pos h1]
      have hl := run_ends (f := wdB) hp hxs (by rw [S.last]; rfl)
      have hge := (runE_le wdB x p (by omega)).1
      rw [run_same hxs hys S.same (q - p) p (by omega) hl]
      unfold wordT
      rw [S.ext p _ hge (by omega)]
    · rw [if_neg h1, if_neg h1]
      by_cases h2 : stI x p = 2
      · rw [if_pos h2, if_pos h2]
        have hl := run_ends (f := dgB) hp hxs (by rw [S.last]; rfl)
        have hge := (runE_le dgB x p (by omega)).1
        rw [run_same hxs hys S.same (q - p) p (by omega) hl]
        unfold numT
        rw [S.ext p _ hge (by omega), S.same _ hl]
        have c : (runE dgB x p < y.size ∧ ltB (bt x (runE dgB x p)) = true) ↔ (runE dgB x p < x.size ∧ ltB (bt x (runE dgB x p)) = true) :=
          ⟨fun h => ⟨by omega, h.2⟩, fun h => ⟨by omega, h.2⟩⟩
        by_cases h6 : runE dgB x p < x.size ∧ ltB (bt x (runE dgB x p)) = true
        · rw [if_pos h6, if_pos (c.2 h6)]
        · rw [if_neg h6, if_neg (fun h7 => h6 (c.1 h7))]
      · rw [if_neg h2, if_neg h2]
        have es : sgnE y p = sgnE x p := by
          unfold sgnE
          rw [S.same p hp, S.same (p + 1) hlt]
          have c : ((bt x p = 33 ∨ bt x p = 60 ∨ bt x p = 62) ∧ p + 1 < y.size ∧ bt x (p + 1) = 61) ↔ ((bt x p = 33 ∨ bt x p = 60 ∨ bt x p = 62) ∧ p + 1 < x.size ∧ bt x (p + 1) = 61) :=
            ⟨fun h => ⟨h.1, by omega, h.2.2⟩, fun h => ⟨h.1, by omega, h.2.2⟩⟩
          by_cases h6 : (bt x p = 33 ∨ bt x p = 60 ∨ bt x p = 62) ∧ p + 1 < x.size ∧ bt x (p + 1) = 61
          · rw [if_pos h6, if_pos (c.2 h6)]
          · rw [if_neg h6, if_neg (fun h7 => h6 (c.1 h7))]
        have hse : p < sgnE x p ∧ sgnE x p ≤ q := by
          unfold sgnE
          split
          · rename_i h7
            refine ⟨by omega, ?_⟩
            rcases Nat.lt_or_ge (p + 1 + 1) q with h | h
            · omega
            · have h8 : p + 1 = q - 1 := by omega
              rw [h8, S.last] at h7
              exact absurd h7.2.2 (by decide)
          · omega
        rw [es, S.ext p _ (by omega) hse.2]
  rw [e]
theorem Path.seg {x y : ByteArray} {a q : Nat} (S : Seg x y a q) {p q' : Nat} {ts us : List Tok} (h : Path x p ts q' us) (ha : a ≤ p) (hq : q' ≤ q) : Path y p ts q' us := by
  induction h with
  | here => exact .here _ _
  | step p p' q' ts ts' us hp hn h ih =>
    have h1 := nxt_le hp hn
    have h2 := h.le
    exact .step p p' q' ts ts' us (by have := S.ys; omega) (by rw [S.eNxt ha (by omega)]; exact hn) (ih (by omega) hq)

/-- What is read, with places that are greater, and something behind. -/
def Ps.past (d : Nat) (X : List Tok) (s : Ps) : Ps := ⟨shL d s.ts ++ X, s.o, s.ns, s.sp.map (· + (d : Int))⟩
def Rs.past (d : Nat) (X : List Tok) : Rs → Rs
  | .ok s => .ok (s.past d X)
  | .bad c e => .bad c (shL d e ++ X)
/-- What no part of an expression begins or goes on with. -/
def foreign (k : Int) : Prop := k = 0 ∨ k = 37
theorem want_past {k : Int} {d : Nat} {X ts : List Tok} (hX : foreign (kd X)) (hk : k ≠ 0 ∧ k ≠ 37) :
    want k (shL d ts ++ X) = match want k ts with | .error e => .error (shL d e ++ X) | .ok (t, tl) => .ok (shT d t, shL d tl ++ X) := by
  cases ts with
  | nil =>
    show want k X = .error X
    cases X with
    | nil => rfl
    | cons t tl =>
      have h1 : t.k ≠ k := by rcases hX with h | h <;> (simp only [kd] at h; omega)
      simp only [want, if_neg h1]
  | cons t tl =>
    show want k (shT d t :: (shL d tl ++ X)) = _
    by_cases h : t.k = k
    · have h' : (shT d t).k = k := h
      simp only [want, if_pos h, if_pos h']
    · have h' : ¬ (shT d t).k = k := h
      simp only [want, if_neg h, if_neg h']
      rfl
theorem attrP_past {op : Int} {d : Nat} {X ts : List Tok} (hX : foreign (kd X)) :
    attrP op (shL d ts ++ X) = match attrP op ts with | .error e => .error (shL d e ++ X) | .ok (n, tl) => .ok (n, shL d tl ++ X) := by
  unfold attrP
  rw [want_past hX ⟨by decide, by decide⟩]
  cases h1 : want 1 ts with
  | error e => rfl
  | ok p =>
    obtain ⟨t, tl⟩ := p
    simp only
    rw [want_past hX ⟨by decide, by decide⟩]
    cases h2 : want 8 tl with
    | error e => rfl
    | ok p =>
      obtain ⟨t2, tl2⟩ := p
      simp only
      rw [want_past hX ⟨by decide, by decide⟩]
      cases h3 : want 1 tl2 with
      | error e => rfl
      | ok p => obtain ⟨t3, tl3⟩ := p; rfl
theorem countP_past {d : Nat} {X ts : List Tok} (hX : foreign (kd X)) :
    countP (shL d ts ++ X) = match countP ts with | .error e => .error (shL d e ++ X) | .ok (n, tl) => .ok (n, shL d tl ++ X) := by
  unfold countP
  rw [want_past hX ⟨by decide, by decide⟩]
  cases h1 : want 3 ts with
  | error e => rfl
  | ok p =>
    obtain ⟨t, tl⟩ := p
    simp only
    rw [want_past hX ⟨by decide, by decide⟩]
    cases h2 : want 1 tl with
    | error e => rfl
    | ok p =>
      obtain ⟨t2, tl2⟩ := p
      simp only
      rw [want_past hX ⟨by decide, by decide⟩]
      cases h3 : want 4 tl2 with
      | error e => rfl
      | ok p => obtain ⟨t3, tl3⟩ := p; rfl
theorem aggP_past {op : Int} {d : Nat} {X ts : List Tok} (hX : foreign (kd X)) :
    aggP op (shL d ts ++ X) = match aggP op ts with | .error e => .error (shL d e ++ X) | .ok (n, tl) => .ok (n, shL d tl ++ X) := by
  unfold aggP
  rw [want_past hX ⟨by decide, by decide⟩]
  cases h1 : want 3 ts with
  | error e => rfl
  | ok p =>
    obtain ⟨t, tl⟩ := p
    simp only
    rw [attrP_past hX]
    cases h2 : attrP op tl with
    | error e => rfl
    | ok p =>
      obtain ⟨t2, tl2⟩ := p
      simp only
      rw [want_past hX ⟨by decide, by decide⟩]
      cases h3 : want 4 tl2 with
      | error e => rfl
      | ok p => obtain ⟨t3, tl3⟩ := p; rfl
theorem leafP_past {d : Nat} {X ts : List Tok} (hX : foreign (kd X)) :
    leafP (shL d ts ++ X) = match leafP ts with | .error e => .error (shL d e ++ X) | .ok (n, tl) => .ok (n, shL d tl ++ X) := by
  cases ts with
  | nil =>
    show leafP X = .error X
    cases X with
    | nil => rfl
    | cons t tl =>
      have h1 : t.k = 0 ∨ t.k = 37 := hX
      simp only [leafP]
      rw [if_neg (by omega), if_neg (by omega), if_neg (by omega), if_neg (by omega), if_neg (by omega), if_neg (by omega)]
  | cons t tl =>
    show leafP (shT d t :: (shL d tl ++ X)) = _
    have e : (shT d t).k = t.k := rfl
    simp only [leafP, e]
    split
    · rfl
    split
    · rfl
    split
    · rfl
    split
    · exact attrP_past (ts := t :: tl) hX
    split
    · exact countP_past hX
    split
    · exact aggP_past hX
    · rfl
theorem leafR_past {d : Nat} {X : List Tok} (hX : foreign (kd X)) (s : Ps) : leafR (s.past d X) = (leafR s).past d X := by
  unfold leafR
  show (match leafP (shL d s.ts ++ X) with | .error e => Rs.bad 40 e | .ok (n, ts) => Rs.ok ((s.past d X).add ts n (plc 0 (shL d s.ts ++ X)))) = _
  rw [leafP_past hX]
  cases h : leafP s.ts with
  | error e => rfl
  | ok p =>
    obtain ⟨n, tl⟩ := p
    simp only [Rs.past, Ps.add, Ps.past]
    cases hs : s.ts with
    | nil => rw [hs] at h; simp [leafP] at h
    | cons t r => simp [plc, shL, shT]
theorem kd_past {d : Nat} {X : List Tok} (ts : List Tok) : kd (shL d ts ++ X) = if ts = [] then kd X else kd ts := by
  cases ts with
  | nil => rfl
  | cons t r => rfl
theorem ops_foreign {k : Int} (h : foreign k) (l : Nat) : opsAt l k = false := by
  rcases h with rfl | rfl <;> (unfold opsAt; split <;> first | rfl | decide)
theorem bin_past (m : Rs) (t : Tok) (a d : Nat) (X : List Tok) : (m.past d X).bin (shT d t) a = (m.bin t a).past d X := by
  cases m with
  | bad c e => rfl
  | ok s => simp [Rs.past, Rs.bin, Ps.past, Ps.add, shT]
theorem un_past (m : Rs) (op : Int) (t : Tok) (d : Nat) (X : List Tok) : (m.past d X).un op (shT d t) = (m.un op t).past d X := by
  cases m with
  | bad c e => rfl
  | ok s => simp [Rs.past, Rs.un, Ps.past, Ps.add, shT]
theorem shut_past {m : Rs} {d : Nat} {X : List Tok} (hX : foreign (kd X)) : (m.past d X).shut = m.shut.past d X := by
  cases m with
  | bad c e => rfl
  | ok s =>
    show (match want 4 (shL d s.ts ++ X) with | .error e => Rs.bad 40 e | .ok (_, ts) => Rs.ok { (s.past d X) with ts := ts, o := s.o - 1 }) = _
    rw [want_past hX ⟨by decide, by decide⟩]
    simp only [Rs.shut]
    cases h : want 4 s.ts with
    | error e => rfl
    | ok p => obtain ⟨t, tl⟩ := p; rfl
theorem Rd.past {v : Lv} {s r : Rs} (h : Rd v s r) (d : Nat) {X : List Tok} (hX : foreign (kd X)) : Rd v (s.past d X) (r.past d X) := by
  have hops : ∀ (l : Nat) (ts : List Tok), opsAt l (kd ts) = false → opsAt l (kd (shL d ts ++ X)) = false := fun l ts hk => by
    rw [kd_past]
    split
    · exact ops_foreign hX l
    · exact hk
  induction h with
  | err v c e => exact .err _ _ _
  | lft hl h k i1 i2 => exact .lft hl i1 i2
  | stop hk => exact .stop (hops _ _ hk)
  | more hk h k i1 i2 => rw [← bin_past] at i2; exact .more (t := shT d _) hk i1 i2
  | cmp h k i1 i2 => exact .cmp i1 i2
  | cstop hk => exact .cstop (hops _ _ hk)
  | cmore hk h i1 => rw [← bin_past]; exact .cmore (t := shT d _) hk i1
  | pre hl hk ho h i1 => rw [← un_past]; exact .pre (t := shT d _) hl hk ho i1
  | deep hl hk => exact .deep (t := shT d _) hl hk
  | @thru l s r hl hk h i1 =>
    refine .thru hl ?_ i1
    show kd (shL d s.ts ++ X) ≠ _
    rw [kd_past]
    split
    · rcases hX with h | h <;> (rw [h]; unfold preK; split <;> decide)
    · exact hk
  | brk hk ho h i1 => rw [← shut_past hX]; exact .brk (t := shT d _) hk ho i1
  | bdeep hk => exact .bdeep (t := shT d _) hk
  | @leaf s hk =>
    rw [← leafR_past hX]
    refine .leaf ?_
    show kd (shL d s.ts ++ X) ≠ _
    rw [kd_past]
    split
    · rcases hX with h | h <;> (rw [h]; decide)
    · exact hk
theorem exR_past (ts : List Tok) (d : Nat) {X : List Tok} (hX : foreign (kd X)) : exR (shL d ts ++ X) = (exR ts).past d X :=
  Rd.det (exR_rd (shL d ts ++ X)) ((exR_rd ts).past d hX)

end Go.Proofs.YtmoimmghmmomlaaDoor
