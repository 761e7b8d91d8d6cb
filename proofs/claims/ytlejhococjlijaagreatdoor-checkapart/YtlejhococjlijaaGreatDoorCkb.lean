/- What show.Shaped comes to: the query's items, mode, trees, names. -/
import Derived.Test.YtlejhococjlijaaGreatDoorCkp
namespace Go.Proofs.YtlejhococjlijaaGreatDoor
open Go.RowKit Go.BigFrame
set_option linter.unusedVariables false
set_option linter.unusedSimpArgs false

theorem all_drop {α : Type} (f : α → Bool) (l : List α) (z : α) {k : Nat} (h : k < l.length) : (l.drop k).all f = (f (l.getD k z) && (l.drop (k + 1)).all f) := by
  rw [List.drop_eq_getElem_cons h, List.all_cons, List.getD_eq_getElem?_getD, List.getElem?_eq_getElem h, Option.getD_some]
theorem all_end {α : Type} (f : α → Bool) (l : List α) {k : Nat} (h : ¬ k < l.length) : (l.drop k).all f = true := by
  rw [List.drop_eq_nil_of_le (by omega)]; rfl

set_option maxRecDepth 100000 in
set_option maxHeartbeats 4000000 in
theorem everyS_any (ss : List ByteArray) (hl : ss.length * 16 ≤ 140737488351232) (ao : Option Addr) (cap : Nat) (w : World) (K : KwAt w) (A : IsSs w ao ss) :
    Calls Tryz.prog 68 #[.slice ao ss.length cap, .func (.func 48) #[] #[]] w fun e w' => e = .returned (.bool (ss.all nameB)) ∧ Below w.heap.size w w' := by
  obtain ⟨r, hr⟩ : ∃ r, ss.all nameB = r := ⟨_, rfl⟩
  rw [hr]
  have HR := show Hid (_ = _) from hr
  clear hr
  go_enter Tryz.func68, Tryz.ntmps68
  go_wp2
  go_loopw [6, 9] (fun _ x wr => (∃ k : Nat, k ≤ ss.length ∧ x = .int .i64 k ∧ (ss.drop k).all nameB = r) ∧ Below w.heap.size w wr) (fun _ x _ => ss.length - (intOf x).toNat)
  case atStart => exact ⟨⟨0, Nat.zero_le _, rfl, HR.out⟩, Below.refl _ _⟩
  case round =>
    clear HR
    obtain ⟨⟨k, hk, rfl, hd⟩, G⟩ := hrel
    by_cases hlt : k < ss.length
    · have hki : (k : Int) < (ss.length : Int) := by omega
      rw [all_drop nameB ss eS hlt] at hd
      obtain ⟨g, o, rfl, a0⟩ := (A.keep G) k hlt
      have cN := isName_any (ss.getD k eS) wr (K.keep G)
      generalize ss.getD k eS = y at *
      generalize nameB y = b at *
      have HD := show Hid (_ = _) from hd
      clear hd
      cases b
      · have h2 : false = r := HD.out
        subst h2
        clear HD
        go_wp2_with (go_at_call 48; (with_reducible refine cN.mono ?_); rintro _ u ⟨rfl, gu⟩)
        go_ret
        exact ⟨rfl, gtrans G gu⟩
      · have HD2 : Hid ((ss.drop (k + 1)).all nameB = r) := HD.out
        clear HD
        go_wp2_with (go_at_call 48; (with_reducible refine cN.mono ?_); rintro _ u ⟨rfl, gu⟩)
        go_roundw
        case rel => exact ⟨⟨k + 1, by omega, by go_num, HD2.out⟩, gtrans G gu⟩
        case measure => simp [intOf]; omega
    · have hki : ¬ (k : Int) < (ss.length : Int) := by omega
      rw [all_end nameB ss hlt] at hd
      subst hd
      go_wp2
      go_ret
      exact ⟨rfl, G⟩

set_option maxRecDepth 100000 in
set_option maxHeartbeats 4000000 in
theorem everyT_any (ts : List (List Nd)) (hl : ts.length * 24 ≤ 140737488351232) (hf : ∀ k, ndsFit (ts.getD k [])) (ao : Option Addr) (cap : Nat) (w : World) (K : KwAt w) (A : IsNss w ao ts) :
    Calls Tryz.prog 49 #[.slice ao ts.length cap, .func (.func 35) #[] #[]] w fun e w' => e = .returned (.bool (ts.all treeB)) ∧ Below w.heap.size w w' := by
  obtain ⟨r, hr⟩ : ∃ r, ts.all treeB = r := ⟨_, rfl⟩
  rw [hr]
  have HR := show Hid (_ = _) from hr
  clear hr
  go_enter Tryz.func49, Tryz.ntmps49
  go_wp2
  go_loopw [6, 9] (fun _ x wr => (∃ k : Nat, k ≤ ts.length ∧ x = .int .i64 k ∧ (ts.drop k).all treeB = r) ∧ Below w.heap.size w wr) (fun _ x _ => ts.length - (intOf x).toNat)
  case atStart => exact ⟨⟨0, Nat.zero_le _, rfl, HR.out⟩, Below.refl _ _⟩
  case round =>
    clear HR
    obtain ⟨⟨k, hk, rfl, hd⟩, G⟩ := hrel
    by_cases hlt : k < ts.length
    · have hki : (k : Int) < (ts.length : Int) := by omega
      rw [all_drop treeB ts [] hlt] at hd
      obtain ⟨g, o, ta, tc, rfl, a0, at', as'⟩ := (A.keep G) k hlt
      have cN := shTree_any (ts.getD k []) ta tc wr (K.keep G) at' (hf k).1 (hf k).2
      generalize ts.getD k [] = y at *
      generalize treeB y = b at *
      have HD := show Hid (_ = _) from hd
      clear hd
      cases b
      · have h2 : false = r := HD.out
        subst h2
        clear HD
        go_wp2_with (go_at_call 35; (with_reducible refine cN.mono ?_); rintro _ u ⟨rfl, gu⟩)
        go_ret
        exact ⟨rfl, gtrans G gu⟩
      · have HD2 : Hid ((ts.drop (k + 1)).all treeB = r) := HD.out
        clear HD
        go_wp2_with (go_at_call 35; (with_reducible refine cN.mono ?_); rintro _ u ⟨rfl, gu⟩)
        go_roundw
        case rel => exact ⟨⟨k + 1, by omega, by go_num, HD2.out⟩, gtrans G gu⟩
        case measure => simp [intOf]; omega
    · have hki : ¬ (k : Int) < (ts.length : Int) := by omega
      rw [all_end treeB ts hlt] at hd
      subst hd
      go_wp2
      go_ret
      exact ⟨rfl, G⟩

set_option maxHeartbeats 2000000 in
theorem isMode_any (m : Int) (w : World) : Calls Tryz.prog 46 #[.int .i64 m] w fun e w' => e = .returned (.bool (decide (0 ≤ m ∧ m ≤ 2))) ∧ w = w' := by
  by_cases h0 : 0 ≤ m
  · by_cases h1 : m ≤ 2
    · rw [decide_eq_true (show 0 ≤ m ∧ m ≤ 2 from ⟨h0, h1⟩)]
      go_enter Tryz.func46, Tryz.ntmps46
      go_wp2
      go_ret
      exact ⟨rfl, rfl⟩
    · rw [decide_eq_false (show ¬ (0 ≤ m ∧ m ≤ 2) from fun h => h1 h.2)]
      have d1 : decide (m ≤ 2) = false := decide_eq_false h1
      go_enter Tryz.func46, Tryz.ntmps46
      go_wp2
      go_ret
      exact ⟨rfl, rfl⟩
  · rw [decide_eq_false (show ¬ (0 ≤ m ∧ m ≤ 2) from fun h => h0 h.1)]
    have d1 : decide (0 ≤ m) = false := decide_eq_false h0
    go_enter Tryz.func46, Tryz.ntmps46
    go_wp2
    go_ret
    exact ⟨rfl, rfl⟩
set_option maxHeartbeats 2000000 in
theorem isAfter_any (m : Int) (w : World) : Calls Tryz.prog 47 #[.int .i64 m] w fun e w' => e = .returned (.bool (decide (0 ≤ m ∧ m ≤ 3))) ∧ w = w' := by
  by_cases h0 : 0 ≤ m
  · by_cases h1 : m ≤ 3
    · rw [decide_eq_true (show 0 ≤ m ∧ m ≤ 3 from ⟨h0, h1⟩)]
      go_enter Tryz.func47, Tryz.ntmps47
      go_wp2
      go_ret
      exact ⟨rfl, rfl⟩
    · rw [decide_eq_false (show ¬ (0 ≤ m ∧ m ≤ 3) from fun h => h1 h.2)]
      have d1 : decide (m ≤ 3) = false := decide_eq_false h1
      go_enter Tryz.func47, Tryz.ntmps47
      go_wp2
      go_ret
      exact ⟨rfl, rfl⟩
  · rw [decide_eq_false (show ¬ (0 ≤ m ∧ m ≤ 3) from fun h => h0 h.1)]
    have d1 : decide (0 ≤ m) = false := decide_eq_false h0
    go_enter Tryz.func47, Tryz.ntmps47
    go_wp2
    go_ret
    exact ⟨rfl, rfl⟩
abbrev itA (i : It) (a : Option Addr) (c : Nat) : Value := .agg #[.bool i.neg, .slice a i.ty.length c, .string i.v, .int .i64 i.lo, .int .i64 i.hi]
set_option maxHeartbeats 4000000 in
theorem areBounds_any (i : It) (a : Option Addr) (c : Nat) (w : World) :
    Calls Tryz.prog 69 #[itA i a c] w fun e w' => e = .returned (.bool (bndB i)) ∧ Below w.heap.size w w' := by
  obtain ⟨neg, ty, v, lo, hi⟩ := i
  unfold bndB
  dsimp only
  cases neg
  · rw [if_neg (by simp)]
    by_cases h0 : 0 ≤ lo
    · rw [decide_eq_true h0]
      by_cases h1 : 0 ≤ hi
      · rw [decide_eq_true h1]
        go_enter Tryz.func69, Tryz.ntmps69
        go_wp2
        go_ret
        exact ⟨rfl, galloc (Below.refl _ _) _⟩
      · have d1 : decide (0 ≤ hi) = false := decide_eq_false h1
        rw [d1]
        go_enter Tryz.func69, Tryz.ntmps69
        go_wp2
        go_ret
        exact ⟨rfl, galloc (Below.refl _ _) _⟩
    · have d1 : decide (0 ≤ lo) = false := decide_eq_false h0
      rw [d1]
      go_enter Tryz.func69, Tryz.ntmps69
      go_wp2
      go_ret
      exact ⟨rfl, galloc (Below.refl _ _) _⟩
  · rw [if_pos rfl]
    by_cases h0 : lo = 1
    · subst h0
      by_cases h1 : hi = 1
      · subst h1
        go_enter Tryz.func69, Tryz.ntmps69
        go_wp2
        go_ret
        exact ⟨rfl, galloc (Below.refl _ _) _⟩
      · have d1 : (hi == 1) = false := beq_eq_false_iff_ne.2 h1
        rw [decide_eq_false h1]
        go_enter Tryz.func69, Tryz.ntmps69
        go_wp2
        go_ret
        exact ⟨rfl, galloc (Below.refl _ _) _⟩
    · have d1 : (lo == 1) = false := beq_eq_false_iff_ne.2 h0
      rw [decide_eq_false h0]
      go_enter Tryz.func69, Tryz.ntmps69
      go_wp2
      go_ret
      exact ⟨rfl, galloc (Below.refl _ _) _⟩
set_option maxHeartbeats 4000000 in
theorem isItem_any (i : It) (hi : i.fit) (a : Option Addr) (c : Nat) (w : World) (K : KwAt w) (A : IsSs w a i.ty) :
    Calls Tryz.prog 45 #[itA i a c] w fun e w' => e = .returned (.bool (itB i)) ∧ Below w.heap.size w w' := by
  have I0 := Bk.new w #[.bool i.neg, .slice a i.ty.length c, .string i.v, .int .i64 i.lo, .int .i64 i.hi] 61
  have B0 := galloc (Below.refl w.heap.size w) (.cells #[.bool i.neg, .slice a i.ty.length c, .string i.v, .int .i64 i.lo, .int .i64 i.hi] 61)
  have hn := hi.n
  have cE := fun Y (G : Below w.heap.size w Y) => everyS_any i.ty hn a c Y (K.keep G) (A.keep G)
  have cN := fun Y (G : Below w.heap.size w Y) => isName_any i.v Y (K.keep G)
  have cB := fun Y => areBounds_any i a c Y
  unfold itB
  generalize i.ty.all nameB = b1 at *
  generalize nameB i.v = b2 at *
  generalize bndB i = b3 at *
  clear hi
  obtain ⟨neg, ty, v, lo, hi⟩ := i
  dsimp only [itA] at *
  generalize ty.length = n at *
  by_cases h0 : 0 < n
  · have h1 : (0 : Int) < (n : Int) := by omega
    rw [decide_eq_true h0]
    clear h0 A
    cases b1
    · go_enter Tryz.func45, Tryz.ntmps45
      go_wp2_with (first
      | (go_at_call 68; (with_reducible refine (cE _ B0).mono ?_); rintro _ u1 ⟨rfl, g1⟩; have B1 := gtrans B0 g1; obtain ⟨x0, x1, x2, x3, x4⟩ := (I0.keep g1).at5)
      | (go_at_call 48; (with_reducible refine (cN _ B1).mono ?_); rintro _ u2 ⟨rfl, g2⟩; have B2 := gtrans B1 g2; obtain ⟨y0, y1, y2, y3, y4⟩ := (I0.keep (gtrans g1 g2)).at5)
      | (go_at_call 69; (with_reducible refine (cB _).mono ?_); rintro _ u3 ⟨rfl, g3⟩; have B3 := gtrans B2 g3))
      go_ret
      exact ⟨rfl, B1⟩
    cases b2
    · go_enter Tryz.func45, Tryz.ntmps45
      go_wp2_with (first
      | (go_at_call 68; (with_reducible refine (cE _ B0).mono ?_); rintro _ u1 ⟨rfl, g1⟩; have B1 := gtrans B0 g1; obtain ⟨x0, x1, x2, x3, x4⟩ := (I0.keep g1).at5)
      | (go_at_call 48; (with_reducible refine (cN _ B1).mono ?_); rintro _ u2 ⟨rfl, g2⟩; have B2 := gtrans B1 g2; obtain ⟨y0, y1, y2, y3, y4⟩ := (I0.keep (gtrans g1 g2)).at5)
      | (go_at_call 69; (with_reducible refine (cB _).mono ?_); rintro _ u3 ⟨rfl, g3⟩; have B3 := gtrans B2 g3))
      go_ret
      exact ⟨rfl, B2⟩
    · go_enter Tryz.func45, Tryz.ntmps45
      go_wp2_with (first
      | (go_at_call 68; (with_reducible refine (cE _ B0).mono ?_); rintro _ u1 ⟨rfl, g1⟩; have B1 := gtrans B0 g1; obtain ⟨x0, x1, x2, x3, x4⟩ := (I0.keep g1).at5)
      | (go_at_call 48; (with_reducible refine (cN _ B1).mono ?_); rintro _ u2 ⟨rfl, g2⟩; have B2 := gtrans B1 g2; obtain ⟨y0, y1, y2, y3, y4⟩ := (I0.keep (gtrans g1 g2)).at5)
      | (go_at_call 69; (with_reducible refine (cB _).mono ?_); rintro _ u3 ⟨rfl, g3⟩; have B3 := gtrans B2 g3))
      go_ret
      exact ⟨by simp, B3⟩
  · have h1 : ¬ (0 : Int) < (n : Int) := by omega
    rw [decide_eq_false h0]
    clear h0 A
    go_enter Tryz.func45, Tryz.ntmps45
    go_wp2
    go_ret
    exact ⟨rfl, B0⟩

set_option maxRecDepth 100000 in
set_option maxHeartbeats 4000000 in
theorem everyI_any (ts : List It) (hl : ts.length * 64 ≤ 140737488351232) (hf : ∀ k, (ts.getD k noIt).fit) (ao : Option Addr) (cap : Nat) (w : World) (K : KwAt w) (A : IsIts w ao ts) :
    Calls Tryz.prog 44 #[.slice ao ts.length cap, .func (.func 45) #[] #[]] w fun e w' => e = .returned (.bool (ts.all itB)) ∧ Below w.heap.size w w' := by
  obtain ⟨r, hr⟩ : ∃ r, ts.all itB = r := ⟨_, rfl⟩
  rw [hr]
  have HR := show Hid (_ = _) from hr
  clear hr
  go_enter Tryz.func44, Tryz.ntmps44
  go_wp2
  go_loopw [6, 9] (fun _ x wr => (∃ k : Nat, k ≤ ts.length ∧ x = .int .i64 k ∧ (ts.drop k).all itB = r) ∧ Below w.heap.size w wr) (fun _ x _ => ts.length - (intOf x).toNat)
  case atStart => exact ⟨⟨0, Nat.zero_le _, rfl, HR.out⟩, Below.refl _ _⟩
  case round =>
    clear HR
    obtain ⟨⟨k, hk, rfl, hd⟩, G⟩ := hrel
    by_cases hlt : k < ts.length
    · have hki : (k : Int) < (ts.length : Int) := by omega
      rw [all_drop itB ts noIt hlt] at hd
      obtain ⟨g, o, rfl, a, c, x0, x1, x2, x3, x4, as', _⟩ := (A.keep G) k hlt
      have cN := isItem_any (ts.getD k noIt) (hf k) a c (wr.alloc (.cells #[.bool (ts.getD k noIt).neg, .slice a (ts.getD k noIt).ty.length c, .string (ts.getD k noIt).v, .int .i64 (ts.getD k noIt).lo, .int .i64 (ts.getD k noIt).hi] 61)) ((K.keep G).keep (galloc (Below.refl _ _) _)) (as'.keep (galloc (Below.refl _ _) _))
      generalize ts.getD k noIt = y at *
      generalize itB y = b at *
      have HD := show Hid (_ = _) from hd
      clear hd
      cases b
      · have h2 : false = r := HD.out
        subst h2
        clear HD
        go_wp2_with (go_at_call 45; (with_reducible refine cN.mono ?_); rintro _ u ⟨rfl, gu⟩)
        go_ret
        exact ⟨rfl, gtrans (galloc G _) gu⟩
      · have HD2 : Hid ((ts.drop (k + 1)).all itB = r) := HD.out
        clear HD
        go_wp2_with (go_at_call 45; (with_reducible refine cN.mono ?_); rintro _ u ⟨rfl, gu⟩)
        go_roundw
        case rel => exact ⟨⟨k + 1, by omega, by go_num, HD2.out⟩, gtrans (galloc G _) gu⟩
        case measure => simp [intOf]; omega
    · have hki : ¬ (k : Int) < (ts.length : Int) := by omega
      rw [all_end itB ts hlt] at hd
      subst hd
      go_wp2
      go_ret
      exact ⟨rfl, G⟩

set_option maxRecDepth 100000 in
set_option maxHeartbeats 16000000 in
theorem shaped_any (q : Qy) (hq : q.fit) (cs : Array Value) (ai : Option Addr) (ci : Nat) (aw : Option Addr) (cw : Nat) (ar : Option Addr) (cr : Nat) (w : World) (K : KwAt w) (A : IsQ w q cs ai ci aw cw ar cr) :
    Calls Tryz.prog 26 #[.agg cs] w fun e w' => e = .returned (.bool (shapB q)) ∧ Below w.heap.size w w' := by
  obtain ⟨he, Ai, Aw, Ar, si, sw, sr⟩ := A
  subst he
  have Q0 := Bk.new w #[.slice ai q.items.length ci, .int .i64 q.mode, .int .i64 q.after, .slice aw q.wh.length cw, .int .i64 q.within, .string q.by_, .slice ar q.ret.length cr] 40
  have B0 := galloc (Below.refl w.heap.size w) (.cells #[.slice ai q.items.length ci, .int .i64 q.mode, .int .i64 q.after, .slice aw q.wh.length cw, .int .i64 q.within, .string q.by_, .slice ar q.ret.length cr] 40)
  have hn := hq.n
  have hwl := hq.wh.1
  have hrl := hq.r
  have cI := fun Y (G : Below w.heap.size w Y) => everyI_any q.items hn hq.its ai ci Y (K.keep G) (Ai.keep G)
  have cT := fun Y (G : Below w.heap.size w Y) => shTree_any q.wh aw cw Y (K.keep G) (Aw.keep G) hwl hq.wh.2
  have cN := fun Y (G : Below w.heap.size w Y) => isName_any q.by_ Y (K.keep G)
  have cR := fun Y (G : Below w.heap.size w Y) => everyT_any q.ret hrl hq.ret ar cr Y (K.keep G) (Ar.keep G)
  unfold shapB
  generalize q.items.all itB = b1 at *
  generalize treeB q.wh = b4 at *
  generalize nameB q.by_ = b6 at *
  generalize q.ret.all treeB = b7 at *
  obtain ⟨items, mode, after, wh, within, by_, ret⟩ := q
  dsimp only at *
  generalize items.length = n at *
  generalize wh.length = m at *
  generalize ret.length = rn at *
  clear Ai Aw Ar si sw sr hq
  by_cases h0 : 0 < n
  rotate_left
  · have h1 : ¬ (0 : Int) < (n : Int) := by omega
    rw [decide_eq_false h0]
    clear h0
    go_enter Tryz.func26, Tryz.ntmps26
    go_wp2_with (first
      | (go_at_call 44; (with_reducible refine (cI _ B0).mono ?_); rintro _ u1 ⟨rfl, g1⟩; have B1 := gtrans B0 g1; obtain ⟨x0, x1, x2, x3, x4, x5, x6⟩ := (Q0.keep g1).at7)
      | (go_at_call 46; (with_reducible refine (isMode_any _ _).mono ?_); rintro _ _ ⟨rfl, rfl⟩; rw [hmo])
      | (go_at_call 47; (with_reducible refine (isAfter_any _ _).mono ?_); rintro _ _ ⟨rfl, rfl⟩; rw [haf])
      | (go_at_call 35; (with_reducible refine (cT _ B1).mono ?_); rintro _ u2 ⟨rfl, g2⟩; have B2 := gtrans B1 g2; obtain ⟨y0, y1, y2, y3, y4, y5, y6⟩ := (Q0.keep (gtrans g1 g2)).at7)
      | (go_at_call 48; (with_reducible refine (cN _ B2).mono ?_); rintro _ u3 ⟨rfl, g3⟩; have B3 := gtrans B2 g3; obtain ⟨z0, z1, z2, z3, z4, z5, z6⟩ := (Q0.keep (gtrans (gtrans g1 g2) g3)).at7)
      | (go_at_call 48; (with_reducible refine (cN _ B1).mono ?_); rintro _ u3 ⟨rfl, g3⟩; have B3 := gtrans B1 g3; obtain ⟨z0, z1, z2, z3, z4, z5, z6⟩ := (Q0.keep (gtrans g1 g3)).at7)
      | (go_at_call 49; (with_reducible refine (cR _ B3).mono ?_); rintro _ u4 ⟨rfl, g4⟩; have B4 := gtrans B3 g4)
      | (go_at_call 49; (with_reducible refine (cR _ B2).mono ?_); rintro _ u4 ⟨rfl, g4⟩; have B4 := gtrans B2 g4)
      | (go_at_call 49; (with_reducible refine (cR _ B1).mono ?_); rintro _ u4 ⟨rfl, g4⟩; have B4 := gtrans B1 g4))
    go_ret
    exact ⟨by first | (simp; done) | (simp [h5]; done) | (simp [hm0]; done) | (simp [hm0, h5]; done), B0⟩
  have h1 : (0 : Int) < (n : Int) := by omega
  rw [decide_eq_true h0]
  clear h0
  obtain ⟨b2, hmo⟩ : ∃ b, decide (0 ≤ mode ∧ mode ≤ 2) = b := ⟨_, rfl⟩
  obtain ⟨b3, haf⟩ : ∃ b, decide (0 ≤ after ∧ after ≤ 3) = b := ⟨_, rfl⟩
  rw [hmo, haf]
  cases b1
  ·
    go_enter Tryz.func26, Tryz.ntmps26
    go_wp2_with (first
      | (go_at_call 44; (with_reducible refine (cI _ B0).mono ?_); rintro _ u1 ⟨rfl, g1⟩; have B1 := gtrans B0 g1; obtain ⟨x0, x1, x2, x3, x4, x5, x6⟩ := (Q0.keep g1).at7)
      | (go_at_call 46; (with_reducible refine (isMode_any _ _).mono ?_); rintro _ _ ⟨rfl, rfl⟩; rw [hmo])
      | (go_at_call 47; (with_reducible refine (isAfter_any _ _).mono ?_); rintro _ _ ⟨rfl, rfl⟩; rw [haf])
      | (go_at_call 35; (with_reducible refine (cT _ B1).mono ?_); rintro _ u2 ⟨rfl, g2⟩; have B2 := gtrans B1 g2; obtain ⟨y0, y1, y2, y3, y4, y5, y6⟩ := (Q0.keep (gtrans g1 g2)).at7)
      | (go_at_call 48; (with_reducible refine (cN _ B2).mono ?_); rintro _ u3 ⟨rfl, g3⟩; have B3 := gtrans B2 g3; obtain ⟨z0, z1, z2, z3, z4, z5, z6⟩ := (Q0.keep (gtrans (gtrans g1 g2) g3)).at7)
      | (go_at_call 48; (with_reducible refine (cN _ B1).mono ?_); rintro _ u3 ⟨rfl, g3⟩; have B3 := gtrans B1 g3; obtain ⟨z0, z1, z2, z3, z4, z5, z6⟩ := (Q0.keep (gtrans g1 g3)).at7)
      | (go_at_call 49; (with_reducible refine (cR _ B3).mono ?_); rintro _ u4 ⟨rfl, g4⟩; have B4 := gtrans B3 g4)
      | (go_at_call 49; (with_reducible refine (cR _ B2).mono ?_); rintro _ u4 ⟨rfl, g4⟩; have B4 := gtrans B2 g4)
      | (go_at_call 49; (with_reducible refine (cR _ B1).mono ?_); rintro _ u4 ⟨rfl, g4⟩; have B4 := gtrans B1 g4))
    go_ret
    exact ⟨by first | (simp; done) | (simp [h5]; done) | (simp [hm0]; done) | (simp [hm0, h5]; done), B1⟩
  cases b2
  ·
    go_enter Tryz.func26, Tryz.ntmps26
    go_wp2_with (first
      | (go_at_call 44; (with_reducible refine (cI _ B0).mono ?_); rintro _ u1 ⟨rfl, g1⟩; have B1 := gtrans B0 g1; obtain ⟨x0, x1, x2, x3, x4, x5, x6⟩ := (Q0.keep g1).at7)
      | (go_at_call 46; (with_reducible refine (isMode_any _ _).mono ?_); rintro _ _ ⟨rfl, rfl⟩; rw [hmo])
      | (go_at_call 47; (with_reducible refine (isAfter_any _ _).mono ?_); rintro _ _ ⟨rfl, rfl⟩; rw [haf])
      | (go_at_call 35; (with_reducible refine (cT _ B1).mono ?_); rintro _ u2 ⟨rfl, g2⟩; have B2 := gtrans B1 g2; obtain ⟨y0, y1, y2, y3, y4, y5, y6⟩ := (Q0.keep (gtrans g1 g2)).at7)
      | (go_at_call 48; (with_reducible refine (cN _ B2).mono ?_); rintro _ u3 ⟨rfl, g3⟩; have B3 := gtrans B2 g3; obtain ⟨z0, z1, z2, z3, z4, z5, z6⟩ := (Q0.keep (gtrans (gtrans g1 g2) g3)).at7)
      | (go_at_call 48; (with_reducible refine (cN _ B1).mono ?_); rintro _ u3 ⟨rfl, g3⟩; have B3 := gtrans B1 g3; obtain ⟨z0, z1, z2, z3, z4, z5, z6⟩ := (Q0.keep (gtrans g1 g3)).at7)
      | (go_at_call 49; (with_reducible refine (cR _ B3).mono ?_); rintro _ u4 ⟨rfl, g4⟩; have B4 := gtrans B3 g4)
      | (go_at_call 49; (with_reducible refine (cR _ B2).mono ?_); rintro _ u4 ⟨rfl, g4⟩; have B4 := gtrans B2 g4)
      | (go_at_call 49; (with_reducible refine (cR _ B1).mono ?_); rintro _ u4 ⟨rfl, g4⟩; have B4 := gtrans B1 g4))
    go_ret
    exact ⟨by first | (simp; done) | (simp [h5]; done) | (simp [hm0]; done) | (simp [hm0, h5]; done), B1⟩
  cases b3
  ·
    go_enter Tryz.func26, Tryz.ntmps26
    go_wp2_with (first
      | (go_at_call 44; (with_reducible refine (cI _ B0).mono ?_); rintro _ u1 ⟨rfl, g1⟩; have B1 := gtrans B0 g1; obtain ⟨x0, x1, x2, x3, x4, x5, x6⟩ := (Q0.keep g1).at7)
      | (go_at_call 46; (with_reducible refine (isMode_any _ _).mono ?_); rintro _ _ ⟨rfl, rfl⟩; rw [hmo])
      | (go_at_call 47; (with_reducible refine (isAfter_any _ _).mono ?_); rintro _ _ ⟨rfl, rfl⟩; rw [haf])
      | (go_at_call 35; (with_reducible refine (cT _ B1).mono ?_); rintro _ u2 ⟨rfl, g2⟩; have B2 := gtrans B1 g2; obtain ⟨y0, y1, y2, y3, y4, y5, y6⟩ := (Q0.keep (gtrans g1 g2)).at7)
      | (go_at_call 48; (with_reducible refine (cN _ B2).mono ?_); rintro _ u3 ⟨rfl, g3⟩; have B3 := gtrans B2 g3; obtain ⟨z0, z1, z2, z3, z4, z5, z6⟩ := (Q0.keep (gtrans (gtrans g1 g2) g3)).at7)
      | (go_at_call 48; (with_reducible refine (cN _ B1).mono ?_); rintro _ u3 ⟨rfl, g3⟩; have B3 := gtrans B1 g3; obtain ⟨z0, z1, z2, z3, z4, z5, z6⟩ := (Q0.keep (gtrans g1 g3)).at7)
      | (go_at_call 49; (with_reducible refine (cR _ B3).mono ?_); rintro _ u4 ⟨rfl, g4⟩; have B4 := gtrans B3 g4)
      | (go_at_call 49; (with_reducible refine (cR _ B2).mono ?_); rintro _ u4 ⟨rfl, g4⟩; have B4 := gtrans B2 g4)
      | (go_at_call 49; (with_reducible refine (cR _ B1).mono ?_); rintro _ u4 ⟨rfl, g4⟩; have B4 := gtrans B1 g4))
    go_ret
    exact ⟨by first | (simp; done) | (simp [h5]; done) | (simp [hm0]; done) | (simp [hm0, h5]; done), B1⟩
  by_cases hm0 : m = 0
  · subst hm0
    by_cases h5 : 0 ≤ within
    rotate_left
    · have d5 : decide (0 ≤ within) = false := decide_eq_false h5
      rw [d5]
      go_enter Tryz.func26, Tryz.ntmps26
      go_wp2_with (first
      | (go_at_call 44; (with_reducible refine (cI _ B0).mono ?_); rintro _ u1 ⟨rfl, g1⟩; have B1 := gtrans B0 g1; obtain ⟨x0, x1, x2, x3, x4, x5, x6⟩ := (Q0.keep g1).at7)
      | (go_at_call 46; (with_reducible refine (isMode_any _ _).mono ?_); rintro _ _ ⟨rfl, rfl⟩; rw [hmo])
      | (go_at_call 47; (with_reducible refine (isAfter_any _ _).mono ?_); rintro _ _ ⟨rfl, rfl⟩; rw [haf])
      | (go_at_call 35; (with_reducible refine (cT _ B1).mono ?_); rintro _ u2 ⟨rfl, g2⟩; have B2 := gtrans B1 g2; obtain ⟨y0, y1, y2, y3, y4, y5, y6⟩ := (Q0.keep (gtrans g1 g2)).at7)
      | (go_at_call 48; (with_reducible refine (cN _ B2).mono ?_); rintro _ u3 ⟨rfl, g3⟩; have B3 := gtrans B2 g3; obtain ⟨z0, z1, z2, z3, z4, z5, z6⟩ := (Q0.keep (gtrans (gtrans g1 g2) g3)).at7)
      | (go_at_call 48; (with_reducible refine (cN _ B1).mono ?_); rintro _ u3 ⟨rfl, g3⟩; have B3 := gtrans B1 g3; obtain ⟨z0, z1, z2, z3, z4, z5, z6⟩ := (Q0.keep (gtrans g1 g3)).at7)
      | (go_at_call 49; (with_reducible refine (cR _ B3).mono ?_); rintro _ u4 ⟨rfl, g4⟩; have B4 := gtrans B3 g4)
      | (go_at_call 49; (with_reducible refine (cR _ B2).mono ?_); rintro _ u4 ⟨rfl, g4⟩; have B4 := gtrans B2 g4)
      | (go_at_call 49; (with_reducible refine (cR _ B1).mono ?_); rintro _ u4 ⟨rfl, g4⟩; have B4 := gtrans B1 g4))
      go_ret
      exact ⟨by first | (simp; done) | (simp [h5]; done) | (simp [hm0]; done) | (simp [hm0, h5]; done), B1⟩
    cases h6 : (by_.toList == ([] : List UInt8))
    · cases b6
      ·
        go_enter Tryz.func26, Tryz.ntmps26
        go_wp2_with (first
      | (go_at_call 44; (with_reducible refine (cI _ B0).mono ?_); rintro _ u1 ⟨rfl, g1⟩; have B1 := gtrans B0 g1; obtain ⟨x0, x1, x2, x3, x4, x5, x6⟩ := (Q0.keep g1).at7)
      | (go_at_call 46; (with_reducible refine (isMode_any _ _).mono ?_); rintro _ _ ⟨rfl, rfl⟩; rw [hmo])
      | (go_at_call 47; (with_reducible refine (isAfter_any _ _).mono ?_); rintro _ _ ⟨rfl, rfl⟩; rw [haf])
      | (go_at_call 35; (with_reducible refine (cT _ B1).mono ?_); rintro _ u2 ⟨rfl, g2⟩; have B2 := gtrans B1 g2; obtain ⟨y0, y1, y2, y3, y4, y5, y6⟩ := (Q0.keep (gtrans g1 g2)).at7)
      | (go_at_call 48; (with_reducible refine (cN _ B2).mono ?_); rintro _ u3 ⟨rfl, g3⟩; have B3 := gtrans B2 g3; obtain ⟨z0, z1, z2, z3, z4, z5, z6⟩ := (Q0.keep (gtrans (gtrans g1 g2) g3)).at7)
      | (go_at_call 48; (with_reducible refine (cN _ B1).mono ?_); rintro _ u3 ⟨rfl, g3⟩; have B3 := gtrans B1 g3; obtain ⟨z0, z1, z2, z3, z4, z5, z6⟩ := (Q0.keep (gtrans g1 g3)).at7)
      | (go_at_call 49; (with_reducible refine (cR _ B3).mono ?_); rintro _ u4 ⟨rfl, g4⟩; have B4 := gtrans B3 g4)
      | (go_at_call 49; (with_reducible refine (cR _ B2).mono ?_); rintro _ u4 ⟨rfl, g4⟩; have B4 := gtrans B2 g4)
      | (go_at_call 49; (with_reducible refine (cR _ B1).mono ?_); rintro _ u4 ⟨rfl, g4⟩; have B4 := gtrans B1 g4))
        go_ret
        exact ⟨by first | (simp; done) | (simp [h5]; done) | (simp [hm0]; done) | (simp [hm0, h5]; done), B3⟩
      cases b7
      ·
        go_enter Tryz.func26, Tryz.ntmps26
        go_wp2_with (first
      | (go_at_call 44; (with_reducible refine (cI _ B0).mono ?_); rintro _ u1 ⟨rfl, g1⟩; have B1 := gtrans B0 g1; obtain ⟨x0, x1, x2, x3, x4, x5, x6⟩ := (Q0.keep g1).at7)
      | (go_at_call 46; (with_reducible refine (isMode_any _ _).mono ?_); rintro _ _ ⟨rfl, rfl⟩; rw [hmo])
      | (go_at_call 47; (with_reducible refine (isAfter_any _ _).mono ?_); rintro _ _ ⟨rfl, rfl⟩; rw [haf])
      | (go_at_call 35; (with_reducible refine (cT _ B1).mono ?_); rintro _ u2 ⟨rfl, g2⟩; have B2 := gtrans B1 g2; obtain ⟨y0, y1, y2, y3, y4, y5, y6⟩ := (Q0.keep (gtrans g1 g2)).at7)
      | (go_at_call 48; (with_reducible refine (cN _ B2).mono ?_); rintro _ u3 ⟨rfl, g3⟩; have B3 := gtrans B2 g3; obtain ⟨z0, z1, z2, z3, z4, z5, z6⟩ := (Q0.keep (gtrans (gtrans g1 g2) g3)).at7)
      | (go_at_call 48; (with_reducible refine (cN _ B1).mono ?_); rintro _ u3 ⟨rfl, g3⟩; have B3 := gtrans B1 g3; obtain ⟨z0, z1, z2, z3, z4, z5, z6⟩ := (Q0.keep (gtrans g1 g3)).at7)
      | (go_at_call 49; (with_reducible refine (cR _ B3).mono ?_); rintro _ u4 ⟨rfl, g4⟩; have B4 := gtrans B3 g4)
      | (go_at_call 49; (with_reducible refine (cR _ B2).mono ?_); rintro _ u4 ⟨rfl, g4⟩; have B4 := gtrans B2 g4)
      | (go_at_call 49; (with_reducible refine (cR _ B1).mono ?_); rintro _ u4 ⟨rfl, g4⟩; have B4 := gtrans B1 g4))
        go_ret
        exact ⟨by first | (simp; done) | (simp [h5]; done) | (simp [hm0]; done) | (simp [hm0, h5]; done), B4⟩
      ·
        go_enter Tryz.func26, Tryz.ntmps26
        go_wp2_with (first
      | (go_at_call 44; (with_reducible refine (cI _ B0).mono ?_); rintro _ u1 ⟨rfl, g1⟩; have B1 := gtrans B0 g1; obtain ⟨x0, x1, x2, x3, x4, x5, x6⟩ := (Q0.keep g1).at7)
      | (go_at_call 46; (with_reducible refine (isMode_any _ _).mono ?_); rintro _ _ ⟨rfl, rfl⟩; rw [hmo])
      | (go_at_call 47; (with_reducible refine (isAfter_any _ _).mono ?_); rintro _ _ ⟨rfl, rfl⟩; rw [haf])
      | (go_at_call 35; (with_reducible refine (cT _ B1).mono ?_); rintro _ u2 ⟨rfl, g2⟩; have B2 := gtrans B1 g2; obtain ⟨y0, y1, y2, y3, y4, y5, y6⟩ := (Q0.keep (gtrans g1 g2)).at7)
      | (go_at_call 48; (with_reducible refine (cN _ B2).mono ?_); rintro _ u3 ⟨rfl, g3⟩; have B3 := gtrans B2 g3; obtain ⟨z0, z1, z2, z3, z4, z5, z6⟩ := (Q0.keep (gtrans (gtrans g1 g2) g3)).at7)
      | (go_at_call 48; (with_reducible refine (cN _ B1).mono ?_); rintro _ u3 ⟨rfl, g3⟩; have B3 := gtrans B1 g3; obtain ⟨z0, z1, z2, z3, z4, z5, z6⟩ := (Q0.keep (gtrans g1 g3)).at7)
      | (go_at_call 49; (with_reducible refine (cR _ B3).mono ?_); rintro _ u4 ⟨rfl, g4⟩; have B4 := gtrans B3 g4)
      | (go_at_call 49; (with_reducible refine (cR _ B2).mono ?_); rintro _ u4 ⟨rfl, g4⟩; have B4 := gtrans B2 g4)
      | (go_at_call 49; (with_reducible refine (cR _ B1).mono ?_); rintro _ u4 ⟨rfl, g4⟩; have B4 := gtrans B1 g4))
        go_ret
        exact ⟨by first | (simp; done) | (simp [h5]; done) | (simp [hm0]; done) | (simp [hm0, h5]; done), B4⟩
    · cases b7
      ·
        go_enter Tryz.func26, Tryz.ntmps26
        go_wp2_with (first
      | (go_at_call 44; (with_reducible refine (cI _ B0).mono ?_); rintro _ u1 ⟨rfl, g1⟩; have B1 := gtrans B0 g1; obtain ⟨x0, x1, x2, x3, x4, x5, x6⟩ := (Q0.keep g1).at7)
      | (go_at_call 46; (with_reducible refine (isMode_any _ _).mono ?_); rintro _ _ ⟨rfl, rfl⟩; rw [hmo])
      | (go_at_call 47; (with_reducible refine (isAfter_any _ _).mono ?_); rintro _ _ ⟨rfl, rfl⟩; rw [haf])
      | (go_at_call 35; (with_reducible refine (cT _ B1).mono ?_); rintro _ u2 ⟨rfl, g2⟩; have B2 := gtrans B1 g2; obtain ⟨y0, y1, y2, y3, y4, y5, y6⟩ := (Q0.keep (gtrans g1 g2)).at7)
      | (go_at_call 48; (with_reducible refine (cN _ B2).mono ?_); rintro _ u3 ⟨rfl, g3⟩; have B3 := gtrans B2 g3; obtain ⟨z0, z1, z2, z3, z4, z5, z6⟩ := (Q0.keep (gtrans (gtrans g1 g2) g3)).at7)
      | (go_at_call 48; (with_reducible refine (cN _ B1).mono ?_); rintro _ u3 ⟨rfl, g3⟩; have B3 := gtrans B1 g3; obtain ⟨z0, z1, z2, z3, z4, z5, z6⟩ := (Q0.keep (gtrans g1 g3)).at7)
      | (go_at_call 49; (with_reducible refine (cR _ B3).mono ?_); rintro _ u4 ⟨rfl, g4⟩; have B4 := gtrans B3 g4)
      | (go_at_call 49; (with_reducible refine (cR _ B2).mono ?_); rintro _ u4 ⟨rfl, g4⟩; have B4 := gtrans B2 g4)
      | (go_at_call 49; (with_reducible refine (cR _ B1).mono ?_); rintro _ u4 ⟨rfl, g4⟩; have B4 := gtrans B1 g4))
        go_ret
        exact ⟨by first | (simp; done) | (simp [h5]; done) | (simp [hm0]; done) | (simp [hm0, h5]; done), B4⟩
      ·
        go_enter Tryz.func26, Tryz.ntmps26
        go_wp2_with (first
      | (go_at_call 44; (with_reducible refine (cI _ B0).mono ?_); rintro _ u1 ⟨rfl, g1⟩; have B1 := gtrans B0 g1; obtain ⟨x0, x1, x2, x3, x4, x5, x6⟩ := (Q0.keep g1).at7)
      | (go_at_call 46; (with_reducible refine (isMode_any _ _).mono ?_); rintro _ _ ⟨rfl, rfl⟩; rw [hmo])
      | (go_at_call 47; (with_reducible refine (isAfter_any _ _).mono ?_); rintro _ _ ⟨rfl, rfl⟩; rw [haf])
      | (go_at_call 35; (with_reducible refine (cT _ B1).mono ?_); rintro _ u2 ⟨rfl, g2⟩; have B2 := gtrans B1 g2; obtain ⟨y0, y1, y2, y3, y4, y5, y6⟩ := (Q0.keep (gtrans g1 g2)).at7)
      | (go_at_call 48; (with_reducible refine (cN _ B2).mono ?_); rintro _ u3 ⟨rfl, g3⟩; have B3 := gtrans B2 g3; obtain ⟨z0, z1, z2, z3, z4, z5, z6⟩ := (Q0.keep (gtrans (gtrans g1 g2) g3)).at7)
      | (go_at_call 48; (with_reducible refine (cN _ B1).mono ?_); rintro _ u3 ⟨rfl, g3⟩; have B3 := gtrans B1 g3; obtain ⟨z0, z1, z2, z3, z4, z5, z6⟩ := (Q0.keep (gtrans g1 g3)).at7)
      | (go_at_call 49; (with_reducible refine (cR _ B3).mono ?_); rintro _ u4 ⟨rfl, g4⟩; have B4 := gtrans B3 g4)
      | (go_at_call 49; (with_reducible refine (cR _ B2).mono ?_); rintro _ u4 ⟨rfl, g4⟩; have B4 := gtrans B2 g4)
      | (go_at_call 49; (with_reducible refine (cR _ B1).mono ?_); rintro _ u4 ⟨rfl, g4⟩; have B4 := gtrans B1 g4))
        go_ret
        exact ⟨by first | (simp; done) | (simp [h5]; done) | (simp [hm0]; done) | (simp [hm0, h5]; done), B4⟩
  · have hm1 : ((m : Int) == 0) = false := by simp; omega
    cases b4
    ·
      go_enter Tryz.func26, Tryz.ntmps26
      go_wp2_with (first
      | (go_at_call 44; (with_reducible refine (cI _ B0).mono ?_); rintro _ u1 ⟨rfl, g1⟩; have B1 := gtrans B0 g1; obtain ⟨x0, x1, x2, x3, x4, x5, x6⟩ := (Q0.keep g1).at7)
      | (go_at_call 46; (with_reducible refine (isMode_any _ _).mono ?_); rintro _ _ ⟨rfl, rfl⟩; rw [hmo])
      | (go_at_call 47; (with_reducible refine (isAfter_any _ _).mono ?_); rintro _ _ ⟨rfl, rfl⟩; rw [haf])
      | (go_at_call 35; (with_reducible refine (cT _ B1).mono ?_); rintro _ u2 ⟨rfl, g2⟩; have B2 := gtrans B1 g2; obtain ⟨y0, y1, y2, y3, y4, y5, y6⟩ := (Q0.keep (gtrans g1 g2)).at7)
      | (go_at_call 48; (with_reducible refine (cN _ B2).mono ?_); rintro _ u3 ⟨rfl, g3⟩; have B3 := gtrans B2 g3; obtain ⟨z0, z1, z2, z3, z4, z5, z6⟩ := (Q0.keep (gtrans (gtrans g1 g2) g3)).at7)
      | (go_at_call 48; (with_reducible refine (cN _ B1).mono ?_); rintro _ u3 ⟨rfl, g3⟩; have B3 := gtrans B1 g3; obtain ⟨z0, z1, z2, z3, z4, z5, z6⟩ := (Q0.keep (gtrans g1 g3)).at7)
      | (go_at_call 49; (with_reducible refine (cR _ B3).mono ?_); rintro _ u4 ⟨rfl, g4⟩; have B4 := gtrans B3 g4)
      | (go_at_call 49; (with_reducible refine (cR _ B2).mono ?_); rintro _ u4 ⟨rfl, g4⟩; have B4 := gtrans B2 g4)
      | (go_at_call 49; (with_reducible refine (cR _ B1).mono ?_); rintro _ u4 ⟨rfl, g4⟩; have B4 := gtrans B1 g4))
      go_ret
      exact ⟨by first | (simp; done) | (simp [h5]; done) | (simp [hm0]; done) | (simp [hm0, h5]; done), B2⟩
    by_cases h5 : 0 ≤ within
    rotate_left
    · have d5 : decide (0 ≤ within) = false := decide_eq_false h5
      rw [d5]
      go_enter Tryz.func26, Tryz.ntmps26
      go_wp2_with (first
      | (go_at_call 44; (with_reducible refine (cI _ B0).mono ?_); rintro _ u1 ⟨rfl, g1⟩; have B1 := gtrans B0 g1; obtain ⟨x0, x1, x2, x3, x4, x5, x6⟩ := (Q0.keep g1).at7)
      | (go_at_call 46; (with_reducible refine (isMode_any _ _).mono ?_); rintro _ _ ⟨rfl, rfl⟩; rw [hmo])
      | (go_at_call 47; (with_reducible refine (isAfter_any _ _).mono ?_); rintro _ _ ⟨rfl, rfl⟩; rw [haf])
      | (go_at_call 35; (with_reducible refine (cT _ B1).mono ?_); rintro _ u2 ⟨rfl, g2⟩; have B2 := gtrans B1 g2; obtain ⟨y0, y1, y2, y3, y4, y5, y6⟩ := (Q0.keep (gtrans g1 g2)).at7)
      | (go_at_call 48; (with_reducible refine (cN _ B2).mono ?_); rintro _ u3 ⟨rfl, g3⟩; have B3 := gtrans B2 g3; obtain ⟨z0, z1, z2, z3, z4, z5, z6⟩ := (Q0.keep (gtrans (gtrans g1 g2) g3)).at7)
      | (go_at_call 48; (with_reducible refine (cN _ B1).mono ?_); rintro _ u3 ⟨rfl, g3⟩; have B3 := gtrans B1 g3; obtain ⟨z0, z1, z2, z3, z4, z5, z6⟩ := (Q0.keep (gtrans g1 g3)).at7)
      | (go_at_call 49; (with_reducible refine (cR _ B3).mono ?_); rintro _ u4 ⟨rfl, g4⟩; have B4 := gtrans B3 g4)
      | (go_at_call 49; (with_reducible refine (cR _ B2).mono ?_); rintro _ u4 ⟨rfl, g4⟩; have B4 := gtrans B2 g4)
      | (go_at_call 49; (with_reducible refine (cR _ B1).mono ?_); rintro _ u4 ⟨rfl, g4⟩; have B4 := gtrans B1 g4))
      go_ret
      exact ⟨by first | (simp; done) | (simp [h5]; done) | (simp [hm0]; done) | (simp [hm0, h5]; done), B2⟩
    cases h6 : (by_.toList == ([] : List UInt8))
    · cases b6
      ·
        go_enter Tryz.func26, Tryz.ntmps26
        go_wp2_with (first
      | (go_at_call 44; (with_reducible refine (cI _ B0).mono ?_); rintro _ u1 ⟨rfl, g1⟩; have B1 := gtrans B0 g1; obtain ⟨x0, x1, x2, x3, x4, x5, x6⟩ := (Q0.keep g1).at7)
      | (go_at_call 46; (with_reducible refine (isMode_any _ _).mono ?_); rintro _ _ ⟨rfl, rfl⟩; rw [hmo])
      | (go_at_call 47; (with_reducible refine (isAfter_any _ _).mono ?_); rintro _ _ ⟨rfl, rfl⟩; rw [haf])
      | (go_at_call 35; (with_reducible refine (cT _ B1).mono ?_); rintro _ u2 ⟨rfl, g2⟩; have B2 := gtrans B1 g2; obtain ⟨y0, y1, y2, y3, y4, y5, y6⟩ := (Q0.keep (gtrans g1 g2)).at7)
      | (go_at_call 48; (with_reducible refine (cN _ B2).mono ?_); rintro _ u3 ⟨rfl, g3⟩; have B3 := gtrans B2 g3; obtain ⟨z0, z1, z2, z3, z4, z5, z6⟩ := (Q0.keep (gtrans (gtrans g1 g2) g3)).at7)
      | (go_at_call 48; (with_reducible refine (cN _ B1).mono ?_); rintro _ u3 ⟨rfl, g3⟩; have B3 := gtrans B1 g3; obtain ⟨z0, z1, z2, z3, z4, z5, z6⟩ := (Q0.keep (gtrans g1 g3)).at7)
      | (go_at_call 49; (with_reducible refine (cR _ B3).mono ?_); rintro _ u4 ⟨rfl, g4⟩; have B4 := gtrans B3 g4)
      | (go_at_call 49; (with_reducible refine (cR _ B2).mono ?_); rintro _ u4 ⟨rfl, g4⟩; have B4 := gtrans B2 g4)
      | (go_at_call 49; (with_reducible refine (cR _ B1).mono ?_); rintro _ u4 ⟨rfl, g4⟩; have B4 := gtrans B1 g4))
        go_ret
        exact ⟨by first | (simp; done) | (simp [h5]; done) | (simp [hm0]; done) | (simp [hm0, h5]; done), B3⟩
      cases b7
      ·
        go_enter Tryz.func26, Tryz.ntmps26
        go_wp2_with (first
      | (go_at_call 44; (with_reducible refine (cI _ B0).mono ?_); rintro _ u1 ⟨rfl, g1⟩; have B1 := gtrans B0 g1; obtain ⟨x0, x1, x2, x3, x4, x5, x6⟩ := (Q0.keep g1).at7)
      | (go_at_call 46; (with_reducible refine (isMode_any _ _).mono ?_); rintro _ _ ⟨rfl, rfl⟩; rw [hmo])
      | (go_at_call 47; (with_reducible refine (isAfter_any _ _).mono ?_); rintro _ _ ⟨rfl, rfl⟩; rw [haf])
      | (go_at_call 35; (with_reducible refine (cT _ B1).mono ?_); rintro _ u2 ⟨rfl, g2⟩; have B2 := gtrans B1 g2; obtain ⟨y0, y1, y2, y3, y4, y5, y6⟩ := (Q0.keep (gtrans g1 g2)).at7)
      | (go_at_call 48; (with_reducible refine (cN _ B2).mono ?_); rintro _ u3 ⟨rfl, g3⟩; have B3 := gtrans B2 g3; obtain ⟨z0, z1, z2, z3, z4, z5, z6⟩ := (Q0.keep (gtrans (gtrans g1 g2) g3)).at7)
      | (go_at_call 48; (with_reducible refine (cN _ B1).mono ?_); rintro _ u3 ⟨rfl, g3⟩; have B3 := gtrans B1 g3; obtain ⟨z0, z1, z2, z3, z4, z5, z6⟩ := (Q0.keep (gtrans g1 g3)).at7)
      | (go_at_call 49; (with_reducible refine (cR _ B3).mono ?_); rintro _ u4 ⟨rfl, g4⟩; have B4 := gtrans B3 g4)
      | (go_at_call 49; (with_reducible refine (cR _ B2).mono ?_); rintro _ u4 ⟨rfl, g4⟩; have B4 := gtrans B2 g4)
      | (go_at_call 49; (with_reducible refine (cR _ B1).mono ?_); rintro _ u4 ⟨rfl, g4⟩; have B4 := gtrans B1 g4))
        go_ret
        exact ⟨by first | (simp; done) | (simp [h5]; done) | (simp [hm0]; done) | (simp [hm0, h5]; done), B4⟩
      ·
        go_enter Tryz.func26, Tryz.ntmps26
        go_wp2_with (first
      | (go_at_call 44; (with_reducible refine (cI _ B0).mono ?_); rintro _ u1 ⟨rfl, g1⟩; have B1 := gtrans B0 g1; obtain ⟨x0, x1, x2, x3, x4, x5, x6⟩ := (Q0.keep g1).at7)
      | (go_at_call 46; (with_reducible refine (isMode_any _ _).mono ?_); rintro _ _ ⟨rfl, rfl⟩; rw [hmo])
      | (go_at_call 47; (with_reducible refine (isAfter_any _ _).mono ?_); rintro _ _ ⟨rfl, rfl⟩; rw [haf])
      | (go_at_call 35; (with_reducible refine (cT _ B1).mono ?_); rintro _ u2 ⟨rfl, g2⟩; have B2 := gtrans B1 g2; obtain ⟨y0, y1, y2, y3, y4, y5, y6⟩ := (Q0.keep (gtrans g1 g2)).at7)
      | (go_at_call 48; (with_reducible refine (cN _ B2).mono ?_); rintro _ u3 ⟨rfl, g3⟩; have B3 := gtrans B2 g3; obtain ⟨z0, z1, z2, z3, z4, z5, z6⟩ := (Q0.keep (gtrans (gtrans g1 g2) g3)).at7)
      | (go_at_call 48; (with_reducible refine (cN _ B1).mono ?_); rintro _ u3 ⟨rfl, g3⟩; have B3 := gtrans B1 g3; obtain ⟨z0, z1, z2, z3, z4, z5, z6⟩ := (Q0.keep (gtrans g1 g3)).at7)
      | (go_at_call 49; (with_reducible refine (cR _ B3).mono ?_); rintro _ u4 ⟨rfl, g4⟩; have B4 := gtrans B3 g4)
      | (go_at_call 49; (with_reducible refine (cR _ B2).mono ?_); rintro _ u4 ⟨rfl, g4⟩; have B4 := gtrans B2 g4)
      | (go_at_call 49; (with_reducible refine (cR _ B1).mono ?_); rintro _ u4 ⟨rfl, g4⟩; have B4 := gtrans B1 g4))
        go_ret
        exact ⟨by first | (simp; done) | (simp [h5]; done) | (simp [hm0]; done) | (simp [hm0, h5]; done), B4⟩
    · cases b7
      ·
        go_enter Tryz.func26, Tryz.ntmps26
        go_wp2_with (first
      | (go_at_call 44; (with_reducible refine (cI _ B0).mono ?_); rintro _ u1 ⟨rfl, g1⟩; have B1 := gtrans B0 g1; obtain ⟨x0, x1, x2, x3, x4, x5, x6⟩ := (Q0.keep g1).at7)
      | (go_at_call 46; (with_reducible refine (isMode_any _ _).mono ?_); rintro _ _ ⟨rfl, rfl⟩; rw [hmo])
      | (go_at_call 47; (with_reducible refine (isAfter_any _ _).mono ?_); rintro _ _ ⟨rfl, rfl⟩; rw [haf])
      | (go_at_call 35; (with_reducible refine (cT _ B1).mono ?_); rintro _ u2 ⟨rfl, g2⟩; have B2 := gtrans B1 g2; obtain ⟨y0, y1, y2, y3, y4, y5, y6⟩ := (Q0.keep (gtrans g1 g2)).at7)
      | (go_at_call 48; (with_reducible refine (cN _ B2).mono ?_); rintro _ u3 ⟨rfl, g3⟩; have B3 := gtrans B2 g3; obtain ⟨z0, z1, z2, z3, z4, z5, z6⟩ := (Q0.keep (gtrans (gtrans g1 g2) g3)).at7)
      | (go_at_call 48; (with_reducible refine (cN _ B1).mono ?_); rintro _ u3 ⟨rfl, g3⟩; have B3 := gtrans B1 g3; obtain ⟨z0, z1, z2, z3, z4, z5, z6⟩ := (Q0.keep (gtrans g1 g3)).at7)
      | (go_at_call 49; (with_reducible refine (cR _ B3).mono ?_); rintro _ u4 ⟨rfl, g4⟩; have B4 := gtrans B3 g4)
      | (go_at_call 49; (with_reducible refine (cR _ B2).mono ?_); rintro _ u4 ⟨rfl, g4⟩; have B4 := gtrans B2 g4)
      | (go_at_call 49; (with_reducible refine (cR _ B1).mono ?_); rintro _ u4 ⟨rfl, g4⟩; have B4 := gtrans B1 g4))
        go_ret
        exact ⟨by first | (simp; done) | (simp [h5]; done) | (simp [hm0]; done) | (simp [hm0, h5]; done), B4⟩
      ·
        go_enter Tryz.func26, Tryz.ntmps26
        go_wp2_with (first
      | (go_at_call 44; (with_reducible refine (cI _ B0).mono ?_); rintro _ u1 ⟨rfl, g1⟩; have B1 := gtrans B0 g1; obtain ⟨x0, x1, x2, x3, x4, x5, x6⟩ := (Q0.keep g1).at7)
      | (go_at_call 46; (with_reducible refine (isMode_any _ _).mono ?_); rintro _ _ ⟨rfl, rfl⟩; rw [hmo])
      | (go_at_call 47; (with_reducible refine (isAfter_any _ _).mono ?_); rintro _ _ ⟨rfl, rfl⟩; rw [haf])
      | (go_at_call 35; (with_reducible refine (cT _ B1).mono ?_); rintro _ u2 ⟨rfl, g2⟩; have B2 := gtrans B1 g2; obtain ⟨y0, y1, y2, y3, y4, y5, y6⟩ := (Q0.keep (gtrans g1 g2)).at7)
      | (go_at_call 48; (with_reducible refine (cN _ B2).mono ?_); rintro _ u3 ⟨rfl, g3⟩; have B3 := gtrans B2 g3; obtain ⟨z0, z1, z2, z3, z4, z5, z6⟩ := (Q0.keep (gtrans (gtrans g1 g2) g3)).at7)
      | (go_at_call 48; (with_reducible refine (cN _ B1).mono ?_); rintro _ u3 ⟨rfl, g3⟩; have B3 := gtrans B1 g3; obtain ⟨z0, z1, z2, z3, z4, z5, z6⟩ := (Q0.keep (gtrans g1 g3)).at7)
      | (go_at_call 49; (with_reducible refine (cR _ B3).mono ?_); rintro _ u4 ⟨rfl, g4⟩; have B4 := gtrans B3 g4)
      | (go_at_call 49; (with_reducible refine (cR _ B2).mono ?_); rintro _ u4 ⟨rfl, g4⟩; have B4 := gtrans B2 g4)
      | (go_at_call 49; (with_reducible refine (cR _ B1).mono ?_); rintro _ u4 ⟨rfl, g4⟩; have B4 := gtrans B1 g4))
        go_ret
        exact ⟨by first | (simp; done) | (simp [h5]; done) | (simp [hm0]; done) | (simp [hm0, h5]; done), B4⟩

end Go.Proofs.YtlejhococjlijaaGreatDoor
