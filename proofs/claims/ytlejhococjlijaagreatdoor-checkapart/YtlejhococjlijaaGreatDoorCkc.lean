/- The small questions of package check: isRepeated, isSingle, mayAsk, mayReturn, hasAttr, kinds. -/
import Derived.Test.YtlejhococjlijaaGreatDoorCka
namespace Go.Proofs.YtlejhococjlijaaGreatDoor
open Go.RowKit Go.BigFrame
set_option linter.unusedVariables false
set_option linter.unusedSimpArgs false

theorem any_drop {α : Type} (f : α → Bool) (l : List α) (z : α) {k : Nat} (h : k < l.length) : (l.drop k).any f = (f (l.getD k z) || (l.drop (k + 1)).any f) := by
  rw [List.drop_eq_getElem_cons h, List.any_cons, List.getD_eq_getElem?_getD, List.getElem?_eq_getElem h, Option.getD_some]
theorem any_end {α : Type} (f : α → Bool) (l : List α) {k : Nat} (h : ¬ k < l.length) : (l.drop k).any f = false := by
  rw [List.drop_eq_nil_of_le (by omega)]; rfl
theorem ss_strs {w : World} {ao : Option Addr} {ss : List ByteArray} (h : IsSs w ao ss) (hl : ss.length ≤ 9223372036854775807) : IsStrs w ao ss.length ss := by
  refine ⟨rfl, hl, ?_⟩
  rcases Nat.eq_zero_or_pos ss.length with e | e
  · exact .inl e
  · obtain ⟨g, o, rfl, a0⟩ := h 0 e
    refine .inr ⟨g, o, rfl, lt_of_cell a0, fun j hj => ?_⟩
    obtain ⟨g2, o2, e2, a2⟩ := h j hj
    cases e2
    rw [a2]
    simp [List.getD, List.getElem?_eq_getElem hj]

set_option maxHeartbeats 2000000 in
theorem isRep_any (i : It) (a : Option Addr) (c : Nat) (w : World) :
    Calls Tryz.prog 77 #[itA i a c] w fun e w' => e = .returned (.bool (repB i)) ∧ Below w.heap.size w w' := by
  obtain ⟨neg, ty, v, lo, hi⟩ := i
  unfold repB
  dsimp only [itA]
  cases neg
  · by_cases h : 1 < hi
    · rw [decide_eq_true h]
      go_enter Tryz.func77, Tryz.ntmps77
      go_wp2
      go_ret
      exact ⟨rfl, galloc (Below.refl _ _) _⟩
    · have d := decide_eq_false h
      rw [d]
      go_enter Tryz.func77, Tryz.ntmps77
      go_wp2
      go_ret
      exact ⟨rfl, galloc (Below.refl _ _) _⟩
  · go_enter Tryz.func77, Tryz.ntmps77
    go_wp2
    go_ret
    exact ⟨rfl, galloc (Below.refl _ _) _⟩
set_option maxHeartbeats 2000000 in
theorem isSgl_any (i : It) (a : Option Addr) (c : Nat) (w : World) :
    Calls Tryz.prog 78 #[itA i a c] w fun e w' => e = .returned (.bool (sglB i)) ∧ Below w.heap.size w w' := by
  obtain ⟨neg, ty, v, lo, hi⟩ := i
  unfold sglB
  dsimp only [itA]
  cases neg
  · by_cases h : hi ≤ 1
    · rw [decide_eq_true h]
      go_enter Tryz.func78, Tryz.ntmps78
      go_wp2
      go_ret
      exact ⟨rfl, galloc (Below.refl _ _) _⟩
    · have d := decide_eq_false h
      rw [d]
      go_enter Tryz.func78, Tryz.ntmps78
      go_wp2
      go_ret
      exact ⟨rfl, galloc (Below.refl _ _) _⟩
  · go_enter Tryz.func78, Tryz.ntmps78
    go_wp2
    go_ret
    exact ⟨rfl, galloc (Below.refl _ _) _⟩
set_option maxHeartbeats 4000000 in
theorem mayAsk_any (op : Int) (i : It) (a : Option Addr) (c : Nat) (w : World) :
    Calls Tryz.prog 53 #[.int .i64 op, itA i a c] w fun e w' => e = .returned (.bool (mayA op i)) ∧ Below w.heap.size w w' := by
  have cA := fun Y => isAgg_any op Y
  have cR := fun Y => isRep_any i a c Y
  unfold mayA
  generalize repB i = rb at *
  obtain ⟨neg, ty, v, lo, hi⟩ := i
  dsimp only [itA] at *
  have B0 := galloc (Below.refl w.heap.size w) (.cells #[.bool neg, .slice a ty.length c, .string v, .int .i64 lo, .int .i64 hi] 61)
  cases hag : agB op
  · rw [if_neg (by simp)]
    rw [hag] at cA
    by_cases h11 : op = 11
    · subst h11
      go_enter Tryz.func53, Tryz.ntmps53
      go_wp2_with (first
        | (go_at_call 62; (with_reducible refine (cA _).mono ?_); rintro _ _ ⟨rfl, rfl⟩)
        | (go_at_call 77; (with_reducible refine (cR _).mono ?_); rintro _ u ⟨rfl, gu⟩))
      go_ret
      exact ⟨by simp, gtrans B0 gu⟩
    · have d : (op != 11) = true := by simpa using h11
      rw [decide_eq_true h11]
      go_enter Tryz.func53, Tryz.ntmps53
      go_wp2_with (first
        | (go_at_call 62; (with_reducible refine (cA _).mono ?_); rintro _ _ ⟨rfl, rfl⟩))
      go_ret
      exact ⟨rfl, B0⟩
  · rw [if_pos rfl]
    rw [hag] at cA
    go_enter Tryz.func53, Tryz.ntmps53
    go_wp2_with (first
      | (go_at_call 62; (with_reducible refine (cA _).mono ?_); rintro _ _ ⟨rfl, rfl⟩))
    go_ret
    exact ⟨rfl, B0⟩
set_option maxHeartbeats 4000000 in
theorem mayRet_any (op : Int) (i : It) (a : Option Addr) (c : Nat) (w : World) :
    Calls Tryz.prog 58 #[.int .i64 op, itA i a c] w fun e w' => e = .returned (.bool (mayR op i)) ∧ Below w.heap.size w w' := by
  have cA := fun Y => isAgg_any op Y
  have cM := fun Y => mayAsk_any op i a c Y
  have cS := fun Y => isSgl_any i a c Y
  unfold mayR
  generalize mayA op i = mb at *
  generalize sglB i = sb at *
  obtain ⟨neg, ty, v, lo, hi⟩ := i
  dsimp only [itA] at *
  have B0 := galloc (Below.refl w.heap.size w) (.cells #[.bool neg, .slice a ty.length c, .string v, .int .i64 lo, .int .i64 hi] 61)
  have I0 := Bk.new w #[.bool neg, .slice a ty.length c, .string v, .int .i64 lo, .int .i64 hi] 61
  cases mb
  · go_enter Tryz.func58, Tryz.ntmps58
    go_wp2_with (first
      | (go_at_call 53; (with_reducible refine (cM _).mono ?_); rintro _ u ⟨rfl, gu⟩))
    go_ret
    exact ⟨rfl, gtrans B0 gu⟩
  cases hag : agB op
  · rw [hag] at cA
    go_enter Tryz.func58, Tryz.ntmps58
    go_wp2_with (first
      | (go_at_call 53; (with_reducible refine (cM _).mono ?_); rintro _ u ⟨rfl, gu⟩; obtain ⟨x0, x1, x2, x3, x4⟩ := (I0.keep gu).at5)
      | (go_at_call 62; (with_reducible refine (cA _).mono ?_); rintro _ _ ⟨rfl, rfl⟩)
      | (go_at_call 78; (with_reducible refine (cS _).mono ?_); rintro _ u2 ⟨rfl, gu2⟩))
    go_ret
    exact ⟨by simp, gtrans (gtrans B0 gu) gu2⟩
  · rw [hag] at cA
    go_enter Tryz.func58, Tryz.ntmps58
    go_wp2_with (first
      | (go_at_call 53; (with_reducible refine (cM _).mono ?_); rintro _ u ⟨rfl, gu⟩; obtain ⟨x0, x1, x2, x3, x4⟩ := (I0.keep gu).at5)
      | (go_at_call 62; (with_reducible refine (cA _).mono ?_); rintro _ _ ⟨rfl, rfl⟩))
    go_ret
    exact ⟨by simp, gtrans B0 gu⟩

theorem idx2_0 (x y : Int) (v : World) : (Instr.index 111 (.agg #[.int .i64 x, .int .i64 y]) (.int .i64 0)).run Tryz.prog v = .ok (.int .i64 x) v := by
  simp [Instr.index, run_underlying Tryz.underlying111, asIntOf, go_sem]
theorem idx2_1 (x y : Int) (v : World) : (Instr.index 111 (.agg #[.int .i64 x, .int .i64 y]) (.int .i64 1)).run Tryz.prog v = .ok (.int .i64 y) v := by
  simp [Instr.index, run_underlying Tryz.underlying111, asIntOf, go_sem]
abbrev ptr (b : Nat) : Value := .pointer (some ⟨b, 0, none⟩)
set_option maxHeartbeats 4000000 in
theorem hasAttr1_any (L : List Ty) (sa : Option Addr) (sn sc : Nat) (x t : ByteArray) (b1 b2 : Nat) (w : World) (A : IsTypes w sa sn L) (O1 : One w b1 (.slice sa sn sc) 34) (O2 : One w b2 (.string x) 9) :
    Calls Tryz.prog 80 #[.string t, ptr b1, ptr b2] w fun e w' => e = .returned (.bool (lacksA L x t)) ∧ Below w.heap.size w w' := by
  have hne : Nonempty (Ext w) := ⟨⟨_, Below.refl _ _⟩⟩
  have y1 : ∀ z : Ext w, Calls Tryz.prog 73 #[.agg #[.slice sa sn sc], .string t] z.X (fun e' w'' => e' = .returned (.int .i64 (typeI L t)) ∧ ∃ m : Ext w, w'' = m.X) := fun z => ext_of (typeOf_any sa sn sc L t z.X (A.keep z.h))
  have y2 : ∀ z : Ext w, Calls Tryz.prog 81 #[.agg #[.slice sa sn sc], .int .i64 (typeI L t), .string x] z.X (fun e' w'' => e' = .returned (.int .i64 (attrI L (typeI L t) x)) ∧ ∃ m : Ext w, w'' = m.X) := fun z => ext_of (attrOf_any sa sn sc L (typeI L t) x z.X (A.keep z.h))
  have p0 := fun z : Ext w => (z.cell _ _ (lt_of_cell O1.at0)).trans O1.at0
  have p1 := fun z : Ext w => (z.cell _ _ (lt_of_cell O2.at0)).trans O2.at0
  unfold lacksA
  generalize attrI L (typeI L t) x = at1 at *
  generalize typeI L t = ti at *
  have hd : decide (at1 = -1) = (at1 == -1) := by cases h : (at1 == -1) <;> simp_all
  rw [hd]
  clear hd
  generalize hb : (at1 == -1) = bb
  go_enter Tryz.func80, Tryz.ntmps80
  go_wp2
  refine wp_region_ext (by kernel_rfl) (by kernel_rfl) ?_
  repeat (go_big_quiet_step (first | (go_at_call 73; with_reducible exact y1 _) | (go_at_call 81; with_reducible exact y2 _)))
  refine wpQuiet_nil ?_
  intro _ hw'
  obtain ⟨nx, hw''⟩ := hw'
  subst hw''
  have G := nx.h
  generalize nx.X = X at *
  go_wp2
  go_ret
  exact ⟨rfl, G⟩
set_option maxHeartbeats 4000000 in
theorem indexS_any (f : ByteArray → Bool) (ss : List ByteArray) (hl : ss.length * 16 ≤ 140737488351232) (a : Option Addr) (c b1 b2 : Nat) (w : World) (A : IsSs w a ss)
    (hF : ∀ t Y, Below w.heap.size w Y → Calls Tryz.prog 80 #[.string t, ptr b1, ptr b2] Y fun e w' => e = .returned (.bool (f t)) ∧ Below Y.heap.size Y w') :
    Calls Tryz.prog 91 #[.slice a ss.length c, .func (.func 80) #[] #[ptr b1, ptr b2]] w fun e w' => (∃ z : Int, e = .returned (.int .i64 z) ∧ decide (0 ≤ z) = ss.any f) ∧ Below w.heap.size w w' := by
  obtain ⟨r, hr⟩ : ∃ r, ss.any f = r := ⟨_, rfl⟩
  rw [hr]
  have HR := show Hid (_ = _) from hr
  clear hr
  go_enter Tryz.func91, Tryz.ntmps91
  go_wp2
  go_loopw [5, 8] (fun _ x wr => (∃ k : Nat, k ≤ ss.length ∧ x = .int .i64 k ∧ (ss.drop k).any f = r) ∧ Below w.heap.size w wr) (fun _ x _ => ss.length - (intOf x).toNat)
  case atStart => exact ⟨⟨0, Nat.zero_le _, rfl, HR.out⟩, Below.refl _ _⟩
  case round =>
    clear HR
    obtain ⟨⟨k, hk, rfl, hd⟩, G⟩ := hrel
    by_cases hlt : k < ss.length
    · have hki : (k : Int) < (ss.length : Int) := by omega
      rw [any_drop f ss eS hlt] at hd
      obtain ⟨g, o, rfl, a0⟩ := (A.keep G) k hlt
      have cN := hF (ss.getD k eS) wr G
      generalize ss.getD k eS = y at *
      generalize f y = b at *
      have HD := show Hid (_ = _) from hd
      clear hd
      cases b
      · have HD2 : Hid ((ss.drop (k + 1)).any f = r) := HD.out
        clear HD
        go_wp2_with (go_at_call 80; (with_reducible refine cN.mono ?_); rintro _ u ⟨rfl, gu⟩)
        go_roundw
        case rel => exact ⟨⟨k + 1, by omega, by go_num, HD2.out⟩, gtrans G gu⟩
        case measure => simp [intOf]; omega
      · have h2 : true = r := HD.out
        subst h2
        clear HD
        go_wp2_with (go_at_call 80; (with_reducible refine cN.mono ?_); rintro _ u ⟨rfl, gu⟩)
        go_ret
        exact ⟨⟨_, rfl, decide_eq_true (by omega)⟩, gtrans G gu⟩
    · have hki : ¬ (k : Int) < (ss.length : Int) := by omega
      rw [any_end f ss hlt] at hd
      subst hd
      go_wp2
      go_ret
      exact ⟨⟨_, rfl, by decide⟩, G⟩
set_option maxHeartbeats 4000000 in
theorem containsS_any (f : ByteArray → Bool) (ss : List ByteArray) (hl : ss.length * 16 ≤ 140737488351232) (a : Option Addr) (c b1 b2 : Nat) (w : World) (A : IsSs w a ss)
    (hF : ∀ t Y, Below w.heap.size w Y → Calls Tryz.prog 80 #[.string t, ptr b1, ptr b2] Y fun e w' => e = .returned (.bool (f t)) ∧ Below Y.heap.size Y w') :
    Calls Tryz.prog 79 #[.slice a ss.length c, .func (.func 80) #[] #[ptr b1, ptr b2]] w fun e w' => e = .returned (.bool (ss.any f)) ∧ Below w.heap.size w w' := by
  have cI := indexS_any f ss hl a c b1 b2 w A hF
  go_enter Tryz.func79, Tryz.ntmps79
  go_wp2_with (go_at_call 91; (with_reducible refine cI.mono ?_); rintro _ u ⟨⟨z, rfl, hz⟩, gu⟩)
  go_ret
  exact ⟨by rw [← hz]; rfl, gu⟩
set_option maxHeartbeats 4000000 in
theorem hasAttr_any (L : List Ty) (sa : Option Addr) (sn sc : Nat) (i : It) (hi : i.fit) (a : Option Addr) (c : Nat) (x : ByteArray) (w : World) (A : IsTypes w sa sn L) (AS : IsSs w a i.ty) :
    Calls Tryz.prog 56 #[.agg #[.slice sa sn sc], itA i a c, .string x] w fun e w' => e = .returned (.bool (hasA L i x)) ∧ Below w.heap.size w w' := by
  have hn := hi.n
  have B0 := galloc (galloc (galloc (Below.refl w.heap.size w) (.cells #[.slice sa sn sc] 34)) (.cells #[.bool i.neg, .slice a i.ty.length c, .string i.v, .int .i64 i.lo, .int .i64 i.hi] 61)) (.cells #[.string x] 9)
  have O1 := ((One.new w (.slice sa sn sc) 34).alloc (.cells #[.bool i.neg, .slice a i.ty.length c, .string i.v, .int .i64 i.lo, .int .i64 i.hi] 61)).alloc (.cells #[.string x] 9)
  have O2 : One (((w.alloc (.cells #[.slice sa sn sc] 34)).alloc (.cells #[.bool i.neg, .slice a i.ty.length c, .string i.v, .int .i64 i.lo, .int .i64 i.hi] 61)).alloc (.cells #[.string x] 9)) (w.heap.size + 2) (.string x) 9 := by
    have h := One.new ((w.alloc (.cells #[.slice sa sn sc] 34)).alloc (.cells #[.bool i.neg, .slice a i.ty.length c, .string i.v, .int .i64 i.lo, .int .i64 i.hi] 61)) (.string x) 9
    rw [show ((w.alloc (.cells #[.slice sa sn sc] 34)).alloc (.cells #[.bool i.neg, .slice a i.ty.length c, .string i.v, .int .i64 i.lo, .int .i64 i.hi] 61)).heap.size = w.heap.size + 2 by simp] at h
    exact h
  have cC := containsS_any (lacksA L x) i.ty hn a c w.heap.size (w.heap.size + 2) _ (AS.keep B0) (fun t Y G => hasAttr1_any L sa sn sc x t w.heap.size (w.heap.size + 2) Y (A.keep (gtrans B0 G)) (O1.keep G) (O2.keep G))
  unfold hasA
  generalize i.ty.any (lacksA L x) = b at *
  dsimp only [itA] at *
  clear AS O1 O2
  go_enter Tryz.func56, Tryz.ntmps56
  go_wp2_with (go_at_call 79; (with_reducible refine cC.mono ?_); rintro _ u ⟨rfl, gu⟩)
  go_ret
  exact ⟨rfl, gtrans B0 gu⟩

set_option maxRecDepth 100000 in
set_option maxHeartbeats 8000000 in
theorem kinds_any (t : List Nd) (hr : t.length * 64 ≤ 140737488351232) (n : Nd) (hl0 : n.l < (t.length : Int)) (hr0 : n.r < (t.length : Int)) (ao : Option Addr) (cap : Nat) (w : World) (A : IsNds w ao t) :
    Calls Tryz.prog 76 #[.slice ao t.length cap, .agg #[.int .i64 n.op, .int .i64 n.n, .string n.v, .string n.x, .int .i64 n.l, .int .i64 n.r]] w fun e w' => e = .returned (.int .i64 (kinE t n)) ∧ Below w.heap.size w w' := by
  have B0 := galloc (Below.refl w.heap.size w) (.cells #[.int .i64 n.op, .int .i64 n.n, .string n.v, .string n.x, .int .i64 n.l, .int .i64 n.r] 29)
  have N0 := Bk.new w #[.int .i64 n.op, .int .i64 n.n, .string n.v, .string n.x, .int .i64 n.l, .int .i64 n.r] 29
  obtain ⟨nop, nn, nv, nx, nl, nr⟩ := n
  dsimp only at *
  have AV := A.keep B0
  obtain ⟨r, hrr⟩ : ∃ r, kinE t ⟨nop, nn, nv, nx, nl, nr⟩ = r := ⟨_, rfl⟩
  rw [hrr]
  have HR : Hid ((if kin1 t nop nl = true then 75 else if kin1 t nop nr = true then (75 : Int) else 0) = r) := hrr
  clear hrr
  go_enter Tryz.func76, Tryz.ntmps76
  go_wp2
  generalize w.alloc (.cells #[.int .i64 nop, .int .i64 nn, .string nv, .string nx, .int .i64 nl, .int .i64 nr] 29) = V at *
  go_loopw [6, 12] (fun _ x wr => (∃ k : Nat, k ≤ 2 ∧ x = .int .i64 k ∧ (1 ≤ k → kin1 t nop nl = false) ∧ (2 ≤ k → kin1 t nop nr = false)) ∧ Below V.heap.size V wr) (fun _ x _ => 2 - (intOf x).toNat)
  case atStart => exact ⟨⟨0, Nat.zero_le _, rfl, fun h => by omega, fun h => by omega⟩, Below.refl _ _⟩
  case round =>
    obtain ⟨⟨k, hk, rfl, hk1, hk2⟩, G⟩ := hrel
    obtain ⟨m0, m1, m2, m3, m4, m5⟩ := (N0.keep G).at6
    have BW := gtrans B0 G
    rcases (show k = 0 ∨ k = 1 ∨ k = 2 from by omega) with rfl | rfl | rfl
    · obtain ⟨b, hb⟩ : ∃ b, kin1 t nop nl = b := ⟨_, rfl⟩
      have HK := show Hid (_ = _) from hb
      clear hb
      by_cases h0 : 0 ≤ nl
      · obtain ⟨z, rfl⟩ : ∃ z : Nat, nl = z := ⟨nl.toNat, by omega⟩
        obtain ⟨g, o, rfl, x0, x1, x2, x3, x4, x5⟩ := (AV.keep G) z (by omega)
        have hzi : (z : Int) < (t.length : Int) := by omega
        have hb2 : (trB (t.getD z noNd).op != jnB nop) = b := by
          have := HK.out
          unfold kin1 at this
          rw [decide_eq_true h0] at this
          exact this
        have hne : Nonempty (Ext wr) := ⟨⟨_, Below.refl _ _⟩⟩
        have y1 : ∀ z' : Ext wr, Calls Tryz.prog 39 #[.int .i64 (t.getD z noNd).op] z'.X (fun e' w'' => e' = .returned (.bool (trB (t.getD z noNd).op)) ∧ ∃ m : Ext wr, w'' = m.X) := fun z' => (isTruth_any _ z'.X).mono fun _ _ ⟨he, hw⟩ => ⟨he, z', hw.symm⟩
        have y2 : ∀ z' : Ext wr, Calls Tryz.prog 64 #[.int .i64 nop] z'.X (fun e' w'' => e' = .returned (.bool (jnB nop)) ∧ ∃ m : Ext wr, w'' = m.X) := fun z' => (joins_any _ z'.X).mono fun _ _ ⟨he, hw⟩ => ⟨he, z', hw.symm⟩
        have ix := idx2_0
        have p0 := fun z' : Ext wr => (z'.cell _ _ (lt_of_cell x0)).trans x0
        have p1 := fun z' : Ext wr => (z'.cell _ _ (lt_of_cell m0)).trans m0
        generalize (t.getD z noNd).op = top at *
        generalize trB top = tb at *
        generalize jnB nop = jb at *
        clear x0 x1 x2 x3 x4 x5
        cases tb <;> cases jb
        all_goals
          have hb3 := hb2.symm
          simp at hb3
          subst hb3
          clear hb2
          go_wp2
          refine wp_region_ext (by kernel_rfl) (by kernel_rfl) ?_
          repeat (go_big_quiet_step (first | (go_at_call 39; with_reducible exact y1 _) | (go_at_call 64; with_reducible exact y2 _)))
          refine wpQuiet_nil ?_
          intro _ hw'
          obtain ⟨nw, hw''⟩ := hw'
          subst hw''
          have G2 := gtrans G nw.h
          have BW2 := gtrans BW nw.h
          generalize nw.X = X at *
          clear p0 p1 y1 y2 hne
          first
            | (have e : (75 : Int) = r := (by rw [← HR.out, if_pos HK.out])
               subst e
               go_wp2
               go_ret
               exact ⟨rfl, BW2⟩)
            | (go_wp2
               go_roundw
               case rel => exact ⟨⟨1, by omega, by go_num, fun _ => HK.out, fun h => by omega⟩, G2⟩
               case measure => simp [intOf])
      · have hb2 : b = false := by
          rw [← HK.out]
          unfold kin1
          rw [decide_eq_false h0]
          rfl
        subst hb2
        have d0 := decide_eq_false h0
        have ix := idx2_0
        have hne : Nonempty (Ext wr) := ⟨⟨_, Below.refl _ _⟩⟩
        go_wp2
        refine wp_region_ext (by kernel_rfl) (by kernel_rfl) ?_
        repeat (go_big_quiet_step (fail))
        refine wpQuiet_nil ?_
        intro _ hw'
        obtain ⟨nw, hw''⟩ := hw'
        subst hw''
        have G2 := gtrans G nw.h
        generalize nw.X = X at *
        go_wp2
        go_roundw
        case rel => exact ⟨⟨1, by omega, by go_num, fun _ => HK.out, fun h => by omega⟩, G2⟩
        case measure => simp [intOf]
    · obtain ⟨b, hb⟩ : ∃ b, kin1 t nop nr = b := ⟨_, rfl⟩
      have HK := show Hid (_ = _) from hb
      clear hb
      by_cases h0 : 0 ≤ nr
      · obtain ⟨z, rfl⟩ : ∃ z : Nat, nr = z := ⟨nr.toNat, by omega⟩
        obtain ⟨g, o, rfl, x0, x1, x2, x3, x4, x5⟩ := (AV.keep G) z (by omega)
        have hzi : (z : Int) < (t.length : Int) := by omega
        have hb2 : (trB (t.getD z noNd).op != jnB nop) = b := by
          have := HK.out
          unfold kin1 at this
          rw [decide_eq_true h0] at this
          exact this
        have hne : Nonempty (Ext wr) := ⟨⟨_, Below.refl _ _⟩⟩
        have y1 : ∀ z' : Ext wr, Calls Tryz.prog 39 #[.int .i64 (t.getD z noNd).op] z'.X (fun e' w'' => e' = .returned (.bool (trB (t.getD z noNd).op)) ∧ ∃ m : Ext wr, w'' = m.X) := fun z' => (isTruth_any _ z'.X).mono fun _ _ ⟨he, hw⟩ => ⟨he, z', hw.symm⟩
        have y2 : ∀ z' : Ext wr, Calls Tryz.prog 64 #[.int .i64 nop] z'.X (fun e' w'' => e' = .returned (.bool (jnB nop)) ∧ ∃ m : Ext wr, w'' = m.X) := fun z' => (joins_any _ z'.X).mono fun _ _ ⟨he, hw⟩ => ⟨he, z', hw.symm⟩
        have ix := idx2_1
        have p0 := fun z' : Ext wr => (z'.cell _ _ (lt_of_cell x0)).trans x0
        have p1 := fun z' : Ext wr => (z'.cell _ _ (lt_of_cell m0)).trans m0
        generalize (t.getD z noNd).op = top at *
        generalize trB top = tb at *
        generalize jnB nop = jb at *
        clear x0 x1 x2 x3 x4 x5
        cases tb <;> cases jb
        all_goals
          have hb3 := hb2.symm
          simp at hb3
          subst hb3
          clear hb2
          go_wp2
          refine wp_region_ext (by kernel_rfl) (by kernel_rfl) ?_
          repeat (go_big_quiet_step (first | (go_at_call 39; with_reducible exact y1 _) | (go_at_call 64; with_reducible exact y2 _)))
          refine wpQuiet_nil ?_
          intro _ hw'
          obtain ⟨nw, hw''⟩ := hw'
          subst hw''
          have G2 := gtrans G nw.h
          have BW2 := gtrans BW nw.h
          generalize nw.X = X at *
          clear p0 p1 y1 y2 hne
          first
            | (have e : (75 : Int) = r := (by rw [← HR.out, if_neg (by rw [hk1 (by omega)]; simp), if_pos HK.out])
               subst e
               go_wp2
               go_ret
               exact ⟨rfl, BW2⟩)
            | (go_wp2
               go_roundw
               case rel => exact ⟨⟨2, by omega, by go_num, fun _ => hk1 (by omega), fun _ => HK.out⟩, G2⟩
               case measure => simp [intOf])
      · have hb2 : b = false := by
          rw [← HK.out]
          unfold kin1
          rw [decide_eq_false h0]
          rfl
        subst hb2
        have d0 := decide_eq_false h0
        have ix := idx2_1
        have hne : Nonempty (Ext wr) := ⟨⟨_, Below.refl _ _⟩⟩
        go_wp2
        refine wp_region_ext (by kernel_rfl) (by kernel_rfl) ?_
        repeat (go_big_quiet_step (fail))
        refine wpQuiet_nil ?_
        intro _ hw'
        obtain ⟨nw, hw''⟩ := hw'
        subst hw''
        have G2 := gtrans G nw.h
        generalize nw.X = X at *
        go_wp2
        go_roundw
        case rel => exact ⟨⟨2, by omega, by go_num, fun _ => hk1 (by omega), fun _ => HK.out⟩, G2⟩
        case measure => simp [intOf]
    · have e : (0 : Int) = r := by rw [← HR.out, if_neg (by rw [hk1 (by omega)]; simp), if_neg (by rw [hk2 (by omega)]; simp)]
      subst e
      go_wp2
      go_ret
      exact ⟨rfl, BW⟩

end Go.Proofs.YtlejhococjlijaaGreatDoor
