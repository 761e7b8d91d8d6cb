/- The look at a node, walk over a tree, lookFor. -/
import Derived.Test.YtlejhococjlijaaGreatDoorCkc
namespace Go.Proofs.YtlejhococjlijaaGreatDoor
open Go.RowKit Go.BigFrame
set_option linter.unusedVariables false
set_option linter.unusedSimpArgs false

theorem Bk.at9 {w : World} {b : Nat} {c0 c1 c2 c3 c4 c5 c6 c7 c8 : Value} {t : TypeId} (h : Bk w b #[c0, c1, c2, c3, c4, c5, c6, c7, c8] t) : w.cell? ⟨b, 0, none⟩ = some c0 ∧ w.cell? ⟨b, 1, none⟩ = some c1 ∧ w.cell? ⟨b, 2, none⟩ = some c2 ∧ w.cell? ⟨b, 3, none⟩ = some c3 ∧ w.cell? ⟨b, 4, none⟩ = some c4 ∧ w.cell? ⟨b, 5, none⟩ = some c5 ∧ w.cell? ⟨b, 6, none⟩ = some c6 ∧ w.cell? ⟨b, 7, none⟩ = some c7 ∧ w.cell? ⟨b, 8, none⟩ = some c8 :=
  ⟨cell_of_row w b 0 _ _ _ h, cell_of_row w b 1 _ _ _ h, cell_of_row w b 2 _ _ _ h, cell_of_row w b 3 _ _ _ h, cell_of_row w b 4 _ _ _ h, cell_of_row w b 5 _ _ _ h, cell_of_row w b 6 _ _ _ h, cell_of_row w b 7 _ _ _ h, cell_of_row w b 8 _ _ _ h⟩
/-- What a map of items tells is a place among them. -/
def MapsIn (M : ByteArray → Option Int) (n : Nat) : Prop := ∀ s j, M s = some j → 0 ≤ j ∧ j < (n : Int)
set_option maxRecDepth 100000 in
set_option maxHeartbeats 16000000 in
theorem lookA_any (L : List Ty) (its : List It) (hn : its.length * 64 ≤ 140737488351232) (hits : ∀ k, (its.getD k noIt).fit) (M : ByteArray → Option Int) (hM : MapsIn M its.length) (sa : Option Addr) (sn sc : Nat) (ai : Option Addr) (ci : Nat) (mode after : Int) (aw : Option Addr) (wl cw : Nat) (within : Int) (by_ : ByteArray) (ar : Option Addr) (rl cr bm nm : Nat) (t : List Nd) (hr : t.length * 64 ≤ 140737488351232) (hfit : ∀ k, (t.getD k noNd).fit) (k : Nat) (hk : k < t.length) (hl0 : (t.getD k noNd).l < (t.length : Int)) (hr0 : (t.getD k noNd).r < (t.length : Int)) (ao : Option Addr) (cap bc bf : Nat) (w : World) (A : IsTypes w sa sn L) (AI : IsIts w ai its) (AT : IsNds w ao t) (MP : MpAt w bm nm M) (C : Bk w bc #[.slice sa sn sc, .slice ai its.length ci, .int .i64 mode, .int .i64 after, .slice aw wl cw, .int .i64 within, .string by_, .slice ar rl cr, .map (some bm)] 71) (O : One w bf (.func (.func 53) #[] #[]) 92) :
    Calls Tryz.prog 75 #[.slice ao t.length cap, .int .i64 (k : Int), ptr bc, ptr bf] w fun e w' => e = .returned (.int .i64 (lookE L its M mayA t k)) ∧ Below w.heap.size w w' := by
  obtain ⟨g, o, rfl, x0, x1, x2, x3, x4, x5⟩ := AT k hk
  have hki : (k : Int) < (t.length : Int) := by omega
  have hyf := hfit k
  unfold lookE
  dsimp only
  have cK := fun Y (G : Below w.heap.size w Y) => kinds_any t hr (t.getD k noNd) hl0 hr0 (some ⟨g, o, none⟩) cap Y (AT.keep G)
  generalize kinE t (t.getD k noNd) = kn at *
  obtain ⟨y, hy⟩ : ∃ y, t.getD k noNd = y := ⟨_, rfl⟩
  rw [hy] at x0 x1 x2 x3 x4 x5 cK hyf hl0 hr0 ⊢
  clear hy
  have B0 := galloc (Below.refl w.heap.size w) (.cells #[.int .i64 y.op, .int .i64 y.n, .string y.v, .string y.x, .int .i64 y.l, .int .i64 y.r] 29)
  have N0 := Bk.new w #[.int .i64 y.op, .int .i64 y.n, .string y.v, .string y.x, .int .i64 y.l, .int .i64 y.r] 29
  have cB := fun Y => isBare_any y.op Y
  have cA := fun Y => isAgg_any y.op Y
  have hvs := hyf.v
  obtain ⟨yop, yn, yv, yx, yl, yr⟩ := y
  dsimp only at *
  generalize hba : baB yop = ba at *
  generalize hag : agB yop = ag at *
  have C1 := C.keep B0
  have MP1 := MP.keep B0
  have O1 := O.keep B0
  have of0 := O1.at0
  obtain ⟨c0, c1, c2, c3, c4, c5, c6, c7, c8⟩ := C1.at9
  have lk := MP1.look yv hvs
  by_cases hkind : ba = false ∧ ag = false
  · rw [if_pos hkind]
    obtain ⟨rfl, rfl⟩ := hkind
    go_enter Tryz.func75, Tryz.ntmps75
    go_wp2_with (first
      | (go_at_call 61; (with_reducible refine (cB _).mono ?_); rintro _ _ ⟨rfl, rfl⟩)
      | (go_at_call 62; (with_reducible refine (cA _).mono ?_); rintro _ _ ⟨rfl, rfl⟩)
      | (go_at_call 76; (with_reducible refine (cK _ B0).mono ?_); rintro _ u ⟨rfl, gu⟩))
    go_ret
    exact ⟨rfl, gtrans B0 gu⟩
  rw [if_neg hkind]
  cases hMv : M yv with
  | none =>
    rw [hMv] at lk
    dsimp only at lk ⊢
    simp only [Option.getD_none, Option.isSome_none] at lk
    cases ba
    · obtain rfl : ag = true := by cases ag; exact absurd ⟨rfl, rfl⟩ hkind; rfl
      clear hkind hba hag
      go_enter Tryz.func75, Tryz.ntmps75
      go_wp2_with (first
        | (go_at_call 61; (with_reducible refine (cB _).mono ?_); rintro _ _ ⟨rfl, rfl⟩)
        | (go_at_call 62; (with_reducible refine (cA _).mono ?_); rintro _ _ ⟨rfl, rfl⟩))
      go_ret
      exact ⟨rfl, B0⟩
    · clear hkind hba hag
      go_enter Tryz.func75, Tryz.ntmps75
      go_wp2_with (first
        | (go_at_call 61; (with_reducible refine (cB _).mono ?_); rintro _ _ ⟨rfl, rfl⟩))
      go_ret
      exact ⟨rfl, B0⟩
  | some j =>
    rw [hMv] at lk
    simp only [Option.getD_some, Option.isSome_some] at lk
    obtain ⟨hj0, hj1⟩ := hM yv j hMv
    obtain ⟨jj, rfl⟩ : ∃ jj : Nat, j = jj := ⟨j.toNat, by omega⟩
    clear hMv
    have hjl : jj < its.length := by omega
    dsimp only
    rw [Int.toNat_natCast]
    obtain ⟨gi, oi, rfl, ia, ic, i0, i1, i2, i3, i4, is', _⟩ := (AI.keep B0) jj hjl
    have hif := hits jj
    generalize its.getD jj noIt = it at *
    have B1 := galloc B0 (.cells #[.bool it.neg, .slice ia it.ty.length ic, .string it.v, .int .i64 it.lo, .int .i64 it.hi] 61)
    have cH := hasAttr_any L sa sn sc it hif ia ic yx _ (A.keep B1) (is'.keep (galloc (Below.refl _ _) (.cells #[.bool it.neg, .slice ia it.ty.length ic, .string it.v, .int .i64 it.lo, .int .i64 it.hi] 61)))
    have cM := fun Y => mayAsk_any yop it ia ic Y
    have I1 := Bk.newE (w := w.alloc (.cells #[.int .i64 (⟨yop, yn, yv, yx, yl, yr⟩ : Nd).op, .int .i64 (⟨yop, yn, yv, yx, yl, yr⟩ : Nd).n, .string (⟨yop, yn, yv, yx, yl, yr⟩ : Nd).v, .string (⟨yop, yn, yv, yx, yl, yr⟩ : Nd).x, .int .i64 (⟨yop, yn, yv, yx, yl, yr⟩ : Nd).l, .int .i64 (⟨yop, yn, yv, yx, yl, yr⟩ : Nd).r] 29)) (g := w.heap.size + 1) (by simp) #[.bool it.neg, .slice ia it.ty.length ic, .string it.v, .int .i64 it.lo, .int .i64 it.hi] 61
    have N1 := N0.alloc (.cells #[.bool it.neg, .slice ia it.ty.length ic, .string it.v, .int .i64 it.lo, .int .i64 it.hi] 61)
    have O2 := O1.alloc (.cells #[.bool it.neg, .slice ia it.ty.length ic, .string it.v, .int .i64 it.lo, .int .i64 it.hi] 61)
    have of2 := O2.at0
    obtain ⟨e0, e1, e2, e3, e4, e5, e6, e7, e8⟩ := (C1.alloc (.cells #[.bool it.neg, .slice ia it.ty.length ic, .string it.v, .int .i64 it.lo, .int .i64 it.hi] 61)).at9
    generalize hasA L it yx = ha at *
    generalize mayA yop it = mb at *
    obtain ⟨ineg, ity, iv, ilo, ihi⟩ := it
    dsimp only [itA] at *
    clear is' hif AI A MP C
    have fin : ∀ b, (ba = b ∨ ag = true) → True := fun _ _ => trivial
    by_cases h5 : yop = 5
    · subst h5
      rw [if_neg (by simp)]
      obtain rfl : ba = false := by rw [← hba]; decide
      obtain rfl : ag = true := by rw [← hag]; decide
      clear hkind hba hag cH
      cases mb
      · go_enter Tryz.func75, Tryz.ntmps75
        go_wp2_with (first
          | (go_at_call 61; (with_reducible refine (cB _).mono ?_); rintro _ _ ⟨rfl, rfl⟩)
          | (go_at_call 62; (with_reducible refine (cA _).mono ?_); rintro _ _ ⟨rfl, rfl⟩)
          | (go_at_call 53; (with_reducible refine (cM _).mono ?_); rintro _ u ⟨rfl, gu⟩))
        go_ret
        exact ⟨rfl, gtrans B1 gu⟩
      · go_enter Tryz.func75, Tryz.ntmps75
        go_wp2_with (first
          | (go_at_call 61; (with_reducible refine (cB _).mono ?_); rintro _ _ ⟨rfl, rfl⟩)
          | (go_at_call 62; (with_reducible refine (cA _).mono ?_); rintro _ _ ⟨rfl, rfl⟩)
          | (go_at_call 53; (with_reducible refine (cM _).mono ?_); rintro _ u ⟨rfl, gu⟩))
        go_ret
        exact ⟨rfl, gtrans B1 gu⟩
    · have d5 : (yop != 5) = true := by simpa using h5
      have hor : ba = true ∨ (ba = false ∧ ag = true) := by
        cases ba
        · cases ag
          · exact absurd ⟨rfl, rfl⟩ hkind
          · exact .inr ⟨rfl, rfl⟩
        · exact .inl rfl
      clear hkind hba hag
      cases ha
      · rw [if_pos ⟨h5, rfl⟩]
        clear h5
        rcases hor with rfl | ⟨rfl, rfl⟩
        all_goals
          go_enter Tryz.func75, Tryz.ntmps75
          go_wp2_with (first
            | (go_at_call 61; (with_reducible refine (cB _).mono ?_); rintro _ _ ⟨rfl, rfl⟩)
            | (go_at_call 62; (with_reducible refine (cA _).mono ?_); rintro _ _ ⟨rfl, rfl⟩)
            | (go_at_call 56; (with_reducible refine cH.mono ?_); rintro _ u ⟨rfl, gu⟩))
          go_ret
          exact ⟨rfl, gtrans B1 gu⟩
      · rw [if_neg (by simp)]
        clear h5
        cases mb
        all_goals
          rcases hor with rfl | ⟨rfl, rfl⟩
          all_goals
            go_enter Tryz.func75, Tryz.ntmps75
            go_wp2_with (first
              | (go_at_call 61; (with_reducible refine (cB _).mono ?_); rintro _ _ ⟨rfl, rfl⟩)
              | (go_at_call 62; (with_reducible refine (cA _).mono ?_); rintro _ _ ⟨rfl, rfl⟩)
              | (go_at_call 56; (with_reducible refine cH.mono ?_); rintro _ u ⟨rfl, gu⟩; have fu := (O2.keep gu).at0; obtain ⟨q0, q1, q2, q3, q4⟩ := (I1.keep gu).at5; obtain ⟨n0, n1, n2, n3, n4, n5⟩ := (N1.keep gu).at6)
              | (go_at_call 53; (with_reducible refine (cM _).mono ?_); rintro _ u2 ⟨rfl, gu2⟩))
            go_ret
            exact ⟨rfl, gtrans (gtrans B1 gu) gu2⟩
set_option maxRecDepth 100000 in
set_option maxHeartbeats 16000000 in
theorem lookR_any (L : List Ty) (its : List It) (hn : its.length * 64 ≤ 140737488351232) (hits : ∀ k, (its.getD k noIt).fit) (M : ByteArray → Option Int) (hM : MapsIn M its.length) (sa : Option Addr) (sn sc : Nat) (ai : Option Addr) (ci : Nat) (mode after : Int) (aw : Option Addr) (wl cw : Nat) (within : Int) (by_ : ByteArray) (ar : Option Addr) (rl cr bm nm : Nat) (t : List Nd) (hr : t.length * 64 ≤ 140737488351232) (hfit : ∀ k, (t.getD k noNd).fit) (k : Nat) (hk : k < t.length) (hl0 : (t.getD k noNd).l < (t.length : Int)) (hr0 : (t.getD k noNd).r < (t.length : Int)) (ao : Option Addr) (cap bc bf : Nat) (w : World) (A : IsTypes w sa sn L) (AI : IsIts w ai its) (AT : IsNds w ao t) (MP : MpAt w bm nm M) (C : Bk w bc #[.slice sa sn sc, .slice ai its.length ci, .int .i64 mode, .int .i64 after, .slice aw wl cw, .int .i64 within, .string by_, .slice ar rl cr, .map (some bm)] 71) (O : One w bf (.func (.func 58) #[] #[]) 92) :
    Calls Tryz.prog 75 #[.slice ao t.length cap, .int .i64 (k : Int), ptr bc, ptr bf] w fun e w' => e = .returned (.int .i64 (lookE L its M mayR t k)) ∧ Below w.heap.size w w' := by
  obtain ⟨g, o, rfl, x0, x1, x2, x3, x4, x5⟩ := AT k hk
  have hki : (k : Int) < (t.length : Int) := by omega
  have hyf := hfit k
  unfold lookE
  dsimp only
  have cK := fun Y (G : Below w.heap.size w Y) => kinds_any t hr (t.getD k noNd) hl0 hr0 (some ⟨g, o, none⟩) cap Y (AT.keep G)
  generalize kinE t (t.getD k noNd) = kn at *
  obtain ⟨y, hy⟩ : ∃ y, t.getD k noNd = y := ⟨_, rfl⟩
  rw [hy] at x0 x1 x2 x3 x4 x5 cK hyf hl0 hr0 ⊢
  clear hy
  have B0 := galloc (Below.refl w.heap.size w) (.cells #[.int .i64 y.op, .int .i64 y.n, .string y.v, .string y.x, .int .i64 y.l, .int .i64 y.r] 29)
  have N0 := Bk.new w #[.int .i64 y.op, .int .i64 y.n, .string y.v, .string y.x, .int .i64 y.l, .int .i64 y.r] 29
  have cB := fun Y => isBare_any y.op Y
  have cA := fun Y => isAgg_any y.op Y
  have hvs := hyf.v
  obtain ⟨yop, yn, yv, yx, yl, yr⟩ := y
  dsimp only at *
  generalize hba : baB yop = ba at *
  generalize hag : agB yop = ag at *
  have C1 := C.keep B0
  have MP1 := MP.keep B0
  have O1 := O.keep B0
  have of0 := O1.at0
  obtain ⟨c0, c1, c2, c3, c4, c5, c6, c7, c8⟩ := C1.at9
  have lk := MP1.look yv hvs
  by_cases hkind : ba = false ∧ ag = false
  · rw [if_pos hkind]
    obtain ⟨rfl, rfl⟩ := hkind
    go_enter Tryz.func75, Tryz.ntmps75
    go_wp2_with (first
      | (go_at_call 61; (with_reducible refine (cB _).mono ?_); rintro _ _ ⟨rfl, rfl⟩)
      | (go_at_call 62; (with_reducible refine (cA _).mono ?_); rintro _ _ ⟨rfl, rfl⟩)
      | (go_at_call 76; (with_reducible refine (cK _ B0).mono ?_); rintro _ u ⟨rfl, gu⟩))
    go_ret
    exact ⟨rfl, gtrans B0 gu⟩
  rw [if_neg hkind]
  cases hMv : M yv with
  | none =>
    rw [hMv] at lk
    dsimp only at lk ⊢
    simp only [Option.getD_none, Option.isSome_none] at lk
    cases ba
    · obtain rfl : ag = true := by cases ag; exact absurd ⟨rfl, rfl⟩ hkind; rfl
      clear hkind hba hag
      go_enter Tryz.func75, Tryz.ntmps75
      go_wp2_with (first
        | (go_at_call 61; (with_reducible refine (cB _).mono ?_); rintro _ _ ⟨rfl, rfl⟩)
        | (go_at_call 62; (with_reducible refine (cA _).mono ?_); rintro _ _ ⟨rfl, rfl⟩))
      go_ret
      exact ⟨rfl, B0⟩
    · clear hkind hba hag
      go_enter Tryz.func75, Tryz.ntmps75
      go_wp2_with (first
        | (go_at_call 61; (with_reducible refine (cB _).mono ?_); rintro _ _ ⟨rfl, rfl⟩))
      go_ret
      exact ⟨rfl, B0⟩
  | some j =>
    rw [hMv] at lk
    simp only [Option.getD_some, Option.isSome_some] at lk
    obtain ⟨hj0, hj1⟩ := hM yv j hMv
    obtain ⟨jj, rfl⟩ : ∃ jj : Nat, j = jj := ⟨j.toNat, by omega⟩
    clear hMv
    have hjl : jj < its.length := by omega
    dsimp only
    rw [Int.toNat_natCast]
    obtain ⟨gi, oi, rfl, ia, ic, i0, i1, i2, i3, i4, is', _⟩ := (AI.keep B0) jj hjl
    have hif := hits jj
    generalize its.getD jj noIt = it at *
    have B1 := galloc B0 (.cells #[.bool it.neg, .slice ia it.ty.length ic, .string it.v, .int .i64 it.lo, .int .i64 it.hi] 61)
    have cH := hasAttr_any L sa sn sc it hif ia ic yx _ (A.keep B1) (is'.keep (galloc (Below.refl _ _) (.cells #[.bool it.neg, .slice ia it.ty.length ic, .string it.v, .int .i64 it.lo, .int .i64 it.hi] 61)))
    have cM := fun Y => mayRet_any yop it ia ic Y
    have I1 := Bk.newE (w := w.alloc (.cells #[.int .i64 (⟨yop, yn, yv, yx, yl, yr⟩ : Nd).op, .int .i64 (⟨yop, yn, yv, yx, yl, yr⟩ : Nd).n, .string (⟨yop, yn, yv, yx, yl, yr⟩ : Nd).v, .string (⟨yop, yn, yv, yx, yl, yr⟩ : Nd).x, .int .i64 (⟨yop, yn, yv, yx, yl, yr⟩ : Nd).l, .int .i64 (⟨yop, yn, yv, yx, yl, yr⟩ : Nd).r] 29)) (g := w.heap.size + 1) (by simp) #[.bool it.neg, .slice ia it.ty.length ic, .string it.v, .int .i64 it.lo, .int .i64 it.hi] 61
    have N1 := N0.alloc (.cells #[.bool it.neg, .slice ia it.ty.length ic, .string it.v, .int .i64 it.lo, .int .i64 it.hi] 61)
    have O2 := O1.alloc (.cells #[.bool it.neg, .slice ia it.ty.length ic, .string it.v, .int .i64 it.lo, .int .i64 it.hi] 61)
    have of2 := O2.at0
    obtain ⟨e0, e1, e2, e3, e4, e5, e6, e7, e8⟩ := (C1.alloc (.cells #[.bool it.neg, .slice ia it.ty.length ic, .string it.v, .int .i64 it.lo, .int .i64 it.hi] 61)).at9
    generalize hasA L it yx = ha at *
    generalize mayR yop it = mb at *
    obtain ⟨ineg, ity, iv, ilo, ihi⟩ := it
    dsimp only [itA] at *
    clear is' hif AI A MP C
    have fin : ∀ b, (ba = b ∨ ag = true) → True := fun _ _ => trivial
    by_cases h5 : yop = 5
    · subst h5
      rw [if_neg (by simp)]
      obtain rfl : ba = false := by rw [← hba]; decide
      obtain rfl : ag = true := by rw [← hag]; decide
      clear hkind hba hag cH
      cases mb
      · go_enter Tryz.func75, Tryz.ntmps75
        go_wp2_with (first
          | (go_at_call 61; (with_reducible refine (cB _).mono ?_); rintro _ _ ⟨rfl, rfl⟩)
          | (go_at_call 62; (with_reducible refine (cA _).mono ?_); rintro _ _ ⟨rfl, rfl⟩)
          | (go_at_call 58; (with_reducible refine (cM _).mono ?_); rintro _ u ⟨rfl, gu⟩))
        go_ret
        exact ⟨rfl, gtrans B1 gu⟩
      · go_enter Tryz.func75, Tryz.ntmps75
        go_wp2_with (first
          | (go_at_call 61; (with_reducible refine (cB _).mono ?_); rintro _ _ ⟨rfl, rfl⟩)
          | (go_at_call 62; (with_reducible refine (cA _).mono ?_); rintro _ _ ⟨rfl, rfl⟩)
          | (go_at_call 58; (with_reducible refine (cM _).mono ?_); rintro _ u ⟨rfl, gu⟩))
        go_ret
        exact ⟨rfl, gtrans B1 gu⟩
    · have d5 : (yop != 5) = true := by simpa using h5
      have hor : ba = true ∨ (ba = false ∧ ag = true) := by
        cases ba
        · cases ag
          · exact absurd ⟨rfl, rfl⟩ hkind
          · exact .inr ⟨rfl, rfl⟩
        · exact .inl rfl
      clear hkind hba hag
      cases ha
      · rw [if_pos ⟨h5, rfl⟩]
        clear h5
        rcases hor with rfl | ⟨rfl, rfl⟩
        all_goals
          go_enter Tryz.func75, Tryz.ntmps75
          go_wp2_with (first
            | (go_at_call 61; (with_reducible refine (cB _).mono ?_); rintro _ _ ⟨rfl, rfl⟩)
            | (go_at_call 62; (with_reducible refine (cA _).mono ?_); rintro _ _ ⟨rfl, rfl⟩)
            | (go_at_call 56; (with_reducible refine cH.mono ?_); rintro _ u ⟨rfl, gu⟩))
          go_ret
          exact ⟨rfl, gtrans B1 gu⟩
      · rw [if_neg (by simp)]
        clear h5
        cases mb
        all_goals
          rcases hor with rfl | ⟨rfl, rfl⟩
          all_goals
            go_enter Tryz.func75, Tryz.ntmps75
            go_wp2_with (first
              | (go_at_call 61; (with_reducible refine (cB _).mono ?_); rintro _ _ ⟨rfl, rfl⟩)
              | (go_at_call 62; (with_reducible refine (cA _).mono ?_); rintro _ _ ⟨rfl, rfl⟩)
              | (go_at_call 56; (with_reducible refine cH.mono ?_); rintro _ u ⟨rfl, gu⟩; have fu := (O2.keep gu).at0; obtain ⟨q0, q1, q2, q3, q4⟩ := (I1.keep gu).at5; obtain ⟨n0, n1, n2, n3, n4, n5⟩ := (N1.keep gu).at6)
              | (go_at_call 58; (with_reducible refine (cM _).mono ?_); rintro _ u2 ⟨rfl, gu2⟩))
            go_ret
            exact ⟨rfl, gtrans (gtrans B1 gu) gu2⟩

set_option maxRecDepth 100000 in
set_option maxHeartbeats 8000000 in
theorem walk_any (f : Nat → Int) (t : List Nd) (tr : Bool) (hr : t.length * 64 ≤ 140737488351232) (ao : Option Addr) (cap bc bf : Nat) (w : World) (AT : IsNds w ao t)
    (hF : ∀ k, k < t.length → ∀ Y, Below w.heap.size w Y → Calls Tryz.prog 75 #[.slice ao t.length cap, .int .i64 (k : Int), ptr bc, ptr bf] Y fun e w' => e = .returned (.int .i64 (f k)) ∧ Below Y.heap.size Y w') :
    Calls Tryz.prog 51 #[.slice ao t.length cap, .bool tr, .func (.func 75) #[] #[ptr bc, ptr bf]] w fun e w' => e = .returned (.tuple #[.int .i64 ((walkE f t tr).1 : Int), .int .i64 (walkE f t tr).2]) ∧ Below w.heap.size w w' := by
  obtain ⟨r, hrr⟩ : ∃ r, walkE f t tr = r := ⟨_, rfl⟩
  rw [hrr]
  have HR := show Hid (_ = _) from hrr
  clear hrr
  have cT := fun Y (G : Below w.heap.size w Y) => IsTruth_any t ao cap Y (AT.keep G) hr
  go_enter Tryz.func51, Tryz.ntmps51
  go_wp2
  go_loopw [8, 9, 12] (fun _ _ x wr => (∃ k : Nat, k ≤ t.length ∧ x = .int .i64 k ∧ firstAt f t.length 0 = firstAt f t.length k) ∧ Below w.heap.size w wr) (fun _ _ x _ => t.length - (intOf x).toNat)
  case atStart => exact ⟨⟨0, Nat.zero_le _, rfl, rfl⟩, Below.refl _ _⟩
  case round =>
    obtain ⟨⟨k, hk, rfl, hd⟩, G⟩ := hrel
    by_cases hlt : k < t.length
    · have hki : (k : Int) < (t.length : Int) := by omega
      have cN := hF k hlt wr G
      by_cases hz : f k = 0
      · rw [firstAt_go hlt hz] at hd
        rw [hz] at cN
        have HD := show Hid (_ = _) from hd
        clear hd hz
        go_wp2_with (go_at_call 75; (with_reducible refine cN.mono ?_); rintro _ u ⟨rfl, gu⟩)
        go_roundw
        case rel => exact ⟨⟨k + 1, by omega, by go_num, HD.out⟩, gtrans G gu⟩
        case measure => simp [intOf]; omega
      · rw [firstAt_hit hlt hz] at hd
        have hrk : (k, f k) = r := by rw [← HR.out]; unfold walkE; rw [hd]
        subst hrk
        have hz2 : (f k != 0) = true := by simpa using hz
        obtain ⟨fk, hfk⟩ : ∃ z, f k = z := ⟨_, rfl⟩
        rw [hfk] at cN hz2
        have HF := show Hid (_ = _) from hfk
        clear hd hz HR hfk
        go_wp2_with (go_at_call 75; (with_reducible refine cN.mono ?_); rintro _ u ⟨rfl, gu⟩)
        exact bodyPost_ret (v := .tuple #[.int .i64 (k : Int), .int .i64 fk]) (by simp [results, Tryz.results51, go_sem]) rfl ⟨by rw [HF.out], gtrans G gu⟩
    · have hki : ¬ (k : Int) < (t.length : Int) := by omega
      rw [firstAt_end hlt] at hd
      have HW : Hid ((if 0 < t.length ∧ lastT t ≠ tr then (t.length - 1, 75) else (0, 0)) = r) := by
        show _ = _
        rw [← HR.out]; unfold walkE; rw [hd]
      clear hd HR
      have cTW := cT wr G
      generalize lastT t = lt at *
      generalize t.length = n at *
      by_cases h0 : 0 < n
      · have h0i : (0 : Int) < (n : Int) := by omega
        cases lt <;> cases tr
        · have e : ((0 : Nat), (0 : Int)) = r := by rw [← HW.out, if_neg (by simp)]
          subst e
          clear HW
          go_wp2_with (go_at_call 19; (with_reducible refine cTW.mono ?_); rintro _ u ⟨rfl, gu⟩)
          exact bodyPost_ret (v := .tuple #[.int .i64 0, .int .i64 0]) (by simp [results, Tryz.results51, go_sem]) rfl ⟨rfl, gtrans G gu⟩
        · have e : ((n - 1 : Nat), (75 : Int)) = r := by rw [← HW.out, if_pos ⟨h0, by simp⟩]
          subst e
          clear HW
          go_wp2_with (go_at_call 19; (with_reducible refine cTW.mono ?_); rintro _ u ⟨rfl, gu⟩)
          exact bodyPost_ret (v := .tuple #[.int .i64 ((n : Int) - 1), .int .i64 75]) (by simp [results, Tryz.results51, go_sem]) rfl ⟨by rw [show ((n - 1 : Nat) : Int) = (n : Int) - 1 by omega], gtrans G gu⟩
        · have e : ((n - 1 : Nat), (75 : Int)) = r := by rw [← HW.out, if_pos ⟨h0, by simp⟩]
          subst e
          clear HW
          go_wp2_with (go_at_call 19; (with_reducible refine cTW.mono ?_); rintro _ u ⟨rfl, gu⟩)
          exact bodyPost_ret (v := .tuple #[.int .i64 ((n : Int) - 1), .int .i64 75]) (by simp [results, Tryz.results51, go_sem]) rfl ⟨by rw [show ((n - 1 : Nat) : Int) = (n : Int) - 1 by omega], gtrans G gu⟩
        · have e : ((0 : Nat), (0 : Int)) = r := by rw [← HW.out, if_neg (by simp)]
          subst e
          clear HW
          go_wp2_with (go_at_call 19; (with_reducible refine cTW.mono ?_); rintro _ u ⟨rfl, gu⟩)
          exact bodyPost_ret (v := .tuple #[.int .i64 0, .int .i64 0]) (by simp [results, Tryz.results51, go_sem]) rfl ⟨rfl, gtrans G gu⟩
      · have h0i : ¬ (0 : Int) < (n : Int) := by omega
        have e : ((0 : Nat), (0 : Int)) = r := by rw [← HW.out, if_neg (fun h => h0 h.1)]
        subst e
        clear HW
        go_wp2
        exact bodyPost_ret (v := .tuple #[.int .i64 0, .int .i64 0]) (by simp [results, Tryz.results51, go_sem]) rfl ⟨rfl, G⟩
set_option maxHeartbeats 4000000 in
theorem lookFor_any (cs : Array Value) (c0 c1 c2 c3 c4 c5 c6 c7 c8 : Value) (fm : Value) (w : World) (hcs : cs = #[c0, c1, c2, c3, c4, c5, c6, c7, c8]) (hfm : ∃ f, fm = .func (.func f) #[] #[]) :
    Calls Tryz.prog 52 #[.agg cs, fm] w fun e w' => (∃ bc bf, e = .returned (.func (.func 75) #[] #[ptr bc, ptr bf]) ∧ Bk w' bc cs 71 ∧ One w' bf fm 92) ∧ Below w.heap.size w w' := by
  obtain ⟨f, rfl⟩ := hfm
  subst hcs
  have B0 := galloc (galloc (Below.refl w.heap.size w) (.cells #[c0, c1, c2, c3, c4, c5, c6, c7, c8] 71)) (.cells #[.func (.func f) #[] #[]] 92)
  have C0 := (Bk.new w #[c0, c1, c2, c3, c4, c5, c6, c7, c8] 71).alloc (.cells #[.func (.func f) #[] #[]] 92)
  have O0 := One.new (w.alloc (.cells #[c0, c1, c2, c3, c4, c5, c6, c7, c8] 71)) (.func (.func f) #[] #[]) 92
  rw [show (w.alloc (.cells #[c0, c1, c2, c3, c4, c5, c6, c7, c8] 71)).heap.size = w.heap.size + 1 by simp] at O0
  go_enter Tryz.func52, Tryz.ntmps52
  go_wp2
  go_ret
  exact ⟨⟨_, _, rfl, C0, O0⟩, B0⟩

end Go.Proofs.YtlejhococjlijaaGreatDoor
