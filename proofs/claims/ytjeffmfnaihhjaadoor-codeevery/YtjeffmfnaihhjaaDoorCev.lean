/- What code.Every and the document's Every come to: the condition once, or for each event of the item's list. -/
import Derived.Test.YtjeffmfnaihhjaaDoorCrd
import Derived.Test.YtjeffmfnaihhjaaDoorOpenP3
namespace Go.Proofs.YtjeffmfnaihhjaaDoor
open Go.RowKit Go.BigFrame
set_option linter.unusedVariables false
set_option linter.unusedSimpArgs false

def evG (h : Nat → Bool) (n i : Nat) : Bool := if i < n then h i && evG h n (i + 1) else true
termination_by n - i
theorem evG_go {h : Nat → Bool} {n i : Nat} (hi : i < n) : evG h n i = (h i && evG h n (i + 1)) := by rw [evG, if_pos hi]
theorem evG_end {h : Nat → Bool} {n i : Nat} (hi : ¬ i < n) : evG h n i = true := by rw [evG, if_neg hi]
def evN (each : Int) (l : List (List Ev)) : Nat := (lstO ⟨l, each, 0⟩ each).length
def everyV (p : Prg) (each : Int) (prev : Bool) (l : List (List Ev)) : Bool :=
  if each < -1 then false else if each = -1 then holdsV p ⟨l, -1, 0⟩
  else evG (fun i => holdsV p ⟨l, each, (i : Int)⟩) (evN each l) (if prev = true then 1 else 0)
/-- Lists that may stand in an environment. -/
def LsOk (l : List (List Ev)) : Prop := ∀ e a, fitsB e = true → fitsB a = true → (⟨l, e, a⟩ : Envr).ok
def atOf (w : World) (b : Nat) : Nat := match w.cell? ⟨b, 2, none⟩ with | some (.int _ n) => n.toNat | _ => 0
theorem atOf_bk {w : World} {b : Nat} {x y : Value} {i : Nat} {t : TypeId} (h : Bk w b #[x, y, .int .i64 (i : Int)] t) : atOf w b = i := by
  unfold atOf; rw [h.at3.2.2]; simp
/-- The loop of code.Every in memory. -/
structure EvL (h : Nat → Bool) (r : Bool) (n bc be : Nat) (CC : Array Value) (al : Option Addr) (ln cl : Nat) (each : Int) (w wr : World) : Prop where
  ex : ∃ i : Nat, i ≤ n + 1 ∧ evG h n i = r ∧ Bk wr be #[.slice al ln cl, .int .i64 each, .int .i64 (i : Int)] 28 ∧ Bk wr bc CC 45 ∧ Below w.heap.size w wr

set_option maxRecDepth 100000 in
set_option maxHeartbeats 8000000 in
theorem every_any (p : Prg) (hp : p.ok) (each : Int) (hf : fitsB each = true) (prev : Bool) (l : List (List Ev)) (hO : LsOk l) (ai : Option Addr) (ci : Nat) (ac : Option Addr) (cc : Nat) (al : Option Addr) (cl : Nat) (w : World) (IP : IsPr w p ai ci ac cc) (N : Nst w al evC l) (S : Sl al l.length cl) (T : TbAt w) :
    Calls Tryd.prog 15 #[cndA p ai ci ac cc each prev, .slice al l.length cl] w fun e w' => e = .returned (.bool (everyV p each prev l)) ∧ Below w.heap.size w w' := by
  have cH : ∀ i : Int, fitsB i = true → ∀ Y, Below w.heap.size w Y → Calls Tryd.prog 10 #[prgA p ai ci ac cc, .agg #[.slice al l.length cl, .int .i64 each, .int .i64 i]] Y fun e w' => e = .returned (.bool (holdsV p ⟨l, each, i⟩)) ∧ Below Y.heap.size Y w' := fun i hi Y G => holds_any p hp ⟨l, each, i⟩ (hO each i hf hi) ai ci ac cc al cl Y (IP.keep G) ⟨N.keep G, S⟩ (T.keep G)
  have cL : ∀ i : Int, ∃ a c, ∀ u, Below w.heap.size w u → Calls Tryd.prog 31 #[.agg #[.slice al l.length cl, .int .i64 each, .int .i64 i], .int .i64 each] u fun e w' => e = .returned (.slice a (evN each l) c) ∧ Below u.heap.size u w' := fun i => by
    obtain ⟨a, c, _, h⟩ := listOf_any ⟨l, each, i⟩ al cl each w N
    exact ⟨a, c, h⟩
  have hn : evN each l ≤ 2147483647 := (lstO_ok (hO each 0 hf (by decide)) each).2.2
  have C0 := (Bk.new w #[.slice ai p.code.length ci, .slice ac p.cols.length cc, .int .i64 each, .bool prev] 45).alloc (.cells #[.slice al l.length cl, .int .i64 each, .int .i64 0] 28)
  have E0 := Bk.newE (w := w.alloc (.cells #[.slice ai p.code.length ci, .slice ac p.cols.length cc, .int .i64 each, .bool prev] 45)) (g := w.heap.size + 1) (by simp) #[.slice al l.length cl, .int .i64 each, .int .i64 0] 28
  have B0 := galloc (galloc (Below.refl w.heap.size w) (.cells #[.slice ai p.code.length ci, .slice ac p.cols.length cc, .int .i64 each, .bool prev] 45)) (.cells #[.slice al l.length cl, .int .i64 each, .int .i64 0] 28)
  unfold everyV
  by_cases h1 : each < -1
  · rw [if_pos h1]
    have h0 : each < 0 := by omega
    have h2 : (each == -1) = false := by simp; omega
    go_enter Tryd.func15, Tryd.ntmps15
    go_wp2
    go_ret
    exact ⟨rfl, B0⟩
  rw [if_neg h1]
  by_cases h2 : each = -1
  · rw [if_pos h2]
    have h0 : each < 0 := by omega
    have h3 : (each == -1) = true := by simp; omega
    have cH0 := cH 0 (by decide) _ B0
    rw [← h2]
    generalize holdsV p ⟨l, each, 0⟩ = hv at *
    clear cH cL h2
    go_enter Tryd.func15, Tryd.ntmps15
    go_wp2_with (go_at_call 10; (with_reducible refine cH0.mono ?_); rintro _ u ⟨rfl, gu⟩)
    go_ret
    exact ⟨rfl, gtrans B0 gu⟩
  rw [if_neg h2]
  have h0 : ¬ each < 0 := by omega
  generalize evN each l = n at *
  obtain ⟨r, hr⟩ : ∃ r, evG (fun i => holdsV p ⟨l, each, (i : Int)⟩) n (if prev = true then 1 else 0) = r := ⟨_, rfl⟩
  rw [hr]
  have HR := show Hid (_ = _) from hr
  clear hr h1 h2
  cases prev
  · have st : EvL (fun i => holdsV p ⟨l, each, (i : Int)⟩) r n w.heap.size (w.heap.size + 1) #[.slice ai p.code.length ci, .slice ac p.cols.length cc, .int .i64 each, .bool false] al l.length cl each w _ := ⟨⟨0, Nat.zero_le _, HR.out, E0, C0, B0⟩⟩
    clear HR E0 C0 B0
    go_enter Tryd.func15, Tryd.ntmps15
    go_wp2
    generalize ((w.alloc (.cells #[.slice ai p.code.length ci, .slice ac p.cols.length cc, .int .i64 each, .bool false] 45)).alloc (.cells #[.slice al l.length cl, .int .i64 each, .int .i64 0] 28)) = V at *
    go_loopw [] (fun wr => EvL (fun i => holdsV p ⟨l, each, (i : Int)⟩) r n w.heap.size (w.heap.size + 1) #[.slice ai p.code.length ci, .slice ac p.cols.length cc, .int .i64 each, .bool false] al l.length cl each w wr) (fun wr => n - atOf wr (w.heap.size + 1))
    case atStart => exact st
    case round =>
      obtain ⟨⟨i, hi, hr, EB, CB, G⟩⟩ := hrel
      obtain ⟨e0, e1, e2⟩ := EB.at3
      obtain ⟨c0, c1, c2, c3⟩ := CB.at4
      obtain ⟨a, c, hcL⟩ := cL i
      have hne : Nonempty (Ext wr) := ⟨⟨_, Below.refl _ _⟩⟩
      have y1 : ∀ z : Ext wr, Calls Tryd.prog 31 #[.agg #[.slice al l.length cl, .int .i64 each, .int .i64 (i : Int)], .int .i64 each] z.X (fun e' w'' => e' = .returned (.slice a n c) ∧ ∃ m : Ext wr, w'' = m.X) := fun z => ext_of (hcL z.X (gtrans G z.h))
      have p0 := fun z : Ext wr => (z.cell _ _ (lt_of_cell e0)).trans e0
      have p1 := fun z : Ext wr => (z.cell _ _ (lt_of_cell e1)).trans e1
      have p2 := fun z : Ext wr => (z.cell _ _ (lt_of_cell e2)).trans e2
      have p3 := fun z : Ext wr => (z.cell _ _ (lt_of_cell c2)).trans c2
      clear hcL
      by_cases hlt : i < n
      · have hki : (i : Int) < (n : Int) := by omega
        have cHi := fun Y G => cH (i : Int) ((fits_iff _).2 (by omega)) Y G
        rw [evG_go hlt] at hr
        generalize holdsV p ⟨l, each, (i : Int)⟩ = hv at cHi hr
        have HR := show Hid (_ = _) from hr
        clear hr
        go_wp2
        refine wp_region_ext (by kernel_rfl) (by kernel_rfl) ?_
        repeat (go_big_quiet_step (first | (go_at_call 31; with_reducible exact y1 _)))
        refine wpQuiet_nil ?_
        intro _ hw'
        obtain ⟨nx, hw''⟩ := hw'
        subst hw''
        have GX := gtrans G nx.h
        have EX := EB.keep nx.h
        have CX := CB.keep nx.h
        have cHX := cHi nx.X GX
        generalize nx.X = X at *
        clear p0 p1 p2 p3 y1 hne e0 e1 e2 c0 c1 c2 c3 cHi
        obtain ⟨e0, e1, e2⟩ := EX.at3
        obtain ⟨c0, c1, c2, c3⟩ := CX.at4
        cases hv
        · have hr2 : false = r := HR.out
          clear HR
          subst hr2
          go_wp2_with (go_at_call 10; (with_reducible refine cHX.mono ?_); rintro _ u ⟨rfl, gu⟩)
          go_ret
          exact ⟨rfl, gtrans GX gu⟩
        · have HR2 : Hid (evG (fun i => holdsV p ⟨l, each, (i : Int)⟩) n (i + 1) = r) := HR.out
          clear HR
          go_wp2_with (go_at_call 10; (with_reducible refine cHX.mono ?_); rintro _ u ⟨rfl, gu⟩; have EU := EX.keep gu; have CU := CX.keep gu; have GU := gtrans GX gu; obtain ⟨f0, f1, f2⟩ := EU.at3; have ff := EU.free 2)
          have E9 := EU.set 2 (.int .i64 ((i : Int) + 1))
          have C9 := CU.other (b' := w.heap.size + 1) (by omega) 2 (.int .i64 ((i : Int) + 1))
          have G9 := gset GU (p := ⟨w.heap.size + 1, 2, none⟩) (by simp) (.int .i64 ((i : Int) + 1))
          go_roundw
          case rel => exact ⟨⟨i + 1, by omega, HR2.out, E9, C9, G9⟩⟩
          case measure =>
            rw [atOf_bk EB, atOf_bk (i := i + 1) E9]
            omega
      · have hki : ¬ (i : Int) < (n : Int) := by omega
        rw [evG_end hlt] at hr
        subst hr
        go_wp2
        refine wp_region_ext (by kernel_rfl) (by kernel_rfl) ?_
        repeat (go_big_quiet_step (first | (go_at_call 31; with_reducible exact y1 _)))
        refine wpQuiet_nil ?_
        intro _ hw'
        obtain ⟨nx, hw''⟩ := hw'
        subst hw''
        have GX := gtrans G nx.h
        generalize nx.X = X at *
        clear p0 p1 p2 p3 y1 hne e0 e1 e2 c0 c1 c2 c3
        go_wp2
        go_ret
        exact ⟨rfl, GX⟩
  · have C1 := (Bk.new w #[.slice ai p.code.length ci, .slice ac p.cols.length cc, .int .i64 each, .bool true] 45).alloc (.cells #[.slice al l.length cl, .int .i64 each, .int .i64 1] 28)
    have E1 := Bk.newE (w := w.alloc (.cells #[.slice ai p.code.length ci, .slice ac p.cols.length cc, .int .i64 each, .bool true] 45)) (g := w.heap.size + 1) (by simp) #[.slice al l.length cl, .int .i64 each, .int .i64 1] 28
    have B1 := galloc (galloc (Below.refl w.heap.size w) (.cells #[.slice ai p.code.length ci, .slice ac p.cols.length cc, .int .i64 each, .bool true] 45)) (.cells #[.slice al l.length cl, .int .i64 each, .int .i64 1] 28)
    have st : EvL (fun i => holdsV p ⟨l, each, (i : Int)⟩) r n w.heap.size (w.heap.size + 1) #[.slice ai p.code.length ci, .slice ac p.cols.length cc, .int .i64 each, .bool true] al l.length cl each w _ := ⟨⟨1, by omega, HR.out, E1, C1, B1⟩⟩
    obtain ⟨q0, q1, q2⟩ := E0.at3
    have qf := E0.free 2
    clear HR E0 C0 B0 E1 C1 B1
    go_enter Tryd.func15, Tryd.ntmps15
    go_wp2
    go_loopw [] (fun wr => EvL (fun i => holdsV p ⟨l, each, (i : Int)⟩) r n w.heap.size (w.heap.size + 1) #[.slice ai p.code.length ci, .slice ac p.cols.length cc, .int .i64 each, .bool true] al l.length cl each w wr) (fun wr => n - atOf wr (w.heap.size + 1))
    case atStart => exact st
    case round =>
      obtain ⟨⟨i, hi, hr, EB, CB, G⟩⟩ := hrel
      obtain ⟨e0, e1, e2⟩ := EB.at3
      obtain ⟨c0, c1, c2, c3⟩ := CB.at4
      obtain ⟨a, c, hcL⟩ := cL i
      have hne : Nonempty (Ext wr) := ⟨⟨_, Below.refl _ _⟩⟩
      have y1 : ∀ z : Ext wr, Calls Tryd.prog 31 #[.agg #[.slice al l.length cl, .int .i64 each, .int .i64 (i : Int)], .int .i64 each] z.X (fun e' w'' => e' = .returned (.slice a n c) ∧ ∃ m : Ext wr, w'' = m.X) := fun z => ext_of (hcL z.X (gtrans G z.h))
      have p0 := fun z : Ext wr => (z.cell _ _ (lt_of_cell e0)).trans e0
      have p1 := fun z : Ext wr => (z.cell _ _ (lt_of_cell e1)).trans e1
      have p2 := fun z : Ext wr => (z.cell _ _ (lt_of_cell e2)).trans e2
      have p3 := fun z : Ext wr => (z.cell _ _ (lt_of_cell c2)).trans c2
      clear hcL
      by_cases hlt : i < n
      · have hki : (i : Int) < (n : Int) := by omega
        have cHi := fun Y G => cH (i : Int) ((fits_iff _).2 (by omega)) Y G
        rw [evG_go hlt] at hr
        generalize holdsV p ⟨l, each, (i : Int)⟩ = hv at cHi hr
        have HR := show Hid (_ = _) from hr
        clear hr
        go_wp2
        refine wp_region_ext (by kernel_rfl) (by kernel_rfl) ?_
        repeat (go_big_quiet_step (first | (go_at_call 31; with_reducible exact y1 _)))
        refine wpQuiet_nil ?_
        intro _ hw'
        obtain ⟨nx, hw''⟩ := hw'
        subst hw''
        have GX := gtrans G nx.h
        have EX := EB.keep nx.h
        have CX := CB.keep nx.h
        have cHX := cHi nx.X GX
        generalize nx.X = X at *
        clear p0 p1 p2 p3 y1 hne e0 e1 e2 c0 c1 c2 c3 cHi
        obtain ⟨e0, e1, e2⟩ := EX.at3
        obtain ⟨c0, c1, c2, c3⟩ := CX.at4
        cases hv
        · have hr2 : false = r := HR.out
          clear HR
          subst hr2
          go_wp2_with (go_at_call 10; (with_reducible refine cHX.mono ?_); rintro _ u ⟨rfl, gu⟩)
          go_ret
          exact ⟨rfl, gtrans GX gu⟩
        · have HR2 : Hid (evG (fun i => holdsV p ⟨l, each, (i : Int)⟩) n (i + 1) = r) := HR.out
          clear HR
          go_wp2_with (go_at_call 10; (with_reducible refine cHX.mono ?_); rintro _ u ⟨rfl, gu⟩; have EU := EX.keep gu; have CU := CX.keep gu; have GU := gtrans GX gu; obtain ⟨f0, f1, f2⟩ := EU.at3; have ff := EU.free 2)
          have E9 := EU.set 2 (.int .i64 ((i : Int) + 1))
          have C9 := CU.other (b' := w.heap.size + 1) (by omega) 2 (.int .i64 ((i : Int) + 1))
          have G9 := gset GU (p := ⟨w.heap.size + 1, 2, none⟩) (by simp) (.int .i64 ((i : Int) + 1))
          go_roundw
          case rel => exact ⟨⟨i + 1, by omega, HR2.out, E9, C9, G9⟩⟩
          case measure =>
            rw [atOf_bk EB, atOf_bk (i := i + 1) E9]
            omega
      · have hki : ¬ (i : Int) < (n : Int) := by omega
        rw [evG_end hlt] at hr
        subst hr
        go_wp2
        refine wp_region_ext (by kernel_rfl) (by kernel_rfl) ?_
        repeat (go_big_quiet_step (first | (go_at_call 31; with_reducible exact y1 _)))
        refine wpQuiet_nil ?_
        intro _ hw'
        obtain ⟨nx, hw''⟩ := hw'
        subst hw''
        have GX := gtrans G nx.h
        generalize nx.X = X at *
        clear p0 p1 p2 p3 y1 hne e0 e1 e2 c0 c1 c2 c3
        go_wp2
        go_ret
        exact ⟨rfl, GX⟩

set_option maxRecDepth 100000 in
set_option maxHeartbeats 8000000 in
theorem refEvery_any (p : Prg) (hp : p.ok) (each : Int) (hf : fitsB each = true) (prev : Bool) (l : List (List Ev)) (hO : LsOk l) (ai : Option Addr) (ci : Nat) (ac : Option Addr) (cc : Nat) (al : Option Addr) (cl : Nat) (w : World) (IP : IsPr w p ai ci ac cc) (N : Nst w al evC l) (S : Sl al l.length cl) :
    Calls Tryd.prog 16 #[cndA p ai ci ac cc each prev, .slice al l.length cl] w fun e w' => e = .returned (.bool (everyV p each prev l)) ∧ Below w.heap.size w w' := by
  have cH : ∀ ee i : Int, fitsB ee = true → fitsB i = true → ∀ Y, Below w.heap.size w Y → Calls Tryd.prog 11 #[prgA p ai ci ac cc, .agg #[.slice al l.length cl, .int .i64 ee, .int .i64 i]] Y fun e w' => e = .returned (.bool (holdsV p ⟨l, ee, i⟩)) ∧ Below Y.heap.size Y w' := fun ee i he hi Y G => refHolds_any p hp ⟨l, ee, i⟩ (hO ee i he hi) ai ci ac cc al cl Y (IP.keep G) ⟨N.keep G, S⟩
  obtain ⟨a, c, cL⟩ : ∃ a c, ∀ u, Below w.heap.size w u → Calls Tryd.prog 32 #[.agg #[.slice al l.length cl, .int .i64 0, .int .i64 0], .int .i64 each] u fun e w' => e = .returned (.slice a (evN each l) c) ∧ Below u.heap.size u w' := by
    obtain ⟨a, c, _, h⟩ := refList_any ⟨l, 0, 0⟩ al cl each w N
    exact ⟨a, c, h⟩
  have hn : evN each l ≤ 2147483647 := (lstO_ok (hO each 0 hf (by decide)) each).2.2
  have C0 := Bk.new w #[.slice ai p.code.length ci, .slice ac p.cols.length cc, .int .i64 each, .bool prev] 45
  have B0 := galloc (Below.refl w.heap.size w) (.cells #[.slice ai p.code.length ci, .slice ac p.cols.length cc, .int .i64 each, .bool prev] 45)
  unfold everyV
  by_cases h1 : each < -1
  · rw [if_pos h1]
    go_enter Tryd.func16, Tryd.ntmps16
    go_wp2
    go_ret
    exact ⟨rfl, B0⟩
  rw [if_neg h1]
  by_cases h2 : each = -1
  · rw [if_pos h2]
    have h3 : (each == -1) = true := by simp; omega
    have cH0 := cH (-1) 0 (by decide) (by decide) _ B0
    generalize holdsV p ⟨l, -1, 0⟩ = hv at *
    clear cH cL h2
    go_enter Tryd.func16, Tryd.ntmps16
    go_wp2_with (go_at_call 11; (with_reducible refine cH0.mono ?_); rintro _ u ⟨rfl, gu⟩)
    go_ret
    exact ⟨rfl, gtrans B0 gu⟩
  rw [if_neg h2]
  have h3 : (each == -1) = false := by simp; omega
  generalize evN each l = n at *
  obtain ⟨r, hr⟩ : ∃ r, evG (fun i => holdsV p ⟨l, each, (i : Int)⟩) n (if prev = true then 1 else 0) = r := ⟨_, rfl⟩
  rw [hr]
  have HR := show Hid (_ = _) from hr
  clear hr h2
  have cLB := cL _ B0
  cases prev
  · have HR2 : Hid (evG (fun i => holdsV p ⟨l, each, (i : Int)⟩) n 0 = r) := HR.out
    clear HR
    go_enter Tryd.func16, Tryd.ntmps16
    go_wp2_with (go_at_call 32; (with_reducible refine cLB.mono ?_); rintro _ u0 ⟨rfl, gu0⟩; have C1 := C0.keep gu0; have B1 := gtrans B0 gu0; obtain ⟨c0, c1, c2, c3⟩ := C1.at4)
    go_loopw [7, 8] (fun x _ wr => (∃ i : Nat, x = .int .i64 (i : Int) ∧ i ≤ n + 1 ∧ evG (fun i => holdsV p ⟨l, each, (i : Int)⟩) n i = r) ∧ Bk wr w.heap.size #[.slice ai p.code.length ci, .slice ac p.cols.length cc, .int .i64 each, .bool false] 45 ∧ Below w.heap.size w wr) (fun x _ _ => n - (intOf x).toNat)
    case atStart => exact ⟨⟨0, rfl, by omega, HR2.out⟩, C1, B1⟩
    case round =>
      clear C1 B1 c0 c1 c2 c3
      obtain ⟨⟨i, rfl, hi, hr⟩, CB, G⟩ := hrel
      obtain ⟨c0, c1, c2, c3⟩ := CB.at4
      by_cases hlt : i < n
      · have hki : (i : Int) < (n : Int) := by omega
        have cHi := cH each (i : Int) hf ((fits_iff _).2 (by omega)) wr G
        rw [evG_go hlt] at hr
        generalize holdsV p ⟨l, each, (i : Int)⟩ = hv at cHi hr
        have HR3 := show Hid (_ = _) from hr
        clear hr HR2
        cases hv
        · have hr2 : false = r := HR3.out
          clear HR3
          subst hr2
          go_wp2_with (go_at_call 11; (with_reducible refine cHi.mono ?_); rintro _ u ⟨rfl, gu⟩)
          go_ret
          exact ⟨rfl, gtrans G gu⟩
        · have HR4 : Hid (evG (fun i => holdsV p ⟨l, each, (i : Int)⟩) n (i + 1) = r) := HR3.out
          clear HR3
          go_wp2_with (go_at_call 11; (with_reducible refine cHi.mono ?_); rintro _ u ⟨rfl, gu⟩)
          go_roundw
          case rel => exact ⟨⟨i + 1, by go_num, by omega, HR4.out⟩, CB.keep gu, gtrans G gu⟩
          case measure => simp [intOf]; omega
      · have hki : ¬ (i : Int) < (n : Int) := by omega
        rw [evG_end hlt] at hr
        subst hr
        go_wp2
        go_ret
        exact ⟨rfl, G⟩
  · have HR2 : Hid (evG (fun i => holdsV p ⟨l, each, (i : Int)⟩) n 1 = r) := HR.out
    clear HR
    go_enter Tryd.func16, Tryd.ntmps16
    go_wp2_with (go_at_call 32; (with_reducible refine cLB.mono ?_); rintro _ u0 ⟨rfl, gu0⟩; have C1 := C0.keep gu0; have B1 := gtrans B0 gu0; obtain ⟨c0, c1, c2, c3⟩ := C1.at4)
    go_loopw [7, 8] (fun x _ wr => (∃ i : Nat, x = .int .i64 (i : Int) ∧ i ≤ n + 1 ∧ evG (fun i => holdsV p ⟨l, each, (i : Int)⟩) n i = r) ∧ Bk wr w.heap.size #[.slice ai p.code.length ci, .slice ac p.cols.length cc, .int .i64 each, .bool true] 45 ∧ Below w.heap.size w wr) (fun x _ _ => n - (intOf x).toNat)
    case atStart => exact ⟨⟨1, rfl, by omega, HR2.out⟩, C1, B1⟩
    case round =>
      clear C1 B1 c0 c1 c2 c3
      obtain ⟨⟨i, rfl, hi, hr⟩, CB, G⟩ := hrel
      obtain ⟨c0, c1, c2, c3⟩ := CB.at4
      by_cases hlt : i < n
      · have hki : (i : Int) < (n : Int) := by omega
        have cHi := cH each (i : Int) hf ((fits_iff _).2 (by omega)) wr G
        rw [evG_go hlt] at hr
        generalize holdsV p ⟨l, each, (i : Int)⟩ = hv at cHi hr
        have HR3 := show Hid (_ = _) from hr
        clear hr HR2
        cases hv
        · have hr2 : false = r := HR3.out
          clear HR3
          subst hr2
          go_wp2_with (go_at_call 11; (with_reducible refine cHi.mono ?_); rintro _ u ⟨rfl, gu⟩)
          go_ret
          exact ⟨rfl, gtrans G gu⟩
        · have HR4 : Hid (evG (fun i => holdsV p ⟨l, each, (i : Int)⟩) n (i + 1) = r) := HR3.out
          clear HR3
          go_wp2_with (go_at_call 11; (with_reducible refine cHi.mono ?_); rintro _ u ⟨rfl, gu⟩)
          go_roundw
          case rel => exact ⟨⟨i + 1, by go_num, by omega, HR4.out⟩, CB.keep gu, gtrans G gu⟩
          case measure => simp [intOf]; omega
      · have hki : ¬ (i : Int) < (n : Int) := by omega
        rw [evG_end hlt] at hr
        subst hr
        go_wp2
        go_ret
        exact ⟨rfl, G⟩

end Go.Proofs.YtjeffmfnaihhjaaDoor
