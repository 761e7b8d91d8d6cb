/- The document's Run; Holds, the program's and the document's. -/
import Derived.Test.YtjeffmfnaihhjaaDoorCrc
import Derived.Test.YtjeffmfnaihhjaaDoorCdg
namespace Go.Proofs.YtjeffmfnaihhjaaDoor
open Go.RowKit Go.BigFrame
set_option linter.unusedVariables false
set_option linter.unusedSimpArgs false

theorem flat_set {u : World} {a : Option Addr} {st : List V2} (h : Flat u a (fl valC st)) (SI : Sim a) {b : Nat} {cs : Array Value} {T : TypeId} {n : Int} (B : Bk u b cs T) (hn : cs[0]? = some (.int .i64 n)) (o : Nat) (v : Value) : Flat (u.setCell ⟨b, o, none⟩ v) a (fl valC st) := by
  cases st with
  | nil => exact Flat.nil _ _
  | cons x st =>
    have e0 := fl_at valC_sz noV2 (x :: st) 0 0 (by simp) (by omega)
    obtain ⟨g, o1, ea, c0⟩ := h 0 (.bool x.1) (e0.trans rfl)
    have hgb : g ≠ b := fun e => by
      subst e
      rcases SI with e1 | ⟨g2, e1⟩
      · rw [e1] at ea; cases ea
      · rw [e1] at ea
        cases ea
        have k0 := cell_of_row u g 0 _ _ _ B
        have c0' : u.cell? ⟨g, 0, none⟩ = some (.bool x.1) := c0
        rw [c0', hn] at k0
        cases k0
    intro j y hy
    obtain ⟨g', o', e', c⟩ := h j y hy
    rw [ea] at e'
    cases e'
    refine ⟨g, o1, ea, ?_⟩
    have hb : (u.setCell ⟨b, o, none⟩ v).heap[g]? = u.heap[g]? := Below.heap_setCell u ⟨b, o, none⟩ v g hgb
    rw [World.cell?_of_block (a := ⟨g, o1 + j, none⟩) hb]
    exact c
/-- The state behind k steps: refused, or at a place with a stack, or at the end. -/
structure RefL (p : Prg) (E : Envr) (R : V2 × Int) (w : World) (ai : Option Addr) (ci : Nat) (ac : Option Addr) (cc : Nat) (al : Option Addr) (cl : Nat) (i : Value) (wr : World) : Prop where
  ex : ∃ (j q : Nat) (st : List V2) (bad : Bool) (a : Option Addr) (c : Nat), i = .int .i64 j ∧ j ≤ q ∧ q ≤ p.code.length ∧ Bk wr w.heap.size #[.slice ai p.code.length ci, .slice ac p.cols.length cc] 25 ∧ Bk wr (w.heap.size + 1) #[.slice al E.lists.length cl, .int .i64 E.each, .int .i64 E.at_] 28 ∧ Bk wr (w.heap.size + 2) #[.bool false, .int .i64 0] 33 ∧ Below w.heap.size w wr ∧
    ((bad = true ∧ R = (noV2, 70) ∧ Bk wr (w.heap.size + 3) #[.int .i64 0, .slice none 0 0, .bool true] 62) ∨
     (bad = false ∧ st.length ≤ q ∧ fitS st ∧ runW p.code p.cols E q st = R ∧ Flat wr a (fl valC st) ∧ Sl a st.length c ∧ Sim a ∧ Bk wr (w.heap.size + 3) #[.int .i64 (q : Int), .slice a st.length c, .bool false] 62))

set_option maxRecDepth 100000 in
set_option maxHeartbeats 8000000 in
theorem refRun_any (p : Prg) (hp : p.ok) (E : Envr) (hE : E.ok) (ai : Option Addr) (ci : Nat) (ac : Option Addr) (cc : Nat) (al : Option Addr) (cl : Nat) (w : World) (IP : IsPr w p ai ci ac cc) (IE : IsEnv w E al cl) :
    Calls Tryd.prog 9 #[prgA p ai ci ac cc, envA al cl E] w fun e w' => e = .returned (.tuple #[VA (runV p E).1, .int .i64 (runV p E).2]) ∧ Below w.heap.size w w' := by
  have hpn := hp.n
  have P0 := (((Bk.new w #[.slice ai p.code.length ci, .slice ac p.cols.length cc] 25).alloc (.cells #[.slice al E.lists.length cl, .int .i64 E.each, .int .i64 E.at_] 28)).alloc (.cells #[.bool false, .int .i64 0] 33)).alloc (.cells #[.int .i64 0, .slice none 0 0, .bool false] 62)
  have E0 := ((Bk.newE (w := w.alloc (.cells #[.slice ai p.code.length ci, .slice ac p.cols.length cc] 25)) (g := w.heap.size + 1) (by simp) #[.slice al E.lists.length cl, .int .i64 E.each, .int .i64 E.at_] 28).alloc (.cells #[.bool false, .int .i64 0] 33)).alloc (.cells #[.int .i64 0, .slice none 0 0, .bool false] 62)
  have R0 := (Bk.newE (w := (w.alloc (.cells #[.slice ai p.code.length ci, .slice ac p.cols.length cc] 25)).alloc (.cells #[.slice al E.lists.length cl, .int .i64 E.each, .int .i64 E.at_] 28)) (g := w.heap.size + 2) (by simp) #[.bool false, .int .i64 0] 33).alloc (.cells #[.int .i64 0, .slice none 0 0, .bool false] 62)
  have S0 := Bk.newE (w := ((w.alloc (.cells #[.slice ai p.code.length ci, .slice ac p.cols.length cc] 25)).alloc (.cells #[.slice al E.lists.length cl, .int .i64 E.each, .int .i64 E.at_] 28)).alloc (.cells #[.bool false, .int .i64 0] 33)) (g := w.heap.size + 3) (by simp) #[.int .i64 0, .slice none 0 0, .bool false] 62
  have B0 := galloc (galloc (galloc (galloc (Below.refl w.heap.size w) (.cells #[.slice ai p.code.length ci, .slice ac p.cols.length cc] 25)) (.cells #[.slice al E.lists.length cl, .int .i64 E.each, .int .i64 E.at_] 28)) (.cells #[.bool false, .int .i64 0] 33)) (.cells #[.int .i64 0, .slice none 0 0, .bool false] 62)
  obtain ⟨⟨⟨xk, xn⟩, xe⟩, hx⟩ : ∃ x, runV p E = x := ⟨_, rfl⟩
  rw [hx]
  have HX : Hid (runW p.code p.cols E 0 [] = ((xk, xn), xe)) := hx
  clear hx
  go_enter Tryd.func9, Tryd.ntmps9
  go_wp2
  generalize (((w.alloc (.cells #[.slice ai p.code.length ci, .slice ac p.cols.length cc] 25)).alloc (.cells #[.slice al E.lists.length cl, .int .i64 E.each, .int .i64 E.at_] 28)).alloc (.cells #[.bool false, .int .i64 0] 33)).alloc (.cells #[.int .i64 0, .slice none 0 0, .bool false] 62) = Z at *
  go_loopw [7] (fun i wr => RefL p E ((xk, xn), xe) w ai ci ac cc al cl i wr) (fun i _ => p.code.length - (intOf i).toNat)
  case atStart => exact ⟨⟨0, 0, [], false, none, 0, rfl, Nat.le_refl _, Nat.zero_le _, P0, E0, R0, B0, .inr ⟨rfl, Nat.le_refl _, fitS_nil, HX.out, Flat.nil _ _, ⟨Nat.le_refl _, fun _ => ⟨rfl, rfl⟩⟩, .inl rfl, S0⟩⟩⟩
  case round =>
    clear P0 E0 R0 S0 B0 HX
    obtain ⟨⟨j, q, st, bad, a, c, rfl, hjq, hq, PB, EB, RB, G, hor⟩⟩ := hrel
    obtain ⟨pb0, pb1⟩ := PB.at2
    obtain ⟨eb0, eb1, eb2⟩ := EB.at3
    have rb0 : wr.cell? ⟨w.heap.size + 1 + 1, 0, none⟩ = _ := RB.at2.1
    have rb1 : wr.cell? ⟨w.heap.size + 1 + 1, 1, none⟩ = _ := RB.at2.2
    have rf : ∀ o, wr.frozen? ⟨w.heap.size + 1 + 1, o, none⟩ = false := RB.free
    rcases hor with ⟨rfl, hR, SB⟩ | ⟨rfl, hsq, hfit, hR, FS, SS, SI, SB⟩
    · have sb0 : wr.cell? ⟨w.heap.size + 1 + 1 + 1, 0, none⟩ = _ := SB.at3.1
      have sb1 : wr.cell? ⟨w.heap.size + 1 + 1 + 1, 1, none⟩ = _ := SB.at3.2.1
      have sb2 : wr.cell? ⟨w.heap.size + 1 + 1 + 1, 2, none⟩ = _ := SB.at3.2.2
      obtain ⟨hx1, rfl⟩ := Prod.mk.inj hR
      obtain ⟨rfl, rfl⟩ := Prod.mk.inj hx1
      by_cases hjl : (j : Int) < (p.code.length : Int)
      all_goals
        go_wp2_with (go_at_call 28; (with_reducible refine (refNothing_any _).mono ?_); rintro _ u ⟨rfl, gu⟩; have RU := RB.keep gu; have ru0 : u.cell? ⟨w.heap.size + 1 + 1, 0, none⟩ = _ := RU.at2.1; have ru1 : u.cell? ⟨w.heap.size + 1 + 1, 1, none⟩ = _ := RU.at2.2; have ruf : ∀ o, u.frozen? ⟨w.heap.size + 1 + 1, o, none⟩ = false := RU.free)
        refine bodyPost_ret (v := .tuple #[VA noV2, .int .i64 70]) (by simp [results, Tryd.results9, go_sem, ru0, ru1]) rfl ⟨rfl, ?_⟩
        exact gset (gset (gtrans G gu) (by simp; omega) _) (by simp; omega) _
    · have sb0 : wr.cell? ⟨w.heap.size + 1 + 1 + 1, 0, none⟩ = _ := SB.at3.1
      have sb1 : wr.cell? ⟨w.heap.size + 1 + 1 + 1, 1, none⟩ = _ := SB.at3.2.1
      have sb2 : wr.cell? ⟨w.heap.size + 1 + 1 + 1, 2, none⟩ = _ := SB.at3.2.2
      have HR := show Hid (_ = _) from hR
      clear hR
      by_cases hql : q < p.code.length
      · have hjl : (j : Int) < (p.code.length : Int) := by omega
        have hqi : (q : Int) < (p.code.length : Int) := by omega
        have cs := step_any p hp E hE ai ci ac cc al cl q hql st hsq hfit a c wr (IP.keep G) (IE.keep G) FS SS SI
        obtain ⟨r, hr⟩ : ∃ r, stepP p.code p.cols E q st = r := ⟨_, rfl⟩
        have HS := show Hid (_ = _) from hr
        rw [hr] at cs
        clear hr
        cases r with
        | none =>
          obtain ⟨hx1, rfl⟩ := Prod.mk.inj ((runW_bad hql HS.out).symm.trans HR.out)
          obtain ⟨rfl, rfl⟩ := Prod.mk.inj hx1
          have cs2 : Calls Tryd.prog 27 #[prgA p ai ci ac cc, envA al cl E, .agg #[.int .i64 (q : Int), .slice a st.length c, .bool false]] wr fun e w' => e = .returned (.agg #[.int .i64 0, .slice none 0 0, .bool true]) ∧ Below wr.heap.size wr w' := cs
          clear cs HR HS FS SS SI
          go_wp2_with (go_at_call 27; (with_reducible refine cs2.mono ?_); rintro _ u ⟨rfl, gu⟩; have SU := SB.keep gu; have su0 : u.cell? ⟨w.heap.size + 1 + 1 + 1, 0, none⟩ = _ := SU.at3.1; have su1 : u.cell? ⟨w.heap.size + 1 + 1 + 1, 1, none⟩ = _ := SU.at3.2.1; have su2 : u.cell? ⟨w.heap.size + 1 + 1 + 1, 2, none⟩ = _ := SU.at3.2.2; have suf : ∀ o, u.frozen? ⟨w.heap.size + 1 + 1 + 1, o, none⟩ = false := SU.free)
          have hz3 := SU.lt
          have SN := ((SU.set 0 (.int .i64 0)).set 1 (.slice none 0 0)).set 2 (.bool true)
          go_roundw
          case rel => exact ⟨⟨j + 1, q + 1, [], true, none, 0, by go_num, by omega, by omega, (((PB.keep gu).other (by omega) _ _).other (by omega) _ _).other (by omega) _ _, (((EB.keep gu).other (by omega) _ _).other (by omega) _ _).other (by omega) _ _, (((RB.keep gu).other (by omega) _ _).other (by omega) _ _).other (by omega) _ _, gset (gset (gset (gtrans G gu) (by simp; omega) _) (by simp; omega) _) (by simp; omega) _, .inl ⟨rfl, rfl, SN⟩⟩⟩
          case measure => simp [intOf]; omega
        | some r =>
          obtain ⟨q2, st2⟩ := r
          obtain ⟨hq2, hl2, hq3⟩ := stepP_len HS.out
          have hfit2 := stepP_fits hE hp.i hfit HS.out
          have hR2 := (runW_go hql HS.out hq2).symm.trans HR.out
          have HR2 := show Hid (_ = _) from hR2
          have cs2 : Calls Tryd.prog 27 #[prgA p ai ci ac cc, envA al cl E, .agg #[.int .i64 (q : Int), .slice a st.length c, .bool false]] wr fun e w' => (∃ a2 c2, e = .returned (.agg #[.int .i64 (q2 : Int), .slice a2 st2.length c2, .bool false]) ∧ Flat w' a2 (fl valC st2) ∧ Sl a2 st2.length c2 ∧ Sim a2) ∧ Below wr.heap.size wr w' := cs
          clear cs HR HS hR2 FS SS SI
          go_wp2_with (go_at_call 27; (with_reducible refine cs2.mono ?_); rintro _ u ⟨⟨a2, c2, rfl, F2, S2, I2⟩, gu⟩; have SU := SB.keep gu; have su0 : u.cell? ⟨w.heap.size + 1 + 1 + 1, 0, none⟩ = _ := SU.at3.1; have su1 : u.cell? ⟨w.heap.size + 1 + 1 + 1, 1, none⟩ = _ := SU.at3.2.1; have su2 : u.cell? ⟨w.heap.size + 1 + 1 + 1, 2, none⟩ = _ := SU.at3.2.2; have suf : ∀ o, u.frozen? ⟨w.heap.size + 1 + 1 + 1, o, none⟩ = false := SU.free)
          have hz3 := SU.lt
          have SN := ((SU.set 0 (.int .i64 (q2 : Int))).set 1 (.slice a2 st2.length c2)).set 2 (.bool false)
          have B1 := SU.set 0 (.int .i64 (q2 : Int))
          have B2 := B1.set 1 (.slice a2 st2.length c2)
          have FN := flat_set (flat_set (flat_set F2 I2 SU rfl 0 (.int .i64 (q2 : Int))) I2 B1 rfl 1 (.slice a2 st2.length c2)) I2 B2 rfl 2 (.bool false)
          clear F2
          go_roundw
          case rel => exact ⟨⟨j + 1, q2, st2, false, a2, c2, by go_num, by omega, by omega, (((PB.keep gu).other (by omega) _ _).other (by omega) _ _).other (by omega) _ _, (((EB.keep gu).other (by omega) _ _).other (by omega) _ _).other (by omega) _ _, (((RB.keep gu).other (by omega) _ _).other (by omega) _ _).other (by omega) _ _, gset (gset (gset (gtrans G gu) (by simp; omega) _) (by simp; omega) _) (by simp; omega) _, .inr ⟨rfl, by omega, hfit2, HR2.out, FN, S2, I2, SN⟩⟩⟩
          case measure => simp [intOf]; omega
      · obtain rfl : q = p.code.length := by omega
        have hqi : ¬ ((p.code.length : Int) < (p.code.length : Int)) := by omega
        have hend := (runW_end (cols := p.cols) (E := E) (st := st) hql).symm.trans HR.out
        unfold endV at hend
        by_cases h1 : st.length = 1
        · rw [if_pos h1] at hend
          obtain ⟨hx1, rfl⟩ := Prod.mk.inj hend
          obtain ⟨gs, rfl⟩ : ∃ gs, a = some ⟨gs, 0, none⟩ := by rcases SI with h | h; have := SS.2 h; omega; exact h
          obtain ⟨s0, s1⟩ := stk_at FS 0 (by omega)
          rw [hx1] at s0 s1
          dsimp only at s0 s1
          rw [Nat.zero_mul] at s0 s1
          rw [h1] at sb1
          clear hx1 hend HR FS SS SI
          by_cases hjl : (j : Int) < (p.code.length : Int)
          all_goals
            go_wp2
            refine bodyPost_ret (v := .tuple #[VA (xk, xn), .int .i64 0]) (by simp [results, Tryd.results9, go_sem, rb0, rb1]) rfl ⟨rfl, ?_⟩
            exact gset (gset G (by simp; omega) _) (by simp; omega) _
        · rw [if_neg h1] at hend
          obtain ⟨hx1, rfl⟩ := Prod.mk.inj hend
          obtain ⟨rfl, rfl⟩ := Prod.mk.inj hx1
          have h2 : ((st.length : Int) != 1) = true := by simp; omega
          clear hx1 hend HR FS SS SI
          by_cases hjl : (j : Int) < (p.code.length : Int)
          all_goals
            go_wp2_with (go_at_call 28; (with_reducible refine (refNothing_any _).mono ?_); rintro _ u ⟨rfl, gu⟩; have RU := RB.keep gu; have ru0 : u.cell? ⟨w.heap.size + 1 + 1, 0, none⟩ = _ := RU.at2.1; have ru1 : u.cell? ⟨w.heap.size + 1 + 1, 1, none⟩ = _ := RU.at2.2; have ruf : ∀ o, u.frozen? ⟨w.heap.size + 1 + 1, o, none⟩ = false := RU.free)
            refine bodyPost_ret (v := .tuple #[VA noV2, .int .i64 70]) (by simp [results, Tryd.results9, go_sem, ru0, ru1]) rfl ⟨rfl, ?_⟩
            exact gset (gset (gtrans G gu) (by simp; omega) _) (by simp; omega) _

def holdsV (p : Prg) (E : Envr) : Bool := ((runV p E).2 == 0) && (rd (runV p E).1.1 (runV p E).1.2 == 2)
set_option maxRecDepth 100000 in
set_option maxHeartbeats 4000000 in
theorem holds_any (p : Prg) (hp : p.ok) (E : Envr) (hE : E.ok) (ai : Option Addr) (ci : Nat) (ac : Option Addr) (cc : Nat) (al : Option Addr) (cl : Nat) (w : World) (IP : IsPr w p ai ci ac cc) (IE : IsEnv w E al cl) (T : TbAt w) :
    Calls Tryd.prog 10 #[prgA p ai ci ac cc, envA al cl E] w fun e w' => e = .returned (.bool (holdsV p E)) ∧ Below w.heap.size w w' := by
  have B0 := galloc (galloc (Below.refl w.heap.size w) (.cells #[.slice ai p.code.length ci, .slice ac p.cols.length cc] 25)) (.cells #[.slice al E.lists.length cl, .int .i64 E.each, .int .i64 E.at_] 28)
  have cr := run_any p hp E hE ai ci ac cc al cl _ (IP.keep B0) (IE.keep B0) (T.keep B0)
  unfold holdsV
  obtain ⟨⟨⟨xk, xn⟩, xe⟩, hx⟩ : ∃ x, runV p E = x := ⟨_, rfl⟩
  rw [hx] at cr ⊢
  dsimp only at cr ⊢
  have ct := fun u => true_any xk xn u
  generalize hrd : (rd xk xn == 2) = rb at ct ⊢
  clear hx hrd
  cases he : (xe == 0)
  · go_enter Tryd.func10, Tryd.ntmps10
    go_wp2_with (first
      | (go_at_call 8; (with_reducible refine cr.mono ?_); rintro _ u ⟨rfl, gu⟩))
    go_ret
    exact ⟨rfl, galloc (gtrans B0 gu) _⟩
  · go_enter Tryd.func10, Tryd.ntmps10
    go_wp2_with (first
      | (go_at_call 8; (with_reducible refine cr.mono ?_); rintro _ u ⟨rfl, gu⟩)
      | (go_at_call 29; (with_reducible refine (ct _).mono ?_); rintro _ u2 ⟨rfl, gu2⟩))
    go_ret
    exact ⟨rfl, gtrans (galloc (gtrans B0 gu) _) gu2⟩
set_option maxRecDepth 100000 in
set_option maxHeartbeats 4000000 in
theorem refHolds_any (p : Prg) (hp : p.ok) (E : Envr) (hE : E.ok) (ai : Option Addr) (ci : Nat) (ac : Option Addr) (cc : Nat) (al : Option Addr) (cl : Nat) (w : World) (IP : IsPr w p ai ci ac cc) (IE : IsEnv w E al cl) :
    Calls Tryd.prog 11 #[prgA p ai ci ac cc, envA al cl E] w fun e w' => e = .returned (.bool (holdsV p E)) ∧ Below w.heap.size w w' := by
  have B0 := galloc (galloc (Below.refl w.heap.size w) (.cells #[.slice ai p.code.length ci, .slice ac p.cols.length cc] 25)) (.cells #[.slice al E.lists.length cl, .int .i64 E.each, .int .i64 E.at_] 28)
  have cr := refRun_any p hp E hE ai ci ac cc al cl _ (IP.keep B0) (IE.keep B0)
  unfold holdsV
  obtain ⟨⟨⟨xk, xn⟩, xe⟩, hx⟩ : ∃ x, runV p E = x := ⟨_, rfl⟩
  rw [hx] at cr ⊢
  dsimp only at cr ⊢
  have ct := fun u => refTrue_any xk xn u
  generalize hrd : (rd xk xn == 2) = rb at ct ⊢
  clear hx hrd
  cases he : (xe == 0)
  · go_enter Tryd.func11, Tryd.ntmps11
    go_wp2_with (first
      | (go_at_call 9; (with_reducible refine cr.mono ?_); rintro _ u ⟨rfl, gu⟩))
    go_ret
    exact ⟨rfl, galloc (gtrans B0 gu) _⟩
  · go_enter Tryd.func11, Tryd.ntmps11
    go_wp2_with (first
      | (go_at_call 9; (with_reducible refine cr.mono ?_); rintro _ u ⟨rfl, gu⟩)
      | (go_at_call 30; (with_reducible refine (ct _).mono ?_); rintro _ u2 ⟨rfl, gu2⟩))
    go_ret
    exact ⟨rfl, gtrans (galloc (gtrans B0 gu) _) gu2⟩

end Go.Proofs.YtjeffmfnaihhjaaDoor
