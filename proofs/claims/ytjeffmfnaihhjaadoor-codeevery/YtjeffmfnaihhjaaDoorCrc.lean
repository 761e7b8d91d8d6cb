/- The document's machine: one step. -/
import Derived.Test.YtjeffmfnaihhjaaDoorCrb
import Derived.Test.YtjeffmfnaihhjaaDoorCdf
import Derived.Test.YtjeffmfnaihhjaaDoorRef1
import Derived.Deep.CutRange
import Derived.Test.YtjeffmfnaihhjaaDoorQt
import Derived.Test.YtjeffmfnaihhjaaDoorTruthRef
namespace Go.Proofs.YtjeffmfnaihhjaaDoor
open Go.RowKit Go.BigFrame
set_option linter.unusedVariables false
set_option linter.unusedSimpArgs false

theorem Flat.left {w : World} {a : Option Addr} {xs ys : List Value} (h : Flat w a (xs ++ ys)) : Flat w a xs := fun j u hu => h j u (by rw [List.getElem?_append_left (List.getElem?_eq_some_iff.1 hu).1]; exact hu)
theorem valC_one (x : V2) : ∀ u ∈ (valC x).toList, u.oneCell' = true := fun u hu => by simp [valC] at hu; rcases hu with rfl | rfl <;> rfl
theorem flat_take {w : World} {a : Option Addr} {st : List V2} (h : Flat w a (fl valC st)) (m : Nat) : Flat w a (fl valC (st.take m)) := by
  rw [← List.take_append_drop m st, fl_app] at h
  exact h.left
/-- Where a stack may begin. -/
def Sim (a : Option Addr) : Prop := a = none ∨ ∃ g, a = some ⟨g, 0, none⟩
/-- What a step answers. -/
def StepR (r : Option (Nat × List V2)) (e : Ending) (w : World) : Prop :=
  match r with
  | none => e = .returned (.agg #[.int .i64 0, .slice none 0 0, .bool true])
  | some (q, st) => ∃ a c, e = .returned (.agg #[.int .i64 (q : Int), .slice a st.length c, .bool false]) ∧ Flat w a (fl valC st) ∧ Sl a st.length c ∧ Sim a
theorem set_last (st : List V2) (j : Nat) (h : st.length = j + 1) (x : V2) : st.set j x = st.take j ++ [x] := by
  apply List.ext_getElem?
  intro i
  rw [List.getElem?_set, List.getElem?_append, List.getElem?_take]
  have hl : (st.take j).length = j := by simp; omega
  rw [hl]
  by_cases e : j = i
  · subst e; rw [if_pos rfl, if_pos (by omega), if_neg (by omega)]; simp
  · rw [if_neg e]
    by_cases e2 : i < j
    · rw [if_pos e2, if_pos e2]
    · rw [if_neg e2, List.getElem?_eq_none (by omega), List.getElem?_eq_none (by simp; omega)]
theorem set_take (st : List V2) (j : Nat) (h : st.length = j + 2) (x : V2) : (st.set j x).take (j + 1) = st.take j ++ [x] := by
  apply List.ext_getElem?
  intro i
  rw [List.getElem?_take, List.getElem?_set, List.getElem?_append, List.getElem?_take]
  have hl : (st.take j).length = j := by simp; omega
  rw [hl]
  by_cases e : j = i
  · subst e; rw [if_pos (by omega), if_pos rfl, if_pos (by omega), if_neg (by omega)]; simp
  · rw [if_neg e]
    by_cases e2 : i < j
    · rw [if_pos (by omega), if_pos e2, if_pos e2]
    · rw [if_neg (by omega), if_neg e2, List.getElem?_eq_none (by simp; omega)]
theorem stk_at {w : World} {gs : Nat} {st : List V2} (h : Flat w (some ⟨gs, 0, none⟩) (fl valC st)) (j : Nat) (hj : j < st.length) : w.cell? ⟨gs, j * 2, none⟩ = some (.bool (st.getD j noV2).1) ∧ w.cell? ⟨gs, j * 2 + 1, none⟩ = some (.int .i64 (st.getD j noV2).2) := by
  have e0 := fl_at valC_sz noV2 st j 0 hj (by omega)
  have e1 := fl_at valC_sz noV2 st j 1 hj (by omega)
  obtain ⟨g, o, e, c0⟩ := h _ _ (e0.trans rfl)
  obtain ⟨g', o', e', c1⟩ := h _ _ (e1.trans rfl)
  cases e
  cases e'
  rw [Nat.zero_add] at c0 c1
  exact ⟨c0, c1⟩
/-- The locals of step. -/
structure StM (p : Prg) (E : Envr) (w : World) (ai : Option Addr) (ci : Nat) (ac : Option Addr) (cc : Nat) (al : Option Addr) (cl : Nat) (k : Nat) (ast : Option Addr) (cs : Nat) (st : List V2) (c it co n tz : Int) (bI : Nat) (X : World) : Prop where
  pb : Bk X w.heap.size #[.slice ai p.code.length ci, .slice ac p.cols.length cc] 25
  eb : Bk X (w.heap.size + 1) #[.slice al E.lists.length cl, .int .i64 E.each, .int .i64 E.at_] 28
  sb : Bk X (w.heap.size + 2) #[.int .i64 (k : Int), .slice ast st.length cs, .bool false] 62
  rb : Bk X (w.heap.size + 3) #[.int .i64 0, .slice none 0 0, .bool false] 62
  ib : Bk X bI #[.int .i64 c, .int .i64 it, .int .i64 co, .int .i64 n, .int .i64 tz] 43
  g : Below w.heap.size w X
section
variable {p : Prg} {E : Envr} {w : World} {ai : Option Addr} {ci : Nat} {ac : Option Addr} {cc : Nat} {al : Option Addr} {cl : Nat} {k : Nat} {ast : Option Addr} {cs : Nat} {st : List V2} {c it co n tz : Int} {bI : Nat} {X : World}
theorem StM.keep (h : StM p E w ai ci ac cc al cl k ast cs st c it co n tz bI X) {u : World} (G : Below X.heap.size X u) : StM p E w ai ci ac cc al cl k ast cs st c it co n tz bI u := ⟨h.pb.keep G, h.eb.keep G, h.sb.keep G, h.rb.keep G, h.ib.keep G, gtrans h.g G⟩
theorem StM.other (h : StM p E w ai ci ac cc al cl k ast cs st c it co n tz bI X) {b : Nat} (hb : w.heap.size + 3 < b) (hI : b ≠ bI) (o : Nat) (v : Value) : StM p E w ai ci ac cc al cl k ast cs st c it co n tz bI (X.setCell ⟨b, o, none⟩ v) := ⟨h.pb.other (by omega) o v, h.eb.other (by omega) o v, h.sb.other (by omega) o v, h.rb.other (by omega) o v, h.ib.other (by omega) o v, gset h.g (by show _ ≤ b; omega) _⟩
end

set_option maxRecDepth 100000 in
set_option maxHeartbeats 8000000 in
theorem step_any (p : Prg) (hp : p.ok) (E : Envr) (hE : E.ok) (ai : Option Addr) (ci : Nat) (ac : Option Addr) (cc : Nat) (al : Option Addr) (cl : Nat) (k : Nat) (hk : k < p.code.length) (st : List V2) (hsk : st.length ≤ k) (hfit : fitS st) (ast : Option Addr) (cs : Nat) (w : World) (IP : IsPr w p ai ci ac cc) (IE : IsEnv w E al cl) (FS : Flat w ast (fl valC st)) (SS : Sl ast st.length cs) (SI : Sim ast) :
    Calls Tryd.prog 27 #[prgA p ai ci ac cc, envA al cl E, .agg #[.int .i64 (k : Int), .slice ast st.length cs, .bool false]] w fun e w' => StepR (stepP p.code p.cols E k st) e w' ∧ Below w.heap.size w w' := by
  have hpn := hp.n
  obtain ⟨i9, j9, j0, j1, j2⟩ := nf_info nf_val
  have hki : (k : Int) < (p.code.length : Int) := by omega
  obtain ⟨g, o, rfl, hg, hcc⟩ := IP.f.form (by rw [fl_len insC_sz]; omega)
  have A := in_at hcc k hk
  have hio := hp.i k
  obtain ⟨⟨c, it, co, n, tz⟩, hin⟩ : ∃ i, p.code.getD k noIn = i := ⟨_, rfl⟩
  rw [hin] at A hio
  have HIN := show Hid (_ = _) from hin
  obtain ⟨c0, c1, c2, c3, c4⟩ := A
  dsimp only at c0 c1 c2 c3 c4
  clear hcc hin
  generalize hR : stepP p.code p.cols E k st = R
  have HR := show Hid (_ = _) from hR
  clear hR
  have P4 : Bk ((((w.alloc (.cells #[.slice (some ⟨g, o, none⟩) p.code.length ci, .slice ac p.cols.length cc] 25)).alloc (.cells #[.slice al E.lists.length cl, .int .i64 E.each, .int .i64 E.at_] 28)).alloc (.cells #[.int .i64 (k : Int), .slice ast st.length cs, .bool false] 62)).alloc (.cells #[.int .i64 0, .slice none 0 0, .bool false] 62)) w.heap.size #[.slice (some ⟨g, o, none⟩) p.code.length ci, .slice ac p.cols.length cc] 25 := (((Bk.new w _ _).alloc _).alloc _).alloc _
  have E4 : Bk ((((w.alloc (.cells #[.slice (some ⟨g, o, none⟩) p.code.length ci, .slice ac p.cols.length cc] 25)).alloc (.cells #[.slice al E.lists.length cl, .int .i64 E.each, .int .i64 E.at_] 28)).alloc (.cells #[.int .i64 (k : Int), .slice ast st.length cs, .bool false] 62)).alloc (.cells #[.int .i64 0, .slice none 0 0, .bool false] 62)) (w.heap.size + 1) #[.slice al E.lists.length cl, .int .i64 E.each, .int .i64 E.at_] 28 := ((Bk.newE (by simp) _ _).alloc _).alloc _
  have S4 : Bk ((((w.alloc (.cells #[.slice (some ⟨g, o, none⟩) p.code.length ci, .slice ac p.cols.length cc] 25)).alloc (.cells #[.slice al E.lists.length cl, .int .i64 E.each, .int .i64 E.at_] 28)).alloc (.cells #[.int .i64 (k : Int), .slice ast st.length cs, .bool false] 62)).alloc (.cells #[.int .i64 0, .slice none 0 0, .bool false] 62)) (w.heap.size + 2) #[.int .i64 (k : Int), .slice ast st.length cs, .bool false] 62 := (Bk.newE (by simp) _ _).alloc _
  have R4 : Bk ((((w.alloc (.cells #[.slice (some ⟨g, o, none⟩) p.code.length ci, .slice ac p.cols.length cc] 25)).alloc (.cells #[.slice al E.lists.length cl, .int .i64 E.each, .int .i64 E.at_] 28)).alloc (.cells #[.int .i64 (k : Int), .slice ast st.length cs, .bool false] 62)).alloc (.cells #[.int .i64 0, .slice none 0 0, .bool false] 62)) (w.heap.size + 3) #[.int .i64 0, .slice none 0 0, .bool false] 62 := Bk.newE (by simp) _ _
  have B4 : Below w.heap.size w ((((w.alloc (.cells #[.slice (some ⟨g, o, none⟩) p.code.length ci, .slice ac p.cols.length cc] 25)).alloc (.cells #[.slice al E.lists.length cl, .int .i64 E.each, .int .i64 E.at_] 28)).alloc (.cells #[.int .i64 (k : Int), .slice ast st.length cs, .bool false] 62)).alloc (.cells #[.int .i64 0, .slice none 0 0, .bool false] 62)) := galloc (galloc (galloc (galloc (Below.refl w.heap.size w) _) _) _) _
  replace c0 := (B4.cell (p := ⟨g, o + k * 5, none⟩) hg).trans c0
  replace c1 := (B4.cell (p := ⟨g, o + k * 5 + 1, none⟩) hg).trans c1
  replace c2 := (B4.cell (p := ⟨g, o + k * 5 + 2, none⟩) hg).trans c2
  replace c3 := (B4.cell (p := ⟨g, o + k * 5 + 3, none⟩) hg).trans c3
  replace c4 := (B4.cell (p := ⟨g, o + k * 5 + 4, none⟩) hg).trans c4
  go_enter Tryd.func27, Tryd.ntmps27
  go_upto_region 1 with fail
  generalize ((((w.alloc (.cells #[.slice (some ⟨g, o, none⟩) p.code.length ci, .slice ac p.cols.length cc] 25)).alloc (.cells #[.slice al E.lists.length cl, .int .i64 E.each, .int .i64 E.at_] 28)).alloc (.cells #[.int .i64 (k : Int), .slice ast st.length cs, .bool false] 62)).alloc (.cells #[.int .i64 0, .slice none 0 0, .bool false] 62)) = V at *
  have MX : StM p E w (some ⟨g, o, none⟩) ci ac cc al cl k ast cs st c it co n tz V.heap.size (V.alloc (.cells #[.int .i64 c, .int .i64 it, .int .i64 co, .int .i64 n, .int .i64 tz] 43)) := ⟨P4.alloc _, E4.alloc _, S4.alloc _, R4.alloc _, Bk.new V _ _, galloc B4 _⟩
  have hV3 := R4.lt
  have p4 := P4.at2.1
  have s4 : V.cell? ⟨w.heap.size + 1 + 1, 0, none⟩ = _ := S4.at3.1
  go_upto_region 2 with fail
  generalize V.alloc (.cells #[.int .i64 c, .int .i64 it, .int .i64 co, .int .i64 n, .int .i64 tz] 43) = X at *
  clear P4 E4 S4 R4 B4 p4 s4
  clear c0 c1 c2 c3 c4
  have zw := MX.ib.lt
  obtain ⟨i0, i1, i2, i3, i4⟩ := MX.ib.at5
  obtain ⟨b0, b1⟩ := MX.pb.at2
  obtain ⟨eb0, eb1, eb2⟩ := MX.eb.at3
  obtain ⟨sb0, sb1, sb2⟩ := MX.sb.at3
  obtain ⟨rb0, rb1, rb2⟩ := MX.rb.at3
  have rf := MX.rb.free
  replace sb0 : X.cell? ⟨w.heap.size + 1 + 1, 0, none⟩ = _ := sb0
  replace sb1 : X.cell? ⟨w.heap.size + 1 + 1, 1, none⟩ = _ := sb1
  replace sb2 : X.cell? ⟨w.heap.size + 1 + 1, 2, none⟩ = _ := sb2
  replace rb0 : X.cell? ⟨w.heap.size + 1 + 1 + 1, 0, none⟩ = _ := rb0
  replace rb1 : X.cell? ⟨w.heap.size + 1 + 1 + 1, 1, none⟩ = _ := rb1
  replace rb2 : X.cell? ⟨w.heap.size + 1 + 1 + 1, 2, none⟩ = _ := rb2
  replace rf : ∀ o, X.frozen? ⟨w.heap.size + 1 + 1 + 1, o, none⟩ = false := rf
  have cn := needs_any c X
  by_cases hrdy : 0 < c ∧ c < 27 ∧ ndsI c ≤ st.length
  · have hnr : ¬ ¬ (0 < c ∧ c < 27 ∧ ndsI c ≤ st.length) := fun h => h hrdy
    obtain ⟨hr0, hr1, hr2⟩ := hrdy
    rw [show ndsR c = (ndsI c : Int) from if_neg (by omega)] at cn
    have hle : ¬ (st.length : Int) < (ndsI c : Int) := by omega
    have hnn : ¬ (ndsI c : Int) < 0 := by omega
    have MY := MX.keep (galloc (Below.refl X.heap.size X) (.cells #[] 3))
    obtain ⟨nd, hnd⟩ : ∃ nd, ndsI c = nd := ⟨_, rfl⟩
    rw [hnd] at cn hle hnn hr2
    go_upto_region 7 with (first | (go_at_call 46; (with_reducible refine cn.mono ?_); rintro _ _ ⟨rfl, rfl⟩))
    generalize X.alloc (.cells #[] 3) = Y at *
    obtain ⟨yi0, yi1, yi2, yi3, yi4⟩ := MY.ib.at5
    obtain ⟨yb0, yb1⟩ := MY.pb.at2
    obtain ⟨ye0, ye1, ye2⟩ := MY.eb.at3
    have ys0 : Y.cell? ⟨w.heap.size + 1 + 1, 0, none⟩ = _ := MY.sb.at3.1
    have ys1 : Y.cell? ⟨w.heap.size + 1 + 1, 1, none⟩ = _ := MY.sb.at3.2.1
    have yr0 : Y.cell? ⟨w.heap.size + 1 + 1 + 1, 0, none⟩ = _ := MY.rb.at3.1
    have yr1 : Y.cell? ⟨w.heap.size + 1 + 1 + 1, 1, none⟩ = _ := MY.rb.at3.2.1
    have yr2 : Y.cell? ⟨w.heap.size + 1 + 1 + 1, 2, none⟩ = _ := MY.rb.at3.2.2
    have yrf : ∀ o, Y.frozen? ⟨w.heap.size + 1 + 1 + 1, o, none⟩ = false := MY.rb.free
    clear i0 i1 i2 i3 i4 b0 b1 eb0 eb1 eb2 sb0 sb1 sb2 rb0 rb1 rb2 rf cn
    by_cases hcol : c = 2 ∨ c = 3 ∨ (5 ≤ c ∧ c ≤ 9)
    · have h10 : c < 10 := by omega
      have hnd0 : nd = 0 := by rw [← hnd]; exact if_pos h10
      subst hnd0
      clear hnd
      go_cut [49] from 15 (fun s wx => s = .bool true ∧ Y = wx)
      case first =>
        by_cases h2 : c = 2
        · subst h2
          go_wp2
          go_meet
          case rel => exact ⟨rfl, rfl⟩
        by_cases h3 : c = 3
        · subst h3
          go_wp2
          go_meet
          case rel => exact ⟨rfl, rfl⟩
        have e2 : (c == 2) = false := beq_eq_false_iff_ne.2 h2
        have e3 : (c == 3) = false := beq_eq_false_iff_ne.2 h3
        have h5 : 5 ≤ c := by omega
        have h9 : c ≤ 9 := by omega
        clear hcol h10
        go_wp2
        go_meet
        case rel => exact ⟨rfl, rfl⟩
      case rest =>
        obtain ⟨rfl, rfl⟩ := hcut
        by_cases hco : 0 ≤ co ∧ co < (p.cols.length : Int)
        · obtain ⟨jc, rfl⟩ : ∃ jc : Nat, co = jc := ⟨co.toNat, by omega⟩
          have hjc : jc < p.cols.length := by omega
          have f1 : (jc : Int) < (p.cols.length : Int) := hco.2
          have f2 : ¬ (jc : Int) < 0 := by omega
          obtain ⟨gc, oc, acl, ccl, rfl, x0, hfc, hsc⟩ := (IP.c.keep MY.g) jc hjc
          have hkl := hp.k jc
          have hs : stepP p.code p.cols E k st = some (k + 1, st ++ [laidV ⟨c, it, (jc : Int), n, tz⟩ (p.cols.getD jc []) E]) := by
            rw [stepP_of HIN.out, if_neg hnr, if_neg (by omega), if_neg (by omega), if_pos h10, if_pos hco]
            unfold laidV
            dsimp only
            rw [if_neg (by omega), if_neg (by omega)]
            rfl
          have hcl2 : (p.cols.getD jc []).length ≤ 140737488351232 := by omega
          generalize p.cols.getD jc [] = col at *
          have e25 : (c == 25) = false := beq_eq_false_iff_ne.2 (by omega)
          have e26 : (c == 26) = false := beq_eq_false_iff_ne.2 (by omega)
          clear hco hnr
          go_upto_region 18 with fail
          go_cut [12] from 15 (fun s wx => s = .slice ast st.length cs ∧ Y = wx)
          case first =>
            rcases SI with rfl | ⟨gs, rfl⟩
            · obtain ⟨hs0, hs1⟩ := SS.2 rfl
              have hst : st = [] := List.length_eq_zero_iff.1 hs0
              subst hst hs1
              go_wp2
              go_meet
              case rel => exact ⟨rfl, rfl⟩
            · have hcs := SS.1
              go_wp2
              go_meet
              case rel => exact ⟨rfl, rfl⟩
          case rest =>
            obtain ⟨rfl, rfl⟩ := hcut
            go_upto_region 21 with (go_at_call 28; (with_reducible refine (refNothing_any _).mono ?_); rintro _ u0 ⟨rfl, gn⟩)
            have TY := Two.new u0 (.bool false) (.int .i64 0) 33
            have GY2 := galloc gn (.cells #[.bool false, .int .i64 0] 33)
            have MY2 := MY.keep GY2
            have hbz : w.heap.size + 3 < u0.heap.size := by have := MY.rb.lt; have := gn.size; omega
            have hbI : u0.heap.size ≠ V.heap.size := by have := MY.ib.lt; have := gn.size; omega
            generalize u0.alloc (.cells #[.bool false, .int .i64 0] 33) = Y2 at *
            generalize u0.heap.size = bz at *
            clear gn
            obtain ⟨qi0, qi1, qi2, qi3, qi4⟩ := MY2.ib.at5
            obtain ⟨qb0, qb1⟩ := MY2.pb.at2
            obtain ⟨qe0, qe1, qe2⟩ := MY2.eb.at3
            have qs0 : Y2.cell? ⟨w.heap.size + 1 + 1, 0, none⟩ = _ := MY2.sb.at3.1
            have qs1 : Y2.cell? ⟨w.heap.size + 1 + 1, 1, none⟩ = _ := MY2.sb.at3.2.1
            have qr0 : Y2.cell? ⟨w.heap.size + 1 + 1 + 1, 0, none⟩ = _ := MY2.rb.at3.1
            have qr1 : Y2.cell? ⟨w.heap.size + 1 + 1 + 1, 1, none⟩ = _ := MY2.rb.at3.2.1
            have qr2 : Y2.cell? ⟨w.heap.size + 1 + 1 + 1, 2, none⟩ = _ := MY2.rb.at3.2.2
            have qrf : ∀ o, Y2.frozen? ⟨w.heap.size + 1 + 1 + 1, o, none⟩ = false := MY2.rb.free

            have cl' := laid_any c it (jc : Int) n tz hr0 h10 E hE al cl acl ccl col Y2 (hfc.keep GY2) hcl2 (IE.n.keep MY2.g)
            try rw [List.length_nil] at cl'
            obtain ⟨⟨vk, vn⟩, hvv⟩ : ∃ x, laidV ⟨c, it, (jc : Int), n, tz⟩ col E = x := ⟨_, rfl⟩
            rw [hvv] at cl' hs
            have hst : st ++ [(vk, vn)] = st.take st.length ++ [(vk, vn)] := by rw [List.take_length]
            rw [hst] at hs
            obtain rfl := HR.out.symm.trans hs
            clear HR HIN hvv hst hs
            go_upto_region 27 with (first | (go_at_call 47; (with_reducible refine cl'.mono ?_); rintro _ u ⟨rfl, gu⟩; have MU := MY2.keep gu; have TU := TY.keep gu; have tu0 := TU.at0; have tu1 := TU.at1; have tuf := TU.free))
            have MZ := (MU.other hbz hbI 0 (.bool vk)).other hbz hbI 1 (.int .i64 vn)
            have TZ := TU.set (.bool vk) (.int .i64 vn)
            generalize (u.setCell ⟨bz, 0, none⟩ (.bool vk)).setCell ⟨bz, 1, none⟩ (.int .i64 vn) = Z at *
            clear MU TU
            have FZ := flat_take (FS.keep MZ.g) st.length
            have hyl : (fl valC (st.take st.length)).length = st.length * 2 := by rw [fl_len valC_sz, List.length_take]; omega
            have SZ : Sl ast st.length cs := ⟨by have := SS.1; omega, fun e => by have := SS.2 e; omega⟩
            go_wp2_with (first
              | (at_builtin; refine wpList_append_flat rfl (.tmp 177) (.tmp 178) rfl Tryd.underlying49 nf_val rfl (by decide) (.slice none 0 0) Z.heap.size 0 [] rfl (World.ownsRow_nil _ _ _ _) (Nat.le_refl _) ast st.length cs (fl valC (st.take st.length)) rfl SZ FZ hyl (fl_one valC_one _) (by omega) (by omega) ?_; intro v1 w1 O1 g1; rw [Nat.zero_add, List.nil_append] at O1; obtain ⟨a1, k1, rfl, _, _, _⟩ := own_form O1; have GZ := (Below.refl Z.heap.size Z).grown g1 (Nat.le_refl _) (fun k e => by cases e); have M1 := MZ.keep GZ; have T1 := TZ.keep GZ; obtain ⟨t0, t1⟩ := show _ ∧ _ from ⟨T1.at0, T1.at1⟩)
              | (at_builtin; refine wpList_append_own _ rfl (.tmp 180) (.tmp 182) 49 rfl Z.heap.size 33 i9 (.agg #[.bool false, .int .i64 0]) 2 16 Tryd.underlying49 j9 j0 j1 j2 rfl (by decide) _ _ _ rfl (O1.alloc _) ⟨w1.heap.size, 0, none⟩ 1 1 [.bool vk, .int .i64 vn] rfl rfl (two_newE rfl _ _ _) (fun y hy => by simp at hy; rcases hy with rfl | rfl <;> rfl) ?c3 ?c4 ?c5 ?_))
            case c3 => unfold maxLen; omega
            case c4 => omega
            case c5 => have := GZ.size; simp; omega
            intro v' w2 own' hgrow _
            obtain ⟨a2, k2, rfl, hk2, _, hor⟩ := own_form own'
            obtain ⟨g2, rfl, _, _⟩ : ∃ g2, a2 = some ⟨g2, 0, none⟩ ∧ g2 < w2.heap.size ∧ Z.heap.size ≤ g2 := by rcases hor with h | h; omega; exact h
            have ge := galloc (Below.refl w1.heap.size w1) (.cells #[.bool vk, .int .i64 vn] 33)
            have O1a := own_keep O1 ge
            have zz := MZ.ib.lt
            have zr := MZ.rb.lt
            have gb := fun (b : Nat) (hb : b < Z.heap.size) => hgrow.block b (by have := GZ.size; simp; omega) (fun e => by have := (O1a.lt _ e.symm).1; omega)
            have M2 := M1.keep ge
            have R2 : Bk w2 (w.heap.size + 3) #[.int .i64 0, .slice none 0 0, .bool false] 62 := (gb _ (by omega)).trans M2.rb
            have S2 : Bk w2 (w.heap.size + 2) #[.int .i64 (k : Int), .slice ast st.length cs, .bool false] 62 := (gb _ (by omega)).trans M2.sb
            have G2 : Below w.heap.size w w2 := M2.g.grown hgrow (by have := M2.g.size; omega) (fun r e => by have := (O1a.lt _ e).1; have := MZ.g.size; omega)
            have d0 : w2.cell? ⟨w.heap.size + 1 + 1, 0, none⟩ = _ := S2.at3.1
            have e0 : w2.cell? ⟨w.heap.size + 1 + 1 + 1, 0, none⟩ = _ := R2.at3.1
            have e1 : w2.cell? ⟨w.heap.size + 1 + 1 + 1, 1, none⟩ = _ := R2.at3.2.1
            have e2 : w2.cell? ⟨w.heap.size + 1 + 1 + 1, 2, none⟩ = _ := R2.at3.2.2
            have ef : ∀ o, w2.frozen? ⟨w.heap.size + 1 + 1 + 1, o, none⟩ = false := R2.free
            have hl2 : (st.take st.length ++ [(vk, vn)]).length = st.length + 1 := by rw [List.length_append, List.length_take, List.length_cons, List.length_nil]; omega
            have O2 : w2.ownsRow Z.heap.size 33 2 (.slice (some ⟨g2, 0, none⟩) (st.length + 1) k2) (st.length + 1) (fl valC (st.take st.length ++ [(vk, vn)])) := by
              rw [fl_app]
              first | exact own' | (rw [List.take_length]; exact own')
            have HO := show Hid _ from O2
            have S2l : Sl (some ⟨g2, 0, none⟩) (st.take st.length ++ [(vk, vn)]).length k2 := ⟨by omega, fun e => by cases e⟩
            clear own' hgrow gb M2 O1a O1 M1 T1 MZ TZ FZ O2
            go_wp2
            refine bodyPost_ret (v := .agg #[.int .i64 ((k : Int) + 1), .slice (some ⟨g2, 0, none⟩) (st.length + 1) k2, .bool false]) (by simp [results, Tryd.results27, go_sem, e0, e1, e2]) rfl ⟨⟨some ⟨g2, 0, none⟩, k2, by rw [hl2]; rfl, ?_, S2l, .inr ⟨_, rfl⟩⟩, ?_⟩
            · exact own_flat (own_but HO.out R2 (by decide) ((((But.refl (w.heap.size + 3) w2).set 0 _).set 1 _).set 2 _))
            · exact gset (gset (gset G2 (by simp; omega) _) (by simp; omega) _) (by simp; omega) _
        · have hs : stepP p.code p.cols E k st = none := by rw [stepP_of HIN.out, if_neg hnr, if_neg (by omega), if_neg (by omega), if_pos h10, if_neg hco]
          obtain rfl := HR.out.symm.trans hs
          by_cases hc0 : co < 0
          · clear hco hcol HR HIN
            go_wp2
            refine bodyPost_ret (v := .agg #[.int .i64 0, .slice none 0 0, .bool true]) (by simp [results, Tryd.results27, go_sem, yr0, yr1, yr2]) rfl ⟨rfl, ?_⟩
            exact gset (gset (gset MY.g (by simp; omega) _) (by simp; omega) _) (by simp; omega) _
          · have hc1 : (p.cols.length : Int) ≤ co := by omega
            clear hco hcol HR HIN
            go_wp2
            refine bodyPost_ret (v := .agg #[.int .i64 0, .slice none 0 0, .bool true]) (by simp [results, Tryd.results27, go_sem, yr0, yr1, yr2]) rfl ⟨rfl, ?_⟩
            exact gset (gset (gset MY.g (by simp; omega) _) (by simp; omega) _) (by simp; omega) _
    have e2 : (c == 2) = false := beq_eq_false_iff_ne.2 (by omega)
    have e3 : (c == 3) = false := beq_eq_false_iff_ne.2 (by omega)
    go_cut [49] from 15 (fun s wx => s = .bool false ∧ Y = wx)
    case first =>
      by_cases h5 : 5 ≤ c
      · have h9 : ¬ c ≤ 9 := by omega
        clear hcol
        go_wp2
        go_meet
        case rel => exact ⟨rfl, rfl⟩
      · clear hcol
        go_wp2
        go_meet
        case rel => exact ⟨rfl, rfl⟩
    case rest =>
      obtain ⟨rfl, rfl⟩ := hcut
      by_cases h25 : 25 ≤ c
      · obtain ⟨j, hj⟩ : ∃ j, st.length = j + 1 := ⟨st.length - 1, by have : ndsI c = 1 := by { unfold ndsI; rw [if_neg (by omega), if_pos (by omega)] }; omega⟩
        obtain ⟨gs, rfl⟩ : ∃ gs, ast = some ⟨gs, 0, none⟩ := by rcases SI with h | h; have := SS.2 h; omega; exact h
        have htp : topV st = st.getD j noV2 := by unfold topV; rw [hj]; rfl
        obtain ⟨s0, s1⟩ := stk_at (FS.keep MY.g) j (by omega)
        obtain ⟨⟨tk, tn⟩, htv⟩ : ∃ x, st.getD j noV2 = x := ⟨_, rfl⟩
        rw [htv] at s0 s1 htp
        dsimp only at s0 s1
        rw [hj] at ys1
        have hcs := SS.1
        have hgs := lt_of_cell s0
        dsimp only at hgs
        by_cases hto : (k : Int) < tz ∧ tz ≤ (p.code.length : Int)
        · have hs : stepP p.code p.cols E k st = if jmpB c (tk, tn) = true then some (tz.toNat, st) else some (k + 1, st) := by rw [stepP_of HIN.out, if_neg hnr, if_neg (by omega), if_neg (by omega), if_neg (by omega), if_neg (by omega), if_neg (by omega), if_pos h25, if_pos hto, htp]
          obtain ⟨ht0, ht1⟩ := hto
          have htz : (tz.toNat : Int) = tz := by omega
          clear htp htv
          by_cases hc25 : c = 25
          · subst hc25
            have f1 : ¬ tz ≤ (k : Int) := by omega
            have f2 : ¬ (p.code.length : Int) < tz := by omega
            have VM := MY.keep (galloc (Below.refl Y.heap.size Y) (.cells #[.bool tk, .int .i64 tn] 33))
            have TV := Two.new Y (.bool tk) (.int .i64 tn) 33
            go_upto_region 15 with fail
            generalize Y.alloc (.cells #[.bool tk, .int .i64 tn] 33) = Y3 at *
            obtain ⟨vi0, vi1, vi2, vi3, vi4⟩ := VM.ib.at5
            obtain ⟨vb0, vb1⟩ := VM.pb.at2
            obtain ⟨ve0, ve1, ve2⟩ := VM.eb.at3
            have vs0 : Y3.cell? ⟨w.heap.size + 1 + 1, 0, none⟩ = _ := VM.sb.at3.1
            have vs1 : Y3.cell? ⟨w.heap.size + 1 + 1, 1, none⟩ = _ := VM.sb.at3.2.1
            have vr0 : Y3.cell? ⟨w.heap.size + 1 + 1 + 1, 0, none⟩ = _ := VM.rb.at3.1
            have vr1 : Y3.cell? ⟨w.heap.size + 1 + 1 + 1, 1, none⟩ = _ := VM.rb.at3.2.1
            have vr2 : Y3.cell? ⟨w.heap.size + 1 + 1 + 1, 2, none⟩ = _ := VM.rb.at3.2.2
            have vrf : ∀ o, Y3.frozen? ⟨w.heap.size + 1 + 1 + 1, o, none⟩ = false := VM.rb.free
            rw [hj] at vs1
            have tv0 := TV.at0
            have tv1 := TV.at1
            clear s0 s1 yi0 yi1 yi2 yi3 yi4 yb0 yb1 ye0 ye1 ye2 ys0 ys1 yr0 yr1 yr2 yrf TV
            cases tk
            · rw [show jmpB 25 (false, tn) = false from rfl, if_neg (by decide)] at hs
              obtain rfl := HR.out.symm.trans hs
              clear HR HIN hs hnr
              go_wp2
              refine bodyPost_ret (v := .agg #[.int .i64 ((k : Int) + 1), .slice (some ⟨gs, 0, none⟩) (j + 1) cs, .bool false]) (by simp [results, Tryd.results27, go_sem, vr0, vr1, vr2]) rfl ⟨⟨some ⟨gs, 0, none⟩, cs, by rw [hj]; first | rfl | rw [htz], ?_, SS, .inr ⟨_, rfl⟩⟩, ?_⟩
              · exact FS.keep (gset (gset (gset VM.g (by simp; omega) _) (by simp; omega) _) (by simp; omega) _)
              · exact gset (gset (gset VM.g (by simp; omega) _) (by simp; omega) _) (by simp; omega) _
            · by_cases h0 : tn = 0
              · subst h0
                rw [show jmpB 25 (true, 0) = true from rfl, if_pos rfl] at hs
                obtain rfl := HR.out.symm.trans hs
                clear HR HIN hs hnr
                go_wp2
                refine bodyPost_ret (v := .agg #[.int .i64 tz, .slice (some ⟨gs, 0, none⟩) (j + 1) cs, .bool false]) (by simp [results, Tryd.results27, go_sem, vr0, vr1, vr2]) rfl ⟨⟨some ⟨gs, 0, none⟩, cs, by rw [hj]; first | rfl | rw [htz], ?_, SS, .inr ⟨_, rfl⟩⟩, ?_⟩
                · exact FS.keep (gset (gset (gset VM.g (by simp; omega) _) (by simp; omega) _) (by simp; omega) _)
                · exact gset (gset (gset VM.g (by simp; omega) _) (by simp; omega) _) (by simp; omega) _
              · have hrd : rd true tn = 2 := by unfold rd; rw [if_pos rfl, if_neg h0]
                have h0b : (tn == 0) = false := beq_eq_false_iff_ne.2 h0
                rw [show jmpB 25 (true, tn) = false by unfold jmpB; dsimp only; rw [hrd]; rfl, if_neg (by decide)] at hs
                obtain rfl := HR.out.symm.trans hs
                clear HR HIN hs hnr
                go_wp2
                refine bodyPost_ret (v := .agg #[.int .i64 ((k : Int) + 1), .slice (some ⟨gs, 0, none⟩) (j + 1) cs, .bool false]) (by simp [results, Tryd.results27, go_sem, vr0, vr1, vr2]) rfl ⟨⟨some ⟨gs, 0, none⟩, cs, by rw [hj]; first | rfl | rw [htz], ?_, SS, .inr ⟨_, rfl⟩⟩, ?_⟩
                · exact FS.keep (gset (gset (gset VM.g (by simp; omega) _) (by simp; omega) _) (by simp; omega) _)
                · exact gset (gset (gset VM.g (by simp; omega) _) (by simp; omega) _) (by simp; omega) _
          · have hc26 : c = 26 := by omega
            subst hc26
            have f1 : ¬ tz ≤ (k : Int) := by omega
            have f2 : ¬ (p.code.length : Int) < tz := by omega
            have VM := MY.keep (galloc (Below.refl Y.heap.size Y) (.cells #[.bool tk, .int .i64 tn] 33))
            have TV := Two.new Y (.bool tk) (.int .i64 tn) 33
            go_upto_region 15 with fail
            generalize Y.alloc (.cells #[.bool tk, .int .i64 tn] 33) = Y3 at *
            obtain ⟨vi0, vi1, vi2, vi3, vi4⟩ := VM.ib.at5
            obtain ⟨vb0, vb1⟩ := VM.pb.at2
            obtain ⟨ve0, ve1, ve2⟩ := VM.eb.at3
            have vs0 : Y3.cell? ⟨w.heap.size + 1 + 1, 0, none⟩ = _ := VM.sb.at3.1
            have vs1 : Y3.cell? ⟨w.heap.size + 1 + 1, 1, none⟩ = _ := VM.sb.at3.2.1
            have vr0 : Y3.cell? ⟨w.heap.size + 1 + 1 + 1, 0, none⟩ = _ := VM.rb.at3.1
            have vr1 : Y3.cell? ⟨w.heap.size + 1 + 1 + 1, 1, none⟩ = _ := VM.rb.at3.2.1
            have vr2 : Y3.cell? ⟨w.heap.size + 1 + 1 + 1, 2, none⟩ = _ := VM.rb.at3.2.2
            have vrf : ∀ o, Y3.frozen? ⟨w.heap.size + 1 + 1 + 1, o, none⟩ = false := VM.rb.free
            rw [hj] at vs1
            have tv0 := TV.at0
            have tv1 := TV.at1
            clear s0 s1 yi0 yi1 yi2 yi3 yi4 yb0 yb1 ye0 ye1 ye2 ys0 ys1 yr0 yr1 yr2 yrf TV
            cases tk
            · rw [show jmpB 26 (false, tn) = false from rfl, if_neg (by decide)] at hs
              obtain rfl := HR.out.symm.trans hs
              clear HR HIN hs hnr
              go_wp2
              refine bodyPost_ret (v := .agg #[.int .i64 ((k : Int) + 1), .slice (some ⟨gs, 0, none⟩) (j + 1) cs, .bool false]) (by simp [results, Tryd.results27, go_sem, vr0, vr1, vr2]) rfl ⟨⟨some ⟨gs, 0, none⟩, cs, by rw [hj]; first | rfl | rw [htz], ?_, SS, .inr ⟨_, rfl⟩⟩, ?_⟩
              · exact FS.keep (gset (gset (gset VM.g (by simp; omega) _) (by simp; omega) _) (by simp; omega) _)
              · exact gset (gset (gset VM.g (by simp; omega) _) (by simp; omega) _) (by simp; omega) _
            · by_cases h0 : tn = 0
              · subst h0
                rw [show jmpB 26 (true, 0) = false from rfl, if_neg (by decide)] at hs
                obtain rfl := HR.out.symm.trans hs
                clear HR HIN hs hnr
                go_wp2
                refine bodyPost_ret (v := .agg #[.int .i64 ((k : Int) + 1), .slice (some ⟨gs, 0, none⟩) (j + 1) cs, .bool false]) (by simp [results, Tryd.results27, go_sem, vr0, vr1, vr2]) rfl ⟨⟨some ⟨gs, 0, none⟩, cs, by rw [hj]; first | rfl | rw [htz], ?_, SS, .inr ⟨_, rfl⟩⟩, ?_⟩
                · exact FS.keep (gset (gset (gset VM.g (by simp; omega) _) (by simp; omega) _) (by simp; omega) _)
                · exact gset (gset (gset VM.g (by simp; omega) _) (by simp; omega) _) (by simp; omega) _
              · have hrd : rd true tn = 2 := by unfold rd; rw [if_pos rfl, if_neg h0]
                have h0b : (tn == 0) = false := beq_eq_false_iff_ne.2 h0
                rw [show jmpB 26 (true, tn) = true by unfold jmpB; dsimp only; rw [hrd]; rfl, if_pos rfl] at hs
                obtain rfl := HR.out.symm.trans hs
                clear HR HIN hs hnr
                go_wp2
                refine bodyPost_ret (v := .agg #[.int .i64 tz, .slice (some ⟨gs, 0, none⟩) (j + 1) cs, .bool false]) (by simp [results, Tryd.results27, go_sem, vr0, vr1, vr2]) rfl ⟨⟨some ⟨gs, 0, none⟩, cs, by rw [hj]; first | rfl | rw [htz], ?_, SS, .inr ⟨_, rfl⟩⟩, ?_⟩
                · exact FS.keep (gset (gset (gset VM.g (by simp; omega) _) (by simp; omega) _) (by simp; omega) _)
                · exact gset (gset (gset VM.g (by simp; omega) _) (by simp; omega) _) (by simp; omega) _
        · have hs : stepP p.code p.cols E k st = none := by rw [stepP_of HIN.out, if_neg hnr, if_neg (by omega), if_neg (by omega), if_neg (by omega), if_neg (by omega), if_neg (by omega), if_pos h25, if_neg hto]
          obtain rfl := HR.out.symm.trans hs
          clear HR HIN hs hnr htp htv
          by_cases hc0 : tz ≤ (k : Int)
          · rcases (show c = 25 ∨ c = 26 by omega) with rfl | rfl
            all_goals
              clear hto
              go_wp2
              refine bodyPost_ret (v := .agg #[.int .i64 0, .slice none 0 0, .bool true]) (by simp [results, Tryd.results27, go_sem, yr0, yr1, yr2]) rfl ⟨rfl, ?_⟩
              exact gset (gset (gset MY.g (by simp; omega) _) (by simp; omega) _) (by simp; omega) _
          · have hc1 : (p.code.length : Int) < tz := by omega
            rcases (show c = 25 ∨ c = 26 by omega) with rfl | rfl
            all_goals
              clear hto
              go_wp2
              refine bodyPost_ret (v := .agg #[.int .i64 0, .slice none 0 0, .bool true]) (by simp [results, Tryd.results27, go_sem, yr0, yr1, yr2]) rfl ⟨rfl, ?_⟩
              exact gset (gset (gset MY.g (by simp; omega) _) (by simp; omega) _) (by simp; omega) _
      have e25 : (c == 25) = false := beq_eq_false_iff_ne.2 (by omega)
      have e26 : (c == 26) = false := beq_eq_false_iff_ne.2 (by omega)
      by_cases h10 : c < 10
      · have hnd0 : nd = 0 := by rw [← hnd]; exact if_pos h10
        subst hnd0
        have hs : stepP p.code p.cols E k st = some (k + 1, st ++ [laidV ⟨c, it, co, n, tz⟩ [] E]) := by
          rw [stepP_of HIN.out, if_neg hnr]
          unfold laidV
          dsimp only
          by_cases h1 : c = 1
          · rw [if_pos h1, if_pos h1]
          · have h4 : c = 4 := by omega
            rw [if_neg h1, if_pos h4, if_neg h1, if_pos h4]
        have hfc : Flat Y (some ⟨X.heap.size, 0, none⟩) (fl intC []) := Flat.nil _ _
        have hcl2 : ([] : List Int).length ≤ 140737488351232 := by simp
        clear hnd hnr
        go_upto_region 18 with fail
        go_cut [12] from 15 (fun s wx => s = .slice ast st.length cs ∧ Y = wx)
        case first =>
          rcases SI with rfl | ⟨gs, rfl⟩
          · obtain ⟨hs0, hs1⟩ := SS.2 rfl
            have hst : st = [] := List.length_eq_zero_iff.1 hs0
            subst hst hs1
            go_wp2
            go_meet
            case rel => exact ⟨rfl, rfl⟩
          · have hcs := SS.1
            go_wp2
            go_meet
            case rel => exact ⟨rfl, rfl⟩
        case rest =>
          obtain ⟨rfl, rfl⟩ := hcut
          go_upto_region 21 with (go_at_call 28; (with_reducible refine (refNothing_any _).mono ?_); rintro _ u0 ⟨rfl, gn⟩)
          have TY := Two.new u0 (.bool false) (.int .i64 0) 33
          have GY2 := galloc gn (.cells #[.bool false, .int .i64 0] 33)
          have MY2 := MY.keep GY2
          have hbz : w.heap.size + 3 < u0.heap.size := by have := MY.rb.lt; have := gn.size; omega
          have hbI : u0.heap.size ≠ V.heap.size := by have := MY.ib.lt; have := gn.size; omega
          generalize u0.alloc (.cells #[.bool false, .int .i64 0] 33) = Y2 at *
          generalize u0.heap.size = bz at *
          clear gn
          obtain ⟨qi0, qi1, qi2, qi3, qi4⟩ := MY2.ib.at5
          obtain ⟨qb0, qb1⟩ := MY2.pb.at2
          obtain ⟨qe0, qe1, qe2⟩ := MY2.eb.at3
          have qs0 : Y2.cell? ⟨w.heap.size + 1 + 1, 0, none⟩ = _ := MY2.sb.at3.1
          have qs1 : Y2.cell? ⟨w.heap.size + 1 + 1, 1, none⟩ = _ := MY2.sb.at3.2.1
          have qr0 : Y2.cell? ⟨w.heap.size + 1 + 1 + 1, 0, none⟩ = _ := MY2.rb.at3.1
          have qr1 : Y2.cell? ⟨w.heap.size + 1 + 1 + 1, 1, none⟩ = _ := MY2.rb.at3.2.1
          have qr2 : Y2.cell? ⟨w.heap.size + 1 + 1 + 1, 2, none⟩ = _ := MY2.rb.at3.2.2
          have qrf : ∀ o, Y2.frozen? ⟨w.heap.size + 1 + 1 + 1, o, none⟩ = false := MY2.rb.free

          have cl' := laid_any c it co n tz hr0 h10 E hE al cl (some ⟨X.heap.size, 0, none⟩) 0 [] Y2 (hfc.keep GY2) hcl2 (IE.n.keep MY2.g)
          try rw [List.length_nil] at cl'
          obtain ⟨⟨vk, vn⟩, hvv⟩ : ∃ x, laidV ⟨c, it, co, n, tz⟩ [] E = x := ⟨_, rfl⟩
          rw [hvv] at cl' hs
          have hst : st ++ [(vk, vn)] = st.take st.length ++ [(vk, vn)] := by rw [List.take_length]
          rw [hst] at hs
          obtain rfl := HR.out.symm.trans hs
          clear HR HIN hvv hst hs
          go_upto_region 27 with (first | (go_at_call 47; (with_reducible refine cl'.mono ?_); rintro _ u ⟨rfl, gu⟩; have MU := MY2.keep gu; have TU := TY.keep gu; have tu0 := TU.at0; have tu1 := TU.at1; have tuf := TU.free))
          have MZ := (MU.other hbz hbI 0 (.bool vk)).other hbz hbI 1 (.int .i64 vn)
          have TZ := TU.set (.bool vk) (.int .i64 vn)
          generalize (u.setCell ⟨bz, 0, none⟩ (.bool vk)).setCell ⟨bz, 1, none⟩ (.int .i64 vn) = Z at *
          clear MU TU
          have FZ := flat_take (FS.keep MZ.g) st.length
          have hyl : (fl valC (st.take st.length)).length = st.length * 2 := by rw [fl_len valC_sz, List.length_take]; omega
          have SZ : Sl ast st.length cs := ⟨by have := SS.1; omega, fun e => by have := SS.2 e; omega⟩
          go_wp2_with (first
            | (at_builtin; refine wpList_append_flat rfl (.tmp 177) (.tmp 178) rfl Tryd.underlying49 nf_val rfl (by decide) (.slice none 0 0) Z.heap.size 0 [] rfl (World.ownsRow_nil _ _ _ _) (Nat.le_refl _) ast st.length cs (fl valC (st.take st.length)) rfl SZ FZ hyl (fl_one valC_one _) (by omega) (by omega) ?_; intro v1 w1 O1 g1; rw [Nat.zero_add, List.nil_append] at O1; obtain ⟨a1, k1, rfl, _, _, _⟩ := own_form O1; have GZ := (Below.refl Z.heap.size Z).grown g1 (Nat.le_refl _) (fun k e => by cases e); have M1 := MZ.keep GZ; have T1 := TZ.keep GZ; obtain ⟨t0, t1⟩ := show _ ∧ _ from ⟨T1.at0, T1.at1⟩)
            | (at_builtin; refine wpList_append_own _ rfl (.tmp 180) (.tmp 182) 49 rfl Z.heap.size 33 i9 (.agg #[.bool false, .int .i64 0]) 2 16 Tryd.underlying49 j9 j0 j1 j2 rfl (by decide) _ _ _ rfl (O1.alloc _) ⟨w1.heap.size, 0, none⟩ 1 1 [.bool vk, .int .i64 vn] rfl rfl (two_newE rfl _ _ _) (fun y hy => by simp at hy; rcases hy with rfl | rfl <;> rfl) ?c3 ?c4 ?c5 ?_))
          case c3 => unfold maxLen; omega
          case c4 => omega
          case c5 => have := GZ.size; simp; omega
          intro v' w2 own' hgrow _
          obtain ⟨a2, k2, rfl, hk2, _, hor⟩ := own_form own'
          obtain ⟨g2, rfl, _, _⟩ : ∃ g2, a2 = some ⟨g2, 0, none⟩ ∧ g2 < w2.heap.size ∧ Z.heap.size ≤ g2 := by rcases hor with h | h; omega; exact h
          have ge := galloc (Below.refl w1.heap.size w1) (.cells #[.bool vk, .int .i64 vn] 33)
          have O1a := own_keep O1 ge
          have zz := MZ.ib.lt
          have zr := MZ.rb.lt
          have gb := fun (b : Nat) (hb : b < Z.heap.size) => hgrow.block b (by have := GZ.size; simp; omega) (fun e => by have := (O1a.lt _ e.symm).1; omega)
          have M2 := M1.keep ge
          have R2 : Bk w2 (w.heap.size + 3) #[.int .i64 0, .slice none 0 0, .bool false] 62 := (gb _ (by omega)).trans M2.rb
          have S2 : Bk w2 (w.heap.size + 2) #[.int .i64 (k : Int), .slice ast st.length cs, .bool false] 62 := (gb _ (by omega)).trans M2.sb
          have G2 : Below w.heap.size w w2 := M2.g.grown hgrow (by have := M2.g.size; omega) (fun r e => by have := (O1a.lt _ e).1; have := MZ.g.size; omega)
          have d0 : w2.cell? ⟨w.heap.size + 1 + 1, 0, none⟩ = _ := S2.at3.1
          have e0 : w2.cell? ⟨w.heap.size + 1 + 1 + 1, 0, none⟩ = _ := R2.at3.1
          have e1 : w2.cell? ⟨w.heap.size + 1 + 1 + 1, 1, none⟩ = _ := R2.at3.2.1
          have e2 : w2.cell? ⟨w.heap.size + 1 + 1 + 1, 2, none⟩ = _ := R2.at3.2.2
          have ef : ∀ o, w2.frozen? ⟨w.heap.size + 1 + 1 + 1, o, none⟩ = false := R2.free
          have hl2 : (st.take st.length ++ [(vk, vn)]).length = st.length + 1 := by rw [List.length_append, List.length_take, List.length_cons, List.length_nil]; omega
          have O2 : w2.ownsRow Z.heap.size 33 2 (.slice (some ⟨g2, 0, none⟩) (st.length + 1) k2) (st.length + 1) (fl valC (st.take st.length ++ [(vk, vn)])) := by
            rw [fl_app]
            first | exact own' | (rw [List.take_length]; exact own')
          have HO := show Hid _ from O2
          have S2l : Sl (some ⟨g2, 0, none⟩) (st.take st.length ++ [(vk, vn)]).length k2 := ⟨by omega, fun e => by cases e⟩
          clear own' hgrow gb M2 O1a O1 M1 T1 MZ TZ FZ O2
          go_wp2
          refine bodyPost_ret (v := .agg #[.int .i64 ((k : Int) + 1), .slice (some ⟨g2, 0, none⟩) (st.length + 1) k2, .bool false]) (by simp [results, Tryd.results27, go_sem, e0, e1, e2]) rfl ⟨⟨some ⟨g2, 0, none⟩, k2, by rw [hl2]; rfl, ?_, S2l, .inr ⟨_, rfl⟩⟩, ?_⟩
          · exact own_flat (own_but HO.out R2 (by decide) ((((But.refl (w.heap.size + 3) w2).set 0 _).set 1 _).set 2 _))
          · exact gset (gset (gset G2 (by simp; omega) _) (by simp; omega) _) (by simp; omega) _
      by_cases h10' : c = 10
      · subst h10'
        obtain ⟨j, hj⟩ : ∃ j, st.length = j + 1 := ⟨st.length - 1, by have := show ndsI 10 = 1 from rfl; omega⟩
        have hnd1 : nd = 1 := by rw [← hnd]; rfl
        subst hnd1
        have hs : stepP p.code p.cols E k st = some (k + 1, st.set j (negW (st.getD j noV2))) := by rw [stepP_of HIN.out, if_neg hnr, if_neg (by decide), if_neg (by decide), if_neg (by decide), if_pos rfl]; unfold topV; rw [hj]; rfl
        rw [set_last st j hj] at hs
        obtain ⟨gs, rfl⟩ : ∃ gs, ast = some ⟨gs, 0, none⟩ := by rcases SI with h | h; have := SS.2 h; omega; exact h
        have hcs := SS.1
        rw [hj] at ys1 hcs
        clear hnd hnr
        go_upto_region 19 with fail
        go_upto_region 21 with (go_at_call 28; (with_reducible refine (refNothing_any _).mono ?_); rintro _ u0 ⟨rfl, gn⟩)
        have TY := Two.new u0 (.bool false) (.int .i64 0) 33
        have GY2 := galloc gn (.cells #[.bool false, .int .i64 0] 33)
        have MY2 := MY.keep GY2
        have hbz : w.heap.size + 3 < u0.heap.size := by have := MY.rb.lt; have := gn.size; omega
        have hbI : u0.heap.size ≠ V.heap.size := by have := MY.ib.lt; have := gn.size; omega
        generalize u0.alloc (.cells #[.bool false, .int .i64 0] 33) = Y2 at *
        generalize u0.heap.size = bz at *
        clear gn
        obtain ⟨qi0, qi1, qi2, qi3, qi4⟩ := MY2.ib.at5
        obtain ⟨qb0, qb1⟩ := MY2.pb.at2
        obtain ⟨qe0, qe1, qe2⟩ := MY2.eb.at3
        have qs0 : Y2.cell? ⟨w.heap.size + 1 + 1, 0, none⟩ = _ := MY2.sb.at3.1
        have qs1 : Y2.cell? ⟨w.heap.size + 1 + 1, 1, none⟩ = _ := MY2.sb.at3.2.1
        have qr0 : Y2.cell? ⟨w.heap.size + 1 + 1 + 1, 0, none⟩ = _ := MY2.rb.at3.1
        have qr1 : Y2.cell? ⟨w.heap.size + 1 + 1 + 1, 1, none⟩ = _ := MY2.rb.at3.2.1
        have qr2 : Y2.cell? ⟨w.heap.size + 1 + 1 + 1, 2, none⟩ = _ := MY2.rb.at3.2.2
        have qrf : ∀ o, Y2.frozen? ⟨w.heap.size + 1 + 1 + 1, o, none⟩ = false := MY2.rb.free
        rw [hj] at qs1
        obtain ⟨s0, s1⟩ := stk_at (FS.keep MY2.g) j (by omega)
        have hfj := hfit j
        obtain ⟨⟨tk, tn⟩, htv⟩ : ∃ x, st.getD j noV2 = x := ⟨_, rfl⟩
        rw [htv] at s0 s1 hs hfj
        dsimp only at s0 s1
        have cu := refNeg_any tk tn Y2 hfj
        obtain ⟨⟨vk, vn⟩, hvv⟩ : ∃ x, negW (tk, tn) = x := ⟨_, rfl⟩
        have hv1 : negW (tk, tn) = _ := hvv
        unfold negW at hv1
        obtain ⟨hvk, hvn⟩ := Prod.mk.inj hv1
        dsimp only at hvk hvn
        rw [hvk, hvn] at cu
        rw [hvv] at hs
        obtain rfl := HR.out.symm.trans hs
        have hgs := lt_of_cell s0
        dsimp only at hgs
        clear HR HIN hs htv hvv hv1 hvk hvn
        go_upto_region 27 with (first | (go_at_call 48; (with_reducible refine cu.mono ?_); rintro _ u ⟨rfl, gu⟩; have MU := MY2.keep gu; have TU := TY.keep gu; have tu0 := TU.at0; have tu1 := TU.at1; have tuf := TU.free))
        have MZ := (MU.other hbz hbI 0 (.bool vk)).other hbz hbI 1 (.int .i64 vn)
        have TZ := TU.set (.bool vk) (.int .i64 vn)
        generalize (u.setCell ⟨bz, 0, none⟩ (.bool vk)).setCell ⟨bz, 1, none⟩ (.int .i64 vn) = Z at *
        clear MU TU
        have FZ := flat_take (FS.keep MZ.g) j
        have hyl : (fl valC (st.take j)).length = j * 2 := by rw [fl_len valC_sz, List.length_take]; omega
        have SZ : Sl (some ⟨gs, 0, none⟩) j cs := ⟨by have := SS.1; omega, fun e => by have := SS.2 e; omega⟩
        go_wp2_with (first
          | (at_builtin; refine wpList_append_flat rfl (.tmp 177) (.tmp 178) rfl Tryd.underlying49 nf_val rfl (by decide) (.slice none 0 0) Z.heap.size 0 [] rfl (World.ownsRow_nil _ _ _ _) (Nat.le_refl _) (some ⟨gs, 0, none⟩) j cs (fl valC (st.take j)) rfl SZ FZ hyl (fl_one valC_one _) (by omega) (by omega) ?_; intro v1 w1 O1 g1; rw [Nat.zero_add, List.nil_append] at O1; obtain ⟨a1, k1, rfl, _, _, _⟩ := own_form O1; have GZ := (Below.refl Z.heap.size Z).grown g1 (Nat.le_refl _) (fun k e => by cases e); have M1 := MZ.keep GZ; have T1 := TZ.keep GZ; obtain ⟨t0, t1⟩ := show _ ∧ _ from ⟨T1.at0, T1.at1⟩)
          | (at_builtin; refine wpList_append_own _ rfl (.tmp 180) (.tmp 182) 49 rfl Z.heap.size 33 i9 (.agg #[.bool false, .int .i64 0]) 2 16 Tryd.underlying49 j9 j0 j1 j2 rfl (by decide) _ _ _ rfl (O1.alloc _) ⟨w1.heap.size, 0, none⟩ 1 1 [.bool vk, .int .i64 vn] rfl rfl (two_newE rfl _ _ _) (fun y hy => by simp at hy; rcases hy with rfl | rfl <;> rfl) ?c3 ?c4 ?c5 ?_))
        case c3 => unfold maxLen; omega
        case c4 => omega
        case c5 => have := GZ.size; simp; omega
        intro v' w2 own' hgrow _
        obtain ⟨a2, k2, rfl, hk2, _, hor⟩ := own_form own'
        obtain ⟨g2, rfl, _, _⟩ : ∃ g2, a2 = some ⟨g2, 0, none⟩ ∧ g2 < w2.heap.size ∧ Z.heap.size ≤ g2 := by rcases hor with h | h; omega; exact h
        have ge := galloc (Below.refl w1.heap.size w1) (.cells #[.bool vk, .int .i64 vn] 33)
        have O1a := own_keep O1 ge
        have zz := MZ.ib.lt
        have zr := MZ.rb.lt
        have gb := fun (b : Nat) (hb : b < Z.heap.size) => hgrow.block b (by have := GZ.size; simp; omega) (fun e => by have := (O1a.lt _ e.symm).1; omega)
        have M2 := M1.keep ge
        have R2 : Bk w2 (w.heap.size + 3) #[.int .i64 0, .slice none 0 0, .bool false] 62 := (gb _ (by omega)).trans M2.rb
        have S2 : Bk w2 (w.heap.size + 2) #[.int .i64 (k : Int), .slice (some ⟨gs, 0, none⟩) st.length cs, .bool false] 62 := (gb _ (by omega)).trans M2.sb
        have G2 : Below w.heap.size w w2 := M2.g.grown hgrow (by have := M2.g.size; omega) (fun r e => by have := (O1a.lt _ e).1; have := MZ.g.size; omega)
        have d0 : w2.cell? ⟨w.heap.size + 1 + 1, 0, none⟩ = _ := S2.at3.1
        have e0 : w2.cell? ⟨w.heap.size + 1 + 1 + 1, 0, none⟩ = _ := R2.at3.1
        have e1 : w2.cell? ⟨w.heap.size + 1 + 1 + 1, 1, none⟩ = _ := R2.at3.2.1
        have e2 : w2.cell? ⟨w.heap.size + 1 + 1 + 1, 2, none⟩ = _ := R2.at3.2.2
        have ef : ∀ o, w2.frozen? ⟨w.heap.size + 1 + 1 + 1, o, none⟩ = false := R2.free
        have hl2 : (st.take j ++ [(vk, vn)]).length = j + 1 := by rw [List.length_append, List.length_take, List.length_cons, List.length_nil]; omega
        have O2 : w2.ownsRow Z.heap.size 33 2 (.slice (some ⟨g2, 0, none⟩) (j + 1) k2) (j + 1) (fl valC (st.take j ++ [(vk, vn)])) := by
          rw [fl_app]
          first | exact own' | (rw [List.take_length]; exact own')
        have HO := show Hid _ from O2
        have S2l : Sl (some ⟨g2, 0, none⟩) (st.take j ++ [(vk, vn)]).length k2 := ⟨by omega, fun e => by cases e⟩
        clear own' hgrow gb M2 O1a O1 M1 T1 MZ TZ FZ O2
        go_wp2
        refine bodyPost_ret (v := .agg #[.int .i64 ((k : Int) + 1), .slice (some ⟨g2, 0, none⟩) (j + 1) k2, .bool false]) (by simp [results, Tryd.results27, go_sem, e0, e1, e2]) rfl ⟨⟨some ⟨g2, 0, none⟩, k2, by rw [hl2]; rfl, ?_, S2l, .inr ⟨_, rfl⟩⟩, ?_⟩
        · exact own_flat (own_but HO.out R2 (by decide) ((((But.refl (w.heap.size + 3) w2).set 0 _).set 1 _).set 2 _))
        · exact gset (gset (gset G2 (by simp; omega) _) (by simp; omega) _) (by simp; omega) _
      by_cases h11 : c = 11
      · subst h11
        obtain ⟨j, hj⟩ : ∃ j, st.length = j + 1 := ⟨st.length - 1, by have := show ndsI 11 = 1 from rfl; omega⟩
        have hnd1 : nd = 1 := by rw [← hnd]; rfl
        subst hnd1
        have hs : stepP p.code p.cols E k st = some (k + 1, st.set j (notW (st.getD j noV2))) := by rw [stepP_of HIN.out, if_neg hnr, if_neg (by decide), if_neg (by decide), if_neg (by decide), if_neg (by decide), if_pos rfl]; unfold topV; rw [hj]; rfl
        rw [set_last st j hj] at hs
        obtain ⟨gs, rfl⟩ : ∃ gs, ast = some ⟨gs, 0, none⟩ := by rcases SI with h | h; have := SS.2 h; omega; exact h
        have hcs := SS.1
        rw [hj] at ys1 hcs
        clear hnd hnr
        go_upto_region 19 with fail
        go_upto_region 21 with (go_at_call 28; (with_reducible refine (refNothing_any _).mono ?_); rintro _ u0 ⟨rfl, gn⟩)
        have TY := Two.new u0 (.bool false) (.int .i64 0) 33
        have GY2 := galloc gn (.cells #[.bool false, .int .i64 0] 33)
        have MY2 := MY.keep GY2
        have hbz : w.heap.size + 3 < u0.heap.size := by have := MY.rb.lt; have := gn.size; omega
        have hbI : u0.heap.size ≠ V.heap.size := by have := MY.ib.lt; have := gn.size; omega
        generalize u0.alloc (.cells #[.bool false, .int .i64 0] 33) = Y2 at *
        generalize u0.heap.size = bz at *
        clear gn
        obtain ⟨qi0, qi1, qi2, qi3, qi4⟩ := MY2.ib.at5
        obtain ⟨qb0, qb1⟩ := MY2.pb.at2
        obtain ⟨qe0, qe1, qe2⟩ := MY2.eb.at3
        have qs0 : Y2.cell? ⟨w.heap.size + 1 + 1, 0, none⟩ = _ := MY2.sb.at3.1
        have qs1 : Y2.cell? ⟨w.heap.size + 1 + 1, 1, none⟩ = _ := MY2.sb.at3.2.1
        have qr0 : Y2.cell? ⟨w.heap.size + 1 + 1 + 1, 0, none⟩ = _ := MY2.rb.at3.1
        have qr1 : Y2.cell? ⟨w.heap.size + 1 + 1 + 1, 1, none⟩ = _ := MY2.rb.at3.2.1
        have qr2 : Y2.cell? ⟨w.heap.size + 1 + 1 + 1, 2, none⟩ = _ := MY2.rb.at3.2.2
        have qrf : ∀ o, Y2.frozen? ⟨w.heap.size + 1 + 1 + 1, o, none⟩ = false := MY2.rb.free
        rw [hj] at qs1
        obtain ⟨s0, s1⟩ := stk_at (FS.keep MY2.g) j (by omega)
        have hfj := hfit j
        obtain ⟨⟨tk, tn⟩, htv⟩ : ∃ x, st.getD j noV2 = x := ⟨_, rfl⟩
        rw [htv] at s0 s1 hs hfj
        dsimp only at s0 s1
        have cu := refNot_any tk tn Y2
        obtain ⟨⟨vk, vn⟩, hvv⟩ : ∃ x, notW (tk, tn) = x := ⟨_, rfl⟩
        have hv1 : notW (tk, tn) = _ := hvv
        unfold notW at hv1
        obtain ⟨hvk, hvn⟩ := Prod.mk.inj hv1
        dsimp only at hvk hvn
        rw [hvk, hvn] at cu
        rw [hvv] at hs
        obtain rfl := HR.out.symm.trans hs
        have hgs := lt_of_cell s0
        dsimp only at hgs
        clear HR HIN hs htv hvv hv1 hvk hvn
        go_upto_region 27 with (first | (go_at_call 49; (with_reducible refine cu.mono ?_); rintro _ u ⟨rfl, gu⟩; have MU := MY2.keep gu; have TU := TY.keep gu; have tu0 := TU.at0; have tu1 := TU.at1; have tuf := TU.free))
        have MZ := (MU.other hbz hbI 0 (.bool vk)).other hbz hbI 1 (.int .i64 vn)
        have TZ := TU.set (.bool vk) (.int .i64 vn)
        generalize (u.setCell ⟨bz, 0, none⟩ (.bool vk)).setCell ⟨bz, 1, none⟩ (.int .i64 vn) = Z at *
        clear MU TU
        have FZ := flat_take (FS.keep MZ.g) j
        have hyl : (fl valC (st.take j)).length = j * 2 := by rw [fl_len valC_sz, List.length_take]; omega
        have SZ : Sl (some ⟨gs, 0, none⟩) j cs := ⟨by have := SS.1; omega, fun e => by have := SS.2 e; omega⟩
        go_wp2_with (first
          | (at_builtin; refine wpList_append_flat rfl (.tmp 177) (.tmp 178) rfl Tryd.underlying49 nf_val rfl (by decide) (.slice none 0 0) Z.heap.size 0 [] rfl (World.ownsRow_nil _ _ _ _) (Nat.le_refl _) (some ⟨gs, 0, none⟩) j cs (fl valC (st.take j)) rfl SZ FZ hyl (fl_one valC_one _) (by omega) (by omega) ?_; intro v1 w1 O1 g1; rw [Nat.zero_add, List.nil_append] at O1; obtain ⟨a1, k1, rfl, _, _, _⟩ := own_form O1; have GZ := (Below.refl Z.heap.size Z).grown g1 (Nat.le_refl _) (fun k e => by cases e); have M1 := MZ.keep GZ; have T1 := TZ.keep GZ; obtain ⟨t0, t1⟩ := show _ ∧ _ from ⟨T1.at0, T1.at1⟩)
          | (at_builtin; refine wpList_append_own _ rfl (.tmp 180) (.tmp 182) 49 rfl Z.heap.size 33 i9 (.agg #[.bool false, .int .i64 0]) 2 16 Tryd.underlying49 j9 j0 j1 j2 rfl (by decide) _ _ _ rfl (O1.alloc _) ⟨w1.heap.size, 0, none⟩ 1 1 [.bool vk, .int .i64 vn] rfl rfl (two_newE rfl _ _ _) (fun y hy => by simp at hy; rcases hy with rfl | rfl <;> rfl) ?c3 ?c4 ?c5 ?_))
        case c3 => unfold maxLen; omega
        case c4 => omega
        case c5 => have := GZ.size; simp; omega
        intro v' w2 own' hgrow _
        obtain ⟨a2, k2, rfl, hk2, _, hor⟩ := own_form own'
        obtain ⟨g2, rfl, _, _⟩ : ∃ g2, a2 = some ⟨g2, 0, none⟩ ∧ g2 < w2.heap.size ∧ Z.heap.size ≤ g2 := by rcases hor with h | h; omega; exact h
        have ge := galloc (Below.refl w1.heap.size w1) (.cells #[.bool vk, .int .i64 vn] 33)
        have O1a := own_keep O1 ge
        have zz := MZ.ib.lt
        have zr := MZ.rb.lt
        have gb := fun (b : Nat) (hb : b < Z.heap.size) => hgrow.block b (by have := GZ.size; simp; omega) (fun e => by have := (O1a.lt _ e.symm).1; omega)
        have M2 := M1.keep ge
        have R2 : Bk w2 (w.heap.size + 3) #[.int .i64 0, .slice none 0 0, .bool false] 62 := (gb _ (by omega)).trans M2.rb
        have S2 : Bk w2 (w.heap.size + 2) #[.int .i64 (k : Int), .slice (some ⟨gs, 0, none⟩) st.length cs, .bool false] 62 := (gb _ (by omega)).trans M2.sb
        have G2 : Below w.heap.size w w2 := M2.g.grown hgrow (by have := M2.g.size; omega) (fun r e => by have := (O1a.lt _ e).1; have := MZ.g.size; omega)
        have d0 : w2.cell? ⟨w.heap.size + 1 + 1, 0, none⟩ = _ := S2.at3.1
        have e0 : w2.cell? ⟨w.heap.size + 1 + 1 + 1, 0, none⟩ = _ := R2.at3.1
        have e1 : w2.cell? ⟨w.heap.size + 1 + 1 + 1, 1, none⟩ = _ := R2.at3.2.1
        have e2 : w2.cell? ⟨w.heap.size + 1 + 1 + 1, 2, none⟩ = _ := R2.at3.2.2
        have ef : ∀ o, w2.frozen? ⟨w.heap.size + 1 + 1 + 1, o, none⟩ = false := R2.free
        have hl2 : (st.take j ++ [(vk, vn)]).length = j + 1 := by rw [List.length_append, List.length_take, List.length_cons, List.length_nil]; omega
        have O2 : w2.ownsRow Z.heap.size 33 2 (.slice (some ⟨g2, 0, none⟩) (j + 1) k2) (j + 1) (fl valC (st.take j ++ [(vk, vn)])) := by
          rw [fl_app]
          first | exact own' | (rw [List.take_length]; exact own')
        have HO := show Hid _ from O2
        have S2l : Sl (some ⟨g2, 0, none⟩) (st.take j ++ [(vk, vn)]).length k2 := ⟨by omega, fun e => by cases e⟩
        clear own' hgrow gb M2 O1a O1 M1 T1 MZ TZ FZ O2
        go_wp2
        refine bodyPost_ret (v := .agg #[.int .i64 ((k : Int) + 1), .slice (some ⟨g2, 0, none⟩) (j + 1) k2, .bool false]) (by simp [results, Tryd.results27, go_sem, e0, e1, e2]) rfl ⟨⟨some ⟨g2, 0, none⟩, k2, by rw [hl2]; rfl, ?_, S2l, .inr ⟨_, rfl⟩⟩, ?_⟩
        · exact own_flat (own_but HO.out R2 (by decide) ((((But.refl (w.heap.size + 3) w2).set 0 _).set 1 _).set 2 _))
        · exact gset (gset (gset G2 (by simp; omega) _) (by simp; omega) _) (by simp; omega) _
      obtain ⟨j, hj⟩ : ∃ j, st.length = j + 2 := ⟨st.length - 2, by have : ndsI c = 2 := by { unfold ndsI; rw [if_neg (by omega), if_neg (by omega)] }; omega⟩
      have hnd2 : nd = 2 := by rw [← hnd]; unfold ndsI; rw [if_neg (by omega), if_neg (by omega)]
      subst hnd2
      obtain ⟨gs, rfl⟩ : ∃ gs, ast = some ⟨gs, 0, none⟩ := by rcases SI with h | h; have := SS.2 h; omega; exact h
      have hcs := SS.1
      rw [hj] at ys1 hcs
      have htp : topV st = st.getD (j + 1) noV2 := by unfold topV; rw [hj]; rfl
      have hsp : sndV st = st.getD j noV2 := by unfold sndV; rw [hj]; rfl
      have hs : stepP p.code p.cols E k st = some (k + 1, st.take j ++ [applyV (c + 2) (st.getD j noV2) (st.getD (j + 1) noV2)]) := by
        rw [stepP_of HIN.out, if_neg hnr, if_neg (by omega), if_neg (by omega), if_neg (by omega), if_neg h10', if_neg h11, if_neg h25, htp, hsp, ← set_take st j hj, hj]
        rfl
      clear hnd hnr htp hsp
      go_upto_region 19 with fail
      go_upto_region 21 with (go_at_call 28; (with_reducible refine (refNothing_any _).mono ?_); rintro _ u0 ⟨rfl, gn⟩)
      have TY := Two.new u0 (.bool false) (.int .i64 0) 33
      have GY2 := galloc gn (.cells #[.bool false, .int .i64 0] 33)
      have MY2 := MY.keep GY2
      have hbz : w.heap.size + 3 < u0.heap.size := by have := MY.rb.lt; have := gn.size; omega
      have hbI : u0.heap.size ≠ V.heap.size := by have := MY.ib.lt; have := gn.size; omega
      generalize u0.alloc (.cells #[.bool false, .int .i64 0] 33) = Y2 at *
      generalize u0.heap.size = bz at *
      clear gn
      obtain ⟨qi0, qi1, qi2, qi3, qi4⟩ := MY2.ib.at5
      obtain ⟨qb0, qb1⟩ := MY2.pb.at2
      obtain ⟨qe0, qe1, qe2⟩ := MY2.eb.at3
      have qs0 : Y2.cell? ⟨w.heap.size + 1 + 1, 0, none⟩ = _ := MY2.sb.at3.1
      have qs1 : Y2.cell? ⟨w.heap.size + 1 + 1, 1, none⟩ = _ := MY2.sb.at3.2.1
      have qr0 : Y2.cell? ⟨w.heap.size + 1 + 1 + 1, 0, none⟩ = _ := MY2.rb.at3.1
      have qr1 : Y2.cell? ⟨w.heap.size + 1 + 1 + 1, 1, none⟩ = _ := MY2.rb.at3.2.1
      have qr2 : Y2.cell? ⟨w.heap.size + 1 + 1 + 1, 2, none⟩ = _ := MY2.rb.at3.2.2
      have qrf : ∀ o, Y2.frozen? ⟨w.heap.size + 1 + 1 + 1, o, none⟩ = false := MY2.rb.free
      rw [hj] at qs1
      obtain ⟨s0, s1⟩ := stk_at (FS.keep MY2.g) j (by omega)
      obtain ⟨s2, s3⟩ := stk_at (FS.keep MY2.g) (j + 1) (by omega)
      have hfj := hfit j
      have hfj1 := hfit (j + 1)
      obtain ⟨⟨tk, tn⟩, htv⟩ : ∃ x, st.getD (j + 1) noV2 = x := ⟨_, rfl⟩
      obtain ⟨⟨sk, sn⟩, hsv⟩ : ∃ x, st.getD j noV2 = x := ⟨_, rfl⟩
      rw [htv] at s2 s3 hs hfj1
      rw [hsv] at s0 s1 hs hfj
      dsimp only at s0 s1 s2 s3
      have ca := (apply_is (c - 12 + 14) (sk, sn) (tk, tn) hfj hfj1).2
      obtain ⟨⟨vk, vn⟩, hvv⟩ : ∃ x, applyV (c + 2) (sk, sn) (tk, tn) = x := ⟨_, rfl⟩
      rw [show c - 12 + 14 = c + 2 by omega, hvv] at ca
      rw [hvv] at hs
      obtain rfl := HR.out.symm.trans hs
      have cA : ∀ z : Ext Y2, Calls Tryd.prog 50 #[.int .i64 (c - 12 + 14), VA (sk, sn), VA (tk, tn)] z.X (fun e' w'' => e' = .returned (VA (vk, vn)) ∧ ∃ m : Ext Y2, w'' = m.X) := fun z => ext_of (by rw [show c - 12 + 14 = c + 2 by omega]; exact ca z.X)
      have e10 : (c == 10) = false := beq_eq_false_iff_ne.2 h10'
      have e11 : (c == 11) = false := beq_eq_false_iff_ne.2 h11
      have hne : Nonempty (Ext Y2) := ⟨⟨_, Below.refl _ _⟩⟩
      have p0 := fun z : Ext Y2 => (z.cell _ _ (lt_of_cell qs1)).trans qs1
      have p1 := fun z : Ext Y2 => (z.cell _ _ (lt_of_cell s0)).trans s0
      have p2 := fun z : Ext Y2 => (z.cell _ _ (lt_of_cell s1)).trans s1
      have p3 := fun z : Ext Y2 => (z.cell _ _ (lt_of_cell s2)).trans s2
      have p4 := fun z : Ext Y2 => (z.cell _ _ (lt_of_cell s3)).trans s3
      clear HR HIN hs htv hsv hvv ca h10 h10' h11 h25
      go_wp2
      refine wp_region_ext_tail 20 (by kernel_rfl) (by kernel_rfl) ?_
      simp only [List.take_succ_cons, List.take_zero, List.drop_succ_cons, List.drop_zero]
      repeat (go_big_quiet_step (first | (go_at_call 50; with_reducible exact cA _)))
      refine wpQuiet_nil ?_
      intro _ hw'
      obtain ⟨nx, hw''⟩ := hw'
      subst hw''
      have MU := MY2.keep nx.h
      have TU := TY.keep nx.h
      generalize nx.X = u at *
      have tu0 := TU.at0
      have tu1 := TU.at1
      have tuf := TU.free
      clear p0 p1 p2 p3 p4 cA s0 s1 s2 s3
      go_upto_region 27 with (first | fail)
      have MZ := (MU.other hbz hbI 0 (.bool vk)).other hbz hbI 1 (.int .i64 vn)
      have TZ := TU.set (.bool vk) (.int .i64 vn)
      generalize (u.setCell ⟨bz, 0, none⟩ (.bool vk)).setCell ⟨bz, 1, none⟩ (.int .i64 vn) = Z at *
      clear MU TU
      have FZ := flat_take (FS.keep MZ.g) j
      have hyl : (fl valC (st.take j)).length = j * 2 := by rw [fl_len valC_sz, List.length_take]; omega
      have SZ : Sl (some ⟨gs, 0, none⟩) j cs := ⟨by have := SS.1; omega, fun e => by have := SS.2 e; omega⟩
      go_wp2_with (first
        | (at_builtin; refine wpList_append_flat rfl (.tmp 177) (.tmp 178) rfl Tryd.underlying49 nf_val rfl (by decide) (.slice none 0 0) Z.heap.size 0 [] rfl (World.ownsRow_nil _ _ _ _) (Nat.le_refl _) (some ⟨gs, 0, none⟩) j cs (fl valC (st.take j)) rfl SZ FZ hyl (fl_one valC_one _) (by omega) (by omega) ?_; intro v1 w1 O1 g1; rw [Nat.zero_add, List.nil_append] at O1; obtain ⟨a1, k1, rfl, _, _, _⟩ := own_form O1; have GZ := (Below.refl Z.heap.size Z).grown g1 (Nat.le_refl _) (fun k e => by cases e); have M1 := MZ.keep GZ; have T1 := TZ.keep GZ; obtain ⟨t0, t1⟩ := show _ ∧ _ from ⟨T1.at0, T1.at1⟩)
        | (at_builtin; refine wpList_append_own _ rfl (.tmp 180) (.tmp 182) 49 rfl Z.heap.size 33 i9 (.agg #[.bool false, .int .i64 0]) 2 16 Tryd.underlying49 j9 j0 j1 j2 rfl (by decide) _ _ _ rfl (O1.alloc _) ⟨w1.heap.size, 0, none⟩ 1 1 [.bool vk, .int .i64 vn] rfl rfl (two_newE rfl _ _ _) (fun y hy => by simp at hy; rcases hy with rfl | rfl <;> rfl) ?c3 ?c4 ?c5 ?_))
      case c3 => unfold maxLen; omega
      case c4 => omega
      case c5 => have := GZ.size; simp; omega
      intro v' w2 own' hgrow _
      obtain ⟨a2, k2, rfl, hk2, _, hor⟩ := own_form own'
      obtain ⟨g2, rfl, _, _⟩ : ∃ g2, a2 = some ⟨g2, 0, none⟩ ∧ g2 < w2.heap.size ∧ Z.heap.size ≤ g2 := by rcases hor with h | h; omega; exact h
      have ge := galloc (Below.refl w1.heap.size w1) (.cells #[.bool vk, .int .i64 vn] 33)
      have O1a := own_keep O1 ge
      have zz := MZ.ib.lt
      have zr := MZ.rb.lt
      have gb := fun (b : Nat) (hb : b < Z.heap.size) => hgrow.block b (by have := GZ.size; simp; omega) (fun e => by have := (O1a.lt _ e.symm).1; omega)
      have M2 := M1.keep ge
      have R2 : Bk w2 (w.heap.size + 3) #[.int .i64 0, .slice none 0 0, .bool false] 62 := (gb _ (by omega)).trans M2.rb
      have S2 : Bk w2 (w.heap.size + 2) #[.int .i64 (k : Int), .slice (some ⟨gs, 0, none⟩) st.length cs, .bool false] 62 := (gb _ (by omega)).trans M2.sb
      have G2 : Below w.heap.size w w2 := M2.g.grown hgrow (by have := M2.g.size; omega) (fun r e => by have := (O1a.lt _ e).1; have := MZ.g.size; omega)
      have d0 : w2.cell? ⟨w.heap.size + 1 + 1, 0, none⟩ = _ := S2.at3.1
      have e0 : w2.cell? ⟨w.heap.size + 1 + 1 + 1, 0, none⟩ = _ := R2.at3.1
      have e1 : w2.cell? ⟨w.heap.size + 1 + 1 + 1, 1, none⟩ = _ := R2.at3.2.1
      have e2 : w2.cell? ⟨w.heap.size + 1 + 1 + 1, 2, none⟩ = _ := R2.at3.2.2
      have ef : ∀ o, w2.frozen? ⟨w.heap.size + 1 + 1 + 1, o, none⟩ = false := R2.free
      have hl2 : (st.take j ++ [(vk, vn)]).length = j + 1 := by rw [List.length_append, List.length_take, List.length_cons, List.length_nil]; omega
      have O2 : w2.ownsRow Z.heap.size 33 2 (.slice (some ⟨g2, 0, none⟩) (j + 1) k2) (j + 1) (fl valC (st.take j ++ [(vk, vn)])) := by
        rw [fl_app]
        first | exact own' | (rw [List.take_length]; exact own')
      have HO := show Hid _ from O2
      have S2l : Sl (some ⟨g2, 0, none⟩) (st.take j ++ [(vk, vn)]).length k2 := ⟨by omega, fun e => by cases e⟩
      clear own' hgrow gb M2 O1a O1 M1 T1 MZ TZ FZ O2
      go_wp2
      refine bodyPost_ret (v := .agg #[.int .i64 ((k : Int) + 1), .slice (some ⟨g2, 0, none⟩) (j + 1) k2, .bool false]) (by simp [results, Tryd.results27, go_sem, e0, e1, e2]) rfl ⟨⟨some ⟨g2, 0, none⟩, k2, by rw [hl2]; rfl, ?_, S2l, .inr ⟨_, rfl⟩⟩, ?_⟩
      · exact own_flat (own_but HO.out R2 (by decide) ((((But.refl (w.heap.size + 3) w2).set 0 _).set 1 _).set 2 _))
      · exact gset (gset (gset G2 (by simp; omega) _) (by simp; omega) _) (by simp; omega) _
  · have hs : stepP p.code p.cols E k st = none := by rw [stepP_of HIN.out, if_pos hrdy]
    by_cases hc1 : c < 1 ∨ 26 < c
    · rw [show ndsR c = -1 from if_pos hc1] at cn
      obtain rfl := HR.out.symm.trans hs
      clear HR HIN
      go_wp2_with (first | (go_at_call 46; (with_reducible refine cn.mono ?_); rintro _ _ ⟨rfl, rfl⟩))
      refine bodyPost_ret (v := .agg #[.int .i64 0, .slice none 0 0, .bool true]) (by simp [results, Tryd.results27, go_sem, rb0, rb1, rb2]) rfl ⟨rfl, ?_⟩
      exact gset (gset (gset MX.g (by simp; omega) _) (by simp; omega) _) (by simp; omega) _
    · rw [show ndsR c = (ndsI c : Int) from if_neg hc1] at cn
      have hlt : (st.length : Int) < (ndsI c : Int) := by omega
      have hnn : ¬ (ndsI c : Int) < 0 := by omega
      generalize ndsI c = nd at *
      clear hrdy hc1
      obtain rfl := HR.out.symm.trans hs
      clear HR HIN
      go_wp2_with (first | (go_at_call 46; (with_reducible refine cn.mono ?_); rintro _ _ ⟨rfl, rfl⟩))
      refine bodyPost_ret (v := .agg #[.int .i64 0, .slice none 0 0, .bool true]) (by simp [results, Tryd.results27, go_sem, rb0, rb1, rb2]) rfl ⟨rfl, ?_⟩
      exact gset (gset (gset MX.g (by simp; omega) _) (by simp; omega) _) (by simp; omega) _

end Go.Proofs.YtjeffmfnaihhjaaDoor
