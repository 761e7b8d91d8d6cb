/- The law CodeRuns: Run and Holds of every program, in every environment, are the document's; what is handed in stays as it is. -/
import Derived.Test.YtjeffmfnaihhjaaDoorCrd
import Derived.Test.YtjeffmfnaihhjaaDoorClb
import Derived.Test.YtjeffmfnaihhjaaDoorCld
import Derived.Test.YtjeffmfnaihhjaaDoorCle
import Derived.Deep.CutRange
import Derived.Deep.RegionHeld3
namespace Go.Proofs.YtjeffmfnaihhjaaDoor
open Go.RowKit Go.BigFrame
set_option linter.unusedVariables false
set_option linter.unusedSimpArgs false

/-- An environment of one's own in a local. -/
structure EnvR (E : Envr) (X wx : World) (s : Value) : Prop where
  ex : ∃ b a c ws, s = .pointer (some ⟨b, 0, none⟩) ∧ X.heap.size ≤ b ∧ Bk wx b #[.slice a E.lists.length c, .int .i64 E.each, .int .i64 E.at_] 28 ∧ ONst wx X.heap.size 47 69 11 evC (.slice a E.lists.length c) E.lists ws ∧ Below X.heap.size X wx
theorem ONst.env {w : World} {E : Envr} {b : Nat} {TS T : TypeId} {a : Option Addr} {c : Nat} {ws : List Value} (h : ONst w b TS T 11 evC (.slice a E.lists.length c) E.lists ws) : IsEnv w E a c := ⟨h.nst, own_sl h.own⟩
theorem onst_but {β : Type} {w u : World} {b : Nat} {TS T : TypeId} {sz : Nat} {cv : β → Array Value} {v : Value} {l : List (List β)} {ws : List Value} (h : ONst w b TS T sz cv v l ws) {bb : Nat} {cs : Array Value} {t : TypeId} (B : Bk w bb cs t) (h1 : t ≠ TS) (h2 : t ≠ T) (e : But bb w u) : ONst u b TS T sz cv v l ws := h.map fun e' s v n xs he o => own_but o B (by rcases he with rfl | rfl; exact h1; exact h2) e
structure LpR (p : Prg) (bP b6 : Nat) (a13 : Option Addr) (c13 : Nat) (u5 : World) (i : Value) (wr : World) : Prop where
  ex : ∃ (k : Nat) (cd : List Ins), k ≤ p.code.length ∧ i = .int .i64 k ∧ cd.length = p.code.length ∧ (∀ j, (cd.getD j noIn).ok) ∧ wr.ownsRow bP 43 5 (.slice a13 p.code.length c13) p.code.length (fl insC cd) ∧ KT 43 u5 wr ∧ Below b6 u5 wr
theorem onst_kt {β : Type} {w u : World} {b : Nat} {TS T : TypeId} {sz : Nat} {cv : β → Array Value} {v : Value} {l : List (List β)} {ws : List Value} (h : ONst w b TS T sz cv v l ws) {K : TypeId} (k : KT K w u) (h1 : TS ≠ K) (h2 : T ≠ K) : ONst u b TS T sz cv v l ws := h.map fun e' s v n xs he o => own_kt k o (by rcases he with rfl | rfl; exact h1; exact h2)

set_option maxRecDepth 100000 in
set_option maxHeartbeats 16000000 in
theorem codeRuns_walk (p : Prg) (hp : p.ok) (E : Envr) (hE0 : ∀ hb : (∀ k, (E.lists.getD k []).length ≤ 2147483647), E.ok) (hEn : E.lists.length * 24 ≤ 140737488351232) (hEl : ∀ k, (E.lists.getD k []).length * 88 ≤ 140737488351232) (ai : Option Addr) (ci : Nat) (ac : Option Addr) (cc : Nat) (al : Option Addr) (cl : Nat) (w : World) (IP : IsPr w p ai ci ac cc) (IE : IsEnv w E al cl) (T : TbAt w) :
    Calls Tryd.prog 3 #[prgA p ai ci ac cc, envA al cl E] w fun e w' => e = .returned (.bool true) ∧ Below w.heap.size w w' := by
  have P0 := (Bk.new w #[.slice ai p.code.length ci, .slice ac p.cols.length cc] 25).alloc (.cells #[.slice al E.lists.length cl, .int .i64 E.each, .int .i64 E.at_] 28)
  have E0 := Bk.newE (w := w.alloc (.cells #[.slice ai p.code.length ci, .slice ac p.cols.length cc] 25)) (g := w.heap.size + 1) (by simp) #[.slice al E.lists.length cl, .int .i64 E.each, .int .i64 E.at_] 28
  have B0 := galloc (galloc (Below.refl w.heap.size w) (.cells #[.slice ai p.code.length ci, .slice ac p.cols.length cc] 25)) (.cells #[.slice al E.lists.length cl, .int .i64 E.each, .int .i64 E.at_] 28)
  go_enter Tryd.func3, Tryd.ntmps3
  go_upto_region 1 with fail
  generalize (w.alloc (.cells #[.slice ai p.code.length ci, .slice ac p.cols.length cc] 25)).alloc (.cells #[.slice al E.lists.length cl, .int .i64 E.each, .int .i64 E.at_] 28) = V at *
  have zV := B0.size
  obtain ⟨pb0, pb1⟩ := P0.at2
  obtain ⟨eb0, eb1, eb2⟩ := E0.at3
  have cby := beyond_any E.lists al cl V (IE.n.keep B0) (by omega) (fun k => by have := hEl k; omega)
  have ct1 := twinProg_any p hp ai ci ac cc V (IP.keep B0)
  go_upto_region 4 with (first
    | (go_at_call 5; (with_reducible refine cby.mono ?_); rintro _ _ ⟨⟨bb, rfl, hbb⟩, rfl⟩; cases bb)
    | (go_at_call 6; (with_reducible refine ct1.mono ?_); rintro _ u1 ⟨⟨a5, c5, d5, e5, w5, rfl, PO⟩, g1⟩))
  rotate_left
  · go_ret
    exact ⟨rfl, B0⟩
  have hE := hE0 (hbb (by first | trivial | rfl))
  have GX1 := galloc g1 (.cells #[.slice a5 p.code.length c5, .slice d5 p.cols.length e5] 25)
  have C5 := Bk.new u1 #[.slice a5 p.code.length c5, .slice d5 p.cols.length e5] 25
  have I5 := (PO.isPr).keep (galloc (Below.refl u1.heap.size u1) (.cells #[.slice a5 p.code.length c5, .slice d5 p.cols.length e5] 25))
  have P1 := P0.keep GX1
  have E1 := E0.keep GX1
  have B1 := gtrans B0 GX1
  generalize u1.alloc (.cells #[.slice a5 p.code.length c5, .slice d5 p.cols.length e5] 25) = X at *
  generalize u1.heap.size = b5 at *
  clear P0 E0 B0 GX1 PO g1 pb0 pb1 eb0 eb1 eb2 ct1 cby
  obtain ⟨eb0, eb1, eb2⟩ := E1.at3
  have ctl : ∀ Y, Below X.heap.size X Y → Calls Tryd.prog 7 #[.slice al E.lists.length cl] Y fun e w' => TwR E.lists Y e w' ∧ Below Y.heap.size Y w' := fun Y G => twinLists_any E.lists al cl Y (IE.n.keep (gtrans B1 G)) hEn hEl
  have hSn : ∀ Y, Below X.heap.size X Y → Y.cell? ⟨w.heap.size + 1, 0, none⟩ = some (.slice al E.lists.length cl) ∧ Y.cell? ⟨w.heap.size + 1, 1, none⟩ = some (.int .i64 E.each) ∧ Y.cell? ⟨w.heap.size + 1, 2, none⟩ = some (.int .i64 E.at_) := fun Y G => ⟨(E1.keep G).at3.1, (E1.keep G).at3.2.1, (E1.keep G).at3.2.2⟩
  have Gd := (Below.refl X.heap.size X).drew
  have hSd := hSn _ Gd
  have Ga := (galloc (Below.refl X.heap.size X) (.cells #[.slice none 0 0, .int .i64 0, .int .i64 0] 28)).drew
  have hSa := hSn _ Ga
  have ZA : Bk (X.alloc (.cells #[.slice none 0 0, .int .i64 0, .int .i64 0] 28)).drew X.heap.size #[.slice none 0 0, .int .i64 0, .int .i64 0] 28 := Bk.new X #[.slice none 0 0, .int .i64 0, .int .i64 0] 28
  go_cut [6] from 21 to 28 (fun s wx => EnvR E X wx s)
  case first =>
    go_region_held3 (fun Y : World => Y.cell? ⟨w.heap.size + 1, 0, none⟩ = some (.slice al E.lists.length cl) ∧ Y.cell? ⟨w.heap.size + 1, 1, none⟩ = some (.int .i64 E.each) ∧ Y.cell? ⟨w.heap.size + 1, 2, none⟩ = some (.int .i64 E.at_)) (first | (with_reducible exact hSd) | (with_reducible exact hSa) | (with_reducible exact hSu) | (with_reducible exact hSua) | (with_reducible exact hS9) | go_keep) (first
      | (go_at_call 7; (with_reducible refine (ctl _ Gd).mono ?_); rintro _ u ⟨⟨vt, wt, rfl, NT⟩, gt⟩; obtain ⟨at', ct', rfl, _, _, _⟩ := own_form NT.own; have GU := gtrans Gd gt; have hSu := hSn _ GU; have hSua := hSn _ (galloc GU (.cells #[.slice none 0 0, .int .i64 0, .int .i64 0] 28)); have zu : X.heap.size ≤ u.heap.size := GU.size; have G9 := galloc GU (.cells #[.slice at' E.lists.length ct', .int .i64 E.each, .int .i64 E.at_] 28); have hS9 := hSn _ G9; have Z9 := Bk.new u #[.slice at' E.lists.length ct', .int .i64 E.each, .int .i64 E.at_] 28; have N9 := (NT.keep (galloc (Below.refl u.heap.size u) (.cells #[.slice at' E.lists.length ct', .int .i64 E.each, .int .i64 E.at_] 28))).mono (show X.heap.size ≤ _ from by simp); have fin : EnvR E X _ (.pointer (some ⟨u.heap.size, 0, none⟩)) := ⟨⟨u.heap.size, at', ct', wt, rfl, zu, Z9, N9, G9⟩⟩)
      | (go_at_call 7; (with_reducible refine (ctl _ Ga).mono ?_); rintro _ u ⟨⟨vt, wt, rfl, NT⟩, gt⟩; obtain ⟨at', ct', rfl, _, _, _⟩ := own_form NT.own; have GU := gtrans Ga gt; have hSu := hSn _ GU; have ZU := ZA.keep gt; obtain ⟨zu0, zu1, zu2⟩ := ZU.at3; have zuf := ZU.free; have zu : X.heap.size ≤ X.heap.size := Nat.le_refl _; have G9 := gset (gset (gset GU (p := ⟨X.heap.size, 0, none⟩) zu (.slice at' E.lists.length ct')) (p := ⟨X.heap.size, 1, none⟩) zu (.int .i64 E.each)) (p := ⟨X.heap.size, 2, none⟩) zu (.int .i64 E.at_); have hS9 := hSn _ G9; have Z9 := ((ZU.set 0 (.slice at' E.lists.length ct')).set 1 (.int .i64 E.each)).set 2 (.int .i64 E.at_); have N9 := onst_but (NT.mono (show X.heap.size ≤ _ from by simp)) ZU (by decide) (by decide) ((((But.refl X.heap.size u).set 0 (.slice at' E.lists.length ct')).set 1 (.int .i64 E.each)).set 2 (.int .i64 E.at_)); have fin : EnvR E X _ (.pointer (some ⟨X.heap.size, 0, none⟩)) := ⟨⟨X.heap.size, at', ct', wt, rfl, zu, Z9, N9, G9⟩⟩))
    all_goals
      go_wp2
      go_meet
      case rel => exact fin
  case rest =>
    obtain ⟨⟨b6, a6, c6, w6, rfl, hb6, C6, N6, G6⟩⟩ := hcut
    clear hSn hSd hSa Ga Gd ctl ZA eb0 eb1 eb2
    have P2 := P1.keep G6
    have E2 := E1.keep G6
    have B2 := gtrans B1 G6
    have C52 := C5.keep G6
    have I52 := I5.keep G6
    have IE6 := N6.env
    have lt5 := C5.lt
    clear P1 E1 B1 C5 I5 N6 G6
    obtain ⟨pb0, pb1⟩ := P2.at2
    obtain ⟨eb0, eb1, eb2⟩ := E2.at3
    obtain ⟨rr, hrr⟩ : ∃ r, runV p E = r := ⟨_, rfl⟩
    obtain ⟨⟨xk, xn⟩, xe⟩ := rr
    have cr1 := run_any p hp E hE ai ci ac cc al cl wc (IP.keep B2) (IE.keep B2) (T.keep B2)
    have cr2 := fun Y (G : Below wc.heap.size wc Y) => refRun_any p hp E hE a5 c5 d5 e5 a6 c6 Y (I52.keep G) (IE6.keep G)
    have cr3 := fun Y (G : Below wc.heap.size wc Y) => holds_any p hp E hE ai ci ac cc al cl Y (IP.keep (gtrans B2 G)) (IE.keep (gtrans B2 G)) (T.keep (gtrans B2 G))
    have cr4 := fun Y (G : Below wc.heap.size wc Y) => refHolds_any p hp E hE a5 c5 d5 e5 a6 c6 Y (I52.keep G) (IE6.keep G)
    have cr5 := fun Y (G : Below wc.heap.size wc Y) => sameProg_true p hp ai ci ac cc a5 c5 d5 e5 Y (IP.keep (gtrans B2 G)) (I52.keep G)
    have cr6 := fun Y (G : Below wc.heap.size wc Y) => sameLists_true E.lists al a6 cl c6 Y (IE.n.keep (gtrans B2 G)) (IE6.n.keep G) (by omega) hEl
    rw [hrr] at cr1 cr2
    dsimp only at cr1 cr2
    generalize holdsV p E = hv at cr3 cr4
    go_upto_region 7 with (first
      | (go_at_call 8; (with_reducible refine cr1.mono ?_); rintro _ u ⟨rfl, gu⟩; have U1 := galloc gu (.cells #[.bool xk, .int .i64 xn] 33); have M7 := Bk.new u #[.bool xk, .int .i64 xn] 33; obtain ⟨m0, m1⟩ := (C52.keep U1).at2; obtain ⟨n0, n1, n2⟩ := (C6.keep U1).at3)
      | (go_at_call 9; (with_reducible refine (cr2 _ U1).mono ?_); rintro _ u2 ⟨rfl, gu2⟩))
    have U2 := galloc (gtrans U1 gu2) (.cells #[.bool xk, .int .i64 xn] 33)
    have M9 := Bk.new u2 #[.bool xk, .int .i64 xn] 33
    replace M7 := (M7.keep gu2).alloc (.cells #[.bool xk, .int .i64 xn] 33)
    have l7 : wc.heap.size ≤ u.heap.size := gu.size
    have l79 : u.heap.size < u2.heap.size := by have := gu2.size; simp at this; omega
    have l9 := M9.lt
    have lw7 : w.heap.size ≤ wc.heap.size := B2.size
    generalize u2.alloc (.cells #[.bool xk, .int .i64 xn] 33) = Y at *
    generalize u2.heap.size = b9 at *
    generalize u.heap.size = b7 at *
    clear U1 gu gu2 m0 m1 n0 n1 n2 cr1 cr2 pb0 pb1 eb0 eb1 eb2
    obtain ⟨yp0, yp1⟩ := (P2.keep U2).at2
    obtain ⟨ye0, ye1, ye2⟩ := (E2.keep U2).at3
    obtain ⟨ym0, ym1⟩ := (C52.keep U2).at2
    obtain ⟨yn0, yn1, yn2⟩ := (C6.keep U2).at3
    have hvv : (hv != hv) = false := by simp
    have hee : (xe != xe) = false := by simp
    go_upto_region 10 with (first
      | (go_at_call 10; (with_reducible refine (cr3 _ U2).mono ?_); rintro _ u3 ⟨rfl, g3⟩; have U3 := gtrans U2 g3; obtain ⟨ap0, ap1⟩ := (P2.keep U3).at2; obtain ⟨ae0, ae1, ae2⟩ := (E2.keep U3).at3; obtain ⟨am0, am1⟩ := (C52.keep U3).at2; obtain ⟨an0, an1, an2⟩ := (C6.keep U3).at3; obtain ⟨av0, av1⟩ := (M7.keep g3).at2; obtain ⟨aw0, aw1⟩ := (M9.keep g3).at2)
      | (go_at_call 11; (with_reducible refine (cr4 _ U3).mono ?_); rintro _ u4 ⟨rfl, g4⟩; have U4 := gtrans U3 g4; obtain ⟨cp0, cp1⟩ := (P2.keep U4).at2; obtain ⟨ce0, ce1, ce2⟩ := (E2.keep U4).at3; obtain ⟨cm0, cm1⟩ := (C52.keep U4).at2; obtain ⟨cn0, cn1, cn2⟩ := (C6.keep U4).at3)
      | (go_at_call 12; (with_reducible refine (cr5 _ U4).mono ?_); rintro _ u5 ⟨rfl, g5⟩; have U5 := gtrans U4 g5; obtain ⟨dp0, dp1⟩ := (P2.keep U5).at2; obtain ⟨de0, de1, de2⟩ := (E2.keep U5).at3; obtain ⟨dm0, dm1⟩ := (C52.keep U5).at2; obtain ⟨dn0, dn1, dn2⟩ := (C6.keep U5).at3)
      | (go_at_call 13; (with_reducible refine (cr6 _ U5).mono ?_); rintro _ u6 ⟨rfl, g6⟩; have U6 := gtrans U5 g6))
    have Gs := gtrans (gtrans (gtrans g3 g4) g5) g6
    have P3 := P2.keep U6
    have E1 := E2.keep U6
    have B1 := gtrans B2 U6
    have M73 := M7.keep Gs
    have M93 := M9.keep Gs
    have lY : Y.heap.size ≤ u6.heap.size := Gs.size
    clear P2 E2 B2 C52 I52 C6 IE6 M7 M9 U2 U3 U4 U5 U6 g3 g4 g5 g6 Gs cr3 cr4 cr5 cr6 yp0 yp1 ye0 ye1 ye2 ym0 ym1 yn0 yn1 yn2 ap0 ap1 ae0 ae1 ae2 am0 am1 an0 an1 an2 av0 av1 aw0 aw1 cp0 cp1 ce0 ce1 ce2 cm0 cm1 cn0 cn1 cn2 dp0 dp1 de0 de1 de2 dm0 dm1 dn0 dn1 dn2
    obtain ⟨eb0, eb1, eb2⟩ := E1.at3
    have ctl : ∀ Y, Below u6.heap.size u6 Y → Calls Tryd.prog 7 #[.slice al E.lists.length cl] Y fun e w' => TwR E.lists Y e w' ∧ Below Y.heap.size Y w' := fun Y G => twinLists_any E.lists al cl Y (IE.n.keep (gtrans B1 G)) hEn hEl
    have hSn : ∀ Y, Below u6.heap.size u6 Y → Y.cell? ⟨w.heap.size + 1, 0, none⟩ = some (.slice al E.lists.length cl) ∧ Y.cell? ⟨w.heap.size + 1, 1, none⟩ = some (.int .i64 E.each) ∧ Y.cell? ⟨w.heap.size + 1, 2, none⟩ = some (.int .i64 E.at_) := fun Y G => ⟨(E1.keep G).at3.1, (E1.keep G).at3.2.1, (E1.keep G).at3.2.2⟩
    have Gd := (Below.refl u6.heap.size u6).drew
    have hSd := hSn _ Gd
    have Ga := (galloc (Below.refl u6.heap.size u6) (.cells #[.slice none 0 0, .int .i64 0, .int .i64 0] 28)).drew
    have hSa := hSn _ Ga
    have ZA : Bk (u6.alloc (.cells #[.slice none 0 0, .int .i64 0, .int .i64 0] 28)).drew u6.heap.size #[.slice none 0 0, .int .i64 0, .int .i64 0] 28 := Bk.new u6 #[.slice none 0 0, .int .i64 0, .int .i64 0] 28
    go_cut [12] from 73 to 80 (fun s wx => EnvR E u6 wx s)
    case first =>
      go_region_held3 (fun Y : World => Y.cell? ⟨w.heap.size + 1, 0, none⟩ = some (.slice al E.lists.length cl) ∧ Y.cell? ⟨w.heap.size + 1, 1, none⟩ = some (.int .i64 E.each) ∧ Y.cell? ⟨w.heap.size + 1, 2, none⟩ = some (.int .i64 E.at_)) (first | (with_reducible exact hSd) | (with_reducible exact hSa) | (with_reducible exact hSu) | (with_reducible exact hSua) | (with_reducible exact hS9) | go_keep) (first
        | (go_at_call 7; (with_reducible refine (ctl _ Gd).mono ?_); rintro _ u ⟨⟨vt, wt, rfl, NT⟩, gt⟩; obtain ⟨at', ct', rfl, _, _, _⟩ := own_form NT.own; have GU := gtrans Gd gt; have hSu := hSn _ GU; have hSua := hSn _ (galloc GU (.cells #[.slice none 0 0, .int .i64 0, .int .i64 0] 28)); have zu : u6.heap.size ≤ u.heap.size := GU.size; have G9 := galloc GU (.cells #[.slice at' E.lists.length ct', .int .i64 E.each, .int .i64 E.at_] 28); have hS9 := hSn _ G9; have Z9 := Bk.new u #[.slice at' E.lists.length ct', .int .i64 E.each, .int .i64 E.at_] 28; have N9 := (NT.keep (galloc (Below.refl u.heap.size u) (.cells #[.slice at' E.lists.length ct', .int .i64 E.each, .int .i64 E.at_] 28))).mono (show u6.heap.size ≤ _ from by simp); have fin : EnvR E u6 _ (.pointer (some ⟨u.heap.size, 0, none⟩)) := ⟨⟨u.heap.size, at', ct', wt, rfl, zu, Z9, N9, G9⟩⟩)
        | (go_at_call 7; (with_reducible refine (ctl _ Ga).mono ?_); rintro _ u ⟨⟨vt, wt, rfl, NT⟩, gt⟩; obtain ⟨at', ct', rfl, _, _, _⟩ := own_form NT.own; have GU := gtrans Ga gt; have hSu := hSn _ GU; have ZU := ZA.keep gt; obtain ⟨zu0, zu1, zu2⟩ := ZU.at3; have zuf := ZU.free; have zu : u6.heap.size ≤ u6.heap.size := Nat.le_refl _; have G9 := gset (gset (gset GU (p := ⟨u6.heap.size, 0, none⟩) zu (.slice at' E.lists.length ct')) (p := ⟨u6.heap.size, 1, none⟩) zu (.int .i64 E.each)) (p := ⟨u6.heap.size, 2, none⟩) zu (.int .i64 E.at_); have hS9 := hSn _ G9; have Z9 := ((ZU.set 0 (.slice at' E.lists.length ct')).set 1 (.int .i64 E.each)).set 2 (.int .i64 E.at_); have N9 := onst_but (NT.mono (show u6.heap.size ≤ _ from by simp)) ZU (by decide) (by decide) ((((But.refl u6.heap.size u).set 0 (.slice at' E.lists.length ct')).set 1 (.int .i64 E.each)).set 2 (.int .i64 E.at_)); have fin : EnvR E u6 _ (.pointer (some ⟨u6.heap.size, 0, none⟩)) := ⟨⟨u6.heap.size, at', ct', wt, rfl, zu, Z9, N9, G9⟩⟩))
      all_goals
        go_wp2
        go_meet
        case rel => exact fin
    case rest =>
      obtain ⟨⟨b12, a12, c12, w12, rfl, hb12, C12, N12, G12⟩⟩ := hcut
      clear hSn hSd hSa Ga Gd ctl ZA eb0 eb1 eb2
      have P4 := P3.keep G12
      have E4 := E1.keep G12
      have B4 := gtrans B1 G12
      have M74 := M73.keep G12
      have M94 := M93.keep G12
      have z6 : u6.heap.size ≤ wc.heap.size := G12.size
      have hwu : w.heap.size ≤ u6.heap.size := B1.size
      clear P3 E1 M73 M93 G12 B1
      obtain ⟨pb0, pb1⟩ := P4.at2
      have ctp := twinProg_any p hp ai ci ac cc wc (IP.keep B4)
      go_upto_region 12 with (first
        | (go_at_call 6; (with_reducible refine ctp.mono ?_); rintro _ u1 ⟨⟨a13, c13, d13, e13, w13, rfl, PO⟩, g1⟩))
      have GZ := galloc g1 (.cells #[.slice a13 p.code.length c13, .slice d13 p.cols.length e13] 25)
      have C13 := Bk.new u1 #[.slice a13 p.code.length c13, .slice d13 p.cols.length e13] 25
      replace PO := (PO.keep (galloc (Below.refl u1.heap.size u1) (.cells #[.slice a13 p.code.length c13, .slice d13 p.cols.length e13] 25)))
      have z1 : wc.heap.size ≤ u1.heap.size := g1.size
      have C125 := C12.keep GZ
      have N125 := N12.keep GZ
      have P5 := P4.keep GZ
      have E5 := E4.keep GZ
      have M75 := M74.keep GZ
      have M95 := M94.keep GZ
      have B5 := gtrans B4 GZ
      have z4 : wc.heap.size ≤ (u1.alloc (.cells #[.slice a13 p.code.length c13, .slice d13 p.cols.length e13] 25)).heap.size := GZ.size
      generalize u1.alloc (.cells #[.slice a13 p.code.length c13, .slice d13 p.cols.length e13] 25) = Z at *
      generalize u1.heap.size = b13 at *
      clear P4 E4 M74 M94 B4 C12 N12 ctp g1 GZ pb0 pb1
      have cq1 := run_any p hp E hE a13 c13 d13 e13 a12 c12 Z PO.isPr N125.env (T.keep B5)
      have cq2 := fun Y (G : Below Z.heap.size Z Y) => holds_any p hp E hE a13 c13 d13 e13 a12 c12 Y (PO.isPr.keep G) (N125.env.keep G) (T.keep (gtrans B5 G))
      have cq3 := fun Y (G : Below Z.heap.size Z Y) => otherwise_any E.lists u6.heap.size a12 c12 w12 Y (N125.keep G) hE.e (by omega) hEl (by have := G.size; omega)
      rw [hrr] at cq1
      dsimp only at cq1
      generalize holdsV p E = hv2 at cq2
      obtain ⟨k0, k1⟩ := C13.at2
      obtain ⟨n0, n1, n2⟩ := C125.at3
      go_upto_region 15 with (first
        | (go_at_call 8; (with_reducible refine cq1.mono ?_); rintro _ u3 ⟨rfl, g3⟩; obtain ⟨k30, k31⟩ := (C13.keep g3).at2; obtain ⟨n30, n31, n32⟩ := (C125.keep g3).at3)
        | (go_at_call 10; (with_reducible refine (cq2 _ g3).mono ?_); rintro _ u4 ⟨rfl, g4⟩; have g34 := gtrans g3 g4; obtain ⟨k40, k41⟩ := (C13.keep g34).at2; obtain ⟨n40, n41, n42⟩ := (C125.keep g34).at3)
        | (go_at_call 14; (with_reducible refine (cq3 _ g34).mono ?_); rintro _ u5 ⟨⟨_, rfl⟩, ⟨⟨l', hl1, hl2, hl3, N5, K5, B55⟩⟩⟩))
      have C13' := bk_kt K5 (C13.keep g34) (by decide)
      have C12' := bk_kt K5 (C125.keep g34) (by decide)
      rw [← hl1] at C12'
      have N5' : ONst u5 u6.heap.size 47 69 11 evC (.slice a12 l'.length c12) l' w12 := by rw [hl1]; exact N5
      have P6 := bk_kt K5 (P5.keep g34) (by decide)
      have E6 := bk_kt K5 (E5.keep g34) (by decide)
      have M76 := bk_kt K5 (M75.keep g34) (by decide)
      have M96 := bk_kt K5 (M95.keep g34) (by decide)
      have PO6 := (PO.keep g34).map fun e s v n xs he h => own_kt K5 h (by rcases he with rfl | rfl | rfl <;> decide)
      have B6 : Below w.heap.size w u5 := (gtrans B5 g34).trans (B55.mono hwu)
      have z45 : wc.heap.size ≤ u5.heap.size := by have := g34.size; have := B55.size; omega
      have hE' : (⟨l', E.each, E.at_⟩ : Envr).ok := ⟨by show l'.length * 24 ≤ _; rw [hl1]; exact hE.n, fun k => by show (l'.getD k []).length * 88 ≤ _; rw [hl2]; exact hE.l k, hl3, hE.f0, hE.f1, fun k => by show (l'.getD k []).length ≤ _; rw [hl2]; exact hE.b k⟩
      clear C13 C125 N125 P5 E5 M75 M95 PO B5 N5 K5 B55 g3 g4 g34 cq1 cq2 cq3 k0 k1 n0 n1 n2 k30 k31 n30 n31 n32 k40 k41 n40 n41 n42
      obtain ⟨bP, hbP⟩ : ∃ bP, wc.heap.size = bP := ⟨_, rfl⟩
      rw [hbP] at PO6 z45 z6
      clear hbP
      have hpn := hp.n
      have cc1 := PO6.code
      have cc2 := PO6.cols
      go_wp2
      go_loopw [14] (fun i wr => LpR p bP u6.heap.size a13 c13 u5 i wr) (fun i _ => p.code.length - (intOf i).toNat)
      case atStart => exact ⟨⟨0, p.code, Nat.zero_le _, rfl, rfl, hp.i, cc1, KT.refl _ _, Below.refl _ _⟩⟩
      case round =>
        obtain ⟨⟨k, cd, hk, rfl, hcl, hci, OC, KI, BI⟩⟩ := hrel
        obtain ⟨q0, q1⟩ := (bk_kt KI C13' (by decide)).at2
        by_cases hlt : k < p.code.length
        · have hki : (k : Int) < (p.code.length : Int) := by omega
          obtain ⟨gi, rfl, hgi, hgb⟩ : ∃ gi, a13 = some ⟨gi, 0, none⟩ ∧ gi < wr.heap.size ∧ bP ≤ gi := by
            obtain ⟨_, _, e1, _, _, h⟩ := own_form OC
            cases e1
            rcases h with h | ⟨gr, h1, h2, h3⟩
            · omega
            · exact ⟨gr, h1, h2, h3⟩
          have y0 : wr.cell? ⟨gi, k * 5 + 3, none⟩ = some (.int .i64 (cd.getD k noIn).n) := by
            rw [World.ownsRow.cellAt OC _ (by omega), fl_at insC_sz noIn cd k 3 (by omega) (by omega)]
            rfl
          have yf : wr.frozen? ⟨gi, k * 5 + 3, none⟩ = false := World.ownsRow.frozenAt OC _
          have hik := hci k
          obtain ⟨⟨e0, e1, e2, zz, e4⟩, he⟩ : ∃ e, cd.getD k noIn = e := ⟨_, rfl⟩
          rw [he] at y0 hik
          dsimp only at y0
          have hne : Nonempty (Ext wr) := ⟨⟨_, Below.refl _ _⟩⟩
          have p0 := fun z : Ext wr => (z.cell _ _ (lt_of_cell q0)).trans q0
          have p1 := fun z : Ext wr => (z.cell _ _ (lt_of_cell y0)).trans y0
          go_wp2
          refine wp_region_ext_tail 12 (by kernel_rfl) (by kernel_rfl) ?_
          simp only [List.take_succ_cons, List.take_zero, List.drop_succ_cons, List.drop_zero]
          repeat (go_big_quiet_step (fail))
          refine wpQuiet_nil ?_
          intro _ hw'
          obtain ⟨nx, hw''⟩ := hw'
          subst hw''
          have OX := own_keep OC nx.h
          obtain ⟨xf0, xf1⟩ := xor_fits zz 1
          have hset := fl_set insC_sz noIn cd k 3 (.int .i64 (bits .xor .i64 zz 1)) ⟨e0, e1, e2, bits .xor .i64 zz 1, e4⟩ (by omega) (by omega) (by rw [he]; rfl)
          have O9 := (World.ownsRow.stored OX (k * 5 + 3) (.int .i64 (bits .xor .i64 zz 1))).1
          rw [hset] at O9
          obtain ⟨cur, hcur⟩ : ∃ cur, nx.X.heap[gi]? = some (.cells cur 43 (0, 0)) := by
            rcases OX.2 with ⟨h1, _⟩ | ⟨g', c2, cur, h1, _, hh, _⟩
            · cases h1
            · cases h1; exact ⟨cur, hh⟩
          have K9 := (KI.ext nx.h).set hcur (k * 5 + 3) (.int .i64 (bits .xor .i64 zz 1))
          have B9 : Below u6.heap.size u5 (nx.X.setCell ⟨gi, k * 5 + 3, none⟩ (.int .i64 (bits .xor .i64 zz 1))) := (BI.trans (nx.h.mono (by have := BI.size; omega))).setCell (by show _ ≤ gi; omega) _
          have fin : LpR p bP u6.heap.size (some ⟨gi, 0, none⟩) c13 u5 (.int .i64 ((k : Int) + 1)) (nx.X.setCell ⟨gi, k * 5 + 3, none⟩ (.int .i64 (bits .xor .i64 zz 1))) := by
            refine ⟨⟨k + 1, cd.set k ⟨e0, e1, e2, bits .xor .i64 zz 1, e4⟩, by omega, by go_num, by rw [List.length_set]; exact hcl, fun m => ?_, O9, K9, B9⟩⟩
            rw [List.getD_eq_getElem?_getD, List.getElem?_set]
            by_cases em : k = m
            · subst em
              rw [if_pos rfl, if_pos (by omega)]
              exact ⟨(fits_iff _).2 ⟨xf0, xf1⟩, hik.«to»⟩
            · rw [if_neg em, ← List.getD_eq_getElem?_getD]; exact hci m
          have y1 := (nx.cell _ _ (lt_of_cell y0)).trans y0
          have yf1 : nx.X.frozen? ⟨gi, k * 5 + 3, none⟩ = false := (nx.h.frozen (p := ⟨gi, k * 5 + 3, none⟩) (lt_of_cell y0)).trans yf
          generalize nx.X = XX at *
          generalize bits BinOp.xor IntKind.i64 zz 1 = zx at *
          clear p0 p1 OC OX O9 K9 B9 KI BI hne hcur hset hci hik
          go_wp2
          go_roundw
          case rel => exact fin
          case measure => simp [intOf]; omega
        · obtain rfl : k = p.code.length := by omega
          have hnk : ¬ ((p.code.length : Int) < (p.code.length : Int)) := by omega
          have hp' : (⟨cd, p.cols⟩ : Prg).ok := ⟨by show cd.length * 40 ≤ _; rw [hcl]; exact hp.n, hp.c, hp.k, hci⟩
          have C13w := bk_kt KI C13' (by decide)
          rw [← hcl] at C13w
          have C12w := bk_kt KI C12' (by decide)
          have N5w := onst_kt N5' KI (by decide) (by decide)
          have P6w := bk_kt KI P6 (by decide)
          have E6w := bk_kt KI E6 (by decide)
          have M7w := bk_kt KI M76 (by decide)
          have M9w := bk_kt KI M96 (by decide)
          have POw : PrO ⟨cd, p.cols⟩ bP a13 c13 d13 e13 w13 wr := ⟨by show wr.ownsRow bP _ 5 (.slice a13 cd.length c13) cd.length (fl insC cd); rw [hcl]; exact OC, onst_kt cc2 KI (by decide) (by decide)⟩
          have Bw : Below w.heap.size w wr := B6.trans (BI.mono hwu)
          clear C13' C12' N5' P6 E6 M76 M96 PO6 B6 OC KI BI cc1 cc2 hci
          have cz1 := twinLists_any l' a12 c12 wr N5w.nst (by rw [hl1]; exact hEn) (fun k => by rw [hl2]; exact hEl k)
          have cz2 := fun Y (G : Below wr.heap.size wr Y) => run_any ⟨cd, p.cols⟩ hp' ⟨l', E.each, E.at_⟩ hE' a13 c13 d13 e13 a12 c12 Y (POw.isPr.keep G) (N5w.env.keep G) (T.keep (gtrans Bw G))
          obtain ⟨ry, hry⟩ : ∃ r, runV ⟨cd, p.cols⟩ ⟨l', E.each, E.at_⟩ = r := ⟨_, rfl⟩
          obtain ⟨⟨yk, yn⟩, ye⟩ := ry
          rw [hry] at cz2
          dsimp only at cz2
          obtain ⟨k0, k1⟩ := C13w.at2
          obtain ⟨n0, n1, n2⟩ := C12w.at3
          rw [← hcl]
          have HL1 := show Hid (_ = _) from hl1
          have HCL := show Hid (_ = _) from hcl
          have HL2 := show Hid _ from hl2
          have hnk2 : ¬ ((cd.length : Int) < (cd.length : Int)) := by omega
          have hnk3 : ¬ ((p.code.length : Int) < (cd.length : Int)) := by omega
          clear hl1 hl2 hcl hnk q0 q1
          go_upto_region 21 with (first
            | (go_at_call 7; (with_reducible refine cz1.mono ?_); rintro _ u ⟨⟨vt, w15, rfl, N15⟩, gu⟩; obtain ⟨a15, c15, rfl, _, _, _⟩ := own_form N15.own; obtain ⟨k10, k11⟩ := (C13w.keep gu).at2; obtain ⟨n10, n11, n12⟩ := (C12w.keep gu).at3)
            | (go_at_call 8; (with_reducible refine (cz2 _ gu).mono ?_); rintro _ u2 ⟨rfl, gu2⟩; have GG := gtrans gu gu2; have M7u := M7w.keep GG; obtain ⟨v0, v1⟩ := M7u.at2; have vf := M7u.free))
          have ne := fun {b b' : Nat} {cs cs' : Array Value} {t t' : TypeId} (h : Bk u2 b cs t) (h' : Bk u2 b' cs' t') (ht : t ≠ t') => show b ≠ b' from fun e => by subst e; unfold Bk at h h'; rw [h] at h'; cases h'; exact ht rfl
          have C13u := C13w.keep GG
          have C12u := C12w.keep GG
          have P6u := P6w.keep GG
          have E6u := E6w.keep GG
          have M9u := M9w.keep GG
          have BE := ((But.refl b7 u2).set 0 (.bool yk)).set 1 (.int .i64 yn)
          have M7x := (M7u.set 0 (.bool yk)).set 1 (.int .i64 yn)
          have C13x := (C13u.other (ne M7u C13u (by decide)) 0 (.bool yk)).other (ne M7u C13u (by decide)) 1 (.int .i64 yn)
          have C12x := (C12u.other (ne M7u C12u (by decide)) 0 (.bool yk)).other (ne M7u C12u (by decide)) 1 (.int .i64 yn)
          have P6x := (P6u.other (ne M7u P6u (by decide)) 0 (.bool yk)).other (ne M7u P6u (by decide)) 1 (.int .i64 yn)
          have E6x := (E6u.other (ne M7u E6u (by decide)) 0 (.bool yk)).other (ne M7u E6u (by decide)) 1 (.int .i64 yn)
          have M9x := (M9u.other (show b7 ≠ b9 by omega) 0 (.bool yk)).other (show b7 ≠ b9 by omega) 1 (.int .i64 yn)
          have N5x := onst_but (N5w.keep GG) M7u (by decide) (by decide) BE
          have N15x := onst_but (N15.keep gu2) M7u (by decide) (by decide) BE
          have POx := (POw.keep GG).map fun e s v n xs he h => own_but h M7u (by rcases he with rfl | rfl | rfl <;> decide) BE
          have l7w : w.heap.size ≤ b7 := by omega
          have Bx := gset (gset (gtrans Bw GG) (p := ⟨b7, 0, none⟩) l7w (.bool yk)) (p := ⟨b7, 1, none⟩) l7w (.int .i64 yn)
          clear C13u C12u P6u E6u M9u BE M7u ne GG C13w C12w P6w E6w M7w M9w N5w N15 POw Bw gu gu2 v0 v1 vf cz1 cz2 k0 k1 n0 n1 n2 k10 k11 n10 n11 n12
          generalize (u2.setCell ⟨b7, 0, none⟩ (.bool yk)).setCell ⟨b7, 1, none⟩ (.int .i64 yn) = A at *
          have hSn : ∀ Y, Below A.heap.size A Y → Y.cell? ⟨b13, 0, none⟩ = some (.slice a13 cd.length c13) ∧ Y.cell? ⟨b13, 1, none⟩ = some (.slice d13 p.cols.length e13) ∧ Y.cell? ⟨w.heap.size + 1, 1, none⟩ = some (.int .i64 E.each) ∧ Y.cell? ⟨w.heap.size + 1, 2, none⟩ = some (.int .i64 E.at_) := fun Y G => ⟨(C13x.keep G).at2.1, (C13x.keep G).at2.2, (E6x.keep G).at3.2.1, (E6x.keep G).at3.2.2⟩
          have Gd := (Below.refl A.heap.size A).drew
          have hSd := hSn _ Gd
          have ct := fun Y (G : Below A.heap.size A Y) => twinProg_any ⟨cd, p.cols⟩ hp' a13 c13 d13 e13 Y (POx.isPr.keep G)
          go_region_held3 (fun Y : World => Y.cell? ⟨b13, 0, none⟩ = some (.slice a13 cd.length c13) ∧ Y.cell? ⟨b13, 1, none⟩ = some (.slice d13 p.cols.length e13) ∧ Y.cell? ⟨w.heap.size + 1, 1, none⟩ = some (.int .i64 E.each) ∧ Y.cell? ⟨w.heap.size + 1, 2, none⟩ = some (.int .i64 E.at_)) (first | (with_reducible exact hSd) | (with_reducible exact hSu) | (with_reducible exact hSv) | (with_reducible exact hS9)) (first
            | (go_at_call 6; (with_reducible refine (ct _ Gd).mono ?_); rintro _ u3 ⟨⟨a16, c16, d16, e16, w16, rfl, PO16⟩, g3⟩; have GU := gtrans Gd g3; have hSu := hSn _ GU; have cR := refRun_any ⟨cd, p.cols⟩ hp' ⟨l', E.each, E.at_⟩ hE' a16 c16 d16 e16 a15 c15 u3 PO16.isPr (N15x.env.keep GU); rw [hry] at cR; dsimp only at cR)
            | (go_at_call 9; (with_reducible refine cR.mono ?_); rintro _ u4 ⟨rfl, g4⟩; have GV := gtrans GU g4; have hSv := hSn _ GV; have M9v := M9x.keep GV; obtain ⟨x0, x1⟩ := M9v.at2; have xf := M9v.free; have C13v := C13x.keep GV; have E6v := E6x.keep GV; have ne13 : b9 ≠ b13 := (fun e => by subst e; unfold Bk at M9v C13v; rw [M9v] at C13v; cases C13v); have neE : b9 ≠ w.heap.size + 1 := (fun e => by rw [e] at M9v; unfold Bk at M9v E6v; rw [M9v] at E6v; cases E6v); have C13y := (C13v.other ne13 0 (.bool yk)).other ne13 1 (.int .i64 yn); have E6y := (E6v.other neE 0 (.bool yk)).other neE 1 (.int .i64 yn); have hS9 := show _ ∧ _ ∧ _ ∧ _ from ⟨C13y.at2.1, C13y.at2.2, E6y.at3.2.1, E6y.at3.2.2⟩))
          have C12v := C12x.keep GV
          have M7v := M7x.keep GV
          have ne12 : b9 ≠ b12 := (fun e => by subst e; unfold Bk at M9v C12v; rw [M9v] at C12v; cases C12v)
          have BE := ((But.refl b9 u4).set 0 (.bool yk)).set 1 (.int .i64 yn)
          have M9y := (M9v.set 0 (.bool yk)).set 1 (.int .i64 yn)
          have M7y := (M7v.other (show b9 ≠ b7 by omega) 0 (.bool yk)).other (show b9 ≠ b7 by omega) 1 (.int .i64 yn)
          have C12y := (C12v.other ne12 0 (.bool yk)).other ne12 1 (.int .i64 yn)
          have N5y := onst_but (N5x.keep GV) M9v (by decide) (by decide) BE
          have N15y := onst_but (N15x.keep GV) M9v (by decide) (by decide) BE
          have POy := (POx.keep GV).map fun e s v n xs he h => own_but h M9v (by rcases he with rfl | rfl | rfl <;> decide) BE
          have l9w : w.heap.size ≤ b9 := by omega
          have By := gset (gset (gtrans Bx GV) (p := ⟨b9, 0, none⟩) l9w (.bool yk)) (p := ⟨b9, 1, none⟩) l9w (.int .i64 yn)
          clear hSn hSd hSu hSv hS9 ct cR C12v M7v C13v E6v M9v BE GU GV g3 g4 Gd C13x C12x E6x P6x M7x M9x N5x N15x POx Bx x0 x1 xf PO16
          generalize (u4.setCell ⟨b9, 0, none⟩ (.bool yk)).setCell ⟨b9, 1, none⟩ (.int .i64 yn) = D at *
          have hSn : ∀ Y, Below D.heap.size D Y → Y.cell? ⟨b13, 0, none⟩ = some (.slice a13 cd.length c13) ∧ Y.cell? ⟨b13, 1, none⟩ = some (.slice d13 p.cols.length e13) ∧ Y.cell? ⟨w.heap.size + 1, 1, none⟩ = some (.int .i64 E.each) ∧ Y.cell? ⟨w.heap.size + 1, 2, none⟩ = some (.int .i64 E.at_) ∧ Y.cell? ⟨b12, 0, none⟩ = some (.slice a12 l'.length c12) ∧ Y.cell? ⟨b12, 1, none⟩ = some (.int .i64 E.each) ∧ Y.cell? ⟨b12, 2, none⟩ = some (.int .i64 E.at_) ∧ Y.cell? ⟨b7, 0, none⟩ = some (.bool yk) ∧ Y.cell? ⟨b7, 1, none⟩ = some (.int .i64 yn) ∧ Y.cell? ⟨b9, 0, none⟩ = some (.bool yk) ∧ Y.cell? ⟨b9, 1, none⟩ = some (.int .i64 yn) := fun Y G => ⟨(C13y.keep G).at2.1, (C13y.keep G).at2.2, (E6y.keep G).at3.2.1, (E6y.keep G).at3.2.2, (C12y.keep G).at3.1, (C12y.keep G).at3.2.1, (C12y.keep G).at3.2.2, (M7y.keep G).at2.1, (M7y.keep G).at2.2, (M9y.keep G).at2.1, (M9y.keep G).at2.2⟩
          have Gd := (Below.refl D.heap.size D).drew
          have hSd := hSn _ Gd
          have ct := fun Y (G : Below D.heap.size D Y) => twinProg_any ⟨cd, p.cols⟩ hp' a13 c13 d13 e13 Y (POy.isPr.keep G)
          have ch := fun Y (G : Below D.heap.size D Y) => holds_any ⟨cd, p.cols⟩ hp' ⟨l', E.each, E.at_⟩ hE' a13 c13 d13 e13 a12 c12 Y (POy.isPr.keep G) (N5y.env.keep G) (T.keep (gtrans By G))
          have crh := fun Y (G : Below D.heap.size D Y) (a16 : Option Addr) (c16 : Nat) (d16 : Option Addr) (e16 : Nat) (I : IsPr Y ⟨cd, p.cols⟩ a16 c16 d16 e16) => refHolds_any ⟨cd, p.cols⟩ hp' ⟨l', E.each, E.at_⟩ hE' a16 c16 d16 e16 a15 c15 Y I (N15y.env.keep G)
          generalize holdsV ⟨cd, p.cols⟩ ⟨l', E.each, E.at_⟩ = hw at ch crh
          have hww : (hw == hw) = true := by simp
          have hyy : (ye == ye) = true := by simp
          go_wp2
          go_region_held3 (fun Y : World => Y.cell? ⟨b13, 0, none⟩ = some (.slice a13 cd.length c13) ∧ Y.cell? ⟨b13, 1, none⟩ = some (.slice d13 p.cols.length e13) ∧ Y.cell? ⟨w.heap.size + 1, 1, none⟩ = some (.int .i64 E.each) ∧ Y.cell? ⟨w.heap.size + 1, 2, none⟩ = some (.int .i64 E.at_) ∧ Y.cell? ⟨b12, 0, none⟩ = some (.slice a12 l'.length c12) ∧ Y.cell? ⟨b12, 1, none⟩ = some (.int .i64 E.each) ∧ Y.cell? ⟨b12, 2, none⟩ = some (.int .i64 E.at_) ∧ Y.cell? ⟨b7, 0, none⟩ = some (.bool yk) ∧ Y.cell? ⟨b7, 1, none⟩ = some (.int .i64 yn) ∧ Y.cell? ⟨b9, 0, none⟩ = some (.bool yk) ∧ Y.cell? ⟨b9, 1, none⟩ = some (.int .i64 yn)) (first | (with_reducible exact hSd) | (with_reducible exact hS1) | (with_reducible exact hS2) | (with_reducible exact hS3)) (first
            | (go_at_call 10; (with_reducible refine (ch _ Gd).mono ?_); rintro _ u5 ⟨rfl, g5⟩; have G1 := gtrans Gd g5; have hS1 := hSn _ G1)
            | (go_at_call 6; (with_reducible refine (ct _ G1).mono ?_); rintro _ u6 ⟨⟨a16, c16, d16, e16, w16, rfl, PO16⟩, g6⟩; have G2 := gtrans G1 g6; have hS2 := hSn _ G2)
            | (go_at_call 11; (with_reducible refine (crh _ G2 a16 c16 d16 e16 PO16.isPr).mono ?_); rintro _ u7 ⟨rfl, g7⟩; have G3 := gtrans G2 g7; have hS3 := hSn _ G3))
          all_goals
            go_wp2
            go_ret
            exact ⟨by simp, gtrans By G3⟩
end Go.Proofs.YtjeffmfnaihhjaaDoor
