/- The law CodeEvery: Every of every condition is the document's; what is handed in stays as it is. -/
import Derived.Test.YtjeffmfnaihhjaaDoorCev
import Derived.Test.YtjeffmfnaihhjaaDoorClb
import Derived.Test.YtjeffmfnaihhjaaDoorCld
import Derived.Test.YtjeffmfnaihhjaaDoorCle
import Derived.Deep.CutRange
import Derived.Deep.RegionHeld3
namespace Go.Proofs.YtjeffmfnaihhjaaDoor
open Go.RowKit Go.BigFrame
set_option linter.unusedVariables false
set_option linter.unusedSimpArgs false

/-- A condition of one's own in a local. -/
structure CndR (p : Prg) (each : Int) (prev : Bool) (X wx : World) (s : Value) : Prop where
  ex : ∃ b a5 c5 d5 e5, s = .pointer (some ⟨b, 0, none⟩) ∧ X.heap.size ≤ b ∧ Bk wx b #[.slice a5 p.code.length c5, .slice d5 p.cols.length e5, .int .i64 each, .bool prev] 45 ∧ IsPr wx p a5 c5 d5 e5 ∧ Below X.heap.size X wx

set_option maxRecDepth 100000 in
set_option maxHeartbeats 16000000 in
theorem codeEvery_walk (p : Prg) (hp : p.ok) (each : Int) (hf : fitsB each = true) (prev : Bool) (l : List (List Ev)) (hO0 : ∀ hb : (∀ k, (l.getD k []).length ≤ 2147483647), LsOk l) (hEn : l.length * 24 ≤ 140737488351232) (hEl : ∀ k, (l.getD k []).length * 88 ≤ 140737488351232) (ai : Option Addr) (ci : Nat) (ac : Option Addr) (cc : Nat) (al : Option Addr) (cl : Nat) (w : World) (IP : IsPr w p ai ci ac cc) (N : Nst w al evC l) (S : Sl al l.length cl) (T : TbAt w) :
    Calls Tryd.prog 4 #[cndA p ai ci ac cc each prev, .slice al l.length cl] w fun e w' => e = .returned (.bool true) ∧ Below w.heap.size w w' := by
  have C0 := Bk.new w #[.slice ai p.code.length ci, .slice ac p.cols.length cc, .int .i64 each, .bool prev] 45
  have B0 := galloc (Below.refl w.heap.size w) (.cells #[.slice ai p.code.length ci, .slice ac p.cols.length cc, .int .i64 each, .bool prev] 45)
  go_enter Tryd.func4, Tryd.ntmps4
  go_upto_region 1 with fail
  generalize w.alloc (.cells #[.slice ai p.code.length ci, .slice ac p.cols.length cc, .int .i64 each, .bool prev] 45) = V at *
  have zV := B0.size
  obtain ⟨cb0, cb1, cb2, cb3⟩ := C0.at4
  have cby := beyond_any l al cl V (N.keep B0) (by omega) (fun k => by have := hEl k; omega)
  go_upto_region 3 with (first
    | (go_at_call 5; (with_reducible refine cby.mono ?_); rintro _ _ ⟨⟨bb, rfl, hbb⟩, rfl⟩; cases bb))
  rotate_left
  · go_ret
    exact ⟨rfl, B0⟩
  have hO := hO0 (hbb (by first | trivial | rfl))
  have ctp : ∀ Y, Below V.heap.size V Y → Calls Tryd.prog 6 #[prgA p ai ci ac cc] Y fun e w' => PrR p Y e w' ∧ Below Y.heap.size Y w' := fun Y G => twinProg_any p hp ai ci ac cc Y (IP.keep (gtrans B0 G))
  have hSn : ∀ Y, Below V.heap.size V Y → Y.cell? ⟨w.heap.size, 0, none⟩ = some (.slice ai p.code.length ci) ∧ Y.cell? ⟨w.heap.size, 1, none⟩ = some (.slice ac p.cols.length cc) ∧ Y.cell? ⟨w.heap.size, 2, none⟩ = some (.int .i64 each) ∧ Y.cell? ⟨w.heap.size, 3, none⟩ = some (.bool prev) := fun Y G => ⟨(C0.keep G).at4.1, (C0.keep G).at4.2.1, (C0.keep G).at4.2.2.1, (C0.keep G).at4.2.2.2⟩
  have Gd := (Below.refl V.heap.size V).drew
  have hSd := hSn _ Gd
  have Ga := (galloc (Below.refl V.heap.size V) (.cells #[.slice none 0 0, .slice none 0 0, .int .i64 0, .bool false] 45)).drew
  have hSa := hSn _ Ga
  have ZA : Bk (V.alloc (.cells #[.slice none 0 0, .slice none 0 0, .int .i64 0, .bool false] 45)).drew V.heap.size #[.slice none 0 0, .slice none 0 0, .int .i64 0, .bool false] 45 := Bk.new V #[.slice none 0 0, .slice none 0 0, .int .i64 0, .bool false] 45
  go_cut [5] from 11 to 19 (fun s wx => CndR p each prev V wx s)
  case first =>
    go_region_held3 (fun Y : World => Y.cell? ⟨w.heap.size, 0, none⟩ = some (.slice ai p.code.length ci) ∧ Y.cell? ⟨w.heap.size, 1, none⟩ = some (.slice ac p.cols.length cc) ∧ Y.cell? ⟨w.heap.size, 2, none⟩ = some (.int .i64 each) ∧ Y.cell? ⟨w.heap.size, 3, none⟩ = some (.bool prev)) (first | (with_reducible exact hSd) | (with_reducible exact hSa) | (with_reducible exact hSu) | (with_reducible exact hSua) | (with_reducible exact hS9) | go_keep) (first
      | (go_at_call 6; (with_reducible refine (ctp _ Gd).mono ?_); rintro _ u ⟨⟨a5, c5, d5, e5, w5, rfl, PO⟩, gt⟩; have GU := gtrans Gd gt; have hSu := hSn _ GU; have I5 := PO.isPr; have hSua := hSn _ (galloc GU (.cells #[.slice none 0 0, .slice none 0 0, .int .i64 0, .bool false] 45)); have zu : V.heap.size ≤ u.heap.size := GU.size; have G9 := galloc GU (.cells #[.slice a5 p.code.length c5, .slice d5 p.cols.length e5, .int .i64 each, .bool prev] 45); have hS9 := hSn _ G9; have Z9 := Bk.new u #[.slice a5 p.code.length c5, .slice d5 p.cols.length e5, .int .i64 each, .bool prev] 45; have N9 := I5.keep (galloc (Below.refl u.heap.size u) (.cells #[.slice a5 p.code.length c5, .slice d5 p.cols.length e5, .int .i64 each, .bool prev] 45)); have fin : CndR p each prev V _ (.pointer (some ⟨u.heap.size, 0, none⟩)) := ⟨⟨u.heap.size, a5, c5, d5, e5, rfl, zu, Z9, N9, G9⟩⟩)
      | (go_at_call 6; (with_reducible refine (ctp _ Ga).mono ?_); rintro _ u ⟨⟨a5, c5, d5, e5, w5, rfl, PO⟩, gt⟩; have GU := gtrans Ga gt; have hSu := hSn _ GU; have I5 := PO.isPr; have ZU := ZA.keep gt; obtain ⟨zu0, zu1, zu2, zu3⟩ := ZU.at4; have zuf := ZU.free; have zu : V.heap.size ≤ V.heap.size := Nat.le_refl _; have G9 := gset (gset (gset (gset (GU) (p := ⟨V.heap.size, 0, none⟩) zu (.slice a5 p.code.length c5)) (p := ⟨V.heap.size, 1, none⟩) zu (.slice d5 p.cols.length e5)) (p := ⟨V.heap.size, 2, none⟩) zu (.int .i64 each)) (p := ⟨V.heap.size, 3, none⟩) zu (.bool prev); have hS9 := hSn _ G9; have Z9 := ((((ZU.set 0 (.slice a5 p.code.length c5)).set 1 (.slice d5 p.cols.length e5)).set 2 (.int .i64 each)).set 3 (.bool prev)); have N9 := (PO.map fun e s v n xs he o => own_but o ZU (by rcases he with rfl | rfl | rfl <;> decide) (((((But.refl V.heap.size u).set 0 (.slice a5 p.code.length c5)).set 1 (.slice d5 p.cols.length e5)).set 2 (.int .i64 each)).set 3 (.bool prev))).isPr; have fin : CndR p each prev V _ (.pointer (some ⟨V.heap.size, 0, none⟩)) := ⟨⟨V.heap.size, a5, c5, d5, e5, rfl, zu, Z9, N9, G9⟩⟩))
    all_goals
      go_wp2
      go_meet
      case rel => exact fin
  case rest =>
    obtain ⟨⟨b5, a5, c5, d5, e5, rfl, hb5, C5, I5, G5⟩⟩ := hcut
    clear hSn hSd hSa Ga Gd ctp ZA cb0 cb1 cb2 cb3 cby hbb
    have C1 := C0.keep G5
    have B1 := gtrans B0 G5
    clear C0 B0 G5
    obtain ⟨cb0, cb1, cb2, cb3⟩ := C1.at4
    generalize hev : everyV p each prev l = ev at *
    have ct1 := twinLists_any l al cl wc (N.keep B1) hEn hEl
    have ce1 : ∀ Y, Below wc.heap.size wc Y → Calls Tryd.prog 15 #[cndA p ai ci ac cc each prev, .slice al l.length cl] Y fun e w' => e = .returned (.bool ev) ∧ Below Y.heap.size Y w' := fun Y G => by rw [← hev]; exact every_any p hp each hf prev l hO ai ci ac cc al cl Y (IP.keep (gtrans B1 G)) (N.keep (gtrans B1 G)) S (T.keep (gtrans B1 G))
    have cr5 := fun Y (G : Below wc.heap.size wc Y) => sameProg_true p hp ai ci ac cc a5 c5 d5 e5 Y (IP.keep (gtrans B1 G)) (I5.keep G)
    have hvv : (ev != ev) = false := by simp
    go_upto_region 8 with (first
      | (go_at_call 7; (with_reducible refine ct1.mono ?_); rintro _ u1 ⟨⟨vt, w6, rfl, N6⟩, g1⟩; obtain ⟨a6, c6, rfl, _, _, _⟩ := own_form N6.own; obtain ⟨k0, k1, k2, k3⟩ := (C1.keep g1).at4; have ce2 : ∀ Y, Below u1.heap.size u1 Y → Calls Tryd.prog 16 #[cndA p a5 c5 d5 e5 each prev, .slice a6 l.length c6] Y (fun e w' => e = .returned (.bool ev) ∧ Below Y.heap.size Y w') := (fun Y G => by rw [← hev]; exact refEvery_any p hp each hf prev l hO a5 c5 d5 e5 a6 c6 Y (I5.keep (gtrans g1 G)) (N6.nst.keep G) (own_sl N6.own)))
      | (go_at_call 15; (with_reducible refine (ce1 _ g1).mono ?_); rintro _ u2 ⟨rfl, g2⟩; have U2 := gtrans g1 g2; obtain ⟨m0, m1, m2, m3⟩ := (C1.keep U2).at4; obtain ⟨n0, n1, n2, n3⟩ := (C5.keep U2).at4)
      | (go_at_call 16; (with_reducible refine (ce2 _ g2).mono ?_); rintro _ u3 ⟨rfl, g3⟩; have U3 := gtrans U2 g3; obtain ⟨o0, o1, o2, o3⟩ := (C1.keep U3).at4; obtain ⟨q0, q1, q2, q3⟩ := (C5.keep U3).at4)
      | (go_at_call 12; (with_reducible refine (cr5 _ U3).mono ?_); rintro _ u4 ⟨rfl, g4⟩; have U4 := gtrans U3 g4; have cr6 := sameLists_true l al a6 cl c6 u4 (N.keep (gtrans B1 U4)) (N6.nst.keep (gtrans (gtrans g2 g3) g4)) (by omega) hEl)
      | (go_at_call 13; (with_reducible refine cr6.mono ?_); rintro _ u5 ⟨rfl, g5⟩; have U5 := gtrans U4 g5))
    have C2 := C1.keep U5
    have C52 := C5.keep U5
    have I52 := I5.keep U5
    have B2 := gtrans B1 U5
    clear C1 C5 I5 B1 U2 U3 U4 U5 g1 g2 g3 g4 g5 ct1 ce1 ce2 cr5 cr6 cb0 cb1 cb2 cb3 k0 k1 k2 k3 m0 m1 m2 m3 n0 n1 n2 n3 o0 o1 o2 o3 q0 q1 q2 q3 N6 hb5
    obtain ⟨cb0, cb1, cb2, cb3⟩ := C2.at4
    have ct2 := twinLists_any l al cl u5 (N.keep B2) hEn hEl
    go_upto_region 11 with (first
      | (go_at_call 7; (with_reducible refine ct2.mono ?_); rintro _ u6 ⟨⟨vt, w8, rfl, N8⟩, g6⟩; obtain ⟨a8, c8, rfl, _, _, _⟩ := own_form N8.own; obtain ⟨k0, k1, k2, k3⟩ := (C2.keep g6).at4; have ce3 := every_any p hp each hf prev l hO ai ci ac cc a8 c8 u6 (IP.keep (gtrans B2 g6)) N8.nst (own_sl N8.own) (T.keep (gtrans B2 g6)))
      | (go_at_call 15; (with_reducible refine ce3.mono ?_); rintro _ u7 ⟨rfl, g7⟩; have g67 := gtrans g6 g7; have co := otherwise_any l u5.heap.size a8 c8 w8 u7 (N8.keep g7) (hO 0 0 (by decide) (by decide)).e (by omega) hEl g67.size)
      | (go_at_call 14; (with_reducible refine co.mono ?_); rintro _ u8 ⟨⟨_, rfl⟩, ⟨⟨l', hl1, hl2, hl3, N9, K9, B9⟩⟩⟩))
    have G8 : Below u5.heap.size u5 u8 := g67.trans B9
    have C3 := C2.keep G8
    have C53 := C52.keep G8
    have I53 := I52.keep G8
    have B3 := gtrans B2 G8
    have hO' : LsOk l' := fun e a he ha => ⟨by show l'.length * 24 ≤ _; rw [hl1]; exact hEn, fun k => by show (l'.getD k []).length * 88 ≤ _; rw [hl2]; exact hEl k, hl3, he, ha, fun k => by show (l'.getD k []).length ≤ _; rw [hl2]; exact (hO e a he ha).b k⟩
    have N10 : ONst u8 u5.heap.size 47 69 11 evC (.slice a8 l'.length c8) l' w8 := by rw [hl1]; exact N9
    have hEn' : l'.length * 24 ≤ 140737488351232 := by rw [hl1]; exact hEn
    have hEl' : ∀ k, (l'.getD k []).length * 88 ≤ 140737488351232 := fun k => by rw [hl2]; exact hEl k
    have HL1 := show Hid (_ = _) from hl1
    rw [← hl1]
    clear C2 C52 I52 B2 g6 g7 g67 B9 K9 N8 N9 ct2 ce3 co cb0 cb1 cb2 cb3 k0 k1 k2 k3 hl1 hl2 hl3 hev hvv G8
    generalize hev : everyV p each prev l' = ev2 at *
    have cE : ∀ Y, Below u8.heap.size u8 Y → Calls Tryd.prog 15 #[cndA p ai ci ac cc each prev, .slice a8 l'.length c8] Y fun e w' => e = .returned (.bool ev2) ∧ Below Y.heap.size Y w' := fun Y G => by rw [← hev]; exact every_any p hp each hf prev l' hO' ai ci ac cc a8 c8 Y (IP.keep (gtrans B3 G)) (N10.nst.keep G) (own_sl N10.own) (T.keep (gtrans B3 G))
    have cT := fun Y (G : Below u8.heap.size u8 Y) => twinLists_any l' a8 c8 Y (N10.nst.keep G) hEn' hEl'
    have cR : ∀ (a9 : Option Addr) (c9 : Nat) Y, Below u8.heap.size u8 Y → Nst Y a9 evC l' → Sl a9 l'.length c9 → Calls Tryd.prog 16 #[cndA p a5 c5 d5 e5 each prev, .slice a9 l'.length c9] Y fun e w' => e = .returned (.bool ev2) ∧ Below Y.heap.size Y w' := fun a9 c9 Y G h1 h2 => by rw [← hev]; exact refEvery_any p hp each hf prev l' hO' a5 c5 d5 e5 a9 c9 Y (I53.keep G) h1 h2
    have hee : (ev2 == ev2) = true := by simp
    have hSn : ∀ Y, Below u8.heap.size u8 Y → (Y.cell? ⟨w.heap.size, 0, none⟩ = some (.slice ai p.code.length ci) ∧ Y.cell? ⟨w.heap.size, 1, none⟩ = some (.slice ac p.cols.length cc) ∧ Y.cell? ⟨w.heap.size, 2, none⟩ = some (.int .i64 each) ∧ Y.cell? ⟨w.heap.size, 3, none⟩ = some (.bool prev)) ∧ (Y.cell? ⟨b5, 0, none⟩ = some (.slice a5 p.code.length c5) ∧ Y.cell? ⟨b5, 1, none⟩ = some (.slice d5 p.cols.length e5) ∧ Y.cell? ⟨b5, 2, none⟩ = some (.int .i64 each) ∧ Y.cell? ⟨b5, 3, none⟩ = some (.bool prev)) := fun Y G => ⟨⟨(C3.keep G).at4.1, (C3.keep G).at4.2.1, (C3.keep G).at4.2.2.1, (C3.keep G).at4.2.2.2⟩, ⟨(C53.keep G).at4.1, (C53.keep G).at4.2.1, (C53.keep G).at4.2.2.1, (C53.keep G).at4.2.2.2⟩⟩
    have Gd := (Below.refl u8.heap.size u8).drew
    have hSd := hSn _ Gd
    clear hev
    go_region_held3 (fun Y : World => (Y.cell? ⟨w.heap.size, 0, none⟩ = some (.slice ai p.code.length ci) ∧ Y.cell? ⟨w.heap.size, 1, none⟩ = some (.slice ac p.cols.length cc) ∧ Y.cell? ⟨w.heap.size, 2, none⟩ = some (.int .i64 each) ∧ Y.cell? ⟨w.heap.size, 3, none⟩ = some (.bool prev)) ∧ (Y.cell? ⟨b5, 0, none⟩ = some (.slice a5 p.code.length c5) ∧ Y.cell? ⟨b5, 1, none⟩ = some (.slice d5 p.cols.length e5) ∧ Y.cell? ⟨b5, 2, none⟩ = some (.int .i64 each) ∧ Y.cell? ⟨b5, 3, none⟩ = some (.bool prev))) (first | (with_reducible exact hSd) | (with_reducible exact hS1) | (with_reducible exact hS2) | (with_reducible exact hS3)) (first
      | (go_at_call 15; (with_reducible refine (cE _ Gd).mono ?_); rintro _ v1 ⟨rfl, gv1⟩; have H1 := gtrans Gd gv1; have hS1 := hSn _ H1)
      | (go_at_call 15; (with_reducible refine (cE _ H1).mono ?_); rintro _ v2 ⟨rfl, gv2⟩; have H2 := gtrans H1 gv2; have hS2 := hSn _ H2; have M9 := N11.keep gv2)
      | (go_at_call 15; (with_reducible refine (cE _ H2).mono ?_); rintro _ v3 ⟨rfl, gv3⟩; have H3 := gtrans H2 gv3; have hS3 := hSn _ H3)
      | (go_at_call 7; (with_reducible refine (cT _ Gd).mono ?_); rintro _ v1 ⟨⟨vt, w9, rfl, N11⟩, gv1⟩; obtain ⟨a9, c9, rfl, _, _, _⟩ := own_form N11.own; have H1 := gtrans Gd gv1; have hS1 := hSn _ H1)
      | (go_at_call 7; (with_reducible refine (cT _ H1).mono ?_); rintro _ v2 ⟨⟨vt, w9, rfl, M9⟩, gv2⟩; obtain ⟨a9, c9, rfl, _, _, _⟩ := own_form M9.own; have H2 := gtrans H1 gv2; have hS2 := hSn _ H2)
      | (go_at_call 16; (with_reducible refine (cR a9 c9 _ H1 N11.nst (own_sl N11.own)).mono ?_); rintro _ v2 ⟨rfl, gv2⟩; have H2 := gtrans H1 gv2; have hS2 := hSn _ H2)
      | (go_at_call 16; (with_reducible refine (cR a9 c9 _ H2 M9.nst (own_sl M9.own)).mono ?_); rintro _ v3 ⟨rfl, gv3⟩; have H3 := gtrans H2 gv3; have hS3 := hSn _ H3))
    all_goals
      go_wp2
      go_ret
      exact ⟨rfl, gtrans B3 H3⟩

end Go.Proofs.YtjeffmfnaihhjaaDoor
