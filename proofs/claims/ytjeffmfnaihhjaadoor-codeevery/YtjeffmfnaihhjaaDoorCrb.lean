/- The document's machine: gathered, laid. -/
import Derived.Test.YtjeffmfnaihhjaaDoorCra
import Derived.Test.YtjeffmfnaihhjaaDoorRefFoldN
namespace Go.Proofs.YtjeffmfnaihhjaaDoor
open Go.RowKit Go.BigFrame
set_option linter.unusedVariables false
set_option linter.unusedSimpArgs false

theorem say_in {f : Int → Int} {l : List Ev} {k : Nat} (h : k < l.length) : sayV f l (k : Int) = rdE f (l.getD k zeroE) := if_neg (by omega)
structure GatL (f : Int → Int) (l : List Ev) (w : World) (v i : Value) (wr : World) : Prop where
  ex : ∃ k : Nat, k ≤ l.length ∧ i = .int .i64 k ∧ (∀ j, j < k → (rdE f (l.getD j zeroE)).1 = true) ∧ wr.ownsRow (w.heap.size + 1) 2 1 v (numK f l k).length ((numK f l k).map (Value.int .i64)) ∧ Two wr w.heap.size (.bool false) (.int .i64 0) 33 ∧ Below w.heap.size w wr

set_option maxRecDepth 100000 in
set_option maxHeartbeats 4000000 in
theorem gathered_any (ac : Option Addr) (cc : Nat) (col : List Int) (a : Option Addr) (c : Nat) (l : List Ev) (op : Int) (w : World) (hf : Flat w ac (fl intC col)) (hl : col.length ≤ 140737488351232) (hA : Flat w a (fl evC l)) (hn : l.length * 88 ≤ 140737488351232) (hE : evsOk l) (hb : l.length ≤ 2147483647) :
    Calls Tryd.prog 63 #[.slice ac col.length cc, .slice a l.length c, .int .i64 op] w fun r w' => r = .returned (VA (gatV (plcO col) op l)) ∧ Below w.heap.size w w' := by
  obtain ⟨i0, ti, tz0, tz1, tz2⟩ := nf_info nf_i64
  have B0 := galloc (Below.refl w.heap.size w) (.cells #[.bool false, .int .i64 0] 33)
  have R0 := Two.new w (.bool false) (.int .i64 0) 33
  generalize hx : gatV (plcO col) op l = x
  obtain ⟨zk, zn⟩ := x
  have HX := show Hid (_ = _) from hx
  clear hx
  go_enter Tryd.func63, Tryd.ntmps63
  go_wp2
  generalize w.alloc (.cells #[.bool false, .int .i64 0] 33) = Z at *
  go_loopw [7, 8] (fun v i wr => GatL (plcO col) l w v i wr) (fun _ i _ => l.length - (intOf i).toNat)
  case atStart => exact ⟨⟨0, Nat.zero_le _, rfl, fun j hj => absurd hj (Nat.not_lt_zero _), World.ownsRow_nil _ _ _ _, R0, B0⟩⟩
  case round =>
    clear R0 B0
    obtain ⟨⟨k, hk, rfl, hall, hown, R, G⟩⟩ := hrel
    have zG := G.size
    have zR := R.lt
    by_cases hlt : k < l.length
    · have hki : (k : Int) < (l.length : Int) := by omega
      have hr := says_any ac cc col a c l (k : Int) wr (hf.keep G) hl (hA.keep G) hn
      rw [say_in hlt] at hr
      obtain ⟨⟨xk, xn⟩, hxx⟩ : ∃ x, rdE (plcO col) (l.getD k zeroE) = x := ⟨_, rfl⟩
      rw [hxx] at hr
      have HXX := show Hid (_ = _) from hxx
      have hnl := numK_len (plcO col) l k hk
      clear hxx
      cases xk
      · obtain ⟨rfl, rfl⟩ : zk = false ∧ zn = 0 := Prod.mk.inj (HX.out.symm.trans (gat_no hlt (by rw [HXX.out])))
        go_wp2_with (first
          | (go_at_call 62; (with_reducible refine hr.mono ?_); rintro _ u1 ⟨rfl, g1⟩; have G2 := gtrans G g1; have S0 := (R.keep g1).alloc (.cells #[.bool false, .int .i64 xn] 33); have s0 := S0.at0; have s1 := S0.at1; have sf := S0.free; have G3 := galloc G2 (.cells #[.bool false, .int .i64 xn] 33))
          | (go_at_call 28; (with_reducible refine (refNothing_any _).mono ?_); rintro _ u2 ⟨rfl, g2⟩; have G4 := gtrans G3 g2; have S1 := S0.keep g2; have r0 := S1.at0; have r1 := S1.at1; have rf := S1.free))
        refine bodyPost_ret (v := .agg #[.bool false, .int .i64 0]) (by simp [results, Tryd.results63, go_sem, r0, r1]) rfl ⟨rfl, ?_⟩
        exact gset (gset G4 (by simp) _) (by simp) _
      · go_wp2_with (first
          | (go_at_call 62; (with_reducible refine hr.mono ?_); rintro _ u1 ⟨rfl, g1⟩; have G2 := gtrans G g1; have Ou := (own_keep hown g1).alloc (.cells #[.bool true, .int .i64 xn] 33))
          | (at_builtin; refine wpList_append_own _ rfl (.tmp 24) (.tmp 27) 82 rfl (w.heap.size + 1) 2 i0 (.int .i64 0) 1 8 Tryd.underlying82 ti tz0 tz1 tz2 rfl (by decide) _ _ _ rfl (Ou.alloc _) ⟨u1.heap.size + 1, 0, none⟩ 1 1 [.int .i64 xn] rfl rfl (one_newE (by simp) _ _) (fun u hu => by simp at hu; subst hu; rfl) ?c3 ?c4 ?c5 ?_))
        case c3 => unfold maxLen; omega
        case c4 => omega
        case c5 => have := G2.size; simp; omega
        intro v' w1 hown' hgrow _
        have e := numK_succ (plcO col) l k hlt
        rw [HXX.out] at e
        have hown2 : w1.ownsRow (w.heap.size + 1) 2 1 v' (numK (plcO col) l (k + 1)).length ((numK (plcO col) l (k + 1)).map (Value.int .i64)) := by rw [e]; simpa [hnl] using hown'
        have q := hgrow.block w.heap.size (by have := G2.size; simp; omega) (fun e => by have := (Ou.lt _ e.symm).1; omega)
        have R2 : Two w1 w.heap.size (.bool false) (.int .i64 0) 33 := q.trans (((R.keep g1).alloc (.cells #[.bool true, .int .i64 xn] 33)).alloc _)
        have Gw : Below w.heap.size w w1 := (galloc (galloc G2 (.cells #[.bool true, .int .i64 xn] 33)) _).grown hgrow (by have := G2.size; simp; omega) (fun r e => by have := (Ou.lt _ e).1; omega)
        have hall2 : ∀ j, j < k + 1 → (rdE (plcO col) (l.getD j zeroE)).1 = true := fun j hj => by
          by_cases hjk : j < k
          · exact hall j hjk
          · obtain rfl : j = k := by omega
            rw [HXX.out]
        have fin : GatL (plcO col) l w v' (.int .i64 ((k : Int) + 1)) w1 := ⟨⟨k + 1, by omega, by go_num, hall2, hown2, R2, Gw⟩⟩
        clear hown' hgrow hown2 R2 Gw hall2 q e Ou hown R hall hr
        go_wp2
        go_roundw
        case rel => exact fin
        case measure => simp [intOf]; omega
    · obtain rfl : k = l.length := by omega
      obtain ⟨hzk, hzn⟩ := Prod.mk.inj ((gat_yes hall).symm.trans HX.out)
      have hnl := numK_len (plcO col) l l.length (Nat.le_refl _)
      obtain ⟨ao, cap, rfl, hrow, _, _⟩ := isRow_own hown (numK_fits hE _ _)
      have hfo := Go.Proofs.YtjeffmfnaihhjaaDoor.rf.refFold_any op ao _ cap _ wr hrow (by omega)
      rw [hzk, hzn] at hfo
      generalize (numK (plcO col) l l.length).length = nn at hfo
      clear hall HX hzk hzn hown hnl
      go_wp2_with (first
        | (go_at_call 79; (with_reducible refine hfo.mono ?_); rintro _ u1 ⟨rfl, g1⟩; have G2 := gtrans G g1; have R1 := R.keep g1; obtain ⟨r0, r1⟩ := show _ ∧ _ from ⟨R1.at0, R1.at1⟩; have rf := R1.free))
      refine bodyPost_ret (v := .agg #[.bool zk, .int .i64 zn]) (by simp [results, Tryd.results63, go_sem, r0, r1]) rfl ⟨rfl, ?_⟩
      exact gset (gset G2 (by simp) _) (by simp) _

/-- What an instruction without operands lays down. -/
def laidV (i : Ins) (col : List Int) (E : Envr) : V2 :=
  if i.code = 1 then (true, i.n) else if i.code = 4 then (true, ((lstO E i.item).length : Int)) else menV (plcO col) (opI i.code) E i.item
theorem say_nil (f : Int → Int) (p : Int) : sayV f [] p = noV2 := by
  unfold sayV
  rw [if_pos]
  by_cases h : p < 0
  · exact .inl h
  · exact .inr (by simp; omega)
theorem lst_neg {E : Envr} {i : Int} (h : i < 0) : lstO E i = [] := if_pos (.inl h)

set_option maxRecDepth 100000 in
set_option maxHeartbeats 4000000 in
theorem laid_any (c it co n tz : Int) (h0 : 0 < c) (h9 : c < 10) (E : Envr) (hE : E.ok) (al : Option Addr) (cl : Nat) (ac : Option Addr) (cc : Nat) (col : List Int) (w : World) (hf : Flat w ac (fl intC col)) (hl : col.length ≤ 140737488351232) (N : Nst w al evC E.lists) :
    Calls Tryd.prog 47 #[.agg #[.int .i64 c, .int .i64 it, .int .i64 co, .int .i64 n, .int .i64 tz], .slice ac col.length cc, envA al cl E] w fun r w' => r = .returned (VA (laidV ⟨c, it, co, n, tz⟩ col E)) ∧ Below w.heap.size w w' := by
  obtain ⟨a, cp, L, hc⟩ := refList_any E al cl it w N
  obtain ⟨hok, h88, hbb⟩ := lstO_ok hE it
  have I0 := ((Bk.new w #[.int .i64 c, .int .i64 it, .int .i64 co, .int .i64 n, .int .i64 tz] 43).alloc (.cells #[.slice al E.lists.length cl, .int .i64 E.each, .int .i64 E.at_] 28)).alloc (.cells #[.bool false, .int .i64 0] 33)
  have S0 := (Bk.newE (w := w.alloc (.cells #[.int .i64 c, .int .i64 it, .int .i64 co, .int .i64 n, .int .i64 tz] 43)) (g := w.heap.size + 1) (by simp) #[.slice al E.lists.length cl, .int .i64 E.each, .int .i64 E.at_] 28).alloc (.cells #[.bool false, .int .i64 0] 33)
  have R0 := Bk.newE (w := (w.alloc (.cells #[.int .i64 c, .int .i64 it, .int .i64 co, .int .i64 n, .int .i64 tz] 43)).alloc (.cells #[.slice al E.lists.length cl, .int .i64 E.each, .int .i64 E.at_] 28)) (g := w.heap.size + 2) (by simp) #[.bool false, .int .i64 0] 33
  have B0 := galloc (galloc (galloc (Below.refl w.heap.size w) (.cells #[.int .i64 c, .int .i64 it, .int .i64 co, .int .i64 n, .int .i64 tz] 43)) (.cells #[.slice al E.lists.length cl, .int .i64 E.each, .int .i64 E.at_] 28)) (.cells #[.bool false, .int .i64 0] 33)
  have q4 : ∀ (p : Int) (X : World), Below w.heap.size w X → Calls Tryd.prog 62 #[.slice ac col.length cc, .slice a (lstO E it).length cp, .int .i64 p] X fun r w' => r = .returned (VA (sayV (plcO col) (lstO E it) p)) ∧ Below X.heap.size X w' := fun p X G => says_any ac cc col a cp (lstO E it) p X (hf.keep G) hl (L.fl.keep G) h88
  have q5 : ∀ (op : Int) (X : World), Below w.heap.size w X → Calls Tryd.prog 63 #[.slice ac col.length cc, .slice a (lstO E it).length cp, .int .i64 op] X fun r w' => r = .returned (VA (gatV (plcO col) op (lstO E it))) ∧ Below X.heap.size X w' := fun op X G => gathered_any ac cc col a cp (lstO E it) op X (hf.keep G) hl (L.fl.keep G) h88 hok hbb
  have hn63 : (lstO E it).length ≤ 140737488351232 := by omega
  obtain ⟨x, hx⟩ : ∃ x, laidV ⟨c, it, co, n, tz⟩ col E = x := ⟨_, rfl⟩
  have HX := show Hid (_ = _) from hx
  rw [hx]
  clear hx hok L hf h88 hbb
  go_enter Tryd.func47, Tryd.ntmps47
  go_upto_region 1 with fail
  generalize hV : ((w.alloc (.cells #[.int .i64 c, .int .i64 it, .int .i64 co, .int .i64 n, .int .i64 tz] 43)).alloc (.cells #[.slice al E.lists.length cl, .int .i64 E.each, .int .i64 E.at_] 28)).alloc (.cells #[.bool false, .int .i64 0] 33) = V at *
  clear hV
  obtain ⟨y0, y1, y2, y3, y4⟩ := I0.at5
  obtain ⟨z0, z1, z2⟩ := S0.at3
  cases hg : (it == E.each)
  · have hne : it ≠ E.each := by simpa using hg
    by_cases h1 : c = 1
    · subst h1
      have e1 : x = (true, n) := by rw [← HX.out]; unfold laidV; rw [if_pos rfl]
      have hcc := fun (X : World) (_ : Below w.heap.size w X) => refNumber_any n X
      obtain ⟨xk, xn⟩ := x
      have hcc2 : ∀ X : World, Below w.heap.size w X → Calls Tryd.prog 61 #[.int .i64 n] X fun r w' => r = .returned (.agg #[.bool xk, .int .i64 xn]) ∧ Below X.heap.size X w' := by
        intro X G
        have h := hcc X G
        first | (rw [← e1] at h; exact h) | (obtain ⟨rfl, rfl⟩ := Prod.mk.inj e1; exact h)
      clear e1 HX q4 q5 hcc
      go_wp2_with (first
        | (go_at_call 32; (with_reducible refine (hc _ B0).mono ?_); rintro _ X ⟨rfl, g1⟩; have BX := gtrans B0 g1; have RX := R0.keep g1; obtain ⟨t0, t1, t2, t3, t4⟩ := (I0.keep g1).at5; obtain ⟨s0, s1, s2⟩ := (S0.keep g1).at3)
        | (go_at_call 61; (with_reducible refine (hcc2 _ BX).mono ?_); rintro _ u1 ⟨rfl, g2⟩; have R1 := RX.keep g2; have r0 : u1.cell? ⟨w.heap.size + 1 + 1, 0, none⟩ = _ := R1.at2.1; have r1 : u1.cell? ⟨w.heap.size + 1 + 1, 1, none⟩ = _ := R1.at2.2; have rf : ∀ o, u1.frozen? ⟨w.heap.size + 1 + 1, o, none⟩ = false := R1.free; have BU := gtrans BX g2))
      refine bodyPost_ret (v := .agg #[.bool xk, .int .i64 xn]) (by simp [results, Tryd.results47, go_sem, r0, r1]) rfl ⟨rfl, ?_⟩
      exact gset (gset BU (by simp; omega) _) (by simp; omega) _
    have e1' : (c == 1) = false := beq_eq_false_iff_ne.2 h1
    by_cases h4 : c = 4
    · subst h4
      have e1 : x = (true, ((lstO E it).length : Int)) := by rw [← HX.out]; unfold laidV; dsimp only; rw [if_neg (by decide), if_pos rfl]
      have hcc := fun (X : World) (_ : Below w.heap.size w X) => refNumber_any ((lstO E it).length : Int) X
      obtain ⟨xk, xn⟩ := x
      have hcc2 : ∀ X : World, Below w.heap.size w X → Calls Tryd.prog 61 #[.int .i64 ((lstO E it).length : Int)] X fun r w' => r = .returned (.agg #[.bool xk, .int .i64 xn]) ∧ Below X.heap.size X w' := by
        intro X G
        have h := hcc X G
        first | (rw [← e1] at h; exact h) | (obtain ⟨rfl, rfl⟩ := Prod.mk.inj e1; exact h)
      clear e1 HX q4 q5 hcc
      generalize (lstO E it).length = ln at *
      go_wp2_with (first
        | (go_at_call 32; (with_reducible refine (hc _ B0).mono ?_); rintro _ X ⟨rfl, g1⟩; have BX := gtrans B0 g1; have RX := R0.keep g1; obtain ⟨t0, t1, t2, t3, t4⟩ := (I0.keep g1).at5; obtain ⟨s0, s1, s2⟩ := (S0.keep g1).at3)
        | (go_at_call 61; (with_reducible refine (hcc2 _ BX).mono ?_); rintro _ u1 ⟨rfl, g2⟩; have R1 := RX.keep g2; have r0 : u1.cell? ⟨w.heap.size + 1 + 1, 0, none⟩ = _ := R1.at2.1; have r1 : u1.cell? ⟨w.heap.size + 1 + 1, 1, none⟩ = _ := R1.at2.2; have rf : ∀ o, u1.frozen? ⟨w.heap.size + 1 + 1, o, none⟩ = false := R1.free; have BU := gtrans BX g2))
      refine bodyPost_ret (v := .agg #[.bool xk, .int .i64 xn]) (by simp [results, Tryd.results47, go_sem, r0, r1]) rfl ⟨rfl, ?_⟩
      exact gset (gset BU (by simp; omega) _) (by simp; omega) _
    have e4 : (c == 4) = false := beq_eq_false_iff_ne.2 h4
    by_cases h2 : c = 2
    · subst h2
      have e1 : x = sayV (plcO col) (lstO E it) 0 := by rw [← HX.out]; unfold laidV; dsimp only; rw [if_neg (by decide), if_neg (by decide)]; exact (if_pos rfl).trans (by rw [if_neg hne])
      have hcc := q4 0
      obtain ⟨xk, xn⟩ := x
      have hcc2 : ∀ X : World, Below w.heap.size w X → Calls Tryd.prog 62 #[.slice ac col.length cc, .slice a (lstO E it).length cp, .int .i64 0] X fun r w' => r = .returned (.agg #[.bool xk, .int .i64 xn]) ∧ Below X.heap.size X w' := by
        intro X G
        have h := hcc X G
        first | (rw [← e1] at h; exact h) | (obtain ⟨rfl, rfl⟩ := Prod.mk.inj e1; exact h)
      clear e1 HX q4 q5 hcc
      go_wp2_with (first
        | (go_at_call 32; (with_reducible refine (hc _ B0).mono ?_); rintro _ X ⟨rfl, g1⟩; have BX := gtrans B0 g1; have RX := R0.keep g1; obtain ⟨t0, t1, t2, t3, t4⟩ := (I0.keep g1).at5; obtain ⟨s0, s1, s2⟩ := (S0.keep g1).at3)
        | (go_at_call 62; (with_reducible refine (hcc2 _ BX).mono ?_); rintro _ u1 ⟨rfl, g2⟩; have R1 := RX.keep g2; have r0 : u1.cell? ⟨w.heap.size + 1 + 1, 0, none⟩ = _ := R1.at2.1; have r1 : u1.cell? ⟨w.heap.size + 1 + 1, 1, none⟩ = _ := R1.at2.2; have rf : ∀ o, u1.frozen? ⟨w.heap.size + 1 + 1, o, none⟩ = false := R1.free; have BU := gtrans BX g2))
      refine bodyPost_ret (v := .agg #[.bool xk, .int .i64 xn]) (by simp [results, Tryd.results47, go_sem, r0, r1]) rfl ⟨rfl, ?_⟩
      exact gset (gset BU (by simp; omega) _) (by simp; omega) _
    have e2 : (c == 2) = false := beq_eq_false_iff_ne.2 h2
    by_cases h3 : c = 3
    · subst h3
      have e1 : x = noV2 := by rw [← HX.out]; unfold laidV; dsimp only; rw [if_neg (by decide), if_neg (by decide)]; show menV (plcO col) 11 E it = _; unfold menV; rw [if_neg (by decide), if_pos rfl, if_neg hne]
      have hcc := fun (X : World) (_ : Below w.heap.size w X) => refNothing_any X
      obtain ⟨xk, xn⟩ := x
      have hcc2 : ∀ X : World, Below w.heap.size w X → Calls Tryd.prog 28 #[] X fun r w' => r = .returned (.agg #[.bool xk, .int .i64 xn]) ∧ Below X.heap.size X w' := by
        intro X G
        have h := hcc X G
        first | (rw [← e1] at h; exact h) | (obtain ⟨rfl, rfl⟩ := Prod.mk.inj e1; exact h)
      clear e1 HX q4 q5 hcc
      go_wp2_with (first
        | (go_at_call 32; (with_reducible refine (hc _ B0).mono ?_); rintro _ X ⟨rfl, g1⟩; have BX := gtrans B0 g1; have RX := R0.keep g1; obtain ⟨t0, t1, t2, t3, t4⟩ := (I0.keep g1).at5; obtain ⟨s0, s1, s2⟩ := (S0.keep g1).at3)
        | (go_at_call 28; (with_reducible refine (hcc2 _ BX).mono ?_); rintro _ u1 ⟨rfl, g2⟩; have R1 := RX.keep g2; have r0 : u1.cell? ⟨w.heap.size + 1 + 1, 0, none⟩ = _ := R1.at2.1; have r1 : u1.cell? ⟨w.heap.size + 1 + 1, 1, none⟩ = _ := R1.at2.2; have rf : ∀ o, u1.frozen? ⟨w.heap.size + 1 + 1, o, none⟩ = false := R1.free; have BU := gtrans BX g2))
      refine bodyPost_ret (v := .agg #[.bool xk, .int .i64 xn]) (by simp [results, Tryd.results47, go_sem, r0, r1]) rfl ⟨rfl, ?_⟩
      exact gset (gset BU (by simp; omega) _) (by simp; omega) _
    have e3 : (c == 3) = false := beq_eq_false_iff_ne.2 h3
    have hop : opI c = c - 5 + 6 := by unfold opI; rw [if_neg h2, if_neg h3, if_pos (by omega)]; omega
    have e1 : x = gatV (plcO col) (c - 5 + 6) (lstO E it) := by rw [← HX.out]; unfold laidV; rw [if_neg h1, if_neg h4]; show menV (plcO col) (opI c) E it = _; rw [hop]; unfold menV; rw [if_neg (by omega), if_neg (by omega)]
    have hcc := q5 (c - 5 + 6)
    obtain ⟨xk, xn⟩ := x
    have hcc2 : ∀ X : World, Below w.heap.size w X → Calls Tryd.prog 63 #[.slice ac col.length cc, .slice a (lstO E it).length cp, .int .i64 (c - 5 + 6)] X fun r w' => r = .returned (.agg #[.bool xk, .int .i64 xn]) ∧ Below X.heap.size X w' := by
      intro X G
      have h := hcc X G
      first | (rw [← e1] at h; exact h) | (obtain ⟨rfl, rfl⟩ := Prod.mk.inj e1; exact h)
    clear hop h1 h2 h3 h4 e1 HX q4 q5 hcc
    go_wp2_with (first
      | (go_at_call 32; (with_reducible refine (hc _ B0).mono ?_); rintro _ X ⟨rfl, g1⟩; have BX := gtrans B0 g1; have RX := R0.keep g1; obtain ⟨t0, t1, t2, t3, t4⟩ := (I0.keep g1).at5; obtain ⟨s0, s1, s2⟩ := (S0.keep g1).at3)
      | (go_at_call 63; (with_reducible refine (hcc2 _ BX).mono ?_); rintro _ u1 ⟨rfl, g2⟩; have R1 := RX.keep g2; have r0 : u1.cell? ⟨w.heap.size + 1 + 1, 0, none⟩ = _ := R1.at2.1; have r1 : u1.cell? ⟨w.heap.size + 1 + 1, 1, none⟩ = _ := R1.at2.2; have rf : ∀ o, u1.frozen? ⟨w.heap.size + 1 + 1, o, none⟩ = false := R1.free; have BU := gtrans BX g2))
    refine bodyPost_ret (v := .agg #[.bool xk, .int .i64 xn]) (by simp [results, Tryd.results47, go_sem, r0, r1]) rfl ⟨rfl, ?_⟩
    exact gset (gset BU (by simp; omega) _) (by simp; omega) _
  have hne : it = E.each := by simpa using hg
  by_cases hp : 0 ≤ E.each
  · have HNE := show Hid (_ = _) from hne
    by_cases h1 : c = 1
    · subst h1
      have e1 : x = (true, n) := by rw [← HX.out]; unfold laidV; rw [if_pos rfl]
      have hcc := fun (X : World) (_ : Below w.heap.size w X) => refNumber_any n X
      obtain ⟨xk, xn⟩ := x
      have hcc2 : ∀ X : World, Below w.heap.size w X → Calls Tryd.prog 61 #[.int .i64 n] X fun r w' => r = .returned (.agg #[.bool xk, .int .i64 xn]) ∧ Below X.heap.size X w' := by
        intro X G
        have h := hcc X G
        first | (rw [← e1] at h; exact h) | (obtain ⟨rfl, rfl⟩ := Prod.mk.inj e1; exact h)
      clear hne e1 HX q4 q5 hcc
      go_wp2_with (first
        | (go_at_call 32; (with_reducible refine (hc _ B0).mono ?_); rintro _ X ⟨rfl, g1⟩; have BX := gtrans B0 g1; have RX := R0.keep g1; obtain ⟨t0, t1, t2, t3, t4⟩ := (I0.keep g1).at5; obtain ⟨s0, s1, s2⟩ := (S0.keep g1).at3)
        | (go_at_call 61; (with_reducible refine (hcc2 _ BX).mono ?_); rintro _ u1 ⟨rfl, g2⟩; have R1 := RX.keep g2; have r0 : u1.cell? ⟨w.heap.size + 1 + 1, 0, none⟩ = _ := R1.at2.1; have r1 : u1.cell? ⟨w.heap.size + 1 + 1, 1, none⟩ = _ := R1.at2.2; have rf : ∀ o, u1.frozen? ⟨w.heap.size + 1 + 1, o, none⟩ = false := R1.free; have BU := gtrans BX g2))
      refine bodyPost_ret (v := .agg #[.bool xk, .int .i64 xn]) (by simp [results, Tryd.results47, go_sem, r0, r1]) rfl ⟨rfl, ?_⟩
      exact gset (gset BU (by simp; omega) _) (by simp; omega) _
    have e1' : (c == 1) = false := beq_eq_false_iff_ne.2 h1
    by_cases h4 : c = 4
    · subst h4
      have e1 : x = (true, ((lstO E it).length : Int)) := by rw [← HX.out]; unfold laidV; dsimp only; rw [if_neg (by decide), if_pos rfl]
      have hcc := fun (X : World) (_ : Below w.heap.size w X) => refNumber_any ((lstO E it).length : Int) X
      obtain ⟨xk, xn⟩ := x
      have hcc2 : ∀ X : World, Below w.heap.size w X → Calls Tryd.prog 61 #[.int .i64 ((lstO E it).length : Int)] X fun r w' => r = .returned (.agg #[.bool xk, .int .i64 xn]) ∧ Below X.heap.size X w' := by
        intro X G
        have h := hcc X G
        first | (rw [← e1] at h; exact h) | (obtain ⟨rfl, rfl⟩ := Prod.mk.inj e1; exact h)
      clear hne e1 HX q4 q5 hcc
      generalize (lstO E it).length = ln at *
      go_wp2_with (first
        | (go_at_call 32; (with_reducible refine (hc _ B0).mono ?_); rintro _ X ⟨rfl, g1⟩; have BX := gtrans B0 g1; have RX := R0.keep g1; obtain ⟨t0, t1, t2, t3, t4⟩ := (I0.keep g1).at5; obtain ⟨s0, s1, s2⟩ := (S0.keep g1).at3)
        | (go_at_call 61; (with_reducible refine (hcc2 _ BX).mono ?_); rintro _ u1 ⟨rfl, g2⟩; have R1 := RX.keep g2; have r0 : u1.cell? ⟨w.heap.size + 1 + 1, 0, none⟩ = _ := R1.at2.1; have r1 : u1.cell? ⟨w.heap.size + 1 + 1, 1, none⟩ = _ := R1.at2.2; have rf : ∀ o, u1.frozen? ⟨w.heap.size + 1 + 1, o, none⟩ = false := R1.free; have BU := gtrans BX g2))
      refine bodyPost_ret (v := .agg #[.bool xk, .int .i64 xn]) (by simp [results, Tryd.results47, go_sem, r0, r1]) rfl ⟨rfl, ?_⟩
      exact gset (gset BU (by simp; omega) _) (by simp; omega) _
    have e4 : (c == 4) = false := beq_eq_false_iff_ne.2 h4
    by_cases h2 : c = 2
    · subst h2
      have e1 : x = sayV (plcO col) (lstO E it) E.at_ := by rw [← HX.out]; unfold laidV; dsimp only; rw [if_neg (by decide), if_neg (by decide)]; exact (if_pos rfl).trans (by rw [if_pos hne])
      have hcc := q4 E.at_
      obtain ⟨xk, xn⟩ := x
      have hcc2 : ∀ X : World, Below w.heap.size w X → Calls Tryd.prog 62 #[.slice ac col.length cc, .slice a (lstO E it).length cp, .int .i64 E.at_] X fun r w' => r = .returned (.agg #[.bool xk, .int .i64 xn]) ∧ Below X.heap.size X w' := by
        intro X G
        have h := hcc X G
        first | (rw [← e1] at h; exact h) | (obtain ⟨rfl, rfl⟩ := Prod.mk.inj e1; exact h)
      clear hne e1 HX q4 q5 hcc
      go_wp2_with (first
        | (go_at_call 32; (with_reducible refine (hc _ B0).mono ?_); rintro _ X ⟨rfl, g1⟩; have BX := gtrans B0 g1; have RX := R0.keep g1; obtain ⟨t0, t1, t2, t3, t4⟩ := (I0.keep g1).at5; obtain ⟨s0, s1, s2⟩ := (S0.keep g1).at3)
        | (go_at_call 62; (with_reducible refine (hcc2 _ BX).mono ?_); rintro _ u1 ⟨rfl, g2⟩; have R1 := RX.keep g2; have r0 : u1.cell? ⟨w.heap.size + 1 + 1, 0, none⟩ = _ := R1.at2.1; have r1 : u1.cell? ⟨w.heap.size + 1 + 1, 1, none⟩ = _ := R1.at2.2; have rf : ∀ o, u1.frozen? ⟨w.heap.size + 1 + 1, o, none⟩ = false := R1.free; have BU := gtrans BX g2))
      refine bodyPost_ret (v := .agg #[.bool xk, .int .i64 xn]) (by simp [results, Tryd.results47, go_sem, r0, r1]) rfl ⟨rfl, ?_⟩
      exact gset (gset BU (by simp; omega) _) (by simp; omega) _
    have e2 : (c == 2) = false := beq_eq_false_iff_ne.2 h2
    by_cases h3 : c = 3
    · subst h3
      obtain ⟨pv, hpv⟩ : ∃ pv, IntKind.i64.wrap (E.at_ - 1) = pv := ⟨_, rfl⟩
      have e1 : x = sayV (plcO col) (lstO E it) pv := by rw [← HX.out]; unfold laidV; dsimp only; rw [if_neg (by decide), if_neg (by decide)]; show menV (plcO col) 11 E it = _; unfold menV; rw [if_neg (by decide), if_pos rfl, if_pos hne, hpv]
      have hcc := q4 pv
      obtain ⟨xk, xn⟩ := x
      have hcc2 : ∀ X : World, Below w.heap.size w X → Calls Tryd.prog 62 #[.slice ac col.length cc, .slice a (lstO E it).length cp, .int .i64 pv] X fun r w' => r = .returned (.agg #[.bool xk, .int .i64 xn]) ∧ Below X.heap.size X w' := by
        intro X G
        have h := hcc X G
        first | (rw [← e1] at h; exact h) | (obtain ⟨rfl, rfl⟩ := Prod.mk.inj e1; exact h)
      clear hne e1 HX q4 q5 hcc
      go_wp2_with (first
        | (go_at_call 32; (with_reducible refine (hc _ B0).mono ?_); rintro _ X ⟨rfl, g1⟩; have BX := gtrans B0 g1; have RX := R0.keep g1; obtain ⟨t0, t1, t2, t3, t4⟩ := (I0.keep g1).at5; obtain ⟨s0, s1, s2⟩ := (S0.keep g1).at3)
        | (go_at_call 62; (with_reducible refine (hcc2 _ BX).mono ?_); rintro _ u1 ⟨rfl, g2⟩; have R1 := RX.keep g2; have r0 : u1.cell? ⟨w.heap.size + 1 + 1, 0, none⟩ = _ := R1.at2.1; have r1 : u1.cell? ⟨w.heap.size + 1 + 1, 1, none⟩ = _ := R1.at2.2; have rf : ∀ o, u1.frozen? ⟨w.heap.size + 1 + 1, o, none⟩ = false := R1.free; have BU := gtrans BX g2))
      refine bodyPost_ret (v := .agg #[.bool xk, .int .i64 xn]) (by simp [results, Tryd.results47, go_sem, r0, r1]) rfl ⟨rfl, ?_⟩
      exact gset (gset BU (by simp; omega) _) (by simp; omega) _
    have e3 : (c == 3) = false := beq_eq_false_iff_ne.2 h3
    have hop : opI c = c - 5 + 6 := by unfold opI; rw [if_neg h2, if_neg h3, if_pos (by omega)]; omega
    have e1 : x = gatV (plcO col) (c - 5 + 6) (lstO E it) := by rw [← HX.out]; unfold laidV; rw [if_neg h1, if_neg h4]; show menV (plcO col) (opI c) E it = _; rw [hop]; unfold menV; rw [if_neg (by omega), if_neg (by omega)]
    have hcc := q5 (c - 5 + 6)
    obtain ⟨xk, xn⟩ := x
    have hcc2 : ∀ X : World, Below w.heap.size w X → Calls Tryd.prog 63 #[.slice ac col.length cc, .slice a (lstO E it).length cp, .int .i64 (c - 5 + 6)] X fun r w' => r = .returned (.agg #[.bool xk, .int .i64 xn]) ∧ Below X.heap.size X w' := by
      intro X G
      have h := hcc X G
      first | (rw [← e1] at h; exact h) | (obtain ⟨rfl, rfl⟩ := Prod.mk.inj e1; exact h)
    clear hne hop h1 h2 h3 h4 e1 HX q4 q5 hcc
    go_wp2_with (first
      | (go_at_call 32; (with_reducible refine (hc _ B0).mono ?_); rintro _ X ⟨rfl, g1⟩; have BX := gtrans B0 g1; have RX := R0.keep g1; obtain ⟨t0, t1, t2, t3, t4⟩ := (I0.keep g1).at5; obtain ⟨s0, s1, s2⟩ := (S0.keep g1).at3)
      | (go_at_call 63; (with_reducible refine (hcc2 _ BX).mono ?_); rintro _ u1 ⟨rfl, g2⟩; have R1 := RX.keep g2; have r0 : u1.cell? ⟨w.heap.size + 1 + 1, 0, none⟩ = _ := R1.at2.1; have r1 : u1.cell? ⟨w.heap.size + 1 + 1, 1, none⟩ = _ := R1.at2.2; have rf : ∀ o, u1.frozen? ⟨w.heap.size + 1 + 1, o, none⟩ = false := R1.free; have BU := gtrans BX g2))
    refine bodyPost_ret (v := .agg #[.bool xk, .int .i64 xn]) (by simp [results, Tryd.results47, go_sem, r0, r1]) rfl ⟨rfl, ?_⟩
    exact gset (gset BU (by simp; omega) _) (by simp; omega) _
  have hneg : it < 0 := by omega
  by_cases h1 : c = 1
  · subst h1
    have e1 : x = (true, n) := by rw [← HX.out]; unfold laidV; rw [if_pos rfl]
    have hcc := fun (X : World) (_ : Below w.heap.size w X) => refNumber_any n X
    obtain ⟨xk, xn⟩ := x
    have hcc2 : ∀ X : World, Below w.heap.size w X → Calls Tryd.prog 61 #[.int .i64 n] X fun r w' => r = .returned (.agg #[.bool xk, .int .i64 xn]) ∧ Below X.heap.size X w' := by
      intro X G
      have h := hcc X G
      first | (rw [← e1] at h; exact h) | (obtain ⟨rfl, rfl⟩ := Prod.mk.inj e1; exact h)
    clear hne e1 HX q4 q5 hcc
    go_wp2_with (first
      | (go_at_call 32; (with_reducible refine (hc _ B0).mono ?_); rintro _ X ⟨rfl, g1⟩; have BX := gtrans B0 g1; have RX := R0.keep g1; obtain ⟨t0, t1, t2, t3, t4⟩ := (I0.keep g1).at5; obtain ⟨s0, s1, s2⟩ := (S0.keep g1).at3)
      | (go_at_call 61; (with_reducible refine (hcc2 _ BX).mono ?_); rintro _ u1 ⟨rfl, g2⟩; have R1 := RX.keep g2; have r0 : u1.cell? ⟨w.heap.size + 1 + 1, 0, none⟩ = _ := R1.at2.1; have r1 : u1.cell? ⟨w.heap.size + 1 + 1, 1, none⟩ = _ := R1.at2.2; have rf : ∀ o, u1.frozen? ⟨w.heap.size + 1 + 1, o, none⟩ = false := R1.free; have BU := gtrans BX g2))
    refine bodyPost_ret (v := .agg #[.bool xk, .int .i64 xn]) (by simp [results, Tryd.results47, go_sem, r0, r1]) rfl ⟨rfl, ?_⟩
    exact gset (gset BU (by simp; omega) _) (by simp; omega) _
  have e1' : (c == 1) = false := beq_eq_false_iff_ne.2 h1
  by_cases h4 : c = 4
  · subst h4
    have e1 : x = (true, ((lstO E it).length : Int)) := by rw [← HX.out]; unfold laidV; dsimp only; rw [if_neg (by decide), if_pos rfl]
    have hcc := fun (X : World) (_ : Below w.heap.size w X) => refNumber_any ((lstO E it).length : Int) X
    obtain ⟨xk, xn⟩ := x
    have hcc2 : ∀ X : World, Below w.heap.size w X → Calls Tryd.prog 61 #[.int .i64 ((lstO E it).length : Int)] X fun r w' => r = .returned (.agg #[.bool xk, .int .i64 xn]) ∧ Below X.heap.size X w' := by
      intro X G
      have h := hcc X G
      first | (rw [← e1] at h; exact h) | (obtain ⟨rfl, rfl⟩ := Prod.mk.inj e1; exact h)
    clear hne e1 HX q4 q5 hcc
    generalize (lstO E it).length = ln at *
    go_wp2_with (first
      | (go_at_call 32; (with_reducible refine (hc _ B0).mono ?_); rintro _ X ⟨rfl, g1⟩; have BX := gtrans B0 g1; have RX := R0.keep g1; obtain ⟨t0, t1, t2, t3, t4⟩ := (I0.keep g1).at5; obtain ⟨s0, s1, s2⟩ := (S0.keep g1).at3)
      | (go_at_call 61; (with_reducible refine (hcc2 _ BX).mono ?_); rintro _ u1 ⟨rfl, g2⟩; have R1 := RX.keep g2; have r0 : u1.cell? ⟨w.heap.size + 1 + 1, 0, none⟩ = _ := R1.at2.1; have r1 : u1.cell? ⟨w.heap.size + 1 + 1, 1, none⟩ = _ := R1.at2.2; have rf : ∀ o, u1.frozen? ⟨w.heap.size + 1 + 1, o, none⟩ = false := R1.free; have BU := gtrans BX g2))
    refine bodyPost_ret (v := .agg #[.bool xk, .int .i64 xn]) (by simp [results, Tryd.results47, go_sem, r0, r1]) rfl ⟨rfl, ?_⟩
    exact gset (gset BU (by simp; omega) _) (by simp; omega) _
  have e4 : (c == 4) = false := beq_eq_false_iff_ne.2 h4
  by_cases h2 : c = 2
  · subst h2
    have e1 : x = sayV (plcO col) (lstO E it) 0 := by rw [← HX.out]; unfold laidV; dsimp only; rw [if_neg (by decide), if_neg (by decide)]; exact (if_pos rfl).trans (by rw [lst_neg hneg, say_nil, say_nil])
    have hcc := q4 0
    obtain ⟨xk, xn⟩ := x
    have hcc2 : ∀ X : World, Below w.heap.size w X → Calls Tryd.prog 62 #[.slice ac col.length cc, .slice a (lstO E it).length cp, .int .i64 0] X fun r w' => r = .returned (.agg #[.bool xk, .int .i64 xn]) ∧ Below X.heap.size X w' := by
      intro X G
      have h := hcc X G
      first | (rw [← e1] at h; exact h) | (obtain ⟨rfl, rfl⟩ := Prod.mk.inj e1; exact h)
    clear hne e1 HX q4 q5 hcc
    go_wp2_with (first
      | (go_at_call 32; (with_reducible refine (hc _ B0).mono ?_); rintro _ X ⟨rfl, g1⟩; have BX := gtrans B0 g1; have RX := R0.keep g1; obtain ⟨t0, t1, t2, t3, t4⟩ := (I0.keep g1).at5; obtain ⟨s0, s1, s2⟩ := (S0.keep g1).at3)
      | (go_at_call 62; (with_reducible refine (hcc2 _ BX).mono ?_); rintro _ u1 ⟨rfl, g2⟩; have R1 := RX.keep g2; have r0 : u1.cell? ⟨w.heap.size + 1 + 1, 0, none⟩ = _ := R1.at2.1; have r1 : u1.cell? ⟨w.heap.size + 1 + 1, 1, none⟩ = _ := R1.at2.2; have rf : ∀ o, u1.frozen? ⟨w.heap.size + 1 + 1, o, none⟩ = false := R1.free; have BU := gtrans BX g2))
    refine bodyPost_ret (v := .agg #[.bool xk, .int .i64 xn]) (by simp [results, Tryd.results47, go_sem, r0, r1]) rfl ⟨rfl, ?_⟩
    exact gset (gset BU (by simp; omega) _) (by simp; omega) _
  have e2 : (c == 2) = false := beq_eq_false_iff_ne.2 h2
  by_cases h3 : c = 3
  · subst h3
    have e1 : x = noV2 := by rw [← HX.out]; unfold laidV; dsimp only; rw [if_neg (by decide), if_neg (by decide)]; show menV (plcO col) 11 E it = _; unfold menV; rw [if_neg (by decide), if_pos rfl, if_pos hne, lst_neg hneg, say_nil]
    have hcc := fun (X : World) (_ : Below w.heap.size w X) => refNothing_any X
    obtain ⟨xk, xn⟩ := x
    have hcc2 : ∀ X : World, Below w.heap.size w X → Calls Tryd.prog 28 #[] X fun r w' => r = .returned (.agg #[.bool xk, .int .i64 xn]) ∧ Below X.heap.size X w' := by
      intro X G
      have h := hcc X G
      first | (rw [← e1] at h; exact h) | (obtain ⟨rfl, rfl⟩ := Prod.mk.inj e1; exact h)
    clear hne e1 HX q4 q5 hcc
    go_wp2_with (first
      | (go_at_call 32; (with_reducible refine (hc _ B0).mono ?_); rintro _ X ⟨rfl, g1⟩; have BX := gtrans B0 g1; have RX := R0.keep g1; obtain ⟨t0, t1, t2, t3, t4⟩ := (I0.keep g1).at5; obtain ⟨s0, s1, s2⟩ := (S0.keep g1).at3)
      | (go_at_call 28; (with_reducible refine (hcc2 _ BX).mono ?_); rintro _ u1 ⟨rfl, g2⟩; have R1 := RX.keep g2; have r0 : u1.cell? ⟨w.heap.size + 1 + 1, 0, none⟩ = _ := R1.at2.1; have r1 : u1.cell? ⟨w.heap.size + 1 + 1, 1, none⟩ = _ := R1.at2.2; have rf : ∀ o, u1.frozen? ⟨w.heap.size + 1 + 1, o, none⟩ = false := R1.free; have BU := gtrans BX g2))
    refine bodyPost_ret (v := .agg #[.bool xk, .int .i64 xn]) (by simp [results, Tryd.results47, go_sem, r0, r1]) rfl ⟨rfl, ?_⟩
    exact gset (gset BU (by simp; omega) _) (by simp; omega) _
  have e3 : (c == 3) = false := beq_eq_false_iff_ne.2 h3
  have hop : opI c = c - 5 + 6 := by unfold opI; rw [if_neg h2, if_neg h3, if_pos (by omega)]; omega
  have e1 : x = gatV (plcO col) (c - 5 + 6) (lstO E it) := by rw [← HX.out]; unfold laidV; rw [if_neg h1, if_neg h4]; show menV (plcO col) (opI c) E it = _; rw [hop]; unfold menV; rw [if_neg (by omega), if_neg (by omega)]
  have hcc := q5 (c - 5 + 6)
  obtain ⟨xk, xn⟩ := x
  have hcc2 : ∀ X : World, Below w.heap.size w X → Calls Tryd.prog 63 #[.slice ac col.length cc, .slice a (lstO E it).length cp, .int .i64 (c - 5 + 6)] X fun r w' => r = .returned (.agg #[.bool xk, .int .i64 xn]) ∧ Below X.heap.size X w' := by
    intro X G
    have h := hcc X G
    first | (rw [← e1] at h; exact h) | (obtain ⟨rfl, rfl⟩ := Prod.mk.inj e1; exact h)
  clear hne hop h1 h2 h3 h4 e1 HX q4 q5 hcc
  go_wp2_with (first
    | (go_at_call 32; (with_reducible refine (hc _ B0).mono ?_); rintro _ X ⟨rfl, g1⟩; have BX := gtrans B0 g1; have RX := R0.keep g1; obtain ⟨t0, t1, t2, t3, t4⟩ := (I0.keep g1).at5; obtain ⟨s0, s1, s2⟩ := (S0.keep g1).at3)
    | (go_at_call 63; (with_reducible refine (hcc2 _ BX).mono ?_); rintro _ u1 ⟨rfl, g2⟩; have R1 := RX.keep g2; have r0 : u1.cell? ⟨w.heap.size + 1 + 1, 0, none⟩ = _ := R1.at2.1; have r1 : u1.cell? ⟨w.heap.size + 1 + 1, 1, none⟩ = _ := R1.at2.2; have rf : ∀ o, u1.frozen? ⟨w.heap.size + 1 + 1, o, none⟩ = false := R1.free; have BU := gtrans BX g2))
  refine bodyPost_ret (v := .agg #[.bool xk, .int .i64 xn]) (by simp [results, Tryd.results47, go_sem, r0, r1]) rfl ⟨rfl, ?_⟩
  exact gset (gset BU (by simp; omega) _) (by simp; omega) _

end Go.Proofs.YtjeffmfnaihhjaaDoor
