/- The rules of check on items, the window, the nodes of WHERE and of the results. The rules of check on the nodes of WHERE, on the results, on the partition. The rule of check on conjuncts: mixes, conjuncts. -/
import Derived.Test.YtlejhococjlijaaGreatDoorCkd
import Derived.Deep.RegionHeld3
namespace Go.Proofs.YtlejhococjlijaaGreatDoor
open Go.RowKit Go.BigFrame
set_option linter.unusedVariables false
set_option linter.unusedSimpArgs false

theorem MpAt.look1 {w : World} {b n : Nat} {M : ByteArray → Option Int} (h : MpAt w b n M) (s : ByteArray) (hs : s.size ≤ 140737488351232) : (Instr.lookup 68 (.map (some b)) (.string s) false).run Tryz.prog w = .ok (.int .i64 ((M s).getD 0)) w := by
  obtain ⟨D, h1, h2⟩ := h.ex
  obtain ⟨c, hrun, hat, _⟩ := h1.lookup_int (Maps.string_keyed Tryz.underlying9) Tryz.underlying68 Tryz.underlying3 (by kernel_rfl) (str_key hs)
  obtain ⟨_, e2⟩ := h2 s hs
  rw [e2] at hat
  simp only [DataW.lit.injEq, Lit.int.injEq, true_and] at hat
  rw [hrun, ← hat]
theorem range_getD (n k : Nat) (h : k < n) : (List.range n).getD k 0 = k := by
  rw [List.getD_eq_getElem?_getD, List.getElem?_range h]; rfl
def negT (L : List Ty) (t : ByteArray) : Bool := decide (typeI L t < 0)

set_option maxRecDepth 100000 in
set_option maxHeartbeats 16000000 in
theorem item_any (L : List Ty) (its : List It) (hn : its.length * 64 ≤ 140737488351232) (hits : ∀ k, (its.getD k noIt).fit) (M : ByteArray → Option Int) (hM : MapsIn M its.length) (sa : Option Addr) (sn sc : Nat) (ai : Option Addr) (ci : Nat) (mode after : Int) (aw : Option Addr) (wl cw : Nat) (within : Int) (by_ : ByteArray) (ar : Option Addr) (rl cr bm nm : Nat) (num : Nat) (hnum : num < its.length) (i : It) (hfi : i.fit) (ia : Option Addr) (ic : Nat) (w : World) (A : IsTypes w sa sn L) (AS : IsSs w ia i.ty) (SI : Sl ia i.ty.length ic) (MP : MpAt w bm nm M) :
    Calls Tryz.prog 50 #[.agg #[.slice sa sn sc, .slice ai its.length ci, .int .i64 mode, .int .i64 after, .slice aw wl cw, .int .i64 within, .string by_, .slice ar rl cr, .map (some bm)], .int .i64 (num : Int), itA i ia ic] w fun e w' => e = .returned (.int .i64 (itmE L M num i)) ∧ Below w.heap.size w w' := by
  have hl := hfi.n
  have hvs := hfi.v
  have hic := SI.1
  have C0 := (Bk.new w #[.slice sa sn sc, .slice ai its.length ci, .int .i64 mode, .int .i64 after, .slice aw wl cw, .int .i64 within, .string by_, .slice ar rl cr, .map (some bm)] 71).alloc (.cells #[.bool i.neg, .slice ia i.ty.length ic, .string i.v, .int .i64 i.lo, .int .i64 i.hi] 61)
  have I0 := Bk.newE (w := w.alloc (.cells #[.slice sa sn sc, .slice ai its.length ci, .int .i64 mode, .int .i64 after, .slice aw wl cw, .int .i64 within, .string by_, .slice ar rl cr, .map (some bm)] 71)) (g := w.heap.size + 1) (by simp) #[.bool i.neg, .slice ia i.ty.length ic, .string i.v, .int .i64 i.lo, .int .i64 i.hi] 61
  have B0 := galloc (galloc (Below.refl w.heap.size w) (.cells #[.slice sa sn sc, .slice ai its.length ci, .int .i64 mode, .int .i64 after, .slice aw wl cw, .int .i64 within, .string by_, .slice ar rl cr, .map (some bm)] 71)) (.cells #[.bool i.neg, .slice ia i.ty.length ic, .string i.v, .int .i64 i.lo, .int .i64 i.hi] 61)
  obtain ⟨r, hrr⟩ : ∃ r, itmE L M num i = r := ⟨_, rfl⟩
  rw [hrr]
  have HR : Hid ((if i.ty.any (negT L) = true then 61 else if (List.range i.ty.length).any (fun k => hasN (i.ty.take k) (i.ty.getD k eS)) = true then 62 else if i.lo < 1 ∨ i.hi < i.lo ∨ 4 < i.hi then 63 else if (M i.v).getD 0 ≠ (num : Int) then 64 else 0) = r) := hrr
  clear hrr
  obtain ⟨neg, ty, v, lo, hi⟩ := i
  dsimp only [itA] at *
  go_enter Tryz.func50, Tryz.ntmps50
  go_wp2
  generalize (w.alloc (.cells #[.slice sa sn sc, .slice ai its.length ci, .int .i64 mode, .int .i64 after, .slice aw wl cw, .int .i64 within, .string by_, .slice ar rl cr, .map (some bm)] 71)).alloc (.cells #[.bool neg, .slice ia ty.length ic, .string v, .int .i64 lo, .int .i64 hi] 61) = V at *
  have AV := A.keep B0
  have AS0 := AS.keep B0
  have MP0 := MP.keep B0
  go_loopw [8, 14] (fun _ x wr => (∃ k : Nat, k ≤ ty.length ∧ x = .int .i64 k ∧ ty.any (negT L) = (ty.drop k).any (negT L)) ∧ Below V.heap.size V wr) (fun _ x _ => ty.length - (intOf x).toNat)
  case atStart => exact ⟨⟨0, Nat.zero_le _, rfl, rfl⟩, Below.refl _ _⟩
  case round =>
    obtain ⟨⟨k, hk, rfl, hd⟩, G⟩ := hrel
    obtain ⟨q0, q1, q2, q3, q4, q5, q6, q7, q8⟩ := (C0.keep G).at9
    obtain ⟨i0, i1, i2, i3, i4⟩ := (I0.keep G).at5
    by_cases hlt : k < ty.length
    · have hki : (k : Int) < (ty.length : Int) := by omega
      rw [any_drop (negT L) ty eS hlt] at hd
      obtain ⟨g, o, rfl, a0⟩ := (AS0.keep G) k hlt
      have cN := typeOf_any sa sn sc L (ty.getD k eS) wr (AV.keep G)
      have hyb : negT L (ty.getD k eS) = decide (typeI L (ty.getD k eS) < 0) := rfl
      rw [hyb] at hd
      clear hyb
      generalize ty.getD k eS = y at *
      generalize typeI L y = ti at *
      by_cases ht : ti < 0
      · rw [decide_eq_true ht, Bool.true_or] at hd
        have e : (61 : Int) = r := by rw [← HR.out, if_pos hd]
        subst e
        clear HR hd
        go_wp2_with (go_at_call 73; (with_reducible refine cN.mono ?_); rintro _ u ⟨rfl, gu⟩)
        go_ret
        exact ⟨rfl, gtrans (gtrans B0 G) gu⟩
      · rw [decide_eq_false ht, Bool.false_or] at hd
        have HD := show Hid (_ = _) from hd
        clear hd
        go_wp2_with (go_at_call 73; (with_reducible refine cN.mono ?_); rintro _ u ⟨rfl, gu⟩)
        go_roundw
        case rel => exact ⟨⟨k + 1, by omega, by go_num, HD.out⟩, gtrans G gu⟩
        case measure => simp [intOf]; omega
    · have hki : ¬ (k : Int) < (ty.length : Int) := by omega
      rw [any_end (negT L) ty hlt] at hd
      have HR1 : Hid ((if (List.range ty.length).any (fun k => hasN (ty.take k) (ty.getD k eS)) = true then 62 else if lo < 1 ∨ hi < lo ∨ 4 < hi then 63 else if (M v).getD 0 ≠ (num : Int) then 64 else 0) = r) := by
        show _ = _
        exact (if_neg (by rw [hd]; simp)).symm.trans HR.out
      clear HR hd
      obtain ⟨V1, hV1⟩ : ∃ V1, V1 = wr := ⟨_, rfl⟩
      subst hV1
      go_wp2
      go_loopw [9, 10, 27] (fun _ _ x wr => (∃ k : Nat, k ≤ ty.length ∧ x = .int .i64 k ∧ (List.range ty.length).any (fun k => hasN (ty.take k) (ty.getD k eS)) = ((List.range ty.length).drop k).any (fun k => hasN (ty.take k) (ty.getD k eS))) ∧ Below V1.heap.size V1 wr) (fun _ _ x _ => ty.length - (intOf x).toNat)
      case atStart => exact ⟨⟨0, Nat.zero_le _, rfl, rfl⟩, Below.refl _ _⟩
      case round =>
        clear q0 q1 q2 q3 q4 q5 q6 q7 q8 i0 i1 i2 i3 i4 hki hlt hk
        obtain ⟨⟨k, hk, rfl, hd⟩, G1⟩ := hrel
        have GG := gtrans G G1
        obtain ⟨q0, q1, q2, q3, q4, q5, q6, q7, q8⟩ := (C0.keep GG).at9
        obtain ⟨i0, i1, i2, i3, i4⟩ := (I0.keep GG).at5
        by_cases hlt : k < ty.length
        · have hki : (k : Int) < (ty.length : Int) := by omega
          have hcp : (k : Int) ≤ (ic : Int) := by omega
          rw [any_drop _ (List.range ty.length) 0 (by simpa using hlt), range_getD _ _ hlt] at hd
          obtain ⟨g, o, rfl, a0⟩ := (AS0.keep GG) k hlt
          have cN := contains_any (some ⟨g, o, none⟩) k ic (ty.take k) (ty.getD k eS) wr ((ss_strs (AS0.keep GG) (by omega)).take k (by omega))
          generalize hasN (ty.take k) (ty.getD k eS) = b at *
          generalize ty.getD k eS = y at *
          cases b
          · rw [Bool.false_or] at hd
            have HD := show Hid (_ = _) from hd
            clear hd
            go_wp2_with (go_at_call 74; (with_reducible refine cN.mono ?_); rintro _ _ ⟨rfl, rfl⟩)
            go_roundw
            case rel => exact ⟨⟨k + 1, by omega, by go_num, HD.out⟩, G1⟩
            case measure => simp [intOf]; omega
          · rw [Bool.true_or] at hd
            have e : (62 : Int) = r := by rw [← HR1.out, if_pos hd]
            subst e
            clear HR1 hd
            go_wp2_with (go_at_call 74; (with_reducible refine cN.mono ?_); rintro _ _ ⟨rfl, rfl⟩)
            go_ret
            exact ⟨rfl, gtrans B0 GG⟩
        · have hki : ¬ (k : Int) < (ty.length : Int) := by omega
          rw [any_end _ (List.range ty.length) (by simpa using hlt)] at hd
          have HR2 : Hid ((if lo < 1 ∨ hi < lo ∨ 4 < hi then 63 else if (M v).getD 0 ≠ (num : Int) then 64 else 0) = r) := by
            show _ = _
            exact (if_neg (by rw [hd]; simp)).symm.trans HR1.out
          clear HR1 hd
          have lk := (MP0.keep GG).look1 v hvs
          have BG := gtrans B0 GG
          by_cases h1 : lo < 1
          · have e : (63 : Int) = r := by rw [← HR2.out, if_pos (.inl h1)]
            subst e
            clear HR2
            go_wp2
            go_ret
            exact ⟨rfl, BG⟩
          have d1 := decide_eq_false h1
          by_cases h2 : hi < lo
          · have e : (63 : Int) = r := by rw [← HR2.out, if_pos (.inr (.inl h2))]
            subst e
            clear HR2
            go_wp2
            go_ret
            exact ⟨rfl, BG⟩
          have d2 := decide_eq_false h2
          by_cases h3 : 4 < hi
          · have e : (63 : Int) = r := by rw [← HR2.out, if_pos (.inr (.inr h3))]
            subst e
            clear HR2
            go_wp2
            go_ret
            exact ⟨rfl, BG⟩
          have d3 := decide_eq_false h3
          rw [show (if lo < 1 ∨ hi < lo ∨ 4 < hi then (63 : Int) else if (M v).getD 0 ≠ (num : Int) then 64 else 0) = if (M v).getD 0 ≠ (num : Int) then 64 else 0 from if_neg (by omega)] at HR2
          generalize (M v).getD 0 = mv at *
          by_cases h4 : mv = (num : Int)
          · have e : (0 : Int) = r := by rw [← HR2.out, if_neg (fun h => h h4)]
            subst e
            have d4 : (mv != (num : Int)) = false := by simpa using h4
            clear HR2 h4
            go_wp2
            go_ret
            exact ⟨rfl, BG⟩
          · have e : (64 : Int) = r := by rw [← HR2.out, if_pos h4]
            subst e
            have d4 : (mv != (num : Int)) = true := by simpa using h4
            clear HR2 h4
            go_wp2
            go_ret
            exact ⟨rfl, BG⟩

/-- The first item that is wrong. -/
def eiE (L : List Ty) (its : List It) (M : ByteArray → Option Int) : Fl := match firstAt (fun k => itmE L M k (its.getD k noIt)) its.length 0 with
  | some k => ⟨itmE L M k (its.getD k noIt), 1, (k : Int), 0⟩
  | none => noFl
def acE (its : List It) : Fl := if its.all (fun i => i.neg) = true then ⟨65, 1, 0, 0⟩ else noFl
def wdE (within : Int) : Fl := if 1099511627776 < within then ⟨66, 2, 0, 0⟩ else noFl
def wrE (f : Nat → Int) (t : List Nd) : Fl := if (walkE f t true).2 = 0 then noFl else ⟨(walkE f t true).2, 4, ((walkE f t true).1 : Int), 0⟩
abbrev flV (f : Fl) : Value := .agg #[.int .i64 f.code, .int .i64 f.part, .int .i64 f.idx, .int .i64 f.sub]
set_option maxRecDepth 100000 in
set_option maxHeartbeats 8000000 in
theorem eachItem_any (L : List Ty) (its : List It) (hn : its.length * 64 ≤ 140737488351232) (hits : ∀ k, (its.getD k noIt).fit) (M : ByteArray → Option Int) (hM : MapsIn M its.length) (sa : Option Addr) (sn sc : Nat) (ai : Option Addr) (ci : Nat) (mode after : Int) (aw : Option Addr) (wl cw : Nat) (within : Int) (by_ : ByteArray) (ar : Option Addr) (rl cr bm nm : Nat) (w : World) (A : IsTypes w sa sn L) (AI : IsIts w ai its) (MP : MpAt w bm nm M) :
    Calls Tryz.prog 28 #[.agg #[.slice sa sn sc, .slice ai its.length ci, .int .i64 mode, .int .i64 after, .slice aw wl cw, .int .i64 within, .string by_, .slice ar rl cr, .map (some bm)]] w fun e w' => e = .returned (flV (eiE L its M)) ∧ Below w.heap.size w w' := by
  have C0 := (Bk.new w #[.slice sa sn sc, .slice ai its.length ci, .int .i64 mode, .int .i64 after, .slice aw wl cw, .int .i64 within, .string by_, .slice ar rl cr, .map (some bm)] 71).alloc (.cells #[.int .i64 0, .int .i64 0, .int .i64 0, .int .i64 0] 45)
  have F0 := Bk.newE (w := w.alloc (.cells #[.slice sa sn sc, .slice ai its.length ci, .int .i64 mode, .int .i64 after, .slice aw wl cw, .int .i64 within, .string by_, .slice ar rl cr, .map (some bm)] 71)) (g := w.heap.size + 1) (by simp) #[.int .i64 0, .int .i64 0, .int .i64 0, .int .i64 0] 45
  have B0 := galloc (galloc (Below.refl w.heap.size w) (.cells #[.slice sa sn sc, .slice ai its.length ci, .int .i64 mode, .int .i64 after, .slice aw wl cw, .int .i64 within, .string by_, .slice ar rl cr, .map (some bm)] 71)) (.cells #[.int .i64 0, .int .i64 0, .int .i64 0, .int .i64 0] 45)
  obtain ⟨r, hrr⟩ : ∃ r, eiE L its M = r := ⟨_, rfl⟩
  rw [hrr]
  have HR := show Hid (_ = _) from hrr
  clear hrr
  go_enter Tryz.func28, Tryz.ntmps28
  go_wp2
  generalize (w.alloc (.cells #[.slice sa sn sc, .slice ai its.length ci, .int .i64 mode, .int .i64 after, .slice aw wl cw, .int .i64 within, .string by_, .slice ar rl cr, .map (some bm)] 71)).alloc (.cells #[.int .i64 0, .int .i64 0, .int .i64 0, .int .i64 0] 45) = V at *
  go_loopw [3, 4, 5, 10] (fun _ _ _ x wr => (∃ k : Nat, k ≤ its.length ∧ x = .int .i64 k ∧ firstAt (fun k => itmE L M k (its.getD k noIt)) its.length 0 = firstAt (fun k => itmE L M k (its.getD k noIt)) its.length k) ∧ Below V.heap.size V wr) (fun _ _ _ x _ => its.length - (intOf x).toNat)
  case atStart => exact ⟨⟨0, Nat.zero_le _, rfl, rfl⟩, Below.refl _ _⟩
  case round =>
    obtain ⟨⟨k, hk, rfl, hd⟩, G⟩ := hrel
    have FW := F0.keep G
    obtain ⟨f0, f1, f2, f3⟩ := FW.at4
    have ff := FW.free
    by_cases hlt : k < its.length
    · have hki : (k : Int) < (its.length : Int) := by omega
      obtain ⟨g, o, rfl, ia, ic, i0, i1, i2, i3, i4, is', sl'⟩ := ((AI.keep B0).keep G) k hlt
      have GA := galloc G (.cells #[.bool (its.getD k noIt).neg, .slice ia (its.getD k noIt).ty.length ic, .string (its.getD k noIt).v, .int .i64 (its.getD k noIt).lo, .int .i64 (its.getD k noIt).hi] 61)
      have gA := galloc (Below.refl wr.heap.size wr) (.cells #[.bool (its.getD k noIt).neg, .slice ia (its.getD k noIt).ty.length ic, .string (its.getD k noIt).v, .int .i64 (its.getD k noIt).lo, .int .i64 (its.getD k noIt).hi] 61)
      obtain ⟨q0, q1, q2, q3, q4, q5, q6, q7, q8⟩ := (C0.keep GA).at9
      have FA := F0.keep GA
      have cN := item_any L its hn hits M hM sa sn sc (some ⟨g, o, none⟩) ci mode after aw wl cw within by_ ar rl cr bm nm k hlt (its.getD k noIt) (hits k) ia ic _ (A.keep (gtrans B0 GA)) (is'.keep gA) sl' (MP.keep (gtrans B0 GA))
      by_cases hz : itmE L M k (its.getD k noIt) = 0
      · rw [firstAt_go hlt hz] at hd
        rw [hz] at cN
        have HD := show Hid (_ = _) from hd
        clear hd hz
        generalize its.getD k noIt = it at *
        obtain ⟨ineg, ity, iv, ilo, ihi⟩ := it
        dsimp only [itA] at *
        go_wp2_with (go_at_call 50; (with_reducible refine cN.mono ?_); rintro _ u ⟨rfl, gu⟩)
        go_roundw
        case rel => exact ⟨⟨k + 1, by omega, by go_num, HD.out⟩, gtrans GA gu⟩
        case measure => simp [intOf]; omega
      · rw [firstAt_hit hlt hz] at hd
        obtain ⟨z, hzz⟩ : ∃ z, itmE L M k (its.getD k noIt) = z := ⟨_, rfl⟩
        have e : (⟨z, 1, (k : Int), 0⟩ : Fl) = r := by rw [← HR.out]; unfold eiE; rw [hd]; dsimp only; rw [hzz]
        subst e
        rw [hzz] at cN hz
        have d : (z != 0) = true := by simpa using hz
        clear hd hz hzz HR
        generalize its.getD k noIt = it at *
        obtain ⟨ineg, ity, iv, ilo, ihi⟩ := it
        dsimp only [itA] at *
        go_wp2_with (go_at_call 50; (with_reducible refine cN.mono ?_); rintro _ u ⟨rfl, gu⟩; have FU := FA.keep gu; obtain ⟨g0, g1, g2, g3⟩ := FU.at4; have gf := FU.free)
        refine bodyPost_ret (v := .agg #[.int .i64 z, .int .i64 1, .int .i64 (k : Int), .int .i64 0]) (by simp [results, Tryz.results28, go_sem, g0, g1, g2, g3]) rfl ⟨rfl, ?_⟩
        exact gset (gset (gset (gset (gtrans (gtrans B0 GA) gu) (by simp) _) (by simp) _) (by simp) _) (by simp) _
    · have hki : ¬ (k : Int) < (its.length : Int) := by omega
      rw [firstAt_end hlt] at hd
      have e : noFl = r := by rw [← HR.out]; unfold eiE; rw [hd]
      subst e
      clear hd HR
      go_wp2
      refine bodyPost_ret (v := .agg #[.int .i64 0, .int .i64 0, .int .i64 0, .int .i64 0]) (by simp [results, Tryz.results28, go_sem, f0, f1, f2, f3]) rfl ⟨rfl, ?_⟩
      exact gset (gset (gset (gset (gtrans B0 G) (by simp) _) (by simp) _) (by simp) _) (by simp) _
set_option maxRecDepth 100000 in
set_option maxHeartbeats 8000000 in
theorem anyComp_any (L : List Ty) (its : List It) (hn : its.length * 64 ≤ 140737488351232) (hits : ∀ k, (its.getD k noIt).fit) (M : ByteArray → Option Int) (hM : MapsIn M its.length) (sa : Option Addr) (sn sc : Nat) (ai : Option Addr) (ci : Nat) (mode after : Int) (aw : Option Addr) (wl cw : Nat) (within : Int) (by_ : ByteArray) (ar : Option Addr) (rl cr bm nm : Nat) (w : World) (AI : IsIts w ai its) :
    Calls Tryz.prog 29 #[.agg #[.slice sa sn sc, .slice ai its.length ci, .int .i64 mode, .int .i64 after, .slice aw wl cw, .int .i64 within, .string by_, .slice ar rl cr, .map (some bm)]] w fun e w' => e = .returned (flV (acE its)) ∧ Below w.heap.size w w' := by
  have F0 := Bk.newE (w := w.alloc (.cells #[.slice sa sn sc, .slice ai its.length ci, .int .i64 mode, .int .i64 after, .slice aw wl cw, .int .i64 within, .string by_, .slice ar rl cr, .map (some bm)] 71)) (g := w.heap.size + 1) (by simp) #[.int .i64 0, .int .i64 0, .int .i64 0, .int .i64 0] 45
  have B0 := galloc (galloc (Below.refl w.heap.size w) (.cells #[.slice sa sn sc, .slice ai its.length ci, .int .i64 mode, .int .i64 after, .slice aw wl cw, .int .i64 within, .string by_, .slice ar rl cr, .map (some bm)] 71)) (.cells #[.int .i64 0, .int .i64 0, .int .i64 0, .int .i64 0] 45)
  obtain ⟨r, hrr⟩ : ∃ r, acE its = r := ⟨_, rfl⟩
  rw [hrr]
  have HR := show Hid (_ = _) from hrr
  clear hrr
  go_enter Tryz.func29, Tryz.ntmps29
  go_wp2
  generalize (w.alloc (.cells #[.slice sa sn sc, .slice ai its.length ci, .int .i64 mode, .int .i64 after, .slice aw wl cw, .int .i64 within, .string by_, .slice ar rl cr, .map (some bm)] 71)).alloc (.cells #[.int .i64 0, .int .i64 0, .int .i64 0, .int .i64 0] 45) = V at *
  go_loopw [4, 9] (fun _ x wr => (∃ k : Nat, k ≤ its.length ∧ x = .int .i64 k ∧ its.all (fun i => i.neg) = (its.drop k).all (fun i => i.neg)) ∧ Below V.heap.size V wr) (fun _ x _ => its.length - (intOf x).toNat)
  case atStart => exact ⟨⟨0, Nat.zero_le _, rfl, rfl⟩, Below.refl _ _⟩
  case round =>
    obtain ⟨⟨k, hk, rfl, hd⟩, G⟩ := hrel
    have FW := F0.keep G
    obtain ⟨f0, f1, f2, f3⟩ := FW.at4
    have ff := FW.free
    by_cases hlt : k < its.length
    · have hki : (k : Int) < (its.length : Int) := by omega
      rw [all_drop _ its noIt hlt] at hd
      obtain ⟨g, o, rfl, ia, ic, i0, i1, i2, i3, i4, is', sl'⟩ := ((AI.keep B0).keep G) k hlt
      generalize its.getD k noIt = it at *
      obtain ⟨ineg, ity, iv, ilo, ihi⟩ := it
      dsimp only at *
      have GA := galloc G (.cells #[.bool ineg, .slice ia ity.length ic, .string iv, .int .i64 ilo, .int .i64 ihi] 61)
      have FA := F0.keep GA
      obtain ⟨g0, g1, g2, g3⟩ := FA.at4
      have gf := FA.free
      cases ineg
      · rw [Bool.false_and] at hd
        have e : noFl = r := by rw [← HR.out]; unfold acE; rw [hd]; rfl
        subst e
        clear hd HR
        go_wp2
        refine bodyPost_ret (v := .agg #[.int .i64 0, .int .i64 0, .int .i64 0, .int .i64 0]) (by simp [results, Tryz.results29, go_sem, g0, g1, g2, g3]) rfl ⟨rfl, ?_⟩
        exact gset (gset (gset (gset (gtrans B0 GA) (by simp) _) (by simp) _) (by simp) _) (by simp) _
      · rw [Bool.true_and] at hd
        have HD := show Hid (_ = _) from hd
        clear hd
        go_wp2
        go_roundw
        case rel => exact ⟨⟨k + 1, by omega, by go_num, HD.out⟩, GA⟩
        case measure => simp [intOf]; omega
    · have hki : ¬ (k : Int) < (its.length : Int) := by omega
      rw [all_end _ its hlt] at hd
      have e : (⟨65, 1, 0, 0⟩ : Fl) = r := by rw [← HR.out]; unfold acE; rw [hd]; rfl
      subst e
      clear hd HR
      go_wp2
      refine bodyPost_ret (v := .agg #[.int .i64 65, .int .i64 1, .int .i64 0, .int .i64 0]) (by simp [results, Tryz.results29, go_sem, f0, f1, f2, f3]) rfl ⟨rfl, ?_⟩
      exact gset (gset (gset (gset (gtrans B0 G) (by simp) _) (by simp) _) (by simp) _) (by simp) _
set_option maxRecDepth 100000 in
set_option maxHeartbeats 4000000 in
theorem window_any (L : List Ty) (its : List It) (hn : its.length * 64 ≤ 140737488351232) (hits : ∀ k, (its.getD k noIt).fit) (M : ByteArray → Option Int) (hM : MapsIn M its.length) (sa : Option Addr) (sn sc : Nat) (ai : Option Addr) (ci : Nat) (mode after : Int) (aw : Option Addr) (wl cw : Nat) (within : Int) (by_ : ByteArray) (ar : Option Addr) (rl cr bm nm : Nat) (w : World) :
    Calls Tryz.prog 32 #[.agg #[.slice sa sn sc, .slice ai its.length ci, .int .i64 mode, .int .i64 after, .slice aw wl cw, .int .i64 within, .string by_, .slice ar rl cr, .map (some bm)]] w fun e w' => e = .returned (flV (wdE within)) ∧ Below w.heap.size w w' := by
  have F0 := Bk.newE (w := w.alloc (.cells #[.slice sa sn sc, .slice ai its.length ci, .int .i64 mode, .int .i64 after, .slice aw wl cw, .int .i64 within, .string by_, .slice ar rl cr, .map (some bm)] 71)) (g := w.heap.size + 1) (by simp) #[.int .i64 0, .int .i64 0, .int .i64 0, .int .i64 0] 45
  have B0 := galloc (galloc (Below.refl w.heap.size w) (.cells #[.slice sa sn sc, .slice ai its.length ci, .int .i64 mode, .int .i64 after, .slice aw wl cw, .int .i64 within, .string by_, .slice ar rl cr, .map (some bm)] 71)) (.cells #[.int .i64 0, .int .i64 0, .int .i64 0, .int .i64 0] 45)
  unfold wdE
  by_cases h : 1099511627776 < within
  · rw [if_pos h]
    go_enter Tryz.func32, Tryz.ntmps32
    go_wp2
    refine bodyPost_ret (v := .agg #[.int .i64 66, .int .i64 2, .int .i64 0, .int .i64 0]) (by simp [results, Tryz.results32, go_sem]) rfl ⟨rfl, ?_⟩
    exact galloc (galloc (Below.refl w.heap.size w) _) _
  · rw [if_neg h]
    go_enter Tryz.func32, Tryz.ntmps32
    go_wp2
    refine bodyPost_ret (v := .agg #[.int .i64 0, .int .i64 0, .int .i64 0, .int .i64 0]) (by simp [results, Tryz.results32, go_sem]) rfl ⟨rfl, ?_⟩
    exact galloc (galloc (Below.refl w.heap.size w) _) _

end Go.Proofs.YtlejhococjlijaaGreatDoor
namespace Go.Proofs.YtlejhococjlijaaGreatDoor
open Go.RowKit Go.BigFrame
set_option linter.unusedVariables false
set_option linter.unusedSimpArgs false

/-- Operands stand among the nodes. -/
def InT (t : List Nd) : Prop := ∀ k, k < t.length → (t.getD k noNd).l < (t.length : Int) ∧ (t.getD k noNd).r < (t.length : Int)
set_option maxRecDepth 100000 in
set_option maxHeartbeats 16000000 in
theorem where_any (L : List Ty) (its : List It) (hn : its.length * 64 ≤ 140737488351232) (hits : ∀ k, (its.getD k noIt).fit) (M : ByteArray → Option Int) (hM : MapsIn M its.length) (sa : Option Addr) (sn sc : Nat) (ai : Option Addr) (ci : Nat) (mode after : Int) (aw : Option Addr) (cw : Nat) (within : Int) (by_ : ByteArray) (ar : Option Addr) (rl cr bm nm : Nat) (wh : List Nd) (hw : ndsFit wh) (hin : InT wh) (w : World) (A : IsTypes w sa sn L) (AI : IsIts w ai its) (AW : IsNds w aw wh) (MP : MpAt w bm nm M) :
    Calls Tryz.prog 30 #[.agg #[.slice sa sn sc, .slice ai its.length ci, .int .i64 mode, .int .i64 after, .slice aw wh.length cw, .int .i64 within, .string by_, .slice ar rl cr, .map (some bm)]] w fun e w' => e = .returned (flV (wrE (lookE L its M mayA wh) wh)) ∧ Below w.heap.size w w' := by
  have hwl := hw.1
  have C0 := (Bk.new w #[.slice sa sn sc, .slice ai its.length ci, .int .i64 mode, .int .i64 after, .slice aw wh.length cw, .int .i64 within, .string by_, .slice ar rl cr, .map (some bm)] 71).alloc (.cells #[.int .i64 0, .int .i64 0, .int .i64 0, .int .i64 0] 45)
  have F0 := Bk.newE (w := w.alloc (.cells #[.slice sa sn sc, .slice ai its.length ci, .int .i64 mode, .int .i64 after, .slice aw wh.length cw, .int .i64 within, .string by_, .slice ar rl cr, .map (some bm)] 71)) (g := w.heap.size + 1) (by simp) #[.int .i64 0, .int .i64 0, .int .i64 0, .int .i64 0] 45
  have B0 := galloc (galloc (Below.refl w.heap.size w) (.cells #[.slice sa sn sc, .slice ai its.length ci, .int .i64 mode, .int .i64 after, .slice aw wh.length cw, .int .i64 within, .string by_, .slice ar rl cr, .map (some bm)] 71)) (.cells #[.int .i64 0, .int .i64 0, .int .i64 0, .int .i64 0] 45)
  obtain ⟨⟨ra, rc⟩, hrr⟩ : ∃ r, walkE (lookE L its M mayA wh) wh true = r := ⟨_, rfl⟩
  unfold wrE
  rw [hrr]
  dsimp only
  have HR := show Hid (_ = _) from hrr
  clear hrr
  obtain ⟨rf, hrf⟩ : ∃ rf, (if rc = 0 then noFl else ⟨rc, 4, (ra : Int), 0⟩ : Fl) = rf := ⟨_, rfl⟩
  rw [hrf]
  have HF := show Hid (_ = _) from hrf
  clear hrf
  go_enter Tryz.func30, Tryz.ntmps30
  go_upto_region 1 with fail
  generalize (w.alloc (.cells #[.slice sa sn sc, .slice ai its.length ci, .int .i64 mode, .int .i64 after, .slice aw wh.length cw, .int .i64 within, .string by_, .slice ar rl cr, .map (some bm)] 71)).alloc (.cells #[.int .i64 0, .int .i64 0, .int .i64 0, .int .i64 0] 45) = V at *
  have hSn : ∀ Y, Below V.heap.size V Y → Y.cell? ⟨w.heap.size, 0, none⟩ = some (.slice sa sn sc) ∧ Y.cell? ⟨w.heap.size, 1, none⟩ = some (.slice ai its.length ci) ∧ Y.cell? ⟨w.heap.size, 2, none⟩ = some (.int .i64 mode) ∧ Y.cell? ⟨w.heap.size, 3, none⟩ = some (.int .i64 after) ∧ Y.cell? ⟨w.heap.size, 4, none⟩ = some (.slice aw wh.length cw) ∧ Y.cell? ⟨w.heap.size, 5, none⟩ = some (.int .i64 within) ∧ Y.cell? ⟨w.heap.size, 6, none⟩ = some (.string by_) ∧ Y.cell? ⟨w.heap.size, 7, none⟩ = some (.slice ar rl cr) ∧ Y.cell? ⟨w.heap.size, 8, none⟩ = some (.map (some bm)) := fun Y G => (C0.keep G).at9
  have Gd := (Below.refl V.heap.size V).drew
  have hSd := hSn _ Gd
  have cF := fun Y => lookFor_any _ _ _ _ _ _ _ _ _ _ (.func (.func 53) #[] #[]) Y (show #[.slice sa sn sc, .slice ai its.length ci, .int .i64 mode, .int .i64 after, .slice aw wh.length cw, .int .i64 within, .string by_, .slice ar rl cr, .map (some bm)] = _ from rfl) ⟨_, rfl⟩
  go_region_held3 (fun Y : World => Y.cell? ⟨w.heap.size, 0, none⟩ = some (.slice sa sn sc) ∧ Y.cell? ⟨w.heap.size, 1, none⟩ = some (.slice ai its.length ci) ∧ Y.cell? ⟨w.heap.size, 2, none⟩ = some (.int .i64 mode) ∧ Y.cell? ⟨w.heap.size, 3, none⟩ = some (.int .i64 after) ∧ Y.cell? ⟨w.heap.size, 4, none⟩ = some (.slice aw wh.length cw) ∧ Y.cell? ⟨w.heap.size, 5, none⟩ = some (.int .i64 within) ∧ Y.cell? ⟨w.heap.size, 6, none⟩ = some (.string by_) ∧ Y.cell? ⟨w.heap.size, 7, none⟩ = some (.slice ar rl cr) ∧ Y.cell? ⟨w.heap.size, 8, none⟩ = some (.map (some bm))) (first | (with_reducible exact hSd) | (with_reducible exact hSu) | (with_reducible exact hSv)) (first
    | (go_at_call 52; (with_reducible refine (cF _).mono ?_); rintro _ u ⟨⟨bc, bf, rfl, CU, OU⟩, gu⟩; have GU := gtrans Gd gu; have BU := gtrans B0 GU; have hSu := hSn _ GU; have cWk := walk_any (lookE L its M mayA wh) wh true hwl aw cw bc bf u (AW.keep BU) (fun k hk Y G => lookA_any L its hn hits M hM sa sn sc ai ci mode after aw wh.length cw within by_ ar rl cr bm nm wh hwl hw.2 k hk (hin k hk).1 (hin k hk).2 aw cw bc bf Y (A.keep (gtrans BU G)) (AI.keep (gtrans BU G)) (AW.keep (gtrans BU G)) (MP.keep (gtrans BU G)) (CU.keep G) (OU.keep G)); rw [HR.out] at cWk; dsimp only at cWk)
    | (go_at_call 51; (with_reducible refine cWk.mono ?_); rintro _ v ⟨rfl, gv⟩; have GV := gtrans GU gv; have hSv := hSn _ GV))
  have BV := gtrans B0 GV
  have FV := F0.keep GV
  obtain ⟨f0, f1, f2, f3⟩ := FV.at4
  have ff := FV.free
  by_cases hz : rc = 0
  · have e : noFl = rf := by rw [← HF.out, if_pos hz]
    subst e
    subst hz
    clear HF HR
    go_wp2
    refine bodyPost_ret (v := .agg #[.int .i64 0, .int .i64 0, .int .i64 0, .int .i64 0]) (by simp [results, Tryz.results30, go_sem, f0, f1, f2, f3]) rfl ⟨rfl, ?_⟩
    exact gset (gset (gset (gset BV (by simp) _) (by simp) _) (by simp) _) (by simp) _
  · have e : (⟨rc, 4, (ra : Int), 0⟩ : Fl) = rf := by rw [← HF.out, if_neg hz]
    subst e
    have d : (rc != 0) = true := by simpa using hz
    clear HF HR hz
    go_wp2
    refine bodyPost_ret (v := .agg #[.int .i64 rc, .int .i64 4, .int .i64 (ra : Int), .int .i64 0]) (by simp [results, Tryz.results30, go_sem, f0, f1, f2, f3]) rfl ⟨rfl, ?_⟩
    exact gset (gset (gset (gset BV (by simp) _) (by simp) _) (by simp) _) (by simp) _

/-- The results. -/
def rsW (L : List Ty) (its : List It) (M : ByteArray → Option Int) (rts : List (List Nd)) (k : Nat) : Nat × Int := walkE (lookE L its M mayR (rts.getD k [])) (rts.getD k []) false
def rsE (L : List Ty) (its : List It) (M : ByteArray → Option Int) (rts : List (List Nd)) : Fl := if 8 < rts.length then ⟨78, 5, 8, 0⟩ else
  match firstAt (fun k => (rsW L its M rts k).2) rts.length 0 with
  | some k => ⟨(rsW L its M rts k).2, 5, (k : Int), ((rsW L its M rts k).1 : Int)⟩
  | none => noFl
set_option maxRecDepth 100000 in
set_option maxHeartbeats 16000000 in
theorem results_any (L : List Ty) (its : List It) (hn : its.length * 64 ≤ 140737488351232) (hits : ∀ k, (its.getD k noIt).fit) (M : ByteArray → Option Int) (hM : MapsIn M its.length) (sa : Option Addr) (sn sc : Nat) (ai : Option Addr) (ci : Nat) (mode after : Int) (aw : Option Addr) (wl cw : Nat) (within : Int) (by_ : ByteArray) (ar : Option Addr) (cr bm nm : Nat) (rts : List (List Nd)) (hrl : rts.length * 24 ≤ 140737488351232) (hrf : ∀ k, ndsFit (rts.getD k [])) (hin : ∀ k, InT (rts.getD k [])) (w : World) (A : IsTypes w sa sn L) (AI : IsIts w ai its) (AR : IsNss w ar rts) (MP : MpAt w bm nm M) :
    Calls Tryz.prog 34 #[.agg #[.slice sa sn sc, .slice ai its.length ci, .int .i64 mode, .int .i64 after, .slice aw wl cw, .int .i64 within, .string by_, .slice ar rts.length cr, .map (some bm)]] w fun e w' => e = .returned (flV (rsE L its M rts)) ∧ Below w.heap.size w w' := by
  have C0 := (Bk.new w #[.slice sa sn sc, .slice ai its.length ci, .int .i64 mode, .int .i64 after, .slice aw wl cw, .int .i64 within, .string by_, .slice ar rts.length cr, .map (some bm)] 71).alloc (.cells #[.int .i64 0, .int .i64 0, .int .i64 0, .int .i64 0] 45)
  have F0 := Bk.newE (w := w.alloc (.cells #[.slice sa sn sc, .slice ai its.length ci, .int .i64 mode, .int .i64 after, .slice aw wl cw, .int .i64 within, .string by_, .slice ar rts.length cr, .map (some bm)] 71)) (g := w.heap.size + 1) (by simp) #[.int .i64 0, .int .i64 0, .int .i64 0, .int .i64 0] 45
  have B0 := galloc (galloc (Below.refl w.heap.size w) (.cells #[.slice sa sn sc, .slice ai its.length ci, .int .i64 mode, .int .i64 after, .slice aw wl cw, .int .i64 within, .string by_, .slice ar rts.length cr, .map (some bm)] 71)) (.cells #[.int .i64 0, .int .i64 0, .int .i64 0, .int .i64 0] 45)
  obtain ⟨rf, hrr⟩ : ∃ rf, rsE L its M rts = rf := ⟨_, rfl⟩
  rw [hrr]
  have HR := show Hid (_ = _) from hrr
  clear hrr
  by_cases h8 : 8 < rts.length
  · have h8i : (8 : Int) < (rts.length : Int) := by omega
    have e : (⟨78, 5, 8, 0⟩ : Fl) = rf := by rw [← HR.out]; unfold rsE; rw [if_pos h8]
    subst e
    clear HR
    go_enter Tryz.func34, Tryz.ntmps34
    go_wp2
    refine bodyPost_ret (v := .agg #[.int .i64 78, .int .i64 5, .int .i64 8, .int .i64 0]) (by simp [results, Tryz.results34, go_sem]) rfl ⟨rfl, ?_⟩
    exact galloc (galloc (Below.refl w.heap.size w) _) _
  have h8i : ¬ (8 : Int) < (rts.length : Int) := by omega
  have HR1 : Hid ((match firstAt (fun k => (rsW L its M rts k).2) rts.length 0 with | some k => (⟨(rsW L its M rts k).2, 5, (k : Int), ((rsW L its M rts k).1 : Int)⟩ : Fl) | none => noFl) = rf) := by
    show _ = _
    rw [← HR.out]; unfold rsE; rw [if_neg h8]
  clear HR
  have cF := fun Y => lookFor_any _ _ _ _ _ _ _ _ _ _ (.func (.func 58) #[] #[]) Y (show #[.slice sa sn sc, .slice ai its.length ci, .int .i64 mode, .int .i64 after, .slice aw wl cw, .int .i64 within, .string by_, .slice ar rts.length cr, .map (some bm)] = _ from rfl) ⟨_, rfl⟩
  go_enter Tryz.func34, Tryz.ntmps34
  go_wp2_with (go_at_call 52; (with_reducible refine (cF _).mono ?_); rintro _ V ⟨⟨bc, bf, rfl, CU, OU⟩, gV⟩; have BV := gtrans B0 gV; have FV := F0.keep gV; have CV := C0.keep gV; obtain ⟨q0, q1, q2, q3, q4, q5, q6, q7, q8⟩ := CV.at9)
  clear cF
  go_loopw [4, 5, 6, 7, 20, 25] (fun _ _ _ _ x _ wr => (∃ k : Nat, k ≤ rts.length ∧ x = .int .i64 k ∧ firstAt (fun k => (rsW L its M rts k).2) rts.length 0 = firstAt (fun k => (rsW L its M rts k).2) rts.length k) ∧ Below V.heap.size V wr) (fun _ _ _ _ x _ _ => rts.length - (intOf x).toNat)
  case atStart => exact ⟨⟨0, Nat.zero_le _, rfl, rfl⟩, Below.refl _ _⟩
  case round =>
    obtain ⟨⟨k, hk, rfl, hd⟩, G⟩ := hrel
    have BW := gtrans BV G
    have FW := FV.keep G
    obtain ⟨f0, f1, f2, f3⟩ := FW.at4
    have ff := FW.free
    by_cases hlt : k < rts.length
    · have hki : (k : Int) < (rts.length : Int) := by omega
      obtain ⟨g, o, ta, tc, rfl, a0, at', sl'⟩ := (AR.keep BW) k hlt
      have cWk := walk_any (lookE L its M mayR (rts.getD k [])) (rts.getD k []) false (hrf k).1 ta tc bc bf wr at' (fun j hj Y G2 => lookR_any L its hn hits M hM sa sn sc ai ci mode after aw wl cw within by_ _ rts.length cr bm nm (rts.getD k []) (hrf k).1 (hrf k).2 j hj (hin k j hj).1 (hin k j hj).2 ta tc bc bf Y (A.keep (gtrans BW G2)) (AI.keep (gtrans BW G2)) (at'.keep G2) (MP.keep (gtrans BW G2)) (CU.keep (gtrans G G2)) (OU.keep (gtrans G G2)))
      obtain ⟨⟨ra, rc⟩, hrw⟩ : ∃ r, rsW L its M rts k = r := ⟨_, rfl⟩
      have hrw2 : walkE (lookE L its M mayR (rts.getD k [])) (rts.getD k []) false = (ra, rc) := hrw
      rw [hrw2] at cWk
      dsimp only at cWk
      clear hrw2
      generalize (rts.getD k []).length = tl at *
      by_cases hz : rc = 0
      · rw [firstAt_go hlt (by rw [hrw]; exact hz)] at hd
        have HD := show Hid (_ = _) from hd
        subst hz
        clear hd hrw
        go_wp2_with (go_at_call 51; (with_reducible refine cWk.mono ?_); rintro _ u ⟨rfl, gu⟩)
        go_roundw
        case rel => exact ⟨⟨k + 1, by omega, by go_num, HD.out⟩, gtrans G gu⟩
        case measure => simp [intOf]; omega
      · rw [firstAt_hit hlt (by rw [hrw]; exact hz)] at hd
        have e : (⟨rc, 5, (k : Int), (ra : Int)⟩ : Fl) = rf := by rw [← HR1.out, hd]; dsimp only; rw [hrw]
        subst e
        have d : (rc != 0) = true := by simpa using hz
        clear hd hz hrw HR1
        go_wp2_with (go_at_call 51; (with_reducible refine cWk.mono ?_); rintro _ u ⟨rfl, gu⟩; have FU := FW.keep gu; obtain ⟨g0, g1, g2, g3⟩ := FU.at4; have gf := FU.free)
        refine bodyPost_ret (v := .agg #[.int .i64 rc, .int .i64 5, .int .i64 (k : Int), .int .i64 (ra : Int)]) (by simp [results, Tryz.results34, go_sem, g0, g1, g2, g3]) rfl ⟨rfl, ?_⟩
        exact gset (gset (gset (gset (gtrans BW gu) (by simp) _) (by simp) _) (by simp) _) (by simp) _
    · have hki : ¬ (k : Int) < (rts.length : Int) := by omega
      rw [firstAt_end hlt] at hd
      have e : noFl = rf := by rw [← HR1.out, hd]
      subst e
      clear hd HR1
      go_wp2
      refine bodyPost_ret (v := .agg #[.int .i64 0, .int .i64 0, .int .i64 0, .int .i64 0]) (by simp [results, Tryz.results34, go_sem, f0, f1, f2, f3]) rfl ⟨rfl, ?_⟩
      exact gset (gset (gset (gset BW (by simp) _) (by simp) _) (by simp) _) (by simp) _

set_option maxHeartbeats 4000000 in
theorem part1_any (L : List Ty) (its : List It) (hn : its.length * 64 ≤ 140737488351232) (hits : ∀ k, (its.getD k noIt).fit) (M : ByteArray → Option Int) (hM : MapsIn M its.length) (sa : Option Addr) (sn sc : Nat) (ai : Option Addr) (ci : Nat) (mode after : Int) (aw : Option Addr) (wl cw : Nat) (within : Int) (by_ : ByteArray) (ar : Option Addr) (rl cr bm nm : Nat) (i : It) (hfi : i.fit) (a : Option Addr) (c b1 b2 : Nat) (w : World) (A : IsTypes w sa sn L) (AS : IsSs w a i.ty) (C1 : Bk w b1 #[.slice sa sn sc, .slice ai its.length ci, .int .i64 mode, .int .i64 after, .slice aw wl cw, .int .i64 within, .string by_, .slice ar rl cr, .map (some bm)] 71) (O2 : One w b2 (.string by_) 9) :
    Calls Tryz.prog 55 #[itA i a c, ptr b1, ptr b2] w fun e w' => e = .returned (.bool (!hasA L i by_)) ∧ Below w.heap.size w w' := by
  have B0 := galloc (Below.refl w.heap.size w) (.cells #[.bool i.neg, .slice a i.ty.length c, .string i.v, .int .i64 i.lo, .int .i64 i.hi] 61)
  have cH := hasAttr_any L sa sn sc i hfi a c by_ _ (A.keep B0) (AS.keep B0)
  obtain ⟨q0, q1, q2, q3, q4, q5, q6, q7, q8⟩ := (C1.keep B0).at9
  have p0 := (O2.keep B0).at0
  generalize hasA L i by_ = b at *
  obtain ⟨neg, ty, v, lo, hi⟩ := i
  dsimp only [itA] at *
  go_enter Tryz.func55, Tryz.ntmps55
  go_wp2_with (go_at_call 56; (with_reducible refine cH.mono ?_); rintro _ u ⟨rfl, gu⟩)
  go_ret
  exact ⟨rfl, gtrans B0 gu⟩
set_option maxHeartbeats 4000000 in
theorem indexI_any (f : It → Bool) (its : List It) (hn : its.length * 64 ≤ 140737488351232) (ai : Option Addr) (ci b1 b2 : Nat) (w : World) (AI : IsIts w ai its)
    (hF : ∀ k, k < its.length → ∀ a c Y, Below w.heap.size w Y → IsSs Y a (its.getD k noIt).ty → Calls Tryz.prog 55 #[itA (its.getD k noIt) a c, ptr b1, ptr b2] Y fun e w' => e = .returned (.bool (f (its.getD k noIt))) ∧ Below Y.heap.size Y w') :
    Calls Tryz.prog 82 #[.slice ai its.length ci, .func (.func 55) #[] #[ptr b1, ptr b2]] w fun e w' => (∃ z : Int, e = .returned (.int .i64 z) ∧ decide (0 ≤ z) = its.any f) ∧ Below w.heap.size w w' := by
  obtain ⟨r, hr⟩ : ∃ r, its.any f = r := ⟨_, rfl⟩
  rw [hr]
  have HR := show Hid (_ = _) from hr
  clear hr
  go_enter Tryz.func82, Tryz.ntmps82
  go_wp2
  go_loopw [5, 8] (fun _ x wr => (∃ k : Nat, k ≤ its.length ∧ x = .int .i64 k ∧ (its.drop k).any f = r) ∧ Below w.heap.size w wr) (fun _ x _ => its.length - (intOf x).toNat)
  case atStart => exact ⟨⟨0, Nat.zero_le _, rfl, HR.out⟩, Below.refl _ _⟩
  case round =>
    clear HR
    obtain ⟨⟨k, hk, rfl, hd⟩, G⟩ := hrel
    by_cases hlt : k < its.length
    · have hki : (k : Int) < (its.length : Int) := by omega
      rw [any_drop f its noIt hlt] at hd
      obtain ⟨g, o, rfl, ia, ic, i0, i1, i2, i3, i4, is', sl'⟩ := (AI.keep G) k hlt
      have cN := hF k hlt ia ic wr G is'
      generalize its.getD k noIt = y at *
      generalize f y = b at *
      obtain ⟨neg, ty, v, lo, hi⟩ := y
      dsimp only [itA] at *
      have HD := show Hid (_ = _) from hd
      clear hd
      cases b
      · have HD2 : Hid ((its.drop (k + 1)).any f = r) := HD.out
        clear HD
        go_wp2_with (go_at_call 55; (with_reducible refine cN.mono ?_); rintro _ u ⟨rfl, gu⟩)
        go_roundw
        case rel => exact ⟨⟨k + 1, by omega, by go_num, HD2.out⟩, gtrans G gu⟩
        case measure => simp [intOf]; omega
      · have h2 : true = r := HD.out
        subst h2
        clear HD
        go_wp2_with (go_at_call 55; (with_reducible refine cN.mono ?_); rintro _ u ⟨rfl, gu⟩)
        go_ret
        exact ⟨⟨_, rfl, decide_eq_true (by omega)⟩, gtrans G gu⟩
    · have hki : ¬ (k : Int) < (its.length : Int) := by omega
      rw [any_end f its hlt] at hd
      subst hd
      go_wp2
      go_ret
      exact ⟨⟨_, rfl, by decide⟩, G⟩
set_option maxHeartbeats 4000000 in
theorem containsI_any (f : It → Bool) (its : List It) (hn : its.length * 64 ≤ 140737488351232) (ai : Option Addr) (ci b1 b2 : Nat) (w : World) (AI : IsIts w ai its)
    (hF : ∀ k, k < its.length → ∀ a c Y, Below w.heap.size w Y → IsSs Y a (its.getD k noIt).ty → Calls Tryz.prog 55 #[itA (its.getD k noIt) a c, ptr b1, ptr b2] Y fun e w' => e = .returned (.bool (f (its.getD k noIt))) ∧ Below Y.heap.size Y w') :
    Calls Tryz.prog 57 #[.slice ai its.length ci, .func (.func 55) #[] #[ptr b1, ptr b2]] w fun e w' => e = .returned (.bool (its.any f)) ∧ Below w.heap.size w w' := by
  have cI := indexI_any f its hn ai ci b1 b2 w AI hF
  go_enter Tryz.func57, Tryz.ntmps57
  go_wp2_with (go_at_call 82; (with_reducible refine cI.mono ?_); rintro _ u ⟨⟨z, rfl, hz⟩, gu⟩)
  go_ret
  exact ⟨by rw [← hz]; rfl, gu⟩
def ptE (L : List Ty) (its : List It) (by_ : ByteArray) : Fl := if (by_.toList == []) = true then noFl else if ((by_.toList == [116, 115]) || its.any (fun i => !hasA L i by_)) = true then ⟨67, 3, 0, 0⟩ else noFl
set_option maxRecDepth 100000 in
set_option maxHeartbeats 8000000 in
theorem partition_any (L : List Ty) (its : List It) (hn : its.length * 64 ≤ 140737488351232) (hits : ∀ k, (its.getD k noIt).fit) (M : ByteArray → Option Int) (hM : MapsIn M its.length) (sa : Option Addr) (sn sc : Nat) (ai : Option Addr) (ci : Nat) (mode after : Int) (aw : Option Addr) (wl cw : Nat) (within : Int) (by_ : ByteArray) (ar : Option Addr) (rl cr bm nm : Nat) (w : World) (A : IsTypes w sa sn L) (AI : IsIts w ai its) :
    Calls Tryz.prog 33 #[.agg #[.slice sa sn sc, .slice ai its.length ci, .int .i64 mode, .int .i64 after, .slice aw wl cw, .int .i64 within, .string by_, .slice ar rl cr, .map (some bm)]] w fun e w' => e = .returned (flV (ptE L its by_)) ∧ Below w.heap.size w w' := by
  have C0 := ((Bk.new w #[.slice sa sn sc, .slice ai its.length ci, .int .i64 mode, .int .i64 after, .slice aw wl cw, .int .i64 within, .string by_, .slice ar rl cr, .map (some bm)] 71).alloc (.cells #[.int .i64 0, .int .i64 0, .int .i64 0, .int .i64 0] 45)).alloc (.cells #[.string by_] 9)
  have F0 := (Bk.newE (w := w.alloc (.cells #[.slice sa sn sc, .slice ai its.length ci, .int .i64 mode, .int .i64 after, .slice aw wl cw, .int .i64 within, .string by_, .slice ar rl cr, .map (some bm)] 71)) (g := w.heap.size + 1) (by simp) #[.int .i64 0, .int .i64 0, .int .i64 0, .int .i64 0] 45).alloc (.cells #[.string by_] 9)
  have B0 := galloc (galloc (galloc (Below.refl w.heap.size w) (.cells #[.slice sa sn sc, .slice ai its.length ci, .int .i64 mode, .int .i64 after, .slice aw wl cw, .int .i64 within, .string by_, .slice ar rl cr, .map (some bm)] 71)) (.cells #[.int .i64 0, .int .i64 0, .int .i64 0, .int .i64 0] 45)) (.cells #[.string by_] 9)
  have O2 : One (((w.alloc (.cells #[.slice sa sn sc, .slice ai its.length ci, .int .i64 mode, .int .i64 after, .slice aw wl cw, .int .i64 within, .string by_, .slice ar rl cr, .map (some bm)] 71)).alloc (.cells #[.int .i64 0, .int .i64 0, .int .i64 0, .int .i64 0] 45)).alloc (.cells #[.string by_] 9)) (w.heap.size + 2) (.string by_) 9 := by
    have h := One.new ((w.alloc (.cells #[.slice sa sn sc, .slice ai its.length ci, .int .i64 mode, .int .i64 after, .slice aw wl cw, .int .i64 within, .string by_, .slice ar rl cr, .map (some bm)] 71)).alloc (.cells #[.int .i64 0, .int .i64 0, .int .i64 0, .int .i64 0] 45)) (.string by_) 9
    rw [show ((w.alloc (.cells #[.slice sa sn sc, .slice ai its.length ci, .int .i64 mode, .int .i64 after, .slice aw wl cw, .int .i64 within, .string by_, .slice ar rl cr, .map (some bm)] 71)).alloc (.cells #[.int .i64 0, .int .i64 0, .int .i64 0, .int .i64 0] 45)).heap.size = w.heap.size + 2 by simp] at h
    exact h
  have cC := containsI_any (fun i => !hasA L i by_) its hn ai ci w.heap.size (w.heap.size + 2) _ (AI.keep B0) (fun k hk a c Y G is' => part1_any L its hn hits M hM sa sn sc ai ci mode after aw wl cw within by_ ar rl cr bm nm (its.getD k noIt) (hits k) a c w.heap.size (w.heap.size + 2) Y (A.keep (gtrans B0 G)) is' (C0.keep G) (O2.keep G))
  unfold ptE
  generalize its.any (fun i => !hasA L i by_) = b at *
  cases h0 : (by_.toList == ([] : List UInt8))
  · rw [if_neg (by simp)]
    cases h1 : (by_.toList == [116, 115])
    · rw [Bool.false_or]
      cases b
      · rw [if_neg (by simp)]
        go_enter Tryz.func33, Tryz.ntmps33
        go_wp2_with (go_at_call 57; (with_reducible refine cC.mono ?_); rintro _ u ⟨rfl, gu⟩; have FU := F0.keep gu; obtain ⟨g0, g1, g2, g3⟩ := FU.at4; have gf := FU.free)
        refine bodyPost_ret (v := .agg #[.int .i64 0, .int .i64 0, .int .i64 0, .int .i64 0]) (by simp [results, Tryz.results33, go_sem, g0, g1, g2, g3]) rfl ⟨rfl, ?_⟩
        exact gset (gset (gset (gset (gtrans B0 gu) (by simp) _) (by simp) _) (by simp) _) (by simp) _
      · rw [if_pos rfl]
        go_enter Tryz.func33, Tryz.ntmps33
        go_wp2_with (go_at_call 57; (with_reducible refine cC.mono ?_); rintro _ u ⟨rfl, gu⟩; have FU := F0.keep gu; obtain ⟨g0, g1, g2, g3⟩ := FU.at4; have gf := FU.free)
        refine bodyPost_ret (v := .agg #[.int .i64 67, .int .i64 3, .int .i64 0, .int .i64 0]) (by simp [results, Tryz.results33, go_sem, g0, g1, g2, g3]) rfl ⟨rfl, ?_⟩
        exact gset (gset (gset (gset (gtrans B0 gu) (by simp) _) (by simp) _) (by simp) _) (by simp) _
    · rw [Bool.true_or, if_pos rfl]
      go_enter Tryz.func33, Tryz.ntmps33
      go_wp2
      refine bodyPost_ret (v := .agg #[.int .i64 67, .int .i64 3, .int .i64 0, .int .i64 0]) (by simp [results, Tryz.results33, go_sem]) rfl ⟨rfl, ?_⟩
      exact galloc (galloc (galloc (Below.refl w.heap.size w) _) _) _
  · rw [if_pos rfl]
    go_enter Tryz.func33, Tryz.ntmps33
    go_wp2
    refine bodyPost_ret (v := .agg #[.int .i64 0, .int .i64 0, .int .i64 0, .int .i64 0]) (by simp [results, Tryz.results33, go_sem]) rfl ⟨rfl, ?_⟩
    exact galloc (galloc (galloc (Below.refl w.heap.size w) _) _) _

end Go.Proofs.YtlejhococjlijaaGreatDoor
namespace Go.Proofs.YtlejhococjlijaaGreatDoor
open Go.RowKit Go.BigFrame
set_option linter.unusedVariables false
set_option linter.unusedSimpArgs false

theorem use_in {M : ByteArray → Option Int} {n : Nat} (hM : MapsIn M n) (p : Int → Bool) (t : List Nd) (j : Nat) (hj : j < (risO (useL M p t)).length) : 0 ≤ (risO (useL M p t)).getD j 0 ∧ (risO (useL M p t)).getD j 0 < (n : Int) := by
  have hm : (risO (useL M p t)).getD j 0 ∈ risO (useL M p t) := by
    rw [List.getD_eq_getElem?_getD, List.getElem?_eq_getElem hj]
    exact List.getElem_mem hj
  rw [(ris_inc _).2] at hm
  unfold useL at hm
  rw [List.mem_filterMap] at hm
  obtain ⟨y, _, hy⟩ := hm
  split at hy
  · exact hM _ _ hy
  · cases hy
theorem cnt_step (p : Int → Bool) (zs : List Int) (k : Nat) (hk : k < zs.length) : ((zs.take (k + 1)).filter p).length = ((zs.take k).filter p).length + (if p (zs.getD k 0) = true then 1 else 0) := by
  rw [List.take_add_one, List.filter_append, List.length_append, List.getElem?_eq_getElem hk, List.getD_eq_getElem?_getD, List.getElem?_eq_getElem hk]
  simp only [Option.toList_some, Option.getD_some, List.filter_cons, List.filter_nil]
  split <;> rfl
theorem use_f0 (a0 a1 a2 : Option Addr) (n0 n1 n2 c0 c1 c2 : Nat) (v : World) : (Instr.field 52 (.agg #[.slice a0 n0 c0, .slice a1 n1 c1, .slice a2 n2 c2]) 0).run Tryz.prog v = .ok (.slice a0 n0 c0) v := by
  simp [Instr.field, run_underlying Tryz.underlying52, go_sem, asAgg]
def notS (its : List It) (j : Int) : Bool := !sglB (its.getD j.toNat noIt)
set_option maxRecDepth 100000 in
set_option maxHeartbeats 8000000 in
theorem mixes_any (L : List Ty) (its : List It) (hn : its.length * 64 ≤ 140737488351232) (hits : ∀ k, (its.getD k noIt).fit) (M : ByteArray → Option Int) (hM : MapsIn M its.length) (sa : Option Addr) (sn sc : Nat) (ai : Option Addr) (ci : Nat) (mode after : Int) (aw : Option Addr) (wl cw : Nat) (within : Int) (by_ : ByteArray) (ar : Option Addr) (rl cr bm nm : Nat) (t : List Nd) (ht : ndsFit t) (ao : Option Addr) (cap : Nat) (w : World) (AI : IsIts w ai its) (AT : IsNds w ao t) (MP : MpAt w bm nm M) :
    Calls Tryz.prog 54 #[.agg #[.slice sa sn sc, .slice ai its.length ci, .int .i64 mode, .int .i64 after, .slice aw wl cw, .int .i64 within, .string by_, .slice ar rl cr, .map (some bm)], .slice ao t.length cap] w fun e w' => e = .returned (.bool (mixB its M t)) ∧ Below w.heap.size w w' := by
  have htl := ht.1
  have C0 := Bk.new w #[.slice sa sn sc, .slice ai its.length ci, .int .i64 mode, .int .i64 after, .slice aw wl cw, .int .i64 within, .string by_, .slice ar rl cr, .map (some bm)] 71
  have B0 := galloc (Below.refl w.heap.size w) (.cells #[.slice sa sn sc, .slice ai its.length ci, .int .i64 mode, .int .i64 after, .slice aw wl cw, .int .i64 within, .string by_, .slice ar rl cr, .map (some bm)] 71)
  have cU := usesOf_any M bm nm t htl ht.2 ao cap _ (AT.keep B0) (MP.keep B0)
  have hzl : (risO (useL M baB t)).length ≤ t.length := Nat.le_trans (ris_len _) (useL_len M baB t)
  have hzin := use_in hM baB t
  unfold mixB
  show Calls _ _ _ _ fun e w' => e = .returned (.bool (decide (1 < ((risO (useL M baB t)).filter (notS its)).length))) ∧ _
  generalize risO (useL M baB t) = zs at *
  obtain ⟨r, hr⟩ : ∃ r, (zs.filter (notS its)).length = r := ⟨_, rfl⟩
  rw [hr]
  have HR := show Hid (_ = _) from hr
  clear hr
  have uf := use_f0
  go_enter Tryz.func54, Tryz.ntmps54
  go_wp2_with (go_at_call 37; (with_reducible refine cU.mono ?_); rintro _ V ⟨a1, c1, a2, c2, a3, c3, rfl, O1, O2, O3, gV⟩; have BV := gtrans B0 gV; have CV := C0.keep gV)
  have IV := ints_own O1
  clear O1 O2 O3 cU uf
  go_loopw [5, 7, 14] (fun s _ x wr => (∃ k : Nat, k ≤ zs.length ∧ x = .int .i64 k ∧ s = .int .i64 (((zs.take k).filter (notS its)).length : Int)) ∧ Below V.heap.size V wr) (fun _ _ x _ => zs.length - (intOf x).toNat)
  case atStart => exact ⟨⟨0, Nat.zero_le _, rfl, rfl⟩, Below.refl _ _⟩
  case round =>
    obtain ⟨⟨k, hk, rfl, rfl⟩, G⟩ := hrel
    have BW := gtrans BV G
    obtain ⟨q0, q1, q2, q3, q4, q5, q6, q7, q8⟩ := (CV.keep G).at9
    have hcl : ((zs.take k).filter (notS its)).length ≤ k := Nat.le_trans (List.length_filter_le _ _) (by simp; omega)
    by_cases hlt : k < zs.length
    · have hki : (k : Int) < (zs.length : Int) := by omega
      obtain ⟨hz0, hz1⟩ := hzin k hlt
      obtain ⟨g, o, rfl, z0⟩ := (IV.keep G) k hlt
      have hst := cnt_step (notS its) zs k hlt
      generalize zs.getD k 0 = zj at *
      obtain ⟨j, rfl⟩ : ∃ j : Nat, zj = j := ⟨zj.toNat, by omega⟩
      have hnj : notS its (j : Int) = !sglB (its.getD j noIt) := rfl
      rw [hnj] at hst
      clear hnj
      obtain ⟨gi, oi, rfl, ia, ic, i0, i1, i2, i3, i4, is', sl'⟩ := (AI.keep BW) j (by omega)
      have cS := isSgl_any (its.getD j noIt) ia ic wr
      generalize its.getD j noIt = it at *
      generalize sglB it = sb at *
      generalize ((zs.take k).filter (notS its)).length = cn at *
      obtain ⟨ineg, ity, iv, ilo, ihi⟩ := it
      dsimp only [itA] at *
      have HS := show Hid (_ = _) from hst
      clear hst
      cases sb
      · have HS2 : Hid (((zs.take (k + 1)).filter (notS its)).length = cn + 1) := HS.out
        clear HS
        go_wp2_with (go_at_call 78; (with_reducible refine cS.mono ?_); rintro _ u ⟨rfl, gu⟩)
        go_roundw
        case rel => exact ⟨⟨k + 1, by omega, by go_num, by rw [HS2.out]; go_num⟩, gtrans G gu⟩
        case measure => simp [intOf]; omega
      · have HS2 : Hid (((zs.take (k + 1)).filter (notS its)).length = cn) := HS.out
        clear HS
        go_wp2_with (go_at_call 78; (with_reducible refine cS.mono ?_); rintro _ u ⟨rfl, gu⟩)
        go_roundw
        case rel => exact ⟨⟨k + 1, by omega, by go_num, by rw [HS2.out]⟩, gtrans G gu⟩
        case measure => simp [intOf]; omega
    · have hki : ¬ (k : Int) < (zs.length : Int) := by omega
      have hk2 : k = zs.length := by omega
      rw [hk2, List.take_length]
      rw [HR.out]
      rw [hk2] at hki
      have e : decide ((1 : Int) < (r : Int)) = decide (1 < r) := by
        by_cases h : 1 < r
        · rw [decide_eq_true h, decide_eq_true (by omega)]
        · rw [decide_eq_false h, decide_eq_false (by omega)]
      have E := show Hid (_ = _) from e
      clear e hk2
      go_wp2
      go_ret
      exact ⟨by show _ = Ending.returned (Value.bool (decide (1 < r))); rw [← E.out]; rfl, BW⟩

/-- The nodes of the subtree that ends at r, as they stand. -/
def segL (wh : List Nd) (r : Nat) : List Nd := (wh.drop (bg (bsOf wh) r)).take (r + 1 - bg (bsOf wh) r)
def cjF (its : List It) (M : ByteArray → Option Int) (wh : List Nd) (k : Nat) : Int := if mixB its M (segL wh ((conjO wh).getD k 0).toNat) = true then 1 else 0
def cjE (its : List It) (M : ByteArray → Option Int) (wh : List Nd) : Fl := match firstAt (cjF its M wh) (conjO wh).length 0 with
  | some k => ⟨77, 4, (conjO wh).getD k 0, 0⟩
  | none => noFl
theorem conj_in (wh : List Nd) (k : Nat) (hk : k < (conjO wh).length) : treeB wh = true ∧ ∃ r : Nat, (conjO wh).getD k 0 = (r : Int) ∧ r < wh.length := by
  unfold conjO at *
  split at hk
  · rename_i h
    refine ⟨h, ?_⟩
    rw [if_pos h]
    have hk2 : k < (conjL wh).length := by simpa using hk
    refine ⟨(conjL wh)[k], ?_, ?_⟩
    · rw [List.getD_eq_getElem?_getD, List.getElem?_map, List.getElem?_eq_getElem hk2]; rfl
    · have hm : (conjL wh)[k] ∈ conjL wh := List.getElem_mem hk2
      unfold conjL at hm
      have := (List.mem_filter.1 hm).1
      exact List.mem_range.1 this
  · simp at hk
set_option maxRecDepth 100000 in
set_option maxHeartbeats 16000000 in
theorem conjRule_any (L : List Ty) (its : List It) (hn : its.length * 64 ≤ 140737488351232) (hits : ∀ k, (its.getD k noIt).fit) (M : ByteArray → Option Int) (hM : MapsIn M its.length) (sa : Option Addr) (sn sc : Nat) (ai : Option Addr) (ci : Nat) (mode after : Int) (aw : Option Addr) (cw : Nat) (within : Int) (by_ : ByteArray) (ar : Option Addr) (rl cr bm nm : Nat) (wh : List Nd) (hw : ndsFit wh) (SW : Sl aw wh.length cw) (w : World) (K : KwAt w) (AI : IsIts w ai its) (AW : IsNds w aw wh) (MP : MpAt w bm nm M) :
    Calls Tryz.prog 31 #[.agg #[.slice sa sn sc, .slice ai its.length ci, .int .i64 mode, .int .i64 after, .slice aw wh.length cw, .int .i64 within, .string by_, .slice ar rl cr, .map (some bm)]] w fun e w' => e = .returned (flV (cjE its M wh)) ∧ Below w.heap.size w w' := by
  have hwl := hw.1
  have hcap := SW.1
  have C0 := (Bk.new w #[.slice sa sn sc, .slice ai its.length ci, .int .i64 mode, .int .i64 after, .slice aw wh.length cw, .int .i64 within, .string by_, .slice ar rl cr, .map (some bm)] 71).alloc (.cells #[.int .i64 0, .int .i64 0, .int .i64 0, .int .i64 0] 45)
  have F0 := Bk.newE (w := w.alloc (.cells #[.slice sa sn sc, .slice ai its.length ci, .int .i64 mode, .int .i64 after, .slice aw wh.length cw, .int .i64 within, .string by_, .slice ar rl cr, .map (some bm)] 71)) (g := w.heap.size + 1) (by simp) #[.int .i64 0, .int .i64 0, .int .i64 0, .int .i64 0] 45
  have B0 := galloc (galloc (Below.refl w.heap.size w) (.cells #[.slice sa sn sc, .slice ai its.length ci, .int .i64 mode, .int .i64 after, .slice aw wh.length cw, .int .i64 within, .string by_, .slice ar rl cr, .map (some bm)] 71)) (.cells #[.int .i64 0, .int .i64 0, .int .i64 0, .int .i64 0] 45)
  have cC := conjuncts_any wh aw cw _ (AW.keep B0) hwl hw.2 (K.keep B0)
  obtain ⟨rf, hrr⟩ : ∃ rf, cjE its M wh = rf := ⟨_, rfl⟩
  rw [hrr]
  have HR : Hid ((match firstAt (cjF its M wh) (conjO wh).length 0 with | some k => (⟨77, 4, (conjO wh).getD k 0, 0⟩ : Fl) | none => noFl) = rf) := hrr
  clear hrr
  have hin := conj_in wh
  have hcf : ∀ k, cjF its M wh k = if mixB its M (segL wh ((conjO wh).getD k 0).toNat) = true then 1 else 0 := fun _ => rfl
  generalize conjO wh = rs at *
  go_enter Tryz.func31, Tryz.ntmps31
  go_wp2_with (go_at_call 15; (with_reducible refine cC.mono ?_); rintro _ V ⟨v, rfl, O1, gV⟩; obtain ⟨ra, rcap, rfl, _, _, _⟩ := own_form O1; have BV := gtrans B0 gV; have CV := C0.keep gV; have FV := F0.keep gV)
  have IV := ints_own O1
  clear O1 cC
  go_loopw [5, 12] (fun _ x wr => (∃ k : Nat, k ≤ rs.length ∧ x = .int .i64 k ∧ firstAt (cjF its M wh) rs.length 0 = firstAt (cjF its M wh) rs.length k) ∧ Below V.heap.size V wr) (fun _ x _ => rs.length - (intOf x).toNat)
  case atStart => exact ⟨⟨0, Nat.zero_le _, rfl, rfl⟩, Below.refl _ _⟩
  case round =>
    obtain ⟨⟨k, hk, rfl, hd⟩, G⟩ := hrel
    have BW := gtrans BV G
    have FW := FV.keep G
    have CW := CV.keep G
    obtain ⟨f0, f1, f2, f3⟩ := FW.at4
    have ff := FW.free
    by_cases hlt : k < rs.length
    · have hki : (k : Int) < (rs.length : Int) := by omega
      obtain ⟨hT, r, hrk, hrl⟩ := hin k hlt
      obtain ⟨_, _, _, KN⟩ := tree_bs hT
      have hle := (KN r hrl).le
      obtain ⟨g, o, rfl, z0⟩ := (IV.keep G) k hlt
      rw [hrk] at z0
      have hck := hcf k
      rw [hrk, Int.toNat_natCast] at hck
      have cB := fun (u : World) (g' : Below w.heap.size w u) => begin_any wh (bsOf wh) KN r hrl _ cw u (AW.keep g') hwl
      obtain ⟨gw, ow, rfl, _⟩ := AW r hrl
      have As := nds_sub AW (bg (bsOf wh) r) (r + 1 - bg (bsOf wh) r) (by omega)
      have hsf : ndsFit (segL wh r) := by
        unfold segL
        refine ⟨by simp; omega, fun k => ?_⟩
        rw [List.getD_eq_getElem?_getD, List.getElem?_take]
        split
        · rw [List.getElem?_drop, ← List.getD_eq_getElem?_getD]; exact hw.2 _
        · exact noNd_fit
      have hsl : (segL wh r).length = r + 1 - bg (bsOf wh) r := by unfold segL; simp; omega
      have cM := fun (u : World) (g' : Below w.heap.size w u) (c : Nat) => mixes_any L its hn hits M hM sa sn sc ai ci mode after (some ⟨gw, ow, none⟩) wh.length cw within by_ ar rl cr bm nm (segL wh r) hsf _ c u (AI.keep g') (As.keep g') (MP.keep g')
      rw [hsl] at cM
      generalize mixB its M (segL wh r) = mb at *
      generalize bg (bsOf wh) r = b at *
      have hcb : ¬ cw = b := by omega
      have hbi : (b : Int) ≤ (r : Int) + 1 := by omega
      have hri : (r : Int) + 1 ≤ (cw : Int) := by omega
      have hri2 : (r : Int) ≤ 2199023255488 := by omega
      have hwr : IntKind.i64.wrap ((r : Int) + 1) = (r : Int) + 1 := by rw [IntKind.wrap_i64]; omega
      have hSn : ∀ Y, Below wr.heap.size wr Y → Y.cell? ⟨w.heap.size, 0, none⟩ = some (.slice sa sn sc) ∧ Y.cell? ⟨w.heap.size, 1, none⟩ = some (.slice ai its.length ci) ∧ Y.cell? ⟨w.heap.size, 2, none⟩ = some (.int .i64 mode) ∧ Y.cell? ⟨w.heap.size, 3, none⟩ = some (.int .i64 after) ∧ Y.cell? ⟨w.heap.size, 4, none⟩ = some (.slice (some ⟨gw, ow, none⟩) wh.length cw) ∧ Y.cell? ⟨w.heap.size, 5, none⟩ = some (.int .i64 within) ∧ Y.cell? ⟨w.heap.size, 6, none⟩ = some (.string by_) ∧ Y.cell? ⟨w.heap.size, 7, none⟩ = some (.slice ar rl cr) ∧ Y.cell? ⟨w.heap.size, 8, none⟩ = some (.map (some bm)) := fun Y G => (CW.keep G).at9
      have Gd := (Below.refl wr.heap.size wr).drew
      have hSd := hSn _ Gd
      clear KN hT As hsf hsl hin
      have HD := show Hid (_ = _) from hd
      clear hd
      go_upto_region 5 with fail
      go_region_held3 (fun Y : World => Y.cell? ⟨w.heap.size, 0, none⟩ = some (.slice sa sn sc) ∧ Y.cell? ⟨w.heap.size, 1, none⟩ = some (.slice ai its.length ci) ∧ Y.cell? ⟨w.heap.size, 2, none⟩ = some (.int .i64 mode) ∧ Y.cell? ⟨w.heap.size, 3, none⟩ = some (.int .i64 after) ∧ Y.cell? ⟨w.heap.size, 4, none⟩ = some (.slice (some ⟨gw, ow, none⟩) wh.length cw) ∧ Y.cell? ⟨w.heap.size, 5, none⟩ = some (.int .i64 within) ∧ Y.cell? ⟨w.heap.size, 6, none⟩ = some (.string by_) ∧ Y.cell? ⟨w.heap.size, 7, none⟩ = some (.slice ar rl cr) ∧ Y.cell? ⟨w.heap.size, 8, none⟩ = some (.map (some bm))) (first | (with_reducible exact hSd) | (with_reducible exact hSu) | (with_reducible exact hSv)) (first
        | (go_at_call 21; (with_reducible refine (cB _ (gtrans BW Gd)).mono ?_); rintro _ u ⟨rfl, gu⟩; have GU := gtrans Gd gu; have hSu := hSn _ GU)
        | (go_at_call 54; (with_reducible refine (cM _ (gtrans BW GU) _).mono ?_); rintro _ v ⟨rfl, gv⟩; have GV := gtrans GU gv; have hSv := hSn _ GV))
      have BX := gtrans BW GV
      have FX := FW.keep GV
      obtain ⟨x0, x1, x2, x3⟩ := FX.at4
      have xf := FX.free
      cases mb
      · have HD2 : Hid (firstAt (cjF its M wh) rs.length 0 = firstAt (cjF its M wh) rs.length (k + 1)) := by
          show _ = _
          rw [HD.out, firstAt_go hlt (by rw [hck]; rfl)]
        clear HD hck
        go_wp2
        go_roundw
        case rel => exact ⟨⟨k + 1, by omega, by go_num, HD2.out⟩, gtrans G GV⟩
        case measure => simp [intOf]; omega
      · have e : (⟨77, 4, (r : Int), 0⟩ : Fl) = rf := by
          have h1 := HD.out
          rw [firstAt_hit hlt (by rw [hck]; decide)] at h1
          rw [← HR.out, h1]
          dsimp only
          rw [hrk]
        subst e
        clear HD hck HR
        go_wp2
        refine bodyPost_ret (v := .agg #[.int .i64 77, .int .i64 4, .int .i64 (r : Int), .int .i64 0]) (by simp [results, Tryz.results31, go_sem, x0, x1, x2, x3]) rfl ⟨rfl, ?_⟩
        exact gset (gset (gset (gset BX (by simp) _) (by simp) _) (by simp) _) (by simp) _
    · have hki : ¬ (k : Int) < (rs.length : Int) := by omega
      rw [firstAt_end hlt] at hd
      have e : noFl = rf := by rw [← HR.out, hd]
      subst e
      clear hd HR
      go_wp2
      refine bodyPost_ret (v := .agg #[.int .i64 0, .int .i64 0, .int .i64 0, .int .i64 0]) (by simp [results, Tryz.results31, go_sem, f0, f1, f2, f3]) rfl ⟨rfl, ?_⟩
      exact gset (gset (gset (gset BW (by simp) _) (by simp) _) (by simp) _) (by simp) _

end Go.Proofs.YtlejhococjlijaaGreatDoor
