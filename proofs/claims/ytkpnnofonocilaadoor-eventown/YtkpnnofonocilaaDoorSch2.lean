/- What event's and the document's own AttrOf and the law's sameSchema come to. -/
import Derived.Test.YtkpnnofonocilaaDoorSch
namespace Go.Proofs.YtkpnnofonocilaaDoor
open Go.RowKit Go.BigFrame
set_option linter.unusedVariables false
set_option linter.unusedSimpArgs false

def hitS (name s : ByteArray) : Bool := s.toList == name.toList
/-- The first place ahead of the ninth at which the list has that name, or -1. -/
def placeI (ss : List ByteArray) (name : ByteArray) : Int := if ss.findIdx (hitS name) < ss.length ∧ ss.findIdx (hitS name) < 8 then (ss.findIdx (hitS name) : Int) else -1
theorem placeI_hit (ss : List ByteArray) (name : ByteArray) (k : Nat) (hk : k < ss.length) (h8 : k < 8) (h1 : hitS name (ss.getD k .empty) = true) (h2 : ∀ j, j < k → hitS name (ss.getD j .empty) = false) : placeI ss name = k := by
  have e : ss.findIdx (hitS name) = k := by
    rw [List.findIdx_eq hk]
    refine ⟨by simpa [List.getD, List.getElem?_eq_getElem hk] using h1, fun j hj => ?_⟩
    have := h2 j hj
    simpa [List.getD, List.getElem?_eq_getElem (show j < ss.length by omega)] using this
  unfold placeI
  rw [e, if_pos ⟨hk, h8⟩]
theorem placeI_none (ss : List ByteArray) (name : ByteArray) (h2 : ∀ j, j < ss.length → j < 8 → hitS name (ss.getD j .empty) = false) : placeI ss name = -1 := by
  unfold placeI
  rw [if_neg]
  intro ⟨h, h8⟩
  have h1 := List.findIdx_getElem (xs := ss) (p := hitS name) (w := h)
  have := h2 _ h h8
  simp only [List.getD, List.getElem?_eq_getElem h, Option.getD_some] at this
  rw [h1] at this
  exact absurd this (by decide)
/-- The place of an attribute of a type. -/
def attrI (L : List Ty) (typ : Int) (name : ByteArray) : Int :=
  if 0 ≤ typ ∧ typ < L.length then (if (name.toList == [116, 115]) = true then -2 else placeI (L.getD typ.toNat noTy).2 name) else -1

set_option maxHeartbeats 400000 in
theorem hasType_any (ao : Option Addr) (n cap : Nat) (typ : Int) (w : World) (hn : n ≤ 9223372036854775807) :
    Calls Tryd.prog 39 #[.agg #[.slice ao n cap], .int .i64 typ] w fun e w' => e = .returned (.bool (decide (0 ≤ typ ∧ typ < (n : Int)))) ∧ Below w.heap.size w w' := by
  by_cases h0 : 0 ≤ typ
  · by_cases h1 : typ < (n : Int)
    · rw [decide_eq_true ⟨h0, h1⟩]
      go_enter Tryd.func39, Tryd.ntmps39
      go_wp2
      all_goals (go_ret; exact ⟨by first | rfl | simp [h0, h1], galloc (Below.refl _ _) _⟩)
    · rw [decide_eq_false (fun e => h1 e.2)]
      go_enter Tryd.func39, Tryd.ntmps39
      go_wp2
      all_goals (go_ret; exact ⟨by first | rfl | simp [h0, h1], galloc (Below.refl _ _) _⟩)
  · rw [decide_eq_false (fun e => h0 e.1)]
    have h2 : typ < 0 := by omega
    go_enter Tryd.func39, Tryd.ntmps39
    go_wp2
    all_goals (go_ret; exact ⟨by first | rfl | simp [h0], galloc (Below.refl _ _) _⟩)

/-- The same types and attributes? -/
def eqS (L M : List Ty) : Bool := decide (L.length = M.length ∧ ∀ j, j < L.length → ((L.getD j noTy).1.toList == (M.getD j noTy).1.toList) = true ∧ eqB (L.getD j noTy).2 (M.getD j noTy).2 = true)

set_option maxHeartbeats 1000000 in
theorem sameSchema_any (ao bo : Option Addr) (n m c d : Nat) (L M : List Ty) (w : World) (h : IsTypes w ao n L) (k : IsTypes w bo m M) :
    Calls Tryd.prog 11 #[.agg #[.slice ao n c], .agg #[.slice bo m d]] w fun e w' => e = .returned (.bool (eqS L M)) ∧ Below w.heap.size w w' := by
  have hn := h.2.1
  have hm := k.2.1
  have h1 := h.1
  have k1 := k.1
  have B := galloc (galloc (Below.refl w.heap.size w) (.cells #[.slice ao n c] 24)) (.cells #[.slice bo m d] 24)
  have O1 := (One.new w (.slice ao n c) 24).alloc (.cells #[.slice bo m d] 24)
  have O2 := One.new (w.alloc (.cells #[.slice ao n c] 24)) (.slice bo m d) 24
  by_cases hnm : n = m
  · subst hnm
    go_enter Tryd.func11, Tryd.ntmps11
    go_wp2
    replace h := h.keep B
    replace k := k.keep B
    generalize hV : (w.alloc (.cells #[.slice ao n c] 24)).alloc (.cells #[.slice bo n d] 24) = V at B h k O1 O2 ⊢
    clear hV
    have hz : (w.alloc (.cells #[.slice ao n c] 24)).heap.size = w.heap.size + 1 := by simp
    rw [hz] at O2
    clear hz
    go_loopw [5] (fun i wr => ∃ t : Nat, t ≤ n ∧ i = .int .i64 t ∧ (∀ j, j < t → ((L.getD j noTy).1.toList == (M.getD j noTy).1.toList) = true ∧ eqB (L.getD j noTy).2 (M.getD j noTy).2 = true) ∧ Below V.heap.size V wr) (fun i _ => n - (intOf i).toNat)
    case atStart => exact ⟨0, Nat.zero_le _, rfl, fun j hj => absurd hj (Nat.not_lt_zero _), Below.refl _ _⟩
    case round =>
      obtain ⟨t, ht, rfl, hall, G⟩ := hrel
      replace O1 := O1.keep G
      replace O2 := O2.keep G
      have p0 := O1.at0
      have p1 := O2.at0
      by_cases hlt : t < n
      · obtain ⟨_, _, q4⟩ := h.keep G
        rcases q4 with q4 | ⟨b, off, eb, hb, hcb⟩
        · omega
        obtain ⟨_, _, r4⟩ := k.keep G
        rcases r4 with r4 | ⟨b2, off2, eb2, hb2, hcb2⟩
        · omega
        subst eb eb2
        obtain ⟨e1, aj, cj, e2, _, e3⟩ := hcb t hlt
        obtain ⟨d1, bj, dj, d2, _, d3⟩ := hcb2 t hlt
        obtain ⟨x, hx⟩ : ∃ x, x = (L.getD t noTy).1 := ⟨_, rfl⟩
        obtain ⟨y, hy⟩ : ∃ y, y = (M.getD t noTy).1 := ⟨_, rfl⟩
        obtain ⟨xs, hxs⟩ : ∃ xs, xs = (L.getD t noTy).2 := ⟨_, rfl⟩
        obtain ⟨ys, hys⟩ : ∃ ys, ys = (M.getD t noTy).2 := ⟨_, rfl⟩
        rw [← hx] at e1
        rw [← hy] at d1
        rw [← hxs] at e2 e3
        rw [← hys] at d2 d3
        obtain ⟨v, hv⟩ : ∃ v, v = eqB xs ys := ⟨_, rfl⟩
        have s1 := fun (z : Ext wr) => (z.cell _ _ O1.lt).trans p0
        have s2 := fun (z : Ext wr) => (z.cell _ _ O2.lt).trans p1
        have f1 := fun (z : Ext wr) => (z.cell _ _ hb).trans e1
        have f2 := fun (z : Ext wr) => (z.cell _ _ hb).trans e2
        have f3 := fun (z : Ext wr) => (z.cell _ _ hb2).trans d1
        have f4 := fun (z : Ext wr) => (z.cell _ _ hb2).trans d2
        have y1 : ∀ z : Ext wr, Calls Tryd.prog 14 #[.slice aj xs.length cj, .slice bj ys.length dj] z.X (fun e w'' => e = .returned (.bool v) ∧ ∃ m : Ext wr, w'' = m.X) := fun z => by rw [hv]; exact ext_of (sameList_any aj bj _ _ cj dj xs ys z.X (e3.keep z.h) (d3.keep z.h))
        have hne : Nonempty (Ext wr) := ⟨⟨_, Below.refl _ _⟩⟩
        have HX : Hid (((L.getD t noTy).1.toList == (M.getD t noTy).1.toList) = (x.toList == y.toList) ∧ eqB (L.getD t noTy).2 (M.getD t noTy).2 = v) := by
          show _ ∧ _
          rw [hv, hx, hy, hxs, hys]; exact ⟨rfl, rfl⟩
        generalize xs.length = xl at *
        generalize ys.length = yl at *
        clear hcb hcb2 hx hy hxs hys hv e1 e2 e3 d1 d2 d3 h k
        by_cases hc : (x.toList == y.toList) = true
        · cases v
          · go_wp2
            refine wp_region_ext (by kernel_rfl) (by kernel_rfl) ?_
            repeat (go_big_quiet_step (first | (go_at_call 14; with_reducible exact y1 _)))
            refine wpQuiet_nil ?_
            intro _ hw'
            obtain ⟨nxw, hw''⟩ := hw'
            subst hw''
            go_wp2
            go_ret
            refine ⟨?_, gtrans B (gtrans G nxw.h)⟩
            have : eqS L M = false := by
              unfold eqS
              rw [decide_eq_false]
              intro ⟨_, e⟩
              have := (e t (by omega)).2
              rw [HX.out.2] at this
              exact absurd this (by decide)
            rw [this]; rfl
          · go_wp2
            refine wp_region_ext (by kernel_rfl) (by kernel_rfl) ?_
            repeat (go_big_quiet_step (first | (go_at_call 14; with_reducible exact y1 _)))
            refine wpQuiet_nil ?_
            intro _ hw'
            obtain ⟨nxw, hw''⟩ := hw'
            subst hw''
            go_wp2
            go_roundw
            case rel => exact ⟨t + 1, by omega, by go_num, fun j hj => by
              rcases Nat.lt_or_ge j t with e | e
              · exact hall j e
              · obtain rfl : j = t := by omega
                exact ⟨HX.out.1.trans hc, HX.out.2⟩, gtrans G nxw.h⟩
            case measure => simp [intOf]; omega
        · have hc' : (x.toList == y.toList) = false := by simpa using hc
          clear hc
          go_wp2
          refine wp_region_ext (by kernel_rfl) (by kernel_rfl) ?_
          repeat (go_big_quiet_step (first | (go_at_call 14; with_reducible exact y1 _)))
          refine wpQuiet_nil ?_
          intro _ hw'
          obtain ⟨nxw, hw''⟩ := hw'
          subst hw''
          go_wp2
          go_ret
          refine ⟨?_, gtrans B (gtrans G nxw.h)⟩
          have : eqS L M = false := by
            unfold eqS
            rw [decide_eq_false]
            intro ⟨_, e⟩
            have := (e t (by omega)).1
            rw [HX.out.1, hc'] at this
            exact absurd this (by decide)
          rw [this]; rfl
      · obtain rfl : t = n := by omega
        go_wp2
        go_ret
        refine ⟨?_, gtrans B G⟩
        have : eqS L M = true := by unfold eqS; exact decide_eq_true ⟨by omega, fun j hj => hall j (by omega)⟩
        rw [this]; rfl
  · have hb : eqS L M = false := by unfold eqS; exact decide_eq_false (fun e => hnm (by omega))
    rw [hb]
    have hne : ((n : Int) == (m : Int)) = false := by simp; omega
    go_enter Tryd.func11, Tryd.ntmps11
    go_wp2
    all_goals (go_ret; exact ⟨rfl, B⟩)

end Go.Proofs.YtkpnnofonocilaaDoor
