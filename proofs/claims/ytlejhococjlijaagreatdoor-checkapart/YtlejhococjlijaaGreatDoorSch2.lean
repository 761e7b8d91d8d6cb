/- What event's and the document's own AttrOf and the law's sameSchema come to. -/
import Derived.Test.YtlejhococjlijaaGreatDoorSch
namespace Go.Proofs.YtlejhococjlijaaGreatDoor
open Go.RowKit Go.BigFrame
set_option linter.unusedVariables false
set_option linter.unusedSimpArgs false

def hitS (name s : ByteArray) : Bool := s.toList == name.toList
/-- The first place ahead of the ninth at which the list has that name, or -1. -/
def placeI (ss : List ByteArray) (name : ByteArray) : Int := if ss.findIdx (hitS name) < ss.length ∧ ss.findIdx (hitS name) < 8 then (ss.findIdx (hitS name) : Int) else -1
theorem placeI_hit (ss : List ByteArray) (name : ByteArray) (k : Nat) (hk : k < ss.length) (h8 : k < 8) (h1 : hitS name (ss.getD k .empty) = true) (h2 : ∀ j, j < k → hitS name (ss.getD j .empty) = false) : placeI ss name = k := by
  have e : ss.findIdx (hitS name) = k := by
    rw [List.findIdx_eq hk]
    refine ⟨by simpa [List.getD, List.getElem?_eq_getElem hk] using h1, fun j hj => ?_⟩
    have := h2 j hj
    simpa [List.getD, List.getElem?_eq_getElem (show j < ss.length by omega)] using this
  unfold placeI
  rw [e, if_pos ⟨hk, h8⟩]
theorem placeI_none (ss : List ByteArray) (name : ByteArray) (h2 : ∀ j, j < ss.length → j < 8 → hitS name (ss.getD j .empty) = false) : placeI ss name = -1 := by
  unfold placeI
  rw [if_neg]
  intro ⟨h, h8⟩
  have h1 := List.findIdx_getElem (xs := ss) (p := hitS name) (w := h)
  have := h2 _ h h8
  simp only [List.getD, List.getElem?_eq_getElem h, Option.getD_some] at this
  rw [h1] at this
  exact absurd this (by decide)
/-- The place of an attribute of a type. -/
def attrI (L : List Ty) (typ : Int) (name : ByteArray) : Int :=
  if 0 ≤ typ ∧ typ < L.length then (if (name.toList == [116, 115]) = true then -2 else placeI (L.getD typ.toNat noTy).2 name) else -1

set_option maxHeartbeats 400000 in
theorem hasType_any (ao : Option Addr) (n cap : Nat) (typ : Int) (w : World) (hn : n ≤ 9223372036854775807) :
    Calls Tryz.prog 92 #[.agg #[.slice ao n cap], .int .i64 typ] w fun e w' => e = .returned (.bool (decide (0 ≤ typ ∧ typ < (n : Int)))) ∧ Below w.heap.size w w' := by
  by_cases h0 : 0 ≤ typ
  · by_cases h1 : typ < (n : Int)
    · rw [decide_eq_true ⟨h0, h1⟩]
      go_enter Tryz.func92, Tryz.ntmps92
      go_wp2
      all_goals (go_ret; exact ⟨by first | rfl | simp [h0, h1], galloc (Below.refl _ _) _⟩)
    · rw [decide_eq_false (fun e => h1 e.2)]
      go_enter Tryz.func92, Tryz.ntmps92
      go_wp2
      all_goals (go_ret; exact ⟨by first | rfl | simp [h0, h1], galloc (Below.refl _ _) _⟩)
  · rw [decide_eq_false (fun e => h0 e.1)]
    have h2 : typ < 0 := by omega
    go_enter Tryz.func92, Tryz.ntmps92
    go_wp2
    all_goals (go_ret; exact ⟨by first | rfl | simp [h0], galloc (Below.refl _ _) _⟩)

set_option maxRecDepth 100000 in
set_option maxHeartbeats 1000000 in
theorem attrOf_any (ao : Option Addr) (n cap : Nat) (L : List Ty) (typ : Int) (name : ByteArray) (w : World) (h : IsTypes w ao n L) :
    Calls Tryz.prog 81 #[.agg #[.slice ao n cap], .int .i64 typ, .string name] w fun e w' => e = .returned (.int .i64 (attrI L typ name)) ∧ Below w.heap.size w w' := by
  have hL := h.1
  have hn := h.2.1
  have B := galloc (Below.refl w.heap.size w) (.cells #[.slice ao n cap] 34)
  have O := One.new w (.slice ao n cap) 34
  have ch := hasType_any ao n cap typ
  by_cases hin : 0 ≤ typ ∧ typ < (n : Int)
  · obtain ⟨t, rfl⟩ := Int.eq_ofNat_of_zero_le hin.1
    have ht : t < n := by omega
    have ea : attrI L (t : Int) name = if (name.toList == [116, 115]) = true then -2 else placeI (L.getD t noTy).2 name := by unfold attrI; rw [if_pos (by rw [hL]; exact hin)]; simp
    rw [ea]
    simp only [decide_eq_true hin] at ch
    clear ea hin
    cases hts : (name.toList == [116, 115])
    · rw [if_neg (by decide)]
      go_enter Tryz.func81, Tryz.ntmps81
      obtain ⟨_, _, q4⟩ := h.keep B
      rcases q4 with q4 | ⟨b, off, eb, hb, hcb⟩
      · omega
      subst eb
      obtain ⟨_, aj, cj, f2, _, hs⟩ := hcb t ht
      obtain ⟨ss, hss⟩ : ∃ ss, ss = (L.getD t noTy).2 := ⟨_, rfl⟩
      rw [← hss] at f2 hs ⊢
      obtain ⟨m, hm⟩ : ∃ m, m = ss.length := ⟨_, rfl⟩
      rw [← hm] at f2 hs
      have hm2 : ss.length = m := hm.symm
      clear hcb hss hm
      generalize hV : w.alloc (.cells #[.slice (some ⟨b, off, none⟩) n cap] 34) = V at B O hb f2 hs
      go_upto_region 1 with fail
      clear hV
      have o0 := O.at0
      go_upto_region 3 with (go_at_call 92; with_reducible refine (ch _ hn).mono ?_; rintro e u ⟨rfl, g⟩)
      replace O := O.keep g
      replace B := gtrans B g
      replace f2 := (g.cell (p := ⟨b, off + t * 2 + 1, none⟩) hb).trans f2
      replace hs := hs.keep g
      replace o0 := O.at0
      clear g O ch h
      go_wp2
      go_loop [22] (fun i => ∃ k : Nat, k ≤ m ∧ k ≤ 8 ∧ i = .int .i64 k ∧ (∀ j, j < k → hitS name (ss.getD j .empty) = false)) (fun i => 9 - (intOf i).toNat)
      case atStart => exact ⟨0, Nat.zero_le _, Nat.zero_le _, rfl, fun j hj => absurd hj (Nat.not_lt_zero _)⟩
      case round =>
        obtain ⟨k, hk, h8, rfl, hno⟩ := hrel
        by_cases hlt : k < m
        · obtain ⟨_, r2, r4⟩ := hs
          rcases r4 with r4 | ⟨b2, off2, eb2, hb2, hcb2⟩
          · omega
          subst eb2
          obtain ⟨x, hx⟩ : ∃ x, x = ss.getD k .empty := ⟨_, rfl⟩
          have f3 := hcb2 k hlt
          rw [← hx] at f3
          have HH : Hid (hitS name (ss.getD k .empty) = (x.toList == name.toList)) := by show _ = _; unfold hitS; rw [hx]
          clear hcb2 hx
          by_cases hk8 : k = 8
          · subst hk8
            go_wp2
            go_ret
            exact ⟨by rw [placeI_none ss name (fun j _ hj => hno j hj)]; rfl, B⟩
          · have hkk : ((k : Int) == 8) = false := by simp; omega
            cases hc : (x.toList == name.toList)
            · go_wp2
              go_round
              case rel => exact ⟨k + 1, by omega, by omega, by go_num, more (p := fun j => hitS name (ss.getD j .empty)) hno (HH.out.trans hc)⟩
              case measure => simp [intOf]; omega
            · go_wp2
              go_ret
              exact ⟨by rw [placeI_hit ss name k (by omega) (by omega) (HH.out.trans hc) hno]; rfl, B⟩
        · obtain rfl : k = m := by omega
          have r2 := hs.2.1
          go_wp2
          go_ret
          exact ⟨by rw [placeI_none ss name (fun j hj _ => hno j (by omega))]; rfl, B⟩
    · rw [if_pos rfl]
      go_enter Tryz.func81, Tryz.ntmps81
      have o0 := O.at0
      go_wp2_with (go_at_call 92; with_reducible refine (ch _ hn).mono ?_; rintro e u ⟨rfl, g⟩)
      go_ret
      exact ⟨rfl, gtrans B g⟩
  · have ea : attrI L typ name = -1 := by unfold attrI; rw [if_neg (by rw [hL]; exact hin)]
    rw [ea]
    simp only [decide_eq_false hin] at ch
    go_enter Tryz.func81, Tryz.ntmps81
    have o0 := O.at0
    go_wp2_with (go_at_call 92; with_reducible refine (ch _ hn).mono ?_; rintro e u ⟨rfl, g⟩)
    go_ret
    exact ⟨rfl, gtrans B g⟩

/-- The same types and attributes? -/
def eqS (L M : List Ty) : Bool := decide (L.length = M.length ∧ ∀ j, j < L.length → ((L.getD j noTy).1.toList == (M.getD j noTy).1.toList) = true ∧ eqB (L.getD j noTy).2 (M.getD j noTy).2 = true)

end Go.Proofs.YtlejhococjlijaaGreatDoor
