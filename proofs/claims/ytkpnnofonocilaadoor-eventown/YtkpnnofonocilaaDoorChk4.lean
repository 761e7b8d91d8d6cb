/- What event's and the document's CheckEvent come to: the same. -/
import Derived.Test.YtkpnnofonocilaaDoorChk3
namespace Go.Proofs.YtkpnnofonocilaaDoor
open Go.RowKit Go.BigFrame
set_option linter.unusedVariables false
set_option linter.unusedSimpArgs false

structure Ev where
  ts : Int
  id : Int
  typ : Int
  a0 : Int
  a1 : Int
  a2 : Int
  a3 : Int
  a4 : Int
  a5 : Int
  a6 : Int
  a7 : Int
def Ev.at (e : Ev) (j : Nat) : Int := [e.a0, e.a1, e.a2, e.a3, e.a4, e.a5, e.a6, e.a7].getD j 0
/-- The numbers of an event are of their types. -/
structure Ev.ok (e : Ev) : Prop where
  t0 : -9223372036854775808 ≤ e.ts
  t1 : e.ts ≤ 9223372036854775807
  i0 : 0 ≤ e.id
  i1 : e.id < 18446744073709551616
  at0 : ∀ j, j < 8 → -9223372036854775808 ≤ e.at j
  at1 : ∀ j, j < 8 → e.at j ≤ 9223372036854775807
def evC (e : Ev) : Array Value := #[.int .i64 e.ts, .int .u64 e.id, .int .i64 e.typ, .int .i64 e.a0, .int .i64 e.a1, .int .i64 e.a2, .int .i64 e.a3, .int .i64 e.a4, .int .i64 e.a5, .int .i64 e.a6, .int .i64 e.a7]
/-- An event in memory. -/
def Evt (w : World) (b : Nat) (e : Ev) : Prop := w.heap[b]? = some (.cells (evC e) 44 (0, 0))
theorem Evt.lt {w : World} {b : Nat} {e : Ev} (h : Evt w b e) : b < w.heap.size := lt_of_block h
theorem Evt.keep {w u : World} {b : Nat} {e : Ev} (h : Evt w b e) (G : Below w.heap.size w u) : Evt u b e := (G.block b h.lt).trans h
theorem Evt.alloc {w : World} {b : Nat} {e : Ev} (h : Evt w b e) (o : Obj) : Evt (w.alloc o) b e := (Below.heap_alloc w o b h.lt).trans h
theorem Evt.new (w : World) (e : Ev) : Evt (w.alloc (.cells (evC e) 44)) w.heap.size e := by
  show (w.heap.push _)[w.heap.size]? = _
  simp
theorem Evt.ats {w : World} {b : Nat} {e : Ev} (h : Evt w b e) (j : Nat) (hj : j < 8) : w.cell? ⟨b, 3 + j, none⟩ = some (.int .i64 (e.at j)) := by
  unfold Evt at h
  rcases (show j = 0 ∨ j = 1 ∨ j = 2 ∨ j = 3 ∨ j = 4 ∨ j = 5 ∨ j = 6 ∨ j = 7 from by omega) with rfl | rfl | rfl | rfl | rfl | rfl | rfl | rfl <;> simp [World.cell?, h, evC, Ev.at]
theorem Evt.head {w : World} {b : Nat} {e : Ev} (h : Evt w b e) : w.cell? ⟨b, 0, none⟩ = some (.int .i64 e.ts) ∧ w.cell? ⟨b, 1, none⟩ = some (.int .u64 e.id) ∧ w.cell? ⟨b, 2, none⟩ = some (.int .i64 e.typ) := by
  unfold Evt at h
  refine ⟨?_, ?_, ?_⟩ <;> simp [World.cell?, h, evC]

def spareB (m : Nat) (e : Ev) : Bool := (List.range 8).any fun j => decide (m ≤ j) && !(e.at j == 0)
theorem spareB_yes (m : Nat) (e : Ev) (j : Nat) (h1 : m ≤ j) (h2 : j < 8) (h3 : e.at j ≠ 0) : spareB m e = true := List.any_eq_true.2 ⟨j, List.mem_range.2 h2, by simp [h1, h3]⟩
theorem spareB_no (m : Nat) (e : Ev) (h : ∀ j, m ≤ j → j < 8 → e.at j = 0) : spareB m e = false := by
  unfold spareB
  rw [List.any_eq_false]
  intro j hj
  have h2 := List.mem_range.1 hj
  by_cases h1 : m ≤ j
  · simp [h j h1 h2]
  · simp [h1]
def evE (L : List Ty) (e : Ev) : Int :=
  if schE L ≠ 0 then schE L else if ¬ (0 ≤ e.typ ∧ e.typ < (L.length : Int)) then 27
  else if spareB (L.getD e.typ.toNat noTy).2.length e = true then 28 else if ¬ (-1152921504606846976 ≤ e.ts ∧ e.ts ≤ 1152921504606846976) then 29 else 0

theorem firstE_zero (f : Nat → Int) (n : Nat) (h : firstE f n = 0) (j : Nat) (hj : j < n) : f j = 0 := by
  unfold firstE at h
  cases e : ((List.range n).map f).find? (fun z => !(z == 0)) with
  | none =>
    rw [List.find?_eq_none] at e
    have := e (f j) (List.mem_map.2 ⟨j, List.mem_range.2 hj, rfl⟩)
    simpa using this
  | some z =>
    rw [e] at h
    have := List.find?_some e
    simp at this h
    exact absurd h this
theorem sch_len (L : List Ty) (h : schE L = 0) (j : Nat) (hj : j < L.length) : (L.getD j noTy).2.length ≤ 8 := by
  unfold schE at h
  split at h
  · exact absurd h (by decide)
  have h1 := firstE_zero _ _ h j hj
  unfold typeE typeF at h1
  split at h1
  · rename_i h2; exact absurd h1 h2
  split at h1
  · exact absurd h1 (by decide)
  · omega

set_option maxHeartbeats 400000 in
theorem isSafe_any (t : Int) (w : World) : Calls Tryd.prog 40 #[.int .i64 t] w fun e w' => e = .returned (.bool (decide (-1152921504606846976 ≤ t ∧ t ≤ 1152921504606846976))) ∧ w = w' := by
  obtain ⟨v, hv⟩ : ∃ v, decide (-1152921504606846976 ≤ t ∧ t ≤ 1152921504606846976) = v := ⟨_, rfl⟩
  rw [hv]
  have HV : Hid (decide (-1152921504606846976 ≤ t ∧ t ≤ 1152921504606846976) = v) := hv
  clear hv
  by_cases a : -1152921504606846976 ≤ t <;> by_cases b : t ≤ 1152921504606846976
  all_goals
    go_enter Tryd.func40, Tryd.ntmps40
    go_wp2
    go_ret
    refine ⟨congrArg (fun b => Ending.returned (Value.bool b)) (Eq.trans ?_ HV.out), rfl⟩
    first | exact (decide_eq_true (by omega)).symm | exact (decide_eq_false (by omega)).symm

set_option maxRecDepth 100000 in
set_option maxHeartbeats 2000000 in
theorem checkEvent_any (ao : Option Addr) (n cap : Nat) (L : List Ty) (e : Ev) (w : World) (h : IsTypes w ao n L) (hnc : n ≤ cap) (K : KwAt w) :
    Calls Tryd.prog 22 #[.agg #[.slice ao n cap], .agg (evC e)] w fun en w' => en = .returned (.int .i64 (evE L e)) ∧ Below w.heap.size w w' := by
  have hL := h.1
  have hn := h.2.1
  have B := galloc (galloc (Below.refl w.heap.size w) (.cells #[.slice ao n cap] 24)) (.cells (evC e) 44)
  have O := (One.new w (.slice ao n cap) 24).alloc (.cells (evC e) 44)
  have E := Evt.new (w.alloc (.cells #[.slice ao n cap] 24)) e
  rw [show (w.alloc (.cells #[.slice ao n cap] 24)).heap.size = w.heap.size + 1 by simp] at E
  obtain ⟨z, hz⟩ : ∃ z, z = evE L e := ⟨_, rfl⟩
  rw [← hz]
  have HZ : Hid (z = evE L e) := hz
  clear hz
  go_enter Tryd.func22, Tryd.ntmps22
  go_upto_region 1 with fail
  generalize hV : (w.alloc (.cells #[.slice ao n cap] 24)).alloc (.cells (evC e) 44) = V at B O E ⊢
  clear hV
  replace h := h.keep B
  replace K := K.keep B
  have o0 := O.at0
  have c1 := checkSchema_any ao n cap L V h hnc K
  obtain ⟨a, ha⟩ : ∃ a, a = schE L := ⟨_, rfl⟩
  rw [← ha] at c1
  by_cases h0 : a = 0
  · subst h0
    have hlen := sch_len L ha.symm
    rw [hL] at hlen
    have HZ : Hid (z = if ¬ (0 ≤ e.typ ∧ e.typ < (n : Int)) then 27 else if spareB (L.getD e.typ.toNat noTy).2.length e = true then 28 else if ¬ (-1152921504606846976 ≤ e.ts ∧ e.ts ≤ 1152921504606846976) then 29 else 0) := by
      show _ = _
      rw [HZ.out]; unfold evE; rw [← ha, if_neg (by decide), hL]
    clear ha
    go_upto_region 4 with (go_at_call 15; with_reducible refine c1.mono ?_; rintro en u ⟨rfl, g⟩)
    replace h := h.keep g
    replace B := gtrans B g
    replace O := O.keep g
    replace E := E.keep g
    clear c1 g o0 K
    have o0 := O.at0
    obtain ⟨e0, e1, e2⟩ := E.head
    have eat := E.ats
    have c2 := hasType_any ao n cap e.typ u hn
    obtain ⟨ts, hts⟩ : ∃ ts, ts = e.ts := ⟨_, rfl⟩
    obtain ⟨typ, htyp⟩ : ∃ typ, typ = e.typ := ⟨_, rfl⟩
    rw [← hts] at e0
    rw [← htyp] at e2 c2
    have HZ : Hid (z = if ¬ (0 ≤ typ ∧ typ < (n : Int)) then 27 else if spareB (L.getD typ.toNat noTy).2.length e = true then 28 else if ¬ (-1152921504606846976 ≤ ts ∧ ts ≤ 1152921504606846976) then 29 else 0) := by show _ = _; rw [HZ.out, hts, htyp]
    have HTS : Hid (ts = e.ts) := hts
    have HTY : Hid (typ = e.typ) := htyp
    clear hts htyp e1
    by_cases hin : 0 ≤ typ ∧ typ < (n : Int)
    · rw [decide_eq_true hin] at c2
      obtain ⟨t, rfl⟩ := Int.eq_ofNat_of_zero_le hin.1
      have ht : t < n := by omega
      have hm8 := hlen t ht
      have h' := h
      obtain ⟨_, _, q4⟩ := h'
      rcases q4 with q4 | ⟨b, off, eb, hb, hcb⟩
      · omega
      subst eb
      obtain ⟨_, aj, cj, f2, _, _⟩ := hcb t ht
      obtain ⟨m, hm⟩ : ∃ m, m = (L.getD t noTy).2.length := ⟨_, rfl⟩
      rw [← hm] at f2 hm8
      have HZ : Hid (z = if spareB m e = true then 28 else if ¬ (-1152921504606846976 ≤ ts ∧ ts ≤ 1152921504606846976) then 29 else 0) := by
        show _ = _
        rw [HZ.out, if_neg (fun e => e hin), hm]; rfl
      clear hm hin hlen hcb h
      go_upto_region 6 with (go_at_call 39; with_reducible refine c2.mono ?_; rintro en u2 ⟨rfl, g⟩)
      replace f2 := (g.cell (p := ⟨b, off + t * 2 + 1, none⟩) hb).trans f2
      replace o0 := (O.keep g).at0
      have E2 := E.keep g
      obtain ⟨k0, k1, k2⟩ := E2.head
      rw [← HTS.out] at k0
      rw [← HTY.out] at k2
      have eat2 := E2.ats
      replace B := gtrans B g
      clear c2 g O E E2 eat k1 e0 e2
      have g1 : (m : Int) ≤ 8 := by omega
      have g2 : (0 : Int) ≤ (m : Int) := by omega
      have c3 := isSafe_any ts u2
      have HS : Hid (spareB m e = false → z = if ¬ (-1152921504606846976 ≤ ts ∧ ts ≤ 1152921504606846976) then 29 else 0) := fun hsp => by rw [HZ.out, hsp]; rfl
      by_cases h8 : m = 8
      · subst h8
        have HZ2 := HS.out (spareB_no 8 e (fun j h1 h2 => by omega))
        go_upto_region 7 with fail
        go_loop [29] (fun i => i = .int .i64 0) (fun i => 1 - (intOf i).toNat)
        case atStart => rfl
        case round =>
          subst hrel
          by_cases hr : -1152921504606846976 ≤ ts ∧ ts ≤ 1152921504606846976
          · rw [decide_eq_true hr] at c3
            have hz : z = 0 := by rw [HZ2, if_neg (fun h => h hr)]
            subst hz
            clear hr HZ2
            go_wp2_with (go_at_call 40; with_reducible refine c3.mono ?_; rintro en u3 ⟨rfl, rfl⟩)
            go_ret
            exact ⟨rfl, B⟩
          · rw [decide_eq_false hr] at c3
            have hz : z = 29 := by rw [HZ2, if_pos hr]
            subst hz
            clear hr HZ2
            go_wp2_with (go_at_call 40; with_reducible refine c3.mono ?_; rintro en u3 ⟨rfl, rfl⟩)
            go_ret
            exact ⟨rfl, B⟩
      · have h9 : m < 8 := by omega
        have h10 : ¬ 8 - m = 0 := by omega
        have h11 : ¬ 8 ≤ m := by omega
        go_upto_region 7 with fail
        obtain ⟨d, hd⟩ : ∃ d, d = 8 - m := ⟨_, rfl⟩
        rw [← hd]
        have HD : Hid (d = 8 - m) := hd
        have hd8 : d ≤ 8 := by omega
        clear hd h8
        go_loop [29] (fun i => ∃ k : Nat, k ≤ d ∧ i = .int .i64 k ∧ (∀ j, j < k → e.at (m + j) = 0)) (fun i => d - (intOf i).toNat)
        case atStart => exact ⟨0, Nat.zero_le _, rfl, fun j hj => absurd hj (Nat.not_lt_zero _)⟩
        case round =>
          obtain ⟨k, hk, rfl, hno⟩ := hrel
          by_cases hlt : k < d
          · have f := eat2 (m + k) (by have := HD.out; omega)
            have HSp : Hid (e.at (m + k) ≠ 0 → spareB m e = true) := fun h => spareB_yes m e (m + k) (by omega) (by have := HD.out; omega) h
            have HN : Hid (e.at (m + k) = 0 → ∀ j, j < k + 1 → e.at (m + j) = 0) := fun h => moreE (f := fun j => e.at (m + j)) hno h
            rw [← Nat.add_assoc] at f
            generalize e.at (m + k) = y at *
            clear eat2
            by_cases hy : y = 0
            · subst hy
              go_wp2
              go_round
              case rel => exact ⟨k + 1, by omega, by go_num, HN.out rfl⟩
              case measure => simp [intOf]; omega
            · have q5 : (y == 0) = false := by simpa using hy
              have hz : z = 28 := by rw [HZ.out, if_pos (HSp.out hy)]
              subst hz
              clear hy
              go_wp2
              go_ret
              exact ⟨rfl, B⟩
          · obtain rfl : k = d := by omega
            have HZ2 := HS.out (spareB_no m e (fun j h1 h2 => by have := hno (j - m) (by have := HD.out; omega); rwa [show m + (j - m) = j by omega] at this))
            clear eat2 hno
            by_cases hr : -1152921504606846976 ≤ ts ∧ ts ≤ 1152921504606846976
            · rw [decide_eq_true hr] at c3
              have hz : z = 0 := by rw [HZ2, if_neg (fun h => h hr)]
              subst hz
              clear hr HZ2
              go_wp2_with (go_at_call 40; with_reducible refine c3.mono ?_; rintro en u3 ⟨rfl, rfl⟩)
              go_ret
              exact ⟨rfl, B⟩
            · rw [decide_eq_false hr] at c3
              have hz : z = 29 := by rw [HZ2, if_pos hr]
              subst hz
              clear hr HZ2
              go_wp2_with (go_at_call 40; with_reducible refine c3.mono ?_; rintro en u3 ⟨rfl, rfl⟩)
              go_ret
              exact ⟨rfl, B⟩
    · rw [decide_eq_false hin] at c2
      have hz : z = 27 := by rw [HZ.out, if_pos hin]
      subst hz
      clear hin
      go_wp2_with (go_at_call 39; with_reducible refine c2.mono ?_; rintro en u2 ⟨rfl, g⟩)
      go_ret
      exact ⟨rfl, gtrans B g⟩
  · have q0 : (a == 0) = false := by simpa using h0
    have hz : z = a := by rw [HZ.out]; unfold evE; rw [← ha, if_pos h0]
    subst hz
    clear ha h0
    go_wp2_with (go_at_call 15; with_reducible refine c1.mono ?_; rintro en u ⟨rfl, g⟩)
    go_ret
    exact ⟨rfl, gtrans B g⟩


end Go.Proofs.YtkpnnofonocilaaDoor
