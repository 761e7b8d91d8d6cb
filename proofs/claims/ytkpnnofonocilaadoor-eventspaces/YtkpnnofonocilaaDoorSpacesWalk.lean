/- The walk of the law EventSpaces. -/
import Derived.Test.YtkpnnofonocilaaDoorLt
import Derived.Test.YtkpnnofonocilaaDoorSd
namespace Go.Proofs.YtkpnnofonocilaaDoor.eventSpaces
open Go.RowKit Go.BigFrame
set_option linter.unusedVariables false
set_option linter.unusedSimpArgs false

theorem eqS_self (L : List Ty) : eqS L L = true := by
  unfold eqS
  refine decide_eq_true ⟨rfl, fun j hj => ⟨by simp, ?_⟩⟩
  unfold eqB
  simp

set_option maxRecDepth 100000 in
set_option maxHeartbeats 8000000 in
theorem walk (ao : Option Addr) (n cap : Nat) (L : List Ty) (hnc : n ≤ cap) (zo : Option Addr) (zc : Nat) (zs : List Int) (note : ByteArray) (hno : note.size ≤ 140737488351232) (w : World) (K : KwAt w) (E : ErAt w) (h : IsTypes w ao n L) (hr : n * 40 ≤ 140737488351232) (hrs : ∀ j, (L.getD j noTy).2.length * 16 ≤ 140737488351232) (hzc : zs.length ≤ zc) (A : IsInts w zo zs) (hzr : zs.length * 8 ≤ 140737488351232) :
    Calls Tryd.prog 5 #[.agg #[.slice ao n cap], .slice zo zs.length zc, .string note] w fun en w' => en = .returned (.bool true) ∧ Below w.heap.size w w' := by
  have hn := h.2.1
  have B := galloc (Below.refl w.heap.size w) (.cells #[.slice ao n cap] 24)
  have O := One.new w (.slice ao n cap) 24
  obtain ⟨m, hm⟩ : ∃ m, zs.length = m := ⟨_, rfl⟩
  rw [hm]
  go_enter Tryd.func5, Tryd.ntmps5
  go_upto_region 1 with fail
  generalize hV : w.alloc (.cells #[.slice ao n cap] 24) = X at B O ⊢
  clear hV
  replace h := h.keep B
  replace K := K.keep B
  replace E := E.keep B
  replace A := A.keep B
  have o0 := O.at0
  have c := started_any X K E
  go_upto_region 3 with (go_at_call 12; with_reducible refine c.mono ?_; rintro en u ⟨rfl, g⟩)
  clear c
  replace h := h.keep g
  replace K := K.keep g
  replace A := A.keep g
  replace B := gtrans B g
  replace O := O.keep g
  replace o0 := O.at0
  clear g E
  have c2 := checkSchema_any ao n cap L u h hnc K
  by_cases h0 : schE L = 0
  · rw [h0] at c2
    have hls := losL_len zs note L (fun t ht => by
      obtain ⟨j, hj, rfl⟩ := List.mem_iff_getElem.1 ht
      have e1 : L.getD j noTy = L[j] := by simp [List.getD, List.getElem?_eq_getElem hj]
      have := (sch_tiny L h0).2 j hj
      rw [e1] at this
      exact ⟨this.1, fun x hx => name_size ((sch_names h0 _ ht).2 x hx), this.2.1⟩) L.length (Nat.le_refl _)
    have h16 := (sch_tiny L h0).1
    have hsz : (losL zs note L L.length).length ≤ 50000000000000000 := by
      have : L.length * (20 * note.size + 239) ≤ 16 * (20 * note.size + 239) := Nat.mul_le_mul_right _ h16
      omega
    have hto := los_toks zs note h0
    have hL := h.1
    go_upto_region 5 with (go_at_call 15; with_reducible refine c2.mono ?_; rintro en u1 ⟨rfl, g1⟩)
    have c3 := loose_any ao n cap L u1 (h.keep g1) h0 zs zo zc (by omega) note hno (A.keep g1)
    rw [hm] at c3
    obtain ⟨tx, htx⟩ : ∃ tx, tx = (⟨(losL zs note L L.length).toArray⟩ : ByteArray) := ⟨_, rfl⟩
    have hts : tx.size ≤ 50000000000000000 := by rw [htx, size_mk]; exact hsz
    have HX : Hid (tx.size ≤ 4096 → scO tx = (L, 0, 0)) := fun hh => scO_tkf tx hh L (by rw [htx]; exact hto)
    rw [← htx] at c3
    clear htx hto hsz hls h16 c2 o0
    have o1 := (O.keep g1).at0
    go_upto_region 6 with (go_at_call 16; with_reducible refine c3.mono ?_; rintro en u2 ⟨rfl, g2⟩)
    have G2 := gtrans g1 g2
    have c4 := parseSchema_any tx (by omega) u2 (K.keep G2)
    clear c3 o1
    by_cases hbig : 4096 < tx.size
    · have hsc : scO tx = ([], 20, 4096) := by unfold scO; rw [if_pos hbig]
      rw [hsc] at c4
      replace c4 : Calls Tryd.prog 9 #[.string tx] u2 fun e w' => ∃ v, e = .returned (.tuple #[.agg #[v], .int .i64 20, .int .i64 4096]) ∧ OwnP u2.heap.size w' v 0 [] ∧ Below u2.heap.size u2 w' := c4
      have q1 : (4096 : Int) < (tx.size : Int) := by omega
      go_upto_region 7 with (go_at_call 9; with_reducible refine c4.mono ?_; rintro en u3 ⟨v, rfl, T, g3⟩; obtain ⟨av, cv, rfl, hTy⟩ := T.own.types)
      have G3 := galloc (gtrans G2 g3) (.cells #[.slice av 0 cv] 24)
      have O1 := One.new u3 (.slice av 0 cv) 24
      generalize u3.alloc (.cells #[.slice av 0 cv] 24) = X3 at *
      have o1 := O1.at0
      clear T hTy c4 g3
      go_wp2
      go_ret
      exact ⟨rfl, gtrans B G3⟩
    · have hsc := HX.out (by omega)
      rw [hsc] at c4
      replace c4 : Calls Tryd.prog 9 #[.string tx] u2 fun e w' => ∃ v, e = .returned (.tuple #[.agg #[v], .int .i64 0, .int .i64 0]) ∧ OwnP u2.heap.size w' v L.length L ∧ Below u2.heap.size u2 w' := c4
      rw [hL] at c4
      have q1 : ¬ (4096 : Int) < (tx.size : Int) := by omega
      go_upto_region 7 with (go_at_call 9; with_reducible refine c4.mono ?_; rintro en u3 ⟨v, rfl, T, g3⟩; obtain ⟨av, cv, rfl, hTy⟩ := T.own.types)
      have G3 := galloc (gtrans G2 g3) (.cells #[.slice av n cv] 24)
      have O1 := One.new u3 (.slice av n cv) 24
      replace hTy := hTy.keep (galloc (Below.refl u3.heap.size u3) (.cells #[.slice av n cv] 24))
      generalize u3.alloc (.cells #[.slice av n cv] 24) = X3 at *
      have o1 := O1.at0
      have o2 := (O.keep G3).at0
      have c5 := sameSchema_any ao av n n cap cv L L X3 (h.keep G3) hTy
      simp only [eqS_self L] at c5
      clear T c4 g3
      go_wp2_with (go_at_call 11; with_reducible refine c5.mono ?_; rintro en u4 ⟨rfl, g4⟩)
      go_ret
      exact ⟨rfl, gtrans (gtrans B G3) g4⟩
  · have q0 : (schE L == 0) = false := by simpa using h0
    generalize schE L = a at *
    clear h0
    go_wp2_with (go_at_call 15; with_reducible refine c2.mono ?_; rintro en u1 ⟨rfl, g1⟩)
    go_ret
    exact ⟨rfl, gtrans B g1⟩

end Go.Proofs.YtkpnnofonocilaaDoor.eventSpaces
