/- What the document's PrintSchema comes to. -/
import Derived.Test.YtdikcomhegkglaaDoorText
namespace Go.Proofs.YtdikcomhegkglaaDoor
open Go.RowKit Go.BigFrame Go.Shelf
set_option linter.unusedVariables false
set_option linter.unusedSimpArgs false

/-- What PrintSchema answers: the text, the code. -/
def prS (L : List Ty) : ByteArray × Int := if schE L = 0 then (⟨(textU L L.length).toArray⟩, 0) else (⟨#[]⟩, schE L)

set_option maxRecDepth 100000 in
set_option maxHeartbeats 1000000 in
theorem printSchema_any (ao : Option Addr) (n cap : Nat) (L : List Ty) (w : World) (h : IsTypes w ao n L) (hnc : n ≤ cap) (K : KwAt w) :
    Calls Tryd.prog 5 #[.agg #[.slice ao n cap]] w fun e w' => e = .returned (.tuple #[.string (prS L).1, .int .i64 (prS L).2]) ∧ Below w.heap.size w w' := by
  have hL := h.1
  have B := galloc (Below.refl w.heap.size w) (.cells #[.slice ao n cap] 24)
  have O := One.new w (.slice ao n cap) 24
  obtain ⟨z, hz⟩ : ∃ z, z = prS L := ⟨_, rfl⟩
  rw [← hz]
  have HZ : Hid (z = prS L) := hz
  clear hz
  go_enter Tryd.func5, Tryd.ntmps5
  go_upto_region 1 with fail
  generalize hV : w.alloc (.cells #[.slice ao n cap] 24) = V at B O ⊢
  clear hV
  replace h := h.keep B
  replace K := K.keep B
  have o0 := O.at0
  have c1 := checkSchema_any ao n cap L V h hnc K
  obtain ⟨a, ha⟩ : ∃ a, a = schE L := ⟨_, rfl⟩
  rw [← ha] at c1
  by_cases h0 : a = 0
  · subst h0
    have hz : z = (⟨(textU L n).toArray⟩, 0) := by rw [HZ.out]; unfold prS; rw [if_pos ha.symm, hL]
    subst hz
    have c2 := fun (u : World) (g : Below V.heap.size V u) => schemaText_any ao n cap L u (h.keep g) ha.symm
    clear ha
    go_wp2_with (first
      | (go_at_call 8; with_reducible refine c1.mono ?_; rintro e u ⟨rfl, g⟩; have o1 := (O.keep g).at0; replace c2 := c2 u g)
      | (go_at_call 9; with_reducible refine c2.mono ?_; rintro e u2 ⟨rfl, g2⟩))
    go_ret2
    exact ⟨rfl, gtrans B (gtrans g g2)⟩
  · have q0 : (a == 0) = false := by simpa using h0
    have hz : z = (⟨#[]⟩, a) := by rw [HZ.out]; unfold prS; rw [← ha, if_neg h0]
    subst hz
    clear ha h0
    go_wp2_with (go_at_call 8; with_reducible refine c1.mono ?_; rintro e u ⟨rfl, g⟩)
    go_ret2
    exact ⟨rfl, gtrans B g⟩

theorem joinTail_append (sep : List UInt8) (a b : List (List UInt8)) : Lib.joinTail sep (a ++ b) = Lib.joinTail sep a ++ Lib.joinTail sep b := by simp [Lib.joinTail]
theorem joinT_more (ss : List ByteArray) (k : Nat) (h : k < ss.length) : joinT (ss.take (k + 1)) = joinT (ss.take k) ++ (if k = 0 then [] else [44, 32]) ++ (ss.getD k .empty).data.toList := by
  unfold joinT
  rw [List.take_add_one, List.map_append, List.getElem?_eq_getElem h]
  have e1 : ss.getD k .empty = ss[k] := by simp [List.getD, List.getElem?_eq_getElem h]
  rw [e1]
  cases k with
  | zero => simp [Lib.join, List.intercalate]
  | succ k =>
    cases ss with
    | nil => simp at h
    | cons x r =>
      simp only [List.take_succ_cons, List.map_cons, List.cons_append, Lib.join_cons, joinTail_append, Option.toList_some, List.map_nil, if_neg (Nat.succ_ne_zero k)]
      simp [Lib.joinTail]
def inner (o : List UInt8) (x : ByteArray) (ss : List ByteArray) (k : Nat) : List UInt8 := o ++ [116, 121, 112, 101, 32] ++ x.data.toList ++ [40] ++ joinT (ss.take k)
theorem inner_zero (o : List UInt8) (x : ByteArray) (ss : List ByteArray) : ((⟨o.toArray⟩ : ByteArray) ++ ⟨#[116, 121, 112, 101, 32]⟩ ++ x ++ ⟨#[40]⟩ : ByteArray) = ⟨(inner o x ss 0).toArray⟩ := by
  apply ByteArray.ext
  simp [ByteArray.data_append, inner, joinT, Lib.join]
theorem inner_more0 (o : List UInt8) (x : ByteArray) (ss : List ByteArray) (h : 0 < ss.length) : ((⟨(inner o x ss 0).toArray⟩ : ByteArray) ++ ss.getD 0 .empty : ByteArray) = ⟨(inner o x ss 1).toArray⟩ := by
  apply ByteArray.ext
  rw [ByteArray.data_append]
  unfold inner
  rw [joinT_more ss 0 h]
  simp
theorem inner_more (o : List UInt8) (x : ByteArray) (ss : List ByteArray) (k : Nat) (h : k < ss.length) (h0 : 0 < k) : ((⟨(inner o x ss k).toArray⟩ : ByteArray) ++ ⟨#[44, 32]⟩ ++ ss.getD k .empty : ByteArray) = ⟨(inner o x ss (k + 1)).toArray⟩ := by
  apply ByteArray.ext
  simp only [ByteArray.data_append]
  unfold inner
  rw [joinT_more ss k h, if_neg (by omega)]
  simp
theorem inner_end (o : List UInt8) (x : ByteArray) (ss : List ByteArray) : ((⟨(inner o x ss ss.length).toArray⟩ : ByteArray) ++ ⟨#[41, 10]⟩ : ByteArray) = ⟨(o ++ typeT (x, ss)).toArray⟩ := by
  apply ByteArray.ext
  simp only [ByteArray.data_append]
  unfold inner typeT
  rw [List.take_of_length_le (Nat.le_refl _)]
  simp
theorem size_mk (l : List UInt8) : (⟨l.toArray⟩ : ByteArray).size = l.length := by simp [ByteArray.size]
theorem inner_len (o : List UInt8) (x : ByteArray) (ss : List ByteArray) (k : Nat) (hx : x.size ≤ 16) (hm : ss.length ≤ 8) (h : ∀ i, i < ss.length → (ss.getD i .empty).size ≤ 16) : (inner o x ss k).length ≤ o.length + 166 := by
  have e : x.data.toList.length = x.size := Array.length_toList
  have h1 := joinT_len (ss.take k) (fun i hi => by
    have hi' : i < k ∧ i < ss.length := by simp at hi; omega
    have e2 : (ss.take k).getD i .empty = ss.getD i .empty := by simp [List.getD, List.getElem?_take, hi'.1]
    rw [e2]; exact h i hi'.2)
  have h2 : (ss.take k).length ≤ 8 := by simp; omega
  unfold inner
  simp only [List.length_append, List.length_cons, List.length_nil, e]
  omega

set_option maxRecDepth 100000 in
set_option maxHeartbeats 4000000 in
theorem refPrintSchema_any (ao : Option Addr) (n cap : Nat) (L : List Ty) (w : World) (h : IsTypes w ao n L) (K : KwAt w) :
    Calls Tryd.prog 6 #[.agg #[.slice ao n cap]] w fun e w' => e = .returned (.tuple #[.string (prS L).1, .int .i64 (prS L).2]) ∧ Below w.heap.size w w' := by
  have hL := h.1
  have hn := h.2.1
  have B := galloc (Below.refl w.heap.size w) (.cells #[.slice ao n cap] 24)
  have O := One.new w (.slice ao n cap) 24
  obtain ⟨z, hz⟩ : ∃ z, z = prS L := ⟨_, rfl⟩
  rw [← hz]
  have HZ : Hid (z = prS L) := hz
  clear hz
  go_enter Tryd.func6, Tryd.ntmps6
  go_upto_region 1 with fail
  generalize hV : w.alloc (.cells #[.slice ao n cap] 24) = V at B O ⊢
  clear hV
  replace h := h.keep B
  replace K := K.keep B
  have o0 := O.at0
  have c1 := refCheckSchema_any ao n cap L V h K
  obtain ⟨a, ha⟩ : ∃ a, a = schE L := ⟨_, rfl⟩
  rw [← ha] at c1
  by_cases h0 : a = 0
  · subst h0
    obtain ⟨hs16, hsm⟩ := sch_small L ha.symm
    have htl := textU_len L hsm
    rw [hL] at hs16 hsm htl
    have HZ2 : Hid (z = (⟨(textU L n).toArray⟩, 0)) := by show _ = _; rw [HZ.out]; unfold prS; rw [if_pos ha.symm, hL]
    clear ha
    go_upto_region 6 with (go_at_call 10; with_reducible refine c1.mono ?_; rintro e u ⟨rfl, g⟩)
    replace h := h.keep g
    replace O := O.keep g
    replace B := gtrans B g
    clear c1 g o0 K
    go_loopw [5, 6] (fun s i wr => ∃ k : Nat, k ≤ n ∧ i = .int .i64 k ∧ s = .string ⟨(textU L k).toArray⟩ ∧ Below u.heap.size u wr) (fun _ i _ => n - (intOf i).toNat)
    case atStart => exact ⟨0, Nat.zero_le _, rfl, rfl, Below.refl _ _⟩
    case round =>
      obtain ⟨k, hk, rfl, rfl, G⟩ := hrel
      have o0 := (O.keep G).at0
      by_cases hlt : k < n
      · obtain ⟨_, _, q4⟩ := h.keep G
        rcases q4 with q4 | ⟨b, off, eb, hb, hcb⟩
        · omega
        subst eb
        obtain ⟨f1, aj, cj, f2, hmc, hs⟩ := hcb k hlt
        obtain ⟨z1, z2, z3⟩ := hsm k hlt
        have htk := htl k hk
        obtain ⟨x, hx⟩ : ∃ x, x = (L.getD k noTy).1 := ⟨_, rfl⟩
        obtain ⟨ss, hss⟩ : ∃ ss, ss = (L.getD k noTy).2 := ⟨_, rfl⟩
        rw [← hx] at f1 z1
        rw [← hss] at f2 hmc hs z2 z3
        have HT : Hid (textU L (k + 1) = textU L k ++ typeT (x, ss)) := by show textU L k ++ typeT (L.getD k noTy) = _; rw [hx, hss]
        clear hcb hx hss
        obtain ⟨m, hm⟩ : ∃ m, ss.length = m := ⟨_, rfl⟩
        rw [hm] at f2 hmc hs z2 z3
        have hmx := hs.2.1
        obtain ⟨wo, rfl⟩ : ∃ wo, wo = wr := ⟨_, rfl⟩
        go_upto_region 9 with fail
        have B5 := galloc (Below.refl wo.heap.size wo) (.cells #[.string x, .slice aj m cj] 33)
        have T5 := Two.new wo (.string x) (.slice aj m cj) 33
        replace hs := hs.keep B5
        generalize hW5 : wo.alloc (.cells #[.string x, .slice aj m cj] 33) = W5 at B5 T5 hs ⊢
        generalize hb5 : wo.heap.size = b5 at T5 ⊢
        clear hW5 hb5 f1 f2
        have t0 := T5.at0
        have t1 := T5.at1
        obtain ⟨ol, hol⟩ : ∃ ol, ol = textU L k := ⟨_, rfl⟩
        rw [← hol] at htk ⊢
        have HO : Hid (ol = textU L k) := hol
        clear hol
        have hos := size_mk ol
        have e0 := inner_zero ol x ss
        have hol2 : ol.length ≤ 2688 := by omega
        obtain ⟨os, hos2⟩ : ∃ os, os = (⟨ol.toArray⟩ : ByteArray) := ⟨_, rfl⟩
        rw [← hos2] at hos e0 ⊢
        have hos3 : os.size ≤ 2688 := by omega
        clear hos hos2
        have E0 : Hid _ := e0
        clear e0
        go_upto_region 11 with fail
        rw [E0.out]
        have hin := inner_len ol x ss
        go_loopw [5, 8] (fun s i wq => ∃ k2 : Nat, k2 ≤ m ∧ i = .int .i64 k2 ∧ s = .string ⟨(inner ol x ss k2).toArray⟩ ∧ Below W5.heap.size W5 wq) (fun _ i _ => m - (intOf i).toNat)
        case atStart => exact ⟨0, Nat.zero_le _, rfl, rfl, Below.refl _ _⟩
        case round =>
          obtain ⟨k2, hk2, rfl, rfl, G2⟩ := hrel
          have t1' := (T5.keep G2).at1
          have hil := hin k2 z1 (by omega) (by rw [hm]; exact z3)
          have his := size_mk (inner ol x ss k2)
          by_cases hlt2 : k2 < m
          · obtain ⟨_, _, r4⟩ := hs.keep G2
            rcases r4 with r4 | ⟨b2, off2, eb2, hb2, hcb2⟩
            · omega
            subst eb2
            have f3 := hcb2 k2 hlt2
            have zk := z3 k2 hlt2
            by_cases hk0 : k2 = 0
            · have hk1 : ¬ (0 : Int) < (k2 : Int) := by omega
              have E1 : Hid ((⟨(inner ol x ss k2).toArray⟩ : ByteArray) ++ ss.getD k2 .empty = ⟨(inner ol x ss (k2 + 1)).toArray⟩) := by show _ = _; rw [hk0]; exact inner_more0 ol x ss (by omega)
              generalize ss.getD k2 .empty = y at *
              obtain ⟨is, his2⟩ : ∃ is, is = (⟨(inner ol x ss k2).toArray⟩ : ByteArray) := ⟨_, rfl⟩
              rw [← his2] at his ⊢
              have his3 : is.size ≤ 3000 := by omega
              have E1 : Hid (is ++ y = ⟨(inner ol x ss (k2 + 1)).toArray⟩) := by show _ = _; rw [his2]; exact E1.out
              clear his his2 hcb2 hin t0 t1 hk0
              go_wp2
              go_roundw
              case rel => exact ⟨k2 + 1, by omega, by go_num, by rw [E1.out], G2⟩
              case measure => simp [intOf]; omega
            · have hk1 : (0 : Int) < (k2 : Int) := by omega
              have E1 : Hid _ := inner_more ol x ss k2 (by omega) (by omega)
              generalize ss.getD k2 .empty = y at *
              obtain ⟨is, his2⟩ : ∃ is, is = (⟨(inner ol x ss k2).toArray⟩ : ByteArray) := ⟨_, rfl⟩
              rw [← his2] at his ⊢
              have his3 : is.size ≤ 3000 := by omega
              have E1 : Hid (is ++ ⟨#[44, 32]⟩ ++ y = ⟨(inner ol x ss (k2 + 1)).toArray⟩) := by show _ = _; rw [his2]; exact E1.out
              clear his his2 hcb2 hin t0 t1 hk0
              go_wp2
              go_roundw
              case rel => exact ⟨k2 + 1, by omega, by go_num, by rw [E1.out], G2⟩
              case measure => simp [intOf]; omega
          · obtain rfl : k2 = m := by omega
            have E1 : Hid (((⟨(inner ol x ss k2).toArray⟩ : ByteArray) ++ ⟨#[41, 10]⟩ : ByteArray) = ⟨(textU L (k + 1)).toArray⟩) := by
              show _ = _
              rw [HT.out, ← HO.out, ← inner_end, hm]
            obtain ⟨is, his2⟩ : ∃ is, is = (⟨(inner ol x ss k2).toArray⟩ : ByteArray) := ⟨_, rfl⟩
            rw [← his2] at his ⊢
            have his3 : is.size ≤ 3000 := by omega
            have E1 : Hid (is ++ ⟨#[41, 10]⟩ = ⟨(textU L (k + 1)).toArray⟩) := by show _ = _; rw [his2]; exact E1.out
            clear his his2 hin t0 t1
            go_wp2
            go_roundw
            case rel => exact ⟨k + 1, by omega, by go_num, by rw [E1.out], gtrans G (gtrans B5 G2)⟩
            case measure => simp [intOf]; omega
      · obtain rfl : k = n := by omega
        have hz := HZ2.out
        subst hz
        go_wp2
        go_ret2
        exact ⟨rfl, gtrans B G⟩
  · have q0 : (a == 0) = false := by simpa using h0
    have hz : z = (⟨#[]⟩, a) := by rw [HZ.out]; unfold prS; rw [← ha, if_neg h0]
    subst hz
    clear ha h0
    go_wp2_with (go_at_call 10; with_reducible refine c1.mono ?_; rintro e u ⟨rfl, g⟩)
    go_ret2
    exact ⟨rfl, gtrans B g⟩

end Go.Proofs.YtdikcomhegkglaaDoor
