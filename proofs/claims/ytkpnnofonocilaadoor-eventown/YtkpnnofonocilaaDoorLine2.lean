/- What event's eventLine comes to. -/
import Derived.Test.YtkpnnofonocilaaDoorLine
namespace Go.Proofs.YtkpnnofonocilaaDoor
open Go.RowKit Go.BigFrame Go.Shelf
open Sk
set_option linter.unusedVariables false
set_option linter.unusedSimpArgs false

theorem wrT (b : Nat) (bs bs' : List UInt8) (s : ByteArray) (hs : bs' = bs ++ s.data.toList) (hl : bs.length + s.size ≤ 100000) (X : World) (D : Bld X b bs) (hB : b ≤ X.heap.size) :
    Calls Tryd.prog 59 #[.pointer (some ⟨b, 0, none⟩), .string s] X fun e w' => (∃ v, e = .returned v) ∧ Bld w' b bs' ∧ Below b X w' := by
  rw [hs]
  exact wrS b bs s X D hl hB
theorem Two.low {w u : World} {b B : Nat} {x y : Value} {t : TypeId} (h : Two w b x y t) (hb : b < B) (G : Below B w u) : Two u b x y t := (G.block b hb).trans h
theorem Evt.low {w u : World} {b B : Nat} {e : Ev} (h : Evt w b e) (hb : b < B) (G : Below B w u) : Evt u b e := (G.block b hb).trans h

set_option maxRecDepth 100000 in
set_option maxHeartbeats 4000000 in
theorem eventLine_any (x : ByteArray) (aj : Option Addr) (m cj : Nat) (e : Ev) (w : World) (ok : e.ok) (P : PwAt w) (hx : x.size ≤ 16) (hm : m ≤ 8) :
    Calls Tryd.prog 38 #[.agg #[.string x, .slice aj m cj], .agg (evC e)] w fun en w' => en = .returned (.string ⟨(lineU x e m).toArray⟩) ∧ Below w.heap.size w w' := by
  have B := galloc (galloc (galloc (Below.refl w.heap.size w) (.cells #[.string x, .slice aj m cj] 35)) (.cells (evC e) 44)) (.cells #[.pointer none, .slice none 0 0] 106)
  have O := (((Two.new w (.string x) (.slice aj m cj) 35).alloc (.cells (evC e) 44))).alloc (.cells #[.pointer none, .slice none 0 0] 106)
  have E := (Evt.new (w.alloc (.cells #[.string x, .slice aj m cj] 35)) e).alloc (.cells #[.pointer none, .slice none 0 0] 106)
  rw [show (w.alloc (.cells #[.string x, .slice aj m cj] 35)).heap.size = w.heap.size + 1 by simp] at E
  have D : Bld (((w.alloc (.cells #[.string x, .slice aj m cj] 35)).alloc (.cells (evC e) 44)).alloc (.cells #[.pointer none, .slice none 0 0] 106)) (w.heap.size + 1 + 1) [] := by
    refine .inl ⟨Nat.le_refl _, .slice none 0 0, ?_, World.ownsRow_nil _ _ _ _, by simp [Value.ownBlock]⟩
    have h5 : ((w.alloc (.cells #[.string x, .slice aj m cj] 35)).alloc (.cells (evC e) 44)).heap.size = w.heap.size + 1 + 1 := by simp
    rw [← h5]
    exact Array.getElem?_push_size
  have hlen := lineU_len x e ok hx
  have hsI : ∀ n : Int, -9223372036854775808 ≤ n → n ≤ 9223372036854775807 → (⟨(Lib.itoa n).toArray⟩ : ByteArray).size ≤ 21 := fun n h0 h1 => by rw [size_mk]; exact Lib.itoa_length_le n h0 h1
  obtain ⟨i, hi⟩ : ∃ i : Nat, e.id = i := ⟨e.id.toNat, by have := ok.i0; omega⟩
  have hi64 : i < 18446744073709551616 := by have := ok.i1; omega
  have hsU : (⟨(Lib.decDigits i).toArray⟩ : ByteArray).size ≤ 20 := by rw [size_mk, Lib.decDigits_length]; exact Lib.nDigits_le20 _ hi64
  go_enter Tryd.func38, Tryd.ntmps38
  go_upto_region 2 with fail
  generalize hV : ((w.alloc (.cells #[.string x, .slice aj m cj] 35)).alloc (.cells (evC e) 44)).alloc (.cells #[.pointer none, .slice none 0 0] 106) = V at B O E D ⊢
  have hVs : V.heap.size = w.heap.size + 1 + 1 + 1 := by rw [← hV]; simp
  clear hV
  obtain ⟨b, hb⟩ : ∃ b, b = w.heap.size + 1 + 1 := ⟨_, rfl⟩
  rw [← hb] at D hVs ⊢
  have lb : w.heap.size + 1 < b := by omega
  have la : w.heap.size < b := by omega
  have HB : Hid (b = w.heap.size + 1 + 1) := hb
  clear hb
  -- the timestamp
  have e0 := E.head.1
  have cI := formatInt_any e.ts ok.t0 ok.t1 V (P.keep B)
  have sI := hsI e.ts ok.t0 ok.t1
  have HI : Hid (Lib.itoa e.ts = [] ++ (⟨(Lib.itoa e.ts).toArray⟩ : ByteArray).data.toList) := by show _ = _; simp
  have HL0 : Hid ((Lib.itoa e.ts).length ≤ 21) := Lib.itoa_length_le e.ts ok.t0 ok.t1
  generalize hl0 : Lib.itoa e.ts = l0 at cI sI HI HL0
  have HE0 : Hid (Lib.itoa e.ts = l0) := hl0
  clear hl0
  generalize (⟨l0.toArray⟩ : ByteArray) = s0 at cI sI HI
  have cW := fun X D hB => wrT b [] l0 s0 HI.out (by simp; omega) X D hB
  go_upto_region 3 with (first
    | (go_at_call 62; with_reducible refine cI.mono ?_; rintro en u ⟨rfl, g⟩)
    | (go_at_call 59; with_reducible refine (cW _ (D.keep g) (by have := g.size; omega)).mono ?_; rintro en u2 ⟨⟨v, rfl⟩, D2, g2⟩))
  have G : Below b V u2 := (g.mono (by omega)).trans g2
  have hz2 : b < u2.heap.size := by have := G.size; omega
  have Gw : Below w.heap.size w u2 := B.trans (G.mono (by omega))
  clear cI cW g g2 e0 sI HI
  -- the id
  have E2 := E.low lb G
  have e1 := E2.head.2.1
  rw [hi] at e1
  have HID : Hid (e.id = i) := hi
  clear hi
  have cU := formatUint_any i hi64 u2 (P.keep Gw)
  have HI : Hid (l0 ++ ([32] ++ Lib.decDigits i) = l0 ++ ((⟨#[32]⟩ : ByteArray) ++ ⟨(Lib.decDigits i).toArray⟩).data.toList) := by show _ = _; simp [ByteArray.data_append]
  have HS : Hid (((⟨#[32]⟩ : ByteArray) ++ ⟨(Lib.decDigits i).toArray⟩).size = 1 + (⟨(Lib.decDigits i).toArray⟩ : ByteArray).size) := by show _ = _; rw [ByteArray.size_append]; rfl
  generalize (⟨(Lib.decDigits i).toArray⟩ : ByteArray) = s1 at cU HI HS hsU
  obtain ⟨l1, hl1⟩ : ∃ l1, l1 = l0 ++ ([32] ++ Lib.decDigits i) := ⟨_, rfl⟩
  have HE1 : Hid (l1 = l0 ++ ([32] ++ Lib.decDigits i)) := hl1
  have HL1 : Hid (l1.length ≤ 42) := by
    show _ ≤ _
    have h2 : (Lib.decDigits i).length ≤ 20 := by rw [Lib.decDigits_length]; exact Lib.nDigits_le20 _ hi64
    have := HL0.out
    rw [hl1]; simp only [List.length_append, List.length_cons, List.length_nil]; omega
  have cW := fun X D hB => wrT b l0 l1 (⟨#[32]⟩ ++ s1) (hl1.trans HI.out) (by rw [HS.out]; have := HL0.out; omega) X D hB
  clear hl1
  go_upto_region 4 with (first
    | (go_at_call 63; with_reducible refine cU.mono ?_; rintro en u ⟨rfl, g⟩)
    | (go_at_call 59; with_reducible refine (cW _ (D2.keep g) (by have := g.size; omega)).mono ?_; rintro en u3 ⟨⟨v2, rfl⟩, D3, g2⟩))
  replace G : Below b V u3 := G.trans ((g.mono (by omega)).trans g2)
  replace hz2 : b < u3.heap.size := by have := G.size; omega
  replace Gw : Below w.heap.size w u3 := B.trans (G.mono (by omega))
  clear cU cW g g2 e1 HI HS D2 E2
  -- the name
  have O2 := O.low la G
  have t0 := O2.at0
  have HI : Hid (l1 ++ ([32] ++ x.data.toList) = l1 ++ ((⟨#[32]⟩ : ByteArray) ++ x).data.toList) := by show _ = _; simp [ByteArray.data_append]
  have HS : Hid (((⟨#[32]⟩ : ByteArray) ++ x).size = 1 + x.size) := by show _ = _; rw [ByteArray.size_append]; rfl
  have HH : Hid (l1 ++ ([32] ++ x.data.toList) = lineU x e 0) := by
    show _ = lineH x e
    unfold lineH
    rw [HE0.out, HE1.out, HID.out, Int.toNat_natCast]
  have cW := fun X D hB => wrT b l1 (lineU x e 0) (⟨#[32]⟩ ++ x) (HH.out.symm.trans HI.out) (by rw [HS.out]; have := HL1.out; omega) X D hB
  go_upto_region 5 with (
    (go_at_call 59; with_reducible refine (cW _ D3 (by omega)).mono ?_; rintro en u4 ⟨⟨v3, rfl⟩, D4, g2⟩))
  replace G : Below b V u4 := G.trans g2
  replace hz2 : b < u4.heap.size := by have := G.size; omega
  replace Gw : Below w.heap.size w u4 := B.trans (G.mono (by omega))
  have t1 := (O.low la G).at1
  have E4 := E.low lb G
  clear cW g2 HI HS HH t0 O2 D3 HE0 HE1 HL0 HL1 hsU
  go_upto_region 6 with fail
  go_loopw [23] (fun i wr => ∃ k : Nat, k ≤ m ∧ i = .int .i64 k ∧ Bld wr b (lineU x e k) ∧ Below b V wr) (fun i _ => m - (intOf i).toNat)
  case atStart => exact ⟨0, Nat.zero_le _, rfl, D4, G⟩
  case round =>
    obtain ⟨k, hk, rfl, D5, G5⟩ := hrel
    have hz5 : b < wr.heap.size := by have := G5.size; omega
    have Gw5 : Below w.heap.size w wr := B.trans (G5.mono (by omega))
    by_cases hlt : k < m
    · have hk8 : k < 8 := by omega
      have f := (E.low lb G5).ats k hk8
      have cI := formatInt_any (e.at k) (ok.at0 k hk8) (ok.at1 k hk8) wr (P.keep Gw5)
      have sI := hsI (e.at k) (ok.at0 k hk8) (ok.at1 k hk8)
      have hl := hlen k (by omega)
      have HI : Hid (lineU x e (k + 1) = lineU x e k ++ ((⟨#[32]⟩ : ByteArray) ++ ⟨(Lib.itoa (e.at k)).toArray⟩).data.toList) := by show lineU x e k ++ ([32] ++ Lib.itoa (e.at k)) = _; simp [ByteArray.data_append]
      have HS : Hid (((⟨#[32]⟩ : ByteArray) ++ ⟨(Lib.itoa (e.at k)).toArray⟩).size = 1 + (⟨(Lib.itoa (e.at k)).toArray⟩ : ByteArray).size) := by show _ = _; rw [ByteArray.size_append]; rfl
      generalize (⟨(Lib.itoa (e.at k)).toArray⟩ : ByteArray) = s5 at cI sI HI HS
      generalize e.at k = y at f cI
      have cW := fun X D hB => wrT b (lineU x e k) (lineU x e (k + 1)) (⟨#[32]⟩ ++ s5) HI.out (by rw [HS.out]; omega) X D hB
      clear hl hlen hsI t1
      go_wp2_with (first
        | (go_at_call 62; with_reducible refine cI.mono ?_; rintro en u ⟨rfl, g⟩)
        | (go_at_call 59; with_reducible refine (cW _ (D5.keep g) (by have := g.size; omega)).mono ?_; rintro en u6 ⟨⟨v6, rfl⟩, D6, g2⟩))
      have G6 : Below b V u6 := G5.trans ((g.mono (by omega)).trans g2)
      go_roundw
      case rel => exact ⟨k + 1, by omega, by go_num, D6, G6⟩
      case measure => simp [intOf]; omega
    · obtain rfl : k = m := by omega
      have c := strB b (lineU x e k) wr D5 (by omega)
      go_wp2_with (go_at_call 61; refine c.mono ?_; rintro en u ⟨rfl, g⟩)
      go_ret
      exact ⟨rfl, Gw5.trans (g.mono (by omega))⟩

end Go.Proofs.YtkpnnofonocilaaDoor
