/- What the law's loose comes to. -/
import Derived.Test.YtkpnnofonocilaaDoorBl
import Derived.Test.YtkpnnofonocilaaDoorTwo
namespace Go.Proofs.YtkpnnofonocilaaDoor
open Go.RowKit Go.BigFrame
set_option linter.unusedVariables false
set_option linter.unusedSimpArgs false

theorem sch_tiny (L : List Ty) (h : schE L = 0) : L.length ≤ 16 ∧ ∀ j, j < L.length → (L.getD j noTy).1.size ≤ 16 ∧ (L.getD j noTy).2.length ≤ 8 ∧ ∀ i, i < (L.getD j noTy).2.length → ((L.getD j noTy).2.getD i .empty).size ≤ 16 := by
  obtain ⟨_, h16, hT⟩ := sch_zero h
  refine ⟨h16, fun j hj => ?_⟩
  obtain ⟨_, t1, t8, tA⟩ := type_zero (hT j hj)
  exact ⟨name_size t1, t8, fun i hi => name_size (attr_zero (tA i hi)).1⟩
theorem typL_len (zs : List Int) (note : ByteArray) (t : Ty) (n : Nat) (h1 : t.1.size ≤ 16) (h2 : ∀ x ∈ t.2, x.size ≤ 16) (h8 : t.2.length ≤ 8) : (typL zs note t n).length ≤ 20 * note.size + 239 := by
  have a := attL_len zs note t.2 (n + 3) h2 t.2.length (Nat.le_refl _)
  have b : t.2.length * (2 * note.size + 25) ≤ 8 * (2 * note.size + 25) := Nat.mul_le_mul_right _ h8
  have g0 := gap_len zs note n
  have g1 := gap_len zs note (n + 1)
  have g2 := gap_len zs note (n + 2)
  have g3 := gap_len zs note (n + 3 + (2 * t.2.length - 1))
  have e : t.1.data.toList.length = t.1.size := Array.length_toList
  unfold typL
  simp only [List.length_append, List.length_cons, List.length_nil, e]
  omega
theorem losL_len (zs : List Int) (note : ByteArray) (L : List Ty) (h : ∀ t ∈ L, t.1.size ≤ 16 ∧ (∀ x ∈ t.2, x.size ≤ 16) ∧ t.2.length ≤ 8) : ∀ k, k ≤ L.length → (losL zs note L k).length ≤ note.size + 4 + k * (20 * note.size + 239) := by
  intro k
  induction k with
  | zero => intro _; have := gap_len zs note 0; rw [losL]; omega
  | succ k ih =>
    intro hk
    have hk' : k < L.length := by omega
    have e1 : L.getD k noTy = L[k] := by simp [List.getD, List.getElem?_eq_getElem hk']
    obtain ⟨h1, h2, h3⟩ := h L[k] (List.getElem_mem _)
    have := typL_len zs note L[k] (numL L k) h1 h2 h3
    have i := ih (by omega)
    have e2 : (k + 1) * (20 * note.size + 239) = k * (20 * note.size + 239) + (20 * note.size + 239) := Nat.succ_mul _ _
    rw [losL, e1, List.length_append, e2]
    omega
theorem numL_le (L : List Ty) (h : ∀ t ∈ L, t.2.length ≤ 8) : ∀ k, k ≤ L.length → numL L k ≤ 1 + k * 20 := by
  intro k
  induction k with
  | zero => intro _; exact Nat.le_refl _
  | succ k ih =>
    intro hk
    have hk' : k < L.length := by omega
    have e1 : L.getD k noTy = L[k] := by simp [List.getD, List.getElem?_eq_getElem hk']
    have h1 := h L[k] (List.getElem_mem _)
    have i := ih (by omega)
    rw [numL, e1]
    omega

/-- The head of a type, loosely written. -/
def hedL (zs : List Int) (note : ByteArray) (x : ByteArray) (n : Nat) : List UInt8 := [116, 121, 112, 101, 32] ++ (gapL zs note n ++ (x.data.toList ++ (gapL zs note (n + 1) ++ (40 :: gapL zs note (n + 2)))))
theorem typL_hed (zs : List Int) (note : ByteArray) (x : ByteArray) (ss : List ByteArray) (n : Nat) : typL zs note (x, ss) n = hedL zs note x n ++ (attL zs note ss (n + 3) ss.length ++ (41 :: gapL zs note (n + 3 + (2 * ss.length - 1)))) := by
  unfold typL hedL
  simp
theorem hed_cat (zs : List Int) (note : ByteArray) (x : ByteArray) (n : Nat) (o : List UInt8) : ((⟨o.toArray⟩ : ByteArray) ++ ⟨#[116, 121, 112, 101, 32]⟩ ++ ⟨(gapL zs note n).toArray⟩ ++ x ++ ⟨(gapL zs note (n + 1)).toArray⟩ ++ ⟨#[40]⟩ ++ ⟨(gapL zs note (n + 2)).toArray⟩ : ByteArray) = ⟨(o ++ hedL zs note x n).toArray⟩ := by
  apply ByteArray.ext
  simp [ByteArray.data_append, hedL]
theorem att_cat0 (zs : List Int) (note : ByteArray) (ss : List ByteArray) (n : Nat) (o : List UInt8) : ((⟨(o ++ attL zs note ss n 0).toArray⟩ : ByteArray) ++ ss.getD 0 .empty ++ ⟨(gapL zs note n).toArray⟩ : ByteArray) = ⟨(o ++ attL zs note ss n 1).toArray⟩ := by
  apply ByteArray.ext
  simp [ByteArray.data_append, attL]
theorem att_cat (zs : List Int) (note : ByteArray) (ss : List ByteArray) (n : Nat) (o : List UInt8) (k : Nat) (hk : k ≠ 0) : ((⟨(o ++ attL zs note ss n k).toArray⟩ : ByteArray) ++ ⟨#[44]⟩ ++ ⟨(gapL zs note (n + (2 * k - 1))).toArray⟩ ++ ss.getD k .empty ++ ⟨(gapL zs note (n + 2 * k)).toArray⟩ : ByteArray) = ⟨(o ++ attL zs note ss n (k + 1)).toArray⟩ := by
  apply ByteArray.ext
  simp [ByteArray.data_append, attL, hk]
theorem end_cat (zs : List Int) (note : ByteArray) (x : ByteArray) (ss : List ByteArray) (n : Nat) (o : List UInt8) : ((⟨(o ++ hedL zs note x n ++ attL zs note ss (n + 3) ss.length).toArray⟩ : ByteArray) ++ ⟨#[41]⟩ ++ ⟨(gapL zs note (n + 3 + (2 * ss.length - 1))).toArray⟩ : ByteArray) = ⟨(o ++ typL zs note (x, ss) n).toArray⟩ := by
  apply ByteArray.ext
  rw [typL_hed]
  simp [ByteArray.data_append]
theorem hed_len (zs : List Int) (note : ByteArray) (x : ByteArray) (n : Nat) (h : x.size ≤ 16) : (hedL zs note x n).length ≤ 3 * note.size + 34 := by
  have g0 := gap_len zs note n
  have g1 := gap_len zs note (n + 1)
  have g2 := gap_len zs note (n + 2)
  have e : x.data.toList.length = x.size := Array.length_toList
  unfold hedL
  simp only [List.length_append, List.length_cons, List.length_nil, e]
  omega

set_option maxRecDepth 100000 in
set_option maxHeartbeats 8000000 in
theorem loose_any (ao : Option Addr) (n cap : Nat) (L : List Ty) (w : World) (h : IsTypes w ao n L) (hsd : schE L = 0)
    (zs : List Int) (zo : Option Addr) (zc : Nat) (hzl : zs.length ≤ 140737488351232) (note : ByteArray) (hs : note.size ≤ 140737488351232) (A : IsInts w zo zs) :
    Calls Tryd.prog 16 #[.agg #[.slice ao n cap], .slice zo zs.length zc, .string note] w fun e w' => e = .returned (.string ⟨(losL zs note L L.length).toArray⟩) ∧ Below w.heap.size w w' := by
  have hL := h.1
  have hn := h.2.1
  have B := galloc (Below.refl w.heap.size w) (.cells #[.slice ao n cap] 24)
  have O := One.new w (.slice ao n cap) 24
  obtain ⟨m, hm⟩ : ∃ m, zs.length = m := ⟨_, rfl⟩
  have cg := fun (i : Nat) (hi : i ≤ 100000) (X : World) (A : IsInts X zo zs) => gap_any zs zo zc hzl note hs i hi X A
  rw [hm] at cg ⊢
  rw [hL]
  go_enter Tryd.func16, Tryd.ntmps16
  go_upto_region 1 with fail
  generalize hV : w.alloc (.cells #[.slice ao n cap] 24) = V at B O ⊢
  clear hV
  replace h := h.keep B
  replace A := A.keep B
  obtain ⟨hs16, hsm⟩ := sch_tiny L hsd
  have hnm := sch_names hsd
  have hll := losL_len zs note L (fun t ht => by
    obtain ⟨j, hj, rfl⟩ := List.mem_iff_getElem.1 ht
    have e1 : L.getD j noTy = L[j] := by simp [List.getD, List.getElem?_eq_getElem hj]
    have := hsm j hj
    rw [e1] at this
    exact ⟨this.1, fun x hx => name_size ((hnm _ ht).2 x hx), this.2.1⟩)
  have hnl := numL_le L (fun t ht => by
    obtain ⟨j, hj, rfl⟩ := List.mem_iff_getElem.1 ht
    have e1 : L.getD j noTy = L[j] := by simp [List.getD, List.getElem?_eq_getElem hj]
    have := hsm j hj
    rw [e1] at this
    exact this.2.1)
  rw [hL] at hs16 hsm hll hnl
  have o0 := O.at0
  have c0 : Calls Tryd.prog 30 #[.slice zo m zc, .int .i64 0, .string note] V fun e w' => e = .returned (.string ⟨(gapL zs note 0).toArray⟩) ∧ Below V.heap.size V w' := cg 0 (by omega) V A
  go_upto_region 4 with (go_at_call 30; with_reducible refine c0.mono ?_; rintro e u ⟨rfl, g⟩)
  replace h := h.keep g
  replace A := A.keep g
  replace O := O.keep g
  replace B := gtrans B g
  clear c0 g o0
  go_loopw [7, 8, 9] (fun s q i wr => ∃ k : Nat, k ≤ n ∧ i = .int .i64 k ∧ q = .int .i64 (numL L k) ∧ s = .string ⟨(losL zs note L k).toArray⟩ ∧ Below u.heap.size u wr) (fun _ _ i _ => n - (intOf i).toNat)
  case atStart => exact ⟨0, Nat.zero_le _, rfl, rfl, rfl, Below.refl _ _⟩
  case round =>
    obtain ⟨k, hk, rfl, rfl, rfl, G⟩ := hrel
    have o0 := (O.keep G).at0
    by_cases hlt : k < n
    · obtain ⟨_, _, q4⟩ := h.keep G
      rcases q4 with q4 | ⟨b, off, eb, hb, hcb⟩
      · omega
      subst eb
      obtain ⟨f1, aj, cj, f2, hmc, hss⟩ := hcb k hlt
      obtain ⟨z1, z2, z3⟩ := hsm k hlt
      have htk := hll k hk
      have hqk := hnl k hk
      obtain ⟨x, hx⟩ : ∃ x, x = (L.getD k noTy).1 := ⟨_, rfl⟩
      obtain ⟨ss, hse⟩ : ∃ ss, ss = (L.getD k noTy).2 := ⟨_, rfl⟩
      rw [← hx] at f1 z1
      rw [← hse] at f2 hmc hss z2 z3
      have HT : Hid (losL zs note L (k + 1) = losL zs note L k ++ typL zs note (x, ss) (numL L k)) := by show losL zs note L k ++ typL zs note (L.getD k noTy) (numL L k) = _; rw [hx, hse]
      have HQ : Hid (numL L (k + 1) = numL L k + 3 + (2 * ss.length - 1) + 1) := by show numL L k + 3 + (2 * (L.getD k noTy).2.length - 1) + 1 = _; rw [hse]
      clear hcb hx hse
      obtain ⟨j, hj⟩ : ∃ j, ss.length = j := ⟨_, rfl⟩
      rw [hj] at f2 hmc hss z2 z3
      have hjx := hss.2.1
      obtain ⟨wo, rfl⟩ : ∃ wo, wo = wr := ⟨_, rfl⟩
      go_upto_region 7 with fail
      have B5 := galloc (Below.refl wo.heap.size wo) (.cells #[.string x, .slice aj j cj] 35)
      have T5 := Two.new wo (.string x) (.slice aj j cj) 35
      replace hss := hss.keep B5
      generalize hW5 : wo.alloc (.cells #[.string x, .slice aj j cj] 35) = W5 at B5 T5 hss ⊢
      generalize hb5 : wo.heap.size = b5 at T5 ⊢
      have A5 := (A.keep G).keep B5
      clear hW5 hb5 f1 f2
      have t0 := T5.at0
      have t1 := T5.at1
      obtain ⟨ol, hol⟩ : ∃ ol, ol = losL zs note L k := ⟨_, rfl⟩
      have HO : Hid (ol = losL zs note L k) := hol
      obtain ⟨q, hq⟩ : ∃ q, q = numL L k := ⟨_, rfl⟩
      have HN : Hid (q = numL L k) := hq
      rw [← hol] at htk ⊢
      rw [← hq] at hqk ⊢
      clear hol hq
      have hol2 : ol.length ≤ 45200000000000000 := by
        have : k * (20 * note.size + 239) ≤ 16 * (20 * note.size + 239) := Nat.mul_le_mul_right _ (by omega)
        omega
      have hq2 : q ≤ 400 := by omega
      have E0 : Hid _ := hed_cat zs note x q ol
      have hln := hed_len zs note x q z1
      have g0 := gap_len zs note q
      have g1 := gap_len zs note (q + 1)
      have g2 := gap_len zs note (q + 2)
      have e1 : ((q + 1 : Nat) : Int) = (q : Int) + 1 := by omega
      have e2 : ((q + 2 : Nat) : Int) = (q : Int) + 2 := by omega
      have d0 := fun nx : Ext W5 => ext_of (n := nx) (cg q (by omega) nx.X (A5.keep nx.h))
      have d1 := fun nx : Ext W5 => ext_of (n := nx) (cg (q + 1) (by omega) nx.X (A5.keep nx.h))
      have d2 := fun nx : Ext W5 => ext_of (n := nx) (cg (q + 2) (by omega) nx.X (A5.keep nx.h))
      simp only [e1] at d1
      simp only [e2] at d2
      obtain ⟨os, hos⟩ : ∃ os, os = (⟨ol.toArray⟩ : ByteArray) := ⟨_, rfl⟩
      have hosz : os.size ≤ 45200000000000000 := by rw [hos, size_mk]; exact hol2
      obtain ⟨ga, hga⟩ : ∃ ga, ga = (⟨(gapL zs note q).toArray⟩ : ByteArray) := ⟨_, rfl⟩
      have hgas : ga.size ≤ 140737488351236 := by rw [hga, size_mk]; omega
      obtain ⟨gb, hgb⟩ : ∃ gb, gb = (⟨(gapL zs note (q + 1)).toArray⟩ : ByteArray) := ⟨_, rfl⟩
      have hgbs : gb.size ≤ 140737488351236 := by rw [hgb, size_mk]; omega
      obtain ⟨gc, hgc⟩ : ∃ gc, gc = (⟨(gapL zs note (q + 2)).toArray⟩ : ByteArray) := ⟨_, rfl⟩
      have hgcs : gc.size ≤ 140737488351236 := by rw [hgc, size_mk]; omega
      have E0 : Hid (os ++ ⟨#[116, 121, 112, 101, 32]⟩ ++ ga ++ x ++ gb ++ ⟨#[40]⟩ ++ gc = (⟨(ol ++ hedL zs note x q).toArray⟩ : ByteArray)) := by show _ = _; rw [hos, hga, hgb, hgc]; exact E0.out
      rw [← hos]
      rw [← hga] at d0
      rw [← hgb] at d1
      rw [← hgc] at d2
      have d0 : ∀ z : Ext W5, Calls Tryd.prog 30 #[.slice zo m zc, .int .i64 (q : Int), .string note] z.X (fun e' w'' => e' = .returned (.string ga) ∧ ∃ m : Ext W5, w'' = m.X) := d0
      have d1 : ∀ z : Ext W5, Calls Tryd.prog 30 #[.slice zo m zc, .int .i64 ((q : Int) + 1), .string note] z.X (fun e' w'' => e' = .returned (.string gb) ∧ ∃ m : Ext W5, w'' = m.X) := d1
      have d2 : ∀ z : Ext W5, Calls Tryd.prog 30 #[.slice zo m zc, .int .i64 ((q : Int) + 2), .string note] z.X (fun e' w'' => e' = .returned (.string gc) ∧ ∃ m : Ext W5, w'' = m.X) := d2
      clear hos hga hgb hgc g0 g1 g2
      have p0 := fun z : Ext W5 => (z.cell _ _ T5.lt).trans t0
      have hne : Nonempty (Ext W5) := ⟨⟨_, Below.refl _ _⟩⟩
      refine wp_region_ext (by kernel_rfl) (by kernel_rfl) ?_
      repeat (first
        | go_big_quiet_step (first | (go_at_call 30; first | with_reducible exact d0 _ | with_reducible exact d1 _ | with_reducible exact d2 _)))
      refine wpQuiet_nil ?_
      intro _ hw'
      obtain ⟨n1, hw''⟩ := hw'
      subst hw''
      obtain ⟨W6, hW6⟩ : ∃ W6, W6 = n1.X := ⟨_, rfl⟩
      have G6 : Below W5.heap.size W5 W6 := by rw [hW6]; exact n1.h
      rw [← hW6]
      clear hW6 n1 d0 d1 d2 p0 hne t0 t1
      rw [E0.out]
      clear E0
      have A6 := A5.keep G6
      have T6 := T5.keep G6
      have hs6 := hss.keep G6
      have G7 := gtrans B5 G6
      clear A5 T5 hss G6 B5
      go_upto_region 10 with fail
      obtain ⟨hl, hhl⟩ : ∃ hl, hl = ol ++ hedL zs note x q := ⟨_, rfl⟩
      have HH : Hid (hl = ol ++ hedL zs note x q) := hhl
      have hhz : hl.length ≤ 45700000000000000 := by rw [hhl, List.length_append]; omega
      rw [← hhl]
      clear hhl
      have hal := attL_len zs note ss (q + 3) (fun y hy => by
        obtain ⟨i, hi, rfl⟩ := List.mem_iff_getElem.1 hy
        have := z3 i (by omega)
        simpa [List.getD, List.getElem?_eq_getElem hi] using this)
      go_loopw [7, 8, 11] (fun s p i wq => ∃ k2 : Nat, k2 ≤ j ∧ i = .int .i64 k2 ∧ p = .int .i64 ((q + 3 + (2 * k2 - 1) : Nat) : Int) ∧ s = .string ⟨(hl ++ attL zs note ss (q + 3) k2).toArray⟩ ∧ Below W6.heap.size W6 wq) (fun _ _ i _ => j - (intOf i).toNat)
      case atStart => exact ⟨0, Nat.zero_le _, rfl, by go_num, by simp [attL], Below.refl _ _⟩
      case round =>
        obtain ⟨k2, hk2, rfl, rfl, rfl, G2⟩ := hrel
        have T7 := T6.keep G2
        have t0 := T7.at0
        have t1 := T7.at1
        have A7 := A6.keep G2
        have hil : (hl ++ attL zs note ss (q + 3) k2).length ≤ 48000000000000000 := by
          have a := hal k2 (by omega)
          have b : k2 * (2 * note.size + 25) ≤ 8 * (2 * note.size + 25) := Nat.mul_le_mul_right _ (by omega)
          rw [List.length_append]
          omega
        obtain ⟨is, his⟩ : ∃ is, is = (⟨(hl ++ attL zs note ss (q + 3) k2).toArray⟩ : ByteArray) := ⟨_, rfl⟩
        have hisz : is.size ≤ 48000000000000000 := by rw [his, size_mk]; exact hil
        by_cases hlt2 : k2 < j
        · obtain ⟨_, _, r4⟩ := hs6.keep G2
          rcases r4 with r4 | ⟨b2, off2, eb2, hb2, hcb2⟩
          · omega
          subst eb2
          have f3 := hcb2 k2 hlt2
          have zk := z3 k2 hlt2
          by_cases hk0 : k2 = 0
          · have hk1 : ¬ (0 : Int) < (k2 : Int) := by omega
            obtain ⟨r, hr⟩ : ∃ r, r = q + 3 + (2 * k2 - 1) := ⟨_, rfl⟩
            have HRn : Hid (r + 1 = q + 3 + (2 * (k2 + 1) - 1)) := by show _ = _; omega
            have hr2 : r ≤ 500 := by omega
            have hre : r = q + 3 := by omega
            rw [← hr, ← his]
            have gl := gap_len zs note (q + 3)
            obtain ⟨ga2, hga⟩ : ∃ ga2, ga2 = (⟨(gapL zs note (q + 3)).toArray⟩ : ByteArray) := ⟨_, rfl⟩
            have hgs : ga2.size ≤ 140737488351236 := by rw [hga, size_mk]; omega
            have E1 : Hid (is ++ ss.getD k2 .empty ++ ga2 = ⟨(hl ++ attL zs note ss (q + 3) (k2 + 1)).toArray⟩) := by show _ = _; rw [his, hk0, hga]; exact att_cat0 zs note ss (q + 3) hl
            generalize ss.getD k2 .empty = y at *
            have d0 := fun nx : Ext wr => ext_of (n := nx) (cg r (by omega) nx.X (A7.keep nx.h))
            rw [hre, ← hga, ← hre] at d0
            have d0 : ∀ z : Ext wr, Calls Tryd.prog 30 #[.slice zo m zc, .int .i64 (r : Int), .string note] z.X (fun e' w'' => e' = .returned (.string ga2) ∧ ∃ m : Ext wr, w'' = m.X) := d0
            have p0 := fun z : Ext wr => (z.cell _ _ T7.lt).trans t1
            have p1 := fun z : Ext wr => (z.cell _ _ hb2).trans f3
            have hne : Nonempty (Ext wr) := ⟨⟨_, Below.refl _ _⟩⟩
            have hkj : (k2 : Int) < (j : Int) := by omega
            clear his hga hre hr hk0 hcb2
            go_upto_region 15 with fail
            refine wp_region_ext (by kernel_rfl) (by kernel_rfl) ?_
            repeat (first
              | go_big_quiet_step (first | (go_at_call 30; with_reducible exact d0 _)))
            refine wpQuiet_nil ?_
            intro _ hw'
            obtain ⟨n1, hw''⟩ := hw'
            subst hw''
            have G3 := gtrans G2 n1.h
            go_wp2
            go_roundw
            case rel => exact ⟨k2 + 1, by omega, by go_num, by rw [← HRn.out]; go_num, by rw [E1.out], G3⟩
            case measure => simp [intOf]; omega
          · have hk1 : (0 : Int) < (k2 : Int) := by omega
            obtain ⟨r, hr⟩ : ∃ r, r = q + 3 + (2 * k2 - 1) := ⟨_, rfl⟩
            have HRn : Hid (r + 1 + 1 = q + 3 + (2 * (k2 + 1) - 1)) := by show _ = _; omega
            have hr2 : r ≤ 500 := by omega
            have hre : r + 1 = q + 3 + 2 * k2 := by omega
            rw [← hr, ← his]
            have gl := gap_len zs note r
            have gl2 := gap_len zs note (r + 1)
            obtain ⟨ga1, hga1⟩ : ∃ ga1, ga1 = (⟨(gapL zs note r).toArray⟩ : ByteArray) := ⟨_, rfl⟩
            have hgs1 : ga1.size ≤ 140737488351236 := by rw [hga1, size_mk]; omega
            obtain ⟨ga2, hga⟩ : ∃ ga2, ga2 = (⟨(gapL zs note (r + 1)).toArray⟩ : ByteArray) := ⟨_, rfl⟩
            have hgs : ga2.size ≤ 140737488351236 := by rw [hga, size_mk]; omega
            have E1 : Hid (is ++ ⟨#[44]⟩ ++ ga1 ++ ss.getD k2 .empty ++ ga2 = (⟨(hl ++ attL zs note ss (q + 3) (k2 + 1)).toArray⟩ : ByteArray)) := by show _ = _; rw [his, hga1, hga, hr, ← hr, hre, hr]; exact att_cat zs note ss (q + 3) hl k2 hk0
            generalize ss.getD k2 .empty = y at *
            have d1 := cg r (by omega) wr A7
            rw [← hga1] at d1
            have hkj : (k2 : Int) < (j : Int) := by omega
            have b2w : b2 < wr.heap.size := hb2
            have d2 := fun (X : World) (A : IsInts X zo zs) => cg (r + 1) (by omega) X A
            rw [← hga] at d2
            have e3 : ((r + 1 : Nat) : Int) = (r : Int) + 1 := by omega
            simp only [e3] at d2
            clear his hga hga1 hre hr hk0 hcb2 e3
            go_upto_region 15 with (go_at_call 30; with_reducible refine d1.mono ?_; rintro e3 u3 ⟨rfl, g3⟩)
            have d0 := fun nx : Ext u3 => ext_of (n := nx) (d2 nx.X ((A7.keep g3).keep nx.h))
            have d0 : ∀ z : Ext u3, Calls Tryd.prog 30 #[.slice zo m zc, .int .i64 ((r : Int) + 1), .string note] z.X (fun e' w'' => e' = .returned (.string ga2) ∧ ∃ m : Ext u3, w'' = m.X) := d0
            have T8 := T7.keep g3
            have p0 := fun z : Ext u3 => (z.cell _ _ T8.lt).trans T8.at1
            have p1 := fun z : Ext u3 => (z.cell _ _ (Nat.lt_of_lt_of_le b2w g3.size)).trans ((g3.cell (p := ⟨b2, _, none⟩) b2w).trans f3)
            have hne : Nonempty (Ext u3) := ⟨⟨_, Below.refl _ _⟩⟩
            clear d1 f3 t0 t1
            refine wp_region_ext (by kernel_rfl) (by kernel_rfl) ?_
            repeat (first
              | go_big_quiet_step (first | (go_at_call 30; with_reducible exact d0 _)))
            refine wpQuiet_nil ?_
            intro _ hw'
            obtain ⟨n1, hw''⟩ := hw'
            subst hw''
            have G3 := gtrans (gtrans G2 g3) n1.h
            go_wp2
            go_roundw
            case rel => exact ⟨k2 + 1, by omega, by go_num, by rw [← HRn.out]; go_num, by rw [E1.out], G3⟩
            case measure => simp [intOf]; omega
        · obtain rfl : k2 = j := by omega
          obtain ⟨r, hr⟩ : ∃ r, r = q + 3 + (2 * k2 - 1) := ⟨_, rfl⟩
          have hr2 : r ≤ 500 := by omega
          have HRn : Hid (r + 1 = numL L (k + 1)) := by show _ = _; rw [HQ.out, ← HN.out, hj, hr]
          rw [← hr, ← his]
          have gl := gap_len zs note r
          obtain ⟨ga1, hga1⟩ : ∃ ga1, ga1 = (⟨(gapL zs note r).toArray⟩ : ByteArray) := ⟨_, rfl⟩
          have hgs1 : ga1.size ≤ 140737488351236 := by rw [hga1, size_mk]; omega
          have E1 : Hid (is ++ ⟨#[41]⟩ ++ ga1 = (⟨(losL zs note L (k + 1)).toArray⟩ : ByteArray)) := by
            show _ = _
            have := end_cat zs note x ss q ol
            rw [hj, ← HH.out] at this
            rw [his, hga1, hr, HT.out, ← HO.out, ← HN.out]
            exact this
          have d1 := cg r (by omega) wr A7
          rw [← hga1] at d1
          clear his hga1 hr
          go_wp2_with (go_at_call 30; with_reducible refine d1.mono ?_; rintro e3 u3 ⟨rfl, g3⟩)
          go_roundw
          case rel => exact ⟨k + 1, by omega, by go_num, by rw [← HRn.out]; go_num, by rw [E1.out], gtrans G (gtrans G7 (gtrans G2 g3))⟩
          case measure => simp [intOf]; omega
    · obtain rfl : k = n := by omega
      go_wp2
      go_ret
      exact ⟨rfl, gtrans B G⟩

end Go.Proofs.YtkpnnofonocilaaDoor
