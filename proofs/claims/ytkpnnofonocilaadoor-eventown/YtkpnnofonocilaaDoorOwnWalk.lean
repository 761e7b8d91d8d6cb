/- The walk of the law EventOwn. -/
import Derived.Test.YtkpnnofonocilaaDoorRw
import Derived.Test.YtkpnnofonocilaaDoorSd
import Derived.Test.YtkpnnofonocilaaDoorOs
import Derived.ArgAppend
namespace Go.Proofs.YtkpnnofonocilaaDoor.eventOwn
open Go.RowKit Go.BigFrame
set_option linter.unusedVariables false
set_option linter.unusedSimpArgs false

def mkB (j : Nat) : ByteArray := ⟨#[109, UInt8.ofNat (97 + j % 26), UInt8.ofNat (97 + j / 26 % 26)]⟩
theorem new4 (w : World) (x y z q : Value) (t : TypeId) (j : Nat) (u : Value) (h : [x, y, z, q][j]? = some u) : (w.alloc (.cells #[x, y, z, q] t)).cell? ((⟨w.heap.size, 0, none⟩ : Addr).add j) = some u := by
  rw [Go.WideShapes.add_plain, Nat.zero_add, World.cell?_alloc_new]
  simpa using h
theorem one4 : ∀ u ∈ [Value.string ⟨#[111, 110, 101]⟩, .slice none 0 0, .string ⟨#[116, 119, 111]⟩, .slice none 0 0], u.oneCell' = true := by
  intro u hu; simp at hu; rcases hu with rfl | rfl | rfl | rfl <;> rfl
theorem new3 (w : World) (x y z : Value) (t : TypeId) (j : Nat) (u : Value) (h : [x, y, z][j]? = some u) : (w.alloc (.cells #[x, y, z] t)).cell? ((⟨w.heap.size, 0, none⟩ : Addr).add j) = some u := by
  rw [Go.WideShapes.add_plain, Nat.zero_add, World.cell?_alloc_new]
  simpa using h
theorem new2' (w : World) (x y : Value) (t : TypeId) (j : Nat) (u : Value) (h : [x, y][j]? = some u) : (w.alloc (.cells #[x, y] t)).cell? ((⟨w.heap.size, 0, none⟩ : Addr).add j) = some u := by
  rw [Go.WideShapes.add_plain, Nat.zero_add, World.cell?_alloc_new]
  simpa using h
theorem conv3 (v : World) (k : Nat) : (convert 32 9 (.slice (some ⟨v.heap.size, 0, none⟩) 3 3)).run Tryd.prog (v.alloc (.cells #[.int .u8 109, .int .u8 (97 + (k : Int) % 26), .int .u8 (97 + (k : Int) / 26 % 26)] 5)) = .ok (.string (mkB k)) (v.alloc (.cells #[.int .u8 109, .int .u8 (97 + (k : Int) % 26), .int .u8 (97 + (k : Int) / 26 % 26)] 5)) := by
  refine run_convert_bytes_back (v.alloc (.cells #[.int .u8 109, .int .u8 (97 + (k : Int) % 26), .int .u8 (97 + (k : Int) / 26 % 26)] 5)) 32 9 5 ⟨v.heap.size, 0, none⟩ 3 [109, UInt8.ofNat (97 + k % 26), UInt8.ofNat (97 + k / 26 % 26)] (by kernel_rfl) (by kernel_rfl) (by kernel_rfl) fun j hj => ?_
  rw [Go.WideShapes.add_plain, Nat.zero_add, World.cell?_alloc_new]
  have e1 : (UInt8.ofNat (97 + k % 26)).toNat = 97 + k % 26 := by simp; omega
  have e2 : (UInt8.ofNat (97 + k / 26 % 26)).toNat = 97 + k / 26 % 26 := by simp; omega
  have hj3 : j < 3 := hj
  match j, hj3 with
  | 0, _ => rfl
  | 1, _ => simp only [List.getElem_cons_succ, List.getElem_cons_zero, e1]; simp
  | 2, _ => simp only [List.getElem_cons_succ, List.getElem_cons_zero, e2]; simp


theorem eqS_self (L : List Ty) : eqS L L = true := by
  unfold eqS
  refine decide_eq_true ⟨rfl, fun j hj => ⟨by simp, ?_⟩⟩
  unfold eqB
  simp
theorem kw_kp {a b : Nat} {X u : World} (h : KwAt X) (G : Kp a b X u) (hg : 0 < a) : KwAt u :=
  ⟨Nat.lt_of_lt_of_le h.1 G.size, fun j hj => by
    have := G.low _ hg h.1
    have h2 := h.2 j hj
    unfold World.cell? at *
    simp only at *
    rw [this]; exact h2⟩
def chB (j : Nat) : ByteArray := ⟨#[UInt8.ofNat (97 + j % 26)]⟩
def spB (j : Nat) : ByteArray := ⟨#[115, 112, 111, 105, 108, 116]⟩ ++ chB j
theorem conv1 (v : World) (k : Nat) : (convert 32 9 (.slice (some ⟨v.heap.size, 0, none⟩) 1 1)).run Tryd.prog (v.alloc (.cells #[.int .u8 (97 + (k : Int) % 26)] 5)) = .ok (.string (chB k)) (v.alloc (.cells #[.int .u8 (97 + (k : Int) % 26)] 5)) := by
  refine run_convert_bytes_back (v.alloc (.cells #[.int .u8 (97 + (k : Int) % 26)] 5)) 32 9 5 ⟨v.heap.size, 0, none⟩ 1 [UInt8.ofNat (97 + k % 26)] (by kernel_rfl) (by kernel_rfl) (by kernel_rfl) fun j hj => ?_
  rw [Go.WideShapes.add_plain, Nat.zero_add, World.cell?_alloc_new]
  have e1 : (UInt8.ofNat (97 + k % 26)).toNat = 97 + k % 26 := by simp; omega
  have hj3 : j < 1 := hj
  match j, hj3 with
  | 0, _ => simp only [List.getElem_cons_zero, e1]; simp
theorem conv1d (v : World) (k : Nat) : (convert 32 9 (.slice (some ⟨v.heap.size, 0, none⟩) 1 1)).run Tryd.prog (v.alloc (.cells #[.int .u8 (97 + (k : Int) % 26)] 5)).drew = .ok (.string (chB k)) (v.alloc (.cells #[.int .u8 (97 + (k : Int) % 26)] 5)).drew := by
  refine run_convert_bytes_back (v.alloc (.cells #[.int .u8 (97 + (k : Int) % 26)] 5)).drew 32 9 5 ⟨v.heap.size, 0, none⟩ 1 [UInt8.ofNat (97 + k % 26)] (by kernel_rfl) (by kernel_rfl) (by kernel_rfl) fun j hj => ?_
  show (v.alloc _).cell? _ = _
  rw [Go.WideShapes.add_plain, Nat.zero_add, World.cell?_alloc_new]
  have e1 : (UInt8.ofNat (97 + k % 26)).toNat = 97 + k % 26 := by simp; omega
  have hj3 : j < 1 := hj
  match j, hj3 with
  | 0, _ => simp only [List.getElem_cons_zero, e1]; simp
theorem strsV_get (ss : List ByteArray) (j : Nat) : (strsV ss)[j]? = ss[j]?.map Value.string := by unfold strsV; simp
theorem long_get {base N n : Nat} {L : List Ty} {V : Nat → Value} {mk : Nat → ByteArray} {k : Nat} {w : World} {vl : Value} {D : List Value} {W : Nat → Value} (h : Long base N n L V mk k w vl D W) (j : Nat) (hj : j < k) :
    ∃ gj cj, W j = .slice (some ⟨gj, 0, none⟩) (mOf L j + 3) cj ∧ mOf L j + 3 ≤ cj ∧ gj < w.heap.size ∧ IsStrs w (some ⟨gj, 0, none⟩) (mOf L j) (L.getD j noTy).2 ∧ w.cell? ⟨gj, mOf L j, none⟩ = some (.string (mk j)) ∧ w.cell? ⟨gj, mOf L j + 2, none⟩ = some (.string (mk j)) := by
  have r := h.row j hj
  unfold mOf at *
  generalize (L.getD j noTy).2 = A at *
  obtain ⟨ao, cj, e, hm, hs⟩ := own_shape r
  rcases hs with hs | ⟨gj, rfl, hlt, _⟩
  · omega
  rw [e] at r
  have hc := own_cap r
  have cell : ∀ i, i < A.length + 3 → w.cell? ⟨gj, i, none⟩ = ((A ++ [mk j, mk j, mk j])[i]?).map Value.string := fun i hi => by
    rw [World.ownsRow.cellAt r i (by omega), strsV_get]
  refine ⟨gj, cj, e, hc, hlt, ⟨rfl, by omega, .inr ⟨gj, 0, rfl, hlt, fun i hi => ?_⟩⟩, ?_, ?_⟩
  · rw [Nat.zero_add, cell i (by omega), List.getElem?_append_left hi]
    simp [List.getD, List.getElem?_eq_getElem hi]
  · rw [cell _ (by omega), List.getElem?_append_right (Nat.le_refl _)]; simp
  · rw [cell _ (by omega), List.getElem?_append_right (by omega)]
    rw [show A.length + 2 - A.length = 2 by omega]; simp
theorem eqB_self (l : List ByteArray) : eqB l l = true := decide_eq_true ⟨rfl, fun _ _ => by simp⟩

set_option maxRecDepth 100000 in
set_option maxHeartbeats 16000000 in
theorem walk (s0 : ByteArray) (hs0 : s0.size ≤ 140737488351232) (w : World) (K : KwAt w) (E : ErAt w) :
    Calls Tryd.prog 4 #[.string s0] w fun en w' => en = .returned (.bool true) ∧ Below w.heap.size w w' := by
  have c := started_any w K E
  go_enter Tryd.func4, Tryd.ntmps4
  go_upto_region 3 with (go_at_call 12; with_reducible refine c.mono ?_; rintro en u ⟨rfl, B⟩)
  clear c
  replace K := K.keep B
  clear E
  have hKa : 0 < u.heap.size := K.1
  have c1 := fun z (k : KwAt z) => parseSchema_any s0 (by omega) z k
  have HS := scO_sound s0
  have HS' : Hid ((scO s0).2.1 = 0 → schE (scO s0).1 = 0 ∧ (scO s0).2.2 = 0) := HS
  clear HS
  generalize scO s0 = z at c1 HS'
  obtain ⟨L, a, p⟩ := z
  dsimp only at c1 HS'
  have c2 := c1 u K
  go_upto_region 4 with (go_at_call 9; with_reducible refine c2.mono ?_; rintro en u1 ⟨v, rfl, T1, g1⟩; obtain ⟨av, cv, rfl, hTy⟩ := T1.own.types)
  obtain ⟨n, hn⟩ : ∃ n, L.length = n := ⟨_, rfl⟩
  rw [hn] at T1 hTy ⊢
  have O1 := One.new u1 (.slice av n cv) 24
  have G1 := galloc g1 (.cells #[.slice av n cv] 24)
  have R1 : n ≠ 0 → ∃ bt C V, av = some ⟨bt, 0, none⟩ ∧ u.heap.size ≤ bt ∧ (∀ j, j < n → C[j * 2]? = some (.string (L.getD j noTy).1)) ∧ Rows0 u.heap.size u1.heap.size n L C V bt cv (fun j => (L.getD j noTy).2) (u1.alloc (.cells #[.slice av n cv] 24)) := fun h0 => by
    obtain ⟨bt, C, V, e1, e2, e3, e4⟩ := Rows0.of T1 h0 (Nat.le_refl _)
    exact ⟨bt, C, V, e1, e2, e3, e4.keep (galloc (Below.refl u1.heap.size u1) _)⟩
  clear T1
  replace hTy := hTy.keep (galloc (Below.refl u1.heap.size u1) (.cells #[.slice av n cv] 24))
  have hb1 : u1.heap.size < (u1.alloc (.cells #[.slice av n cv] 24)).heap.size := O1.lt
  generalize u1.alloc (.cells #[.slice av n cv] 24) = X1 at *
  generalize hbb : u1.heap.size = b at *
  have hab : u.heap.size ≤ b := by rw [← hbb]; exact g1.size
  have hs1 : u.heap.size ≤ X1.heap.size := G1.size
  clear g1 hbb c2
  have c2 := c1 X1 (K.keep G1)
  rw [hn] at c2
  go_upto_region 5 with (go_at_call 9; with_reducible refine c2.mono ?_; rintro en u2 ⟨v, rfl, T2, g2⟩; obtain ⟨aw, cw, rfl, hT2⟩ := T2.own.types)
  have O2 := One.new u2 (.slice aw n cw) 24
  have G2 := galloc g2 (.cells #[.slice aw n cw] 24)
  replace T2 := T2.keep (galloc (Below.refl u2.heap.size u2) (.cells #[.slice aw n cw] 24))
  generalize u2.alloc (.cells #[.slice aw n cw] 24) = X2 at *
  generalize hbf : u2.heap.size = bf at *
  have hf1 : X1.heap.size ≤ bf := by rw [← hbf]; exact g2.size
  clear g2 hbf c2 hT2
  by_cases ha : a = 0
  · subst ha
    obtain ⟨hz, rfl⟩ := HS'.out rfl
    clear HS'
    have hne := (sch_zero hz).1
    have h16 := (sch_zero hz).2.1
    rw [hn] at hne h16
    have h8 : ∀ j, (L.getD j noTy).2.length ≤ 8 := fun j => by
      by_cases hj : j < L.length
      · exact sch_len L hz j hj
      · have e : L.getD j noTy = noTy := by simp [List.getD, List.getElem?_eq_none (show L.length ≤ j by omega)]
        rw [e]; decide
    obtain ⟨bt, C, V, rfl, hbt, hC, R⟩ := R1 hne
    clear R1
    have o1 := (O1.keep G2).at0
    have c3 := twin_any (some ⟨bt, 0, none⟩) n cv L X2 (hTy.keep G2) (by omega) (fun j => by have := h8 j; omega)
    go_upto_region 8 with (go_at_call 13; with_reducible refine c3.mono ?_; rintro en u3 ⟨v, rfl, T3, g3⟩; obtain ⟨ax, cx, rfl, hT3⟩ := T3.types)
    have O3 := One.new u3 (.slice ax n cx) 24
    have G3 := galloc g3 (.cells #[.slice ax n cx] 24)
    replace T3 := T3.keep (galloc (Below.refl u3.heap.size u3) (.cells #[.slice ax n cx] 24))
    generalize u3.alloc (.cells #[.slice ax n cx] 24) = X3 at *
    generalize hbw : u3.heap.size = bw at *
    have hw1 : X2.heap.size ≤ bw := by rw [← hbw]; exact g3.size
    clear g3 hbw c3 hT3 o1
    have G23 := gtrans G2 G3
    replace O1 := O1.keep G23
    replace O2 := O2.keep G3
    replace R := R.keep G23
    replace T2 := T2.keep G3
    have K3 := (K.keep G1).keep G23
    have BX : Below w.heap.size w X3 := gtrans (gtrans B G1) G23
    have hsz : X1.heap.size ≤ X2.heap.size := G2.size
    have hu : w.heap.size ≤ u.heap.size := B.size
    clear K B G1 G2 G3 G23 hTy hz
    obtain ⟨N, hN⟩ : ∃ N, X3.heap.size = N := ⟨_, rfl⟩
    generalize u.heap.size = a at *
    have hO3 := O3.lt
    rw [hN] at hO3
    generalize hX0 : (fun j => (L.getD j noTy).2) = X0 at R
    obtain ⟨i0, hi, hz0, hz1', hz2⟩ := info_of strInfo
    obtain ⟨i3, ti, tz0, tz1, tz2⟩ := info_of tdInfo
    have one3 : ∀ m : ByteArray, ∀ u ∈ [Value.string m, .string m, .string m], u.oneCell' = true := fun m u hu => by simp at hu; subst hu; rfl
    go_upto_region 10 with fail
    go_loopw [10, 11] (fun vl x wr => ∃ (k : Nat) (D : List Value) (W : Nat → Value), k ≤ n ∧ x = .int .i64 k ∧ Kp a b X3 wr ∧ Rows0 a b n L C V bt cv X0 wr ∧ Long a N n L V mkB k wr vl D W) (fun _ x _ => n - (intOf x).toNat)
    case atStart => exact ⟨0, [], fun _ => undef, Nat.zero_le _, rfl, Kp.refl _ _ _, R, World.ownsRow_nil _ _ _ _, fun j hj => absurd hj (Nat.not_lt_zero _), fun j hj => absurd hj (Nat.not_lt_zero _), fun j hj => absurd hj (Nat.not_lt_zero _)⟩
    case round =>
      obtain ⟨k, D, W, hk, rfl, KP, R2, LG⟩ := hrel
      have o1 := (O1.kp KP (.inr (Nat.le_refl _))).at0
      by_cases hlt : k < n
      -- S1a
      · have q3 := conv3 wr k
        go_upto_region 13 with fail
        clear q3 o1
        have gA := galloc (Below.refl wr.heap.size wr) (.cells #[.int .u8 109, .int .u8 (97 + (k : Int) % 26), .int .u8 (97 + (k : Int) / 26 % 26)] 5)
        replace KP := KP.keep gA
        replace R2 := R2.keep gA
        replace LG := LG.keep gA
        generalize wr.alloc (.cells #[.int .u8 109, .int .u8 (97 + (k : Int) % 26), .int .u8 (97 + (k : Int) / 26 % 26)] 5) = W1 at *
        obtain ⟨m, hm⟩ : ∃ m, mkB k = m := ⟨_, rfl⟩
        rw [hm]
        have HM : Hid (mkB k = m) := hm
        clear hm
        have O1k := O1.kp KP (.inr (Nat.le_refl _))
        have o1 := O1k.at0
        have o2 := R2.cellV k hlt
        obtain ⟨ak, ck, eV, hSt, hck⟩ := own_strs (R2.row k hlt)
        rw [eV] at o2
        have h8k := h8 k
        have hm8 : mOf L k ≤ 8 := h8k
        have hz1 : N ≤ W1.heap.size := by have := KP.size; omega
        have hgk : ∀ g, (V k).ownBlock = some g → a ≤ g ∧ g < b := fun g e => ⟨((R2.row k hlt).lt g e).1, R2.top k hlt g e⟩
        have gB := galloc (Below.refl W1.heap.size W1) (.cells #[.string m, .string m, .string m] 9)
        have own1 : (W1.alloc (.cells #[.string m, .string m, .string m] 9)).ownsRow a 9 1 (.slice ak (mOf L k) ck) (mOf L k) (strsV (X0 k)) := by rw [← eV]; exact own_keep (R2.row k hlt) gB
        go_upto_region 14 with (at_builtin; refine wpList_append_keep rfl (.tmp 73) (.tmp 77) 33 rfl a 9 i0 (.string ⟨#[]⟩) 1 16 Tryd.underlying33 hi hz0 hz1' hz2 rfl (by decide) (.slice ak (mOf L k) ck) (mOf L k) (strsV (X0 k)) rfl own1 ⟨W1.heap.size, 0, none⟩ 3 3 [.string m, .string m, .string m] rfl rfl (new3 _ _ _ _ _) (one3 m) (by unfold maxLen; omega) (by omega) ?c3 ?_)
        case c3 => have := gB.size; omega
        intro vg W2 Og Os2 Gg hbk
        obtain ⟨ag, cg, rfl, _, _⟩ := own_shape Og
        rw [← eV] at Gg hbk Os2
        have KP2 := (KP.keep gB).grown Gg (fun g e => ⟨(hgk g e).1, .inl (hgk g e).2⟩)
        have R3 := (R2.keep gB).one k hlt (X0 k) Gg Os2
        rw [show (fun j => if j = k then X0 k else X0 j) = X0 from by funext j; split <;> simp_all] at R3
        have LG2 := (LG.keep gB).one (R2.keep gB) hlt (by omega) Gg
        have o3 := (O1.kp KP2 (.inr (Nat.le_refl _))).at0
        have o4 := R3.cellC k hlt (hC k hlt)
        have hz2' : N ≤ W2.heap.size := by have := KP2.size; omega
        have hX0k : X0 k = (L.getD k noTy).2 := by rw [← hX0]
        have gC := galloc (Below.refl W2.heap.size W2) (.cells #[.string (L.getD k noTy).1, .slice ag (mOf L k + 3) cg] 35)
        have own2 := own_keep LG2.own gC
        clear own1 Os2 o1 o2
        generalize (L.getD k noTy).1 = nm at *
        go_upto_region 11 with (at_builtin; refine wpList_append_own _ rfl (.tmp 79) (.tmp 88) 22 rfl N 35 i3 (.agg #[.string ⟨#[]⟩, .slice none 0 0]) 2 40 Tryd.underlying22 ti tz0 tz1 tz2 rfl (by decide) _ k D rfl own2 ⟨W2.heap.size, 0, none⟩ 1 1 [.string nm, .slice ag (mOf L k + 3) cg] rfl rfl (new2' _ _ _ _) (one2 _ _ _ _) (by unfold maxLen; omega) (by omega) ?c4 ?_)
        case c4 => have := gC.size; omega
        intro vl W3 Ol Gl _
        have KP3 := (KP2.keep gC).grown Gl (fun g e => by have := (own2.lt g e).1; omega)
        have R4 := (R3.keep gC).far Gl (fun g e => by have := (own2.lt g e).1; omega)
        have Og2 := own_keep Og gC
        rw [hX0k] at Og2
        have LG3 := (LG2.keep gC).more (.string nm) (.slice ag (mOf L k + 3) cg) vl Gl Ol (by
          have e : strsV ((L.getD k noTy).2 ++ [mkB k, mkB k, mkB k]) = strsV (L.getD k noTy).2 ++ [Value.string m, .string m, .string m] := by rw [HM.out]; simp [strsV]
          rw [e]; exact Og2) (by
          rcases hbk with h | h
          · exact .inl h
          · exact .inr (fun g e => by have := h g e; omega))
        clear KP KP2 R2 R3 LG LG2 own2 Ol Gl Og Og2 Gg o3 o4 gA gB gC
        go_wp2
        go_roundw
        case rel => exact ⟨k + 1, _, _, by omega, by go_num, KP3, R4, LG3⟩
        case measure => simp [intOf]; omega
      -- S1b
      · obtain rfl : k = n := by omega
        obtain ⟨al, cl, rfl, _, _⟩ := own_shape LG.own
        go_upto_region 16 with fail
        have T3k := T3.kp KP (by omega)
        have T3y := T3k.isTypes
        have O1k := O1.kp KP (.inr (Nat.le_refl _))
        have O3k := O3.kp KP (.inr (by omega))
        obtain ⟨_, _, q4⟩ := T3y
        rcases q4 with q4 | ⟨bx, off, rfl, hbx, hcx⟩
        · exact absurd q4 hne
        have Lo := LG.own
        obtain ⟨_, _, e1, _, hs⟩ := own_shape Lo
        simp only [Value.slice.injEq, true_and] at e1
        obtain ⟨rfl, rfl⟩ := e1
        rcases hs with hs | ⟨gl, rfl, hgl, hNl⟩
        · exact absurd hs hne
        obtain ⟨W0, rfl⟩ : ∃ W0, W0 = wr := ⟨_, rfl⟩
        go_loopw [14] (fun x wq => ∃ j : Nat, j ≤ k ∧ x = .int .i64 j ∧ Below W0.heap.size W0 wq) (fun x _ => k - (intOf x).toNat)
        case atStart => exact ⟨0, Nat.zero_le _, rfl, Below.refl _ _⟩
        case round =>
          obtain ⟨j, hj, rfl, GB⟩ := hrel
          by_cases hlt2 : j < k
          -- S2a
          · obtain ⟨_, aj, cj, f2, hcj, hSj⟩ := hcx j hlt2
            obtain ⟨gj, dj, eW, hdj, hgj, hIs, f3, f4⟩ := long_get LG j hlt2
            have f1 : W0.cell? ⟨gl, j * 2 + 1, none⟩ = some (.slice (some ⟨gj, 0, none⟩) (mOf L j + 3) dj) := by
              rw [World.ownsRow.cellAt Lo (j * 2 + 1) (by omega), LG.att j hlt2, eW]
            obtain ⟨av, cs, eV, hIv, hcs⟩ := own_strs (R2.row j hlt2)
            have f5 := R2.cellV j hlt2
            rw [eV] at f5
            have hXj : X0 j = (L.getD j noTy).2 := by rw [← hX0]
            rw [hXj] at hIv
            have h8j : mOf L j ≤ 8 := h8 j
            obtain ⟨m, hm⟩ : ∃ m, mOf L j = m := ⟨_, rfl⟩
            replace f2 : W0.cell? ⟨bx, off + j * 2 + 1, none⟩ = some (.slice aj (mOf L j) cj) := f2
            replace hSj : IsStrs W0 aj (mOf L j) (L.getD j noTy).2 := hSj
            generalize (L.getD j noTy).2 = A at *
            rw [hm] at f1 f2 f3 f4 f5 hSj hIs hIv hdj h8j hcs
            clear hm eW eV
            have o3 := (O3k.keep GB).at0
            have g2 := (GB.cell (p := ⟨bx, off + j * 2 + 1, none⟩) hbx).trans f2
            have q3 := conv3 wr j
            go_upto_region 20 with fail
            have GB2 := galloc GB (.cells #[.int .u8 109, .int .u8 (97 + (j : Int) % 26), .int .u8 (97 + (j : Int) / 26 % 26)] 5)
            clear q3 o3 g2
            generalize wr.alloc (.cells #[.int .u8 109, .int .u8 (97 + (j : Int) % 26), .int .u8 (97 + (j : Int) / 26 % 26)] 5) = W1 at *
            have y1 : ∀ z : Ext W1, Calls Tryd.prog 14 #[.slice (some ⟨gj, 0, none⟩) m dj, .slice aj m cj] z.X (fun e w'' => e = .returned (.bool true) ∧ ∃ m : Ext W1, w'' = m.X) := fun z => ext_of (by
              have := sameList_any (some ⟨gj, 0, none⟩) aj m m dj cj A A z.X ((hIs.keep GB2).keep z.h) ((hSj.keep GB2).keep z.h)
              rw [eqB_self] at this
              exact this)
            have y2 : ∀ z : Ext W1, Calls Tryd.prog 14 #[.slice av m cs, .slice aj m cj] z.X (fun e w'' => e = .returned (.bool true) ∧ ∃ m : Ext W1, w'' = m.X) := fun z => ext_of (by
              have := sameList_any av aj m m cs cj A A z.X ((hIv.keep GB2).keep z.h) ((hSj.keep GB2).keep z.h)
              rw [eqB_self] at this
              exact this)
            have cl : ∀ (z : Ext W1) (g o : Nat) (x : Value), W0.cell? ⟨g, o, none⟩ = some x → z.X.cell? ⟨g, o, none⟩ = some x := fun z g o x h => by
              have h1 := (GB2.cell (p := ⟨g, o, none⟩) (lt_of_cell h)).trans h
              exact (z.h.cell (p := ⟨g, o, none⟩) (lt_of_cell h1)).trans h1
            have p1 := fun z : Ext W1 => cl z _ _ _ O1k.at0
            have p2 := fun z : Ext W1 => cl z _ _ _ O3k.at0
            have p3 := fun z : Ext W1 => cl z _ _ _ f1
            have p4 := fun z : Ext W1 => cl z _ _ _ f2
            have p5 := fun z : Ext W1 => cl z _ _ _ f3
            have p6 := fun z : Ext W1 => cl z _ _ _ f4
            have p7 := fun z : Ext W1 => cl z _ _ _ f5
            have hne' : Nonempty (Ext W1) := ⟨⟨_, Below.refl _ _⟩⟩
            generalize mkB j = mk at *
            clear hIs hIv hSj cl f1 f2 f3 f4 f5
            have i1 : IntKind.i64.wrap ((m : Int) + 2) = (m : Int) + 2 := by rw [IntKind.wrap_i64]; omega
            have i2 : ((m : Int) + 2).toNat = m + 2 := by omega
            have i3 : ((m : Int) + 2) < ((m + 3 : Nat) : Int) := by omega
            have i4 : ((m : Int)) < ((m + 3 : Nat) : Int) := by omega
            have i5 : (0 : Int) ≤ (m : Int) + 2 := by omega
            refine wp_region_ext (by kernel_rfl) (by kernel_rfl) ?_
            repeat (go_big_quiet_step (first | (go_at_call 14; first | with_reducible exact y1 _ | with_reducible exact y2 _)))
            refine wpQuiet_nil ?_
            intro _ hw'
            obtain ⟨nxw, hw''⟩ := hw'
            subst hw''
            clear y1 y2 p1 p2 p3 p4 p5 p6 p7 i1 i2 i3 i4 i5 hne'
            go_wp2
            go_roundw
            case rel => exact ⟨j + 1, by omega, by go_num, gtrans GB2 nxw.h⟩
            case measure => simp [intOf]; omega
          -- S2b
          · obtain rfl : j = k := by omega
            replace KP := KP.keep GB
            replace R2 := R2.keep GB
            clear GB LG Lo hgl T3k O1k O3k hcx hbx
            have o1 := (O1.kp KP (.inr (Nat.le_refl _))).at0
            have gB := galloc (Below.refl wr.heap.size wr) (.cells #[.string ⟨#[111, 110, 101]⟩, .slice none 0 0, .string ⟨#[116, 119, 111]⟩, .slice none 0 0] 35)
            have own1 := own_keep R2.typ gB
            have hzz : N ≤ wr.heap.size := by have := KP.size; omega
            go_upto_region 24 with (at_builtin; refine wpList_append_keep rfl (.tmp 171) (.tmp 174) 22 rfl a 35 i3 (.agg #[.string ⟨#[]⟩, .slice none 0 0]) 2 40 Tryd.underlying22 ti tz0 tz1 tz2 rfl (by decide) (.slice (some ⟨bt, 0, none⟩) j cv) j C rfl own1 ⟨wr.heap.size, 0, none⟩ 2 2 [.string ⟨#[111, 110, 101]⟩, .slice none 0 0, .string ⟨#[116, 119, 111]⟩, .slice none 0 0] rfl rfl (new4 _ _ _ _ _ _) one4 (by unfold maxLen; omega) (by omega) ?c5 ?_)
            case c5 => have := gB.size; omega
            intro vm W5 Om Ot Gm hbm
            obtain ⟨am, cm, rfl, _, _⟩ := own_shape Om
            have hbtb := R2.tbt
            have KP5 := (KP.keep gB).grown Gm (fun g e => by cases e; exact ⟨hbt, .inl hbtb⟩)
            have R5 : Rows0 a b j L C V bt cv X0 W5 := ⟨Ot, R2.att, fun q hq => own_far (own_keep (R2.row q hq) gB) Gm (fun g e e2 => by cases e; exact R2.ne q hq e2), R2.apt, R2.top, R2.tbt⟩
            clear KP R2 Om Ot Gm hbm own1 gB o1 hzz
            go_upto_region 24 with fail
            go_loopw [18] (fun x wq => ∃ (i : Nat) (X : Nat → List ByteArray), i ≤ j ∧ x = .int .i64 i ∧ Kp a b X3 wq ∧ Rows0 a b j L C V bt cv X wq ∧ (∀ q, (X q).length = mOf L q) ∧ ∀ q, q < i → ∀ r, r < mOf L q → (X q)[r]? = some (spB q)) (fun x _ => j - (intOf x).toNat)
            case atStart => exact ⟨0, X0, Nat.zero_le _, rfl, KP5, R5, fun q => by rw [← hX0], fun q hq => absurd hq (Nat.not_lt_zero _)⟩
            case round =>
              obtain ⟨i, X, hi', rfl, KP, R, hlen, hsp⟩ := hrel
              clear KP5 R5
              have o1 := (O1.kp KP (.inr (Nat.le_refl _))).at0
              by_cases hlt2 : i < j
              -- S3a
              · obtain ⟨m, hm⟩ : ∃ m, mOf L i = m := ⟨_, rfl⟩
                have HM : Hid (mOf L i = m) := hm
                clear hm
                have h8j : m ≤ 8 := by have := h8 i; rw [← HM.out]; exact this
                go_upto_region 27 with fail
                go_loopw [19] (fun x wq => ∃ (r : Nat) (X : Nat → List ByteArray), r ≤ m ∧ x = .int .i64 r ∧ Kp a b X3 wq ∧ Rows0 a b j L C V bt cv X wq ∧ (∀ q, (X q).length = mOf L q) ∧ (∀ q, q < i → ∀ r, r < mOf L q → (X q)[r]? = some (spB q)) ∧ ∀ r', r' < r → (X i)[r']? = some (spB i)) (fun x _ => m - (intOf x).toNat)
                case atStart => exact ⟨0, X, Nat.zero_le _, rfl, KP, R, hlen, hsp, fun q hq => absurd hq (Nat.not_lt_zero _)⟩
                case round =>
                  clear KP R hlen hsp o1
                  obtain ⟨r, X, hr, rfl, KP, R, hlen, hsp, hri⟩ := hrel
                  have O1k := O1.kp KP (.inr (Nat.le_refl _))
                  have o1 := O1k.at0
                  have o2 := R.cellV i hlt2
                  have Ri := R.row i hlt2
                  obtain ⟨av, cs, eV, hIs, hcs⟩ := own_strs Ri
                  rw [eV] at o2 Ri
                  rw [HM.out] at o2 Ri hcs
                  have l1 := O1k.lt
                  have l2 := R.lt.1
                  by_cases hlt3 : r < m
                  · obtain ⟨_, _, e1, _, hs⟩ := own_shape Ri
                    simp only [Value.slice.injEq, true_and] at e1
                    obtain ⟨rfl, rfl⟩ := e1
                    rcases hs with hs | ⟨gi, rfl, hgi, hagi⟩
                    · omega
                    have q3 := fun v : World => conv1d v i
                    have hch : (chB i).size = 1 := rfl
                    have hcell : wr.cell? ⟨gi, r, none⟩ = some (.string ((X i).getD r .empty)) := by
                      rw [World.ownsRow.cellAt Ri r (by omega), strsV_get]
                      have : r < (X i).length := by rw [hlen, HM.out]; exact hlt3
                      simp [List.getD, List.getElem?_eq_getElem this]
                    have hfr : wr.frozen? ⟨gi, r, none⟩ = false := by
                      obtain ⟨cur, h6, _⟩ := own_block Ri
                      simp [World.frozen?, h6]
                    go_upto_region 29 with fail
                    go_region
                    have eb : (V i).ownBlock = some gi := by rw [eV]; rfl
                    obtain ⟨Y1, Y2⟩ := Ri.stored r (.string (spB i))
                    have hset : (strsV (X i)).set r (.string (spB i)) = strsV ((X i).set r (spB i)) := by unfold strsV; rw [List.map_set]
                    rw [hset, ← HM.out, ← eV] at Y1
                    rw [← eb] at Y2
                    have RN := (R.one i hlt2 ((X i).set r (spB i)) Y2 Y1).keep ((galloc (Below.refl _ _) (.cells #[.int .u8 (97 + (i : Int) % 26)] 5)).drew)
                    have KN := (KP.grown Y2 (fun g e => ⟨(R.row i hlt2).lt g e |>.1, .inl (R.top i hlt2 g e)⟩)).keep ((galloc (Below.refl _ _) (.cells #[.int .u8 (97 + (i : Int) % 26)] 5)).drew)
                    have hrl : r < (X i).length := by rw [hlen, HM.out]; exact hlt3
                    have hlen' : ∀ q, ((fun j => if j = i then (X i).set r (spB i) else X j) q).length = mOf L q := fun q => by
                      dsimp only
                      split
                      · rename_i e; subst e; rw [List.length_set]; exact hlen _
                      · exact hlen q
                    have hsp' : ∀ q, q < i → ∀ r', r' < mOf L q → ((fun j => if j = i then (X i).set r (spB i) else X j) q)[r']? = some (spB q) := fun q hq r' hr' => by
                      dsimp only
                      rw [if_neg (by omega)]; exact hsp q hq r' hr'
                    have hri' : ∀ r', r' < r + 1 → ((fun j => if j = i then (X i).set r (spB i) else X j) i)[r']? = some (spB i) := fun r' hr' => by
                      dsimp only
                      rw [if_pos rfl, List.getElem?_set]
                      by_cases e : r = r'
                      · subst e; rw [if_pos rfl, if_pos hrl]
                      · rw [if_neg e]; exact hri r' (by omega)
                    have es : (⟨#[115, 112, 111, 105, 108, 116]⟩ : ByteArray) ++ chB i = spB i := rfl
                    rw [es]
                    generalize (fun j => if j = i then (X i).set r (spB i) else X j) = XN at *
                    clear Y1 Y2 KP R Ri hlen hsp hri hset hcell hfr q3 hch o1 o2 l1 l2 O1k hIs
                    generalize ((wr.setCell ⟨gi, r, none⟩ (.string (spB i))).alloc (.cells #[.int .u8 (97 + (i : Int) % 26)] 5)).drew = W9 at *
                    go_wp2
                    go_roundw
                    case rel => exact ⟨r + 1, XN, by omega, by go_num, KN, RN, hlen', hsp', hri'⟩
                    case measure => simp [intOf]; omega
                  · obtain rfl : r = m := by omega
                    clear Ri hIs
                    go_wp2
                    go_roundw
                    case rel =>
                      refine ⟨i + 1, X, by omega, by go_num, KP, R, hlen, fun q hq r' hr' => ?_⟩
                      by_cases e : q = i
                      · subst e; exact hri r' (by rw [← HM.out]; exact hr')
                      · exact hsp q (by omega) r' hr'
                    case measure => simp [intOf]; omega
              -- S3b
              · obtain rfl : i = j := by omega
                go_upto_region 31 with fail
                have R3t := R.typ
                have R3a := fun q (_ : 0 ≤ q) (h : q < i) => R.att q h
                have R3r := R.row
                have hne2 := R.ne
                have htp := R.top
                have htb := R.tbt
                clear R
                go_loopw [20] (fun x wq => ∃ (y : Nat) (D : List Value), y ≤ i ∧ x = .int .i64 y ∧ Kp a b X3 wq ∧ wq.ownsRow a 35 2 (.slice (some ⟨bt, 0, none⟩) i cv) i D ∧ (∀ q, y ≤ q → q < i → D[q * 2 + 1]? = some (V q)) ∧ ∀ q, q < i → wq.ownsRow a 9 1 (V q) (mOf L q) (strsV (X q))) (fun x _ => i - (intOf x).toNat)
                case atStart => exact ⟨0, C, Nat.zero_le _, rfl, KP, R3t, R3a, R3r⟩
                case round =>
                  clear KP R3t R3a R3r o1
                  obtain ⟨y, D, hy, rfl, KP, RT, RA, RR⟩ := hrel
                  have O1k := O1.kp KP (.inr (Nat.le_refl _))
                  have o1 := O1k.at0
                  by_cases hlt2 : y < i
                  -- S4a
                  · obtain ⟨m, hm⟩ : ∃ m, mOf L y = m := ⟨_, rfl⟩
                    have HM : Hid (mOf L y = m) := hm
                    clear hm
                    have h8j : m ≤ 8 := by have := h8 y; rw [← HM.out]; exact this
                    obtain ⟨av, cs, eV, hIs, hcs⟩ := own_strs (RR y hlt2)
                    have o2 : wr.cell? ⟨bt, y * 2 + 1, none⟩ = some (.slice av m cs) := by
                      rw [World.ownsRow.cellAt RT (y * 2 + 1) (by omega), RA y (Nat.le_refl _) hlt2, eV, HM.out]
                    have hIm : IsStrs wr av m (X y) := by rw [← HM.out]; exact hIs
                    have hspy : ∀ r, r < m → (X y)[r]? = some (spB y) := fun r hr => hsp y hlt2 r (by rw [HM.out]; exact hr)
                    obtain ⟨_, _, hIc⟩ := hIm
                    clear hIs
                    obtain ⟨W6, rfl⟩ : ∃ W6, W6 = wr := ⟨_, rfl⟩
                    go_upto_region 34 with fail
                    go_loopw [21] (fun x wq => ∃ r : Nat, r ≤ m ∧ x = .int .i64 r ∧ Below W6.heap.size W6 wq) (fun x _ => m - (intOf x).toNat)
                    case atStart => exact ⟨0, Nat.zero_le _, rfl, Below.refl _ _⟩
                    case round =>
                      obtain ⟨r, hr, rfl, GB⟩ := hrel
                      have p1 := (O1k.keep GB).at0
                      have p2 := (GB.cell (p := ⟨bt, y * 2 + 1, none⟩) (lt_of_cell o2)).trans o2
                      have l1 := (O1k.keep GB).lt
                      have l2 := lt_of_cell p2
                      replace l2 : bt < wr.heap.size := l2
                      by_cases hlt3 : r < m
                      · rcases hIc with h0 | ⟨gi, oi, rfl, hgi, hcs2⟩
                        · omega
                        have p3 : wr.cell? ⟨gi, oi + r, none⟩ = some (.string (spB y)) := by
                          rw [(GB.cell (p := ⟨gi, oi + r, none⟩) hgi), hcs2 r hlt3]
                          simp [List.getD, hspy r hlt3]
                        have l3 : gi < wr.heap.size := Nat.lt_of_lt_of_le hgi GB.size
                        have q3 := fun v : World => conv1d v y
                        have hch : (chB y).size = 1 := rfl
                        have hsb : spB y = (⟨#[115, 112, 111, 105, 108, 116]⟩ : ByteArray) ++ chB y := rfl
                        rw [hsb] at p3
                        clear hsb hcs2
                        go_upto_region 36 with fail
                        go_region
                        have GN := gtrans GB ((galloc (Below.refl wr.heap.size wr) (.cells #[.int .u8 (97 + (y : Int) % 26)] 5)).drew)
                        generalize (wr.alloc (.cells #[.int .u8 (97 + (y : Int) % 26)] 5)).drew = W9 at *
                        clear p1 p2 p3 q3 hch l1 l2 l3
                        go_wp2
                        go_roundw
                        case rel => exact ⟨r + 1, by omega, by go_num, GN⟩
                        case measure => simp [intOf]; omega
                      · obtain rfl : r = m := by omega
                        have RTk := own_keep RT GB
                        have RRk := fun q hq => own_keep (RR q hq) GB
                        have KPk := KP.keep GB
                        have c0 : ∃ x0, wr.cell? ⟨bt, y * 2, none⟩ = some x0 := by
                          rw [World.ownsRow.cellAt RTk (y * 2) (by omega)]
                          exact ⟨_, List.getElem?_eq_getElem (by rw [RTk.1]; omega)⟩
                        obtain ⟨x0, c0⟩ := c0
                        have z0 : wr.frozen? ⟨bt, y * 2, none⟩ = false := by
                          obtain ⟨cur, h6, _⟩ := own_block RTk
                          simp [World.frozen?, h6]
                        have z1 : wr.frozen? ⟨bt, y * 2 + 1, none⟩ = false := by
                          obtain ⟨cur, h6, _⟩ := own_block RTk
                          simp [World.frozen?, h6]
                        go_upto_region 32 with fail
                        obtain ⟨Y1, Y2⟩ := RTk.stored (y * 2) (.string ⟨#[115, 112, 111, 105, 108, 116]⟩)
                        obtain ⟨Y3, Y4⟩ := Y1.stored (y * 2 + 1) (.slice none 0 0)
                        have KN := (KPk.grown Y2 (fun g e => by cases e; exact ⟨hbt, .inl htb⟩)).grown Y4 (fun g e => by cases e; exact ⟨hbt, .inl htb⟩)
                        have RN : ∀ q, q < i → ((wr.setCell ⟨bt, y * 2, none⟩ (.string ⟨#[115, 112, 111, 105, 108, 116]⟩)).setCell ⟨bt, y * 2 + 1, none⟩ (.slice none 0 0)).ownsRow a 9 1 (V q) (mOf L q) (strsV (X q)) := fun q hq =>
                          own_far (own_far (RRk q hq) Y2 (fun g e e2 => by cases e; exact hne2 q hq e2)) Y4 (fun g e e2 => by cases e; exact hne2 q hq e2)
                        have AN : ∀ q, y + 1 ≤ q → q < i → ((D.set (y * 2) (.string ⟨#[115, 112, 111, 105, 108, 116]⟩)).set (y * 2 + 1) (.slice none 0 0))[q * 2 + 1]? = some (V q) := fun q h1 h2 => by
                          rw [List.getElem?_set_ne (by omega), List.getElem?_set_ne (by omega)]
                          exact RA q (by omega) h2
                        clear Y1 Y2 Y4 KPk RTk RRk c0 z0 z1 p1 p2 o1 o2 O1k KP RT RA RR hIc GB l1 l2
                        generalize (wr.setCell ⟨bt, y * 2, none⟩ (.string ⟨#[115, 112, 111, 105, 108, 116]⟩)).setCell ⟨bt, y * 2 + 1, none⟩ (.slice none 0 0) = W9 at *
                        go_wp2
                        go_roundw
                        case rel => exact ⟨y + 1, _, by omega, by go_num, KN, Y3, AN, RN⟩
                        case measure => simp [intOf]; omega
                  -- S4b
                  · obtain rfl : y = i := by omega
                    have KK := kw_kp K3 KP hKa
                    have c5 := c1 wr KK
                    rw [hn] at c5
                    go_upto_region 40 with (go_at_call 9; with_reducible refine c5.mono ?_; rintro en u9 ⟨v, rfl, T9, g9⟩; obtain ⟨at9, ct9, rfl, hT9⟩ := T9.own.types)
                    have O9 := One.new u9 (.slice at9 y ct9) 24
                    have G9 := galloc g9 (.cells #[.slice at9 y ct9] 24)
                    replace hT9 := hT9.keep (galloc (Below.refl u9.heap.size u9) (.cells #[.slice at9 y ct9] 24))
                    generalize u9.alloc (.cells #[.slice at9 y ct9] 24) = X9 at *
                    generalize u9.heap.size = b9 at *
                    have KP9 := KP.keep G9
                    have hI3 := (T3.kp KP9 (by omega)).isTypes
                    have hI2 := (T2.own.kp KP9 (by omega)).isTypes
                    have o2 := (O2.kp KP9 (.inr (by omega))).at0
                    have o3 := (O3.kp KP9 (.inr (by omega))).at0
                    have o9 := O9.at0
                    have d1 := sameSchema_any at9 (some ⟨bx, off, none⟩) y y ct9 cx L L X9 hT9 hI3
                    have d2 := fun z (g : Below X9.heap.size X9 z) => sameSchema_any aw (some ⟨bx, off, none⟩) y y cw cx L L z (hI2.keep g) (hI3.keep g)
                    simp only [eqS_self L] at d1 d2
                    clear c5 c1 T9 g9 RT RA RR KP
                    go_wp2_with (first
                      | (go_at_call 11; (with_reducible refine d1.mono ?_); rintro en v1 ⟨rfl, e1⟩; have d3 := d2 v1 e1; have r2 := ((O2.kp KP9 (.inr (by omega))).keep e1).at0; have r3 := ((O3.kp KP9 (.inr (by omega))).keep e1).at0; clear d1)
                      | (go_at_call 11; (with_reducible refine d3.mono ?_); rintro en v2 ⟨rfl, e2⟩; have r4 := ((O3.kp KP9 (.inr (by omega))).keep (gtrans e1 e2)).at0))
                    go_ret
                    have BW := KP9.below BX hu (Nat.le_trans hu (by omega))
                    exact ⟨rfl, gtrans BW (gtrans e1 e2)⟩
  · have q0 : (a != 0) = true := by simpa using ha
    have q1 : (a == a) = true := by simp
    clear ha HS'
    go_wp2
    go_ret
    exact ⟨rfl, gtrans (gtrans B G1) G2⟩

end Go.Proofs.YtkpnnofonocilaaDoor.eventOwn
