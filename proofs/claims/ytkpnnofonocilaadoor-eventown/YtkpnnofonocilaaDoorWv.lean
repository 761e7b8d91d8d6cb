/- What the line reader's method values comes to. -/
import Derived.Test.YtkpnnofonocilaaDoorWl2
import Derived.Test.YtkpnnofonocilaaDoorWn3
import Derived.Test.YtkpnnofonocilaaDoorSc
namespace Go.Proofs.YtkpnnofonocilaaDoor
open Go.RowKit Go.BigFrame
set_option linter.unusedVariables false
set_option linter.unusedSimpArgs false

/-- The values from a place on: they, the error, the place from which the last word was read. -/
def rdV (s : ByteArray) : Nat → Nat → List Int × Int × Nat
  | 0, e => ([], if wA s e < s.size then 28 else 0, e)
  | n + 1, e => if wA s e < s.size then (match numO (wd s e) with | none => ([], 26, e) | some v => (v :: (rdV s n (wE s e)).1, (rdV s n (wE s e)).2)) else ([], 28, e)
def Arr (w : World) (b : Nat) (l : List Int) : Prop := w.heap[b]? = some (.cells (l.map (Value.int .i64)).toArray 42 (0, 0))
theorem Arr.lt {w : World} {b : Nat} {l : List Int} (h : Arr w b l) : b < w.heap.size := lt_of_block h
theorem Arr.keep {w u : World} {b : Nat} {l : List Int} (h : Arr w b l) (G : Below w.heap.size w u) : Arr u b l := (G.block b h.lt).trans h
theorem Arr.grown {w u : World} {b : Nat} {l : List Int} {r : Option Nat} (h : Arr w b l) (G : w.grownBy u r) (hb : r ≠ some b) : Arr u b l := (G.block b h.lt (fun e => hb e.symm)).trans h
theorem Arr.other {w : World} {b : Nat} {l : List Int} (h : Arr w b l) {p : Addr} (hp : b ≠ p.block) (u : Value) : Arr (w.setCell p u) b l := (Below.heap_setCell w p u b hp).trans h
theorem Arr.free {w : World} {b : Nat} {l : List Int} (h : Arr w b l) (o : Nat) : w.frozen? ⟨b, o, none⟩ = false := by unfold Arr at h; simp [World.frozen?, h]
theorem Arr.cell {w : World} {b : Nat} {l : List Int} (h : Arr w b l) (j : Nat) (hj : j < l.length) : w.cell? ⟨b, j, none⟩ = some (.int .i64 (l.getD j 0)) := by
  unfold Arr at h
  simp only [World.cell?, h]
  simp [List.getD, List.getElem?_eq_getElem hj]
theorem Arr.set {w : World} {b : Nat} {l : List Int} (h : Arr w b l) (j : Nat) (v : Int) : Arr (w.setCell ⟨b, j, none⟩ (.int .i64 v)) b (l.set j v) := by
  have hlt := h.lt
  unfold Arr at h ⊢
  have h' : w.heap[b] = .cells (l.map (Value.int .i64)).toArray 42 (0, 0) := by simpa [Array.getElem?_eq_getElem hlt] using h
  show (w.heap.modify b _)[b]? = _
  rw [Array.getElem?_eq_getElem (by simpa using hlt), Array.getElem_modify_self, h']
  simp
theorem eight {l : List Int} (h : l.length = 8) : ∃ a0 a1 a2 a3 a4 a5 a6 a7, l = [a0, a1, a2, a3, a4, a5, a6, a7] := by
  rcases l with _ | ⟨a0, _ | ⟨a1, _ | ⟨a2, _ | ⟨a3, _ | ⟨a4, _ | ⟨a5, _ | ⟨a6, _ | ⟨a7, _ | ⟨a8, l⟩⟩⟩⟩⟩⟩⟩⟩⟩
  all_goals first | exact ⟨_, _, _, _, _, _, _, _, rfl⟩ | (simp at h)
/-- Values and zeros behind them. -/
def pad (l : List Int) : List Int := l ++ List.replicate (8 - l.length) 0
theorem pad_len {l : List Int} (h : l.length ≤ 8) : (pad l).length = 8 := by unfold pad; simp; omega
theorem pad_snoc (l : List Int) (v : Int) (h : l.length < 8) : (pad l).set l.length v = pad (l ++ [v]) := by
  unfold pad
  rw [List.length_append, List.length_singleton, show 8 - l.length = (8 - (l.length + 1)) + 1 by omega, List.replicate_succ]
  rw [List.set_append_right _ _ (Nat.le_refl _), Nat.sub_self, List.set_cons_zero, List.append_assoc]
  rfl
theorem wd_empty (s : ByteArray) (e : Nat) (he : e ≤ s.size) : ((wd s e).toList == []) = !(decide (wA s e < s.size)) := by
  have h1 := wA_le s e he
  have h2 := wE_le s e he
  by_cases h : wA s e < s.size
  · have h3 := wE_gt s e h
    rw [decide_eq_true h, Bool.not_true, beq_eq_false_iff_ne]
    unfold wd
    rw [ext_list s _ _ h3 h2.2]
    exact List.cons_ne_nil _ _
  · rw [decide_eq_false h, Bool.not_false, beq_iff_eq, Lib.toList_data]
    have : (wd s e).data.toList.length = 0 := by
      rw [Array.length_toList]
      show (wd s e).size = 0
      unfold wd
      rw [ByteArray.size_extract]
      omega
    exact List.eq_nil_of_length_eq_zero this
theorem wd_size (s : ByteArray) (e : Nat) : (wd s e).size ≤ s.size := by
  unfold wd
  rw [ByteArray.size_extract]
  omega
theorem results_row_tmp1 {P : Program} {fn : Func} {p q : Tmp} {ty : TypeId} (h : fn.results = #[.cell p ty, .tmp q]) (tmps : Array Value) (w : World) (g : Nat) (t : TypeId) (cs : Array Value) (fr : Nat × Nat) (d : TypeDesc)
    (hp : tmps.getD p undef = .pointer (some ⟨g, 0, none⟩)) (hg : w.heap[g]? = some (.cells cs t fr))
    (hu : P.underlying ty = some d) (hd : (match d with | .struct _ | .array _ _ => true | _ => false) = true) (hi : (P.info? ty).map (·.size) = some cs.size) :
    (results fn tmps).run P w = .ok (.tuple #[.agg cs, tmps.getD q undef]) w := by
  have hp' : tmps[p]?.getD undef = .pointer (some ⟨g, 0, none⟩) := by simpa using hp
  simp [results, h, hp', asAddr, run_loadVar_row w g t ty cs fr d hg hu hd hi]
theorem Arr.set8 {w : World} {b : Nat} {l : List Int} (h : Arr w b l) (hl : l.length = 8) (a0 a1 a2 a3 a4 a5 a6 a7 : Int) :
    Arr ((((((((w.setCell ⟨b, 0, none⟩ (.int .i64 a0)).setCell ⟨b, 1, none⟩ (.int .i64 a1)).setCell ⟨b, 2, none⟩ (.int .i64 a2)).setCell ⟨b, 3, none⟩ (.int .i64 a3)).setCell ⟨b, 4, none⟩ (.int .i64 a4)).setCell ⟨b, 5, none⟩ (.int .i64 a5)).setCell ⟨b, 6, none⟩ (.int .i64 a6)).setCell ⟨b, 7, none⟩ (.int .i64 a7)) b [a0, a1, a2, a3, a4, a5, a6, a7] := by
  obtain ⟨b0, b1, b2, b3, b4, b5, b6, b7, rfl⟩ := eight hl
  exact (((((((h.set 0 a0).set 1 a1).set 2 a2).set 3 a3).set 4 a4).set 5 a5).set 6 a6).set 7 a7
theorem grown_set8 (w u : World) (b c : Nat) (hc : w.heap.size ≤ c) (h : w.grownBy u (some b)) (x0 x1 x2 x3 x4 x5 x6 x7 : Value) :
    w.grownBy ((((((((u.setCell ⟨c, 0, none⟩ x0).setCell ⟨c, 1, none⟩ x1).setCell ⟨c, 2, none⟩ x2).setCell ⟨c, 3, none⟩ x3).setCell ⟨c, 4, none⟩ x4).setCell ⟨c, 5, none⟩ x5).setCell ⟨c, 6, none⟩ x6).setCell ⟨c, 7, none⟩ x7) (some b) := by
  have one : ∀ (v : World) (o : Nat) (x : Value), w.grownBy v (some b) → w.grownBy (v.setCell ⟨c, o, none⟩ x) (some b) := fun v o x g => grown_far g (grown_set v c o x) (fun g' e => by have := Option.some.inj e; omega)
  exact one _ _ _ (one _ _ _ (one _ _ _ (one _ _ _ (one _ _ _ (one _ _ _ (one _ _ _ (one _ _ _ h)))))))
theorem Lr.set8 {w : World} {b : Nat} {s : ByteArray} {a e : Int} (h : Lr w b s a e) (c : Nat) (hc : b ≠ c) (x0 x1 x2 x3 x4 x5 x6 x7 : Value) :
    Lr ((((((((w.setCell ⟨c, 0, none⟩ x0).setCell ⟨c, 1, none⟩ x1).setCell ⟨c, 2, none⟩ x2).setCell ⟨c, 3, none⟩ x3).setCell ⟨c, 4, none⟩ x4).setCell ⟨c, 5, none⟩ x5).setCell ⟨c, 6, none⟩ x6).setCell ⟨c, 7, none⟩ x7) b s a e :=
  (((((((h.other (p := ⟨c, 0, none⟩) hc _).other (p := ⟨c, 1, none⟩) hc _).other (p := ⟨c, 2, none⟩) hc _).other (p := ⟨c, 3, none⟩) hc _).other (p := ⟨c, 4, none⟩) hc _).other (p := ⟨c, 5, none⟩) hc _).other (p := ⟨c, 6, none⟩) hc _).other (p := ⟨c, 7, none⟩) hc _
theorem Lr.grown {w u : World} {b : Nat} {s : ByteArray} {a e : Int} {r : Option Nat} (h : Lr w b s a e) (G : w.grownBy u r) (hb : r ≠ some b) : Lr u b s a e := (G.block b h.lt (fun e' => hb e'.symm)).trans h
theorem infoA8 : (Tryd.prog.info? 42).map (·.size) = some 8 := by kernel_rfl

set_option maxRecDepth 100000 in
set_option maxHeartbeats 8000000 in
theorem values_any (b : Nat) (s : ByteArray) (hs : s.size ≤ 281474976710656) (a : Int) (e : Nat) (he : e ≤ s.size) (n : Nat) (hn : n ≤ 8) (w : World) (R : Lr w b s a e) (E : ErAt w) (hEb : 3 ≠ b) :
    Calls Tryd.prog 55 #[.pointer (some ⟨b, 0, none⟩), .int .i64 n] w fun r w' => ∃ l : List Int, r = .returned (.tuple #[.agg (l.map (Value.int .i64)).toArray, .int .i64 (rdV s n e).2.1]) ∧ l.length = 8 ∧ Lr w' b s (wA s (rdV s n e).2.2) (wE s (rdV s n e).2.2) ∧ ((rdV s n e).2.1 = 0 → l = pad (rdV s n e).1) ∧ w.grownBy w' (some b) := by
  obtain ⟨z, hz⟩ : ∃ z, rdV s n e = z := ⟨_, rfl⟩
  rw [hz]
  have HZ : Hid (rdV s n e = z) := hz
  clear hz
  have hbw := R.lt
  have Z0 : Arr ((w.alloc (.cells #[.int .i64 0, .int .i64 0, .int .i64 0, .int .i64 0, .int .i64 0, .int .i64 0, .int .i64 0, .int .i64 0] 42)).alloc (.cells #[.int .i64 0, .int .i64 0, .int .i64 0, .int .i64 0, .int .i64 0, .int .i64 0, .int .i64 0, .int .i64 0] 42)) w.heap.size (pad []) := by
    show (_ : World).heap[w.heap.size]? = _
    rw [Below.heap_alloc _ _ _ (by simp)]
    exact heap_alloc_new _ _
  have Z1 : Arr ((w.alloc (.cells #[.int .i64 0, .int .i64 0, .int .i64 0, .int .i64 0, .int .i64 0, .int .i64 0, .int .i64 0, .int .i64 0] 42)).alloc (.cells #[.int .i64 0, .int .i64 0, .int .i64 0, .int .i64 0, .int .i64 0, .int .i64 0, .int .i64 0, .int .i64 0] 42)) (w.heap.size + 1) (pad []) := by
    have := heap_alloc_new (w.alloc (.cells #[.int .i64 0, .int .i64 0, .int .i64 0, .int .i64 0, .int .i64 0, .int .i64 0, .int .i64 0, .int .i64 0] 42)) (.cells #[.int .i64 0, .int .i64 0, .int .i64 0, .int .i64 0, .int .i64 0, .int .i64 0, .int .i64 0, .int .i64 0] 42)
    rw [show (w.alloc (.cells #[.int .i64 0, .int .i64 0, .int .i64 0, .int .i64 0, .int .i64 0, .int .i64 0, .int .i64 0, .int .i64 0] 42)).heap.size = w.heap.size + 1 by simp] at this
    exact this
  have B0 : Below w.heap.size w ((w.alloc (.cells #[.int .i64 0, .int .i64 0, .int .i64 0, .int .i64 0, .int .i64 0, .int .i64 0, .int .i64 0, .int .i64 0] 42)).alloc (.cells #[.int .i64 0, .int .i64 0, .int .i64 0, .int .i64 0, .int .i64 0, .int .i64 0, .int .i64 0, .int .i64 0] 42)) := galloc (galloc (Below.refl _ _) _) _
  go_enter Tryd.func55, Tryd.ntmps55
  go_wp2
  generalize (w.alloc (.cells #[.int .i64 0, .int .i64 0, .int .i64 0, .int .i64 0, .int .i64 0, .int .i64 0, .int .i64 0, .int .i64 0] 42)).alloc (.cells #[.int .i64 0, .int .i64 0, .int .i64 0, .int .i64 0, .int .i64 0, .int .i64 0, .int .i64 0, .int .i64 0] 42) = V at *
  go_loopw [11] (fun vk wr => ∃ (k : Nat) (vs : List Int) (e' : Nat) (a' : Int), vk = .int .i64 k ∧ k ≤ n ∧ vs.length = k ∧ Arr wr (w.heap.size + 1) (pad vs) ∧ Arr wr w.heap.size (pad []) ∧ Lr wr b s a' e' ∧ e' ≤ s.size ∧ z = (vs ++ (rdV s (n - k) e').1, (rdV s (n - k) e').2) ∧ w.grownBy wr (some b)) (fun vk _ => n - (intOf vk).toNat)
  case atStart => exact ⟨0, [], e, a, rfl, Nat.zero_le _, rfl, Z1, Z0, R.keep B0, he, HZ.out.symm, grown_below _ B0⟩
  case round =>
    obtain ⟨k, vs, e', a', rfl, hk, hvs, A1, A0, Rr, he', hzk, G⟩ := hrel
    clear HZ Z0 Z1 B0 R
    have hr0 := A0.lt
    have hr1 := A1.lt
    have hsz : s.size ≤ 9223372036854775807 := by omega
    have cN := next_any b s hsz a' e' he' wr Rr
    have hwe := wd_empty s e' he'
    have hwl := wE_le s e' he'
    by_cases hlt : k < n
    · obtain ⟨d, hd⟩ : ∃ d, n - k = d + 1 := ⟨n - k - 1, by omega⟩
      rw [hd] at hzk
      have hk8 : k < 8 := by omega
      by_cases hw : wA s e' < s.size
      · rw [decide_eq_true hw, Bool.not_true] at hwe
        have hzd : z = (vs ++ (match numO (wd s e') with | none => ([], 26, e') | some v => (v :: (rdV s d (wE s e')).1, (rdV s d (wE s e')).2)).1, (match numO (wd s e') with | none => (([], 26, e') : List Int × Int × Nat) | some v => (v :: (rdV s d (wE s e')).1, (rdV s d (wE s e')).2)).2) := by rw [hzk, rdV, if_pos hw]
        have cM := fun (u : World) (e2 : ErAt u) => number_any (wd s e') (by have := wd_size s e'; omega) u e2
        generalize wd s e' = x at *
        cases hv : numO x with
        | none =>
          rw [hv] at hzd cM
          have HZ2 : Hid (z = (vs ++ [], 26, e')) := hzd
          clear hzd hzk
          go_upto_region 10 with (first
            | (go_at_call 53; with_reducible refine cN.mono ?_; rintro e4 u1 ⟨rfl, R1, g1⟩; have B1 := A1.grown g1 (fun e => by have := Option.some.inj e; omega); have B0 := A0.grown g1 (fun e => by have := Option.some.inj e; omega); have E1 := E.apart (grown_trans G g1) hEb)
            | (go_at_call 52; with_reducible refine (cM _ E1).mono ?_; rintro e4 u2 ⟨⟨nv, rfl, hnv⟩, g2⟩; have C1 := B1.keep g2; have C0 := B0.keep g2; have R2 := R1.keep g2; have sf := C1.free k; have sc := C1.cell k (by rw [pad_len (by omega)]; omega); have G2 := grown_trans (grown_trans G g1) (grown_below (some b) g2)))
          have D1 := C1.set k nv
          have D0 := C0.other (p := ⟨w.heap.size + 1, k, none⟩) (by show w.heap.size ≠ w.heap.size + 1; omega) (.int .i64 nv)
          have R3 := R2.other (p := ⟨w.heap.size + 1, k, none⟩) (by show b ≠ w.heap.size + 1; omega) (.int .i64 nv)
          have G3 : w.grownBy (u2.setCell ⟨w.heap.size + 1, k, none⟩ (.int .i64 nv)) (some b) := grown_far G2 (grown_set u2 _ _ _) (fun g' e => by have := Option.some.inj e; omega)
          generalize (u2.setCell ⟨w.heap.size + 1, k, none⟩ (.int .i64 nv)) = X at *
          clear C1 C0 sf sc R2 G2
          have Ao := D1
          have Az := D0
          have hAl := (show ((pad vs).set k nv).length = 8 by rw [List.length_set]; exact pad_len (by omega))
          generalize (pad vs).set k nv = l8 at Ao hAl
          obtain ⟨a0, a1, a2, a3, a4, a5, a6, a7, rfl⟩ := eight hAl
          have o0 := Ao.cell 0 (show 0 < 8 from by decide)
          have o1 := Ao.cell 1 (show 1 < 8 from by decide)
          have o2 := Ao.cell 2 (show 2 < 8 from by decide)
          have o3 := Ao.cell 3 (show 3 < 8 from by decide)
          have o4 := Ao.cell 4 (show 4 < 8 from by decide)
          have o5 := Ao.cell 5 (show 5 < 8 from by decide)
          have o6 := Ao.cell 6 (show 6 < 8 from by decide)
          have o7 := Ao.cell 7 (show 7 < 8 from by decide)
          simp only [List.getD_cons_zero, List.getD_cons_succ] at o0 o1 o2 o3 o4 o5 o6 o7
          have f0 := Az.free 0
          have f1 := Az.free 1
          have f2 := Az.free 2
          have f3 := Az.free 3
          have f4 := Az.free 4
          have f5 := Az.free 5
          have f6 := Az.free 6
          have f7 := Az.free 7
          have k0 := Az.cell 0 (show 0 < (pad []).length from by decide)
          have k1 := Az.cell 1 (show 1 < (pad []).length from by decide)
          have k2 := Az.cell 2 (show 2 < (pad []).length from by decide)
          have k3 := Az.cell 3 (show 3 < (pad []).length from by decide)
          have k4 := Az.cell 4 (show 4 < (pad []).length from by decide)
          have k5 := Az.cell 5 (show 5 < (pad []).length from by decide)
          have k6 := Az.cell 6 (show 6 < (pad []).length from by decide)
          have k7 := Az.cell 7 (show 7 < (pad []).length from by decide)
          rw [show (pad []).getD 0 0 = 0 from rfl] at k0
          rw [show (pad []).getD 1 0 = 0 from rfl] at k1
          rw [show (pad []).getD 2 0 = 0 from rfl] at k2
          rw [show (pad []).getD 3 0 = 0 from rfl] at k3
          rw [show (pad []).getD 4 0 = 0 from rfl] at k4
          rw [show (pad []).getD 5 0 = 0 from rfl] at k5
          rw [show (pad []).getD 6 0 = 0 from rfl] at k6
          rw [show (pad []).getD 7 0 = 0 from rfl] at k7
          go_wp2
          refine bodyPost_ret (results_row_tmp1 rfl _ _ w.heap.size 42 _ (0, 0) _ rfl (Az.set8 rfl a0 a1 a2 a3 a4 a5 a6 a7) Tryd.underlying42 rfl infoA8) rfl ⟨[a0, a1, a2, a3, a4, a5, a6, a7], by rw [HZ2.out]; rfl, rfl, ?_, ?_, grown_set8 w _ b w.heap.size (Nat.le_refl _) (G3) _ _ _ _ _ _ _ _⟩
          · rw [HZ2.out]; exact Lr.set8 (R3) w.heap.size (by omega) _ _ _ _ _ _ _ _
          · intro hc; rw [HZ2.out] at hc; cases hc
        | some v =>
          rw [hv] at hzd cM
          have hzd2 : z = (vs ++ v :: (rdV s d (wE s e')).1, (rdV s d (wE s e')).2) := hzd
          have HZ2 : Hid (z = ((vs ++ [v]) ++ (rdV s (n - (k + 1)) (wE s e')).1, (rdV s (n - (k + 1)) (wE s e')).2)) := by
            show _ = _
            rw [hzd2, show n - (k + 1) = d by omega, List.append_assoc]
            rfl
          clear hzd hzd2 hzk
          go_upto_region 10 with (first
            | (go_at_call 53; with_reducible refine cN.mono ?_; rintro e4 u1 ⟨rfl, R1, g1⟩; have B1 := A1.grown g1 (fun e => by have := Option.some.inj e; omega); have B0 := A0.grown g1 (fun e => by have := Option.some.inj e; omega); have E1 := E.apart (grown_trans G g1) hEb)
            | (go_at_call 52; with_reducible refine (cM _ E1).mono ?_; rintro e4 u2 ⟨⟨nv, rfl, hnv⟩, g2⟩; have C1 := B1.keep g2; have C0 := B0.keep g2; have R2 := R1.keep g2; have sf := C1.free k; have sc := C1.cell k (by rw [pad_len (by omega)]; omega); have G2 := grown_trans (grown_trans G g1) (grown_below (some b) g2)))
          obtain rfl : v = nv := by
            rcases hnv with h | h
            · cases h
            · exact Option.some.inj h
          have D1 := C1.set k v
          rw [show (pad vs).set k v = pad (vs ++ [v]) from by rw [← hvs]; exact pad_snoc vs v (by omega)] at D1
          have D0 := C0.other (p := ⟨w.heap.size + 1, k, none⟩) (by show w.heap.size ≠ w.heap.size + 1; omega) (.int .i64 v)
          have R3 := R2.other (p := ⟨w.heap.size + 1, k, none⟩) (by show b ≠ w.heap.size + 1; omega) (.int .i64 v)
          have G3 : w.grownBy (u2.setCell ⟨w.heap.size + 1, k, none⟩ (.int .i64 v)) (some b) := grown_far G2 (grown_set u2 _ _ _) (fun g' e => by have := Option.some.inj e; omega)
          generalize u2.setCell ⟨w.heap.size + 1, k, none⟩ (.int .i64 v) = X at *
          clear C1 C0 sf sc R2 G2
          go_wp2
          go_roundw
          case rel => exact ⟨k + 1, vs ++ [v], wE s e', _, by go_num, by omega, by rw [List.length_append, hvs]; rfl, D1, D0, R3, hwl.2, HZ2.out, G3⟩
          case measure => simp [intOf]; omega
      · rw [decide_eq_false hw, Bool.not_false] at hwe
        have HZ2 : Hid (z = (vs ++ [], 28, e')) := by show _ = _; rw [hzk, rdV, if_neg hw]
        clear hzk
        generalize wd s e' = x at *
        go_upto_region 7 with (first
          | (go_at_call 53; with_reducible refine cN.mono ?_; rintro e4 u1 ⟨rfl, R1, g1⟩; have B1 := A1.grown g1 (fun e => by have := Option.some.inj e; omega); have B0 := A0.grown g1 (fun e => by have := Option.some.inj e; omega); have E1 := E.apart (grown_trans G g1) hEb))
        have Ao := B1
        have Az := B0
        have hAl := (pad_len (l := vs) (by omega))
        generalize pad vs = l8 at Ao hAl
        obtain ⟨a0, a1, a2, a3, a4, a5, a6, a7, rfl⟩ := eight hAl
        have o0 := Ao.cell 0 (show 0 < 8 from by decide)
        have o1 := Ao.cell 1 (show 1 < 8 from by decide)
        have o2 := Ao.cell 2 (show 2 < 8 from by decide)
        have o3 := Ao.cell 3 (show 3 < 8 from by decide)
        have o4 := Ao.cell 4 (show 4 < 8 from by decide)
        have o5 := Ao.cell 5 (show 5 < 8 from by decide)
        have o6 := Ao.cell 6 (show 6 < 8 from by decide)
        have o7 := Ao.cell 7 (show 7 < 8 from by decide)
        simp only [List.getD_cons_zero, List.getD_cons_succ] at o0 o1 o2 o3 o4 o5 o6 o7
        have f0 := Az.free 0
        have f1 := Az.free 1
        have f2 := Az.free 2
        have f3 := Az.free 3
        have f4 := Az.free 4
        have f5 := Az.free 5
        have f6 := Az.free 6
        have f7 := Az.free 7
        have k0 := Az.cell 0 (show 0 < (pad []).length from by decide)
        have k1 := Az.cell 1 (show 1 < (pad []).length from by decide)
        have k2 := Az.cell 2 (show 2 < (pad []).length from by decide)
        have k3 := Az.cell 3 (show 3 < (pad []).length from by decide)
        have k4 := Az.cell 4 (show 4 < (pad []).length from by decide)
        have k5 := Az.cell 5 (show 5 < (pad []).length from by decide)
        have k6 := Az.cell 6 (show 6 < (pad []).length from by decide)
        have k7 := Az.cell 7 (show 7 < (pad []).length from by decide)
        rw [show (pad []).getD 0 0 = 0 from rfl] at k0
        rw [show (pad []).getD 1 0 = 0 from rfl] at k1
        rw [show (pad []).getD 2 0 = 0 from rfl] at k2
        rw [show (pad []).getD 3 0 = 0 from rfl] at k3
        rw [show (pad []).getD 4 0 = 0 from rfl] at k4
        rw [show (pad []).getD 5 0 = 0 from rfl] at k5
        rw [show (pad []).getD 6 0 = 0 from rfl] at k6
        rw [show (pad []).getD 7 0 = 0 from rfl] at k7
        go_wp2
        refine bodyPost_ret (results_row_tmp1 rfl _ _ w.heap.size 42 _ (0, 0) _ rfl (Az.set8 rfl a0 a1 a2 a3 a4 a5 a6 a7) Tryd.underlying42 rfl infoA8) rfl ⟨[a0, a1, a2, a3, a4, a5, a6, a7], by rw [HZ2.out]; rfl, rfl, ?_, ?_, grown_set8 w _ b w.heap.size (Nat.le_refl _) (grown_trans G g1) _ _ _ _ _ _ _ _⟩
        · rw [HZ2.out]; exact Lr.set8 (R1) w.heap.size (by omega) _ _ _ _ _ _ _ _
        · intro hc; rw [HZ2.out] at hc; cases hc
    · obtain rfl : k = n := by omega
      rw [Nat.sub_self, rdV, List.append_nil] at hzk
      by_cases hw : wA s e' < s.size
      · rw [decide_eq_true hw, Bool.not_true] at hwe
        rw [if_pos hw] at hzk
        have HZ2 : Hid (z = (vs, 28, e')) := hzk
        clear hzk
        generalize wd s e' = x at *
        go_upto_region 14 with (first
          | (go_at_call 53; with_reducible refine cN.mono ?_; rintro e4 u1 ⟨rfl, R1, g1⟩; have B1 := A1.grown g1 (fun e => by have := Option.some.inj e; omega); have B0 := A0.grown g1 (fun e => by have := Option.some.inj e; omega); have E1 := E.apart (grown_trans G g1) hEb))
        have Ao := B1
        have Az := B0
        have hAl := (pad_len (l := vs) (by omega))
        generalize pad vs = l8 at Ao hAl
        obtain ⟨a0, a1, a2, a3, a4, a5, a6, a7, rfl⟩ := eight hAl
        have o0 := Ao.cell 0 (show 0 < 8 from by decide)
        have o1 := Ao.cell 1 (show 1 < 8 from by decide)
        have o2 := Ao.cell 2 (show 2 < 8 from by decide)
        have o3 := Ao.cell 3 (show 3 < 8 from by decide)
        have o4 := Ao.cell 4 (show 4 < 8 from by decide)
        have o5 := Ao.cell 5 (show 5 < 8 from by decide)
        have o6 := Ao.cell 6 (show 6 < 8 from by decide)
        have o7 := Ao.cell 7 (show 7 < 8 from by decide)
        simp only [List.getD_cons_zero, List.getD_cons_succ] at o0 o1 o2 o3 o4 o5 o6 o7
        have f0 := Az.free 0
        have f1 := Az.free 1
        have f2 := Az.free 2
        have f3 := Az.free 3
        have f4 := Az.free 4
        have f5 := Az.free 5
        have f6 := Az.free 6
        have f7 := Az.free 7
        have k0 := Az.cell 0 (show 0 < (pad []).length from by decide)
        have k1 := Az.cell 1 (show 1 < (pad []).length from by decide)
        have k2 := Az.cell 2 (show 2 < (pad []).length from by decide)
        have k3 := Az.cell 3 (show 3 < (pad []).length from by decide)
        have k4 := Az.cell 4 (show 4 < (pad []).length from by decide)
        have k5 := Az.cell 5 (show 5 < (pad []).length from by decide)
        have k6 := Az.cell 6 (show 6 < (pad []).length from by decide)
        have k7 := Az.cell 7 (show 7 < (pad []).length from by decide)
        rw [show (pad []).getD 0 0 = 0 from rfl] at k0
        rw [show (pad []).getD 1 0 = 0 from rfl] at k1
        rw [show (pad []).getD 2 0 = 0 from rfl] at k2
        rw [show (pad []).getD 3 0 = 0 from rfl] at k3
        rw [show (pad []).getD 4 0 = 0 from rfl] at k4
        rw [show (pad []).getD 5 0 = 0 from rfl] at k5
        rw [show (pad []).getD 6 0 = 0 from rfl] at k6
        rw [show (pad []).getD 7 0 = 0 from rfl] at k7
        go_wp2
        refine bodyPost_ret (results_row_tmp1 rfl _ _ w.heap.size 42 _ (0, 0) _ rfl (Az.set8 rfl a0 a1 a2 a3 a4 a5 a6 a7) Tryd.underlying42 rfl infoA8) rfl ⟨[a0, a1, a2, a3, a4, a5, a6, a7], by rw [HZ2.out]; rfl, rfl, ?_, ?_, grown_set8 w _ b w.heap.size (Nat.le_refl _) (grown_trans G g1) _ _ _ _ _ _ _ _⟩
        · rw [HZ2.out]; exact Lr.set8 (R1) w.heap.size (by omega) _ _ _ _ _ _ _ _
        · intro hc; rw [HZ2.out] at hc; cases hc
      · rw [decide_eq_false hw, Bool.not_false] at hwe
        rw [if_neg hw] at hzk
        have HZ2 : Hid (z = (vs, 0, e')) := hzk
        clear hzk
        generalize wd s e' = x at *
        go_upto_region 15 with (first
          | (go_at_call 53; with_reducible refine cN.mono ?_; rintro e4 u1 ⟨rfl, R1, g1⟩; have B1 := A1.grown g1 (fun e => by have := Option.some.inj e; omega); have B0 := A0.grown g1 (fun e => by have := Option.some.inj e; omega); have E1 := E.apart (grown_trans G g1) hEb))
        obtain ⟨lx, hlx⟩ : ∃ lx, lx = pad vs := ⟨_, rfl⟩
        rw [← hlx] at B1
        have Ao := B1
        have Az := B0
        have hAl := (show lx.length = 8 by rw [hlx]; exact pad_len (by omega))
        obtain ⟨a0, a1, a2, a3, a4, a5, a6, a7, rfl⟩ := eight hAl
        have o0 := Ao.cell 0 (show 0 < 8 from by decide)
        have o1 := Ao.cell 1 (show 1 < 8 from by decide)
        have o2 := Ao.cell 2 (show 2 < 8 from by decide)
        have o3 := Ao.cell 3 (show 3 < 8 from by decide)
        have o4 := Ao.cell 4 (show 4 < 8 from by decide)
        have o5 := Ao.cell 5 (show 5 < 8 from by decide)
        have o6 := Ao.cell 6 (show 6 < 8 from by decide)
        have o7 := Ao.cell 7 (show 7 < 8 from by decide)
        simp only [List.getD_cons_zero, List.getD_cons_succ] at o0 o1 o2 o3 o4 o5 o6 o7
        have f0 := Az.free 0
        have f1 := Az.free 1
        have f2 := Az.free 2
        have f3 := Az.free 3
        have f4 := Az.free 4
        have f5 := Az.free 5
        have f6 := Az.free 6
        have f7 := Az.free 7
        have k0 := Az.cell 0 (show 0 < (pad []).length from by decide)
        have k1 := Az.cell 1 (show 1 < (pad []).length from by decide)
        have k2 := Az.cell 2 (show 2 < (pad []).length from by decide)
        have k3 := Az.cell 3 (show 3 < (pad []).length from by decide)
        have k4 := Az.cell 4 (show 4 < (pad []).length from by decide)
        have k5 := Az.cell 5 (show 5 < (pad []).length from by decide)
        have k6 := Az.cell 6 (show 6 < (pad []).length from by decide)
        have k7 := Az.cell 7 (show 7 < (pad []).length from by decide)
        rw [show (pad []).getD 0 0 = 0 from rfl] at k0
        rw [show (pad []).getD 1 0 = 0 from rfl] at k1
        rw [show (pad []).getD 2 0 = 0 from rfl] at k2
        rw [show (pad []).getD 3 0 = 0 from rfl] at k3
        rw [show (pad []).getD 4 0 = 0 from rfl] at k4
        rw [show (pad []).getD 5 0 = 0 from rfl] at k5
        rw [show (pad []).getD 6 0 = 0 from rfl] at k6
        rw [show (pad []).getD 7 0 = 0 from rfl] at k7
        go_wp2
        refine bodyPost_ret (results_row_tmp1 rfl _ _ w.heap.size 42 _ (0, 0) _ rfl (Az.set8 rfl a0 a1 a2 a3 a4 a5 a6 a7) Tryd.underlying42 rfl infoA8) rfl ⟨[a0, a1, a2, a3, a4, a5, a6, a7], by rw [HZ2.out]; rfl, rfl, ?_, ?_, grown_set8 w _ b w.heap.size (Nat.le_refl _) (grown_trans G g1) _ _ _ _ _ _ _ _⟩
        · rw [HZ2.out]; exact Lr.set8 (R1) w.heap.size (by omega) _ _ _ _ _ _ _ _
        · intro _; rw [HZ2.out]; exact hlx

end Go.Proofs.YtkpnnofonocilaaDoor
