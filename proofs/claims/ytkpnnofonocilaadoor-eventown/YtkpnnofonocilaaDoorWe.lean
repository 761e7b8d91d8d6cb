/- What the line reader's method event comes to. -/
import Derived.Test.YtkpnnofonocilaaDoorWv
import Derived.Test.YtkpnnofonocilaaDoorChk4
namespace Go.Proofs.YtkpnnofonocilaaDoor
open Go.RowKit Go.BigFrame
set_option linter.unusedVariables false
set_option linter.unusedSimpArgs false

def safeB (t : Int) : Bool := decide (-1152921504606846976 ≤ t ∧ t ≤ 1152921504606846976)
/-- What a line is read as: the timestamp, the id, the type, the values; the error; the place from which the last word was read. -/
def rdE (s : ByteArray) (L : List Ty) : (Int × Int × Nat × List Int) × Int × Nat :=
  match numO (wd s 0) with
  | none => ((0, 0, 0, []), 26, 0)
  | some ts => if safeB ts = false then ((0, 0, 0, []), 29, 0) else
    match idO (wd s (wE s 0)) with
    | none => ((0, 0, 0, []), 26, wE s 0)
    | some id => if ¬ wA s (wE s (wE s 0)) < s.size then ((0, 0, 0, []), 26, wE s (wE s 0)) else if typeI L (wd s (wE s (wE s 0))) < 0 then ((0, 0, 0, []), 27, wE s (wE s 0)) else
      ((ts, (id : Int), (typeI L (wd s (wE s (wE s 0)))).toNat, (rdV s (L.getD (typeI L (wd s (wE s (wE s 0)))).toNat noTy).2.length (wE s (wE s (wE s 0)))).1),
        (rdV s (L.getD (typeI L (wd s (wE s (wE s 0)))).toNat noTy).2.length (wE s (wE s (wE s 0)))).2)
def zeroE : Ev := ⟨0, 0, 0, 0, 0, 0, 0, 0, 0, 0, 0⟩
theorem Evt.other {w : World} {b : Nat} {e : Ev} (h : Evt w b e) {p : Addr} (hp : b ≠ p.block) (u : Value) : Evt (w.setCell p u) b e := (Below.heap_setCell w p u b hp).trans h
theorem Evt.drew {w : World} {b : Nat} {e : Ev} (h : Evt w b e) : Evt w.drew b e := h
theorem Evt.grown {w u : World} {b : Nat} {e : Ev} {r : Option Nat} (h : Evt w b e) (G : w.grownBy u r) (hb : r ≠ some b) : Evt u b e := (G.block b h.lt (fun e' => hb e'.symm)).trans h
theorem Evt.free {w : World} {b : Nat} {e : Ev} (h : Evt w b e) (o : Nat) : w.frozen? ⟨b, o, none⟩ = false := by unfold Evt at h; simp [World.frozen?, h]
theorem Evt.setAny {w : World} {b : Nat} {cs : Array Value} (h : w.heap[b]? = some (.cells cs 44 (0, 0))) (o : Nat) (v : Value) : (w.setCell ⟨b, o, none⟩ v).heap[b]? = some (.cells (cs.setIfInBounds o v) 44 (0, 0)) := by
  have hlt := lt_of_block h
  have h' : w.heap[b] = .cells cs 44 (0, 0) := by simpa [Array.getElem?_eq_getElem hlt] using h
  show (w.heap.modify b _)[b]? = _
  rw [Array.getElem?_eq_getElem (by simpa using hlt), Array.getElem_modify_self, h']
  rfl
theorem Evt.set0 {w : World} {b : Nat} {t i y a0 a1 a2 a3 a4 a5 a6 a7 : Int} (h : Evt w b ⟨t, i, y, a0, a1, a2, a3, a4, a5, a6, a7⟩) (x : Int) : Evt (w.setCell ⟨b, 0, none⟩ (.int .i64 x)) b ⟨x, i, y, a0, a1, a2, a3, a4, a5, a6, a7⟩ := Evt.setAny h 0 _
theorem Evt.set1 {w : World} {b : Nat} {t i y a0 a1 a2 a3 a4 a5 a6 a7 : Int} (h : Evt w b ⟨t, i, y, a0, a1, a2, a3, a4, a5, a6, a7⟩) (x : Int) : Evt (w.setCell ⟨b, 1, none⟩ (.int .u64 x)) b ⟨t, x, y, a0, a1, a2, a3, a4, a5, a6, a7⟩ := Evt.setAny h 1 _
theorem Evt.set2 {w : World} {b : Nat} {t i y a0 a1 a2 a3 a4 a5 a6 a7 : Int} (h : Evt w b ⟨t, i, y, a0, a1, a2, a3, a4, a5, a6, a7⟩) (x : Int) : Evt (w.setCell ⟨b, 2, none⟩ (.int .i64 x)) b ⟨t, i, x, a0, a1, a2, a3, a4, a5, a6, a7⟩ := Evt.setAny h 2 _
theorem Evt.set3 {w : World} {b : Nat} {t i y a0 a1 a2 a3 a4 a5 a6 a7 : Int} (h : Evt w b ⟨t, i, y, a0, a1, a2, a3, a4, a5, a6, a7⟩) (x : Int) : Evt (w.setCell ⟨b, 3, none⟩ (.int .i64 x)) b ⟨t, i, y, x, a1, a2, a3, a4, a5, a6, a7⟩ := Evt.setAny h 3 _
theorem Evt.set4 {w : World} {b : Nat} {t i y a0 a1 a2 a3 a4 a5 a6 a7 : Int} (h : Evt w b ⟨t, i, y, a0, a1, a2, a3, a4, a5, a6, a7⟩) (x : Int) : Evt (w.setCell ⟨b, 4, none⟩ (.int .i64 x)) b ⟨t, i, y, a0, x, a2, a3, a4, a5, a6, a7⟩ := Evt.setAny h 4 _
theorem Evt.set5 {w : World} {b : Nat} {t i y a0 a1 a2 a3 a4 a5 a6 a7 : Int} (h : Evt w b ⟨t, i, y, a0, a1, a2, a3, a4, a5, a6, a7⟩) (x : Int) : Evt (w.setCell ⟨b, 5, none⟩ (.int .i64 x)) b ⟨t, i, y, a0, a1, x, a3, a4, a5, a6, a7⟩ := Evt.setAny h 5 _
theorem Evt.set6 {w : World} {b : Nat} {t i y a0 a1 a2 a3 a4 a5 a6 a7 : Int} (h : Evt w b ⟨t, i, y, a0, a1, a2, a3, a4, a5, a6, a7⟩) (x : Int) : Evt (w.setCell ⟨b, 6, none⟩ (.int .i64 x)) b ⟨t, i, y, a0, a1, a2, x, a4, a5, a6, a7⟩ := Evt.setAny h 6 _
theorem Evt.set7 {w : World} {b : Nat} {t i y a0 a1 a2 a3 a4 a5 a6 a7 : Int} (h : Evt w b ⟨t, i, y, a0, a1, a2, a3, a4, a5, a6, a7⟩) (x : Int) : Evt (w.setCell ⟨b, 7, none⟩ (.int .i64 x)) b ⟨t, i, y, a0, a1, a2, a3, x, a5, a6, a7⟩ := Evt.setAny h 7 _
theorem Evt.set8 {w : World} {b : Nat} {t i y a0 a1 a2 a3 a4 a5 a6 a7 : Int} (h : Evt w b ⟨t, i, y, a0, a1, a2, a3, a4, a5, a6, a7⟩) (x : Int) : Evt (w.setCell ⟨b, 8, none⟩ (.int .i64 x)) b ⟨t, i, y, a0, a1, a2, a3, a4, x, a6, a7⟩ := Evt.setAny h 8 _
theorem Evt.set9 {w : World} {b : Nat} {t i y a0 a1 a2 a3 a4 a5 a6 a7 : Int} (h : Evt w b ⟨t, i, y, a0, a1, a2, a3, a4, a5, a6, a7⟩) (x : Int) : Evt (w.setCell ⟨b, 9, none⟩ (.int .i64 x)) b ⟨t, i, y, a0, a1, a2, a3, a4, a5, x, a7⟩ := Evt.setAny h 9 _
theorem Evt.set10 {w : World} {b : Nat} {t i y a0 a1 a2 a3 a4 a5 a6 a7 : Int} (h : Evt w b ⟨t, i, y, a0, a1, a2, a3, a4, a5, a6, a7⟩) (x : Int) : Evt (w.setCell ⟨b, 10, none⟩ (.int .i64 x)) b ⟨t, i, y, a0, a1, a2, a3, a4, a5, a6, x⟩ := Evt.setAny h 10 _
theorem Evt.setA {w : World} {b : Nat} {t i y c0 c1 c2 c3 c4 c5 c6 c7 : Int} (h : Evt w b ⟨t, i, y, c0, c1, c2, c3, c4, c5, c6, c7⟩) (a0 a1 a2 a3 a4 a5 a6 a7 : Int) : Evt ((((((((w.setCell ⟨b, 3, none⟩ (.int .i64 a0)).setCell ⟨b, 4, none⟩ (.int .i64 a1)).setCell ⟨b, 5, none⟩ (.int .i64 a2)).setCell ⟨b, 6, none⟩ (.int .i64 a3)).setCell ⟨b, 7, none⟩ (.int .i64 a4)).setCell ⟨b, 8, none⟩ (.int .i64 a5)).setCell ⟨b, 9, none⟩ (.int .i64 a6)).setCell ⟨b, 10, none⟩ (.int .i64 a7)) b ⟨t, i, y, a0, a1, a2, a3, a4, a5, a6, a7⟩ :=
  (((((((h.set3 a0).set4 a1).set5 a2).set6 a3).set7 a4).set8 a5).set9 a6).set10 a7
theorem Evt.setE {w : World} {b : Nat} (h : Evt w b zeroE) (t i y a0 a1 a2 a3 a4 a5 a6 a7 : Int) : Evt (((((((((((w.setCell ⟨b, 0, none⟩ (.int .i64 t)).setCell ⟨b, 1, none⟩ (.int .u64 i)).setCell ⟨b, 2, none⟩ (.int .i64 y)).setCell ⟨b, 3, none⟩ (.int .i64 a0)).setCell ⟨b, 4, none⟩ (.int .i64 a1)).setCell ⟨b, 5, none⟩ (.int .i64 a2)).setCell ⟨b, 6, none⟩ (.int .i64 a3)).setCell ⟨b, 7, none⟩ (.int .i64 a4)).setCell ⟨b, 8, none⟩ (.int .i64 a5)).setCell ⟨b, 9, none⟩ (.int .i64 a6)).setCell ⟨b, 10, none⟩ (.int .i64 a7)) b ⟨t, i, y, a0, a1, a2, a3, a4, a5, a6, a7⟩ :=
  ((((((((((Evt.set0 (show Evt w b ⟨0, 0, 0, 0, 0, 0, 0, 0, 0, 0, 0⟩ from h) t).set1 i).set2 y).set3 a0).set4 a1).set5 a2).set6 a3).set7 a4).set8 a5).set9 a6).set10 a7
theorem Evt.all {w : World} {b : Nat} {t i y a0 a1 a2 a3 a4 a5 a6 a7 : Int} (h : Evt w b ⟨t, i, y, a0, a1, a2, a3, a4, a5, a6, a7⟩) : w.cell? ⟨b, 0, none⟩ = some (.int .i64 t) ∧ w.cell? ⟨b, 1, none⟩ = some (.int .u64 i) ∧ w.cell? ⟨b, 2, none⟩ = some (.int .i64 y) ∧ w.cell? ⟨b, 3, none⟩ = some (.int .i64 a0) ∧ w.cell? ⟨b, 4, none⟩ = some (.int .i64 a1) ∧ w.cell? ⟨b, 5, none⟩ = some (.int .i64 a2) ∧ w.cell? ⟨b, 6, none⟩ = some (.int .i64 a3) ∧ w.cell? ⟨b, 7, none⟩ = some (.int .i64 a4) ∧ w.cell? ⟨b, 8, none⟩ = some (.int .i64 a5) ∧ w.cell? ⟨b, 9, none⟩ = some (.int .i64 a6) ∧ w.cell? ⟨b, 10, none⟩ = some (.int .i64 a7) := by
  unfold Evt at h
  refine ⟨?_, ?_, ?_, ?_, ?_, ?_, ?_, ?_, ?_, ?_, ?_⟩ <;> simp [World.cell?, h, evC]
theorem grown_setE (w u : World) (b c : Nat) (hc : w.heap.size ≤ c) (h : w.grownBy u (some b)) (x0 x1 x2 x3 x4 x5 x6 x7 x8 x9 x10 : Value) : w.grownBy (((((((((((u.setCell ⟨c, 0, none⟩ x0).setCell ⟨c, 1, none⟩ x1).setCell ⟨c, 2, none⟩ x2).setCell ⟨c, 3, none⟩ x3).setCell ⟨c, 4, none⟩ x4).setCell ⟨c, 5, none⟩ x5).setCell ⟨c, 6, none⟩ x6).setCell ⟨c, 7, none⟩ x7).setCell ⟨c, 8, none⟩ x8).setCell ⟨c, 9, none⟩ x9).setCell ⟨c, 10, none⟩ x10) (some b) := by
  have one : ∀ (v : World) (o : Nat) (x : Value), w.grownBy v (some b) → w.grownBy (v.setCell ⟨c, o, none⟩ x) (some b) := fun v o x g => grown_far g (grown_set v c o x) (fun g' e => by have := Option.some.inj e; omega)
  exact one _ _ _ (one _ _ _ (one _ _ _ (one _ _ _ (one _ _ _ (one _ _ _ (one _ _ _ (one _ _ _ (one _ _ _ (one _ _ _ (one _ _ _ h))))))))))
theorem Lr.setE {w : World} {b : Nat} {s : ByteArray} {a e : Int} (h : Lr w b s a e) (c : Nat) (hc : b ≠ c) (x0 x1 x2 x3 x4 x5 x6 x7 x8 x9 x10 : Value) : Lr (((((((((((w.setCell ⟨c, 0, none⟩ x0).setCell ⟨c, 1, none⟩ x1).setCell ⟨c, 2, none⟩ x2).setCell ⟨c, 3, none⟩ x3).setCell ⟨c, 4, none⟩ x4).setCell ⟨c, 5, none⟩ x5).setCell ⟨c, 6, none⟩ x6).setCell ⟨c, 7, none⟩ x7).setCell ⟨c, 8, none⟩ x8).setCell ⟨c, 9, none⟩ x9).setCell ⟨c, 10, none⟩ x10) b s a e :=
  ((((((((((h.other (p := ⟨c, 0, none⟩) hc _).other (p := ⟨c, 1, none⟩) hc _).other (p := ⟨c, 2, none⟩) hc _).other (p := ⟨c, 3, none⟩) hc _).other (p := ⟨c, 4, none⟩) hc _).other (p := ⟨c, 5, none⟩) hc _).other (p := ⟨c, 6, none⟩) hc _).other (p := ⟨c, 7, none⟩) hc _).other (p := ⟨c, 8, none⟩) hc _).other (p := ⟨c, 9, none⟩) hc _).other (p := ⟨c, 10, none⟩) hc _
theorem infoEv : (Tryd.prog.info? 44).map (·.size) = some 11 := by kernel_rfl
/-- The method's memory: the schema, the result, the event, the reader. -/
structure St (w u : World) (b : Nat) (s : ByteArray) (ao : Option Addr) (n c : Nat) (a e : Int) (ev : Ev) : Prop where
  sc : One u w.heap.size (.slice ao n c) 24
  rs : Evt u (w.heap.size + 1) zeroE
  ev : Evt u (w.heap.size + 1 + 1) ev
  lr : Lr u b s a e
  gr : w.grownBy u (some b)
  lt : b < w.heap.size
theorem One.grown {w u : World} {b : Nat} {x : Value} {t : TypeId} {r : Option Nat} (h : One w b x t) (G : w.grownBy u r) (hb : r ≠ some b) : One u b x t := (G.block b h.lt (fun e' => hb e'.symm)).trans h
theorem One.other {w : World} {b : Nat} {x : Value} {t : TypeId} (h : One w b x t) {p : Addr} (hp : b ≠ p.block) (u : Value) : One (w.setCell p u) b x t := (Below.heap_setCell w p u b hp).trans h
theorem St.next {w u v : World} {b : Nat} {s : ByteArray} {ao : Option Addr} {n c : Nat} {a e : Int} {ev : Ev} (h : St w u b s ao n c a e ev) (G : u.grownBy v (some b)) {a' e' : Int} (R : Lr v b s a' e') : St w v b s ao n c a' e' ev :=
  have hb := h.lt
  ⟨h.sc.grown G (fun e => by have := Option.some.inj e; omega), h.rs.grown G (fun e => by have := Option.some.inj e; omega), h.ev.grown G (fun e => by have := Option.some.inj e; omega), R, grown_trans h.gr G, hb⟩
theorem St.keep {w u v : World} {b : Nat} {s : ByteArray} {ao : Option Addr} {n c : Nat} {a e : Int} {ev : Ev} (h : St w u b s ao n c a e ev) (G : Below u.heap.size u v) : St w v b s ao n c a e ev :=
  ⟨h.sc.keep G, h.rs.keep G, h.ev.keep G, h.lr.keep G, grown_trans h.gr (grown_below _ G), h.lt⟩
theorem St.set {w u : World} {b : Nat} {s : ByteArray} {ao : Option Addr} {n c : Nat} {a e : Int} {ev : Ev} (h : St w u b s ao n c a e ev) (o : Nat) (v : Value) (ev' : Ev) (he : Evt (u.setCell ⟨w.heap.size + 1 + 1, o, none⟩ v) (w.heap.size + 1 + 1) ev') : St w (u.setCell ⟨w.heap.size + 1 + 1, o, none⟩ v) b s ao n c a e ev' :=
  have hb := h.lt
  ⟨h.sc.other (by show w.heap.size ≠ w.heap.size + 1 + 1; omega) _, h.rs.other (by show w.heap.size + 1 ≠ w.heap.size + 1 + 1; omega) _, he, h.lr.other (by show b ≠ w.heap.size + 1 + 1; omega) _, grown_far h.gr (grown_set u _ _ _) (fun g' e => by have := Option.some.inj e; omega), hb⟩
/-- The answer, once the event has been laid into the result. -/
def EvAns (w : World) (b : Nat) (s : ByteArray) (z : (Int × Int × Nat × List Int) × Int × Nat) (r : Ending) (w' : World) : Prop :=
  ∃ ev : Ev, r = .returned (.tuple #[.agg (evC ev), .int .i64 z.2.1]) ∧ Lr w' b s (wA s z.2.2) (wE s z.2.2) ∧ (z.2.1 = 0 → ev.ts = z.1.1 ∧ ev.id = z.1.2.1 ∧ ev.typ = z.1.2.2.1 ∧ [ev.a0, ev.a1, ev.a2, ev.a3, ev.a4, ev.a5, ev.a6, ev.a7] = pad z.1.2.2.2) ∧ w.grownBy w' (some b)

set_option maxRecDepth 100000 in
set_option maxHeartbeats 16000000 in
theorem event_any (b : Nat) (s : ByteArray) (hs : s.size ≤ 281474976710656) (a : Int) (ao : Option Addr) (n c : Nat) (L : List Ty) (hL8 : ∀ j, j < L.length → (L.getD j noTy).2.length ≤ 8) (w : World) (R : Lr w b s a (0 : Nat)) (hT : ∀ u, w.grownBy u (some b) → IsTypes u ao n L) (E : ErAt w) (hEb : 3 ≠ b) :
    Calls Tryd.prog 31 #[.pointer (some ⟨b, 0, none⟩), .agg #[.slice ao n c]] w fun r w' => EvAns w b s (rdE s L) r w' := by
  obtain ⟨z, hz⟩ : ∃ z, rdE s L = z := ⟨_, rfl⟩
  rw [hz]
  have hz' := hz.symm
  unfold rdE at hz'
  clear hz
  have hbw := R.lt
  have hsz : s.size ≤ 9223372036854775807 := by omega
  have w0 := wE_le s 0 (Nat.zero_le _)
  have w1 := wE_le s (wE s 0) w0.2
  have w2 := wE_le s (wE s (wE s 0)) w1.2
  have S0 : St w (((w.alloc (.cells #[.slice ao n c] 24)).alloc (.cells (evC zeroE) 44)).alloc (.cells (evC zeroE) 44)) b s ao n c a (0 : Nat) zeroE := by
    have B := galloc (galloc (galloc (Below.refl w.heap.size w) (.cells #[.slice ao n c] 24)) (.cells (evC zeroE) 44)) (.cells (evC zeroE) 44)
    refine ⟨((One.new w _ _).alloc _).alloc _, ?_, ?_, R.keep B, grown_below _ B, hbw⟩
    · have := (Evt.new (w.alloc (.cells #[.slice ao n c] 24)) zeroE).alloc (.cells (evC zeroE) 44)
      rw [show (w.alloc (.cells #[.slice ao n c] 24)).heap.size = w.heap.size + 1 by simp] at this
      exact this
    · have := Evt.new ((w.alloc (.cells #[.slice ao n c] 24)).alloc (.cells (evC zeroE) 44)) zeroE
      rw [show ((w.alloc (.cells #[.slice ao n c] 24)).alloc (.cells (evC zeroE) 44)).heap.size = w.heap.size + 1 + 1 by simp] at this
      exact this
  replace S0 : St w (((w.alloc (.cells #[.slice ao n c] 24)).alloc (.cells #[.int .i64 0, .int .u64 0, .int .i64 0, .int .i64 0, .int .i64 0, .int .i64 0, .int .i64 0, .int .i64 0, .int .i64 0, .int .i64 0, .int .i64 0] 44)).alloc (.cells #[.int .i64 0, .int .u64 0, .int .i64 0, .int .i64 0, .int .i64 0, .int .i64 0, .int .i64 0, .int .i64 0, .int .i64 0, .int .i64 0, .int .i64 0] 44)) b s ao n c a (0 : Nat) zeroE := S0
  have cN0 := fun (u : World) a' (S : St w u b s ao n c a' (0 : Nat) zeroE) => next_any b s hsz a' 0 (Nat.zero_le _) u S.lr
  have cM0 := fun (u : World) (e : ErAt u) => number_any (wd s 0) (by have := wd_size s 0; omega) u e
  have cN1 := fun (u : World) a' ev' (S : St w u b s ao n c a' (wE s 0) ev') => next_any b s hsz a' (wE s 0) w0.2 u S.lr
  have cM1 := fun (u : World) (e : ErAt u) => identity_any (wd s (wE s 0)) (by have := wd_size s (wE s 0); omega) u e
  go_enter Tryd.func31, Tryd.ntmps31
  go_upto_region 4 with (first
    | (go_at_call 53; with_reducible refine (cN0 _ _ S0).mono ?_; rintro e1 u1 ⟨rfl, R1, g1⟩; have S1 := S0.next g1 R1; have E1 := E.apart S1.gr hEb)
    | (go_at_call 52; with_reducible refine (cM0 _ E1).mono ?_; rintro e1 u2 ⟨⟨nv, rfl, hnv⟩, g2⟩; have S2 := S1.keep g2; have sf := S2.ev.free 0; have sc := S2.ev.all.1))
  have S3 := S2.set 0 (.int .i64 nv) ⟨nv, 0, 0, 0, 0, 0, 0, 0, 0, 0, 0⟩ (Evt.set0 (show Evt u2 (w.heap.size + 1 + 1) ⟨0, 0, 0, 0, 0, 0, 0, 0, 0, 0, 0⟩ from S2.ev) nv)
  generalize u2.setCell ⟨w.heap.size + 1 + 1, 0, none⟩ (.int .i64 nv) = X1 at *
  clear S0 S1 S2 sf sc E1 cN0 cM0 g1 g2 R1
  cases hn : numO (wd s 0) with
  | none =>
    rw [hn] at hz'
    have HZ : Hid (z = ((0, 0, 0, []), 26, 0)) := hz'
    clear hz' cN1 cM1
    have ea := S3.ev.all
    obtain ⟨o0, o1, o2, o3, o4, o5, o6, o7, o8, o9, o10⟩ := ea
    have Az := S3.rs
    obtain ⟨k0, k1, k2, k3, k4, k5, k6, k7, k8, k9, k10⟩ := (show Evt _ (w.heap.size + 1) ⟨0, 0, 0, 0, 0, 0, 0, 0, 0, 0, 0⟩ from Az).all
    have f0 := Az.free 0
    have f1 := Az.free 1
    have f2 := Az.free 2
    have f3 := Az.free 3
    have f4 := Az.free 4
    have f5 := Az.free 5
    have f6 := Az.free 6
    have f7 := Az.free 7
    have f8 := Az.free 8
    have f9 := Az.free 9
    have f10 := Az.free 10
    go_wp2
    refine bodyPost_ret (results_row_tmp1 rfl _ _ (w.heap.size + 1) 44 _ (0, 0) _ rfl (Az.setE nv 0 0 0 0 0 0 0 0 0 0) Tryd.underlying44 rfl infoEv) rfl ⟨⟨nv, 0, 0, 0, 0, 0, 0, 0, 0, 0, 0⟩, by rw [HZ.out]; rfl, ?_, ?_, grown_setE w _ b (w.heap.size + 1) (by omega) S3.gr _ _ _ _ _ _ _ _ _ _ _⟩
    · rw [HZ.out]; exact Lr.setE S3.lr (w.heap.size + 1) (by omega) _ _ _ _ _ _ _ _ _ _ _
    · intro hc; rw [HZ.out] at hc; cases hc
  | some ts =>
    rw [hn] at hz' hnv
    obtain rfl : ts = nv := by
      rcases hnv with h | h
      · cases h
      · exact Option.some.inj h
    have cS := fun (u : World) => isSafe_any ts u
    have cS2 : ∀ (u : World), Calls Tryd.prog 40 #[.int .i64 ts] u fun e w' => e = .returned (.bool (safeB ts)) ∧ u = w' := fun u => isSafe_any ts u
    clear cS hnv
    cases hsf : safeB ts
    · rw [hsf] at cS2
      have HZ : Hid (z = ((0, 0, 0, []), 29, 0)) := by show _ = _; rw [hz']; simp only [hsf, if_true]
      clear hz' cN1 cM1
      have ea := S3.ev.all
      obtain ⟨o0, o1, o2, o3, o4, o5, o6, o7, o8, o9, o10⟩ := ea
      have Az := S3.rs
      obtain ⟨k0, k1, k2, k3, k4, k5, k6, k7, k8, k9, k10⟩ := (show Evt _ (w.heap.size + 1) ⟨0, 0, 0, 0, 0, 0, 0, 0, 0, 0, 0⟩ from Az).all
      have f0 := Az.free 0
      have f1 := Az.free 1
      have f2 := Az.free 2
      have f3 := Az.free 3
      have f4 := Az.free 4
      have f5 := Az.free 5
      have f6 := Az.free 6
      have f7 := Az.free 7
      have f8 := Az.free 8
      have f9 := Az.free 9
      have f10 := Az.free 10
      go_wp2_with (go_at_call 40; with_reducible refine (cS2 _).mono ?_; rintro e4 u4 ⟨rfl, rfl⟩)
      refine bodyPost_ret (results_row_tmp1 rfl _ _ (w.heap.size + 1) 44 _ (0, 0) _ rfl (Az.setE ts 0 0 0 0 0 0 0 0 0 0) Tryd.underlying44 rfl infoEv) rfl ⟨⟨ts, 0, 0, 0, 0, 0, 0, 0, 0, 0, 0⟩, by rw [HZ.out]; rfl, ?_, ?_, grown_setE w _ b (w.heap.size + 1) (by omega) S3.gr _ _ _ _ _ _ _ _ _ _ _⟩
      · rw [HZ.out]; exact Lr.setE S3.lr (w.heap.size + 1) (by omega) _ _ _ _ _ _ _ _ _ _ _
      · intro hc; rw [HZ.out] at hc; cases hc
    rw [hsf] at cS2
    simp only [hsf, Bool.true_eq_false, if_false] at hz'
    have cN1' := cN1 X1 _ _ S3
    have x0 := S3.ev.all.1
    go_upto_region 9 with (first
      | (go_at_call 40; with_reducible refine (cS2 _).mono ?_; rintro e4 u4 ⟨rfl, rfl⟩)
      | (go_at_call 53; with_reducible refine cN1'.mono ?_; rintro e1 u5 ⟨rfl, R5, g5⟩; have S5 := S3.next g5 R5; have E5 := E.apart S5.gr hEb)
      | (go_at_call 54; with_reducible refine (cM1 _ E5).mono ?_; rintro e1 u6 ⟨⟨iv, rfl, hiv⟩, g6⟩; have S6 := S5.keep g6; have sf := S6.ev.free 1; have sc := S6.ev.all.2.1))
    have S7 := S6.set 1 (.int .u64 iv) _ (S6.ev.set1 iv)
    generalize u6.setCell ⟨w.heap.size + 1 + 1, 1, none⟩ (.int .u64 iv) = X2 at *
    clear S3 S5 S6 sf sc E5 cN1 cN1' cM1 g5 g6 R5 cS2 x0
    cases hd : idO (wd s (wE s 0)) with
    | none =>
      rw [hd] at hz'
      have HZ : Hid (z = ((0, 0, 0, []), 26, wE s 0)) := hz'
      clear hz'
      have ea := S7.ev.all
      obtain ⟨o0, o1, o2, o3, o4, o5, o6, o7, o8, o9, o10⟩ := ea
      have Az := S7.rs
      obtain ⟨k0, k1, k2, k3, k4, k5, k6, k7, k8, k9, k10⟩ := (show Evt _ (w.heap.size + 1) ⟨0, 0, 0, 0, 0, 0, 0, 0, 0, 0, 0⟩ from Az).all
      have f0 := Az.free 0
      have f1 := Az.free 1
      have f2 := Az.free 2
      have f3 := Az.free 3
      have f4 := Az.free 4
      have f5 := Az.free 5
      have f6 := Az.free 6
      have f7 := Az.free 7
      have f8 := Az.free 8
      have f9 := Az.free 9
      have f10 := Az.free 10
      go_wp2
      refine bodyPost_ret (results_row_tmp1 rfl _ _ (w.heap.size + 1) 44 _ (0, 0) _ rfl (Az.setE ts iv 0 0 0 0 0 0 0 0 0) Tryd.underlying44 rfl infoEv) rfl ⟨⟨ts, iv, 0, 0, 0, 0, 0, 0, 0, 0, 0⟩, by rw [HZ.out]; rfl, ?_, ?_, grown_setE w _ b (w.heap.size + 1) (by omega) S7.gr _ _ _ _ _ _ _ _ _ _ _⟩
      · rw [HZ.out]; exact Lr.setE S7.lr (w.heap.size + 1) (by omega) _ _ _ _ _ _ _ _ _ _ _
      · intro hc; rw [HZ.out] at hc; cases hc
    | some id =>
      rw [hd] at hz' hiv
      obtain rfl : iv = (id : Int) := by
        rcases hiv with h | ⟨m, h, e⟩
        · cases h
        · rw [e, ← Option.some.inj h]
      clear hiv
      have cN2 := next_any b s hsz _ (wE s (wE s 0)) w1.2 X2 S7.lr
      have hwe := wd_empty s (wE s (wE s 0)) w1.2
      by_cases hw : wA s (wE s (wE s 0)) < s.size
      · rw [decide_eq_true hw, Bool.not_true] at hwe
        have cT := fun (u : World) (g : w.grownBy u (some b)) => typeOf_any ao n c L (wd s (wE s (wE s 0))) u (hT u g)
        go_upto_region 15 with (first
          | (go_at_call 53; with_reducible refine cN2.mono ?_; rintro e1 u8 ⟨rfl, R8, g8⟩; have S8 := S7.next g8 R8; have s0 := S8.sc.at0)
          | (go_at_call 20; with_reducible refine (cT _ S8.gr).mono ?_; rintro e1 u9 ⟨rfl, g9⟩; have S9 := S8.keep g9; have sf := S9.ev.free 2; have sc := S9.ev.all.2.2.1))
        have S10 := S9.set 2 (.int .i64 (typeI L (wd s (wE s (wE s 0))))) _ (S9.ev.set2 (typeI L (wd s (wE s (wE s 0)))))
        generalize u9.setCell ⟨w.heap.size + 1 + 1, 2, none⟩ (.int .i64 (typeI L (wd s (wE s (wE s 0))))) = X3 at *
        clear S7 S8 S9 sf sc s0 cN2 cT g8 g9 R8
        simp only [if_neg (Decidable.not_not.2 hw)] at hz'
        have htl : 0 ≤ typeI L (wd s (wE s (wE s 0))) → (typeI L (wd s (wE s (wE s 0)))).toNat < L.length := fun h => by
          unfold typeI at h ⊢
          split
          · rename_i h2; rw [Int.toNat_natCast]; exact h2
          · rename_i h2; rw [if_neg h2] at h; omega
        generalize hx3 : wd s (wE s (wE s 0)) = x3 at *
        generalize typeI L x3 = ty at *
        by_cases ht : ty < 0
        · rw [if_pos ht] at hz'
          have HZ : Hid (z = ((0, 0, 0, []), 27, wE s (wE s 0))) := hz'
          clear hz'
          have ea := S10.ev.all
          obtain ⟨o0, o1, o2, o3, o4, o5, o6, o7, o8, o9, o10⟩ := ea
          have Az := S10.rs
          obtain ⟨k0, k1, k2, k3, k4, k5, k6, k7, k8, k9, k10⟩ := (show Evt _ (w.heap.size + 1) ⟨0, 0, 0, 0, 0, 0, 0, 0, 0, 0, 0⟩ from Az).all
          have f0 := Az.free 0
          have f1 := Az.free 1
          have f2 := Az.free 2
          have f3 := Az.free 3
          have f4 := Az.free 4
          have f5 := Az.free 5
          have f6 := Az.free 6
          have f7 := Az.free 7
          have f8 := Az.free 8
          have f9 := Az.free 9
          have f10 := Az.free 10
          go_wp2
          refine bodyPost_ret (results_row_tmp1 rfl _ _ (w.heap.size + 1) 44 _ (0, 0) _ rfl (Az.setE ts ((id : Int)) ty 0 0 0 0 0 0 0 0) Tryd.underlying44 rfl infoEv) rfl ⟨⟨ts, (id : Int), ty, 0, 0, 0, 0, 0, 0, 0, 0⟩, by rw [HZ.out]; rfl, ?_, ?_, grown_setE w _ b (w.heap.size + 1) (by omega) S10.gr _ _ _ _ _ _ _ _ _ _ _⟩
          · rw [HZ.out]; exact Lr.setE S10.lr (w.heap.size + 1) (by omega) _ _ _ _ _ _ _ _ _ _ _
          · intro hc; rw [HZ.out] at hc; cases hc
        · rw [if_neg ht] at hz'
          obtain ⟨k, rfl⟩ : ∃ k : Nat, ty = (k : Int) := ⟨ty.toNat, by omega⟩
          have hk : k < L.length := by have := htl (by omega); rw [Int.toNat_natCast] at this; exact this
          rw [Int.toNat_natCast] at hz'
          obtain ⟨T1, T2, T4⟩ := hT X3 S10.gr
          rcases T4 with T4 | ⟨b2, off, eb, hb2, hcb⟩
          · omega
          subst eb
          obtain ⟨_, aj, cj, c2, c3, _⟩ := hcb k (by omega)
          have hm8 := hL8 k hk
          generalize hm : (L.getD k noTy).2.length = m at *
          have cV := values_any b s hs _ (wE s (wE s (wE s 0))) w2.2 m hm8 X3 S10.lr (E.apart S10.gr hEb) hEb
          have HZ : Hid (z = ((ts, (id : Int), k, (rdV s m (wE s (wE s (wE s 0)))).1), (rdV s m (wE s (wE s (wE s 0)))).2)) := hz'
          clear hz' hcb htl T1 T2
          generalize rdV s m (wE s (wE s (wE s 0))) = y at *
          obtain ⟨vs, cd, pl⟩ := y
          dsimp only at cV HZ
          have q2 : (k : Int) < (n : Int) := by have := (hT X3 S10.gr).1; omega
          have q3 : ¬ (k : Int) < 0 := by omega
          have s0 := S10.sc.at0
          have s2 := S10.ev.all.2.2.1
          go_upto_region 19 with (first
            | (go_at_call 55; with_reducible refine cV.mono ?_; rintro e1 u11 ⟨l8, rfl, hl8, R11, hval, g11⟩; obtain ⟨a0, a1, a2, a3, a4, a5, a6, a7, rfl⟩ := eight hl8; have S11 := S10.next g11 R11; obtain ⟨m0, m1, m2, m3, m4, m5, m6, m7, m8, m9, m10⟩ := S11.ev.all; have mf3 := S11.ev.free 3; have mf4 := S11.ev.free 4; have mf5 := S11.ev.free 5; have mf6 := S11.ev.free 6; have mf7 := S11.ev.free 7; have mf8 := S11.ev.free 8; have mf9 := S11.ev.free 9; have mf10 := S11.ev.free 10))
          have S12 := S11.set 3 (.int .i64 a0) _ (S11.ev.set3 a0)
          have S13 := S12.set 4 (.int .i64 a1) _ (S12.ev.set4 a1)
          have S14 := S13.set 5 (.int .i64 a2) _ (S13.ev.set5 a2)
          have S15 := S14.set 6 (.int .i64 a3) _ (S14.ev.set6 a3)
          have S16 := S15.set 7 (.int .i64 a4) _ (S15.ev.set7 a4)
          have S17 := S16.set 8 (.int .i64 a5) _ (S16.ev.set8 a5)
          have S18 := S17.set 9 (.int .i64 a6) _ (S17.ev.set9 a6)
          have S19 := S18.set 10 (.int .i64 a7) _ (S18.ev.set10 a7)
          clear m0 m1 m2 m3 m4 m5 m6 m7 m8 m9 m10 mf3 mf4 mf5 mf6 mf7 mf8 mf9 mf10 S10 S11 S12 S13 S14 S15 S16 S17 S18 s0 s2 cV
          generalize ((((((((u11.setCell ⟨w.heap.size + 1 + 1, 3, none⟩ (.int .i64 a0)).setCell ⟨w.heap.size + 1 + 1, 4, none⟩ (.int .i64 a1)).setCell ⟨w.heap.size + 1 + 1, 5, none⟩ (.int .i64 a2)).setCell ⟨w.heap.size + 1 + 1, 6, none⟩ (.int .i64 a3)).setCell ⟨w.heap.size + 1 + 1, 7, none⟩ (.int .i64 a4)).setCell ⟨w.heap.size + 1 + 1, 8, none⟩ (.int .i64 a5)).setCell ⟨w.heap.size + 1 + 1, 9, none⟩ (.int .i64 a6)).setCell ⟨w.heap.size + 1 + 1, 10, none⟩ (.int .i64 a7)) = X4 at *
          have ea := S19.ev.all
          obtain ⟨o0, o1, o2, o3, o4, o5, o6, o7, o8, o9, o10⟩ := ea
          have Az := S19.rs
          obtain ⟨k0, k1, k2, k3, k4, k5, k6, k7, k8, k9, k10⟩ := (show Evt _ (w.heap.size + 1) ⟨0, 0, 0, 0, 0, 0, 0, 0, 0, 0, 0⟩ from Az).all
          have f0 := Az.free 0
          have f1 := Az.free 1
          have f2 := Az.free 2
          have f3 := Az.free 3
          have f4 := Az.free 4
          have f5 := Az.free 5
          have f6 := Az.free 6
          have f7 := Az.free 7
          have f8 := Az.free 8
          have f9 := Az.free 9
          have f10 := Az.free 10
          go_wp2
          refine bodyPost_ret (results_row_tmp1 rfl _ _ (w.heap.size + 1) 44 _ (0, 0) _ rfl (Az.setE ts ((id : Int)) ((k : Int)) a0 a1 a2 a3 a4 a5 a6 a7) Tryd.underlying44 rfl infoEv) rfl ⟨⟨ts, (id : Int), (k : Int), a0, a1, a2, a3, a4, a5, a6, a7⟩, by rw [HZ.out]; rfl, ?_, ?_, grown_setE w _ b (w.heap.size + 1) (by omega) S19.gr _ _ _ _ _ _ _ _ _ _ _⟩
          · rw [HZ.out]; exact Lr.setE S19.lr (w.heap.size + 1) (by omega) _ _ _ _ _ _ _ _ _ _ _
          · intro hc; rw [HZ.out] at hc ⊢; exact ⟨rfl, rfl, rfl, hval hc⟩
      · rw [decide_eq_false hw, Bool.not_false] at hwe
        have HZ : Hid (z = ((0, 0, 0, []), 26, wE s (wE s 0))) := by show _ = _; rw [hz']; simp only [if_pos hw]
        clear hz'
        go_upto_region 12 with (first
          | (go_at_call 53; with_reducible refine cN2.mono ?_; rintro e1 u8 ⟨rfl, R8, g8⟩; have S8 := S7.next g8 R8))
        have ea := S8.ev.all
        obtain ⟨o0, o1, o2, o3, o4, o5, o6, o7, o8, o9, o10⟩ := ea
        have Az := S8.rs
        obtain ⟨k0, k1, k2, k3, k4, k5, k6, k7, k8, k9, k10⟩ := (show Evt _ (w.heap.size + 1) ⟨0, 0, 0, 0, 0, 0, 0, 0, 0, 0, 0⟩ from Az).all
        have f0 := Az.free 0
        have f1 := Az.free 1
        have f2 := Az.free 2
        have f3 := Az.free 3
        have f4 := Az.free 4
        have f5 := Az.free 5
        have f6 := Az.free 6
        have f7 := Az.free 7
        have f8 := Az.free 8
        have f9 := Az.free 9
        have f10 := Az.free 10
        go_wp2
        refine bodyPost_ret (results_row_tmp1 rfl _ _ (w.heap.size + 1) 44 _ (0, 0) _ rfl (Az.setE ts ((id : Int)) 0 0 0 0 0 0 0 0 0) Tryd.underlying44 rfl infoEv) rfl ⟨⟨ts, (id : Int), 0, 0, 0, 0, 0, 0, 0, 0, 0⟩, by rw [HZ.out]; rfl, ?_, ?_, grown_setE w _ b (w.heap.size + 1) (by omega) S8.gr _ _ _ _ _ _ _ _ _ _ _⟩
        · rw [HZ.out]; exact Lr.setE S8.lr (w.heap.size + 1) (by omega) _ _ _ _ _ _ _ _ _ _ _
        · intro hc; rw [HZ.out] at hc; cases hc

end Go.Proofs.YtkpnnofonocilaaDoor
