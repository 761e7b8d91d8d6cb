/- What the statements of the gate ask: lists of events, scripts that come in, two gates beside each other. -/
import Derived.Test.YthjnkcapjhelgaaGpi
import Derived.Test.YthjnkcapjhelgaaEve
import Derived.Test.YthjnkcapjhelgaaOpenH
import Derived.Deep.Strs
namespace Go.Proofs.Ythjnkcapjhelgaa
open Go.ChangeShapes Go.WideShapes Go.ChangeAt Go.RowKit Go.BigFrame Go.Maps
set_option linter.unusedVariables false
set_option linter.unusedSimpArgs false

set_option maxHeartbeats 2000000 in
/-- Rows that hold the same are the same. -/
theorem sameEvG_true (a b : Option Addr) (ca cb : Nat) (l : List Ev) (w : World) (A : Flat w a (fl evC l)) (B : Flat w b (fl evC l)) (hl : l.length ≤ 9223372036854775807) :
    Calls Try.prog 16 #[.slice a l.length ca, .slice b l.length cb] w fun e w' => e = .returned (.bool true) ∧ Below w.heap.size w w' := by
  go_enter Try.func16, Try.ntmps16
  go_wp2
  go_loopw [5] (fun vi wr => ∃ i : Nat, i ≤ l.length ∧ vi = .int .i64 (i : Int) ∧ Below w.heap.size w wr) (fun vi _ => l.length - (intOf vi).toNat)
  case atStart => exact ⟨0, Nat.zero_le _, rfl, Below.refl _ _⟩
  case round =>
    obtain ⟨i, hi, rfl, G⟩ := hrel
    by_cases hlt : i < l.length
    · obtain ⟨g, o, rfl, hgl, _⟩ := (A.keep G).form (by rw [fl_len ev_size]; omega)
      obtain ⟨g2, o2, rfl, hgl2, _⟩ := (B.keep G).form (by rw [fl_len ev_size]; omega)
      have ra := flat_range ev_size zeroE (A.keep G) i hlt
      have rb := flat_range ev_size zeroE (B.keep G) i hlt
      generalize l.getD i zeroE = x at *
      have q1 : (i : Int) < (l.length : Int) := by omega
      have HT : Hid (i < l.length) := hlt
      have hne0 : Nonempty (Ext wr) := ⟨⟨_, Below.refl _ _⟩⟩
      clear hlt
      go_wp2
      refine wp_region_ext (by kernel_rfl) (by kernel_rfl) ?_
      repeat (first
        | (refine wpQuiet_load_mid rfl 47 (.tmp 19) rfl g (o + i * 11) rfl (evC x) _ (fun X hX => by obtain ⟨nx, rfl⟩ := hX; exact rangeAt_keep ra nx.h) Try.underlying47 rfl infoEv _ rfl ?_; simp only [Act.put, List.setIfInBounds_toArray, List.set_cons_succ, List.set_cons_zero])
        | (refine wpQuiet_load_mid rfl 47 (.tmp 23) rfl g2 (o2 + i * 11) rfl (evC x) _ (fun X hX => by obtain ⟨nx, rfl⟩ := hX; exact rangeAt_keep rb nx.h) Try.underlying47 rfl infoEv _ rfl ?_; simp only [Act.put, List.setIfInBounds_toArray, List.set_cons_succ, List.set_cons_zero])
        | (refine quiet_neq_same rfl (.tmp 20) (.tmp 24) 47 rfl evGuard (evC x) (ev_eq x) rfl rfl _ rfl ?_; simp only [Act.put, List.setIfInBounds_toArray, List.set_cons_succ, List.set_cons_zero])
        | go_big_quiet_step (fail))
      refine wpQuiet_nil ?_
      intro _ hw'
      obtain ⟨nx, hw''⟩ := hw'
      subst hw''
      go_wp2
      go_roundw
      case rel => have hlt : i < l.length := HT; exact ⟨i + 1, by omega, by go_num, gtrans G nx.h⟩
      case measure => have hlt : i < l.length := HT; simp [intOf]; omega
    · have hki : ¬ (i : Int) < (l.length : Int) := by omega
      go_wp2
      go_ret
      exact ⟨rfl, G⟩

theorem new_no {cap : Int} (hc : cap < 1 ∨ 4096 < cap) (u : World) : Calls Try.prog 13 #[.int .i64 cap] u fun e w' => e = .returned (.tuple #[.pointer none, .int .i64 100]) ∧ Below u.heap.size u w' := (new_any cap u).mono fun e w' h => ⟨h.no hc, h.below⟩
theorem new_yes {cap : Int} (h1 : 1 ≤ cap) (h2 : cap ≤ 4096) (u : World) : Calls Try.prog 13 #[.int .i64 cap] u fun e w' => ∃ g S, e = .returned (.tuple #[.pointer (some ⟨g, 0, none⟩), .int .i64 0]) ∧ Gat w' g S ⟨cap, -1152921504606846977, false, []⟩ 0 ∧ S g ∧ (∀ k, S k → u.heap.size ≤ k) ∧ Below u.heap.size u w' := (new_any cap u).mono fun e w' h => by
  obtain ⟨g, S, a1, a2, a3, a4⟩ := h.yes h1 h2
  exact ⟨g, S, a1, a2, a3, a4, h.below⟩
/-- An event with a timestamp and an id alone. -/
def mkE (ts id : Int) : Ev := ⟨ts, id, 0, 0, 0, 0, 0, 0, 0, 0, 0⟩
theorem mkE_ok {ts id : Int} (h : okN ts id) : (mkE ts id).ok := ⟨h.1, h.2.1, h.2.2.1, h.2.2.2, zeroE_ok.at0, zeroE_ok.at1⟩
theorem push_mk (g t : Nat) (S : Nat → Prop) (s : Gs) (ts id c : Int) (w : World) (GG : Gat w g S s t) (hx : okN ts id) (ht : t + 1 ≤ 140737488351232) (hc : s.pushC (mkE ts id) = c) :
    Calls Try.prog 14 #[.pointer (some ⟨g, 0, none⟩), .agg #[.int .i64 ts, .int .u64 id, .int .i64 0, .int .i64 0, .int .i64 0, .int .i64 0, .int .i64 0, .int .i64 0, .int .i64 0, .int .i64 0, .int .i64 0]] w fun e w' => e = .returned (.int .i64 c) ∧ GStep g S w w' (s.push (mkE ts id)) (t + 1) := by
  subst hc
  exact push_any g t S s (mkE ts id) w GG (mkE_ok hx) ht
theorem buildE2 (a b : Int) (w : World) : (Instr.build 47 #[(0, .int .i64 a), (1, .int .u64 b)]).run Try.prog w = .ok (.agg (evC (mkE a b))) w := by kernel_rfl
theorem buildE1 (a : Int) (w : World) : (Instr.build 47 #[(0, .int .i64 a)]).run Try.prog w = .ok (.agg (evC (mkE a 0))) w := by kernel_rfl
/-- A step of a script. -/
structure Gop where
  kd : Int
  wh : Int
  e : Ev
  m : Int
def gopC (o : Gop) : Array Value := #[.int .i64 o.kd, .int .i64 o.wh, .int .i64 o.e.ts, .int .u64 o.e.id, .int .i64 o.e.typ, .int .i64 o.e.a0, .int .i64 o.e.a1, .int .i64 o.e.a2, .int .i64 o.e.a3, .int .i64 o.e.a4, .int .i64 o.e.a5, .int .i64 o.e.a6, .int .i64 o.e.a7, .int .i64 o.m]
theorem gop_size (o : Gop) : (gopC o).size = 14 := rfl
theorem gop_range {w : World} {b o : Nat} {x : Gop} (h : w.rangeAt b o (gopC x).toList) : w.rangeAt b (o + 2) (evC x.e).toList := fun j v hv => by
  rw [Nat.add_assoc, Nat.add_comm 2 j]
  refine h (j + 2) v ?_
  have hj : j < 11 := (List.getElem?_eq_some_iff.1 hv).1
  rcases (show j = 0 ∨ j = 1 ∨ j = 2 ∨ j = 3 ∨ j = 4 ∨ j = 5 ∨ j = 6 ∨ j = 7 ∨ j = 8 ∨ j = 9 ∨ j = 10 from by omega) with rfl | rfl | rfl | rfl | rfl | rfl | rfl | rfl | rfl | rfl | rfl <;> exact hv
theorem infoGop : (Try.prog.info? 56).map (·.size) = some 14 := by kernel_rfl
theorem gop_one (x : Gop) : (gopC x).all (·.oneCell') = true := by simp [gopC, Value.oneCell']
def zeroGo : Gop := ⟨0, 0, zeroE, 0⟩
abbrev zGo : Array Value := #[.int .i64 0, .int .i64 0, .int .i64 0, .int .u64 0, .int .i64 0, .int .i64 0, .int .i64 0, .int .i64 0, .int .i64 0, .int .i64 0, .int .i64 0, .int .i64 0, .int .i64 0, .int .i64 0]
theorem bytesGop : Try.prog.bytesOf 56 = 112 := by kernel_rfl
theorem cellsGop : Try.prog.cellsOf 56 = 14 := by kernel_rfl
section
variable {H : Type} {enc : TypeId × Value → H} {w : World} {spare : Nat → Bool} {held : Bool}
set_option maxRecDepth 100000 in
theorem open_gop {fuel : Nat} {l : List Value} {y : DataW H × List MemPlace} (hl : l.length = 14) (h : DataW.trod enc Try.prog w 0 spare held fuel 56 l = some y) : ∃ o : Gop, o.e.ok ∧ l = (gopC o).toList := by
  obtain ⟨k0, k1, c0, c1, c2, c3, c4, c5, c6, c7, c8, c9, c10, k2, rfl⟩ : ∃ k0 k1 c0 c1 c2 c3 c4 c5 c6 c7 c8 c9 c10 k2, l = [k0, k1, c0, c1, c2, c3, c4, c5, c6, c7, c8, c9, c10, k2] := by
    match l, hl with
    | [k0, k1, c0, c1, c2, c3, c4, c5, c6, c7, c8, c9, c10, k2], _ => exact ⟨k0, k1, c0, c1, c2, c3, c4, c5, c6, c7, c8, c9, c10, k2, rfl⟩
  obtain ⟨y0, y1, y2, y3, m, _, _, g0, g1, g2, g3⟩ := Joins.trod_struct4 Try.underlying56 h
  have g0' : DataW.trod enc Try.prog w 0 spare held m 3 [k0] = some y0 := g0
  have g1' : DataW.trod enc Try.prog w 0 spare held m 3 [k1] = some y1 := g1
  have g2' : DataW.trod enc Try.prog w 0 spare held m 47 [c0, c1, c2, c3, c4, c5, c6, c7, c8, c9, c10] = some y2 := g2
  have g3' : DataW.trod enc Try.prog w 0 spare held m 2 [k2] = some y3 := g3
  obtain ⟨n0, e0, _, r0⟩ := DataW.trod_int Try.underlying3 g0'
  obtain ⟨n1, e1, _, r1⟩ := DataW.trod_int Try.underlying3 g1'
  obtain ⟨e, he1, he⟩ := open_ev7 rfl g2'
  obtain ⟨n2, e2, _, r2⟩ := DataW.trod_int Try.underlying2 g3'
  simp only [List.cons.injEq, and_true] at e0 e1 e2
  subst e0 e1 e2
  refine ⟨⟨n0, n1, e, n2⟩, he1, ?_⟩
  unfold evC at he
  simp only [List.cons.injEq, and_true] at he
  obtain ⟨f0, f1, f2, f3, f4, f5, f6, f7, f8, f9, f10⟩ := he
  rw [f0, f1, f2, f3, f4, f5, f6, f7, f8, f9, f10]
  rfl
theorem open_goprow {fuel : Nat} {v : Value} {y : DataW H × List MemPlace} (h : DataW.trod enc Try.prog w 0 spare held fuel 38 [v] = some y) (hw : ∀ n ∈ y.1.weights Try.prog 38, n ≤ reachBytes) :
    ∃ ao cap l, v = .slice ao (l : List Gop).length cap ∧ Sl ao l.length cap ∧ Flat w ao (fl gopC l) ∧ l.length * 112 ≤ 140737488351232 ∧ ∀ k, (fun o : Gop => o.e.ok) (l.getD k zeroGo) :=
  open_row Try.underlying38 bytesGop cellsGop (by decide) gopC (fun x => rfl) zeroGo (fun o => o.e.ok) zeroE_ok (fun hl ht _ => open_gop hl ht) h hw
end
/-- Rows and locals of other types stay while a gate turns. -/
theorem Frm.own {S : Nat → Prop} {w u : World} {g : Nat} {s : Gs} {t : Nat} (F : Frm S w u) (G : Gat w g S s t) {b1 : Nat} {e1 : TypeId} {s1 : Nat} {v1 : Value} {n1 : Nat} {x1 : List Value} (O : w.ownsRow b1 e1 s1 v1 n1 x1) (h1 : e1 ≠ 76) (h2 : e1 ≠ 97) (h3 : e1 ≠ 101) : u.ownsRow b1 e1 s1 v1 n1 x1 :=
  own_of_block O fun k cur _ hh => F.blk k (lt_of_block hh) (G.far hh h1 h2 h3)
theorem Frm.loc {S : Nat → Prop} {w u : World} {g : Nat} {s : Gs} {t : Nat} (F : Frm S w u) (G : Gat w g S s t) {b : Nat} {cs : Array Value} {e1 : TypeId} (O : Bk w b cs e1) (h1 : e1 ≠ 76) (h2 : e1 ≠ 97) (h3 : e1 ≠ 101) : Bk u b cs e1 :=
  F.bk O (G.far O h1 h2 h3)
/-- Two gates beside each other. -/
structure Gt2 (N : Nat) (w : World) (g h : Nat) (S R : Nat → Prop) (s r : Gs) (t : Nat) : Prop where
  G : Gat w g S s t
  H : Gat w h R r t
  d : ∀ k, S k → ¬ R k
  lo : ∀ k, S k → N ≤ k
  lo' : ∀ k, R k → N ≤ k
section
variable {N : Nat} {w u : World} {g h : Nat} {S R : Nat → Prop} {s r s' : Gs} {t t' : Nat}
theorem Gt2.swap (T : Gt2 N w g h S R s r t) : Gt2 N w h g R S r s t := ⟨T.H, T.G, fun k e1 e2 => T.d k e2 e1, T.lo', T.lo⟩
theorem Gt2.keep (T : Gt2 N w g h S R s r t) (B : Below w.heap.size w u) : Gt2 N u g h S R s r t := ⟨T.G.keep B, T.H.keep B, T.d, T.lo, T.lo'⟩
theorem Gt2.mono (T : Gt2 N w g h S R s r t) (ht : t ≤ t') : Gt2 N w g h S R s r t' := ⟨T.G.mono ht, T.H.mono ht, T.d, T.lo, T.lo'⟩
theorem Gt2.step (T : Gt2 N w g h S R s r t) (hN : N ≤ w.heap.size) (P : GStep g S w u s' t') (ht : t ≤ t') : ∃ S', Gt2 N u g h S' R s' r t' ∧ Frm S w u := by
  obtain ⟨S', G', F, V⟩ := P
  refine ⟨S', ⟨G', (T.H.same F.size fun k e => F.blk k (T.H.lt k e) fun e' => T.d k e' e).mono ht, fun k e1 e2 => ?_, fun k e => ?_, T.lo'⟩, F⟩
  · rcases V k e1 with h | h
    · exact T.d k h e2
    · have := T.H.lt k e2; omega
  · rcases V k e with h | h
    · exact T.lo k h
    · omega
theorem Gt2.stepR {r' : Gs} (T : Gt2 N w g h S R s r t) (hN : N ≤ w.heap.size) (P : GStep h R w u r' t') (ht : t ≤ t') : ∃ R', Gt2 N u g h S R' s r' t' ∧ Frm R w u := by
  obtain ⟨R', T', F⟩ := T.swap.step hN P ht
  exact ⟨R', T'.swap, F⟩
end
theorem Gs.push_no {s : Gs} {x : Ev} (h : s.pushC x ≠ 0) : s.push x = s := by unfold Gs.push; rw [if_neg h]
theorem Gs.adv_no {s : Gs} {m : Int} (h : s.advC m ≠ 0) : s.adv m = s ∧ s.advL m = [] := by unfold Gs.adv Gs.advL; rw [if_neg h, if_neg h]; exact ⟨rfl, rfl⟩
theorem Gs.flu_no {s : Gs} (h : s.fluC ≠ 0) : s.flu = s ∧ s.fluL = [] := by
  unfold Gs.fluC at h
  have hc : s.cl = true := by
    by_cases e : s.cl = true
    · exact e
    · rw [if_neg e] at h; exact absurd rfl h
  unfold Gs.flu Gs.fluL; rw [if_pos hc, if_pos hc]; exact ⟨rfl, rfl⟩
theorem Gs.advL_len {s : Gs} (h : s.ok) (m : Int) : (s.advL m).length ≤ 4096 := by
  unfold Gs.advL
  split
  · exact Nat.le_trans (List.takeWhile_sublist _).length_le h.len'
  · exact Nat.zero_le _
theorem Gs.fluL_len {s : Gs} (h : s.ok) : s.fluL.length ≤ 4096 := by
  unfold Gs.fluL
  split
  · exact Nat.zero_le _
  · exact h.len'

end Go.Proofs.Ythjnkcapjhelgaa
