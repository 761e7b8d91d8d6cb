/- The levels of an expression: what each is handed, and what it comes to; the operators. -/
import Derived.Test.YtmoimmghmmomlaaDoorPu
import Derived.Test.YtmoimmghmmomlaaDoorQt
namespace Go.Proofs.YtmoimmghmmomlaaDoor
open Go.RowKit Go.BigFrame
set_option linter.unusedVariables false
set_option linter.unusedSimpArgs false

structure Okp (w : World) (d g : Nat) (e0 : Int) (b t : Nat) (s : Ps) : Prop where
  de : De w d g e0 s.ts s.o
  tr : Tr w b t s.ns s.sp
  db : d < b
  bw : b ≤ w.heap.size
  o32 : s.o ≤ 32
  len : s.ns.length + s.ts.length ≤ 400
  sps : s.sp.length = s.ns.length
/-- What a level leaves: all below b but the block d, and the blocks of tokens. -/
structure Kl (d b : Nat) (w u : World) : Prop where
  kd : Kd d b w u
  kt : KT w u
theorem Kl.refl (d b : Nat) (w : World) : Kl d b w w := ⟨Kd.refl _ _ _, KT.refl _⟩
theorem Kl.trans {d b : Nat} {w u v : World} (h : Kl d b w u) (k : Kl d b u v) : Kl d b w v := ⟨h.kd.trans k.kd, h.kt.trans k.kt⟩
theorem Kl.of {d g b : Nat} {e : Int} {ts : List Tok} {o : Nat} {w u : World} (D : De w d g e ts o) (hb : b ≤ w.heap.size) (h : Kd d w.heap.size w u) : Kl d b w u := ⟨h.mono hb, KT.kd D h⟩
theorem Kl.bel {d b : Nat} {w u : World} (hb : b ≤ w.heap.size) (h : Below w.heap.size w u) : Kl d b w u := ⟨Kd.of h b hb, KT.below h⟩
def LevP (w : World) (d g : Nat) (e0 : Int) (b t : Nat) (r : Rs) (e : Ending) (w' : World) : Prop :=
  match r with
  | .ok s => e = .returned (.tuple #[]) ∧ Okp w' d g e0 b t s ∧ Kl d b w w'
  | .bad c x => e = .panicked (rfC c (plc e0 x)) ∧ Kl d b w w'
theorem LevP.good {w : World} {d g : Nat} {e0 : Int} {b t : Nat} {r : Rs} {s : Ps} {w' : World} (h : r = .ok s) (O : Okp w' d g e0 b t s) (K : Kl d b w w') : LevP w d g e0 b t r (.returned (.tuple #[])) w' := by subst h; exact ⟨rfl, O, K⟩
theorem LevP.fail {w : World} {d g : Nat} {e0 : Int} {b t : Nat} {r : Rs} {c : Int} {x : List Tok} {w' : World} (h : r = .bad c x) (K : Kl d b w w') : LevP w d g e0 b t r (.panicked (rfC c (plc e0 x))) w' := by subst h; exact ⟨rfl, K⟩
theorem LevP.from {w v : World} {d g : Nat} {e0 : Int} {b t : Nat} {r : Rs} {e : Ending} {w' : World} (h : LevP v d g e0 b t r e w') (K : Kl d b w v) : LevP w d g e0 b t r e w' := by
  cases r with
  | ok s => exact ⟨h.1, h.2.1, K.trans h.2.2⟩
  | bad c x => exact ⟨h.1, K.trans h.2⟩
theorem Okp.keep {w u : World} {d g : Nat} {e0 : Int} {b t : Nat} {s : Ps} (h : Okp w d g e0 b t s) (G : Below w.heap.size w u) : Okp u d g e0 b t s :=
  ⟨h.de.keep G, h.tr.keep G, h.db, Nat.le_trans h.bw G.size, h.o32, h.len, h.sps⟩

section
variable (w : World) (d g : Nat) (e0 : Int) (b t : Nat)
set_option maxRecDepth 100000 in
set_option maxHeartbeats 4000000 in
theorem between_any (F : FuncId) (hE : ∀ (args : Array Value) (v : World), (callFunc F args).run Tryd.prog v = .ok (.enter F args) v) (r : Rs) (tk : Tok) (tl : List Tok) (o : Nat) (ns : List Nd) (sp : List Int) (hk : 0 ≤ tk.k ∧ tk.k ≤ 100) (O : Okp w d g e0 b t ⟨tk :: tl, o, ns, sp⟩)
    (hI : Inv (.ok ⟨tl, o, ns, sp⟩) r)
    (hF : ∀ u, Okp u d g e0 b t ⟨tl, o, ns, sp⟩ → Calls Tryd.prog F #[.pointer (some ⟨d, 0, none⟩), .pointer (some ⟨t, 0, none⟩)] u (LevP u d g e0 b t r)) :
    Calls Tryd.prog 84 #[.pointer (some ⟨d, 0, none⟩), .pointer (some ⟨t, 0, none⟩), .func (.func F) #[.pointer (some ⟨d, 0, none⟩)] #[]] w (LevP w d g e0 b t (r.bin tk ns.length)) := by
  have D := O.de
  have T := O.tr
  have hbw := O.bw
  have hdb := O.db
  have hlen := O.len
  simp only [List.length_cons] at hlen
  have c1 := pass_any w d g e0 o tk tl D
  simp only [tokA] at c1
  have c2 := fun u (K : Kd d w.heap.size w u) => root_any u b t ns sp (T.kd hdb K) (by omega)
  go_enter Tryd.func84, Tryd.ntmps84
  go_upto_region 1 with (first
    | (go_at_call 68; (with_reducible refine c1.mono ?_); rintro e u ⟨rfl, D2, K2⟩)
    | (go_at_call 103; (with_reducible refine (c2 _ K2).mono ?_); rintro e u9 ⟨rfl, rfl⟩))
  have B3 := galloc (Below.refl u.heap.size u) (.cells (tokA tk) 79)
  have R3 := TokAt.new u tk
  have O3 : Okp (u.alloc (.cells (tokA tk) 79)) d g e0 b t ⟨tl, o, ns, sp⟩ := ⟨D2.keep B3, (T.kd hdb K2).keep B3, hdb, by have := K2.size; have := B3.size; omega, O.o32, by show ns.length + tl.length ≤ 400; omega, O.sps⟩
  have L3 : Kl d b w (u.alloc (.cells (tokA tk) 79)) := (Kl.of D hbw K2).trans (Kl.bel (by have := K2.size; omega) B3)
  generalize hV : u.alloc (.cells (tokA tk) 79) = V at B3 R3 O3 L3
  rw [show u.alloc (.cells #[.int .i64 tk.k, .string tk.t, .int .i64 tk.n, .int .i64 tk.a] 79) = V from hV]
  clear hV
  have c3 := hF V O3
  generalize u.heap.size = bs at *
  clear c1 c2 D2 K2 B3 hF
  cases r with
  | bad c x =>
    go_wp2_with ((with_reducible refine c3.mono ?_); rintro e u3 ⟨rfl, K3⟩)
    exact ⟨rfl, LevP.fail rfl (L3.trans K3)⟩
  | ok s =>
    obtain ⟨i1, i2, i3⟩ := hI _ s rfl rfl
    simp only at i1 i2 i3
    go_upto_region 2 with ((with_reducible refine c3.mono ?_); rintro e u3 ⟨rfl, O4, K4⟩)
    have R4 : TokAt u3 bs tk := (K4.kt bs _ _ R3).trans R3
    obtain ⟨r0, r1, r2, r3⟩ := R4.at
    have T4 := O4.tr
    have hl4 := O4.len
    have y1 : ∀ z : Ext u3, Calls Tryd.prog 105 #[.int .i64 tk.k] z.X (fun e w'' => e = .returned (.int .i64 (opN tk.k)) ∧ ∃ m : Ext u3, w'' = m.X) := fun z => ext_of ((operator_any tk.k hk z.X).mono (fun e w' ⟨h1, h2⟩ => ⟨h1, h2 ▸ Below.refl _ _⟩))
    have y2 : ∀ z : Ext u3, Calls Tryd.prog 103 #[.pointer (some ⟨t, 0, none⟩)] z.X (fun e w'' => e = .returned (.int .i64 ((s.ns.length : Int) - 1)) ∧ ∃ m : Ext u3, w'' = m.X) := fun z => ext_of ((root_any z.X b t s.ns s.sp (T4.keep z.h) (by omega)).mono (fun e w' ⟨h1, h2⟩ => ⟨h1, h2 ▸ Below.refl _ _⟩))
    have p1 := fun z : Ext u3 => (z.cell _ _ R4.lt).trans r0
    have p2 := fun z : Ext u3 => (z.cell _ _ R4.lt).trans r3
    have hne : Nonempty (Ext u3) := ⟨⟨_, Below.refl _ _⟩⟩
    refine wp_region_ext_tail 10 (by kernel_rfl) (by kernel_rfl) ?_
    simp only [List.take_succ_cons, List.take_zero, List.drop_succ_cons, List.drop_zero]
    repeat (go_big_quiet_step (first | (go_at_call 105; with_reducible exact y1 _) | (go_at_call 103; with_reducible exact y2 _)))
    refine wpQuiet_nil ?_
    intro _ hw'
    obtain ⟨nx2, hw''⟩ := hw'
    subst hw''
    have O5 := O4.keep nx2.h
    have L5 := (L3.trans K4).trans (Kl.bel O4.bw nx2.h)
    have c5 := add_any nx2.X b t s.ns s.sp tk.a ⟨opN tk.k, 0, eS, eS, (ns.length : Int) - 1, (s.ns.length : Int) - 1⟩ O5.tr O5.bw (by omega) (by have := O5.sps; omega)
    simp only [ndA] at c5
    go_wp2_with (go_at_call 104; (with_reducible refine c5.mono ?_); rintro e u6 ⟨rfl, T6, B6, Q6⟩)
    go_end0
    refine LevP.good (s := s.add s.ts ⟨opN tk.k, 0, eS, eS, (ns.length : Int) - 1, (s.ns.length : Int) - 1⟩ tk.a) rfl ⟨O5.de.low hdb B6, T6, hdb, Nat.le_trans O5.bw B6.size, O5.o32, ?_, ?_⟩ (L5.trans ⟨Kd.lowB B6, Q6⟩)
    · simp only [Ps.add, List.length_append, List.length_cons, List.length_nil]; omega
    · simp only [Ps.add, List.length_append, List.length_cons, List.length_nil]; have := O5.sps; omega
set_option maxRecDepth 100000 in
set_option maxHeartbeats 4000000 in
theorem ofOne_any (F : FuncId) (hE : ∀ (args : Array Value) (v : World), (callFunc F args).run Tryd.prog v = .ok (.enter F args) v) (op : Int) (r : Rs) (tk : Tok) (tl : List Tok) (o : Nat) (ho : o < 32) (ns : List Nd) (sp : List Int) (O : Okp w d g e0 b t ⟨tk :: tl, o, ns, sp⟩)
    (hI : Inv (.ok ⟨tl, o + 1, ns, sp⟩) r)
    (hF : ∀ u, Okp u d g e0 b t ⟨tl, o + 1, ns, sp⟩ → Calls Tryd.prog F #[.pointer (some ⟨d, 0, none⟩), .pointer (some ⟨t, 0, none⟩)] u (LevP u d g e0 b t r)) :
    Calls Tryd.prog 115 #[.pointer (some ⟨d, 0, none⟩), .pointer (some ⟨t, 0, none⟩), .int .i64 op, .func (.func F) #[.pointer (some ⟨d, 0, none⟩)] #[]] w (LevP w d g e0 b t (r.un op tk)) := by
  have D := O.de
  have T := O.tr
  have hbw := O.bw
  have hdb := O.db
  have hlen := O.len
  simp only [List.length_cons] at hlen
  have c1 := enter_ok w d g e0 o tk tl ho D
  simp only [tokA] at c1
  go_enter Tryd.func115, Tryd.ntmps115
  go_upto_region 1 with (first
    | (go_at_call 117; (with_reducible refine c1.mono ?_); rintro e u ⟨rfl, D2, K2⟩))
  have B3 := galloc (Below.refl u.heap.size u) (.cells (tokA tk) 79)
  have R3 := TokAt.new u tk
  have O3 : Okp (u.alloc (.cells (tokA tk) 79)) d g e0 b t ⟨tl, o + 1, ns, sp⟩ := ⟨D2.keep B3, (T.kd hdb K2).keep B3, hdb, by have := K2.size; have := B3.size; omega, by show o + 1 ≤ 32; omega, by show ns.length + tl.length ≤ 400; omega, O.sps⟩
  have L3 : Kl d b w (u.alloc (.cells (tokA tk) 79)) := (Kl.of D hbw K2).trans (Kl.bel (by have := K2.size; omega) B3)
  generalize hV : u.alloc (.cells (tokA tk) 79) = V at B3 R3 O3 L3
  rw [show u.alloc (.cells #[.int .i64 tk.k, .string tk.t, .int .i64 tk.n, .int .i64 tk.a] 79) = V from hV]
  clear hV
  have c3 := hF V O3
  generalize u.heap.size = bs at *
  clear c1 D2 K2 B3 hF
  cases r with
  | bad c x =>
    go_wp2_with ((with_reducible refine c3.mono ?_); rintro e u3 ⟨rfl, K3⟩)
    exact ⟨rfl, LevP.fail rfl (L3.trans K3)⟩
  | ok s =>
    obtain ⟨i1, i2, i3⟩ := hI _ s rfl rfl
    simp only at i1 i2 i3
    go_upto_region 2 with ((with_reducible refine c3.mono ?_); rintro e u2 ⟨rfl, O4, K4⟩)
    have c4 := leave_any u2 d g e0 s.o s.ts (by omega) (by omega) O4.de
    go_upto_region 3 with (go_at_call 118; (with_reducible refine c4.mono ?_); rintro e u3 ⟨rfl, D5, K5⟩)
    have R4 : TokAt u3 bs tk := by
      have R9 : TokAt u2 bs tk := (K4.kt bs _ _ R3).trans R3
      exact (KT.kd O4.de K5 bs _ _ R9).trans R9
    have L4 := (L3.trans K4).trans (Kl.of O4.de O4.bw K5)
    obtain ⟨r0, r1, r2, r3⟩ := R4.at
    have T4 := O4.tr.kd hdb K5
    have hl4 := O4.len
    have hb4 : b ≤ u3.heap.size := Nat.le_trans O4.bw K5.size
    have hsp4 := O4.sps
    clear c3 c4 L3 K4 K5 O4
    have y2 : ∀ z : Ext u3, Calls Tryd.prog 103 #[.pointer (some ⟨t, 0, none⟩)] z.X (fun e w'' => e = .returned (.int .i64 ((s.ns.length : Int) - 1)) ∧ ∃ m : Ext u3, w'' = m.X) := fun z => ext_of ((root_any z.X b t s.ns s.sp (T4.keep z.h) (by omega)).mono (fun e w' ⟨h1, h2⟩ => ⟨h1, h2 ▸ Below.refl _ _⟩))
    have p2 := fun z : Ext u3 => (z.cell _ _ R4.lt).trans r3
    have hne : Nonempty (Ext u3) := ⟨⟨_, Below.refl _ _⟩⟩
    refine wp_region_ext_tail 7 (by kernel_rfl) (by kernel_rfl) ?_
    simp only [List.take_succ_cons, List.take_zero, List.drop_succ_cons, List.drop_zero]
    repeat (go_big_quiet_step (first | (go_at_call 103; with_reducible exact y2 _)))
    refine wpQuiet_nil ?_
    intro _ hw'
    obtain ⟨nx2, hw''⟩ := hw'
    subst hw''
    have D6 := D5.keep nx2.h
    have T5 := T4.keep nx2.h
    have hb5 : b ≤ nx2.X.heap.size := Nat.le_trans hb4 nx2.h.size
    have L5 := L4.trans (Kl.bel hb4 nx2.h)
    have c5 := add_any nx2.X b t s.ns s.sp tk.a ⟨op, 0, eS, eS, (s.ns.length : Int) - 1, -1⟩ T5 hb5 (by omega) (by omega)
    simp only [ndA] at c5
    go_wp2_with (go_at_call 104; (with_reducible refine c5.mono ?_); rintro e u6 ⟨rfl, T6, B6, Q6⟩)
    go_end0
    refine LevP.good (s := { s with o := s.o - 1 }.add s.ts ⟨op, 0, eS, eS, (s.ns.length : Int) - 1, -1⟩ tk.a) rfl ⟨D6.low hdb B6, T6, hdb, Nat.le_trans hb5 B6.size, ?_, ?_, ?_⟩ (L5.trans ⟨Kd.lowB B6, Q6⟩)
    · show s.o - 1 ≤ 32; omega
    · simp only [Ps.add, List.length_append, List.length_cons, List.length_nil]; omega
    · simp only [Ps.add, List.length_append, List.length_cons, List.length_nil]; omega
set_option maxRecDepth 100000 in
set_option maxHeartbeats 4000000 in
theorem ofOne_deep (fv : Value) (op : Int) (tk : Tok) (tl : List Tok) (ns : List Nd) (sp : List Int) (O : Okp w d g e0 b t ⟨tk :: tl, 32, ns, sp⟩) :
    Calls Tryd.prog 115 #[.pointer (some ⟨d, 0, none⟩), .pointer (some ⟨t, 0, none⟩), .int .i64 op, fv] w (LevP w d g e0 b t (.bad 41 (tk :: tl))) := by
  have c1 := enter_deep w d g e0 _ O.de
  go_enter Tryd.func115, Tryd.ntmps115
  go_wp2_with (go_at_call 117; (with_reducible refine c1.mono ?_); rintro e u ⟨rfl, K2⟩)
  exact ⟨rfl, LevP.fail rfl (Kl.of O.de O.bw K2)⟩
set_option maxRecDepth 100000 in
set_option maxHeartbeats 4000000 in
theorem inBrackets_any (r : Rs) (tk : Tok) (tl : List Tok) (o : Nat) (ho : o < 32) (ns : List Nd) (sp : List Int) (O : Okp w d g e0 b t ⟨tk :: tl, o, ns, sp⟩)
    (hI : Inv (.ok ⟨tl, o + 1, ns, sp⟩) r)
    (hF : ∀ u, Okp u d g e0 b t ⟨tl, o + 1, ns, sp⟩ → Calls Tryd.prog 65 #[.pointer (some ⟨d, 0, none⟩), .pointer (some ⟨t, 0, none⟩)] u (LevP u d g e0 b t r)) :
    Calls Tryd.prog 123 #[.pointer (some ⟨d, 0, none⟩), .pointer (some ⟨t, 0, none⟩)] w (LevP w d g e0 b t r.shut) := by
  have D := O.de
  have T := O.tr
  have hbw := O.bw
  have hdb := O.db
  have hlen := O.len
  simp only [List.length_cons] at hlen
  have c1 := enter_ok w d g e0 o tk tl ho D
  go_enter Tryd.func123, Tryd.ntmps123
  go_upto_region 1 with (first
    | (go_at_call 117; (with_reducible refine c1.mono ?_); rintro e u ⟨rfl, D2, K2⟩))
  have O3 : Okp u d g e0 b t ⟨tl, o + 1, ns, sp⟩ := ⟨D2, T.kd hdb K2, hdb, by have := K2.size; omega, by show o + 1 ≤ 32; omega, by show ns.length + tl.length ≤ 400; omega, O.sps⟩
  have L3 : Kl d b w u := Kl.of D hbw K2
  have c3 := hF u O3
  clear c1 D2 K2 hF
  cases r with
  | bad c x =>
    go_wp2_with (go_at_call 65; (with_reducible refine c3.mono ?_); rintro e u3 ⟨rfl, K3⟩)
    exact ⟨rfl, LevP.fail rfl (L3.trans K3)⟩
  | ok s =>
    obtain ⟨i1, i2, i3⟩ := hI _ s rfl rfl
    simp only at i1 i2 i3
    go_upto_region 2 with (go_at_call 65; (with_reducible refine c3.mono ?_); rintro e u2 ⟨rfl, O4, K4⟩)
    have L4 := L3.trans K4
    have D4 := O4.de
    rcases wantC 4 (by decide) s.ts with ⟨h3, hb1⟩ | ⟨v3, t3, e3, hv3, h3⟩
    · have c4 := need_bad u2 d g e0 s.o 4 s.ts hb1 D4
      go_wp2_with (go_at_call 49; (with_reducible refine c4.mono ?_); rintro e u4 ⟨rfl, K5⟩)
      exact ⟨rfl, LevP.fail (by simp only [Rs.shut, h3]) (L4.trans (Kl.of O4.de O4.bw K5))⟩
    · rw [e3] at D4
      have c4 := need_ok u2 d g e0 s.o 4 v3 t3 hv3 D4
      go_upto_region 3 with (go_at_call 49; (with_reducible refine c4.mono ?_); rintro e u4 ⟨rfl, D5, K5⟩)
      have c6 := leave_any u4 d g e0 s.o t3 (by omega) (by omega) D5
      go_wp2_with (go_at_call 118; (with_reducible refine c6.mono ?_); rintro e u5 ⟨rfl, D6, K6⟩)
      go_end0
      have hl4 := O4.len
      rw [e3] at hl4
      simp only [List.length_cons] at hl4
      refine LevP.good (s := { s with ts := t3, o := s.o - 1 }) (by simp only [Rs.shut]; rw [e3, h3]) ⟨D6, (O4.tr.kd hdb K5).kd hdb K6, hdb, Nat.le_trans O4.bw (Nat.le_trans K5.size K6.size), ?_, ?_, O4.sps⟩ ((L4.trans (Kl.of O4.de O4.bw K5)).trans (Kl.of D5 (Nat.le_trans O4.bw K5.size) K6))
      · show s.o - 1 ≤ 32; omega
      · show s.ns.length + t3.length ≤ 400; omega
set_option maxRecDepth 100000 in
set_option maxHeartbeats 4000000 in
theorem inBrackets_deep (tk : Tok) (tl : List Tok) (ns : List Nd) (sp : List Int) (O : Okp w d g e0 b t ⟨tk :: tl, 32, ns, sp⟩) :
    Calls Tryd.prog 123 #[.pointer (some ⟨d, 0, none⟩), .pointer (some ⟨t, 0, none⟩)] w (LevP w d g e0 b t (.bad 41 (tk :: tl))) := by
  have c1 := enter_deep w d g e0 _ O.de
  go_enter Tryd.func123, Tryd.ntmps123
  go_wp2_with (go_at_call 117; (with_reducible refine c1.mono ?_); rintro e u ⟨rfl, K2⟩)
  exact ⟨rfl, LevP.fail rfl (Kl.of O.de O.bw K2)⟩
end

end Go.Proofs.YtmoimmghmmomlaaDoor
