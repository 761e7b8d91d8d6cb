/- What leaves a gate: reach. -/
import Derived.Test.YthjnkcapjhelgaaGpe
import Derived.Test.YthjnkcapjhelgaaHpk
namespace Go.Proofs.Ythjnkcapjhelgaa
open Go.RowKit Go.BigFrame Go.Maps
set_option linter.unusedVariables false
set_option linter.unusedSimpArgs false

abbrev zAg : Array Value := #[.int .i64 0, .int .u64 0, .int .i64 0, .int .i64 0, .int .i64 0, .int .i64 0, .int .i64 0, .int .i64 0, .int .i64 0, .int .i64 0, .int .i64 0]
theorem GatI.apart {w : World} {g p b base : Nat} {v : Value} {L : List (Ev × Nat)} {t : Nat} {s : Gs} (G : GatI w g p b base v L t s) : g ≠ p ∧ v.ownBlock ≠ some g ∧ b ≠ p ∧ v.ownBlock ≠ some b ∧ b ≠ g := by
  refine ⟨fun e => ?_, fun e => ?_, fun e => G.names.notCells (by rw [e]; exact G.pile.blk), fun e => ?_, fun e => G.names.notCells (by rw [e]; exact G.blk)⟩
  · have h1 := G.blk
    have h2 := G.pile.blk
    unfold Bk at h1 h2
    rw [e, h2] at h1
    simp only [Option.some.injEq, Obj.cells.injEq] at h1
    exact absurd h1.2.1 (by decide)
  · obtain ⟨xs, R⟩ := G.pile.row
    have h1 := G.blk
    unfold Bk at h1
    rcases R.2 with ⟨rfl, _⟩ | ⟨g1, c1, cur1, rfl, _, hh1, _⟩
    · simp [Value.ownBlock] at e
    · have : g1 = g := by simpa [Value.ownBlock] using e
      subst this
      rw [hh1] at h1
      simp only [Option.some.injEq, Obj.cells.injEq] at h1
      exact absurd h1.2.1 (by decide)
  · obtain ⟨xs, R⟩ := G.pile.row
    rcases R.2 with ⟨rfl, _⟩ | ⟨g1, c1, cur1, rfl, _, hh1, _⟩
    · simp [Value.ownBlock] at e
    · have : g1 = b := by simpa [Value.ownBlock] using e
      subst this
      exact G.names.notCells hh1
/-- The gate's own cells are written. -/
theorem GatI.setG {w : World} {g p b base : Nat} {v : Value} {L : List (Ev × Nat)} {t : Nat} {s s' : Gs} (G : GatI w g p b base v L t s) (o : Nat) (u : Value) (h : (gtC p b s).setIfInBounds o u = gtC p b s') (hl : s'.l = s.l) : GatI (w.setCell ⟨g, o, none⟩ u) g p b base v L t s' := by
  obtain ⟨a1, a2, a3, a4, a5⟩ := G.apart
  have hb : ∀ k, k ≠ g → (w.setCell ⟨g, o, none⟩ u).heap[k]? = w.heap[k]? := fun k hk => by
    show (w.heap.modify g _)[k]? = _
    rw [Array.getElem?_modify, if_neg (fun e => hk e.symm)]
  refine ⟨by rw [← h]; exact G.blk.set o u, G.pile.same (hb p a1.symm) (fun k e => hb k (fun e' => a2 (by rw [← e']; exact e))), ?_, by rw [hl]; exact G.fst, G.len, by simpa using G.bs⟩
  rw [hl]
  exact G.names.of_block (hb b a5)
theorem Frm.setG {S : Nat → Prop} {w : World} {g : Nat} (hg : S g) (o : Nat) (u : Value) : Frm S w (w.setCell ⟨g, o, none⟩ u) :=
  ⟨rfl, rfl, rfl, by simp, fun k hk hn => by
    show (w.heap.modify g _)[k]? = _
    rw [Array.getElem?_modify, if_neg (fun e => hn (by rw [← e]; exact hg))]⟩
/-- A row of one's own is met by no gate's block. -/
theorem own_type {w : World} {base : Nat} {e : TypeId} {size : Nat} {v : Value} {n : Nat} {xs : List Value} (h : w.ownsRow base e size v n xs) {k : Nat} (hk : v.ownBlock = some k) : ∃ cs, w.heap[k]? = some (.cells cs e (0, 0)) := by
  rcases h.2 with ⟨rfl, _⟩ | ⟨g1, c1, cur1, rfl, _, hh1, _⟩
  · simp [Value.ownBlock] at hk
  · have : g1 = k := by simpa [Value.ownBlock] using hk
    subst this
    exact ⟨_, hh1⟩
theorem GatI.setNew {w : World} {g p b base : Nat} {v : Value} {L : List (Ev × Nat)} {t : Nat} {s : Gs} (G : GatI w g p b base v L t s) {N : Nat} (hN : ¬ foot g p b v N) (o : Nat) (vs : List Value) : GatI (w.setCells N o vs) g p b base v L t s :=
  G.same (by rw [setCells_size]; exact Nat.le_refl _) fun k e => setCells_blk N vs o w k fun e' => hN (by rw [← e']; exact e)
theorem Frm.setNew {S : Nat → Prop} {w u : World} (F : Frm S w u) {N : Nat} (hN : w.heap.size ≤ N) (o : Nat) (vs : List Value) : Frm S w (u.setCells N o vs) := by
  obtain ⟨e1, e2, e3⟩ := setCells_os N vs o u
  exact ⟨e1.trans F.os, e2.trans F.tape, e3.trans F.output, by rw [setCells_size]; exact F.size, fun k h1 h2 => (setCells_blk N vs o u k (by omega)).trans (F.blk k h1 h2)⟩
/-- At the head of reach's loop. -/
structure Rch (w : World) (g p b base : Nat) (v : Value) (L : List (Ev × Nat)) (t : Nat) (s : Gs) (m : Int) (vo vx vb : Value) (wr : World) : Prop where
  ex : ∃ (k bx cap : Nat) (ao : Option Addr) (v' : Value), k ≤ s.l.length ∧ (∀ e ∈ s.l.take k, e.ts ≤ m) ∧ vo = .slice ao k cap ∧ vx = .pointer (some ⟨bx, 0, none⟩) ∧ vb = .bool (decide (k < s.l.length)) ∧ w.heap.size ≤ bx ∧ Bk wr bx (evC (s.l.getD k zrEv)) 47 ∧ wr.ownsRow w.heap.size 47 11 (.slice ao k cap) k (fl evC (s.l.take k)) ∧ (Value.slice ao k cap).ownBlock ≠ some bx ∧ GatI wr g p b base v' (L.drop k) t { s with mark := m, l := s.l.drop k } ∧ Frm (foot g p b v) w wr ∧ ∀ k, foot g p b v' k → foot g p b v k ∨ w.heap.size ≤ k
/-- What reach leaves. -/
structure RchP (w : World) (g p b base : Nat) (v : Value) (t : Nat) (s : Gs) (m : Int) (vo : Value) (wr : World) : Prop where
  ex : ∃ (v' : Value) (L' : List (Ev × Nat)), wr.ownsRow w.heap.size 47 11 vo (s.l.takeWhile (atM m)).length (fl evC (s.l.takeWhile (atM m))) ∧ GatI wr g p b base v' L' t { s with mark := m, l := s.l.dropWhile (atM m) } ∧ Frm (foot g p b v) w wr ∧ ∀ k, foot g p b v' k → foot g p b v k ∨ w.heap.size ≤ k
theorem take_while {m : Int} : ∀ {l : List Ev} {k : Nat}, k ≤ l.length → (∀ e ∈ l.take k, e.ts ≤ m) → (k < l.length → m < (l.getD k zrEv).ts) → l.take k = l.takeWhile (atM m) ∧ l.drop k = l.dropWhile (atM m)
  | [], k, hk, _, _ => by simp at hk; subst hk; exact ⟨rfl, rfl⟩
  | y :: l, 0, hk, _, h => by
    have := h (by simp)
    have hy : ¬ atM m y = true := fun e => by have := of_decide_eq_true e; simp at *; omega
    rw [List.takeWhile_cons, List.dropWhile_cons, if_neg hy, if_neg hy]
    exact ⟨rfl, rfl⟩
  | y :: l, k + 1, hk, h1, h2 => by
    have hy : atM m y = true := decide_eq_true (h1 y (by simp))
    obtain ⟨a1, a2⟩ := take_while (m := m) (l := l) (k := k) (by simpa using hk) (fun e he => h1 e (by simp [he])) (fun hl => by simpa using h2 (by simpa using hl))
    rw [List.takeWhile_cons, List.dropWhile_cons, if_pos hy, if_pos hy, ← a1, ← a2]
    exact ⟨rfl, rfl⟩
theorem head_fst {L : List (Ev × Nat)} {l : List Ev} (h : L.map Prod.fst = l) (k : Nat) : (L.getD k (zrEv, 0)).1 = l.getD k zrEv := by
  subst h
  simp only [List.getD_eq_getElem?_getD, List.getElem?_map]
  cases L[k]? <;> rfl
set_option maxRecDepth 100000 in
set_option maxHeartbeats 8000000 in
theorem reach_any (g p b base t : Nat) (v : Value) (L : List (Ev × Nat)) (s : Gs) (m : Int) (w : World) (G : GatI w g p b base v L t s) (hl : s.l.length ≤ 4096) (hris : s.l.Pairwise fun a b => evLt a b = true) (hevs : ∀ e ∈ s.l, e.ok) :
    Calls Try.prog 48 #[.pointer (some ⟨g, 0, none⟩), .int .i64 m] w fun e w' => ∃ vo, e = .returned vo ∧ RchP w g p b base v t s m vo w' := by
  have G1 := G.setG (s' := { s with mark := m }) 3 (.int .i64 m) rfl rfl
  have F1 : Frm (foot g p b v) w (w.setCell ⟨g, 3, none⟩ (.int .i64 m)) := Frm.setG (.inl rfl) 3 _
  have q3 : w.cell? ⟨g, 3, none⟩ = some (.int .i64 s.mark) := G.blk.at5.2.2.2.1
  have f3 := G.blk.free 3
  have hz1 : (w.setCell ⟨g, 3, none⟩ (.int .i64 m)).heap.size = w.heap.size := by simp
  have hlenL : L.length = s.l.length := by rw [← G.fst, List.length_map]
  have hfst := G.fst
  generalize hW1 : w.setCell ⟨g, 3, none⟩ (.int .i64 m) = W1 at *
  have c0 := evPeekA p base t v L W1 G1.pile
  have hx0 := head_fst hfst 0
  rw [show (L.headD (zrEv, 0)) = L.getD 0 (zrEv, 0) by cases L <;> rfl, hx0, hlenL] at c0
  unfold evTopV at c0
  obtain ⟨x0, hx0'⟩ : ∃ x0, s.l.getD 0 zrEv = x0 := ⟨_, rfl⟩
  obtain ⟨b0, hb0⟩ : ∃ b0, decide (0 < s.l.length) = b0 := ⟨_, rfl⟩
  rw [hx0', hb0] at c0
  have s0 := ev_one1 x0
  have d0 := G1.blk.at5.1
  have HHX : Hid (s.l.getD 0 zrEv = x0) := hx0'
  have HHB : Hid (decide (0 < s.l.length) = b0) := hb0
  clear hx0' hb0 hx0
  go_enter Try.func48, Try.ntmps48
  go_upto_region 4 with (first
    | (go_at_call 53; (with_reducible refine c0.mono ?_); rintro e u ⟨rfl, g1⟩; have bz := Bk.new u zAg 47; have th := bz.there; have b4 := bz.setCells (cs' := evC x0) rfl; have G4 := gsetCells (galloc (Below.refl u.heap.size u) (.cells zAg 47)) (Nat.le_refl _) (evC x0).toList 0; generalize hX : (u.alloc (.cells zAg 47)).setCells u.heap.size 0 (evC x0).toList = X at *)
    | (refine wpList_store_mid rfl 47 _ _ rfl u.heap.size 0 (evC x0) rfl rfl th infoEv s0 ?_; rw [hX]))
  have hux : w.heap.size ≤ u.heap.size := by have := g1.size; omega
  have GX := (G1.keep g1).keep G4
  have FX : Frm (foot g p b v) w X := (F1.below g1).below G4
  go_loopw [5, 6, 7] (fun vo vx vb wr => Rch w g p b base v L t s m vo vx vb wr) (fun vo _ _ _ => s.l.length - slLen vo)
  case atStart =>
    refine ⟨0, u.heap.size, 0, none, v, Nat.zero_le _, fun e he => by simp at he, rfl, rfl, by rw [show decide (0 < s.l.length) = b0 from HHB], hux, by rw [show s.l.getD 0 zrEv = x0 from HHX]; exact b4, World.ownsRow_nil _ _ _ _, by simp [Value.ownBlock], by simpa using GX, FX, fun k e => .inl e⟩
  case round =>
    obtain ⟨k, bx, cap, ao, v', hk, hkm, rfl, rfl, rfl, hbx, b5, O5, hob, G5, F5, V5⟩ := hrel
    clear c0 G1 F1 q3 f3 d0 bz th b4 G4 GX FX hX hW1 g1 s0
    obtain ⟨x, hx⟩ : ∃ x, s.l.getD k zrEv = x := ⟨_, rfl⟩
    rw [hx] at b5
    have HX : Hid (s.l.getD k zrEv = x) := hx
    have dts : wr.cell? ⟨bx, 0, none⟩ = some (.int .i64 x.ts) := cell_of_row wr _ 0 _ _ _ b5
    by_cases hlt : k < s.l.length
    · have d1 : decide (k < s.l.length) = true := by simp [hlt]
      rw [d1]
      by_cases hm : x.ts ≤ m
      · have d5 := G5.blk.at5.1
        obtain ⟨a1, a2, a3, a4, a5⟩ := G5.apart
        have c1 := evPopA p base t v' (L.drop k) wr G5.pile (by rw [List.length_drop]; omega)
        rw [drop_headD, drop_lt, List.tail_drop, head_fst hfst k, hx, hlenL, d1] at c1
        unfold evTopV at c1
        have hxm : x ∈ s.l := by rw [← hx, getD_of_lt s.l k hlt]; exact List.getElem_mem hlt
        have hdr : s.l.drop k = x :: s.l.drop (k + 1) := by rw [List.drop_eq_getElem_cons hlt, ← hx, getD_of_lt s.l k hlt]
        have hno : hasN (s.l.drop (k + 1)) x.ts x.id = false := by
          cases hq : hasN (s.l.drop (k + 1)) x.ts x.id with
          | false => rfl
          | true =>
            obtain ⟨z, hz, hz1, hz2⟩ := hasN_true.1 hq
            have hp := hris.sublist (List.drop_sublist k s.l)
            rw [hdr] at hp
            have := (evLt_iff _ _).1 ((List.pairwise_cons.1 hp).1 z hz)
            omega
        have HL : Hid (k < s.l.length) := hlt
        have HD : Hid (s.l.drop k = x :: s.l.drop (k + 1)) := hdr
        have xok := hevs x hxm
        clear hx d1 hlt hdr hxm hux hz1
        go_upto_region 6 with fail
        go_upto_region 7 with (first
          | (go_at_call 52; (with_reducible refine c1.mono ?_); rintro e u1 ⟨rfl, v2, P2, Q2, V2⟩))
        have gB2 := Q2.bk G5.blk a1 a2
        have M2 := G5.names.of_block (Q2.blk b G5.names.lt a3 a4)
        have b6 : Bk u1 bx (evC x) 47 := Q2.loc G5.pile b5 (by decide) (by decide)
        have O6 := Q2.own G5.pile O5 (by decide) (by decide)
        obtain ⟨D, hD1, hD2⟩ := M2.ex
        have hdr : s.l.drop k = x :: s.l.drop (k + 1) := HD
        rw [show ({ s with mark := m, l := s.l.drop k } : Gs).l = x :: s.l.drop (k + 1) from hdr] at hD2
        clear hdr
        obtain ⟨kl, hkl⟩ := key_nm xok.nm
        have hne0 : Nonempty (Ext u1) := ⟨⟨_, Below.refl _ _⟩⟩
        have p1 := fun z : Ext u1 => (z.cell _ _ gB2.lt).trans gB2.at5.2.1
        have c2 : ∀ z : Ext u1, Calls Try.prog 31 #[.agg (evC x)] z.X (fun e w'' => e = .returned (.agg #[.int .i64 x.ts, .int .u64 x.id]) ∧ ∃ m : Ext u1, w'' = m.X) := fun z => ext_of (evName_any x z.X)
        refine wp_region_ext_tail 6 (by kernel_rfl) (by kernel_rfl) ?_
        simp only [List.take_succ_cons, List.take_zero, List.drop_succ_cons, List.drop_zero]
        repeat (first
          | (refine wpQuiet_load_mid rfl 47 _ rfl bx 0 rfl (evC x) _ (fun X hX => by obtain ⟨nx, rfl⟩ := hX; exact rangeAt_keep b6.range nx.h) Try.underlying47 rfl infoEv _ rfl ?_; simp only [Act.put, List.setIfInBounds_toArray, List.set_cons_succ, List.set_cons_zero])
          | go_big_quiet_step (first | (go_at_call 31; with_reducible exact c2 _)))
        refine wpQuiet_nil ?_
        intro _ hw'
        obtain ⟨n2, hw''⟩ := hw'
        subst hw''
        have hD3 : n2.X.ownsMap Try.prog 80 unitElem b t D := by
          obtain ⟨es, clock, hb, r⟩ := hD1
          exact ⟨es, clock, (n2.h.block b M2.lt).trans hb, r⟩
        clear p1 c2 hne0 c1
        go_upto_region 8 with (at_delete; refine wpList_delete_own _ rfl _ _ 74 80 rfl 93 lawNm Try.underlying74 unitElem b t D rfl hD3 _ _ rfl hkl ?_; intro w3 hown3 hturn3)
        have M3 : MpN w3 b t (s.l.drop (k + 1)) := MpN.del hD2 kl hkl hno hown3
        obtain ⟨t1, t2, t3, t4, t5⟩ := turned_but hturn3
        have hlt : k < s.l.length := HL
        have nbx : bx ≠ b := fun e => M2.notCells (by rw [← e]; exact b6)
        have b7 : Bk w3 bx (evC x) 47 := (t5 bx nbx).trans (b6.keep n2.h)
        have O7 : w3.ownsRow w.heap.size 47 11 (.slice ao k cap) k (fl evC (s.l.take k)) := own_of_block (own_keep O6 n2.h) fun j cur _ hh => t5 j fun e => (M2.keep n2.h).notCells (by rw [← e]; exact hh)
        have rowb : v2.ownBlock ≠ some b := fun e => a4 (V2 b e)
        have G3 : GatI w3 g p b base v2 (L.drop (k + 1)) t { s with mark := m, l := s.l.drop (k + 1) } :=
          ⟨(t5 g a5.symm).trans (gB2.keep n2.h), (P2.keep n2.h).same (t5 p a3.symm) (fun j e => t5 j fun e' => rowb (by rw [← e']; exact e)), M3, by rw [List.map_drop, hfst], by rw [List.length_drop]; have := G5.len; rw [List.length_drop] at this; omega, by rw [t4]; exact Nat.le_trans G5.bs (Nat.le_trans Q2.size n2.h.size)⟩
        have F3 : Frm (foot g p b v) w w3 := by
          refine F5.trans (S' := foot g p b v') ⟨by rw [t1, n2.h.os, Q2.os], by rw [t2, n2.h.tape, Q2.tape], by rw [t3, n2.h.output, Q2.output], by rw [t4]; exact Nat.le_trans Q2.size n2.h.size, fun j h1 h2 => ?_⟩ V5
          rw [t5 j (fun e => h2 (.inr (.inr (.inl e)))), n2.h.block j (Nat.lt_of_lt_of_le h1 Q2.size), Q2.blk j h1 (fun e => h2 (.inr (.inl e))) (fun e => h2 (.inr (.inr (.inr e))))]
        have V3 : ∀ j, foot g p b v2 j → foot g p b v j ∨ w.heap.size ≤ j := fun j e => V5 j (by
          rcases e with e | e | e | e
          · exact .inl e
          · exact .inr (.inl e)
          · exact .inr (.inr (.inl e))
          · exact .inr (.inr (.inr (V2 j e))))
        have hws := F3.size
        clear hown3 hturn3 hD1 hD2 hD3 M2 M3 P2 Q2 gB2 b6 O6 O5 b5 G5 F5 V5 V2 t1 t2 t3 t4 t5 dts d5 a1 a2 a3 a4 a5 rowb nbx hno xok hlt
        have rx := b7.range
        have sx := ev_one1 x
        have hbs := evBuildE x w3
        have bn := Bk.new w3 (evC x) 47
        have hnews := World.news_of_block bn
        have hA := galloc (Below.refl w3.heap.size w3) (.cells (evC x) 47)
        have OA := O7.alloc (.cells (evC x) 47)
        have bA := b7.keep hA
        have GA := G3.keep hA
        have FA := F3.below hA
        generalize hWA : w3.alloc (.cells (evC x) 47) = WA at *
        have hwa : w.heap.size ≤ WA.heap.size := FA.size
        clear bn hWA
        go_upto_region 9 with (first
          | (refine wpList_load_mid rfl 47 _ rfl bx 0 rfl (evC x).toList _ rx Try.underlying47 rfl infoEv ?_; refine wpList_build1 rfl (.tmp 47) rfl rfl hbs ?_; refine wpList_append_one rfl (.tmp 46) (.tmp 48) rfl Try.underlying39 nfEv rfl (by decide) (.slice ao k cap) w.heap.size k _ rfl OA hwa ⟨w3.heap.size, 0, none⟩ 1 (evC x).toList rfl rfl hnews (ev_ones1 x) (by omega) (by omega) ?_; intro g8 cap8 w8 O8 Q8 L8))
        have hlt : k < s.l.length := HL
        have hfar : ∀ j, foot g p b v2 j → some j ≠ (Value.slice ao k cap).ownBlock := fun j e e' => by
          obtain ⟨cs, hc⟩ := own_type OA e'.symm
          exact GA.far hc (by decide) (by decide) (by decide) e
        have G9 := GA.same Q8.size (fun j e => Q8.block j (GA.lt j e) (hfar j e))
        have F9 : Frm (foot g p b v) w w8 := by
          refine FA.trans (S' := fun j => (Value.slice ao k cap).ownBlock = some j) ⟨Q8.os, Q8.tape, Q8.output, Q8.size, fun j h1 h2 => Q8.block j h1 (fun e => h2 e.symm)⟩ fun j e => .inr ?_
          exact (World.ownsRow.lt O7 j e).1
        have b8 : Bk w8 bx (evC x) 47 := (Q8.block bx bA.lt (fun e => hob e.symm)).trans bA
        have hg8 : g8 < w8.heap.size := (World.ownsRow.lt O8 g8 (by simp [Value.ownBlock])).2
        have hw8 : w.heap.size ≤ w8.heap.size := F9.size
        have r8 := b8.range
        have bz := Bk.new w8 zAg 47
        have th := bz.there
        have b9 := bz.setCells (cs' := evC x) rfl
        have B9 := gsetCells (galloc (Below.refl w8.heap.size w8) (.cells zAg 47)) (Nat.le_refl _) (evC x).toList 0
        generalize hX3 : (w8.alloc (.cells zAg 47)).setCells w8.heap.size 0 (evC x).toList = X3 at *
        have GX := G9.keep B9
        have dX := GX.blk.at5.1
        have c9 := evPeekA p base t v2 (L.drop (k + 1)) X3 GX.pile
        rw [drop_headD, drop_lt, head_fst hfst (k + 1), hlenL] at c9
        obtain ⟨y, hy⟩ : ∃ y, s.l.getD (k + 1) zrEv = y := ⟨_, rfl⟩
        obtain ⟨bb, hbb⟩ : ∃ bb, decide (k + 1 < s.l.length) = bb := ⟨_, rfl⟩
        rw [hy, hbb] at c9
        unfold evTopV at c9
        have HY : Hid (s.l.getD (k + 1) zrEv = y) := hy
        have HBB : Hid (decide (k + 1 < s.l.length) = bb) := hbb
        have sy := ev_one1 y
        clear hy hbb hlt hfar rx hbs hnews
        go_wp2_with (first
          | (refine wpList_load_mid rfl 47 _ rfl bx 0 rfl (evC x).toList _ r8 Try.underlying47 rfl infoEv ?_)
          | (refine wpList_store_mid rfl 47 _ _ rfl w8.heap.size 0 (evC x) rfl rfl th infoEv sx ?_; rw [hX3])
          | (go_at_call 53; (with_reducible refine c9.mono ?_); rintro e u9 ⟨rfl, g9⟩; have b10 := b9.keep g9; have th9 := b10.there; have b11 := b10.setCells (cs' := evC y) rfl; generalize hX4 : u9.setCells w8.heap.size 0 (evC y).toList = X4 at *)
          | (refine wpList_store_mid rfl 47 _ _ rfl w8.heap.size 0 (evC y) rfl rfl th9 infoEv sy ?_; rw [hX4]))
        go_roundw
        case rel =>
          have hlt : k < s.l.length := HL
          have hx : s.l.getD k zrEv = x := HX
          have hy : s.l.getD (k + 1) zrEv = y := HY
          have B11 := gtrans B9 g9
          have nf : ¬ foot g p b v2 w8.heap.size := fun e => by have := G9.lt _ e; omega
          refine ⟨k + 1, w8.heap.size, cap8, some ⟨g8, 0, none⟩, v2, by omega, fun e he => ?_, rfl, rfl, by rw [show decide (k + 1 < s.l.length) = bb from HBB], hw8, by rw [hy]; exact b11, ?_, own_ne _ _ hg8, ?_, ?_, V3⟩
          · rw [take_snoc s.l zrEv k hlt, hx] at he
            rcases List.mem_append.1 he with h | h
            · exact hkm e h
            · rw [List.mem_singleton.1 h]; exact hm
          · rw [← hX4]
            have O10 : w8.ownsRow w.heap.size 47 11 (.slice (some ⟨g8, 0, none⟩) (k + 1) cap8) (k + 1) (fl evC (s.l.take (k + 1))) := by
              rw [take_snoc s.l zrEv k hlt, hx, fl_app]
              simpa [fl] using O8
            refine own_same (own_keep O10 B11) fun j e => ?_
            obtain rfl : g8 = j := by simpa [Value.ownBlock] using e
            exact setCells_blk _ _ _ _ _ (by omega)
          · rw [← hX4]
            exact (GX.keep g9).setNew nf _ _
          · rw [← hX4]
            exact (F9.below B11).setNew hw8 _ _
        case measure => have hlt : k < s.l.length := HL; simp [slLen]; omega
      · have hm' : decide (x.ts ≤ m) = false := decide_eq_false hm
        obtain ⟨e1, e2⟩ := take_while (m := m) hk hkm (fun _ => by rw [hx]; omega)
        have HP : Hid (RchP w g p b base v t s m (.slice ao k cap) wr) := ⟨v', L.drop k, by rw [← e1, List.length_take, Nat.min_eq_left hk]; exact O5, by rw [← e2]; exact G5, F5, V5⟩
        clear hx d1 O5 e1 e2 HX
        go_wp2
        go_ret
        exact ⟨_, rfl, HP⟩
    · have d1 : decide (k < s.l.length) = false := by simp; omega
      rw [d1]
      obtain ⟨e1, e2⟩ := take_while (m := m) hk hkm (fun h => absurd h hlt)
      have HP : Hid (RchP w g p b base v t s m (.slice ao k cap) wr) := ⟨v', L.drop k, by rw [← e1, List.length_take, Nat.min_eq_left hk]; exact O5, by rw [← e2]; exact G5, F5, V5⟩
      clear hx d1 O5 e1 e2 HX hlt
      go_wp2
      go_ret
      exact ⟨_, rfl, HP⟩

end Go.Proofs.Ythjnkcapjhelgaa
