/- An event is laid into a gate: hold, Push. -/
import Derived.Test.YthjnkcapjhelgaaGpc
namespace Go.Proofs.Ythjnkcapjhelgaa
open Go.RowKit Go.BigFrame Go.Maps
set_option linter.unusedVariables false
set_option linter.unusedSimpArgs false

/-- A gate has gone on to s'. -/
structure GStep (g : Nat) (S : Nat → Prop) (w w' : World) (s' : Gs) (t' : Nat) : Prop where
  ex : ∃ S', Gat w' g S' s' t' ∧ Frm S w w' ∧ ∀ k, S' k → S k ∨ w.heap.size ≤ k
theorem GStep.of {g : Nat} {S : Nat → Prop} {w w' : World} {s : Gs} {t : Nat} (G : Gat w g S s t) (B : Below w.heap.size w w') : GStep g S w w' s t := ⟨S, G.keep B, Frm.of B, fun k e => .inl e⟩
theorem GStep.first {g : Nat} {S : Nat → Prop} {w V w' : World} {s' : Gs} {t' : Nat} (B : Below w.heap.size w V) (h : GStep g S V w' s' t') : GStep g S w w' s' t' := by
  obtain ⟨S', h1, h2, h3⟩ := h
  exact ⟨S', h1, Frm.first B h2, fun k e => (h3 k e).imp id fun h => Nat.le_trans B.size h⟩
theorem GStep.below {g : Nat} {S : Nat → Prop} {w u w' : World} {s' : Gs} {t' : Nat} (h : GStep g S w u s' t') (B : Below u.heap.size u w') : GStep g S w w' s' t' := by
  obtain ⟨S', h1, h2, h3⟩ := h
  exact ⟨S', h1.keep B, h2.below B, h3⟩
theorem GStep.mono {g : Nat} {S : Nat → Prop} {w w' : World} {s' : Gs} {t t' : Nat} (h : GStep g S w w' s' t) (ht : t ≤ t') : GStep g S w w' s' t' := by
  obtain ⟨S', h1, h2, h3⟩ := h
  exact ⟨S', h1.mono ht, h2, h3⟩
theorem buildU (w : World) : (Instr.build 93 #[]).run Try.prog w = .ok (.agg #[]) w := by kernel_rfl
/-- Only the map's block has turned. -/
theorem turned_but {w w' : World} {b : Nat} (h : w.mapTurned w' b) : w'.os = w.os ∧ w'.tape = w.tape ∧ w'.output = w.output ∧ w'.heap.size = w.heap.size ∧ ∀ k, k ≠ b → w'.heap[k]? = w.heap[k]? := by
  obtain ⟨es, cl, es', cl', h1, rfl⟩ := h
  refine ⟨rfl, rfl, rfl, ?_, fun k hk => ?_⟩
  · simp [ChangeMaps.setBlock]
  · simp [ChangeMaps.setBlock, Array.getElem?_modify, Array.getElem?_setIfInBounds, Ne.symm hk]
theorem ins_fst' {β : Type} (lt : β → β → Bool) (x : β) (t : Nat) : ∀ L : List (β × Nat), (∀ y ∈ L, y.2 < t) → (ins (ahd lt) (x, t) L).map Prod.fst = ins lt x (L.map Prod.fst)
  | [], _ => rfl
  | y :: L, h => by
    have hy := h y List.mem_cons_self
    have e : ahd lt (x, t) y = lt x y.1 := by unfold ahd; rw [if_neg (show ¬ t < y.2 by omega)]
    rw [List.map_cons]
    unfold ins
    rw [e]
    by_cases hb : lt x y.1 = true
    · rw [if_pos hb, if_pos hb]; rfl
    · rw [if_neg hb, if_neg hb, List.map_cons, ins_fst' lt x t L (fun z hz => h z (List.mem_cons_of_mem _ hz))]
set_option maxRecDepth 100000 in
set_option maxHeartbeats 2000000 in
theorem hold_any (g tb : Nat) (S : Nat → Prop) (s : Gs) (x : Ev) (w : World) (GG : Gat w g S s tb) (hx : x.ok) (hok : Gs.ok { s with l := ins evLt x s.l }) (htb : tb + 1 ≤ 140737488351232) :
    Calls Try.prog 33 #[.pointer (some ⟨g, 0, none⟩), .agg (evC x)] w fun e w' => e = .returned (.tuple #[]) ∧ GStep g S w w' { s with l := ins evLt x s.l } (tb + 1) := by
  obtain ⟨hs, p, b, base, v, L, t, ht0, rfl, G⟩ := GG
  have ht : t + 1 ≤ 140737488351232 := by omega
  have hl := hs.len'
  have HO : Hid (Gs.ok { s with l := ins evLt x s.l }) := hok
  clear hok
  have hlen : L.length = s.l.length := by rw [← G.fst, List.length_map]
  have T0 : ∀ y ∈ L, y.2 < t := fun y hy => (G.pile.sorted.2 y hy).elim (fun e => by have := G.len; have := List.length_pos_of_mem hy; omega) id
  have B := galloc (Below.refl w.heap.size w) (.cells (evC x) 47)
  have b3 := Bk.new w (evC x) 47
  have GV := G.keep B
  have hfst := G.fst
  go_enter Try.func33, Try.ntmps33
  go_upto_region 1 with fail
  generalize w.alloc _ = V at *
  have hne0 : Nonempty (Ext V) := ⟨⟨_, Below.refl _ _⟩⟩
  have p0 := fun z : Ext V => (z.cell _ _ GV.blk.lt).trans GV.blk.at5.1
  refine wp_region_ext_tail 5 (by kernel_rfl) (by kernel_rfl) ?_
  simp only [List.take_succ_cons, List.take_zero, List.drop_succ_cons, List.drop_zero]
  repeat (first
    | (refine wpQuiet_load_mid rfl 47 _ rfl w.heap.size 0 rfl (evC x) _ (fun X hX => by obtain ⟨nx, rfl⟩ := hX; exact rangeAt_keep b3.range nx.h) Try.underlying47 rfl infoEv _ rfl ?_; simp only [Act.put, List.setIfInBounds_toArray, List.set_cons_succ, List.set_cons_zero])
    | go_big_quiet_step (fail))
  refine wpQuiet_nil ?_
  intro _ hw'
  obtain ⟨n1, hw''⟩ := hw'
  subst hw''
  have G1 := GV.keep n1.h
  have b4 := b3.keep n1.h
  clear p0 hne0
  have c1 := evPush p base t v L x n1.X G1.pile (by omega) G1.bs (by omega) (fun e => by subst e; exact List.length_eq_zero_iff.1 (by have := G.len; omega))
  go_wp2_with (first
    | (go_at_call 44; (with_reducible refine c1.mono ?_); rintro e u ⟨rfl, v2, P2, Q2, V2⟩))
  have hgp : ¬ (g = p) := fun e => by
    have h1 := G1.blk
    have h2 := G1.pile.blk
    unfold Bk at h1 h2
    rw [e, h2] at h1
    simp only [Option.some.injEq, Obj.cells.injEq] at h1
    exact absurd h1.2.1 (by decide)
  have hgr : v.ownBlock ≠ some g := fun e => by
    obtain ⟨xs, R⟩ := G1.pile.row
    have h1 := G1.blk
    unfold Bk at h1
    rcases R.2 with ⟨rfl, _⟩ | ⟨g1, c1, cur1, rfl, _, hh1, _⟩
    · simp [Value.ownBlock] at e
    · have : g1 = g := by simpa [Value.ownBlock] using e
      subst this
      rw [hh1] at h1
      simp only [Option.some.injEq, Obj.cells.injEq] at h1
      exact absurd h1.2.1 (by decide)
  have hbp : b ≠ p := fun e => G1.names.notCells (by rw [e]; exact G1.pile.blk)
  have hbr : v.ownBlock ≠ some b := fun e => by
    obtain ⟨xs, R⟩ := G1.pile.row
    rcases R.2 with ⟨rfl, _⟩ | ⟨g1, c1, cur1, rfl, _, hh1, _⟩
    · simp [Value.ownBlock] at e
    · have : g1 = b := by simpa [Value.ownBlock] using e
      subst this
      exact G1.names.notCells hh1
  have hbg : b ≠ g := fun e => G1.names.notCells (by rw [e]; exact G1.blk)
  have gB : Bk u g (gtC p b s) 76 := Q2.bk G1.blk hgp hgr
  have MU : MpN u b t s.l := G1.names.of_block (Q2.blk b G1.names.lt hbp hbr)
  have b5 : Bk u w.heap.size (evC x) 47 := Q2.loc G1.pile b4 (by decide) (by decide)
  obtain ⟨D, hD1, hD2⟩ := MU.ex
  obtain ⟨kl, hk⟩ := key_nm hx.nm
  have hne0 : Nonempty (Ext u) := ⟨⟨_, Below.refl _ _⟩⟩
  have p1 := fun z : Ext u => (z.cell _ _ gB.lt).trans gB.at5.2.1
  have c2 : ∀ z : Ext u, Calls Try.prog 31 #[.agg (evC x)] z.X (fun e w'' => e = .returned (.agg #[.int .i64 x.ts, .int .u64 x.id]) ∧ ∃ m : Ext u, w'' = m.X) := fun z => ext_of (evName_any x z.X)
  have hbu := fun W : World => buildU W
  refine wp_region_ext_tail 7 (by kernel_rfl) (by kernel_rfl) ?_
  simp only [List.take_succ_cons, List.take_zero, List.drop_succ_cons, List.drop_zero]
  repeat (first
    | (refine wpQuiet_load_mid rfl 47 _ rfl w.heap.size 0 rfl (evC x) _ (fun X hX => by obtain ⟨nx, rfl⟩ := hX; exact rangeAt_keep b5.range nx.h) Try.underlying47 rfl infoEv _ rfl ?_; simp only [Act.put, List.setIfInBounds_toArray, List.set_cons_succ, List.set_cons_zero])
    | go_big_quiet_step (first | (go_at_call 31; with_reducible exact c2 _)))
  refine wpQuiet_nil ?_
  intro _ hw'
  obtain ⟨n2, hw''⟩ := hw'
  subst hw''
  have hD3 : n2.X.ownsMap Try.prog 80 unitElem b t D := by
    obtain ⟨es, clock, hb, r⟩ := hD1
    exact ⟨es, clock, (n2.h.block b MU.lt).trans hb, r⟩
  clear p1 c2 hne0
  go_wp2_with (at_mapUpdate; refine wpList_mapUpdate_in _ rfl _ _ _ 74 rfl 80 93 lawNm Try.underlying74 unitElem b t D rfl hD3 (by unfold maxLen; omega) _ _ kl rfl rfl hk (.agg []) [] unitElem_mk ?_; intro w1 hown1 hturn1)
  obtain ⟨a1, a2, a3, a4, a5⟩ := turned_but hturn1
  refine bodyPost_end (results_none rfl _ _ _) rfl ?_
  have hfs : (ins (ahd evLt) (x, t) L).map Prod.fst = ins evLt x s.l := by rw [ins_fst' evLt x t L T0, hfst]
  have gB2 := gB.keep n2.h
  have P3 := P2.keep n2.h
  have hu2 : ∀ k, k < w.heap.size → ¬ foot g p b v k → w1.heap[k]? = w.heap[k]? := fun k h1 h2 => by
    have hk1 : k < V.heap.size := Nat.lt_of_lt_of_le h1 B.size
    have hk2 : k < n1.X.heap.size := Nat.lt_of_lt_of_le hk1 n1.h.size
    have hk3 : k < u.heap.size := Nat.lt_of_lt_of_le hk2 Q2.size
    rw [a5 k (fun e => h2 (.inr (.inr (.inl e)))), n2.h.block k hk3, Q2.blk k hk2 (fun e => h2 (.inr (.inl e))) (fun e => h2 (.inr (.inr (.inr e)))), n1.h.block k hk1, B.block k h1]
  have hzz : w.heap.size ≤ w1.heap.size := by rw [a4]; exact Nat.le_trans B.size (Nat.le_trans n1.h.size (Nat.le_trans Q2.size n2.h.size))
  refine ⟨rfl, foot g p b v2, ⟨HO, p, b, base, v2, ins (ahd evLt) (x, t) L, t + 1, by omega, rfl, (a5 g hbg.symm).trans gB2, P3.same (a5 p hbp.symm) (fun k e => a5 k fun e' => ?_), ?_, hfs, by rw [ins_len]; have := G.len; omega, Nat.le_trans G.bs hzz⟩, ⟨?_, ?_, ?_, hzz, hu2⟩, fun k e => ?_⟩
  · subst e'
    rcases V2 k e with h1 | h1
    · exact hbr h1
    · have := G1.names.lt; omega
  · exact (MpN.put hD3 hD2 x kl hk hown1).congr (Nat.le_refl _) (fun ts id => (hasN_perm (ins_perm x s.l) ts id).symm)
  · rw [a1, n2.h.os, Q2.os, n1.h.os, B.os]
  · rw [a2, n2.h.tape, Q2.tape, n1.h.tape, B.tape]
  · rw [a3, n2.h.output, Q2.output, n1.h.output, B.output]
  · rcases e with e | e | e | e
    · exact .inl (.inl e)
    · exact .inl (.inr (.inl e))
    · exact .inl (.inr (.inr (.inl e)))
    · rcases V2 k e with h1 | h1
      · exact .inl (.inr (.inr (.inr h1)))
      · exact .inr (Nat.le_trans B.size (Nat.le_trans n1.h.size h1))

end Go.Proofs.Ythjnkcapjhelgaa
