/- A gate and the document's are made; two pairs beside each other. -/
import Derived.Test.YtoehkpejdpejcabGrd
namespace Go.Proofs.Ytoehkpejdpejcab
open Go.RowKit Go.BigFrame Go.Maps
set_option linter.unusedVariables false
set_option linter.unusedSimpArgs false

theorem infoPr : (Try.prog.info? 26).map (·.size) = some 3 := by kernel_rfl
theorem pr_one (a b : Option Addr) (c : Int) : (#[.pointer a, .pointer b, .int .i64 c] : Array Value).all (·.oneCell') = true := by simp [Value.oneCell']
abbrev zPr : Array Value := #[.pointer none, .pointer none, .int .i64 0]
set_option maxRecDepth 100000 in
set_option maxHeartbeats 2000000 in
theorem made_no {cap : Int} (hc : cap < 1 ∨ 4096 < cap) (w : World) : Calls Try.prog 7 #[.int .i64 cap] w fun e w' => e = .returned (.tuple #[.agg #[.pointer none, .pointer none, .int .i64 cap], .bool true]) ∧ Below w.heap.size w w' := by
  have c1 := fun u : World => new_no hc u
  have c2 := fun u : World => refM_no hc u
  have B0 := galloc (Below.refl w.heap.size w) (.cells zPr 26)
  have b0 := Bk.new w zPr 26
  have hptr : ∀ (W : World), (binOp .eql 23 (.pointer none) (.pointer none)).run Try.prog W = .ok (.bool true) W := fun W => by kernel_rfl
  have hptr2 : ∀ (W : World), (binOp .eql 24 (.pointer none) (.pointer none)).run Try.prog W = .ok (.bool true) W := fun W => by kernel_rfl
  have sx := pr_one none none cap
  go_enter Try.func7, Try.ntmps7
  go_upto_region 1 with fail
  generalize w.alloc _ = V at *
  go_upto_region 5 with (first
    | (go_at_call 28; (with_reducible refine (c1 _).mono ?_); rintro e u1 ⟨rfl, g1⟩)
    | (go_at_call 29; (with_reducible refine (c2 _).mono ?_); rintro e u2 ⟨rfl, hu⟩; have hu' := hu.symm; subst hu'))
  have b1 := b0.keep g1
  have th := b1.there
  have b2 := b1.setCells (cs' := #[.pointer none, .pointer none, .int .i64 cap]) rfl
  have G2 := gsetCells (gtrans B0 g1) (b := w.heap.size) (Nat.le_refl _) (#[.pointer none, .pointer none, .int .i64 cap] : Array Value).toList 0
  generalize hX : u1.setCells w.heap.size 0 (#[.pointer none, .pointer none, .int .i64 cap] : Array Value).toList = X at *
  go_wp2_with (first
    | (refine wpList_store_mid rfl 26 _ _ rfl w.heap.size 0 #[.pointer none, .pointer none, .int .i64 cap] rfl rfl th infoPr sx ?_; rw [hX]))
  exact bodyPost_ret (results_row_tmp rfl _ _ w.heap.size 26 #[.pointer none, .pointer none, .int .i64 cap] (0, 0) _ rfl b2 Try.underlying26 rfl infoPr) rfl ⟨rfl, G2⟩
/-- What made makes. -/
structure MadeP (w : World) (cap : Int) (e : Ending) (w' : World) : Prop where
  ex : ∃ (g m : Nat) (S : Nat → Prop), e = .returned (.tuple #[.agg #[.pointer (some ⟨g, 0, none⟩), .pointer (some ⟨m, 0, none⟩), .int .i64 cap], .bool true]) ∧ Gat w' g S ⟨cap, -1152921504606846977, false, []⟩ 0 ∧ Mog w' m ⟨cap, -1152921504606846977, false, []⟩ ∧ (∀ k, S k → w.heap.size ≤ k) ∧ w.heap.size ≤ m ∧ Below w.heap.size w w'
set_option maxRecDepth 100000 in
set_option maxHeartbeats 2000000 in
theorem made_yes {cap : Int} (h1 : 1 ≤ cap) (h2 : cap ≤ 4096) (w : World) : Calls Try.prog 7 #[.int .i64 cap] w fun e w' => MadeP w cap e w' := by
  have c1 := fun u : World => new_yes h1 h2 u
  have c2 := fun u : World => refM_yes h1 h2 u
  have B0 := galloc (Below.refl w.heap.size w) (.cells zPr 26)
  have b0 := Bk.new w zPr 26
  have hptr : ∀ (b : Nat) (W : World), (binOp .eql 23 (.pointer (some ⟨b, 0, none⟩)) (.pointer none)).run Try.prog W = .ok (.bool false) W := fun b W => by kernel_rfl
  have hptr2 : ∀ (b : Nat) (W : World), (binOp .eql 24 (.pointer (some ⟨b, 0, none⟩)) (.pointer none)).run Try.prog W = .ok (.bool false) W := fun b W => by kernel_rfl
  go_enter Try.func7, Try.ntmps7
  go_upto_region 1 with fail
  generalize w.alloc _ = V at *
  go_upto_region 5 with (first
    | (go_at_call 28; (with_reducible refine (c1 _).mono ?_); rintro e u1 ⟨g, S, rfl, G1, _, Slo, g1⟩)
    | (go_at_call 29; (with_reducible refine (c2 _).mono ?_); rintro e u2 ⟨m, rfl, hm, M2, g2⟩))
  have sx := pr_one (some ⟨g, 0, none⟩) (some ⟨m, 0, none⟩) cap
  have B2 := gtrans (gtrans B0 g1) g2
  have b1 := (b0.keep g1).keep g2
  have th := b1.there
  have b2 := b1.setCells (cs' := #[.pointer (some ⟨g, 0, none⟩), .pointer (some ⟨m, 0, none⟩), .int .i64 cap]) rfl
  have G2 := gsetCells B2 (b := w.heap.size) (Nat.le_refl _) (#[.pointer (some ⟨g, 0, none⟩), .pointer (some ⟨m, 0, none⟩), .int .i64 cap] : Array Value).toList 0
  have nm : ∀ k, k ≠ w.heap.size → (u2.setCells w.heap.size 0 (#[.pointer (some ⟨g, 0, none⟩), .pointer (some ⟨m, 0, none⟩), .int .i64 cap] : Array Value).toList).heap[k]? = u2.heap[k]? := fun k hk => setCells_blk _ _ _ _ k hk
  have hsz := setCells_size w.heap.size (#[.pointer (some ⟨g, 0, none⟩), .pointer (some ⟨m, 0, none⟩), .int .i64 cap] : Array Value).toList 0 u2
  generalize hX : u2.setCells w.heap.size 0 (#[.pointer (some ⟨g, 0, none⟩), .pointer (some ⟨m, 0, none⟩), .int .i64 cap] : Array Value).toList = X at *
  have hVw : w.heap.size ≤ V.heap.size := B0.size
  have GX : Gat X g S ⟨cap, -1152921504606846977, false, []⟩ 0 := (G1.keep g2).same (by rw [hsz]; exact Nat.le_refl _) fun k e => nm k (fun e' => by subst e'; exact (G1.keep g2).far b1 (by decide) (by decide) (by decide) e)
  have MX : Mog X m ⟨cap, -1152921504606846977, false, []⟩ := M2.same fun k cs ty fr hk hc => nm k fun e => by
    subst e
    rw [show u2.heap[w.heap.size]? = _ from b1] at hk
    simp only [Option.some.injEq, Obj.cells.injEq] at hk
    rcases hc with h | h
    · exact absurd (hk.2.1.trans h) (by decide)
    · obtain ⟨c2, bm⟩ := M2.blk
      unfold Bk at bm
      rw [← h, show u2.heap[w.heap.size]? = _ from b1] at bm
      simp only [Option.some.injEq, Obj.cells.injEq] at bm
      exact absurd bm.2.1 (by decide)
  have HP : Hid (MadeP w cap (.returned (.tuple #[.agg #[.pointer (some ⟨g, 0, none⟩), .pointer (some ⟨m, 0, none⟩), .int .i64 cap], .bool true])) X) := ⟨g, m, S, rfl, GX, MX, fun k e => Nat.le_trans hVw (Slo k e), Nat.le_trans hVw (Nat.le_trans g1.size hm), G2⟩
  clear nm hsz GX MX
  go_wp2_with (first
    | (refine wpList_store_mid rfl 26 _ _ rfl w.heap.size 0 #[.pointer (some ⟨g, 0, none⟩), .pointer (some ⟨m, 0, none⟩), .int .i64 cap] rfl rfl th infoPr sx ?_; rw [hX]))
  refine bodyPost_ret (results_row_tmp (p := 2) (q := 3) rfl _ _ w.heap.size 26 #[.pointer (some ⟨g, 0, none⟩), .pointer (some ⟨m, 0, none⟩), .int .i64 cap] (0, 0) _ rfl b2 Try.underlying26 rfl infoPr) rfl ?_
  exact HP.out
/-- A pair, or none; K: its blocks. -/
def PO (N : Nat) (w : World) (pb : Nat) (cap : Int) (t : Nat) (K : Nat → Prop) : Prop :=
  (Bk w pb #[.pointer none, .pointer none, .int .i64 cap] 26 ∧ N ≤ pb ∧ K = fun k => k = pb) ∨ ∃ (g m : Nat) (S : Nat → Prop) (s : Gs), Pr N w pb g m S s t ∧ s.cap = cap ∧ K = fun k => S k ∨ k = m ∨ k = pb
theorem PO.lt {N : Nat} {w : World} {pb : Nat} {cap : Int} {t : Nat} {K : Nat → Prop} (P : PO N w pb cap t K) : ∀ k, K k → k < w.heap.size := by
  rcases P with ⟨b, _, rfl⟩ | ⟨g, m, S, s, P, _, rfl⟩
  · intro k e; rw [e]; exact b.lt
  · rintro k (e | e | e)
    · exact P.G.lt k e
    · rw [e]; exact P.M.lt
    · rw [e]; exact P.blk.lt
theorem PO.keep {N : Nat} {w u : World} {pb : Nat} {cap : Int} {t : Nat} {K : Nat → Prop} (P : PO N w pb cap t K) (B : Below w.heap.size w u) : PO N u pb cap t K := by
  rcases P with ⟨b, h, e⟩ | ⟨g, m, S, s, P, h, e⟩
  · exact .inl ⟨b.keep B, h, e⟩
  · exact .inr ⟨g, m, S, s, P.keep B, h, e⟩
theorem PO.mono {N : Nat} {w : World} {pb : Nat} {cap : Int} {t t' : Nat} {K : Nat → Prop} (P : PO N w pb cap t K) (h : t ≤ t') : PO N w pb cap t' K := by
  rcases P with ⟨b, h', e⟩ | ⟨g, m, S, s, P, h', e⟩
  · exact .inl ⟨b, h', e⟩
  · exact .inr ⟨g, m, S, s, P.mono h, h', e⟩
/-- While another pair goes on. -/
theorem PO.other {N : Nat} {w u : World} {pb pb' g m : Nat} {cap : Int} {t t' : Nat} {K : Nat → Prop} {S : Nat → Prop} {s : Gs} (P : PO N w pb cap t K) (Q : Pr N w pb' g m S s t') (F : Frm (fun k => S k ∨ k = m ∨ k = pb') w u) (d : ∀ k, K k → ¬ (S k ∨ k = m ∨ k = pb')) : PO N u pb cap t K := by
  have ev : ∀ (k : Nat) (cs : Array Value) (fr : Nat × Nat), w.heap[k]? = some (.cells cs 32 fr) → ¬ (S k ∨ k = m ∨ k = pb') := by
    rintro k cs fr hk (e | e | e)
    · exact Q.G.far hk (by decide) (by decide) (by decide) e
    · obtain ⟨c2, bm⟩ := Q.M.blk
      unfold Bk at bm
      rw [e, bm] at hk
      simp only [Option.some.injEq, Obj.cells.injEq] at hk
      exact absurd hk.2.1 (by decide)
    · rw [e, show w.heap[pb']? = _ from Q.blk] at hk
      simp only [Option.some.injEq, Obj.cells.injEq] at hk
      exact absurd hk.2.1 (by decide)
  rcases P with ⟨b, h, rfl⟩ | ⟨g2, m2, S2, s2, P, h, rfl⟩
  · exact .inl ⟨F.bk b (d pb rfl), h, rfl⟩
  · refine .inr ⟨g2, m2, S2, s2, ⟨F.bk P.blk (d pb (.inr (.inr rfl))), P.G.same F.size fun k e => F.blk k (P.G.lt k e) (d k (.inl e)), P.M.same fun k cs ty fr hk hc => F.blk k (lt_of_block hk) ?_, P.lo, P.lm, P.lp⟩, h, rfl⟩
    rcases hc with e | e
    · subst e; exact ev k cs fr hk
    · exact d k (.inr (.inl e))
/-- A pair has gone on beside another. -/
theorem PO.step {N : Nat} {w u : World} {pb pb' g m : Nat} {cap : Int} {t t' t2 : Nat} {L : Nat → Prop} {S : Nat → Prop} {s : Gs} (Q : PO N w pb' cap t2 L) (P : Pr N w pb g m S s t) (R : PrP N pb g m S s.cap t' w u) (d : ∀ k, L k → ¬ (S k ∨ k = m ∨ k = pb)) (hN : N ≤ w.heap.size) : PO N u pb' cap t2 L ∧ ∃ K, PO N u pb s.cap t' K ∧ (∀ k, L k → ¬ K k) ∧ ∀ {w0 : World}, Below N w0 w → N ≤ w0.heap.size → Below N w0 u := by
  obtain ⟨g', S', s', P', hc, F, V⟩ := R.ex
  refine ⟨Q.other P F d, fun k => S' k ∨ k = m ∨ k = pb, .inr ⟨g', m, S', s', P', hc, rfl⟩, ?_, fun B h0 => F.toBelow B h0 ?_⟩
  · rintro k e (h | h | h)
    · rcases V k h with h1 | h1
      · exact d k e (.inl h1)
      · have := Q.lt k e; omega
    · exact d k e (.inr (.inl h))
    · exact d k e (.inr (.inr h))
  · rintro j (e | e | e)
    · exact P.lo j e
    · rw [e]; exact P.lm
    · rw [e]; exact P.lp

end Go.Proofs.Ytoehkpejdpejcab
