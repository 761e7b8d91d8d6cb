/- A gate and the document's, side by side in memory; Restore of what a gate tells. -/
import Derived.Test.YtjfbbfmnghccdaaGrb
import Derived.Deep.RegionHeld3
namespace Go.Proofs.Ytjfbbfmnghccdaa
open Go.RowKit Go.BigFrame Go.Maps
set_option linter.unusedVariables false
set_option linter.unusedSimpArgs false

/-- A pair: a gate and the document's that hold the same. -/
structure Pr (N : Nat) (w : World) (pb g m : Nat) (S : Nat → Prop) (s : Gs) (t : Nat) : Prop where
  blk : Bk w pb #[.pointer (some ⟨g, 0, none⟩), .pointer (some ⟨m, 0, none⟩), .int .i64 s.cap] 87
  G : Gat w g S s t
  M : Mog w m s
  lo : ∀ k, S k → N ≤ k
  lm : N ≤ m
  lp : N ≤ pb
theorem Pr.keep {N : Nat} {w u : World} {pb g m : Nat} {S : Nat → Prop} {s : Gs} {t : Nat} (P : Pr N w pb g m S s t) (B : Below w.heap.size w u) : Pr N u pb g m S s t := ⟨P.blk.keep B, P.G.keep B, P.M.keep B, P.lo, P.lm, P.lp⟩
theorem Pr.mono {N : Nat} {w : World} {pb g m : Nat} {S : Nat → Prop} {s : Gs} {t t' : Nat} (P : Pr N w pb g m S s t) (h : t ≤ t') : Pr N w pb g m S s t' := ⟨P.blk, P.G.mono h, P.M, P.lo, P.lm, P.lp⟩
/-- The gate has gone on, the document's has not yet. -/
theorem Pr.gate {N : Nat} {w u : World} {pb g m : Nat} {S : Nat → Prop} {s s' : Gs} {t t' : Nat} (P : Pr N w pb g m S s t) (Q : GStep g S w u s' t') (hN : N ≤ w.heap.size) : ∃ S', Gat u g S' s' t' ∧ Mog u m s ∧ Bk u pb #[.pointer (some ⟨g, 0, none⟩), .pointer (some ⟨m, 0, none⟩), .int .i64 s.cap] 87 ∧ Frm S w u ∧ (∀ k, S' k → S k ∨ w.heap.size ≤ k) ∧ ∀ k, S' k → N ≤ k := by
  obtain ⟨S', G', F, V⟩ := Q.ex
  exact ⟨S', G', P.M.frm P.G F, F.loc P.G P.blk (by decide) (by decide) (by decide), F, V, fun k e => (V k e).elim (P.lo k) fun h => Nat.le_trans hN h⟩
/-- What a step of a pair leaves. -/
structure PrP (N : Nat) (pb g m : Nat) (S : Nat → Prop) (cap : Int) (t : Nat) (w u : World) : Prop where
  ex : ∃ (g' : Nat) (S' : Nat → Prop) (s' : Gs), Pr N u pb g' m S' s' t ∧ s'.cap = cap ∧ Frm (fun k => S k ∨ k = m ∨ k = pb) w u ∧ ∀ k, S' k → S k ∨ w.heap.size ≤ k
theorem PrP.of {N : Nat} {pb g m : Nat} {S : Nat → Prop} {s : Gs} {t : Nat} {w u : World} (P : Pr N w pb g m S s t) (B : Below w.heap.size w u) : PrP N pb g m S s.cap t w u := ⟨g, S, s, P.keep B, rfl, Frm.of B, fun k e => .inl e⟩
theorem PrP.first {N : Nat} {pb g m : Nat} {S : Nat → Prop} {cap : Int} {t : Nat} {w V u : World} (B : Below w.heap.size w V) (P : PrP N pb g m S cap t V u) : PrP N pb g m S cap t w u := by
  obtain ⟨g', S', s', h1, h2, h3, h4⟩ := P.ex
  exact ⟨g', S', s', h1, h2, Frm.first B h3, fun k e => (h4 k e).imp id fun h => Nat.le_trans B.size h⟩
theorem PrP.below {N : Nat} {pb g m : Nat} {S : Nat → Prop} {cap : Int} {t : Nat} {w u x : World} (P : PrP N pb g m S cap t w u) (B : Below u.heap.size u x) : PrP N pb g m S cap t w x := by
  obtain ⟨g', S', s', h1, h2, h3, h4⟩ := P.ex
  exact ⟨g', S', s', h1.keep B, h2, h3.below B, h4⟩
theorem PrP.mono {N : Nat} {pb g m : Nat} {S : Nat → Prop} {cap : Int} {t t' : Nat} {w u : World} (P : PrP N pb g m S cap t w u) (h : t ≤ t') : PrP N pb g m S cap t' w u := by
  obtain ⟨g', S', s', h1, h2, h3, h4⟩ := P.ex
  exact ⟨g', S', s', h1.mono h, h2, h3, h4⟩
/-- Both have gone on. -/
theorem PrP.both {N : Nat} {w u x : World} {pb g m : Nat} {S S' : Nat → Prop} {s s' : Gs} {t t' : Nat} (P : Pr N w pb g m S s t) (hN : N ≤ w.heap.size) (G' : Gat u g S' s' t') (M0 : Mog u m s) (b' : Bk u pb #[.pointer (some ⟨g, 0, none⟩), .pointer (some ⟨m, 0, none⟩), .int .i64 s.cap] 87) (F : Frm S w u) (V : ∀ k, S' k → S k ∨ w.heap.size ≤ k) (lo' : ∀ k, S' k → N ≤ k) (M' : Mog x m s') (FM : Frm (fun k => k = m) u x) (hcap : s'.cap = s.cap) : PrP N pb g m S s.cap t' w x := by
  have hbm : pb ≠ m := fun e => by
    obtain ⟨cs, bm⟩ := M0.blk
    unfold Bk at bm b'
    rw [e, bm] at b'
    simp only [Option.some.injEq, Obj.cells.injEq] at b'
    exact absurd b'.2.1 (by decide)
  refine ⟨g, S', s', ⟨?_, G'.frmM M0 FM, M', lo', P.lm, P.lp⟩, hcap, ?_, V⟩
  · rw [hcap]; exact FM.bk b' hbm
  · refine (F.mono fun j e => .inl e).trans (S' := fun k => k = m) FM fun j e => .inl (.inr (.inl e))
theorem rst_self {s : Gs} (hs : s.ok) : rstC s.cap s.mark s.cl s.l = 0 := by
  unfold rstC
  rw [if_neg (by have := hs.c1; have := hs.c2; omega), if_neg, if_neg]
  · rintro (h | h)
    · have := hs.len; omega
    · exact h ⟨hs.hi, hs.ris⟩
  · intro h
    have h1 : standB s.mark s.cl = true := by
      unfold standB safeB
      have m0 := hs.m0
      have m1 := hs.m1
      by_cases hc : s.cl = true
      · rw [if_pos hc]; exact decide_eq_true (hs.shut hc)
      · rw [if_neg hc]
        by_cases he : s.mark = -1152921504606846977
        · rw [decide_eq_true he]; rfl
        · rw [decide_eq_true (show -1152921504606846976 ≤ s.mark ∧ s.mark ≤ 1152921504606846976 by omega), Bool.or_true]
    rw [h1] at h
    cases h
set_option maxRecDepth 100000 in
set_option maxHeartbeats 4000000 in
theorem restored_any (N pb g m t : Nat) (S : Nat → Prop) (s : Gs) (w : World) (P : Pr N w pb g m S s t) (hN : N ≤ w.heap.size) (ht : 4096 ≤ t) :
    Calls Try.prog 72 #[.pointer (some ⟨pb, 0, none⟩)] w fun e w' => e = .returned (.bool true) ∧ PrP N pb g m S s.cap t w w' := by
  have Gd := (Below.refl w.heap.size w).drew
  have PD := P.keep Gd
  have hll := P.G.1.len'
  have cm := mark_any g t S s w.drew PD.G
  have cc := closed_any g t S s w.drew PD.G
  have ch := held_any g t S s w.drew PD.G
  obtain ⟨z0, z1, z2⟩ := PD.blk.at3
  have hS0 : w.drew.cell? ⟨pb, 0, none⟩ = some (.pointer (some ⟨g, 0, none⟩)) ∧ w.drew.cell? ⟨pb, 2, none⟩ = some (.int .i64 s.cap) := ⟨z0, z2⟩
  have hSn : ∀ Y, Below w.drew.heap.size w.drew Y → Y.cell? ⟨pb, 0, none⟩ = some (.pointer (some ⟨g, 0, none⟩)) ∧ Y.cell? ⟨pb, 2, none⟩ = some (.int .i64 s.cap) := fun Y G => ⟨(PD.blk.keep G).at3.1, (PD.blk.keep G).at3.2.2⟩
  have hptr : ∀ (b : Nat) (W : World), (binOp .eql 53 (.pointer (some ⟨b, 0, none⟩)) (.pointer none)).run Try.prog W = .ok (.bool false) W := fun b W => by kernel_rfl
  have hrs : ∀ (Y : World) (z : Nat), Below w.drew.heap.size w.drew Y → Y.ownsRow w.drew.heap.size 29 11 (.slice (some ⟨z, 0, none⟩) s.l.length s.l.length) s.l.length (fl evC s.l) → Calls Try.prog 33 #[.int .i64 s.cap, .int .i64 s.mark, .bool s.cl, .slice (some ⟨z, 0, none⟩) s.l.length s.l.length] Y fun e w' => ∃ g' S', e = .returned (.tuple #[.pointer (some ⟨g', 0, none⟩), .int .i64 0]) ∧ Gat w' g' S' s s.l.length ∧ (∀ k, S' k → Y.heap.size ≤ k) ∧ Below Y.heap.size Y w' := fun Y z G O => (restore_any s.cap s.mark s.cl (some ⟨z, 0, none⟩) s.l.length s.l Y (own_flat O) (by omega) P.G.1.evs).mono fun e w' h => by
    obtain ⟨g', S', h1, h2, h3, h4⟩ := h.yes (rst_self P.G.1)
    exact ⟨g', S', h1, h2, h4, h.below⟩
  go_enter Try.func72, Try.ntmps72
  go_upto_region 1 with fail
  go_region_held3 (fun Y : World => Y.cell? ⟨pb, 0, none⟩ = some (.pointer (some ⟨g, 0, none⟩)) ∧ Y.cell? ⟨pb, 2, none⟩ = some (.int .i64 s.cap)) (first | (with_reducible exact hS0) | (with_reducible exact hS1) | (with_reducible exact hS2) | go_keep) (first
    | (go_at_call 66; (with_reducible refine cm.mono ?_); rintro _ v1 ⟨rfl, rfl⟩)
    | (go_at_call 67; (with_reducible refine cc.mono ?_); rintro _ v3 ⟨rfl, rfl⟩)
    | (go_at_call 34; (with_reducible refine ch.mono ?_); rintro _ v7 ⟨z7, rfl, O7, g7⟩; have hS1 := hSn _ g7; have cr := hrs v7 z7 g7 O7)
    | (go_at_call 33; (with_reducible refine cr.mono ?_); rintro _ v8 ⟨g', S', rfl, G8, lo8, g8⟩; have hS2 := hSn _ (gtrans g7 g8); have B8 := gtrans (gtrans Gd g7) g8; have b8 := P.blk.keep B8; have f8 := b8.free 0; have d8 := b8.at3.1))
  all_goals
    have hz8 : w.heap.size ≤ v7.heap.size := (gtrans Gd g7).size
    have M8 := P.M.keep B8
    have SP : PrP N pb g m S s.cap t w (v8.setCell ⟨pb, 0, none⟩ (.pointer (some ⟨g', 0, none⟩))) := by
      have hbm : ∀ (k : Nat) (cs : Array Value) (ty : TypeId) (fr : Nat × Nat), v8.heap[k]? = some (.cells cs ty fr) → (ty = 29 ∨ k = m) → k ≠ pb := fun k cs ty fr hk hc e => by
        subst e
        rw [show v8.heap[k]? = _ from b8] at hk
        simp only [Option.some.injEq, Obj.cells.injEq] at hk
        rcases hc with h | h
        · exact absurd (hk.2.1.trans h) (by decide)
        · subst h
          obtain ⟨cs2, bm⟩ := M8.blk
          unfold Bk at bm
          rw [show v8.heap[k]? = _ from b8] at bm
          simp only [Option.some.injEq, Obj.cells.injEq] at bm
          exact absurd bm.2.1 (by decide)
      refine ⟨g', S', s, ⟨b8.set 0 _, (G8.setB b8 (by decide) (by decide) (by decide) 0 _).mono (by omega), M8.same fun k cs ty fr hk hc => Below.heap_setCell _ _ _ k (hbm k cs ty fr hk hc), fun k e => Nat.le_trans hN (Nat.le_trans hz8 (lo8 k e)), P.lm, P.lp⟩, rfl, ⟨B8.os, B8.tape, B8.output, by simpa using B8.size, fun k hk hn => ?_⟩, fun k e => .inr (Nat.le_trans hz8 (lo8 k e))⟩
      rw [Below.heap_setCell _ _ _ k (fun e => hn (.inr (.inr e))), B8.block k hk]
    go_wp2
    go_ret
    exact ⟨rfl, SP⟩

end Go.Proofs.Ytjfbbfmnghccdaa
