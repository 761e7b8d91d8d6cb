/- A gate and the document's are made; two pairs beside each other. -/
import Derived.Test.YtjfbbfmnghccdaaGrd
namespace Go.Proofs.Ytjfbbfmnghccdaa
open Go.RowKit Go.BigFrame Go.Maps
set_option linter.unusedVariables false
set_option linter.unusedSimpArgs false

theorem infoPr : (Try.prog.info? 87).map (·.size) = some 3 := by kernel_rfl
theorem pr_one (a b : Option Addr) (c : Int) : (#[.pointer a, .pointer b, .int .i64 c] : Array Value).all (·.oneCell') = true := by simp [Value.oneCell']
abbrev zPr : Array Value := #[.pointer none, .pointer none, .int .i64 0]
/-- What made makes. -/
structure MadeP (w : World) (cap : Int) (e : Ending) (w' : World) : Prop where
  ex : ∃ (g m : Nat) (S : Nat → Prop), e = .returned (.tuple #[.agg #[.pointer (some ⟨g, 0, none⟩), .pointer (some ⟨m, 0, none⟩), .int .i64 cap], .bool true]) ∧ Gat w' g S ⟨cap, -1152921504606846977, false, []⟩ 0 ∧ Mog w' m ⟨cap, -1152921504606846977, false, []⟩ ∧ (∀ k, S k → w.heap.size ≤ k) ∧ w.heap.size ≤ m ∧ Below w.heap.size w w'
/-- A pair, or none; K: its blocks. -/
def PO (N : Nat) (w : World) (pb : Nat) (cap : Int) (t : Nat) (K : Nat → Prop) : Prop :=
  (Bk w pb #[.pointer none, .pointer none, .int .i64 cap] 87 ∧ N ≤ pb ∧ K = fun k => k = pb) ∨ ∃ (g m : Nat) (S : Nat → Prop) (s : Gs), Pr N w pb g m S s t ∧ s.cap = cap ∧ K = fun k => S k ∨ k = m ∨ k = pb
theorem PO.lt {N : Nat} {w : World} {pb : Nat} {cap : Int} {t : Nat} {K : Nat → Prop} (P : PO N w pb cap t K) : ∀ k, K k → k < w.heap.size := by
  rcases P with ⟨b, _, rfl⟩ | ⟨g, m, S, s, P, _, rfl⟩
  · intro k e; rw [e]; exact b.lt
  · rintro k (e | e | e)
    · exact P.G.lt k e
    · rw [e]; exact P.M.lt
    · rw [e]; exact P.blk.lt
theorem PO.keep {N : Nat} {w u : World} {pb : Nat} {cap : Int} {t : Nat} {K : Nat → Prop} (P : PO N w pb cap t K) (B : Below w.heap.size w u) : PO N u pb cap t K := by
  rcases P with ⟨b, h, e⟩ | ⟨g, m, S, s, P, h, e⟩
  · exact .inl ⟨b.keep B, h, e⟩
  · exact .inr ⟨g, m, S, s, P.keep B, h, e⟩
theorem PO.mono {N : Nat} {w : World} {pb : Nat} {cap : Int} {t t' : Nat} {K : Nat → Prop} (P : PO N w pb cap t K) (h : t ≤ t') : PO N w pb cap t' K := by
  rcases P with ⟨b, h', e⟩ | ⟨g, m, S, s, P, h', e⟩
  · exact .inl ⟨b, h', e⟩
  · exact .inr ⟨g, m, S, s, P.mono h, h', e⟩
/-- While another pair goes on. -/
theorem PO.other {N : Nat} {w u : World} {pb pb' g m : Nat} {cap : Int} {t t' : Nat} {K : Nat → Prop} {S : Nat → Prop} {s : Gs} (P : PO N w pb cap t K) (Q : Pr N w pb' g m S s t') (F : Frm (fun k => S k ∨ k = m ∨ k = pb') w u) (d : ∀ k, K k → ¬ (S k ∨ k = m ∨ k = pb')) : PO N u pb cap t K := by
  have ev : ∀ (k : Nat) (cs : Array Value) (fr : Nat × Nat), w.heap[k]? = some (.cells cs 29 fr) → ¬ (S k ∨ k = m ∨ k = pb') := by
    rintro k cs fr hk (e | e | e)
    · exact Q.G.far hk (by decide) (by decide) (by decide) e
    · obtain ⟨c2, bm⟩ := Q.M.blk
      unfold Bk at bm
      rw [e, bm] at hk
      simp only [Option.some.injEq, Obj.cells.injEq] at hk
      exact absurd hk.2.1 (by decide)
    · rw [e, show w.heap[pb']? = _ from Q.blk] at hk
      simp only [Option.some.injEq, Obj.cells.injEq] at hk
      exact absurd hk.2.1 (by decide)
  rcases P with ⟨b, h, rfl⟩ | ⟨g2, m2, S2, s2, P, h, rfl⟩
  · exact .inl ⟨F.bk b (d pb rfl), h, rfl⟩
  · refine .inr ⟨g2, m2, S2, s2, ⟨F.bk P.blk (d pb (.inr (.inr rfl))), P.G.same F.size fun k e => F.blk k (P.G.lt k e) (d k (.inl e)), P.M.same fun k cs ty fr hk hc => F.blk k (lt_of_block hk) ?_, P.lo, P.lm, P.lp⟩, h, rfl⟩
    rcases hc with e | e
    · subst e; exact ev k cs fr hk
    · exact d k (.inr (.inl e))
/-- A pair has gone on beside another. -/
theorem PO.step {N : Nat} {w u : World} {pb pb' g m : Nat} {cap : Int} {t t' t2 : Nat} {L : Nat → Prop} {S : Nat → Prop} {s : Gs} (Q : PO N w pb' cap t2 L) (P : Pr N w pb g m S s t) (R : PrP N pb g m S s.cap t' w u) (d : ∀ k, L k → ¬ (S k ∨ k = m ∨ k = pb)) (hN : N ≤ w.heap.size) : PO N u pb' cap t2 L ∧ ∃ K, PO N u pb s.cap t' K ∧ (∀ k, L k → ¬ K k) ∧ ∀ {w0 : World}, Below N w0 w → N ≤ w0.heap.size → Below N w0 u := by
  obtain ⟨g', S', s', P', hc, F, V⟩ := R.ex
  refine ⟨Q.other P F d, fun k => S' k ∨ k = m ∨ k = pb, .inr ⟨g', m, S', s', P', hc, rfl⟩, ?_, fun B h0 => F.toBelow B h0 ?_⟩
  · rintro k e (h | h | h)
    · rcases V k h with h1 | h1
      · exact d k e (.inl h1)
      · have := Q.lt k e; omega
    · exact d k e (.inr (.inl h))
    · exact d k e (.inr (.inr h))
  · rintro j (e | e | e)
    · exact P.lo j e
    · rw [e]; exact P.lm
    · rw [e]; exact P.lp

end Go.Proofs.Ytjfbbfmnghccdaa
