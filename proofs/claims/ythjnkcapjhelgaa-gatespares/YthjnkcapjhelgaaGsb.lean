/- marked of the gate's statements: a row is written over by its number, and one more is laid behind it. -/
import Derived.Test.YthjnkcapjhelgaaGsa
import Derived.Test.YthjnkcapjhelgaaPfa
namespace Go.Proofs.Ythjnkcapjhelgaa
open Go.RowKit Go.BigFrame Go.Maps
set_option linter.unusedVariables false
set_option linter.unusedSimpArgs false

/-- The marks of the number m. -/
def mkL (m : Int) (k : Nat) : List Ev := (List.range k).map fun j : Nat => mkE m (j : Int)
theorem mkL_len (m : Int) (k : Nat) : (mkL m k).length = k := by simp [mkL]
theorem mkL_succ (m : Int) (k : Nat) : mkL m (k + 1) = mkL m k ++ [mkE m (k : Int)] := by simp [mkL, List.range_succ]
/-- The first i are written over. -/
def ovm (m : Int) (S : List Ev) : Nat → List Ev
  | 0 => S
  | i + 1 => (ovm m S i).set i (mkE m (i : Int))
theorem ovm_len (m : Int) (S : List Ev) : ∀ i, (ovm m S i).length = S.length
  | 0 => rfl
  | i + 1 => by unfold ovm; rw [List.length_set, ovm_len m S i]
theorem ovm_at (m : Int) (S : List Ev) (z : Ev) : ∀ {i j : Nat}, j < i → j < S.length → (ovm m S i).getD j z = mkE m (j : Int)
  | i + 1, j, h, hl => by
    unfold ovm
    rw [getD_set (by rw [ovm_len]; exact hl)]
    by_cases e : i = j
    · rw [if_pos e, e]
    · rw [if_neg e]; exact ovm_at m S z (by omega) hl
theorem ovm_end (m : Int) (S : List Ev) : ovm m S S.length = mkL m S.length := by
  refine List.ext_getElem (by rw [ovm_len, mkL_len]) fun j h1 h2 => ?_
  rw [ovm_len] at h1
  have h3 := ovm_at m S zeroE h1 h1
  rw [getD_of_lt _ j (by rw [ovm_len]; exact h1)] at h3
  rw [h3]
  simp [mkL]
/-- One more element: a new block, or the row's own. -/
theorem run_append_two {P : Program} {w : World} {TS T : TypeId} {ty : TypeId} {z : Value} {sz by_ : Nat} (hu : P.underlying TS = some (.slice T)) (nf : (P.info? T).map (fun i => (i.zero, i.size, i.bytes)) = some (some z, sz, by_)) (hzs : z.cells.size = sz) (hsz : 0 < sz)
    {v : Value} {base n : Nat} {xs : List Value} (O : w.ownsRow base T sz v n xs) (hb : base ≤ w.heap.size)
    (ad : Addr) (c : Nat) (ys : List Value) (hy : ys.length = sz) (A : ∀ j u, ys[j]? = some u → w.cell? (ad.add j) = some u) (h1 : ∀ u ∈ ys, u.oneCell' = true) (h63 : n + 1 ≤ 9223372036854775807) (hl : ((n + 1) + (n + 1) / 4 + 192) * by_ ≤ 281474976710656) :
    ∃ g cap w', (Builtin.append_ #[TS, TS] ty #[v, .slice (some ad) 1 c]).run P w = .ok (.slice (some ⟨g, 0, none⟩) (n + 1) cap) w' ∧ w'.ownsRow base T sz (.slice (some ⟨g, 0, none⟩) (n + 1) cap) (n + 1) (xs ++ ys) ∧ w.grownBy w' v.ownBlock ∧ (v.ownBlock = some g ∨ (g = w.heap.size ∧ Below w.heap.size w w')) := by
  obtain ⟨i, ti, tz0, tz1, tz2⟩ := nf_info nf
  have hm : n + 1 ≤ maxLen := by unfold maxLen; omega
  have hy1 : ys.length = 1 * sz := by omega
  obtain ⟨v', w', hr, h2, h3, h4⟩ := run_append_own_wide (P := P) w base TS ty T i z sz by_ hu ti tz0 tz1 tz2 hzs hsz v n xs O ad 1 c ys hy1 A h1 hm hl hb
  obtain ⟨g, cap, rfl, hbg, hlt⟩ := h2.form (by omega)
  refine ⟨g, cap, w', hr, h2, h3, ?_⟩
  rcases id O.2 with ⟨rfl, rfl⟩ | ⟨g0, cap0, cur, rfl, hbg0, hg0, hnc, hcm, hcs, htake⟩
  · right
    subst tz1
    have hr2 := run_append_nil (P := P) w TS ty T i z hu ti tz0 ad 1 c ys hy1 A (by omega) (by omega) (by subst tz2; omega)
    rw [hr2] at hr
    cases hr
    exact ⟨rfl, galloc (Below.refl w.heap.size w).drew _⟩
  · by_cases hroom : n + 1 ≤ cap0
    · left
      obtain ⟨w2, hr2, _, _⟩ := run_append_own_spare (P := P) w base TS ty T i sz hu ti tz1 g0 n cap0 xs O ad 1 c ys hy1 A h1 hroom
      rw [hr2] at hr
      cases hr
      rfl
    · right
      have hx := O.1
      subst tz1
      have hr2 := run_append_grow (P := P) w TS ty T i z hu ti tz0 ⟨g0, 0, none⟩ n cap0 xs hx (World.ownsRow.cells O (g := g0) rfl) ad 1 c ys hy1 A (by omega) (by omega) (growslice_fits_wide (by omega) (by rw [tz2]; exact hl))
      rw [hr2] at hr
      cases hr
      exact ⟨rfl, galloc (Below.refl w.heap.size w).drew _⟩
theorem wpL_two {P : Program} {w : World} {ops : Array Oper} {rest : List Oper} {o : Oper} {a : Act} {Q : Exit → Act → World → Prop} (hgd : o.guard = none) (s x : Operand) {TS T : TypeId} {z : Value} {sz by_ : Nat}
    (ho : o.op = .call { callee := .builtin .append, args := #[s, x], argTypes := #[TS, TS] }) (hu : P.underlying TS = some (.slice T)) (nf : (P.info? T).map (fun i => (i.zero, i.size, i.bytes)) = some (some z, sz, by_)) (hzs : z.cells.size = sz) (hsz : 0 < sz)
    (v : Value) (base n : Nat) (xs : List Value) (hs : a.eval s = v) (O : w.ownsRow base T sz v n xs) (hb : base ≤ w.heap.size)
    (ad : Addr) (c : Nat) (ys : List Value) (hx : a.eval x = .slice (some ad) 1 c) (hy : ys.length = sz) (A : ∀ j u, ys[j]? = some u → w.cell? (ad.add j) = some u) (h1 : ∀ u ∈ ys, u.oneCell' = true) (h63 : n + 1 ≤ 9223372036854775807) (hl : ((n + 1) + (n + 1) / 4 + 192) * by_ ≤ 281474976710656)
    (h : ∀ g cap w', w'.ownsRow base T sz (.slice (some ⟨g, 0, none⟩) (n + 1) cap) (n + 1) (xs ++ ys) → w.grownBy w' v.ownBlock → (v.ownBlock = some g ∨ (g = w.heap.size ∧ Below w.heap.size w w')) → wpList P ops Q rest (a.put o.dst (.slice (some ⟨g, 0, none⟩) (n + 1) cap)) w') : wpList P ops Q (o :: rest) a w := by
  refine wpList_plain hgd fun K hK => ?_
  obtain ⟨g, cap, w', hr, h2, h3, h4⟩ := run_append_two (P := P) (ty := o.type) hu nf hzs hsz O hb ad c ys hy A h1 h63 hl
  unfold Oper.wp
  simp [execOp, ho, resolve, invoke, builtin, hs, hx, hr, Result.andThen]
  exact hK _ _ (h _ _ _ h2 h3 h4)
theorem wpL_cv {P : Program} {w : World} {ops : Array Oper} {rest : List Oper} {o : Oper} {a : Act} {Q : Exit → Act → World → Prop} (hgd : o.guard = none) {T U : TypeId} (x : Operand) {v0 v : Value} (ho : o.op = .convert T U x) (h0 : a.eval x = v0) (hr : (convert T U v0).run P w = .ok v w)
    (h : wpList P ops Q rest (a.put o.dst v) w) : wpList P ops Q (o :: rest) a w := by
  refine wpList_plain hgd fun K hK => ?_
  unfold Oper.wp execOp
  simp only [ho, h0, Sem.run_bind, hr, Result.andThen_ok, Sem.run_pure]
  exact hK _ _ h
theorem cv_run {i : Nat} (hi : i ≤ 9000000000000000000) (w : World) : (convert 3 44 (.int .i64 (i : Int))).run Try.prog w = .ok (.int .u64 (i : Int)) w := by
  have hk : Try.prog.intKind 44 = .u64 := by kernel_rfl
  rw [run_convert_int w 3 44 .i64 (i : Int) (by kernel_rfl) (by kernel_rfl), hk, IntKind.wrap_u64, Int.emod_eq_of_lt (by omega) (by omega)]

end Go.Proofs.Ythjnkcapjhelgaa
