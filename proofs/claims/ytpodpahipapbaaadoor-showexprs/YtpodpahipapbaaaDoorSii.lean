/- What a well shaped tree's nodes are; the tokens of one can be written. -/
import Derived.Test.YtpodpahipapbaaaDoorSif
import Derived.Test.YtpodpahipapbaaaDoorShc
import Derived.Test.YtpodpahipapbaaaDoorJo
namespace Go.Proofs.YtpodpahipapbaaaDoor
open Go.RowKit Go.BigFrame Go.Shelf Go.Proofs.YtpodpahipapbaaaDoor.Ev
set_option linter.unusedVariables false
set_option linter.unusedSimpArgs false

/-- A token that can be written, and is short. -/
def TokS (t : Tok) : Prop := okN t ∧ t.t.size ≤ 16 ∧ (t.k = 1 → nameB t.t = true)
def AllS (p : Pce) : Prop := ∀ t ∈ p.ts, TokS t
theorem allS_fix (ks : List Int) (h : ∀ k ∈ ks, k ≠ 1) : AllS (fixP ks) := by
  intro t ht
  obtain ⟨k, hk, rfl⟩ := List.mem_map.1 (show t ∈ ks.map tkK from ht)
  exact ⟨⟨by show (-9223372036854775808 : Int) ≤ 0; decide, by show (0 : Int) ≤ 9223372036854775807; decide⟩, by show (0 : Nat) ≤ 16; decide, fun e => absurd e (h k hk)⟩
theorem allS3 {a b c : Pce} (h1 : AllS a) (h2 : AllS b) (h3 : AllS c) : AllS (glueP [a, b, c]) := by
  intro t ht
  rw [(glue3 a b c).1, List.mem_append, List.mem_append] at ht
  rcases ht with (h | h) | h
  · exact h1 t h
  · exact h2 t h
  · exact h3 t h
theorem allS2 {a b : Pce} (h1 : AllS a) (h2 : AllS b) : AllS (openP [a, b]) := by
  intro t ht
  replace ht : t ∈ (glueP [a, b]).ts := ht
  rw [(glue2 a b).1, List.mem_append] at ht
  rcases ht with h | h
  · exact h1 t h
  · exact h2 t h
theorem nameB_size {s : ByteArray} (h : nameB s = true) : s.size ≤ 16 := by
  unfold nameB at h
  have := of_decide_eq_true h
  omega
theorem allS_nm {s : ByteArray} (h : nameB s = true) : AllS (nmP s) := by
  intro t ht
  have ht' : t = ⟨1, s, 0, 0⟩ := by simpa [nmP] using ht
  subst ht'
  exact ⟨⟨by show (-9223372036854775808 : Int) ≤ 0; decide, by show (0 : Int) ≤ 9223372036854775807; decide⟩, nameB_size h, fun _ => h⟩
theorem allS_lf {n : Nd} (hf : n.fit) (h : leafN n = true) : AllS (lfP n) := by
  have hx := (leafN_iff n).1 h
  have hat : (n.op = 4 ∨ (6 ≤ n.op ∧ n.op ≤ 11)) → AllS (atP n) := fun ho => by
    have : nameB n.v = true ∧ nameB n.x = true := by
      rcases hx.2.2 with h | h | h | h
      · omega
      · omega
      · omega
      · exact ⟨h.2.2.1, h.2.2.2⟩
    exact allS3 (allS_nm this.1) (allS_fix [8] (by simp)) (allS_nm this.2)
  unfold lfP
  split
  · intro t ht
    have ht' : t = ⟨2, eS, n.n, 0⟩ := by simpa [nbP] using ht
    subst ht'
    exact ⟨hf.n, by show (0 : Nat) ≤ 16; decide, fun e => absurd e (show ¬ (2 : Int) = 1 by decide)⟩
  split
  · exact allS_fix [44] (by simp)
  split
  · exact allS_fix [45] (by simp)
  split
  · exact hat (.inl (by assumption))
  split
  · have hv : nameB n.v = true := by
      rcases hx.2.2 with h | h | h | h
      · omega
      · omega
      · exact h.2.2.1
      · exact h.2.2.1
    exact allS3 (allS_fix [46, 3] (by simp)) (allS_nm hv) (allS_fix [4] (by simp))
  · have ho : 6 ≤ n.op ∧ n.op ≤ 11 := by
      rcases hx.2.2 with h | h | h | h <;> omega
    refine allS3 (allS_fix [47 + (n.op - 6), 3] ?_) (hat (.inr ho)) (allS_fix [4] (by simp))
    intro k hk
    simp at hk
    omega
theorem allS_opr {nd : Nat → Pce} {ns : List Nd} {i : Nat} {need : Int} (h : AllS (nd i)) : AllS (oprP nd ns i need) := by
  unfold oprP
  split
  · exact h
  · intro t ht
    exact allS3 (allS_fix [3] (by simp)) h (allS_fix [4] (by simp)) t ht
theorem allS_nod (ns : List Nd) (bs : List Int) (W : ∀ i, i < ns.length → WsAt ns bs i) (hf : ∀ k, (ns.getD k noNd).fit) : ∀ (f i : Nat), i < f → i < ns.length → AllS (nodP ns f i) := by
  intro f
  induction f with
  | zero => intro i h; omega
  | succ f ih =>
    intro i hfi hi
    have w := W i hi
    rcases lvl_cases w.lf with ⟨h1, h2⟩ | ⟨h1, h2⟩ | ⟨h1, h2⟩ | ⟨h1, h2⟩
    · unfold nodP
      rw [h2, if_neg (by decide), if_neg (by decide), if_neg (by decide), if_neg (by decide), if_neg (by decide), if_neg (by decide), if_neg (by decide)]
      exact allS_lf (hf i) (w.leaf h1)
    · obtain ⟨p, hl, hb⟩ := w.one (.inl h1)
      unfold nodP
      rw [h2, if_neg (by decide), if_neg (by decide), if_neg (by decide), if_neg (by decide), if_neg (by decide), if_neg (by decide), if_pos rfl, hl, show ((i : Int) - 1).toNat = i - 1 by omega]
      exact allS2 (allS_fix [12] (by simp)) (allS_opr (ih (i - 1) (by omega) (by omega)))
    · obtain ⟨p, hl, hb⟩ := w.one (.inr h1)
      unfold nodP
      rw [h2, if_neg (by decide), if_neg (by decide), if_pos rfl, hl, show ((i : Int) - 1).toNat = i - 1 by omega]
      exact allS2 (allS_fix [43] (by simp)) (allS_opr (ih (i - 1) (by omega) (by omega)))
    · obtain ⟨p, hr, hz, hl, hb⟩ := w.two h1
      have hj := (W (i - 1) (by omega)).lo
      have el : (ns.getD i noNd).l.toNat < i := by omega
      have er : (ns.getD i noNd).r.toNat < i := by omega
      have ka := fun need => allS_opr (ns := ns) (need := need) (ih _ (show (ns.getD i noNd).l.toNat < f by omega) (by omega))
      have kb := fun need => allS_opr (ns := ns) (need := need) (ih _ (show (ns.getD i noNd).r.toNat < f by omega) (by omega))
      have kk : ∀ k : Int, 11 ≤ k → AllS (fixP [k]) := fun k hk => allS_fix [k] (by simp; omega)
      have ho := w.lf
      unfold nodP
      rcases h2 with h2 | h2 | h2 | h2 | h2
      · rw [h2, if_pos rfl]
        exact allS3 (ka _) (kk _ (by decide)) (kb _)
      · rw [h2, if_neg (by decide), if_pos rfl]
        exact allS3 (ka _) (kk _ (by decide)) (kb _)
      · rw [h2, if_neg (by decide), if_neg (by decide), if_neg (by decide), if_pos rfl]
        exact allS3 (ka _) (kk _ (by omega)) (kb _)
      · rw [h2, if_neg (by decide), if_neg (by decide), if_neg (by decide), if_neg (by decide), if_pos rfl]
        exact allS3 (ka _) (kk _ (by omega)) (kb _)
      · rw [h2, if_neg (by decide), if_neg (by decide), if_neg (by decide), if_neg (by decide), if_neg (by decide), if_pos rfl]
        exact allS3 (ka _) (kk _ (by omega)) (kb _)

end Go.Proofs.YtpodpahipapbaaaDoor
