/- The canonical tokens of a node of a well shaped tree: the pure answer, and how many there are. -/
import Derived.Test.YtpodpahipapbaaaDoorSie
import Derived.Test.YtpodpahipapbaaaDoorWsa
namespace Go.Proofs.YtpodpahipapbaaaDoor
open Go.RowKit Go.BigFrame Go.Proofs.YtpodpahipapbaaaDoor.Ev
set_option linter.unusedVariables false
set_option linter.unusedSimpArgs false

def oprP (nd : Nat → Pce) (ns : List Nd) (i : Nat) (need : Int) : Pce := if need ≤ lvl (ns.getD i noNd).op then nd i else openP [fixP [3], nd i, fixP [4]]
def nodP (ns : List Nd) : Nat → Nat → Pce
  | 0, _ => noP
  | f + 1, i =>
    if lvl (ns.getD i noNd).op = 1 then glueP [oprP (nodP ns f) ns (ns.getD i noNd).l.toNat 1, fixP [42], oprP (nodP ns f) ns (ns.getD i noNd).r.toNat 2]
    else if lvl (ns.getD i noNd).op = 2 then glueP [oprP (nodP ns f) ns (ns.getD i noNd).l.toNat 2, fixP [41], oprP (nodP ns f) ns (ns.getD i noNd).r.toNat 3]
    else if lvl (ns.getD i noNd).op = 3 then openP [fixP [43], oprP (nodP ns f) ns (ns.getD i noNd).l.toNat 3]
    else if lvl (ns.getD i noNd).op = 4 then glueP [oprP (nodP ns f) ns (ns.getD i noNd).l.toNat 5, fixP [11 + ((ns.getD i noNd).op - 14)], oprP (nodP ns f) ns (ns.getD i noNd).r.toNat 5]
    else if lvl (ns.getD i noNd).op = 5 then glueP [oprP (nodP ns f) ns (ns.getD i noNd).l.toNat 5, fixP [11 + ((ns.getD i noNd).op - 14)], oprP (nodP ns f) ns (ns.getD i noNd).r.toNat 6]
    else if lvl (ns.getD i noNd).op = 6 then glueP [oprP (nodP ns f) ns (ns.getD i noNd).l.toNat 6, fixP [11 + ((ns.getD i noNd).op - 14)], oprP (nodP ns f) ns (ns.getD i noNd).r.toNat 7]
    else if lvl (ns.getD i noNd).op = 7 then openP [fixP [12], oprP (nodP ns f) ns (ns.getD i noNd).l.toNat 7]
    else lfP (ns.getD i noNd)
/-- How many nodes a subtree has. -/
def szN (bs : List Int) (i : Nat) : Nat := ((i : Int) + 1 - bs.getD i 0).toNat
def Fits (p : Pce) (m : Nat) : Prop := p.ts.length ≤ 8 * m ∧ 0 ≤ p.d ∧ p.d ≤ 2 * (m : Int)
theorem glue3 (a b c : Pce) : (glueP [a, b, c]).ts = a.ts ++ b.ts ++ c.ts ∧ (glueP [a, b, c]).d = maxI (maxI (maxI 0 a.d) b.d) c.d := by
  simp [glueP, stepP, noP]
theorem glue2 (a b : Pce) : (glueP [a, b]).ts = a.ts ++ b.ts ∧ (glueP [a, b]).d = maxI (maxI 0 a.d) b.d := by
  simp [glueP, stepP, noP]
theorem maxI_le {a b m : Int} (h1 : a ≤ m) (h2 : b ≤ m) : maxI a b ≤ m := by unfold maxI; split <;> assumption
theorem maxI_ge {a b m : Int} (h1 : m ≤ a) : m ≤ maxI a b := by unfold maxI; split <;> omega
theorem fix_d (ks : List Int) : (fixP ks).d = 0 ∧ (fixP ks).ts.length = ks.length := ⟨rfl, fxL_len ks⟩
/-- An operand: at most two tokens more, and one deeper. -/
theorem opr_fits {nd : Nat → Pce} {ns : List Nd} {i : Nat} {need : Int} {m : Nat} (h : Fits (nd i) m) : (oprP nd ns i need).ts.length ≤ 8 * m + 2 ∧ 0 ≤ (oprP nd ns i need).d ∧ (oprP nd ns i need).d ≤ 2 * (m : Int) + 1 := by
  obtain ⟨h1, h2, h3⟩ := h
  unfold oprP
  split
  · exact ⟨by omega, h2, by omega⟩
  · obtain ⟨e1, e2⟩ := glue3 (fixP [3]) (nd i) (fixP [4])
    refine ⟨?_, ?_, ?_⟩
    · show (glueP _).ts.length ≤ _
      rw [e1, List.length_append, List.length_append, (fix_d [3]).2, (fix_d [4]).2]
      simp
      omega
    · show 0 ≤ (glueP _).d + 1
      rw [e2]
      have := maxI_ge (b := (fixP [4]).d) (maxI_ge (b := (nd i).d) (maxI_ge (a := 0) (b := (fixP [3]).d) (Int.le_refl 0)))
      omega
    · show (glueP _).d + 1 ≤ _
      rw [e2, (fix_d [3]).1, (fix_d [4]).1]
      have := maxI_le (m := 2 * (m : Int)) (maxI_le (maxI_le (a := 0) (b := 0) (by omega) (by omega)) h3) (b := 0) (by omega)
      omega
theorem two_fits {a b : Pce} {k : Int} {m1 m2 m : Nat} (hm : m1 + m2 + 1 ≤ m) (h1 : a.ts.length ≤ 8 * m1 + 2 ∧ 0 ≤ a.d ∧ a.d ≤ 2 * (m1 : Int) + 1) (h2 : b.ts.length ≤ 8 * m2 + 2 ∧ 0 ≤ b.d ∧ b.d ≤ 2 * (m2 : Int) + 1) : Fits (glueP [a, fixP [k], b]) m := by
  obtain ⟨e1, e2⟩ := glue3 a (fixP [k]) b
  refine ⟨?_, ?_, ?_⟩
  · rw [e1, List.length_append, List.length_append, (fix_d [k]).2]
    simp
    omega
  · rw [e2]
    exact maxI_ge (maxI_ge (maxI_ge (Int.le_refl 0)))
  · rw [e2, (fix_d [k]).1]
    exact maxI_le (maxI_le (maxI_le (by omega) (by omega)) (by omega)) (by omega)
theorem one_fits {a : Pce} {k : Int} {m1 m : Nat} (hm : m1 + 1 ≤ m) (h1 : a.ts.length ≤ 8 * m1 + 2 ∧ 0 ≤ a.d ∧ a.d ≤ 2 * (m1 : Int) + 1) : Fits (openP [fixP [k], a]) m := by
  obtain ⟨e1, e2⟩ := glue2 (fixP [k]) a
  refine ⟨?_, ?_, ?_⟩
  · show (glueP _).ts.length ≤ _
    rw [e1, List.length_append, (fix_d [k]).2]
    simp
    omega
  · show 0 ≤ (glueP _).d + 1
    rw [e2]
    have := maxI_ge (b := a.d) (maxI_ge (a := 0) (b := (fixP [k]).d) (Int.le_refl 0))
    omega
  · show (glueP _).d + 1 ≤ _
    rw [e2, (fix_d [k]).1]
    have := maxI_le (m := 2 * (m1 : Int) + 1) (maxI_le (a := 0) (b := 0) (by omega) (by omega)) h1.2.2
    omega
theorem lf_fits (n : Nd) : (lfP n).ts.length ≤ 6 ∧ (lfP n).d = 0 := by
  have hat : (atP n).ts.length = 3 ∧ (atP n).d = 0 := by
    obtain ⟨e1, e2⟩ := glue3 (nmP n.v) (fixP [8]) (nmP n.x)
    exact ⟨by unfold atP; rw [e1]; rfl, by unfold atP; rw [e2]; rfl⟩
  unfold lfP
  repeat' split
  · exact ⟨by simp [nbP], rfl⟩
  · exact ⟨by decide, rfl⟩
  · exact ⟨by decide, rfl⟩
  · exact ⟨by omega, hat.2⟩
  · obtain ⟨e1, e2⟩ := glue3 (fixP [46, 3]) (nmP n.v) (fixP [4])
    exact ⟨by rw [e1]; simp [fixP, fxL, nmP], by rw [e2]; rfl⟩
  · obtain ⟨e1, e2⟩ := glue3 (fixP [47 + (n.op - 6), 3]) (atP n) (fixP [4])
    refine ⟨?_, ?_⟩
    · rw [e1, List.length_append, List.length_append, hat.1, (fix_d _).2, (fix_d _).2]
      simp
    · rw [e2, hat.2]; rfl
theorem lvl_cases {op : Int} (h : 1 ≤ op ∧ op ≤ 26) : (op ≤ 11 ∧ lvl op = 8) ∨ (op = 12 ∧ lvl op = 7) ∨ (op = 13 ∧ lvl op = 3) ∨ (14 ≤ op ∧ (lvl op = 1 ∨ lvl op = 2 ∨ lvl op = 4 ∨ lvl op = 5 ∨ lvl op = 6)) := by
  rcases (show op ≤ 11 ∨ op = 12 ∨ op = 13 ∨ 14 ≤ op by omega) with h1 | rfl | rfl | h1
  · refine .inl ⟨h1, ?_⟩
    unfold lvl
    rw [if_neg (by omega), if_neg (by omega), if_neg (by omega), if_neg (by omega), if_neg (by omega), if_neg (by omega), if_neg (by omega)]
  · exact .inr (.inl ⟨rfl, rfl⟩)
  · exact .inr (.inr (.inl ⟨rfl, rfl⟩))
  · refine .inr (.inr (.inr ⟨h1, ?_⟩))
    unfold lvl
    split
    · exact .inl rfl
    split
    · exact .inr (.inl rfl)
    split
    · omega
    split
    · exact .inr (.inr (.inl rfl))
    split
    · exact .inr (.inr (.inr (.inl rfl)))
    split
    · exact .inr (.inr (.inr (.inr rfl)))
    · omega
theorem nod_fits (ns : List Nd) (bs : List Int) (W : ∀ i, i < ns.length → WsAt ns bs i) : ∀ (f i : Nat), i < f → i < ns.length → Fits (nodP ns f i) (szN bs i) := by
  intro f
  induction f with
  | zero => intro i h; omega
  | succ f ih =>
    intro i hf hi
    have w := W i hi
    have hlo := w.lo
    rcases lvl_cases w.lf with ⟨h1, h2⟩ | ⟨h1, h2⟩ | ⟨h1, h2⟩ | ⟨h1, h2⟩
    · unfold nodP
      rw [h2, if_neg (by decide), if_neg (by decide), if_neg (by decide), if_neg (by decide), if_neg (by decide), if_neg (by decide), if_neg (by decide)]
      obtain ⟨e1, e2⟩ := lf_fits (ns.getD i noNd)
      have hs : 1 ≤ szN bs i := by unfold szN; omega
      exact ⟨by omega, by omega, by omega⟩
    · obtain ⟨p, hl, hb⟩ := w.one (.inl h1)
      have hk := ih (i - 1) (by omega) (by omega)
      have hj := (W (i - 1) (by omega)).lo
      unfold nodP
      rw [h2, if_neg (by decide), if_neg (by decide), if_neg (by decide), if_neg (by decide), if_neg (by decide), if_neg (by decide), if_pos rfl, hl, show ((i : Int) - 1).toNat = i - 1 by omega]
      exact one_fits (m1 := szN bs (i - 1)) (by unfold szN; rw [hb]; omega) (opr_fits hk)
    · obtain ⟨p, hl, hb⟩ := w.one (.inr h1)
      have hk := ih (i - 1) (by omega) (by omega)
      have hj := (W (i - 1) (by omega)).lo
      unfold nodP
      rw [h2, if_neg (by decide), if_neg (by decide), if_pos rfl, hl, show ((i : Int) - 1).toNat = i - 1 by omega]
      exact one_fits (m1 := szN bs (i - 1)) (by unfold szN; rw [hb]; omega) (opr_fits hk)
    · obtain ⟨p, hr, hz, hl, hb⟩ := w.two h1
      have hj := (W (i - 1) (by omega)).lo
      obtain ⟨j, hjj⟩ : ∃ j : Nat, bs.getD (i - 1) 0 = (j : Int) + 1 := ⟨(bs.getD (i - 1) 0 - 1).toNat, by omega⟩
      have hk1 := ih j (by omega) (by omega)
      have hk2 := ih (i - 1) (by omega) (by omega)
      have hj2 := (W j (by omega)).lo
      rw [hjj] at hl hb hj
      rw [show ((j : Int) + 1 - 1).toNat = j by omega] at hb
      have el : (ns.getD i noNd).l.toNat = j := by rw [hl]; omega
      have er : (ns.getD i noNd).r.toNat = i - 1 := by rw [hr]; omega
      have hm : szN bs j + szN bs (i - 1) + 1 ≤ szN bs i := by unfold szN; rw [hb, hjj]; omega
      unfold nodP
      rw [el, er]
      rcases h2 with h2 | h2 | h2 | h2 | h2
      · rw [h2, if_pos rfl]
        exact two_fits hm (opr_fits hk1) (opr_fits hk2)
      · rw [h2, if_neg (by decide), if_pos rfl]
        exact two_fits hm (opr_fits hk1) (opr_fits hk2)
      · rw [h2, if_neg (by decide), if_neg (by decide), if_neg (by decide), if_pos rfl]
        exact two_fits hm (opr_fits hk1) (opr_fits hk2)
      · rw [h2, if_neg (by decide), if_neg (by decide), if_neg (by decide), if_neg (by decide), if_pos rfl]
        exact two_fits hm (opr_fits hk1) (opr_fits hk2)
      · rw [h2, if_neg (by decide), if_neg (by decide), if_neg (by decide), if_neg (by decide), if_neg (by decide), if_pos rfl]
        exact two_fits hm (opr_fits hk1) (opr_fits hk2)

end Go.Proofs.YtpodpahipapbaaaDoor
