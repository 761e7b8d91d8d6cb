/- What Expr answers of openings one within the other around a number. -/
import Derived.Test.YtccgneegfdggjaaDoorNt
import Derived.Test.YtccgneegfdggjaaDoorQb
namespace Go.Proofs.YtccgneegfdggjaaDoor
open Go.RowKit
set_option linter.unusedVariables false
set_option linter.unusedSimpArgs false

def okK : Bool → List Nat → Prop
  | _, [] => True
  | b, k :: r => (k = 0 ∧ okK true r) ∨ (k = 1 ∧ b = true ∧ okK true r) ∨ (k = 2 ∧ okK false r)
def brK : List Nat → Nat
  | [] => 0
  | k :: r => (if k = 0 then 1 else 0) + brK r
theorem okN_of : ∀ (ks : List Nat) (b : Bool) (p : Nat), okK b ks → okN b (tkO p ks)
  | [], _, _, _ => trivial
  | k :: r, b, p, h => by
    rcases h with ⟨rfl, h⟩ | ⟨rfl, hb, h⟩ | ⟨rfl, h⟩
    · exact .inl ⟨rfl, okN_of r _ _ h⟩
    · exact .inr (.inl ⟨rfl, hb, okN_of r _ _ h⟩)
    · exact .inr (.inr ⟨rfl, okN_of r _ _ h⟩)
theorem brs_of : ∀ (ks : List Nat) (b : Bool) (p : Nat), okK b ks → brs (tkO p ks) = brK ks
  | [], _, _, _ => rfl
  | k :: r, b, p, h => by
    rcases h with ⟨rfl, h⟩ | ⟨rfl, hb, h⟩ | ⟨rfl, h⟩ <;> simp [brs, tkO, brK, pkO, brs_of r _ _ h]
theorem drop_at : ∀ (ks : List Nat) (p j : Nat) (x : List Tok), j < ks.length → ∃ k, (tkO p ks ++ x).drop j = ⟨k, ⟨#[]⟩, 0, ((p + (txO (ks.take j)).length : Nat) : Int)⟩ :: (tkO p ks ++ x).drop (j + 1)
  | [], _, _, _, h => absurd h (by simp)
  | k :: r, p, 0, x, _ => ⟨pkO k, by simp [tkO, txO]⟩
  | k :: r, p, j + 1, x, h => by
    obtain ⟨c, hc⟩ := drop_at r (p + (pcO k).length) j x (by simpa using h)
    refine ⟨c, ?_⟩
    show (tkO (p + (pcO k).length) r ++ x).drop j = _
    rw [hc]
    simp only [List.take_succ_cons, txO, List.length_append, Nat.add_assoc]
    rfl
/-- The answer: too deep, at the thirty-third; not closed, at the end; or as many nodes as there are NOTs and minus signs, and one. -/
theorem exO_nest (ks : List Nat) (n : Nat) (hk : okK true ks) (h : ks.length + n ≤ 200) (hn : n = brK ks ∨ n = 0) :
    (32 < ks.length → exO (tx (txO ks ++ (49 :: List.replicate n 41))) = ([], [], 41, ((txO (ks.take 32)).length : Int))) ∧
    (ks.length ≤ 32 → n < brK ks → exO (tx (txO ks ++ (49 :: List.replicate n 41))) = ([], [], 40, ((txO ks).length : Int) + 1 + n)) ∧
    (ks.length ≤ 32 → n = brK ks → ∃ ns sp, exO (tx (txO ks ++ (49 :: List.replicate n 41))) = (ns, sp, 0, 0) ∧ ns.length + brK ks = 1 + ks.length) := by
  have hL := lexO_nest ks n h
  have hz : ((tx (txO ks ++ (49 :: List.replicate n 41))).size : Int) = ((txO ks).length : Int) + 1 + n := by rw [szM]; simp; omega
  obtain ⟨r, R, P⟩ := nests ⟨2, ⟨#[]⟩, 1, ((txO ks).length : Int)⟩ rfl (tkC ((txO ks).length + 1) n) (tkC_k n _) (tkO 0 ks) 0 0 [] [] (.inl ⟨rfl, okN_of ks _ _ hk⟩) (by omega)
  have hr := (exR_rd (tkO 0 ks ++ (⟨2, ⟨#[]⟩, 1, ((txO ks).length : Int)⟩ :: tkC ((txO ks).length + 1) n))).det R
  unfold NestP at P
  rw [tkO_len, tkC_len, brs_of ks _ _ hk] at P
  have hE : exO (tx (txO ks ++ (49 :: List.replicate n 41))) = match wholeP (tkO 0 ks ++ (⟨2, ⟨#[]⟩, 1, ((txO ks).length : Int)⟩ :: tkC ((txO ks).length + 1) n)) with
      | .ok (ns, sp) => (ns, sp, 0, 0)
      | .error (c, x) => ([], [], c, plc ((tx (txO ks ++ (49 :: List.replicate n 41))).size : Int) x) := by
    unfold exO
    rw [hL, if_neg (by simp)]
    rfl
  rw [hz] at hE
  refine ⟨fun h1 => ?_, fun h1 h2 => ?_, fun h1 h2 => ?_⟩
  · rcases P with ⟨_, rfl⟩ | ⟨h3, _⟩ | ⟨h3, _⟩
    · obtain ⟨c, hc⟩ := drop_at ks 0 32 (⟨2, ⟨#[]⟩, 1, ((txO ks).length : Int)⟩ :: tkC ((txO ks).length + 1) n) h1
      rw [hE]
      have hw : wholeP (tkO 0 ks ++ (⟨2, ⟨#[]⟩, 1, ((txO ks).length : Int)⟩ :: tkC ((txO ks).length + 1) n)) = .error (41, (tkO 0 ks ++ (⟨2, ⟨#[]⟩, 1, ((txO ks).length : Int)⟩ :: tkC ((txO ks).length + 1) n)).drop 32) := by
        simp only [wholeP, treeP, hr]; rfl
      rw [hw, hc]
      simp [plc]
    · omega
    · omega
  · rcases P with ⟨h3, _⟩ | ⟨_, _, rfl⟩ | ⟨_, h3, _⟩
    · omega
    · rw [hE]
      have hw : wholeP (tkO 0 ks ++ (⟨2, ⟨#[]⟩, 1, ((txO ks).length : Int)⟩ :: tkC ((txO ks).length + 1) n)) = .error (40, []) := by
        simp only [wholeP, treeP, hr]; rfl
      rw [hw]
      rfl
    · omega
  · rcases P with ⟨h3, _⟩ | ⟨_, h3, _⟩ | ⟨_, h3, ns, sp, rfl, h4⟩
    · omega
    · omega
    · refine ⟨ns, sp, ?_, by simpa using h4⟩
      rw [hE]
      have hd : (tkC ((txO ks).length + 1) n).drop (brK ks) = [] := List.drop_eq_nil_of_le (by rw [tkC_len]; omega)
      rw [hd] at hr
      have hw : wholeP (tkO 0 ks ++ (⟨2, ⟨#[]⟩, 1, ((txO ks).length : Int)⟩ :: tkC ((txO ks).length + 1) n)) = .ok (ns, sp) := by
        simp only [wholeP, treeP, hr]; rfl
      rw [hw]

end Go.Proofs.YtccgneegfdggjaaDoor
