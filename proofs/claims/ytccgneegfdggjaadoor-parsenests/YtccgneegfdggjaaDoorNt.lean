/- The tokens of openings one within the other around a number. -/
import Derived.Test.YtccgneegfdggjaaDoorPa
import Derived.Test.YtccgneegfdggjaaDoorNs
namespace Go.Proofs.YtccgneegfdggjaaDoor
open Go.RowKit
set_option linter.unusedVariables false
set_option linter.unusedSimpArgs false

theorem btM (a b c : List UInt8) (i : Nat) (h : i < b.length) : bt ⟨(a ++ (b ++ c)).toArray⟩ (a.length + i) = ((b[i]).toNat : Int) := by
  unfold bt
  congr 1
  have e : (⟨(a ++ (b ++ c)).toArray⟩ : ByteArray).data.getD (a.length + i) 0 = b[i] := by
    show ((a ++ (b ++ c)).toArray).getD (a.length + i) 0 = _
    rw [Array.getD_eq_getD_getElem?, List.getElem?_toArray, List.getElem?_append_right (by omega), show a.length + i - a.length = i by omega, List.getElem?_append_left h, List.getElem?_eq_getElem h]
    rfl
  rw [e]
theorem exM (a b c : List UInt8) : (⟨(a ++ (b ++ c)).toArray⟩ : ByteArray).extract a.length (a.length + b.length) = ⟨b.toArray⟩ := by
  apply ByteArray.ext
  rw [ByteArray.data_extract]
  simp
theorem szM (l : List UInt8) : (⟨l.toArray⟩ : ByteArray).size = l.length := by show l.toArray.size = _; simp
abbrev tx (l : List UInt8) : ByteArray := ⟨l.toArray⟩
/-- A sign of one byte. -/
theorem nxt_sign (a c : List UInt8) (x : UInt8) (k : Int) (ts : List Tok) (h400 : ts.length < 400) (hst : entI (x.toNat : Int) (sgK ⟨#[x]⟩) = 3) (hk : sgK ⟨#[x]⟩ = k) (h1 : ¬ ((x.toNat : Int) = 33 ∨ (x.toNat : Int) = 60 ∨ (x.toNat : Int) = 62)) :
    nxt (tx (a ++ (x :: c))) a.length ts = some (a.length + 1, ts ++ [⟨k, ⟨#[]⟩, 0, (a.length : Int)⟩]) := by
  have hb : bt (tx (a ++ (x :: c))) a.length = (x.toNat : Int) := btM a [x] c 0 (by simp)
  have he : (tx (a ++ (x :: c))).extract a.length (a.length + 1) = ⟨#[x]⟩ := exM a [x] c
  have hs : stI (tx (a ++ (x :: c))) a.length = 3 := by unfold stI; rw [hb, he, hst]
  have hg : sgnE (tx (a ++ (x :: c))) a.length = a.length + 1 := by unfold sgnE; rw [hb, if_neg (fun h => h1 h.1)]
  have ht : thing (tx (a ++ (x :: c))) a.length = (a.length + 1, ⟨k, ⟨#[]⟩, 0, (a.length : Int)⟩, 0) := by
    unfold thing
    rw [if_neg (by rw [hs]; decide), if_neg (by rw [hs]; decide), hg, he, hk]
  unfold nxt
  rw [if_neg (by rw [hs]; decide), if_neg (by rw [hs]; decide), if_neg (by rw [hs]; decide), ht]
  rw [if_neg (by simp), if_neg (by omega)]
theorem nxt_open (a c : List UInt8) (ts : List Tok) (h : ts.length < 400) : nxt (tx (a ++ (40 :: c))) a.length ts = some (a.length + 1, ts ++ [⟨3, ⟨#[]⟩, 0, (a.length : Int)⟩]) := nxt_sign a c 40 3 ts h (by kernel_rfl) (by kernel_rfl) (by decide)
theorem nxt_shut (a c : List UInt8) (ts : List Tok) (h : ts.length < 400) : nxt (tx (a ++ (41 :: c))) a.length ts = some (a.length + 1, ts ++ [⟨4, ⟨#[]⟩, 0, (a.length : Int)⟩]) := nxt_sign a c 41 4 ts h (by kernel_rfl) (by kernel_rfl) (by decide)
theorem nxt_minus (a c : List UInt8) (ts : List Tok) (h : ts.length < 400) : nxt (tx (a ++ (45 :: c))) a.length ts = some (a.length + 1, ts ++ [⟨12, ⟨#[]⟩, 0, (a.length : Int)⟩]) := nxt_sign a c 45 12 ts h (by kernel_rfl) (by kernel_rfl) (by decide)
theorem nxt_blank (a c : List UInt8) (ts : List Tok) : nxt (tx (a ++ (32 :: c))) a.length ts = some (a.length + 1, ts) := by
  have hb : bt (tx (a ++ (32 :: c))) a.length = 32 := btM a [32] c 0 (by simp)
  have hs : stI (tx (a ++ (32 :: c))) a.length = 0 := by unfold stI entI; rw [hb, if_pos (by decide)]
  unfold nxt
  rw [if_pos hs]
theorem nxt_not (a c : List UInt8) (ts : List Tok) (h : ts.length < 400) : nxt (tx (a ++ (78 :: 79 :: 84 :: 32 :: c))) a.length ts = some (a.length + 3, ts ++ [⟨43, ⟨#[]⟩, 0, (a.length : Int)⟩]) := by
  have b0 : bt (tx (a ++ (78 :: 79 :: 84 :: 32 :: c))) a.length = 78 := btM a [78, 79, 84, 32] c 0 (by simp)
  have b1 : bt (tx (a ++ (78 :: 79 :: 84 :: 32 :: c))) (a.length + 1) = 79 := btM a [78, 79, 84, 32] c 1 (by simp)
  have b2 : bt (tx (a ++ (78 :: 79 :: 84 :: 32 :: c))) (a.length + 1 + 1) = 84 := btM a [78, 79, 84, 32] c 2 (by simp)
  have b3 : bt (tx (a ++ (78 :: 79 :: 84 :: 32 :: c))) (a.length + 1 + 1 + 1) = 32 := btM a [78, 79, 84, 32] c 3 (by simp)
  have hz : (tx (a ++ (78 :: 79 :: 84 :: 32 :: c))).size = a.length + (c.length + 4) := by rw [szM]; simp
  have he : (tx (a ++ (78 :: 79 :: 84 :: 32 :: c))).extract a.length (a.length + 3) = ⟨#[78, 79, 84]⟩ := exM a [78, 79, 84] (32 :: c)
  have hs : stI (tx (a ++ (78 :: 79 :: 84 :: 32 :: c))) a.length = 1 := by unfold stI entI; rw [b0, if_neg (by decide), if_neg (by decide), if_pos (by decide)]
  have hr : runE wdB (tx (a ++ (78 :: 79 :: 84 :: 32 :: c))) a.length = a.length + 3 := by
    rw [runE_on (by omega) (by rw [b0]; decide), runE_on (by omega) (by rw [b1]; decide), runE_on (by omega) (by rw [b2]; decide), runE_stop (.inr (by rw [b3]; decide))]
  have ht : thing (tx (a ++ (78 :: 79 :: 84 :: 32 :: c))) a.length = (a.length + 3, ⟨43, ⟨#[]⟩, 0, (a.length : Int)⟩, 0) := by
    unfold thing
    rw [if_pos hs, hr]
    unfold wordT
    rw [he, if_neg (by decide), show wordI ⟨#[78, 79, 84]⟩ = 43 by kernel_rfl, if_neg (by decide)]
  unfold nxt
  rw [if_neg (by rw [hs]; decide), if_neg (by rw [hs]; decide), if_neg (by rw [hs]; decide), ht]
  rw [if_neg (by simp), if_neg (by omega)]
theorem nxt_one (a c : List UInt8) (hc : c = [] ∨ ∃ r, c = 41 :: r) (ts : List Tok) (h : ts.length < 400) : nxt (tx (a ++ (49 :: c))) a.length ts = some (a.length + 1, ts ++ [⟨2, ⟨#[]⟩, 1, (a.length : Int)⟩]) := by
  have b0 : bt (tx (a ++ (49 :: c))) a.length = 49 := btM a [49] c 0 (by simp)
  have hz : (tx (a ++ (49 :: c))).size = a.length + (c.length + 1) := by rw [szM]; simp
  have b1 : ¬ (a.length + 1 < (tx (a ++ (49 :: c))).size) ∨ bt (tx (a ++ (49 :: c))) (a.length + 1) = 41 := by
    rcases hc with rfl | ⟨r, rfl⟩
    · left; rw [hz]; simp
    · right; exact btM a [49, 41] r 1 (by simp)
  have he : (tx (a ++ (49 :: c))).extract a.length (a.length + 1) = ⟨#[49]⟩ := exM a [49] c
  have hs : stI (tx (a ++ (49 :: c))) a.length = 2 := by unfold stI entI; rw [b0, if_neg (by decide), if_neg (by decide), if_neg (by decide), if_pos (by decide)]
  have hr : runE dgB (tx (a ++ (49 :: c))) a.length = a.length + 1 := by
    rw [runE_on (by omega) (by rw [b0]; decide), runE_stop (b1.imp id (fun e => by rw [e]; decide))]
  have ht : thing (tx (a ++ (49 :: c))) a.length = (a.length + 1, ⟨2, ⟨#[]⟩, 1, (a.length : Int)⟩, 0) := by
    unfold thing
    rw [if_neg (by rw [hs]; decide), if_pos hs, hr]
    unfold numT
    rw [if_neg (by rintro ⟨h1, h2⟩; rcases b1 with b1 | b1; exact b1 h1; rw [b1] at h2; exact absurd h2 (by decide)), he, show numV ⟨#[49]⟩ = some 1 by kernel_rfl]
  unfold nxt
  rw [if_neg (by rw [hs]; decide), if_neg (by rw [hs]; decide), if_neg (by rw [hs]; decide), ht]
  rw [if_neg (by simp), if_neg (by omega)]

/-- Openings: 1 a NOT, 2 a minus sign, else a bracket. -/
def pcO (k : Nat) : List UInt8 := if k = 1 then [78, 79, 84, 32] else if k = 2 then [45] else [40]
def pkO (k : Nat) : Int := if k = 1 then 43 else if k = 2 then 12 else 3
def txO : List Nat → List UInt8
  | [] => []
  | k :: r => pcO k ++ txO r
def tkO : Nat → List Nat → List Tok
  | _, [] => []
  | p, k :: r => ⟨pkO k, ⟨#[]⟩, 0, (p : Int)⟩ :: tkO (p + (pcO k).length) r
def tkC : Nat → Nat → List Tok
  | _, 0 => []
  | p, n + 1 => ⟨4, ⟨#[]⟩, 0, (p : Int)⟩ :: tkC (p + 1) n
theorem tkO_len : ∀ (ks : List Nat) (p : Nat), (tkO p ks).length = ks.length
  | [], _ => rfl
  | k :: r, p => by simp [tkO, tkO_len r]
theorem tkC_len : ∀ (n p : Nat), (tkC p n).length = n
  | 0, _ => rfl
  | n + 1, p => by simp [tkC, tkC_len n]
theorem tkC_k : ∀ (n p : Nat), ∀ t ∈ tkC p n, t.k = 4
  | 0, _ => by simp [tkC]
  | n + 1, p => by
    intro t ht
    rcases List.mem_cons.1 ht with rfl | ht
    · rfl
    · exact tkC_k n (p + 1) t ht
theorem pathO : ∀ (ks : List Nat) (a c : List UInt8) (ts : List Tok), ts.length + ks.length ≤ 400 → Path (tx (a ++ (txO ks ++ c))) a.length ts (a.length + (txO ks).length) (ts ++ tkO a.length ks) := by
  intro ks
  induction ks with
  | nil => intro a c ts _; simpa [txO, tkO] using Path.here (s := tx (a ++ c)) a.length ts
  | cons k r ih =>
    intro a c ts h
    simp only [List.length_cons] at h
    have e : a ++ (txO (k :: r) ++ c) = (a ++ pcO k) ++ (txO r ++ c) := by simp [txO]
    have hz : a.length < (tx (a ++ (txO (k :: r) ++ c))).size := by
      rw [szM]
      have : 0 < (pcO k).length := by unfold pcO; split <;> (try split) <;> decide
      simp only [txO, List.length_append]; omega
    have go := ih (a ++ pcO k) c (ts ++ [⟨pkO k, ⟨#[]⟩, 0, (a.length : Int)⟩]) (by simp only [List.length_append, List.length_cons, List.length_nil]; omega)
    rw [← e] at go
    simp only [List.length_append] at go
    rw [show a.length + (txO (k :: r)).length = a.length + (pcO k).length + (txO r).length by simp only [txO, List.length_append]; omega]
    rw [show ts ++ tkO a.length (k :: r) = ts ++ [⟨pkO k, ⟨#[]⟩, 0, (a.length : Int)⟩] ++ tkO (a.length + (pcO k).length) r by simp [tkO]]
    by_cases k1 : k = 1
    · subst k1
      have n1 := nxt_not a (txO r ++ c) ts (by omega)
      have n2 := nxt_blank (a ++ [78, 79, 84]) (txO r ++ c) (ts ++ [⟨43, ⟨#[]⟩, 0, (a.length : Int)⟩])
      rw [show (a ++ [78, 79, 84]) ++ (32 :: (txO r ++ c)) = a ++ (txO (1 :: r) ++ c) by simp [txO, pcO]] at n2
      rw [show a ++ (78 :: 79 :: 84 :: 32 :: (txO r ++ c)) = a ++ (txO (1 :: r) ++ c) by simp [txO, pcO]] at n1
      simp only [List.length_append, List.length_cons, List.length_nil] at n2
      refine .step _ _ _ _ _ _ hz n1 (.step _ _ _ _ _ _ ?_ n2 go)
      rw [szM]; simp only [txO, pcO, List.length_append, List.length_cons]; simp; omega
    · by_cases k2 : k = 2
      · subst k2
        have n1 := nxt_minus a (txO r ++ c) ts (by omega)
        exact .step _ _ _ _ _ _ hz n1 go
      · have hp : pcO k = [40] := by simp [pcO, k1, k2]
        have hq : pkO k = 3 := by simp [pkO, k1, k2]
        have n1 := nxt_open a (txO r ++ c) ts (by omega)
        rw [show a ++ (40 :: (txO r ++ c)) = a ++ (txO (k :: r) ++ c) by simp [txO, hp]] at n1
        rw [hq, hp] at go ⊢
        exact .step _ _ _ _ _ _ hz n1 go
theorem pathC : ∀ (n : Nat) (a c : List UInt8) (ts : List Tok), ts.length + n ≤ 400 → Path (tx (a ++ (List.replicate n 41 ++ c))) a.length ts (a.length + n) (ts ++ tkC a.length n) := by
  intro n
  induction n with
  | zero => intro a c ts _; simpa [tkC] using Path.here (s := tx (a ++ c)) a.length ts
  | succ n ih =>
    intro a c ts h
    have e : a ++ (List.replicate (n + 1) 41 ++ c) = (a ++ [41]) ++ (List.replicate n 41 ++ c) := by simp [List.replicate_succ]
    have hz : a.length < (tx (a ++ (List.replicate (n + 1) 41 ++ c))).size := by rw [szM]; simp only [List.length_append, List.length_replicate]; omega
    have go := ih (a ++ [41]) c (ts ++ [⟨4, ⟨#[]⟩, 0, (a.length : Int)⟩]) (by simp only [List.length_append, List.length_cons, List.length_nil]; omega)
    rw [← e] at go
    simp only [List.length_append, List.length_cons, List.length_nil] at go
    rw [show a.length + (n + 1) = a.length + (0 + 1) + n by omega, show ts ++ tkC a.length (n + 1) = ts ++ [⟨4, ⟨#[]⟩, 0, (a.length : Int)⟩] ++ tkC (a.length + (0 + 1)) n by simp [tkC]]
    have n1 := nxt_shut a (List.replicate n 41 ++ c) ts (by omega)
    rw [show a ++ (41 :: (List.replicate n 41 ++ c)) = a ++ (List.replicate (n + 1) 41 ++ c) by simp [List.replicate_succ]] at n1
    exact .step _ _ _ _ _ _ hz n1 go
/-- The tokens of the whole. -/
theorem lexO_nest (ks : List Nat) (n : Nat) (h : ks.length + n ≤ 200) : lexO (tx (txO ks ++ (49 :: List.replicate n 41))) = (tkO 0 ks ++ (⟨2, ⟨#[]⟩, 1, ((txO ks).length : Int)⟩ :: tkC ((txO ks).length + 1) n), 0, 0) := by
  have hl : ∀ ks : List Nat, (txO ks).length ≤ 4 * ks.length := by
    intro ks
    induction ks with
    | nil => simp [txO]
    | cons k r ih =>
      have : (pcO k).length ≤ 4 := by unfold pcO; split <;> (try split) <;> decide
      simp only [txO, List.length_append, List.length_cons]; omega
  have := hl ks
  have hz : (tx (txO ks ++ (49 :: List.replicate n 41))).size = (txO ks).length + (n + 1) := by rw [szM]; simp
  refine lexO_path (by omega) ?_
  have p1 := pathO ks [] (49 :: List.replicate n 41) [] (by simp; omega)
  simp only [List.nil_append, List.length_nil, Nat.zero_add] at p1
  have n1 := nxt_one (txO ks) (List.replicate n 41) (by cases n with | zero => exact .inl rfl | succ n => exact .inr ⟨_, List.replicate_succ⟩) (tkO 0 ks) (by rw [tkO_len]; omega)
  have p2 := pathC n (txO ks ++ [49]) [] (tkO 0 ks ++ [⟨2, ⟨#[]⟩, 1, ((txO ks).length : Int)⟩]) (by simp [tkO_len]; omega)
  rw [show (txO ks ++ [49]) ++ (List.replicate n 41 ++ []) = txO ks ++ (49 :: List.replicate n 41) by simp] at p2
  simp only [List.length_append, List.length_cons, List.length_nil, Nat.zero_add] at p2
  rw [hz, show (txO ks).length + (n + 1) = (txO ks).length + 1 + n by omega]
  rw [show tkO 0 ks ++ (⟨2, ⟨#[]⟩, 1, ((txO ks).length : Int)⟩ :: tkC ((txO ks).length + 1) n) = tkO 0 ks ++ [⟨2, ⟨#[]⟩, 1, ((txO ks).length : Int)⟩] ++ tkC ((txO ks).length + 1) n by simp]
  exact p1.trans (.step _ _ _ _ _ _ (by omega) n1 p2)

end Go.Proofs.YtccgneegfdggjaaDoor
