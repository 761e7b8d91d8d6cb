/- Tokens that are placed as Join lays them, and what Lex makes of their text. -/
import Derived.Test.YtlcmfefcammklabDoorBk3
import Derived.Test.YtlcmfefcammklabDoorKs
import Derived.Test.YtlcmfefcammklabDoorCl
namespace Go.Proofs.YtlcmfefcammklabDoor
open Go.RowKit Go.BigFrame
set_option linter.unusedVariables false
set_option linter.unusedSimpArgs false

theorem toksV_setA (L : List Tok) : ∀ (i : Nat) (a : Int), i < L.length → (toksV L).set (i * 4 + 3) (.int .i64 a) = toksV (L.set i (tA (L.getD i noTok) a)) := by
  induction L with
  | nil => intro i a h; simp at h
  | cons y r ih =>
    intro i a h
    have e : toksV (y :: r) = .int .i64 y.k :: .string y.t :: .int .i64 y.n :: .int .i64 y.a :: toksV r := rfl
    rw [e]
    cases i with
    | zero => rfl
    | succ i =>
      have e1 : (y :: r).set (i + 1) (tA ((y :: r).getD (i + 1) noTok) a) = y :: r.set i (tA ((y :: r).getD (i + 1) noTok) a) := rfl
      rw [e1]
      have e2 : toksV (y :: r.set i (tA ((y :: r).getD (i + 1) noTok) a)) = .int .i64 y.k :: .string y.t :: .int .i64 y.n :: .int .i64 y.a :: toksV (r.set i (tA (r.getD i noTok) a)) := rfl
      rw [e2, ← ih i a (by simpa using h), show (i + 1) * 4 + 3 = (i * 4 + 3) + 4 by omega]
      rfl
/-- Its place stored into a token of an own row. -/
theorem own_place {w : World} {base g n cap : Nat} {L : List Tok} (h : w.ownsRow base 29 4 (.slice (some ⟨g, 0, none⟩) n cap) n (toksV L)) (i : Nat) (hi : i < L.length) (a : Int) :
    (w.setCell ⟨g, i * 4 + 3, none⟩ (.int .i64 a)).ownsRow base 29 4 (.slice (some ⟨g, 0, none⟩) n cap) n (toksV (L.set i (tA (L.getD i noTok) a))) ∧ w.grownBy (w.setCell ⟨g, i * 4 + 3, none⟩ (.int .i64 a)) (some g) := by
  have h1 := h.stored (i * 4 + 3) (.int .i64 a)
  rw [toksV_setA L i a hi] at h1
  exact h1
/-- Where the token number k begins. -/
def stA (cs : List Tok) : Nat → Nat
  | 0 => 0
  | k + 1 => stA cs k + (spS (cs.getD k noTok)).size + 1
def plF (cs : List Tok) (i : Nat) : Tok := tA (cs.getD i noTok) (stA cs i)
theorem stA_join (cs : List Tok) (k : Nat) : stA cs k = (joinU cs k).length + (if 0 < k then 1 else 0) := by
  induction k with
  | zero => rfl
  | succ k ih =>
    show stA cs k + (spS (cs.getD k noTok)).size + 1 = (joinU cs k ++ (if 0 < k then [32] else []) ++ (spS (cs.getD k noTok)).data.toList).length + _
    have hs : (spS (cs.getD k noTok)).data.toList.length = (spS (cs.getD k noTok)).size := Array.length_toList
    rw [ih, if_pos (Nat.succ_pos k), List.length_append, List.length_append, hs]
    by_cases h : 0 < k
    · rw [if_pos h, if_pos h, List.length_singleton]
    · rw [if_neg h, if_neg h, List.length_nil]
theorem stA_le (cs : List Tok) (h : ∀ k, (spS (cs.getD k noTok)).size ≤ 19) (k : Nat) : stA cs k ≤ 20 * k := by
  induction k with
  | zero => exact Nat.le_refl _
  | succ k ih =>
    show stA cs k + (spS (cs.getD k noTok)).size + 1 ≤ _
    have := h k
    omega
theorem joinU_congr (a b : List Tok) : ∀ n, (∀ k, k < n → spS (a.getD k noTok) = spS (b.getD k noTok)) → joinU a n = joinU b n := by
  intro n
  induction n with
  | zero => intro _; rfl
  | succ n ih =>
    intro h
    show joinU a n ++ _ ++ (spS (a.getD n noTok)).data.toList = joinU b n ++ _ ++ (spS (b.getD n noTok)).data.toList
    rw [ih (fun k hk => h k (by omega)), h n (by omega)]
theorem joinU_txt (cs : List Tok) : ∀ n, joinU cs n = txt (fun k => if 0 < k then [32] else []) (fun k => (spS (cs.getD k noTok)).data.toList) n := by
  intro n
  induction n with
  | zero => rfl
  | succ n ih =>
    show joinU cs n ++ _ ++ _ = txt _ _ n ++ _ ++ _
    rw [ih]
theorem back_pure (cs : List Tok) (hl : cs.length ≤ 400) (hc : ∀ k, k < cs.length → couldB (cs.getD k noTok) = true) (hn : ∀ k, (cs.getD k noTok).n ≤ 9223372036854775807) :
    joinU (markL (plF cs) cs cs.length) cs.length = joinU cs cs.length ∧ (joinU cs cs.length).length ≤ 8192 ∧ lexO ⟨(joinU cs cs.length).toArray⟩ = (markL (plF cs) cs cs.length, 0, 0) := by
  have hW := markL_len (plF cs) cs cs.length
  have hat := markL_at (plF cs) cs cs.length
  generalize markL (plF cs) cs cs.length = W at *
  have hj : joinU W cs.length = joinU cs cs.length := joinU_congr _ _ _ (fun k hk => by rw [hat k hk hk]; rfl)
  have h19 : ∀ k, (spS (cs.getD k noTok)).size ≤ 19 := fun k => by
    by_cases h : k < cs.length
    · exact could_len (hc k h) (hn k)
    · rw [List.getD_eq_getElem?_getD, List.getElem?_eq_none (by omega)]; exact (by decide : (spS noTok).size ≤ 19)
  have hsz : (joinU cs cs.length).length ≤ 8192 := by
    have h1 := stA_join cs cs.length
    have h2 := stA_le cs h19 cs.length
    omega
  refine ⟨hj, hsz, ?_⟩
  refine lexO_path (by rw [size_txt]; exact hsz) ?_
  have hP := Path.txt W (by omega) (fun k => if 0 < k then [32] else []) (fun k => (spS (cs.getD k noTok)).data.toList) ⟨(joinU cs cs.length).toArray⟩ (by rw [hW, ← joinU_txt]) (fun k _ => by split <;> rfl) (fun k h0 _ => ⟨32, [], if_pos h0, .inl rfl⟩) (fun k hk p hp ha => ?_) W.length (Nat.le_refl _)
  · rw [List.take_length, hW, ← joinU_txt] at hP
    rw [size_txt]
    exact hP
  · rw [hW] at hk
    have hax : (⟨((spS (cs.getD k noTok)).data.toList).toArray⟩ : ByteArray) = spS (cs.getD k noTok) := by simp
    have hlen : (spS (cs.getD k noTok)).data.toList.length = (spS (cs.getD k noTok)).size := Array.length_toList
    rw [hax] at ha
    rw [hlen, hat k hk hk]
    have hpa : (stA cs k : Int) = (p : Int) := by
      rw [hp, stA_join, joinU_txt]
      by_cases h : 0 < k
      · rw [if_pos h, if_pos h]; rfl
      · rw [if_neg h, if_neg h]; rfl
    exact At.tok (t := plF cs k) (by show couldB (tA _ _) = true; rw [couldB_tA]; exact hc k hk) (hn k) hpa ha

end Go.Proofs.YtlcmfefcammklabDoor
