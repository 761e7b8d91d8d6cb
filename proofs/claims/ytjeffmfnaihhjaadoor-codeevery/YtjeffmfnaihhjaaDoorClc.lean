/- Copies: of lists of events; of a program. -/
import Derived.Test.YtjeffmfnaihhjaaDoorCdf
import Derived.Deep.RegionHeld3
import Derived.Deep.AppendLies
namespace Go.Proofs.YtjeffmfnaihhjaaDoor
open Go.RowKit Go.BigFrame
set_option linter.unusedVariables false
set_option linter.unusedSimpArgs false

theorem getD_snoc {α : Type} (l : List α) (x z : α) (j : Nat) : (l ++ [x]).getD j z = if j < l.length then l.getD j z else if j = l.length then x else z := by
  rw [List.getD_eq_getElem?_getD, List.getD_eq_getElem?_getD]
  split
  · rename_i h; rw [List.getElem?_append_left h]
  · rename_i h
    rw [List.getElem?_append_right (by omega)]
    split
    · rename_i e; rw [e, Nat.sub_self]; rfl
    · rw [List.getElem?_eq_none (by simp; omega)]; rfl
theorem take_snoc {α : Type} (l : List α) (z : α) (k : Nat) (h : k < l.length) : l.take (k + 1) = l.take k ++ [l.getD k z] := by
  rw [List.take_add_one, List.getElem?_eq_getElem h, List.getD_eq_getElem?_getD, List.getElem?_eq_getElem h]
  rfl
theorem ONst.nil {β : Type} (w : World) (b : Nat) (TS T : TypeId) (sz : Nat) (cv : β → Array Value) : ONst w b TS T sz cv (.slice none 0 0) [] [] := ⟨rfl, World.ownsRow_nil _ _ _ _, fun j hj => absurd hj (Nat.not_lt_zero _), fun i j x y g h => by simp at h⟩
theorem ONst.snoc {β : Type} {w u : World} {b : Nat} {TS T : TypeId} {sz : Nat} {cv : β → Array Value} {v v' : Value} {l : List (List β)} {ws : List Value} (N : ONst w b TS T sz cv v l ws) (x : List β) (a : Option Addr) (c zz : Nat) (hy : u.ownsRow b T sz (.slice a x.length c) x.length (fl cv x)) (keep : ∀ (s : Nat) (v : Value) (n : Nat) (xs : List Value), w.ownsRow b T s v n xs → u.ownsRow b T s v n xs) (hap : ∀ g, (Value.slice a x.length c).ownBlock = some g → zz ≤ g) (hz : w.heap.size ≤ zz) (own' : u.ownsRow b TS 1 v' (l.length + 1) (ws ++ [.slice a x.length c])) :
    ONst u b TS T sz cv v' (l ++ [x]) (ws ++ [.slice a x.length c]) := by
  have hold : ∀ j x g, j < l.length → ws[j]? = some x → x.ownBlock = some g → g < w.heap.size := fun j x g hj hx hg => by
    obtain ⟨a', c', e, O⟩ := N.inn j hj
    rw [hx] at e
    cases e
    exact (O.lt g hg).2
  refine ⟨by simp [N.len], by simpa using own', fun j hj => ?_, fun i j y z g hi hj' hy' hz' => ?_⟩
  · rw [getD_snoc]
    by_cases e : j < l.length
    · rw [if_pos e]
      obtain ⟨a', c', e1, O⟩ := N.inn j e
      exact ⟨a', c', by rw [List.getElem?_append_left (by rw [N.len]; exact e)]; exact e1, keep _ _ _ _ O⟩
    · have e2 : j = l.length := by simp at hj; omega
      rw [if_neg e, if_pos e2]
      exact ⟨a, c, by rw [List.getElem?_append_right (by rw [N.len]; omega), e2, N.len, Nat.sub_self]; rfl, hy⟩
  · have hi2 := (List.getElem?_eq_some_iff.1 hi).1
    have hj2 := (List.getElem?_eq_some_iff.1 hj').1
    simp only [List.length_append, List.length_cons, List.length_nil, N.len] at hi2 hj2
    by_cases ei : i < l.length
    · rw [List.getElem?_append_left (by rw [N.len]; exact ei)] at hi
      by_cases ej : j < l.length
      · rw [List.getElem?_append_left (by rw [N.len]; exact ej)] at hj'
        exact N.apart i j y z g hi hj' hy' hz'
      · have : j = l.length := by omega
        rw [List.getElem?_append_right (by rw [N.len]; omega), this, N.len, Nat.sub_self] at hj'
        simp at hj'
        subst hj'
        have h1 := hold i y g ei hi hy'
        have h2 := hap g hz'
        omega
    · have ei2 : i = l.length := by omega
      by_cases ej : j < l.length
      · rw [List.getElem?_append_left (by rw [N.len]; exact ej)] at hj'
        rw [List.getElem?_append_right (by rw [N.len]; omega), ei2, N.len, Nat.sub_self] at hi
        simp at hi
        subst hi
        have h1 := hold j z g ej hj' hz'
        have h2 := hap g hy'
        omega
      · omega
theorem nf_ev : (Tryd.prog.info? 69).map (fun i => (i.zero, i.size, i.bytes)) = some (some (.agg (evC zeroE)), 11, 88) := by kernel_rfl
theorem nf_evs : (Tryd.prog.info? 47).map (fun i => (i.zero, i.size, i.bytes)) = some (some (.slice none 0 0), 1, 24) := by kernel_rfl
theorem evC_one (e : Ev) : ∀ u ∈ (evC e).toList, u.oneCell' = true := fun u hu => by simp [evC] at hu; rcases hu with rfl | rfl | rfl | rfl | rfl | rfl | rfl | rfl | rfl | rfl | rfl <;> rfl
theorem intC_one (z : Int) : ∀ u ∈ (intC z).toList, u.oneCell' = true := fun u hu => by simp [intC] at hu; rcases hu with rfl; rfl
theorem insC_one (i : Ins) : ∀ u ∈ (insC i).toList, u.oneCell' = true := fun u hu => by simp [insC] at hu; rcases hu with rfl | rfl | rfl | rfl | rfl <;> rfl
theorem one_newE2 {w : World} {g : Nat} (hg : g = w.heap.size) (x : Value) (t : TypeId) (j : Nat) (u : Value) (h : [x][j]? = some u) : (w.alloc (.cells #[x] t)).cell? ((⟨g, 0, none⟩ : Addr).add j) = some u := one_newE hg x t j u h
theorem nbk {w : World} {base : Nat} {e : TypeId} {s : Nat} {v : Value} {n : Nat} {xs : List Value} (h : w.ownsRow base e s v n xs) : v.ownBlock = none ∨ v.ownBlock ≠ some w.heap.size := by
  cases hb : v.ownBlock with
  | none => exact .inl rfl
  | some g => exact .inr (fun e => by cases e; have := (h.lt _ hb).2; omega)
structure TwR (l : List (List Ev)) (w : World) (e : Ending) (w' : World) : Prop where
  ex : ∃ v ws, e = .returned v ∧ ONst w' w.heap.size 47 69 11 evC v l ws
structure TwL (l : List (List Ev)) (w : World) (v i : Value) (wr : World) : Prop where
  ex : ∃ (k : Nat) (ws : List Value), k ≤ l.length ∧ i = .int .i64 k ∧ ONst wr w.heap.size 47 69 11 evC v (l.take k) ws ∧ Below w.heap.size w wr

set_option maxRecDepth 100000 in
set_option maxHeartbeats 8000000 in
theorem twinLists_any (l : List (List Ev)) (ao : Option Addr) (cap : Nat) (w : World) (A : Nst w ao evC l) (hl : l.length * 24 ≤ 140737488351232) (hn : ∀ k, (l.getD k []).length * 88 ≤ 140737488351232) :
    Calls Tryd.prog 7 #[.slice ao l.length cap] w fun e w' => TwR l w e w' ∧ Below w.heap.size w w' := by
  obtain ⟨i1, hj, hy0, hy1, hy2⟩ := nf_info nf_evs
  go_enter Tryd.func7, Tryd.ntmps7
  go_wp2
  go_loopw [3, 4] (fun v i wr => TwL l w v i wr) (fun _ i _ => l.length - (intOf i).toNat)
  case atStart => exact ⟨⟨0, [], Nat.zero_le _, rfl, by rw [List.take_zero]; exact ONst.nil _ _ _ _ _ _, Below.refl _ _⟩⟩
  case round =>
    obtain ⟨⟨k, ws, hk, rfl, N, G⟩⟩ := hrel
    have zG := G.size
    by_cases hlt : k < l.length
    · obtain ⟨g, o, a, c, rfl, x0, f1, sl⟩ := (A.keep G) k hlt
      have hki : (k : Int) < (l.length : Int) := by omega
      have hnk := hn k
      have hts := take_snoc l [] k hlt
      have hlk : (l.take k).length = k := by simp; omega
      obtain ⟨es, hes⟩ : ∃ es, l.getD k [] = es := ⟨_, rfl⟩
      rw [hes] at x0 f1 sl hnk hts
      have HTS := show Hid (_ = _) from hts
      clear hts hes A
      obtain ⟨av, cv, rfl, _, _, _⟩ := own_form N.own
      have OE := World.ownsRow_made (base := wr.heap.size) (e := 69) (size := 11) wr #[] 0 (Nat.le_refl _) (by decide) rfl
      have G1 := galloc (Below.refl wr.heap.size wr) (.cells #[] 69)
      have f2 := f1.keep G1
      replace x0 := (G1.cell (p := ⟨g, o + k, none⟩) (lt_of_cell x0)).trans x0
      have OW0 := own_keep N.own G1
      have hnb := nbk N.own
      rw [hlk] at OW0 hnb
      rw [hlk]
      go_wp2_with (first
        | (at_builtin; refine wpList_append_flat rfl (.tmp 12) (.tmp 16) rfl Tryd.underlying47 nf_ev rfl (by decide) _ wr.heap.size 0 [] rfl OE (by simp) a es.length c (fl evC es) rfl sl f2 (fl_len evC_sz es) (fl_one evC_one _) (by omega) (by omega) ?_; intro v1 w1 O1 g1; rw [Nat.zero_add, List.nil_append] at O1; obtain ⟨a1, k1, rfl, _, _, _⟩ := own_form O1; have OW := OW0.kept g1 hnb; have hgz := g1.size)
        | (at_builtin; refine wpList_append_own _ rfl (.tmp 11) (.tmp 18) 26 rfl w.heap.size 47 i1 (.slice none 0 0) 1 24 Tryd.underlying26 hj hy0 hy1 hy2 rfl (by decide) _ _ _ rfl (OW.alloc _) ⟨w1.heap.size, 0, none⟩ 1 1 [_] rfl rfl (one_newE rfl _ _) (fun u hu => by simp at hu; subst hu; rfl) ?c3 ?c4 ?c5 ?_))
      case c3 => unfold maxLen; omega
      case c4 => omega
      case c5 => simp at hgz; simp; omega
      intro v' w2 own' hgrow _
      obtain ⟨a2, k2, rfl, _, _, _⟩ := own_form own'
      have ge := galloc (Below.refl w1.heap.size w1) (.cells #[.slice a1 es.length k1] 47)
      have OE2 := own_keep OW ge
      have keep : ∀ (s : Nat) (v : Value) (n : Nat) (xs : List Value), wr.ownsRow w.heap.size 69 s v n xs → w2.ownsRow w.heap.size 69 s v n xs := fun s v n xs h => ty_far OE2 (own_keep ((own_keep h G1).kept g1 (nbk h)) ge) (by decide) hgrow
      have hy : w2.ownsRow w.heap.size 69 11 (.slice a1 es.length k1) es.length (fl evC es) := World.ownsRow.mono (ty_far OE2 (own_keep O1 ge) (by decide) hgrow) zG
      have N2 := N.snoc es a1 k1 wr.heap.size hy keep (fun g hg => (O1.lt g hg).1) (Nat.le_refl _) (by rw [hlk]; exact own')
      have G2 : Below w.heap.size w w2 := (galloc ((galloc G (.cells #[] 69)).grown g1 (by simp; omega) (fun r e => by cases e; omega)) (.cells #[.slice a1 es.length k1] 47)).grown hgrow (by simp at hgz; simp; omega) (fun r e => by have := (OE2.lt _ e).1; omega)
      rw [← HTS.out] at N2
      have fin : TwL l w (.slice a2 (k + 1) k2) (.int .i64 ((k : Int) + 1)) w2 := ⟨⟨k + 1, ws ++ [.slice a1 es.length k1], by omega, by go_num, N2, G2⟩⟩
      clear own' hgrow keep hy N2 G2 OE2 OW OW0 O1 N f1 f2 OE
      go_wp2
      go_roundw
      case rel => exact fin
      case measure => simp [intOf]; omega
    · obtain rfl : k = l.length := by omega
      have hnk : ¬ ((l.length : Int) < (l.length : Int)) := by omega
      rw [List.take_length] at N
      go_wp2
      go_ret
      exact ⟨⟨⟨_, ws, rfl, N⟩⟩, G⟩

end Go.Proofs.YtjeffmfnaihhjaaDoor
