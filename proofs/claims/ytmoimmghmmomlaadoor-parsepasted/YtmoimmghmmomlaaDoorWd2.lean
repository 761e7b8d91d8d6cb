/- What lex's and the document's Word come to, of any string: the same. -/
import Derived.Test.YtmoimmghmmomlaaDoorWd
namespace Go.Proofs.YtmoimmghmmomlaaDoor
open Go.RowKit Go.BigFrame
set_option linter.unusedVariables false
set_option linter.unusedSimpArgs false

def wordI (s : ByteArray) : Int := if (List.range 27).findIdx (fun j => wrB s (kw j)) < 27 then 30 + ((List.range 27).findIdx (fun j => wrB s (kw j)) : Int) else 1
theorem wordI_hit (s : ByteArray) (k : Nat) (hk : k < 27) (h1 : wrB s (kw k) = true) (h2 : ∀ j, j < k → wrB s (kw j) = false) : wordI s = 30 + (k : Int) := by
  have e : (List.range 27).findIdx (fun j => wrB s (kw j)) = k := by
    rw [List.findIdx_eq (by simpa using hk)]
    refine ⟨by simpa using h1, fun j hj => by simpa using h2 j hj⟩
  unfold wordI
  rw [e, if_pos hk]
theorem wordI_none (s : ByteArray) (h2 : ∀ j, j < 27 → wrB s (kw j) = false) : wordI s = 1 := by
  unfold wordI
  rw [if_neg]
  intro h
  have h1 := List.findIdx_getElem (xs := List.range 27) (p := fun j => wrB s (kw j)) (w := by simpa using h)
  simp only [List.getElem_range] at h1
  rw [h2 _ h] at h1
  exact absurd h1 (by decide)
theorem more {p : Nat → Bool} {k : Nat} (h : ∀ j, j < k → p j = false) (hk : p k = false) : ∀ j, j < k + 1 → p j = false := by
  intro j hj
  rcases Nat.lt_or_ge j k with h1 | h1
  · exact h j h1
  · obtain rfl : j = k := by omega
    exact hk
theorem kw_size (j : Nat) (h : j < 27) : (kw j).size ≤ 9223372036854775807 := by
  rcases (show j = 0 ∨ j = 1 ∨ j = 2 ∨ j = 3 ∨ j = 4 ∨ j = 5 ∨ j = 6 ∨ j = 7 ∨ j = 8 ∨ j = 9 ∨ j = 10 ∨ j = 11 ∨ j = 12 ∨ j = 13 ∨ j = 14 ∨ j = 15 ∨ j = 16 ∨ j = 17 ∨ j = 18 ∨ j = 19 ∨ j = 20 ∨ j = 21 ∨ j = 22 ∨ j = 23 ∨ j = 24 ∨ j = 25 ∨ j = 26 from by omega) with rfl | rfl | rfl | rfl | rfl | rfl | rfl | rfl | rfl | rfl | rfl | rfl | rfl | rfl | rfl | rfl | rfl | rfl | rfl | rfl | rfl | rfl | rfl | rfl | rfl | rfl | rfl <;> decide
theorem kw_ix (j : Nat) (h : j < 27) : ∀ w, (Instr.index 126 (.agg kwcells) (.int .i64 (j : Int))).run Tryd.prog w = .ok (.string (kw j)) w := by
  rcases (show j = 0 ∨ j = 1 ∨ j = 2 ∨ j = 3 ∨ j = 4 ∨ j = 5 ∨ j = 6 ∨ j = 7 ∨ j = 8 ∨ j = 9 ∨ j = 10 ∨ j = 11 ∨ j = 12 ∨ j = 13 ∨ j = 14 ∨ j = 15 ∨ j = 16 ∨ j = 17 ∨ j = 18 ∨ j = 19 ∨ j = 20 ∨ j = 21 ∨ j = 22 ∨ j = 23 ∨ j = 24 ∨ j = 25 ∨ j = 26 from by omega) with rfl | rfl | rfl | rfl | rfl | rfl | rfl | rfl | rfl | rfl | rfl | rfl | rfl | rfl | rfl | rfl | rfl | rfl | rfl | rfl | rfl | rfl | rfl | rfl | rfl | rfl | rfl
  all_goals (intro w; kernel_rfl)
theorem kw_range {w : World} (K : KwAt w) : w.rangeAt 1 0 (kwl.map fun b => Value.string ⟨b.toArray⟩) := by
  intro j v hj
  have hl : j < 27 := by have := (List.getElem?_eq_some_iff.1 hj).1; simpa [kwl] using this
  rw [Nat.zero_add, K.2 j hl]
  simp only [List.getElem?_map, Option.map_eq_some_iff] at hj
  obtain ⟨b, hb, rfl⟩ := hj
  simp [kw, List.getD, hb]

set_option maxRecDepth 100000 in
set_option maxHeartbeats 1000000 in
theorem word_any (s : ByteArray) (hs : s.size ≤ 9223372036854775807) (w : World) (K : KwAt w) :
    Calls Tryd.prog 63 #[.string s] w fun e w' => e = .returned (.int .i64 (wordI s)) ∧ Below w.heap.size w w' := by
  have hr := kw_range K
  go_enter Tryd.func63, Tryd.ntmps63
  go_upto_region 2 with (refine wpList_load_mid rfl 126 _ rfl 1 0 rfl _ _ hr Tryd.underlying126 rfl (by kernel_rfl) ?_)
  have hix := kw_ix
  obtain ⟨A, hA⟩ : ∃ A, A = kwcells := ⟨_, rfl⟩
  rw [show (kwl.map fun b => Value.string ⟨b.toArray⟩).toArray = A from hA.symm]
  rw [← hA] at hix
  clear hr hA
  go_loopw [6] (fun i wr => ∃ k : Nat, k ≤ 27 ∧ i = .int .i64 k ∧ (∀ j, j < k → wrB s (kw j) = false) ∧ Below w.heap.size w wr) (fun i _ => 27 - (intOf i).toNat)
  case atStart => exact ⟨0, Nat.zero_le _, rfl, fun j hj => absurd hj (Nat.not_lt_zero _), Below.refl _ _⟩
  case round =>
    obtain ⟨k, hk, rfl, hno, G⟩ := hrel
    by_cases hlt : k < 27
    · have ix := hix k hlt
      have c := isWrittenAs_any s (kw k) hs (kw_size k hlt)
      have HH : Hid (∀ v, wrB s (kw k) = v → wrB s (kw k) = v) := fun _ h => h
      clear hix
      cases hv : wrB s (kw k)
      · rw [hv] at c
        go_wp2_with (go_at_call 80; with_reducible refine (c _).mono ?_; rintro e u ⟨rfl, g⟩)
        go_roundw
        case rel => exact ⟨k + 1, by omega, by go_num, more (p := fun j => wrB s (kw j)) hno hv, gtrans G g⟩
        case measure => simp [intOf]; omega
      · rw [hv] at c
        go_wp2_with (go_at_call 80; with_reducible refine (c _).mono ?_; rintro e u ⟨rfl, g⟩)
        go_ret
        exact ⟨by rw [wordI_hit s k hlt hv hno]; go_num, gtrans G g⟩
    · obtain rfl : k = 27 := by omega
      go_wp2
      go_ret
      exact ⟨by rw [wordI_none s hno]; rfl, G⟩

theorem infoB : (Tryd.prog.info? 5).map (fun i => (i.zero, i.size, i.bytes)) = some (some (.int .u8 0), 1, 1) := by kernel_rfl
theorem info_partsB : ∃ i, Tryd.prog.info? 5 = some i ∧ i.zero = some (.int .u8 0) ∧ i.size = 1 ∧ i.bytes = 1 := by
  have h := infoB
  cases hq : Tryd.prog.info? 5 with
  | none => simp [hq] at h
  | some i => simp [hq] at h; exact ⟨i, rfl, h.1, h.2.1, h.2.2⟩
def byteV (b : UInt8) : Value := .int .u8 (b.toNat : Int)
def rowB (l : List UInt8) : List Value := l.map byteV
theorem rowB_more (l : List UInt8) (k : Nat) (h : k < l.length) : rowB (l.take k) ++ [byteV (l.getD k 0)] = rowB (l.take (k + 1)) := by
  unfold rowB
  rw [List.take_add_one]
  simp only [List.map_append, List.getD, List.getElem?_eq_getElem h, Option.getD_some, Option.toList_some, List.map_cons, List.map_nil]
theorem one_u8 (y : Int) : ∀ u ∈ [Value.int .u8 y], u.oneCell' = true := by
  intro u hu; simp at hu; subst hu; rfl
theorem conv_own {w : World} {base n : Nat} {v : Value} {l : List UInt8} (h : w.ownsRow base 5 1 v n (rowB l)) : (convert 123 9 v).run Tryd.prog w = .ok (.string ⟨l.toArray⟩) w := by
  obtain ⟨h1, h2⟩ := h
  have hl : l.length = n := by simpa [rowB] using h1
  rcases h2 with ⟨rfl, rfl⟩ | ⟨g, cap, cur, rfl, hb, hh, hc, hm, hsz, ht⟩
  · obtain rfl := List.length_eq_zero_iff.1 hl
    rw [run_convert_bytes_string w 123 9 5 none 0 0 (by kernel_rfl) (by kernel_rfl) (by kernel_rfl)]
    rfl
  · rw [← hl]
    refine run_convert_bytes_back w 123 9 5 ⟨g, 0, none⟩ cap l (by kernel_rfl) (by kernel_rfl) (by kernel_rfl) fun j hj => ?_
    rw [Go.WideShapes.add_plain, Nat.zero_add, cell_of_row w g j cur _ (0, 0) hh]
    have e1 : cur.toList[j]? = (rowB l)[j]? := by rw [← ht, List.getElem?_take, if_pos (by omega)]
    have e2 : cur[j]? = cur.toList[j]? := by simp
    rw [e2, e1]
    simp [rowB, byteV, List.getElem?_eq_getElem hj]

end Go.Proofs.YtmoimmghmmomlaaDoor
