/- The text of a schema; what event's schemaText comes to. -/
import Derived.Test.YtkpnnofonocilaaDoorChk3
import Derived.Test.YtkpnnofonocilaaDoorTt
import Derived.Test.YtkpnnofonocilaaDoorShelf
namespace Go.Proofs.YtkpnnofonocilaaDoor
open Go.RowKit Go.BigFrame Go.Shelf
open Sk
set_option linter.unusedVariables false
set_option linter.unusedSimpArgs false


theorem firstE_zero' (f : Nat → Int) (n : Nat) (h : firstE f n = 0) (j : Nat) (hj : j < n) : f j = 0 := by
  unfold firstE at h
  cases e : ((List.range n).map f).find? (fun z => !(z == 0)) with
  | none =>
    rw [List.find?_eq_none] at e
    have := e (f j) (List.mem_map.2 ⟨j, List.mem_range.2 hj, rfl⟩)
    simpa using this
  | some z =>
    rw [e] at h
    have := List.find?_some e
    simp at this h
    exact absurd h this
theorem sch_small (L : List Ty) (h : schE L = 0) : L.length ≤ 16 ∧ ∀ j, j < L.length → (L.getD j noTy).1.size ≤ 16 ∧ (L.getD j noTy).2.length ≤ 8 ∧ ∀ i, i < (L.getD j noTy).2.length → ((L.getD j noTy).2.getD i .empty).size ≤ 16 := by
  unfold schE at h
  split at h
  · exact absurd h (by decide)
  rename_i h0
  refine ⟨by omega, fun j hj => ?_⟩
  have h1 := firstE_zero' _ _ h j hj
  unfold typeE typeF at h1
  split at h1
  · rename_i h2; exact absurd h1 h2
  rename_i h2
  split at h1
  · exact absurd h1 (by decide)
  rename_i h8
  have hn : nameB (L.getD j noTy).1 = true := by
    cases e : nameB (L.getD j noTy).1
    · exfalso; apply h2; unfold nameE; rw [e, if_pos rfl]; decide
    · rfl
  refine ⟨name_size hn, by omega, fun i hi => ?_⟩
  have h3 := firstE_zero' _ _ h1 i hi
  have : nameB ((L.getD j noTy).2.getD i .empty) = true := by
    cases e : nameB ((L.getD j noTy).2.getD i .empty)
    · exfalso; unfold attrE at h3; rw [e] at h3; simp at h3
    · rfl
  exact name_size this
theorem joinT_len (ss : List ByteArray) (h : ∀ i, i < ss.length → (ss.getD i .empty).size ≤ 16) : (joinT ss).length ≤ ss.length * 18 := by
  unfold joinT
  cases ss with
  | nil => simp [Lib.join]
  | cons x r =>
    rw [List.map_cons, Lib.join_cons]
    have hx : x.data.toList.length ≤ 16 := by have := h 0 (by simp); simpa using this
    have hr : (Lib.joinTail [44, 32] (r.map (·.data.toList))).length ≤ r.length * 18 := by
      have h' : ∀ i, i < r.length → (r.getD i .empty).size ≤ 16 := fun i hi => by have := h (i + 1) (by simp; omega); simpa using this
      clear h hx
      induction r with
      | nil => simp [Lib.joinTail]
      | cons y r ih =>
        have hy : y.data.toList.length ≤ 16 := by have := h' 0 (by simp); simpa using this
        have := ih (fun i hi => by have := h' (i + 1) (by simp; omega); simpa using this)
        unfold Lib.joinTail at this ⊢
        simp only [List.map_cons, List.flatten_cons, List.length_append, List.length_cons, List.length_nil] at this ⊢
        omega
    rw [List.length_append, List.length_cons]
    omega
theorem textU_len (L : List Ty) (h : ∀ j, j < L.length → (L.getD j noTy).1.size ≤ 16 ∧ (L.getD j noTy).2.length ≤ 8 ∧ ∀ i, i < (L.getD j noTy).2.length → ((L.getD j noTy).2.getD i .empty).size ≤ 16) (k : Nat) (hk : k ≤ L.length) : (textU L k).length ≤ k * 168 := by
  induction k with
  | zero => simp [textU]
  | succ k ih =>
    have h1 := ih (by omega)
    obtain ⟨a, b, c⟩ := h k (by omega)
    have h2 := joinT_len _ c
    have a' : (L.getD k noTy).1.data.toList.length ≤ 16 := by simpa using a
    unfold textU typeT
    simp only [List.length_append, List.length_cons, List.length_nil]
    omega

theorem typeT_size (x : ByteArray) (ss : List ByteArray) : (⟨(typeT (x, ss)).toArray⟩ : ByteArray).size = x.size + (joinT ss).length + 8 := by
  show (typeT (x, ss)).toArray.size = _
  have e : x.data.toList.length = x.size := Array.length_toList
  rw [List.size_toArray]
  unfold typeT
  simp only [List.length_append, List.length_cons, List.length_nil, e]
  omega
theorem cat5 (x : ByteArray) (J : List UInt8) : (((⟨#[116, 121, 112, 101, 32]⟩ : ByteArray) ++ x ++ ⟨#[40]⟩) ++ ⟨J.toArray⟩ ++ ⟨#[41, 10]⟩ : ByteArray) = ⟨([116, 121, 112, 101, 32] ++ x.data.toList ++ [40] ++ J ++ [41, 10]).toArray⟩ := by
  apply ByteArray.ext
  simp [ByteArray.data_append]

set_option maxRecDepth 100000 in
set_option maxHeartbeats 4000000 in
theorem schemaText_any (ao : Option Addr) (n cap : Nat) (L : List Ty) (w : World) (h : IsTypes w ao n L) (hsd : schE L = 0) :
    Calls Tryd.prog 37 #[.agg #[.slice ao n cap]] w fun e w' => e = .returned (.string ⟨(textU L n).toArray⟩) ∧ Below w.heap.size w w' := by
  have hL := h.1
  have hn := h.2.1
  obtain ⟨hs16, hsm⟩ := sch_small L hsd
  have htl := textU_len L hsm
  rw [hL] at hs16 hsm htl
  have B := galloc (galloc (Below.refl w.heap.size w) (.cells #[.slice ao n cap] 24)) (.cells #[.pointer none, .slice none 0 0] 106)
  have O := (One.new w (.slice ao n cap) 24).alloc (.cells #[.pointer none, .slice none 0 0] 106)
  have Bd : Lib.IsBuilder 106 5 (w.heap.size + 1) (w.heap.size + 1) (Lib.byteCells (textU L 0)) ((w.alloc (.cells #[.slice ao n cap] 24)).alloc (.cells #[.pointer none, .slice none 0 0] 106)) := by
    refine .inl ⟨Nat.le_refl _, .slice none 0 0, ?_, World.ownsRow_nil _ _ _ _, by simp [Value.ownBlock]⟩
    exact heap_alloc2_new w _ _
  go_enter Tryd.func37, Tryd.ntmps37
  go_upto_region 2 with fail
  generalize hV : (w.alloc (.cells #[.slice ao n cap] 24)).alloc (.cells #[.pointer none, .slice none 0 0] 106) = V at B O Bd ⊢
  have hVs : V.heap.size = w.heap.size + 1 + 1 := by rw [← hV]; simp
  clear hV
  have o0 := O.at0
  go_upto_region 3 with fail
  have hw0 := h
  go_loopw [9] (fun i wr => ∃ k : Nat, k ≤ n ∧ i = .int .i64 k ∧ Lib.IsBuilder 106 5 (w.heap.size + 1) (w.heap.size + 1) (Lib.byteCells (textU L k)) wr ∧ Below (w.heap.size + 1) V wr) (fun i _ => n - (intOf i).toNat)
  case atStart => exact ⟨0, Nat.zero_le _, rfl, Bd, Below.refl _ _⟩
  case round =>
    obtain ⟨k, hk, rfl, D, G⟩ := hrel
    have Gw : Below w.heap.size w wr := B.trans (G.mono (by omega))
    have hsz : w.heap.size + 1 + 1 ≤ wr.heap.size := by have := G.size; omega
    by_cases hlt : k < n
    · obtain ⟨_, _, q4⟩ := h.keep Gw
      rcases q4 with q4 | ⟨b, off, eb, hb, hcb⟩
      · omega
      subst eb
      obtain ⟨f1, aj, cj, f2, hmc, hs⟩ := hcb k hlt
      obtain ⟨z1, z2, z3⟩ := hsm k hlt
      have htk := htl k hk
      obtain ⟨x, hx⟩ : ∃ x, x = (L.getD k noTy).1 := ⟨_, rfl⟩
      obtain ⟨ss, hss⟩ : ∃ ss, ss = (L.getD k noTy).2 := ⟨_, rfl⟩
      have hJ := joinT_len _ z3
      rw [← hx] at f1 z1
      rw [← hss] at f2 hmc hs z2 z3 hJ
      have HT : Hid (textU L (k + 1) = textU L k ++ typeT (x, ss)) := by show textU L k ++ typeT (L.getD k noTy) = _; rw [hx, hss]
      clear hcb hx hss
      obtain ⟨m, hm⟩ : ∃ m, ss.length = m := ⟨_, rfl⟩
      rw [hm] at f2 hmc hs z2 z3 hJ
      have O1 : One wr w.heap.size (.slice (some ⟨b, off, none⟩) n cap) 24 := (G.block _ (by omega)).trans O
      go_upto_region 5 with fail
      have B5 := galloc (Below.refl wr.heap.size wr) (.cells #[.string x, .slice aj m cj] 35)
      have T5 := Two.new wr (.string x) (.slice aj m cj) 35
      have D5 := isBuilder_keep D B5
      replace hs := hs.keep B5
      generalize hW5 : wr.alloc (.cells #[.string x, .slice aj m cj] 35) = W5 at B5 T5 D5 hs ⊢
      generalize hb5 : wr.heap.size = b5 at T5 ⊢
      have lb5 : wr.heap.size ≤ W5.heap.size := B5.size
      clear hW5
      have cJ : ∀ X, Below W5.heap.size W5 X → Calls Tryd.prog 60 #[.slice aj m cj, .string ⟨#[44, 32]⟩] X fun e w' => e = .returned (.string ⟨(joinT ss).toArray⟩) ∧ Below X.heap.size X w' := fun X gX => by
        obtain ⟨_, _, r4⟩ := hs.keep gX
        rcases r4 with r4 | ⟨b2, off2, eb2, hb2, hcb2⟩
        · subst r4
          have e0 : ss = [] := List.length_eq_zero_iff.1 hm
          subst e0
          exact (Any.strings_Join_none lays_n156 bx aj cj ⟨#[44, 32]⟩ X).mono fun e w' ⟨he, hw⟩ => ⟨he, hw ▸ Below.refl _ _⟩
        · subst eb2
          have := Any.strings_Join lays_n156 bx b2 off2 cj ss ⟨#[44, 32]⟩ X (fun j y hj => by
            have hj' := (List.getElem?_eq_some_iff.1 hj).1
            rw [hcb2 j (by omega)]
            simp [List.getD, hj]) hb2 (by omega) (by omega) (by
              show (joinT ss).length ≤ _
              omega)
          rw [hm] at this
          exact this
      have t0 := T5.at0
      have t1 := T5.at1
      have st5 := T5.lt
      have hJs : (⟨(joinT ss).toArray⟩ : ByteArray).size = (joinT ss).length := by simp [ByteArray.size]
      have hJ2 : (joinT ss).length ≤ 144 := by omega
      have HC : Hid (((((⟨#[116, 121, 112, 101, 32]⟩ : ByteArray) ++ x ++ ⟨#[40]⟩) ++ ⟨(joinT ss).toArray⟩ ++ ⟨#[41, 10]⟩ : ByteArray)) = ⟨(typeT (x, ss)).toArray⟩) := cat5 x _
      have HS : Hid ((⟨(typeT (x, ss)).toArray⟩ : ByteArray).size = x.size + (joinT ss).length + 8) := typeT_size x ss
      generalize joinT ss = J at *
      clear f1 f2 o0
      have cW : ∀ X, Below W5.heap.size W5 X → Calls Tryd.prog 59 #[.pointer (some ⟨w.heap.size + 1, 0, none⟩), .string (⟨#[116, 121, 112, 101, 32]⟩ ++ x ++ ⟨#[40]⟩ ++ ⟨J.toArray⟩ ++ ⟨#[41, 10]⟩)] X fun e w' => (∃ v, e = .returned v) ∧ Lib.IsBuilder 106 5 (w.heap.size + 1) (w.heap.size + 1) (Lib.byteCells (textU L (k + 1))) w' ∧ Below (w.heap.size + 1) X w' := fun X gX => by
        rw [HC.out]
        refine (Any.Builder_WriteString lays_n166 bx (w.heap.size + 1) (w.heap.size + 1) (Lib.byteCells (textU L k)) ⟨(typeT (x, ss)).toArray⟩ X (isBuilder_keep D5 gX) (by
          rw [Lib.byteCells_length, HS.out]
          omega) (by have := gX.size; omega)).mono fun e w' ⟨he, hb, hg⟩ => ⟨⟨_, he⟩, ?_, hg⟩
        refine .inr ?_
        rw [HT.out]
        have e5 : Lib.byteCells (textU L k ++ typeT (x, ss)) = Lib.byteCells (textU L k) ++ Lib.strCells ⟨(typeT (x, ss)).toArray⟩ := by simp [Lib.byteCells, Lib.strCells]
        rw [e5]
        exact hb
      go_region_with (first
        | (go_at_call 60; with_reducible refine (cJ _ (Below.refl W5.heap.size W5).drew).mono ?_; rintro e u ⟨rfl, g⟩; replace g := gtrans (Below.refl W5.heap.size W5).drew g; obtain ⟨hc, hf⟩ := bcell g)
        | (go_at_call 59; with_reducible refine (cW _ g).mono ?_; rintro e u2 ⟨⟨v7, rfl⟩, D7, g7⟩))
      all_goals
        have G7 : Below (w.heap.size + 1) V u2 := (G.trans ((gtrans B5 g).mono (by omega))).trans g7
        clear cJ cW hc hf t0 t1 D5
        go_wp2
        go_roundw
        case rel => first | exact ⟨k + 1, by omega, by go_num, D7, G7⟩ | ((repeat apply Exists.intro); exact ⟨⟨k + 1, by omega, by go_num, D7, G7⟩, rfl⟩)
        case measure => simp [intOf]; omega
    · obtain rfl : k = n := by omega
      have c := Any.Builder_String_any lays_n169 bx (w.heap.size + 1) (w.heap.size + 1) (textU L k) wr D (by omega)
      go_wp2_with (go_at_call 61; refine c.mono ?_; rintro e u ⟨rfl, g⟩)
      go_ret
      exact ⟨rfl, Gw.trans (g.mono (by omega))⟩

end Go.Proofs.YtkpnnofonocilaaDoor
