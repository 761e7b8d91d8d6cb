/- The law's twinNodes, roomy, spared: a copy of the tree with marked nodes behind its end. And what goes with it: 6 texts in one. -/
import Derived.Test.YtnmppmmanigpcaaDoorJa06
import Derived.Deep.Cut
import Derived.Deep.QuietTactic
import Derived.BigQuiet
import Derived.SliceStrings
namespace Go.Proofs.YtnmppmmanigpcaaDoor
open Go.RowKit Go.BigFrame Go.Proofs.YtnmppmmanigpcaaDoor.Ev
set_option linter.unusedVariables false
set_option linter.unusedSimpArgs false

set_option maxRecDepth 100000 in
set_option maxHeartbeats 4000000 in
theorem twinN7_any (ns : List Nd) (ao : Option Addr) (cap : Nat) (w : World) (hno : ao = none → ns.length = 0 ∧ cap = 0) (A : IsNds w ao ns) (hr : ns.length * 64 ≤ 140737488351232) :
    Calls Tryd.prog 9 #[.slice ao ns.length cap] w fun e w' => ∃ v, e = .returned v ∧ w'.ownsRow w.heap.size 63 6 v ns.length (ndsV ns) ∧ Below w.heap.size w w' := by
  have B0 := galloc (Below.refl w.heap.size w) (.cells #[] 63)
  have A0 := A.keep B0
  go_enter Tryd.func9, Tryd.ntmps9
  go_wp2_with (at_builtin; refine wpList_append_nds rfl _ _ rfl _ w.heap.size 0 [] rfl (World.ownsRow_made w #[] 0 (Nat.le_refl _) (Nat.zero_le _) rfl) B0.size ao cap ns rfl hno A0 (by omega) ?_; intro v' w1 O1 g1)
  rw [Nat.zero_add, List.nil_append] at O1
  go_wp2
  go_ret
  exact ⟨_, rfl, O1, B0.grown g1 B0.size (fun k e => by cases e; exact Nat.le_refl _)⟩
/-- The mark behind a tree. -/
def mkd (i : Nat) : Nd := ⟨0, 61, eS, eS, (i : Int), 0⟩
def rmL (ns : List Nd) (k : Nat) : List Nd := ns ++ (List.range k).map mkd
theorem rmL_len (ns : List Nd) (k : Nat) : (rmL ns k).length = ns.length + k := by unfold rmL; rw [List.length_append, List.length_map, List.length_range]
theorem rmL_succ (ns : List Nd) (k : Nat) : rmL ns (k + 1) = rmL ns k ++ [mkd k] := by unfold rmL; rw [List.range_succ, List.map_append, ← List.append_assoc]; rfl
theorem rmL_low (ns : List Nd) (k j : Nat) (h : j < ns.length) : (rmL ns k).getD j noNd = ns.getD j noNd := by
  unfold rmL
  rw [List.getD_eq_getElem?_getD, List.getElem?_append_left h, ← List.getD_eq_getElem?_getD]
theorem rmL_high (ns : List Nd) (k j : Nat) (h : j < k) : (rmL ns k).getD (ns.length + j) noNd = mkd j := by
  unfold rmL
  rw [List.getD_eq_getElem?_getD, List.getElem?_append_right (by omega), Nat.add_sub_cancel_left, List.getElem?_map, List.getElem?_range h]
  rfl
/-- append of a whole row of nodes onto a row of one's own, with some room more. -/
theorem wpList_append_nds4 {w : World} {ops : Array Oper} {rest : List Oper} {o : Oper} {a : Act} {Q : Exit → Act → World → Prop} (hgd : o.guard = none) (s x : Operand)
    (ho : o.op = .call { callee := .builtin .append, args := #[s, x], argTypes := #[28, 28] }) (v : Value) (base n : Nat) (xs : List Value) (hs : a.eval s = v) (O : w.ownsRow base 63 6 v n xs) (hb : base ≤ w.heap.size)
    (ao : Option Addr) (cap : Nat) (ts : List Nd) (hx : a.eval x = .slice ao ts.length cap) (hnone : ao = none → ts.length = 0 ∧ cap = 0) (A : IsNds w ao ts) (hl : (n + ts.length) * 64 ≤ 140737488355328)
    (h : ∀ v' w', w'.ownsRow base 63 6 v' (n + ts.length) (xs ++ ndsV ts) → w.grownBy w' v.ownBlock → wpList Tryd.prog ops Q rest (a.put o.dst v') w') : wpList Tryd.prog ops Q (o :: rest) a w := by
  obtain ⟨i3, ti, tz0, tz1, tz2⟩ := of_info nd_info
  have hlen := nds_len ts
  cases ao with
  | none =>
    obtain ⟨h0, rfl⟩ := hnone rfl
    refine wpList_plain hgd fun K hK' => ?_
    have hrun := run_append_owned_none (P := Tryd.prog) w base 28 o.type 63 i3 6 Tryd.underlying28 ti v n xs O
    have hts : ts = [] := List.length_eq_zero_iff.1 h0
    subst hts
    replace hx : a.eval x = .slice none 0 0 := hx
    unfold Oper.wp
    simp [execOp, ho, resolve, invoke, builtin, hs, hx, hrun, Result.andThen]
    refine hK' _ _ (h _ _ ?_ (World.grownBy.refl _ _))
    rw [show ndsV [] = [] from rfl, List.append_nil]
    exact O
  | some ad =>
    exact wpList_append_own (w := w) hgd s x 28 ho base 63 i3 (.agg (ndA noNd)) 6 64 Tryd.underlying28 ti tz0 tz1 tz2 rfl (by decide) v n xs hs O ad ts.length cap (ndsV ts) hx hlen (nds_cells A) (nds_ones ts) (by unfold maxLen; omega) (by omega) hb (fun v' w' h1 h2 _ => h v' w' h1 h2)
set_option maxRecDepth 100000 in
set_option maxHeartbeats 4000000 in
theorem roomy_any (ns : List Nd) (ao : Option Addr) (cap : Nat) (w : World) (hno : ao = none → ns.length = 0 ∧ cap = 0) (A : IsNds w ao ns) (hr : ns.length * 64 ≤ 140737488351232) :
    Calls Tryd.prog 10 #[.slice ao ns.length cap] w fun e w' => ∃ v, e = .returned v ∧ w'.ownsRow w.heap.size 63 6 v (ns.length + 40) (ndsV (rmL ns 40)) ∧ Below w.heap.size w w' := by
  have c1 := twinN7_any ns ao cap w hno A (by omega)
  obtain ⟨n, hn⟩ : ∃ n, ns.length = n := ⟨_, rfl⟩
  rw [hn] at c1 hr ⊢
  have HR : Hid (∀ (k : Nat), k < 40 → ∀ x : Nd, (n + k + ([x] : List Nd).length) * 64 ≤ 140737488355328) := fun k hk x => by show (n + k + 1) * 64 ≤ _; omega
  go_enter Tryd.func10, Tryd.ntmps10
  go_upto_region 3 with (go_at_call 9; (with_reducible refine c1.mono ?_); rintro e u ⟨v, rfl, O1, g1⟩)
  clear c1
  go_loopw [3, 4] (fun v x wr => ∃ k : Nat, k ≤ 40 ∧ x = .int .i64 (k : Int) ∧ wr.ownsRow w.heap.size 63 6 v (n + k) (ndsV (rmL ns k)) ∧ Below w.heap.size w wr) (fun _ x _ => 40 - (intOf x).toNat)
  case atStart => exact ⟨0, by omega, rfl, by unfold rmL; simpa using O1, g1⟩
  case round =>
    obtain ⟨k, hk, rfl, O, G⟩ := hrel
    by_cases hlt : k < 40
    · have hki : (k : Int) < 40 := by omega
      have hb := bldNd ⟨0, 61, eS, eS, (k : Int), 0⟩
      have AN := nds_new ⟨0, 61, eS, eS, (k : Int), 0⟩ wr
      have G2 := galloc G (.cells (ndA ⟨0, 61, eS, eS, (k : Int), 0⟩) 63)
      have O2 := own_keep O (galloc (Below.refl wr.heap.size wr) (.cells (ndA ⟨0, 61, eS, eS, (k : Int), 0⟩) 63))
      have hz2 := G2.size
      unfold ndA at hb AN G2 O2 hz2
      dsimp only at hb AN G2 O2 hz2
      go_wp2_with (at_builtin; refine wpList_append_nds4 rfl _ _ rfl _ w.heap.size (n + k) _ rfl O2 hz2 (some ⟨wr.heap.size, 0, none⟩) 1 [⟨0, 61, eS, eS, (k : Int), 0⟩] rfl (fun h => by cases h) AN (HR.out k hlt _) ?_; intro v3 w3 O3 g3)
      have fin : w3.ownsRow w.heap.size 63 6 v3 (n + (k + 1)) (ndsV (rmL ns (k + 1))) := by
        rw [rmL_succ, ndsV_app]
        exact O3
      have G3 := G2.grown g3 hz2 (fun k e => (World.ownsRow.lt O k e).1)
      have HF := show Hid _ from fin
      clear fin O3 O2 O G2 AN hb
      go_wp2
      go_roundw
      case rel => exact ⟨k + 1, by omega, by go_num, HF.out, G3⟩
      case measure => simp [intOf]; omega
    · obtain rfl : k = 40 := by omega
      go_wp2
      go_ret
      exact ⟨_, rfl, O, G⟩
set_option maxRecDepth 100000 in
set_option maxHeartbeats 4000000 in
theorem spared_true (m : List Nd) (hm : ∀ j, j < 40 → m.getD j noNd = mkd j) (hl : m.length = 40) (ao : Option Addr) (cap : Nat) (w : World) (A : IsNds w ao m) :
    Calls Tryd.prog 15 #[.slice ao 40 cap] w fun e w' => e = .returned (.bool true) ∧ Below w.heap.size w w' := by
  go_enter Tryd.func15, Tryd.ntmps15
  go_wp2
  go_loopw [3] (fun x wr => ∃ k : Nat, k ≤ 40 ∧ x = .int .i64 (k : Int) ∧ Below w.heap.size w wr) (fun x _ => 40 - (intOf x).toNat)
  case atStart => exact ⟨0, by omega, rfl, Below.refl _ _⟩
  case round =>
    obtain ⟨k, hk, rfl, G⟩ := hrel
    by_cases hlt : k < 40
    · have hki : (k : Int) < 40 := by omega
      obtain ⟨g, o, rfl, x0, x1, x2, x3, x4, x5⟩ := (A.keep G) k (by omega)
      rw [hm k hlt] at x0 x1 x2 x3 x4 x5
      replace x0 : wr.cell? ⟨g, o + k * 6, none⟩ = some (.int .i64 0) := x0
      replace x1 : wr.cell? ⟨g, o + k * 6 + 1, none⟩ = some (.int .i64 61) := x1
      replace x2 : wr.cell? ⟨g, o + k * 6 + 2, none⟩ = some (.string ⟨#[]⟩) := x2
      replace x3 : wr.cell? ⟨g, o + k * 6 + 3, none⟩ = some (.string ⟨#[]⟩) := x3
      replace x4 : wr.cell? ⟨g, o + k * 6 + 4, none⟩ = some (.int .i64 (k : Int)) := x4
      replace x5 : wr.cell? ⟨g, o + k * 6 + 5, none⟩ = some (.int .i64 0) := x5
      clear A hm
      go_wp2
      go_roundw
      case rel => exact ⟨k + 1, by omega, by go_num, by first | exact G | exact G.drew⟩
      case measure => simp [intOf]; omega
    · obtain rfl : k = 40 := by omega
      go_wp2
      go_ret
      exact ⟨rfl, G⟩

end Go.Proofs.YtnmppmmanigpcaaDoor
namespace Go.Proofs.YtnmppmmanigpcaaDoor
open Go.RowKit Go.BigFrame
set_option linter.unusedVariables false
set_option linter.unusedSimpArgs false

/-- The slice that begins at ao with n elements holds the strings ss. -/
def IsStrs (w : World) (ao : Option Addr) (n : Nat) (ss : List ByteArray) : Prop :=
  ss.length = n ∧ n ≤ 9223372036854775807 ∧ (n = 0 ∨ ∃ b off, ao = some ⟨b, off, none⟩ ∧ b < w.heap.size ∧ ∀ j, j < n → w.cell? ⟨b, off + j, none⟩ = some (.string (ss.getD j .empty)))
theorem IsStrs.keep {w u : World} {ao : Option Addr} {n : Nat} {ss : List ByteArray} (h : IsStrs w ao n ss) (G : Below w.heap.size w u) : IsStrs u ao n ss := by
  obtain ⟨h1, h2, h4⟩ := h
  refine ⟨h1, h2, ?_⟩
  rcases h4 with h4 | ⟨b, off, e, hb, hc⟩
  · exact .inl h4
  · exact .inr ⟨b, off, e, Nat.lt_of_lt_of_le hb G.size, fun j hj => (G.cell (p := ⟨b, off + j, none⟩) hb).trans (hc j hj)⟩

theorem IsStrs.take {w : World} {ao : Option Addr} {n : Nat} {ss : List ByteArray} (h : IsStrs w ao n ss) (k : Nat) (hk : k ≤ n) : IsStrs w ao k (ss.take k) := by
  obtain ⟨h1, h2, h4⟩ := h
  refine ⟨by simp; omega, by omega, ?_⟩
  rcases h4 with h4 | ⟨b, off, e, hb, hc⟩
  · exact .inl (by omega)
  · refine .inr ⟨b, off, e, hb, fun j hj => ?_⟩
    rw [hc j (by omega)]
    simp [List.getD, List.getElem?_take, hj]

abbrev Ty := ByteArray × List ByteArray
def noTy : Ty := (.empty, [])
/-- The slice that begins at ao with n elements holds the types L. -/
def IsTypes (w : World) (ao : Option Addr) (n : Nat) (L : List Ty) : Prop :=
  L.length = n ∧ n ≤ 9223372036854775807 ∧ (n = 0 ∨ ∃ b off, ao = some ⟨b, off, none⟩ ∧ b < w.heap.size ∧ ∀ j, j < n →
    w.cell? ⟨b, off + j * 2, none⟩ = some (.string (L.getD j noTy).1) ∧ ∃ aj cj, w.cell? ⟨b, off + j * 2 + 1, none⟩ = some (.slice aj (L.getD j noTy).2.length cj) ∧ (L.getD j noTy).2.length ≤ cj ∧ IsStrs w aj (L.getD j noTy).2.length (L.getD j noTy).2)
theorem IsTypes.keep {w u : World} {ao : Option Addr} {n : Nat} {L : List Ty} (h : IsTypes w ao n L) (G : Below w.heap.size w u) : IsTypes u ao n L := by
  obtain ⟨h1, h2, h4⟩ := h
  refine ⟨h1, h2, ?_⟩
  rcases h4 with h4 | ⟨b, off, e, hb, hc⟩
  · exact .inl h4
  · refine .inr ⟨b, off, e, Nat.lt_of_lt_of_le hb G.size, fun j hj => ?_⟩
    obtain ⟨c1, aj, cj, c2, c4, c3⟩ := hc j hj
    exact ⟨(G.cell (p := ⟨b, off + j * 2, none⟩) hb).trans c1, aj, cj, (G.cell (p := ⟨b, off + j * 2 + 1, none⟩) hb).trans c2, c4, c3.keep G⟩

theorem IsTypes.take {w : World} {ao : Option Addr} {n : Nat} {L : List Ty} (h : IsTypes w ao n L) (k : Nat) (hk : k ≤ n) : IsTypes w ao k (L.take k) := by
  obtain ⟨h1, h2, h4⟩ := h
  refine ⟨by simp; omega, by omega, ?_⟩
  rcases h4 with h4 | ⟨b, off, e, hb, hc⟩
  · exact .inl (by omega)
  · refine .inr ⟨b, off, e, hb, fun j hj => ?_⟩
    have e1 : (L.take k).getD j noTy = L.getD j noTy := by simp [List.getD, List.getElem?_take, hj]
    rw [e1]
    exact hc j (by omega)
def hitB (name : ByteArray) (t : Ty) : Bool := t.1.toList == name.toList
/-- The number of the first type of that name, or -1. -/
def typeI (L : List Ty) (name : ByteArray) : Int := if L.findIdx (hitB name) < L.length then (L.findIdx (hitB name) : Int) else -1
theorem typeI_hit (L : List Ty) (name : ByteArray) (k : Nat) (hk : k < L.length) (h1 : hitB name (L.getD k noTy) = true) (h2 : ∀ j, j < k → hitB name (L.getD j noTy) = false) : typeI L name = k := by
  have e : L.findIdx (hitB name) = k := by
    rw [List.findIdx_eq hk]
    refine ⟨by simpa [List.getD, List.getElem?_eq_getElem hk] using h1, fun j hj => ?_⟩
    have := h2 j hj
    simpa [List.getD, List.getElem?_eq_getElem (show j < L.length by omega)] using this
  unfold typeI
  rw [e, if_pos hk]
theorem typeI_none (L : List Ty) (name : ByteArray) (h2 : ∀ j, j < L.length → hitB name (L.getD j noTy) = false) : typeI L name = -1 := by
  unfold typeI
  rw [if_neg]
  intro h
  have h1 := List.findIdx_getElem (xs := L) (p := hitB name) (w := h)
  have := h2 _ h
  simp only [List.getD, List.getElem?_eq_getElem h, Option.getD_some] at this
  rw [h1] at this
  exact absurd this (by decide)

theorem more {p : Nat → Bool} {k : Nat} (h : ∀ j, j < k → p j = false) (hk : p k = false) : ∀ j, j < k + 1 → p j = false := by
  intro j hj
  rcases Nat.lt_or_ge j k with h1 | h1
  · exact h j h1
  · obtain rfl : j = k := by omega
    exact hk

def eqB (a b : List ByteArray) : Bool := decide (a.length = b.length ∧ ∀ j, j < a.length → ((a.getD j .empty).toList == (b.getD j .empty).toList) = true)

end Go.Proofs.YtnmppmmanigpcaaDoor
namespace Go.Proofs.YtnmppmmanigpcaaDoor
open Go.RowKit Go.BigFrame
set_option linter.unusedVariables false
set_option linter.unusedSimpArgs false

def hitS (name s : ByteArray) : Bool := s.toList == name.toList
/-- The first place ahead of the ninth at which the list has that name, or -1. -/
def placeI (ss : List ByteArray) (name : ByteArray) : Int := if ss.findIdx (hitS name) < ss.length ∧ ss.findIdx (hitS name) < 8 then (ss.findIdx (hitS name) : Int) else -1
theorem placeI_hit (ss : List ByteArray) (name : ByteArray) (k : Nat) (hk : k < ss.length) (h8 : k < 8) (h1 : hitS name (ss.getD k .empty) = true) (h2 : ∀ j, j < k → hitS name (ss.getD j .empty) = false) : placeI ss name = k := by
  have e : ss.findIdx (hitS name) = k := by
    rw [List.findIdx_eq hk]
    refine ⟨by simpa [List.getD, List.getElem?_eq_getElem hk] using h1, fun j hj => ?_⟩
    have := h2 j hj
    simpa [List.getD, List.getElem?_eq_getElem (show j < ss.length by omega)] using this
  unfold placeI
  rw [e, if_pos ⟨hk, h8⟩]
theorem placeI_none (ss : List ByteArray) (name : ByteArray) (h2 : ∀ j, j < ss.length → j < 8 → hitS name (ss.getD j .empty) = false) : placeI ss name = -1 := by
  unfold placeI
  rw [if_neg]
  intro ⟨h, h8⟩
  have h1 := List.findIdx_getElem (xs := ss) (p := hitS name) (w := h)
  have := h2 _ h h8
  simp only [List.getD, List.getElem?_eq_getElem h, Option.getD_some] at this
  rw [h1] at this
  exact absurd this (by decide)
/-- The place of an attribute of a type. -/
def attrI (L : List Ty) (typ : Int) (name : ByteArray) : Int :=
  if 0 ≤ typ ∧ typ < L.length then (if (name.toList == [116, 115]) = true then -2 else placeI (L.getD typ.toNat noTy).2 name) else -1

set_option maxHeartbeats 400000 in
theorem hasType_any (ao : Option Addr) (n cap : Nat) (typ : Int) (w : World) (hn : n ≤ 9223372036854775807) :
    Calls Tryd.prog 110 #[.agg #[.slice ao n cap], .int .i64 typ] w fun e w' => e = .returned (.bool (decide (0 ≤ typ ∧ typ < (n : Int)))) ∧ Below w.heap.size w w' := by
  by_cases h0 : 0 ≤ typ
  · by_cases h1 : typ < (n : Int)
    · rw [decide_eq_true ⟨h0, h1⟩]
      go_enter Tryd.func110, Tryd.ntmps110
      go_wp2
      all_goals (go_ret; exact ⟨by first | rfl | simp [h0, h1], galloc (Below.refl _ _) _⟩)
    · rw [decide_eq_false (fun e => h1 e.2)]
      go_enter Tryd.func110, Tryd.ntmps110
      go_wp2
      all_goals (go_ret; exact ⟨by first | rfl | simp [h0, h1], galloc (Below.refl _ _) _⟩)
  · rw [decide_eq_false (fun e => h0 e.1)]
    have h2 : typ < 0 := by omega
    go_enter Tryd.func110, Tryd.ntmps110
    go_wp2
    all_goals (go_ret; exact ⟨by first | rfl | simp [h0], galloc (Below.refl _ _) _⟩)

set_option maxRecDepth 100000 in
set_option maxHeartbeats 1000000 in
theorem attrOf_any (ao : Option Addr) (n cap : Nat) (L : List Ty) (typ : Int) (name : ByteArray) (w : World) (h : IsTypes w ao n L) :
    Calls Tryd.prog 96 #[.agg #[.slice ao n cap], .int .i64 typ, .string name] w fun e w' => e = .returned (.int .i64 (attrI L typ name)) ∧ Below w.heap.size w w' := by
  have hL := h.1
  have hn := h.2.1
  have B := galloc (Below.refl w.heap.size w) (.cells #[.slice ao n cap] 24)
  have O := One.new w (.slice ao n cap) 24
  have ch := hasType_any ao n cap typ
  by_cases hin : 0 ≤ typ ∧ typ < (n : Int)
  · obtain ⟨t, rfl⟩ := Int.eq_ofNat_of_zero_le hin.1
    have ht : t < n := by omega
    have ea : attrI L (t : Int) name = if (name.toList == [116, 115]) = true then -2 else placeI (L.getD t noTy).2 name := by unfold attrI; rw [if_pos (by rw [hL]; exact hin)]; simp
    rw [ea]
    simp only [decide_eq_true hin] at ch
    clear ea hin
    cases hts : (name.toList == [116, 115])
    · rw [if_neg (by decide)]
      go_enter Tryd.func96, Tryd.ntmps96
      obtain ⟨_, _, q4⟩ := h.keep B
      rcases q4 with q4 | ⟨b, off, eb, hb, hcb⟩
      · omega
      subst eb
      obtain ⟨_, aj, cj, f2, _, hs⟩ := hcb t ht
      obtain ⟨ss, hss⟩ : ∃ ss, ss = (L.getD t noTy).2 := ⟨_, rfl⟩
      rw [← hss] at f2 hs ⊢
      obtain ⟨m, hm⟩ : ∃ m, m = ss.length := ⟨_, rfl⟩
      rw [← hm] at f2 hs
      have hm2 : ss.length = m := hm.symm
      clear hcb hss hm
      generalize hV : w.alloc (.cells #[.slice (some ⟨b, off, none⟩) n cap] 24) = V at B O hb f2 hs
      go_upto_region 1 with fail
      clear hV
      have o0 := O.at0
      go_upto_region 3 with (go_at_call 110; with_reducible refine (ch _ hn).mono ?_; rintro e u ⟨rfl, g⟩)
      replace O := O.keep g
      replace B := gtrans B g
      replace f2 := (g.cell (p := ⟨b, off + t * 2 + 1, none⟩) hb).trans f2
      replace hs := hs.keep g
      replace o0 := O.at0
      clear g O ch h
      go_wp2
      go_loop [22] (fun i => ∃ k : Nat, k ≤ m ∧ k ≤ 8 ∧ i = .int .i64 k ∧ (∀ j, j < k → hitS name (ss.getD j .empty) = false)) (fun i => 9 - (intOf i).toNat)
      case atStart => exact ⟨0, Nat.zero_le _, Nat.zero_le _, rfl, fun j hj => absurd hj (Nat.not_lt_zero _)⟩
      case round =>
        obtain ⟨k, hk, h8, rfl, hno⟩ := hrel
        by_cases hlt : k < m
        · obtain ⟨_, r2, r4⟩ := hs
          rcases r4 with r4 | ⟨b2, off2, eb2, hb2, hcb2⟩
          · omega
          subst eb2
          obtain ⟨x, hx⟩ : ∃ x, x = ss.getD k .empty := ⟨_, rfl⟩
          have f3 := hcb2 k hlt
          rw [← hx] at f3
          have HH : Hid (hitS name (ss.getD k .empty) = (x.toList == name.toList)) := by show _ = _; unfold hitS; rw [hx]
          clear hcb2 hx
          by_cases hk8 : k = 8
          · subst hk8
            go_wp2
            go_ret
            exact ⟨by rw [placeI_none ss name (fun j _ hj => hno j hj)]; rfl, B⟩
          · have hkk : ((k : Int) == 8) = false := by simp; omega
            cases hc : (x.toList == name.toList)
            · go_wp2
              go_round
              case rel => exact ⟨k + 1, by omega, by omega, by go_num, more (p := fun j => hitS name (ss.getD j .empty)) hno (HH.out.trans hc)⟩
              case measure => simp [intOf]; omega
            · go_wp2
              go_ret
              exact ⟨by rw [placeI_hit ss name k (by omega) (by omega) (HH.out.trans hc) hno]; rfl, B⟩
        · obtain rfl : k = m := by omega
          have r2 := hs.2.1
          go_wp2
          go_ret
          exact ⟨by rw [placeI_none ss name (fun j hj _ => hno j (by omega))]; rfl, B⟩
    · rw [if_pos rfl]
      go_enter Tryd.func96, Tryd.ntmps96
      have o0 := O.at0
      go_wp2_with (go_at_call 110; with_reducible refine (ch _ hn).mono ?_; rintro e u ⟨rfl, g⟩)
      go_ret
      exact ⟨rfl, gtrans B g⟩
  · have ea : attrI L typ name = -1 := by unfold attrI; rw [if_neg (by rw [hL]; exact hin)]
    rw [ea]
    simp only [decide_eq_false hin] at ch
    go_enter Tryd.func96, Tryd.ntmps96
    have o0 := O.at0
    go_wp2_with (go_at_call 110; with_reducible refine (ch _ hn).mono ?_; rintro e u ⟨rfl, g⟩)
    go_ret
    exact ⟨rfl, gtrans B g⟩

set_option maxRecDepth 100000 in
set_option maxHeartbeats 1000000 in
theorem refAttrOf_any (ao : Option Addr) (n cap : Nat) (L : List Ty) (typ : Int) (name : ByteArray) (w : World) (h : IsTypes w ao n L) :
    Calls Tryd.prog 29 #[.agg #[.slice ao n cap], .int .i64 typ, .string name] w fun e w' => e = .returned (.int .i64 (attrI L typ name)) ∧ Below w.heap.size w w' := by
  have hL := h.1
  have hn := h.2.1
  have B := galloc (Below.refl w.heap.size w) (.cells #[.slice ao n cap] 24)
  have O := One.new w (.slice ao n cap) 24
  by_cases hin : 0 ≤ typ ∧ typ < (n : Int)
  · obtain ⟨t, rfl⟩ := Int.eq_ofNat_of_zero_le hin.1
    have ht : t < n := by omega
    have ea : attrI L (t : Int) name = if (name.toList == [116, 115]) = true then -2 else placeI (L.getD t noTy).2 name := by unfold attrI; rw [if_pos (by rw [hL]; exact hin)]; simp
    rw [ea]
    have g1 : decide ((n : Int) ≤ (t : Int)) = false := by simp; omega
    have g2 : ((n : Int) ≤ (t : Int)) = False := by simp; omega
    clear ea hin
    cases hts : (name.toList == [116, 115])
    · rw [if_neg (by decide)]
      go_enter Tryd.func29, Tryd.ntmps29
      obtain ⟨_, _, q4⟩ := h.keep B
      rcases q4 with q4 | ⟨b, off, eb, hb, hcb⟩
      · omega
      subst eb
      obtain ⟨_, aj, cj, f2, _, hs⟩ := hcb t ht
      obtain ⟨ss, hss⟩ : ∃ ss, ss = (L.getD t noTy).2 := ⟨_, rfl⟩
      rw [← hss] at f2 hs ⊢
      obtain ⟨m, hm⟩ : ∃ m, m = ss.length := ⟨_, rfl⟩
      rw [← hm] at f2 hs
      have hm2 : ss.length = m := hm.symm
      clear hcb hss hm
      generalize hV : w.alloc (.cells #[.slice (some ⟨b, off, none⟩) n cap] 24) = V at B O hb f2 hs
      go_upto_region 1 with fail
      clear hV h
      have o0 := O.at0
      go_wp2
      go_loop [8] (fun i => ∃ k : Nat, k ≤ m ∧ k ≤ 8 ∧ i = .int .i64 k ∧ (∀ j, j < k → hitS name (ss.getD j .empty) = false)) (fun i => 9 - (intOf i).toNat)
      case atStart => exact ⟨0, Nat.zero_le _, Nat.zero_le _, rfl, fun j hj => absurd hj (Nat.not_lt_zero _)⟩
      case round =>
        obtain ⟨k, hk, h8, rfl, hno⟩ := hrel
        have r2 := hs.2.1
        by_cases hlt : k < m
        · by_cases hk8 : k = 8
          · subst hk8
            go_wp2
            go_ret
            exact ⟨by rw [placeI_none ss name (fun j _ hj => hno j hj)]; rfl, B⟩
          · obtain ⟨_, _, r4⟩ := hs
            rcases r4 with r4 | ⟨b2, off2, eb2, hb2, hcb2⟩
            · omega
            subst eb2
            obtain ⟨x, hx⟩ : ∃ x, x = ss.getD k .empty := ⟨_, rfl⟩
            have f3 := hcb2 k hlt
            rw [← hx] at f3
            have HH : Hid (hitS name (ss.getD k .empty) = (x.toList == name.toList)) := by show _ = _; unfold hitS; rw [hx]
            have hk9 : k < 8 := by omega
            clear hcb2 hx
            cases hc : (x.toList == name.toList)
            · go_wp2
              go_round
              case rel => exact ⟨k + 1, by omega, by omega, by go_num, more (p := fun j => hitS name (ss.getD j .empty)) hno (HH.out.trans hc)⟩
              case measure => simp [intOf]; omega
            · go_wp2
              go_ret
              exact ⟨by rw [placeI_hit ss name k (by omega) (by omega) (HH.out.trans hc) hno]; rfl, B⟩
        · obtain rfl : k = m := by omega
          go_wp2
          go_ret
          exact ⟨by rw [placeI_none ss name (fun j hj _ => hno j (by omega))]; rfl, B⟩
    · rw [if_pos rfl]
      go_enter Tryd.func29, Tryd.ntmps29
      have o0 := O.at0
      go_wp2
      go_ret
      exact ⟨rfl, B⟩
  · have ea : attrI L typ name = -1 := by unfold attrI; rw [if_neg (by rw [hL]; exact hin)]
    rw [ea]
    go_enter Tryd.func29, Tryd.ntmps29
    have o0 := O.at0
    by_cases h0 : typ < 0
    · go_wp2
      go_ret
      exact ⟨rfl, B⟩
    · have h1 : (n : Int) ≤ typ := by omega
      go_wp2
      go_ret
      exact ⟨rfl, B⟩

/-- The same types and attributes? -/
def eqS (L M : List Ty) : Bool := decide (L.length = M.length ∧ ∀ j, j < L.length → ((L.getD j noTy).1.toList == (M.getD j noTy).1.toList) = true ∧ eqB (L.getD j noTy).2 (M.getD j noTy).2 = true)

end Go.Proofs.YtnmppmmanigpcaaDoor
namespace Go.Proofs.YtnmppmmanigpcaaDoor
open Go.RowKit Go.BigFrame
set_option linter.unusedVariables false
set_option linter.unusedSimpArgs false

/-- Five blocks made one behind the other. -/
theorem alloc5 (w : World) (c0 c1 c2 c3 c4 : Array Value) (t0 t1 t2 t3 t4 : TypeId) {V : World} (h : ((((w.alloc (.cells c0 t0)).alloc (.cells c1 t1)).alloc (.cells c2 t2)).alloc (.cells c3 t3)).alloc (.cells c4 t4) = V) :
    Bk V w.heap.size c0 t0 ∧ Bk V (w.heap.size + 1) c1 t1 ∧ Bk V (w.heap.size + 2) c2 t2 ∧ Bk V (w.heap.size + 3) c3 t3 ∧ Bk V (w.heap.size + 4) c4 t4 ∧ Below w.heap.size w V := by
  subst h
  refine ⟨((((Bk.new w c0 t0).alloc _).alloc _).alloc _).alloc _, (((Bk.newE (by simp) c1 t1).alloc _).alloc _).alloc _, ((Bk.newE (by simp) c2 t2).alloc _).alloc _, (Bk.newE (by simp) c3 t3).alloc _, Bk.newE (by simp) c4 t4, ?_⟩
  exact galloc (galloc (galloc (galloc (galloc (Below.refl w.heap.size w) _) _) _) _) _
theorem alloc4 (w : World) (c0 c1 c2 c3 : Array Value) (t0 t1 t2 t3 : TypeId) {V : World} (h : (((w.alloc (.cells c0 t0)).alloc (.cells c1 t1)).alloc (.cells c2 t2)).alloc (.cells c3 t3) = V) :
    Bk V w.heap.size c0 t0 ∧ Bk V (w.heap.size + 1) c1 t1 ∧ Bk V (w.heap.size + 2) c2 t2 ∧ Bk V (w.heap.size + 3) c3 t3 ∧ Below w.heap.size w V := by
  subst h
  refine ⟨(((Bk.new w c0 t0).alloc _).alloc _).alloc _, ((Bk.newE (by simp) c1 t1).alloc _).alloc _, (Bk.newE (by simp) c2 t2).alloc _, Bk.newE (by simp) c3 t3, ?_⟩
  exact galloc (galloc (galloc (galloc (Below.refl w.heap.size w) _) _) _) _

end Go.Proofs.YtnmppmmanigpcaaDoor
namespace Go.Proofs.YtnmppmmanigpcaaDoor
set_option linter.unusedVariables false
set_option linter.unusedSimpArgs false

structure It where
  neg : Bool
  ty : List ByteArray
  v : ByteArray
  lo : Int
  hi : Int
structure Qy where
  items : List It
  mode : Int
  after : Int
  wh : List Nd
  within : Int
  by_ : ByteArray
  ret : List (List Nd)
structure Sps where
  items : List Int
  wh : List Int
  within : Int
  by_ : Int
  ret : List (List Int)

end Go.Proofs.YtnmppmmanigpcaaDoor
namespace Go.Proofs.YtnmppmmanigpcaaDoor
open Go.ChangeShapes Go.WideShapes Go.ChangeAt Go.RowKit Go.BigFrame
set_option linter.unusedVariables false
set_option linter.unusedSimpArgs false

def noIt : It := ⟨false, [], eS, 0, 0⟩
/-- A row of strings in memory. -/
def IsSs (w : World) (ao : Option Addr) (ss : List ByteArray) : Prop := ∀ i, i < ss.length → ∃ g o, ao = some ⟨g, o, none⟩ ∧ w.cell? ⟨g, o + i, none⟩ = some (.string (ss.getD i eS))
theorem IsSs.keep {w u : World} {ao : Option Addr} {ss : List ByteArray} (h : IsSs w ao ss) (G : Below w.heap.size w u) : IsSs u ao ss := fun i hi => by
  obtain ⟨g, o, e, a0⟩ := h i hi
  exact ⟨g, o, e, (G.cell (p := ⟨_, _, none⟩) (lt_of_cell a0)).trans a0⟩
/-- An item in memory. -/
def IsItm (w : World) (g o : Nat) (i : It) : Prop := ∃ ao c, w.cell? ⟨g, o, none⟩ = some (.bool i.neg) ∧ w.cell? ⟨g, o + 1, none⟩ = some (.slice ao i.ty.length c) ∧ w.cell? ⟨g, o + 2, none⟩ = some (.string i.v) ∧ w.cell? ⟨g, o + 3, none⟩ = some (.int .i64 i.lo) ∧ w.cell? ⟨g, o + 4, none⟩ = some (.int .i64 i.hi) ∧ IsSs w ao i.ty ∧ Sl ao i.ty.length c
theorem IsItm.keep {w u : World} {g o : Nat} {i : It} (h : IsItm w g o i) (G : Below w.heap.size w u) : IsItm u g o i := by
  obtain ⟨ao, c, a0, a1, a2, a3, a4, hs, hl⟩ := h
  exact ⟨ao, c, (G.cell (p := ⟨_, _, none⟩) (lt_of_cell a0)).trans a0, (G.cell (p := ⟨_, _, none⟩) (lt_of_cell a1)).trans a1, (G.cell (p := ⟨_, _, none⟩) (lt_of_cell a2)).trans a2, (G.cell (p := ⟨_, _, none⟩) (lt_of_cell a3)).trans a3, (G.cell (p := ⟨_, _, none⟩) (lt_of_cell a4)).trans a4, hs.keep G, hl⟩
def IsIts (w : World) (ao : Option Addr) (l : List It) : Prop := ∀ i, i < l.length → ∃ g o, ao = some ⟨g, o, none⟩ ∧ IsItm w g (o + i * 5) (l.getD i noIt)
theorem IsIts.keep {w u : World} {ao : Option Addr} {l : List It} (h : IsIts w ao l) (G : Below w.heap.size w u) : IsIts u ao l := fun i hi => by
  obtain ⟨g, o, e, a0⟩ := h i hi
  exact ⟨g, o, e, a0.keep G⟩
/-- A row of rows of nodes. -/
def IsNss (w : World) (ao : Option Addr) (l : List (List Nd)) : Prop := ∀ i, i < l.length → ∃ g o a c, ao = some ⟨g, o, none⟩ ∧ w.cell? ⟨g, o + i, none⟩ = some (.slice a (l.getD i []).length c) ∧ IsNds w a (l.getD i []) ∧ Sl a (l.getD i []).length c
theorem IsNss.keep {w u : World} {ao : Option Addr} {l : List (List Nd)} (h : IsNss w ao l) (G : Below w.heap.size w u) : IsNss u ao l := fun i hi => by
  obtain ⟨g, o, a, c, e, a0, hs, hl⟩ := h i hi
  exact ⟨g, o, a, c, e, (G.cell (p := ⟨_, _, none⟩) (lt_of_cell a0)).trans a0, hs.keep G, hl⟩
def IsIss (w : World) (ao : Option Addr) (l : List (List Int)) : Prop := ∀ i, i < l.length → ∃ g o a c, ao = some ⟨g, o, none⟩ ∧ w.cell? ⟨g, o + i, none⟩ = some (.slice a (l.getD i []).length c) ∧ IsInts w a (l.getD i []) ∧ Sl a (l.getD i []).length c
theorem IsIss.keep {w u : World} {ao : Option Addr} {l : List (List Int)} (h : IsIss w ao l) (G : Below w.heap.size w u) : IsIss u ao l := fun i hi => by
  obtain ⟨g, o, a, c, e, a0, hs, hl⟩ := h i hi
  exact ⟨g, o, a, c, e, (G.cell (p := ⟨_, _, none⟩) (lt_of_cell a0)).trans a0, hs.keep G, hl⟩
/-- A query in memory, by value. -/
structure IsQ (w : World) (q : Qy) (cs : Array Value) (ai : Option Addr) (ci : Nat) (aw : Option Addr) (cw : Nat) (ar : Option Addr) (cr : Nat) : Prop where
  eq : cs = #[.slice ai q.items.length ci, .int .i64 q.mode, .int .i64 q.after, .slice aw q.wh.length cw, .int .i64 q.within, .string q.by_, .slice ar q.ret.length cr]
  its : IsIts w ai q.items
  wh : IsNds w aw q.wh
  ret : IsNss w ar q.ret
  si : Sl ai q.items.length ci
  sw : Sl aw q.wh.length cw
  sr : Sl ar q.ret.length cr
theorem IsQ.keep {w u : World} {q : Qy} {cs : Array Value} {ai : Option Addr} {ci : Nat} {aw : Option Addr} {cw : Nat} {ar : Option Addr} {cr : Nat} (h : IsQ w q cs ai ci aw cw ar cr) (G : Below w.heap.size w u) : IsQ u q cs ai ci aw cw ar cr := ⟨h.eq, h.its.keep G, h.wh.keep G, h.ret.keep G, h.si, h.sw, h.sr⟩
structure IsSp (w : World) (s : Sps) (cs : Array Value) (ai : Option Addr) (ci : Nat) (aw : Option Addr) (cw : Nat) (ar : Option Addr) (cr : Nat) : Prop where
  eq : cs = #[.slice ai s.items.length ci, .slice aw s.wh.length cw, .int .i64 s.within, .int .i64 s.by_, .slice ar s.ret.length cr]
  its : IsInts w ai s.items
  wh : IsInts w aw s.wh
  ret : IsIss w ar s.ret
  si : Sl ai s.items.length ci
  sw : Sl aw s.wh.length cw
  sr : Sl ar s.ret.length cr
theorem IsSp.keep {w u : World} {q : Sps} {cs : Array Value} {ai : Option Addr} {ci : Nat} {aw : Option Addr} {cw : Nat} {ar : Option Addr} {cr : Nat} (h : IsSp w q cs ai ci aw cw ar cr) (G : Below w.heap.size w u) : IsSp u q cs ai ci aw cw ar cr := ⟨h.eq, h.its.keep G, h.wh.keep G, h.ret.keep G, h.si, h.sw, h.sr⟩
/-- An item that may come in. -/
structure It.fit (i : It) : Prop where
  lo : fI i.lo
  hi : fI i.hi
  v : i.v.size ≤ 140737488351232
  n : i.ty.length * 16 ≤ 140737488351232
  s : ∀ k, (i.ty.getD k eS).size ≤ 140737488351232
theorem eS_small : eS.size ≤ 140737488351232 := by decide
theorem noIt_fit : noIt.fit := ⟨⟨by decide, by decide⟩, ⟨by decide, by decide⟩, by decide, by decide, fun k => by simp [noIt]; exact eS_small⟩
/-- Trees that may come in. -/
def ndsFit (ns : List Nd) : Prop := ns.length * 64 ≤ 140737488351232 ∧ ∀ k, (ns.getD k noNd).fit
structure Qy.fit (q : Qy) : Prop where
  n : q.items.length * 64 ≤ 140737488351232
  its : ∀ k, (q.items.getD k noIt).fit
  mode : fI q.mode
  after : fI q.after
  within : fI q.within
  by_ : q.by_.size ≤ 140737488351232
  wh : ndsFit q.wh
  r : q.ret.length * 24 ≤ 140737488351232
  ret : ∀ k, ndsFit (q.ret.getD k [])
structure Sps.fit (s : Sps) : Prop where
  n : s.items.length * 8 ≤ 140737488351232
  w : s.wh.length * 8 ≤ 140737488351232
  r : s.ret.length * 24 ≤ 140737488351232
  ret : ∀ k, (s.ret.getD k []).length * 8 ≤ 140737488351232
  within : fI s.within
  by_ : fI s.by_
theorem bytesStr : Tryd.prog.bytesOf 9 = 16 := by kernel_rfl
theorem cellsStr : Tryd.prog.cellsOf 9 = 1 := by kernel_rfl
theorem spotless {w : World} {a : Addr} {v : Value} (h : w.cell? (a.add 0) = some v) : ∃ b off, a = ⟨b, off, none⟩ := by
  obtain ⟨b, off, spot⟩ := a
  cases spot with
  | none => exact ⟨b, off, rfl⟩
  | some s => have := World.cell?_spot h; simp [Addr.add] at this
section
variable {H : Type} {enc : TypeId × Value → H} {w : World} {spare : Nat → Bool} {held : Bool}

theorem open_ss {fuel : Nat} {v : Value} {y : DataW H × List MemPlace} (h : DataW.trod enc Tryd.prog w 0 spare held fuel 64 [v] = some y) (hw : ∀ n ∈ y.1.weights Tryd.prog 64, n ≤ reachBytes) :
    ∃ ao cap ss, v = .slice ao ss.length cap ∧ Sl ao ss.length cap ∧ IsSs w ao ss ∧ ss.length * 16 ≤ 140737488351232 ∧ ∀ k, (ss.getD k eS).size ≤ 140737488351232 := by
  rcases open_strings Tryd.underlying64 Tryd.underlying9 cellsStr h with ⟨hcs, _⟩ | ⟨a, len, cap, ss, hcs, _, hl, hm, hlen, hx, hcell, _⟩
  · simp only [List.cons.injEq, and_true] at hcs
    exact ⟨none, 0, [], hcs, ⟨Nat.le_refl _, fun _ => ⟨rfl, rfl⟩⟩, fun i hi => by simp at hi, by simp, fun k => by simp; exact eS_small⟩
  · simp only [List.cons.injEq, and_true] at hcs
    have hge : len ≤ ss.length := by split at hlen <;> omega
    have htl : (ss.take len).length = len := by simp; omega
    have hw0 := hw ((strs (ss.take len) : List (DataW H)).length * 16 + (strs (ss.drop len) : List (DataW H)).length * 16) (by rw [hx]; simp [DataW.weights, Tryd.underlying64, bytesStr, Nat.add_mul])
    have hbig : len * 16 ≤ 140737488351232 := by
      unfold reachBytes at hw0
      simp [strs] at hw0
      omega
    refine ⟨some a, cap, ss.take len, by rw [htl]; exact hcs, ⟨by omega, fun e => by cases e⟩, fun i hi => ?_, by rw [htl]; exact hbig, fun k => ?_⟩
    · rw [htl] at hi
      have h1 := hcell i (by omega)
      obtain ⟨b, off, rfl⟩ := spotless (hcell 0 (by omega))
      rw [add_plain] at h1
      refine ⟨b, off, rfl, ?_⟩
      rw [h1, List.getD_eq_getElem?_getD, List.getD_eq_getElem?_getD, List.getElem?_take, if_pos hi]
      rfl
    · rw [List.getD_eq_getElem?_getD]
      cases hk : (ss.take len)[k]? with
      | none => simp; exact eS_small
      | some s =>
        have hmem : s ∈ ss.take len := List.mem_of_getElem? hk
        have h5 : s.data.toList.length ≤ reachBytes := by
          refine hw _ ?_
          rw [hx]
          simp only [DataW.weights, Tryd.underlying64, List.mem_cons, List.mem_append]
          refine .inr (.inl (nd_weights (d := .lit (.string s.data.toList)) ?_ _ ?_))
          · unfold strs
            exact List.mem_map.2 ⟨s, hmem, rfl⟩
          · simp [DataW.weights]
        have h6 : s.data.toList.length = s.size := Array.length_toList
        unfold reachBytes at h5
        simp
        omega
end

end Go.Proofs.YtnmppmmanigpcaaDoor
