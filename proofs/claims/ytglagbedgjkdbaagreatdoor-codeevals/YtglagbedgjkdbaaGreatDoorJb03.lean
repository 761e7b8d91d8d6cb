/- The keywords of package api, as the row lists them, and the cells that a walk reads. And what goes with it: 4 texts in one. -/
import Derived.Test.YtglagbedgjkdbaaGreatDoorJb02
import Derived.Test.YtglagbedgjkdbaaGreatDoorRows
import Derived.WalkKit
import Derived.WalkSpells
import Derived.WalkLawsBesides
import Derived.Deep.RegionWith
import Derived.ProofKit
import Derived.OpenShut
import Derived.Lib.LaidTab
import Derived.Deep.MidRow
import Derived.Laws.IdiomStrings
import Derived.Laws.RangeAny
import Derived.Laws.BitsAllLaws
namespace Go.Proofs.YtglagbedgjkdbaaGreatDoor
open Go.RowKit
set_option linter.unusedVariables false

/-- The keywords' bytes, in their order. -/
def kwl : List (List UInt8) := [[80, 65, 84, 84, 69, 82, 78], [83, 69, 81], [85, 83, 73, 78, 71], [65, 78, 89], [78, 69, 88, 84], [83, 84, 82, 73, 67, 84], [87, 72, 69, 82, 69], [87, 73, 84, 72, 73, 78], [80, 65, 82, 84, 73, 84, 73, 79, 78], [66, 89], [82, 69, 84, 85, 82, 78], [65, 78, 68], [79, 82], [78, 79, 84], [84, 82, 85, 69], [70, 65, 76, 83, 69], [67, 79, 85, 78, 84], [83, 85, 77], [77, 73, 78], [77, 65, 88], [70, 73, 82, 83, 84], [76, 65, 83, 84], [80, 82, 69, 86], [65, 70, 84, 69, 82], [65, 76, 76], [80, 65, 83, 84], [79, 78, 67, 69]]
def kw (j : Nat) : ByteArray := ⟨(kwl.getD j []).toArray⟩
def kwcells : Array Value := (kwl.map fun b => Value.string ⟨b.toArray⟩).toArray
/-- The variable Keywords holds the keywords. -/
def KwAt (w : World) : Prop := 4 < w.heap.size ∧ ∀ j, j < 27 → w.cell? ⟨4, j, none⟩ = some (.string (kw j))
theorem KwAt.keep {w u : World} (h : KwAt w) (G : Below w.heap.size w u) : KwAt u :=
  ⟨Nat.lt_of_lt_of_le h.1 G.size, fun j hj => (G.cell (p := ⟨_, j, none⟩) h.1).trans (h.2 j hj)⟩

theorem laidMet_tail {P : Program} {x : String × DataW Unit} {r : List (String × DataW Unit)} {w : World} (h : laidMet P (x :: r) w) : laidMet P r w := by
  obtain ⟨ps, ⟨g, t, cs, fuel, p, q, hg, ht, hvar, hd, hq, rfl⟩, hn, hall⟩ := h
  refine ⟨q, hq, ?_, fun b off hm => hall b off (List.mem_append_right _ hm)⟩
  exact (List.nodup_append.1 hn).2.1

/-- A table of strings that reads as listed. -/
theorem tabS {P : Program} {W : World} {name : String} {bss : List (List UInt8)} {rest : List (String × DataW Unit)} {g n : Nat} {t e : TypeId}
    (hg : P.globalNamed name = some g) (hty : (P.globals[g]?).map (·.type) = some t) (ht : P.underlying t = some (.array n e)) (he : P.underlying e = some .string) (hce : P.cellsOf e = 1)
    (h : laidMet P ((name, .agg (bss.map fun b => .lit (.string b))) :: rest) W) : ∀ i bs, bss[i]? = some bs → W.cell? ⟨g, i, none⟩ = some (.string ⟨bs.toArray⟩) := by
  obtain ⟨ps, ⟨g', t', cs, fuel, p, q, hg', ht', hvar, hd, _, _⟩, _⟩ := h
  obtain rfl := Option.some.inj (hg.symm.trans hg')
  obtain rfl := Option.some.inj (hty.symm.trans ht')
  obtain ⟨xs, m, _, hx, hlen, hxl, hall⟩ := DataW.trod_array ht hd
  have hx1 : (bss.map fun b => (DataW.lit (.string b) : DataW Unit)) = xs.map (·.1) := by
    have := congrArg Prod.fst hx
    simpa using this
  intro i bs hi
  have h3 : (xs.map (·.1))[i]? = some (.lit (.string bs)) := by rw [← hx1]; simp [hi]
  simp only [List.getElem?_map, Option.map_eq_some_iff] at h3
  obtain ⟨y, hy, hy1⟩ := h3
  have hin : i < n := by have := (List.getElem?_eq_some_iff.1 hy).1; omega
  have h1 := hall i hin
  rw [hce, hy] at h1
  obtain ⟨sb, hcs, hxy, _⟩ := DataW.trod_string he h1
  have hb : bs = sb.data.toList := by
    have := congrArg Prod.fst hxy
    rw [hy1] at this
    simpa using this
  have hsb : (⟨bs.toArray⟩ : ByteArray) = sb := by rw [hb]
  rw [World.var?_cell hg hvar, hsb]
  have h5 := congrArg (·[0]?) hcs
  simpa [List.getElem?_take, List.getElem?_drop] using h5

theorem kwAt_of {W : World} (h : ∀ i bs, kwl[i]? = some bs → W.cell? ⟨4, i, none⟩ = some (.string ⟨bs.toArray⟩)) : KwAt W := by
  have hc : ∀ j, j < 27 → W.cell? ⟨4, j, none⟩ = some (.string (kw j)) := fun j hj => by
    have hl : j < kwl.length := by have : kwl.length = 27 := rfl; omega
    rw [h j kwl[j] (List.getElem?_eq_getElem hl)]
    simp [kw, List.getD, List.getElem?_eq_getElem hl]
  refine ⟨?_, hc⟩
  have := hc 0 (by omega)
  rcases Nat.lt_or_ge 4 W.heap.size with g | g
  · exact g
  · simp [World.cell?, Array.getElem?_eq_none g] at this

end Go.Proofs.YtglagbedgjkdbaaGreatDoor
namespace Go.Proofs.YtglagbedgjkdbaaGreatDoor.Ev
open Go.RowKit Go.BigFrame
set_option linter.unusedVariables false
set_option linter.unusedSimpArgs false

def upN (n : Int) : Int := if 97 ≤ n ∧ n ≤ 122 then n - 32 else n
def upB (b : UInt8) : UInt8 := if 97 ≤ b.toNat ∧ b.toNat ≤ 122 then b - 32 else b
theorem upB_toNat (b : UInt8) : ((upB b).toNat : Int) = upN (b.toNat : Int) := by
  unfold upB upN
  by_cases h : 97 ≤ b.toNat ∧ b.toNat ≤ 122
  · rw [if_pos h, if_pos (by omega)]
    have h32 : (32 : UInt8).toNat = 32 := rfl
    rw [UInt8.toNat_sub_of_le b 32 (by rw [UInt8.le_iff_toNat_le, h32]; omega), h32]
    omega
  · rw [if_neg h, if_neg (by omega)]
def upS (s : ByteArray) : ByteArray := ⟨s.data.map upB⟩
theorem upS_size (s : ByteArray) : (upS s).size = s.size := by show (s.data.map upB).size = s.data.size; simp

theorem byteW (s : ByteArray) (t : Nat) (h : t < s.size) (P : Program) (T : TypeId) (hT : P.underlying T = some .string) (w : World) : (Instr.index T (.string s) (.int .i64 (t : Int))).run P w = .ok (.int .u8 ((s.data.getD t 0).toNat : Int)) w := by
  rw [run_index_string w T s .i64 t hT, dif_pos ⟨by omega, by omega⟩]
  simp [ByteArray.getElem_eq_getElem_data, Array.getD, h]

def wrB (s k : ByteArray) : Bool := (upS s).toList == k.toList
theorem wrB_true {s k : ByteArray} (hs : s.size = k.size) (h : ∀ j, j < s.size → upB (s.data.getD j 0) = k.data.getD j 0) : wrB s k = true := by
  unfold wrB
  rw [ByteArray.toList_eq, ByteArray.toList_eq, beq_iff_eq, Array.toList_inj]
  have hs' : s.data.size = k.data.size := hs
  refine Array.ext (by simp [upS, hs']) fun j h1 h2 => ?_
  have hk : j < k.size := h2
  have := h j (by omega)
  have hj : j < s.size := by omega
  simpa [upS, Array.getD, hk, hj] using this
theorem wrB_size {s k : ByteArray} (hs : s.size ≠ k.size) : wrB s k = false := by
  unfold wrB
  rw [ByteArray.toList_eq, ByteArray.toList_eq, beq_eq_false_iff_ne]
  intro e
  have := congrArg List.length e
  simp [upS] at this
  exact hs this
theorem wrB_false {s k : ByteArray} (hs : s.size = k.size) {j : Nat} (hj : j < s.size) (h : upB (s.data.getD j 0) ≠ k.data.getD j 0) : wrB s k = false := by
  unfold wrB
  rw [ByteArray.toList_eq, ByteArray.toList_eq, beq_eq_false_iff_ne]
  intro e
  refine h ?_
  have hs' : s.data.size = k.data.size := hs
  have hk : j < k.size := by omega
  have h1 : s.data[j]? = some (s.data[j]'hj) := Array.getElem?_eq_getElem _
  have h2 : k.data[j]? = some (k.data[j]'hk) := Array.getElem?_eq_getElem _
  have := congrArg (fun l => l[j]?) e
  simpa [upS, Array.getD, hk, hj, h1, h2] using this

theorem more {p : Nat → Bool} {k : Nat} (h : ∀ j, j < k → p j = false) (hk : p k = false) : ∀ j, j < k + 1 → p j = false := by
  intro j hj
  rcases Nat.lt_or_ge j k with h1 | h1
  · exact h j h1
  · obtain rfl : j = k := by omega
    exact hk
theorem kw_size (j : Nat) (h : j < 27) : (kw j).size ≤ 9223372036854775807 := by
  rcases (show j = 0 ∨ j = 1 ∨ j = 2 ∨ j = 3 ∨ j = 4 ∨ j = 5 ∨ j = 6 ∨ j = 7 ∨ j = 8 ∨ j = 9 ∨ j = 10 ∨ j = 11 ∨ j = 12 ∨ j = 13 ∨ j = 14 ∨ j = 15 ∨ j = 16 ∨ j = 17 ∨ j = 18 ∨ j = 19 ∨ j = 20 ∨ j = 21 ∨ j = 22 ∨ j = 23 ∨ j = 24 ∨ j = 25 ∨ j = 26 from by omega) with rfl | rfl | rfl | rfl | rfl | rfl | rfl | rfl | rfl | rfl | rfl | rfl | rfl | rfl | rfl | rfl | rfl | rfl | rfl | rfl | rfl | rfl | rfl | rfl | rfl | rfl | rfl <;> decide
theorem kw_ix (j : Nat) (h : j < 27) : ∀ w, (Instr.index 172 (.agg kwcells) (.int .i64 (j : Int))).run Tryz.prog w = .ok (.string (kw j)) w := by
  rcases (show j = 0 ∨ j = 1 ∨ j = 2 ∨ j = 3 ∨ j = 4 ∨ j = 5 ∨ j = 6 ∨ j = 7 ∨ j = 8 ∨ j = 9 ∨ j = 10 ∨ j = 11 ∨ j = 12 ∨ j = 13 ∨ j = 14 ∨ j = 15 ∨ j = 16 ∨ j = 17 ∨ j = 18 ∨ j = 19 ∨ j = 20 ∨ j = 21 ∨ j = 22 ∨ j = 23 ∨ j = 24 ∨ j = 25 ∨ j = 26 from by omega) with rfl | rfl | rfl | rfl | rfl | rfl | rfl | rfl | rfl | rfl | rfl | rfl | rfl | rfl | rfl | rfl | rfl | rfl | rfl | rfl | rfl | rfl | rfl | rfl | rfl | rfl | rfl
  all_goals (intro w; kernel_rfl)
theorem kw_range {w : World} (K : KwAt w) : w.rangeAt 4 0 (kwl.map fun b => Value.string ⟨b.toArray⟩) := by
  intro j v hj
  have hl : j < 27 := by have := (List.getElem?_eq_some_iff.1 hj).1; simpa [kwl] using this
  rw [Nat.zero_add, K.2 j hl]
  simp only [List.getElem?_map, Option.map_eq_some_iff] at hj
  obtain ⟨b, hb, rfl⟩ := hj
  simp [kw, List.getD, hb]

theorem kw_up (j : Nat) (h : j < 27) : ∀ t, t < (kw j).size → 65 ≤ ((kw j).data.getD t 0).toNat ∧ ((kw j).data.getD t 0).toNat ≤ 90 := by
  rcases (show j = 0 ∨ j = 1 ∨ j = 2 ∨ j = 3 ∨ j = 4 ∨ j = 5 ∨ j = 6 ∨ j = 7 ∨ j = 8 ∨ j = 9 ∨ j = 10 ∨ j = 11 ∨ j = 12 ∨ j = 13 ∨ j = 14 ∨ j = 15 ∨ j = 16 ∨ j = 17 ∨ j = 18 ∨ j = 19 ∨ j = 20 ∨ j = 21 ∨ j = 22 ∨ j = 23 ∨ j = 24 ∨ j = 25 ∨ j = 26 from by omega) with rfl | rfl | rfl | rfl | rfl | rfl | rfl | rfl | rfl | rfl | rfl | rfl | rfl | rfl | rfl | rfl | rfl | rfl | rfl | rfl | rfl | rfl | rfl | rfl | rfl | rfl | rfl <;> decide

end Go.Proofs.YtglagbedgjkdbaaGreatDoor.Ev
namespace Go.Proofs.YtglagbedgjkdbaaGreatDoor.Ev
open Go.RowKit Go.BigFrame
set_option linter.unusedVariables false
set_option linter.unusedSimpArgs false

def letB (n : Int) : Bool := decide (65 ≤ n ∧ n ≤ 90 ∨ 97 ≤ n ∧ n ≤ 122)
def digB (n : Int) : Bool := decide (48 ≤ n ∧ n ≤ 57)
def inW (n : Int) : Bool := letB n || digB n || (n == 95)

set_option maxHeartbeats 1000000 in
theorem isLetter_any (n : Int) (w : World) : Calls Tryz.prog 144 #[.int .i32 n] w fun e w' => e = .returned (.bool (letB n)) ∧ w = w' := by
  obtain ⟨v, hv⟩ : ∃ v, letB n = v := ⟨_, rfl⟩
  rw [hv]
  have HV : Hid (letB n = v) := hv
  clear hv
  by_cases a : 65 ≤ n <;> by_cases b : n ≤ 90 <;> by_cases c : 97 ≤ n <;> by_cases d : n ≤ 122
  all_goals
    go_enter Tryz.func144, Tryz.ntmps144
    go_wp2
    go_ret
    refine ⟨congrArg (fun b => Ending.returned (Value.bool b)) (Eq.trans ?_ HV.out), rfl⟩
    first | exact (decide_eq_true (by omega)).symm | exact (decide_eq_false (by omega)).symm
set_option maxHeartbeats 1000000 in
theorem refLetter_any (n : Int) (w : World) : Calls Tryz.prog 156 #[.int .u8 n] w fun e w' => e = .returned (.bool (letB n)) ∧ w = w' := by
  obtain ⟨v, hv⟩ : ∃ v, letB n = v := ⟨_, rfl⟩
  rw [hv]
  have HV : Hid (letB n = v) := hv
  clear hv
  by_cases a : 65 ≤ n <;> by_cases b : n ≤ 90 <;> by_cases c : 97 ≤ n <;> by_cases d : n ≤ 122
  all_goals
    go_enter Tryz.func156, Tryz.ntmps156
    go_wp2
    go_ret
    refine ⟨congrArg (fun b => Ending.returned (Value.bool b)) (Eq.trans ?_ HV.out), rfl⟩
    first | exact (decide_eq_true (by omega)).symm | exact (decide_eq_false (by omega)).symm
set_option maxHeartbeats 400000 in
theorem isDigit_any (n : Int) (w : World) : Calls Tryz.prog 124 #[.int .i32 n] w fun e w' => e = .returned (.bool (digB n)) ∧ w = w' := by
  obtain ⟨v, hv⟩ : ∃ v, digB n = v := ⟨_, rfl⟩
  rw [hv]
  have HV : Hid (digB n = v) := hv
  clear hv
  by_cases a : 48 ≤ n <;> by_cases b : n ≤ 57
  all_goals
    go_enter Tryz.func124, Tryz.ntmps124
    go_wp2
    go_ret
    refine ⟨congrArg (fun b => Ending.returned (Value.bool b)) (Eq.trans ?_ HV.out), rfl⟩
    first | exact (decide_eq_true (by omega)).symm | exact (decide_eq_false (by omega)).symm
set_option maxHeartbeats 400000 in
theorem refDigit_any (n : Int) (w : World) : Calls Tryz.prog 151 #[.int .u8 n] w fun e w' => e = .returned (.bool (digB n)) ∧ w = w' := by
  obtain ⟨v, hv⟩ : ∃ v, digB n = v := ⟨_, rfl⟩
  rw [hv]
  have HV : Hid (digB n = v) := hv
  clear hv
  by_cases a : 48 ≤ n <;> by_cases b : n ≤ 57
  all_goals
    go_enter Tryz.func151, Tryz.ntmps151
    go_wp2
    go_ret
    refine ⟨congrArg (fun b => Ending.returned (Value.bool b)) (Eq.trans ?_ HV.out), rfl⟩
    first | exact (decide_eq_true (by omega)).symm | exact (decide_eq_false (by omega)).symm
set_option maxHeartbeats 1000000 in
theorem inWord_any (n : Int) (w : World) : Calls Tryz.prog 123 #[.int .i32 n] w fun e w' => e = .returned (.bool (inW n)) ∧ w = w' := by
  have c1 := isLetter_any n
  have c2 := isDigit_any n
  obtain ⟨v, hv⟩ : ∃ v, inW n = v := ⟨_, rfl⟩
  rw [hv]
  have HV : Hid (inW n = v) := hv
  clear hv
  cases hl : letB n <;> cases hd : digB n <;> cases h2 : (n == 95)
  all_goals
    rw [hl] at c1
    rw [hd] at c2
    go_enter Tryz.func123, Tryz.ntmps123
    go_wp2_with (first
      | (go_at_call 144; with_reducible refine (c1 _).mono ?_; rintro e u ⟨rfl, rfl⟩)
      | (go_at_call 124; with_reducible refine (c2 _).mono ?_; rintro e u ⟨rfl, rfl⟩))
    go_ret
    refine ⟨congrArg (fun b => Ending.returned (Value.bool b)) (Eq.trans ?_ HV.out), rfl⟩
    unfold inW
    rw [hl, hd, h2]
    rfl
set_option maxHeartbeats 1000000 in
theorem refInWord_any (n : Int) (w : World) : Calls Tryz.prog 150 #[.int .u8 n] w fun e w' => e = .returned (.bool (inW n)) ∧ w = w' := by
  have c1 := refLetter_any n
  have c2 := refDigit_any n
  obtain ⟨v, hv⟩ : ∃ v, inW n = v := ⟨_, rfl⟩
  rw [hv]
  have HV : Hid (inW n = v) := hv
  clear hv
  cases hl : letB n <;> cases hd : digB n <;> cases h2 : (n == 95)
  all_goals
    rw [hl] at c1
    rw [hd] at c2
    go_enter Tryz.func150, Tryz.ntmps150
    go_wp2_with (first
      | (go_at_call 156; with_reducible refine (c1 _).mono ?_; rintro e u ⟨rfl, rfl⟩)
      | (go_at_call 151; with_reducible refine (c2 _).mono ?_; rintro e u ⟨rfl, rfl⟩))
    go_ret
    refine ⟨congrArg (fun b => Ending.returned (Value.bool b)) (Eq.trans ?_ HV.out), rfl⟩
    unfold inW
    rw [hl, hd, h2]
    rfl

set_option maxHeartbeats 1000000 in
theorem alike_any (s k : ByteArray) (hs : s.size ≤ 9223372036854775807) (hk2 : k.size ≤ 9223372036854775807) (hup : ∀ t, t < k.size → 65 ≤ (k.data.getD t 0).toNat ∧ (k.data.getD t 0).toNat ≤ 90) (w : World) :
    Calls Tryz.prog 152 #[.string s, .string k] w fun e w' => e = .returned (.bool (wrB s k)) ∧ w = w' := by
  by_cases hsz : s.size = k.size
  · go_enter Tryz.func152, Tryz.ntmps152
    obtain ⟨n, hn⟩ : ∃ n, n = s.size := ⟨_, rfl⟩
    have hn2 : k.size = n := by omega
    have hn1 : s.size = n := hn.symm
    have HS : Hid (s.size = k.size) := hsz
    clear hn hsz
    go_wp2
    go_loop [5] (fun i => ∃ t : Nat, t ≤ n ∧ i = .int .i64 t ∧ (∀ j, j < t → upB (s.data.getD j 0) = k.data.getD j 0)) (fun i => n - (intOf i).toNat)
    case atStart => exact ⟨0, Nat.zero_le _, rfl, fun j hj => absurd hj (Nat.not_lt_zero _)⟩
    case round =>
      obtain ⟨t, ht, rfl, hall⟩ := hrel
      by_cases hlt : t < n
      · have i1 := byteW s t (by omega) Tryz.prog 9 (by kernel_rfl)
        have i2 := byteW k t (by omega) Tryz.prog 9 (by kernel_rfl)
        have e1 := upB_toNat (s.data.getD t 0)
        have l1 := (s.data.getD t 0).toNat_lt
        have HX : Hid (upB (s.data.getD t 0) = k.data.getD t 0 ↔ upN ((s.data.getD t 0).toNat : Int) = ((k.data.getD t 0).toNat : Int)) := by
          show _ ↔ _
          rw [← e1]
          constructor
          · intro e; rw [e]
          · intro e; exact UInt8.toNat_inj.1 (by omega)
        have u1 := hup t (by omega)
        generalize ((s.data.getD t 0).toNat) = x at *
        generalize ((k.data.getD t 0).toNat) = y at *
        clear e1
        have cy : ∀ w, Calls Tryz.prog 156 #[.int .u8 (y : Int)] w fun e w' => e = .returned (.bool true) ∧ w = w' := fun w => by
          have := refLetter_any (y : Int) w
          rwa [show letB (y : Int) = true from decide_eq_true (by omega)] at this
        cases hl : letB (x : Int)
        · have cx : ∀ w, Calls Tryz.prog 156 #[.int .u8 (x : Int)] w fun e w' => e = .returned (.bool false) ∧ w = w' := fun w => by
            have := refLetter_any (x : Int) w
            rwa [hl] at this
          have hl' : ¬ _ := of_decide_eq_false hl
          have hne : ((x : Int) == (y : Int)) = false := by simp; omega
          have hu : upN (x : Int) ≠ (y : Int) := by unfold upN; split <;> omega
          have HU : Hid (upN (x : Int) ≠ (y : Int)) := hu
          clear hl hl' hu
          go_wp2_with (go_at_call 156; with_reducible refine (cx _).mono ?_; rintro e u ⟨rfl, rfl⟩)
          go_ret
          exact ⟨by rw [wrB_false HS.out (j := t) (by omega) (fun e => HU.out (HX.out.1 e))]; rfl, rfl⟩
        · have cx : ∀ w, Calls Tryz.prog 156 #[.int .u8 (x : Int)] w fun e w' => e = .returned (.bool true) ∧ w = w' := fun w => by
            have := refLetter_any (x : Int) w
            rwa [hl] at this
          have hl' := of_decide_eq_true hl
          have hq : upN (x : Int) = (y : Int) ↔ (x : Int) % 32 = (y : Int) % 32 := by unfold upN; split <;> omega
          have HQ : Hid (upN (x : Int) = (y : Int) ↔ (x : Int) % 32 = (y : Int) % 32) := hq
          have HP : Hid (0 ≤ (x : Int) ∧ 0 ≤ (y : Int)) := ⟨by omega, by omega⟩
          clear hl hl' hq
          by_cases hm : (x : Int) % 32 = (y : Int) % 32
          · go_wp2_with (go_at_call 156; with_reducible (first | refine (cx _).mono ?_ | refine (cy _).mono ?_); rintro e u ⟨rfl, rfl⟩)
            go_round
            case rel => exact ⟨t + 1, by omega, by go_num, fun j hj => by
              rcases Nat.lt_or_ge j t with e | e
              · exact hall j e
              · obtain rfl : j = t := by omega
                exact HX.out.2 (HQ.out.2 hm)⟩
            case measure => simp [intOf]; omega
          · go_wp2_with (go_at_call 156; with_reducible (first | refine (cx _).mono ?_ | refine (cy _).mono ?_); rintro e u ⟨rfl, rfl⟩)
            go_ret
            exact ⟨by rw [wrB_false HS.out (j := t) (by omega) (fun e => hm (HQ.out.1 (HX.out.1 e)))]; rfl, rfl⟩
      · obtain rfl : t = n := by omega
        go_wp2
        go_ret
        exact ⟨by rw [wrB_true HS.out (fun j hj => hall j (by omega))]; rfl, rfl⟩
  · rw [wrB_size hsz]
    have hne : ((s.size : Int) == (k.size : Int)) = false := by simp; omega
    go_enter Tryz.func152, Tryz.ntmps152
    go_wp2
    all_goals (go_ret; exact ⟨rfl, rfl⟩)

end Go.Proofs.YtglagbedgjkdbaaGreatDoor.Ev
namespace Go.Proofs.YtglagbedgjkdbaaGreatDoor.Ev
open Go.RowKit Go.BigFrame
set_option linter.unusedVariables false
set_option linter.unusedSimpArgs false

theorem or_low (x y : Nat) (hx : x < 128) (hy : y < 128) : ¬ (128 : Int) ≤ bits .or .u8 (x : Int) (y : Int) := by
  rw [u8_or_nat x y (by omega) (by omega)]
  have := Nat.or_lt_two_pow (n := 7) hx hy
  omega

set_option maxRecDepth 100000 in
set_option maxHeartbeats 2000000 in
theorem equalFold_any (s k : ByteArray) (hs : s.size ≤ 9223372036854775807) (hk2 : k.size ≤ 9223372036854775807) (ha : ∀ t, t < s.size → (s.data.getD t 0).toNat < 128) (hup : ∀ t, t < k.size → 65 ≤ (k.data.getD t 0).toNat ∧ (k.data.getD t 0).toNat ≤ 90) (w : World) :
    Calls Tryz.prog 145 #[.string s, .string k] w fun e w' => e = .returned (.bool (wrB s k)) ∧ w = w' := by
  rcases Nat.lt_trichotomy s.size k.size with hsz | hsz | hsz
  · have hw := wrB_size (s := s) (k := k) (by omega)
    obtain ⟨n, hn⟩ : ∃ n, s.size = n := ⟨_, rfl⟩
    obtain ⟨m, hm⟩ : ∃ m, k.size = m := ⟨_, rfl⟩
    rw [hn, hm] at hsz
    have q1 : (n : Int) ≤ (m : Int) := by omega
    have q2 : (n : Int) < (m : Int) := by omega
    have q3 : ((n : Int) == (m : Int)) = false := by simp; omega
    go_enter Tryz.func145, Tryz.ntmps145
    go_wp2
    go_step3
    go_wp2
    go_loop [5] (fun i => ∃ t : Nat, t ≤ n ∧ i = .int .i64 t) (fun i => n - (intOf i).toNat)
    case atStart => exact ⟨0, Nat.zero_le _, rfl⟩
    case round =>
      obtain ⟨t, ht, rfl⟩ := hrel
      by_cases hlt : t < n
      · have i1 := byteW s t (by omega) Tryz.prog 9 (by kernel_rfl)
        have i2 := byteW k t (by omega) Tryz.prog 9 (by kernel_rfl)
        have u1 := hup t (by omega)
        have l1 := ha t (by omega)
        clear hup ha
        generalize ((s.data.getD t 0).toNat) = x at *
        generalize ((k.data.getD t 0).toNat) = y at *
        have hor := or_low x y (by omega) (by omega)
        obtain ⟨u1, u2⟩ := u1
        have v1 : (65 : Int) ≤ (y : Int) := by omega
        have v2 : (y : Int) ≤ 90 := by omega
        rcases (show x = y ∨ (y < x ∧ x = y + 32) ∨ (y < x ∧ x ≠ y + 32) ∨ (x < y ∧ 65 ≤ x) ∨ (x < y ∧ x < 65) from by omega) with c | c | c | c | c
        · skip
          subst c
          go_wp2
          exact ⟨⟨t + 1, by omega, by go_num⟩, by simp [intOf]; omega⟩
        · skip
          have d1 : ((y : Int) == (x : Int)) = false := by simp; omega
          have d2 : (y : Int) < (x : Int) := by omega
          have d3 : ((x : Int) == (y : Int) + 32) = true := by simp; omega
          have hor2 : ¬ (128 : Int) ≤ bits .or .u8 ((y : Int) + 32) (y : Int) := by simpa using or_low (y + 32) y (by omega) (by omega)
          have HC : Hid (x = y + 32) := c.2
          clear c
          go_wp2
          exact ⟨⟨t + 1, by omega, by go_num⟩, by simp [intOf]; omega⟩
        · skip
          have d1 : ((y : Int) == (x : Int)) = false := by simp; omega
          have d2 : (y : Int) < (x : Int) := by omega
          have d3 : ((x : Int) == (y : Int) + 32) = false := by simp; omega
          go_wp2
          go_ret
          exact ⟨by rw [hw]; rfl, rfl⟩
        · skip
          have d1 : ((y : Int) == (x : Int)) = false := by simp; omega
          have d2 : ¬ (y : Int) < (x : Int) := by omega
          have d4 : (65 : Int) ≤ (x : Int) := by omega
          have d5 : (x : Int) ≤ 90 := by omega
          have d3 : ((y : Int) == (x : Int) + 32) = false := by simp; omega
          go_wp2
          go_ret
          exact ⟨by rw [hw]; rfl, rfl⟩
        · skip
          have d1 : ((y : Int) == (x : Int)) = false := by simp; omega
          have d2 : ¬ (y : Int) < (x : Int) := by omega
          have d4 : ¬ (65 : Int) ≤ (x : Int) := by omega
          go_wp2
          go_ret
          exact ⟨by rw [hw]; rfl, rfl⟩
      · have h1 : t = n := by omega
        subst h1
        go_wp2
        go_ret
        exact ⟨by rw [hw]; first | rfl | simp, rfl⟩
  · obtain ⟨n, hn⟩ : ∃ n, n = s.size := ⟨_, rfl⟩
    have hn2 : k.size = n := by omega
    have hn1 : s.size = n := hn.symm
    have HS : Hid (s.size = k.size) := hsz
    clear hn hsz
    go_enter Tryz.func145, Tryz.ntmps145
    go_wp2
    go_step3
    go_wp2
    go_loop [5] (fun i => ∃ t : Nat, t ≤ n ∧ i = .int .i64 t ∧ (∀ j, j < t → upB (s.data.getD j 0) = k.data.getD j 0)) (fun i => n - (intOf i).toNat)
    case atStart => exact ⟨0, Nat.zero_le _, rfl, fun j hj => absurd hj (Nat.not_lt_zero _)⟩
    case round =>
      obtain ⟨t, ht, rfl, hall⟩ := hrel
      by_cases hlt : t < n
      · have i1 := byteW s t (by omega) Tryz.prog 9 (by kernel_rfl)
        have i2 := byteW k t (by omega) Tryz.prog 9 (by kernel_rfl)
        have e1 := upB_toNat (s.data.getD t 0)
        have HX : Hid (upB (s.data.getD t 0) = k.data.getD t 0 ↔ upN ((s.data.getD t 0).toNat : Int) = ((k.data.getD t 0).toNat : Int)) := by
          show _ ↔ _
          rw [← e1]
          constructor
          · intro e; rw [e]
          · intro e; exact UInt8.toNat_inj.1 (by omega)
        clear e1
        have u1 := hup t (by omega)
        have l1 := ha t (by omega)
        clear hup ha
        generalize ((s.data.getD t 0).toNat) = x at *
        generalize ((k.data.getD t 0).toNat) = y at *
        have hor := or_low x y (by omega) (by omega)
        obtain ⟨u1, u2⟩ := u1
        have v1 : (65 : Int) ≤ (y : Int) := by omega
        have v2 : (y : Int) ≤ 90 := by omega
        have HQ : Hid (upN (x : Int) = (y : Int) ↔ x = y ∨ x = y + 32) := by
          show _ ↔ _
          unfold upN; split <;> omega
        rcases (show x = y ∨ (y < x ∧ x = y + 32) ∨ (y < x ∧ x ≠ y + 32) ∨ (x < y ∧ 65 ≤ x) ∨ (x < y ∧ x < 65) from by omega) with c | c | c | c | c
        · skip
          subst c
          go_wp2
          refine ⟨⟨t + 1, by omega, by go_num, fun j hj => ?_⟩, by simp [intOf]; omega⟩
          rcases Nat.lt_or_ge j t with e | e
          · exact hall j e
          · obtain rfl : j = t := by omega
            exact HX.out.2 (HQ.out.2 (by first | omega | exact .inr HC.out))
        · skip
          have d1 : ((y : Int) == (x : Int)) = false := by simp; omega
          have d2 : (y : Int) < (x : Int) := by omega
          have d3 : ((x : Int) == (y : Int) + 32) = true := by simp; omega
          have hor2 : ¬ (128 : Int) ≤ bits .or .u8 ((y : Int) + 32) (y : Int) := by simpa using or_low (y + 32) y (by omega) (by omega)
          have HC : Hid (x = y + 32) := c.2
          clear c
          go_wp2
          refine ⟨⟨t + 1, by omega, by go_num, fun j hj => ?_⟩, by simp [intOf]; omega⟩
          rcases Nat.lt_or_ge j t with e | e
          · exact hall j e
          · obtain rfl : j = t := by omega
            exact HX.out.2 (HQ.out.2 (by first | omega | exact .inr HC.out))
        · skip
          have d1 : ((y : Int) == (x : Int)) = false := by simp; omega
          have d2 : (y : Int) < (x : Int) := by omega
          have d3 : ((x : Int) == (y : Int) + 32) = false := by simp; omega
          go_wp2
          go_ret
          exact ⟨by rw [wrB_false HS.out (j := t) (by omega) (fun e => by have := HQ.out.1 (HX.out.1 e); omega)]; rfl, rfl⟩
        · skip
          have d1 : ((y : Int) == (x : Int)) = false := by simp; omega
          have d2 : ¬ (y : Int) < (x : Int) := by omega
          have d4 : (65 : Int) ≤ (x : Int) := by omega
          have d5 : (x : Int) ≤ 90 := by omega
          have d3 : ((y : Int) == (x : Int) + 32) = false := by simp; omega
          go_wp2
          go_ret
          exact ⟨by rw [wrB_false HS.out (j := t) (by omega) (fun e => by have := HQ.out.1 (HX.out.1 e); omega)]; rfl, rfl⟩
        · skip
          have d1 : ((y : Int) == (x : Int)) = false := by simp; omega
          have d2 : ¬ (y : Int) < (x : Int) := by omega
          have d4 : ¬ (65 : Int) ≤ (x : Int) := by omega
          go_wp2
          go_ret
          exact ⟨by rw [wrB_false HS.out (j := t) (by omega) (fun e => by have := HQ.out.1 (HX.out.1 e); omega)]; rfl, rfl⟩
      · obtain rfl : t = n := by omega
        go_wp2
        go_ret
        exact ⟨by rw [wrB_true HS.out (fun j hj => hall j (by omega))]; rfl, rfl⟩
  · have hw := wrB_size (s := s) (k := k) (by omega)
    obtain ⟨n, hn⟩ : ∃ n, k.size = n := ⟨_, rfl⟩
    obtain ⟨m, hm⟩ : ∃ m, s.size = m := ⟨_, rfl⟩
    rw [hn, hm] at hsz
    have q1 : ¬ (m : Int) ≤ (n : Int) := by omega
    have q2 : (n : Int) < (m : Int) := by omega
    have q4 : ¬ (m : Int) < (n : Int) := by omega
    have q3 : ((m : Int) == (n : Int)) = false := by simp; omega
    go_enter Tryz.func145, Tryz.ntmps145
    go_wp2
    go_step3
    go_wp2
    go_loop [5] (fun i => ∃ t : Nat, t ≤ n ∧ i = .int .i64 t) (fun i => n - (intOf i).toNat)
    case atStart => exact ⟨0, Nat.zero_le _, rfl⟩
    case round =>
      obtain ⟨t, ht, rfl⟩ := hrel
      by_cases hlt : t < n
      · have i1 := byteW s t (by omega) Tryz.prog 9 (by kernel_rfl)
        have i2 := byteW k t (by omega) Tryz.prog 9 (by kernel_rfl)
        have u1 := hup t (by omega)
        have l1 := ha t (by omega)
        clear hup ha
        generalize ((s.data.getD t 0).toNat) = x at *
        generalize ((k.data.getD t 0).toNat) = y at *
        have hor := or_low x y (by omega) (by omega)
        obtain ⟨u1, u2⟩ := u1
        have v1 : (65 : Int) ≤ (y : Int) := by omega
        have v2 : (y : Int) ≤ 90 := by omega
        rcases (show x = y ∨ (y < x ∧ x = y + 32) ∨ (y < x ∧ x ≠ y + 32) ∨ (x < y ∧ 65 ≤ x) ∨ (x < y ∧ x < 65) from by omega) with c | c | c | c | c
        · skip
          subst c
          go_wp2
          exact ⟨⟨t + 1, by omega, by go_num⟩, by simp [intOf]; omega⟩
        · skip
          have d1 : ((y : Int) == (x : Int)) = false := by simp; omega
          have d2 : (y : Int) < (x : Int) := by omega
          have d3 : ((x : Int) == (y : Int) + 32) = true := by simp; omega
          have hor2 : ¬ (128 : Int) ≤ bits .or .u8 ((y : Int) + 32) (y : Int) := by simpa using or_low (y + 32) y (by omega) (by omega)
          have HC : Hid (x = y + 32) := c.2
          clear c
          go_wp2
          exact ⟨⟨t + 1, by omega, by go_num⟩, by simp [intOf]; omega⟩
        · skip
          have d1 : ((y : Int) == (x : Int)) = false := by simp; omega
          have d2 : (y : Int) < (x : Int) := by omega
          have d3 : ((x : Int) == (y : Int) + 32) = false := by simp; omega
          go_wp2
          go_ret
          exact ⟨by rw [hw]; rfl, rfl⟩
        · skip
          have d1 : ((y : Int) == (x : Int)) = false := by simp; omega
          have d2 : ¬ (y : Int) < (x : Int) := by omega
          have d4 : (65 : Int) ≤ (x : Int) := by omega
          have d5 : (x : Int) ≤ 90 := by omega
          have d3 : ((y : Int) == (x : Int) + 32) = false := by simp; omega
          go_wp2
          go_ret
          exact ⟨by rw [hw]; rfl, rfl⟩
        · skip
          have d1 : ((y : Int) == (x : Int)) = false := by simp; omega
          have d2 : ¬ (y : Int) < (x : Int) := by omega
          have d4 : ¬ (65 : Int) ≤ (x : Int) := by omega
          go_wp2
          go_ret
          exact ⟨by rw [hw]; rfl, rfl⟩
      · have h1 : t = n := by omega
        subst h1
        go_wp2
        go_ret
        exact ⟨by rw [hw]; first | rfl | simp, rfl⟩

/-- Is it a keyword in letters of any case? -/
def keyB (s : ByteArray) : Bool := (List.range 27).any fun j => wrB s (kw j)
theorem keyB_hit (s : ByteArray) (k : Nat) (hk : k < 27) (h : wrB s (kw k) = true) : keyB s = true := List.any_eq_true.2 ⟨k, List.mem_range.2 hk, h⟩
theorem keyB_none (s : ByteArray) (h : ∀ j, j < 27 → wrB s (kw j) = false) : keyB s = false := by
  unfold keyB
  rw [List.any_eq_false]
  intro j hj
  rw [h j (List.mem_range.1 hj)]
  decide

set_option maxRecDepth 100000 in
set_option maxHeartbeats 1000000 in
theorem isKeyword_any (s : ByteArray) (hs : s.size ≤ 9223372036854775807) (ha : ∀ t, t < s.size → (s.data.getD t 0).toNat < 128) (w : World) (K : KwAt w) :
    Calls Tryz.prog 125 #[.string s] w fun e w' => e = .returned (.bool (keyB s)) ∧ w = w' := by
  have hr := kw_range K
  go_enter Tryz.func125, Tryz.ntmps125
  go_upto_region 2 with (refine wpList_load_mid rfl 172 _ rfl 4 0 rfl _ _ hr Tryz.underlying172 rfl (by kernel_rfl) ?_)
  have hix := kw_ix
  obtain ⟨A, hA⟩ : ∃ A, A = kwcells := ⟨_, rfl⟩
  rw [show (kwl.map fun b => Value.string ⟨b.toArray⟩).toArray = A from hA.symm]
  rw [← hA] at hix
  clear hr hA K
  go_loop [6] (fun i => ∃ k : Nat, k ≤ 27 ∧ i = .int .i64 k ∧ (∀ j, j < k → wrB s (kw j) = false)) (fun i => 27 - (intOf i).toNat)
  case atStart => exact ⟨0, Nat.zero_le _, rfl, fun j hj => absurd hj (Nat.not_lt_zero _)⟩
  case round =>
    obtain ⟨k, hk, rfl, hno⟩ := hrel
    by_cases hlt : k < 27
    · have ix := hix k hlt
      have c := equalFold_any s (kw k) hs (kw_size k hlt) ha (kw_up k hlt)
      clear hix
      cases hv : wrB s (kw k)
      · rw [hv] at c
        go_wp2_with (go_at_call 145; with_reducible refine (c _).mono ?_; rintro e u ⟨rfl, rfl⟩)
        go_round
        case rel => exact ⟨k + 1, by omega, by go_num, more (p := fun j => wrB s (kw j)) hno hv⟩
        case measure => simp [intOf]; omega
      · rw [hv] at c
        go_wp2_with (go_at_call 145; with_reducible refine (c _).mono ?_; rintro e u ⟨rfl, rfl⟩)
        go_ret
        exact ⟨by rw [keyB_hit s k hlt hv]; rfl, rfl⟩
    · obtain rfl : k = 27 := by omega
      go_wp2
      go_ret
      exact ⟨by rw [keyB_none s hno]; rfl, rfl⟩

def at_ (s : ByteArray) (t : Nat) : Int := ((s.data.getD t 0).toNat : Int)
/-- Is it a name? -/
def nameB (s : ByteArray) : Bool := decide (1 ≤ s.size ∧ s.size ≤ 16 ∧ (∀ j, j < s.size → inW (at_ s j) = true) ∧ digB (at_ s 0) = false ∧ keyB s = false)

set_option maxRecDepth 100000 in
set_option maxHeartbeats 1000000 in
theorem refIsName_any (s : ByteArray) (w : World) (K : KwAt w) :
    Calls Tryz.prog 147 #[.string s] w fun e w' => e = .returned (.bool (nameB s)) ∧ w = w' := by
  obtain ⟨v, hv⟩ : ∃ v, nameB s = v := ⟨_, rfl⟩
  rw [hv]
  have HV : Hid (nameB s = v) := hv
  clear hv
  obtain ⟨n, hn⟩ : ∃ n, s.size = n := ⟨_, rfl⟩
  by_cases h1 : n < 1
  · have q1 : (n : Int) < 1 := by omega
    go_enter Tryz.func147, Tryz.ntmps147
    go_wp2
    go_ret
    exact ⟨congrArg (fun b => Ending.returned (Value.bool b)) (Eq.trans (decide_eq_false (by rw [hn]; omega)).symm HV.out), rfl⟩
  have q1 : ¬ (n : Int) < 1 := by omega
  by_cases h2 : 16 < n
  · have q2 : (16 : Int) < (n : Int) := by omega
    go_enter Tryz.func147, Tryz.ntmps147
    go_wp2
    go_ret
    exact ⟨congrArg (fun b => Ending.returned (Value.bool b)) (Eq.trans (decide_eq_false (by rw [hn]; omega)).symm HV.out), rfl⟩
  have q2 : ¬ (16 : Int) < (n : Int) := by omega
  go_enter Tryz.func147, Tryz.ntmps147
  go_wp2
  go_loop [3] (fun i => ∃ t : Nat, t ≤ n ∧ i = .int .i64 t ∧ (∀ j, j < t → inW (at_ s j) = true)) (fun i => n - (intOf i).toNat)
  case atStart => exact ⟨0, Nat.zero_le _, rfl, fun j hj => absurd hj (Nat.not_lt_zero _)⟩
  case round =>
    obtain ⟨t, ht, rfl, hall⟩ := hrel
    by_cases hlt : t < n
    · have i1 : ∀ w, (Instr.index 9 (.string s) (.int .i64 (t : Int))).run Tryz.prog w = .ok (.int .u8 (at_ s t)) w := byteW s t (by omega) Tryz.prog 9 (by kernel_rfl)
      have c := refInWord_any (at_ s t)
      have HA : Hid (∀ b, inW (at_ s t) = b → inW (at_ s t) = b) := fun _ h => h
      cases hb : inW (at_ s t)
      · rw [hb] at c
        have HB : Hid (¬ ∀ j, j < s.size → inW (at_ s j) = true) := fun e => by rw [e t (by omega)] at hb; exact absurd hb (by decide)
        generalize at_ s t = x at *
        go_wp2_with (go_at_call 150; with_reducible refine (c _).mono ?_; rintro e u ⟨rfl, rfl⟩)
        go_ret
        exact ⟨congrArg (fun b => Ending.returned (Value.bool b)) (Eq.trans (decide_eq_false (fun e => HB.out e.2.2.1)).symm HV.out), rfl⟩
      · rw [hb] at c
        have HB : Hid (∀ j, j < t + 1 → inW (at_ s j) = true) := fun j hj => by
          rcases Nat.lt_or_ge j t with e | e
          · exact hall j e
          · obtain rfl : j = t := by omega
            exact hb
        generalize at_ s t = x at *
        go_wp2_with (go_at_call 150; with_reducible refine (c _).mono ?_; rintro e u ⟨rfl, rfl⟩)
        go_round
        case rel => exact ⟨t + 1, by omega, by go_num, HB.out⟩
        case measure => simp [intOf]; omega
    · obtain rfl : t = n := by omega
      have i0 : ∀ w, (Instr.index 9 (.string s) (.int .i64 0)).run Tryz.prog w = .ok (.int .u8 (at_ s 0)) w := byteW s 0 (by omega) Tryz.prog 9 (by kernel_rfl)
      have HN : Hid (1 ≤ s.size ∧ s.size ≤ 16 ∧ (∀ j, j < s.size → inW (at_ s j) = true)) := ⟨by omega, by omega, fun j hj => hall j (by omega)⟩
      have HD : Hid (nameB s = decide (digB (at_ s 0) = false ∧ keyB s = false)) := by
        show _ = _
        unfold nameB
        exact decide_eq_decide.2 ⟨fun e => e.2.2.2, fun e => ⟨HN.out.1, HN.out.2.1, HN.out.2.2, e⟩⟩
      have c := refDigit_any (at_ s 0)
      cases hb : digB (at_ s 0)
      · rw [hb] at c
        have HD2 : Hid (v = !(keyB s)) := by show _ = _; rw [← HV.out, HD.out, hb]; cases keyB s <;> decide
        clear hb HD HV HN hall
        generalize at_ s 0 = x at *
        go_upto_region 11 with (go_at_call 151; with_reducible refine (c _).mono ?_; rintro e u ⟨rfl, rfl⟩)
        clear c i0
        go_loop [4] (fun i => ∃ k : Nat, k ≤ 27 ∧ i = .int .i64 k ∧ (∀ j, j < k → wrB s (kw j) = false)) (fun i => 27 - (intOf i).toNat)
        case atStart => exact ⟨0, Nat.zero_le _, rfl, fun j hj => absurd hj (Nat.not_lt_zero _)⟩
        case round =>
          obtain ⟨k, hk, rfl, hno⟩ := hrel
          by_cases hlt : k < 27
          · have f := K.2 k hlt
            have c := alike_any s (kw k) (by omega) (kw_size k hlt) (kw_up k hlt)
            clear K
            cases hv : wrB s (kw k)
            · rw [hv] at c
              go_wp2_with (go_at_call 152; with_reducible refine (c _).mono ?_; rintro e u ⟨rfl, rfl⟩)
              go_round
              case rel => exact ⟨k + 1, by omega, by go_num, more (p := fun j => wrB s (kw j)) hno hv⟩
              case measure => simp [intOf]; omega
            · rw [hv] at c
              go_wp2_with (go_at_call 152; with_reducible refine (c _).mono ?_; rintro e u ⟨rfl, rfl⟩)
              go_ret
              exact ⟨by rw [HD2.out, keyB_hit s k hlt hv]; rfl, rfl⟩
          · obtain rfl : k = 27 := by omega
            go_wp2
            go_ret
            exact ⟨by rw [HD2.out, keyB_none s hno]; rfl, rfl⟩
      · rw [hb] at c
        have HD2 : Hid (v = false) := by show _ = _; rw [← HV.out, HD.out, hb]; simp
        clear hb HD HV HN hall
        generalize at_ s 0 = x at *
        go_wp2_with (go_at_call 151; with_reducible refine (c _).mono ?_; rintro e u ⟨rfl, rfl⟩)
        go_ret
        exact ⟨by rw [HD2.out]; rfl, rfl⟩

end Go.Proofs.YtglagbedgjkdbaaGreatDoor.Ev
