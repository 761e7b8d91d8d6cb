/- What lex's and the document's Word come to, of any string. -/
import Derived.Test.YtmoimmghmmomlaaDoorKw
import Derived.Test.YtmoimmghmmomlaaDoorWb
import Derived.Deep.MidRow
import Derived.OwnWalk
import Derived.Laws.IdiomStrings
namespace Go.Proofs.YtmoimmghmmomlaaDoor
open Go.RowKit Go.BigFrame
set_option linter.unusedVariables false
set_option linter.unusedSimpArgs false

def upN (n : Int) : Int := if 97 ≤ n ∧ n ≤ 122 then n - 32 else n
def upB (b : UInt8) : UInt8 := if 97 ≤ b.toNat ∧ b.toNat ≤ 122 then b - 32 else b
theorem upB_toNat (b : UInt8) : ((upB b).toNat : Int) = upN (b.toNat : Int) := by
  unfold upB upN
  by_cases h : 97 ≤ b.toNat ∧ b.toNat ≤ 122
  · rw [if_pos h, if_pos (by omega)]
    have h32 : (32 : UInt8).toNat = 32 := rfl
    rw [UInt8.toNat_sub_of_le b 32 (by rw [UInt8.le_iff_toNat_le, h32]; omega), h32]
    omega
  · rw [if_neg h, if_neg (by omega)]
def upS (s : ByteArray) : ByteArray := ⟨s.data.map upB⟩
theorem upS_size (s : ByteArray) : (upS s).size = s.size := by show (s.data.map upB).size = s.data.size; simp

set_option maxHeartbeats 400000 in
theorem capital_any (n : Int) (h0 : 0 ≤ n) (h1 : n ≤ 255) (w : World) :
    Calls Tryd.prog 96 #[.int .u8 n] w fun e w' => e = .returned (.int .u8 (upN n)) ∧ Below w.heap.size w w' := by
  by_cases a : 97 ≤ n
  · by_cases b : n ≤ 122
    · have e : upN n = n - 32 := by unfold upN; rw [if_pos ⟨a, b⟩]
      rw [e]
      go_enter Tryd.func96, Tryd.ntmps96
      go_wp2
      go_ret
      exact ⟨by go_num, Below.refl _ _⟩
    · have e : upN n = n := by unfold upN; rw [if_neg (by omega)]
      rw [e]
      go_enter Tryd.func96, Tryd.ntmps96
      go_wp2
      go_ret
      exact ⟨rfl, Below.refl _ _⟩
  · have e : upN n = n := by unfold upN; rw [if_neg (by omega)]
    rw [e]
    go_enter Tryd.func96, Tryd.ntmps96
    go_wp2
    go_ret
    exact ⟨rfl, Below.refl _ _⟩

theorem byteW (s : ByteArray) (t : Nat) (h : t < s.size) (P : Program) (T : TypeId) (hT : P.underlying T = some .string) (w : World) : (Instr.index T (.string s) (.int .i64 (t : Int))).run P w = .ok (.int .u8 ((s.data.getD t 0).toNat : Int)) w := by
  rw [run_index_string w T s .i64 t hT, dif_pos ⟨by omega, by omega⟩]
  simp [ByteArray.getElem_eq_getElem_data, Array.getD, h]

def wrB (s k : ByteArray) : Bool := (upS s).toList == k.toList
theorem wrB_true {s k : ByteArray} (hs : s.size = k.size) (h : ∀ j, j < s.size → upB (s.data.getD j 0) = k.data.getD j 0) : wrB s k = true := by
  unfold wrB
  rw [ByteArray.toList_eq, ByteArray.toList_eq, beq_iff_eq, Array.toList_inj]
  have hs' : s.data.size = k.data.size := hs
  refine Array.ext (by simp [upS, hs']) fun j h1 h2 => ?_
  have hk : j < k.size := h2
  have := h j (by omega)
  have hj : j < s.size := by omega
  simpa [upS, Array.getD, hk, hj] using this
theorem wrB_size {s k : ByteArray} (hs : s.size ≠ k.size) : wrB s k = false := by
  unfold wrB
  rw [ByteArray.toList_eq, ByteArray.toList_eq, beq_eq_false_iff_ne]
  intro e
  have := congrArg List.length e
  simp [upS] at this
  exact hs this
theorem wrB_false {s k : ByteArray} (hs : s.size = k.size) {j : Nat} (hj : j < s.size) (h : upB (s.data.getD j 0) ≠ k.data.getD j 0) : wrB s k = false := by
  unfold wrB
  rw [ByteArray.toList_eq, ByteArray.toList_eq, beq_eq_false_iff_ne]
  intro e
  refine h ?_
  have hs' : s.data.size = k.data.size := hs
  have hk : j < k.size := by omega
  have h1 : s.data[j]? = some (s.data[j]'hj) := Array.getElem?_eq_getElem _
  have h2 : k.data[j]? = some (k.data[j]'hk) := Array.getElem?_eq_getElem _
  have := congrArg (fun l => l[j]?) e
  simpa [upS, Array.getD, hk, hj, h1, h2] using this

set_option maxHeartbeats 1000000 in
theorem isWrittenAs_any (s k : ByteArray) (hk : s.size ≤ 9223372036854775807) (hk2 : k.size ≤ 9223372036854775807) (w : World) :
    Calls Tryd.prog 80 #[.string s, .string k] w fun e w' => e = .returned (.bool (wrB s k)) ∧ Below w.heap.size w w' := by
  by_cases hsz : s.size = k.size
  · go_enter Tryd.func80, Tryd.ntmps80
    obtain ⟨n, hn⟩ : ∃ n, n = s.size := ⟨_, rfl⟩
    have hn2 : k.size = n := by omega
    have hn1 : s.size = n := hn.symm
    have HS : Hid (s.size = k.size) := hsz
    clear hn hsz
    go_wp2
    go_loopw [13] (fun i wr => ∃ t : Nat, t ≤ n ∧ i = .int .i64 t ∧ (∀ j, j < t → upB (s.data.getD j 0) = k.data.getD j 0) ∧ Below w.heap.size w wr) (fun i _ => n - (intOf i).toNat)
    case atStart => exact ⟨0, Nat.zero_le _, rfl, fun j hj => absurd hj (Nat.not_lt_zero _), Below.refl _ _⟩
    case round =>
      obtain ⟨t, ht, rfl, hall, G⟩ := hrel
      by_cases hlt : t < n
      · have i1 := byteW s t (by omega) Tryd.prog 9 (by kernel_rfl)
        have i2 := byteW k t (by omega) Tryd.prog 9 (by kernel_rfl)
        have e1 := upB_toNat (s.data.getD t 0)
        have l1 := (s.data.getD t 0).toNat_lt
        have HX : Hid (upB (s.data.getD t 0) = k.data.getD t 0 ↔ upN ((s.data.getD t 0).toNat : Int) = ((k.data.getD t 0).toNat : Int)) := by
          show _ ↔ _
          rw [← e1]
          constructor
          · intro e; rw [e]
          · intro e; exact UInt8.toNat_inj.1 (by omega)
        generalize ((s.data.getD t 0).toNat) = x at *
        generalize ((k.data.getD t 0).toNat) = y at *
        have y1 : ∀ z : Ext wr, Calls Tryd.prog 96 #[.int .u8 (x : Int)] z.X (fun e w'' => e = .returned (.int .u8 (upN x)) ∧ ∃ m : Ext wr, w'' = m.X) := fun z => ext_of (capital_any x (by omega) (by omega) z.X)
        have hne : Nonempty (Ext wr) := ⟨⟨_, Below.refl _ _⟩⟩
        generalize hu : upN (x : Int) = u at *
        by_cases hc : u = (y : Int)
        · have hc' : (u == (y : Int)) = true := by simpa using hc
          go_wp2
          refine wp_region_ext (by kernel_rfl) (by kernel_rfl) ?_
          repeat (go_big_quiet_step (first | (go_at_call 96; with_reducible exact y1 _)))
          refine wpQuiet_nil ?_
          intro _ hw'
          obtain ⟨nxw, hw''⟩ := hw'
          subst hw''
          go_wp2
          go_roundw
          case rel => exact ⟨t + 1, by omega, by go_num, fun j hj => by
            rcases Nat.lt_or_ge j t with e | e
            · exact hall j e
            · obtain rfl : j = t := by omega
              exact HX.out.2 hc, gtrans G nxw.h⟩
          case measure => simp [intOf]; omega
        · have hc' : (u == (y : Int)) = false := by simpa using hc
          go_wp2
          refine wp_region_ext (by kernel_rfl) (by kernel_rfl) ?_
          repeat (go_big_quiet_step (first | (go_at_call 96; with_reducible exact y1 _)))
          refine wpQuiet_nil ?_
          intro _ hw'
          obtain ⟨nxw, hw''⟩ := hw'
          subst hw''
          go_wp2
          go_ret
          exact ⟨by rw [wrB_false HS.out (j := t) (by omega) (fun e => hc (HX.out.1 e))]; rfl, gtrans G nxw.h⟩
      · obtain rfl : t = n := by omega
        go_wp2
        go_ret
        exact ⟨by rw [wrB_true HS.out (fun j hj => hall j (by omega))]; rfl, G⟩
  · rw [wrB_size hsz]
    have hne : ((s.size : Int) == (k.size : Int)) = false := by simp; omega
    go_enter Tryd.func80, Tryd.ntmps80
    go_wp2
    all_goals (go_ret; exact ⟨rfl, Below.refl _ _⟩)

end Go.Proofs.YtmoimmghmmomlaaDoor
