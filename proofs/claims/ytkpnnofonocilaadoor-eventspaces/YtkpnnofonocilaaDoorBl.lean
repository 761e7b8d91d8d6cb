/- What the law's blank and gap come to. -/
import Derived.Test.YtkpnnofonocilaaDoorSl
import Derived.Test.YtkpnnofonocilaaDoorOpenI
import Derived.Test.YtkpnnofonocilaaDoorPc
namespace Go.Proofs.YtkpnnofonocilaaDoor
open Go.RowKit Go.BigFrame
set_option linter.unusedVariables false
set_option linter.unusedSimpArgs false

theorem note_take (note : ByteArray) (k : Nat) (hk : k ≤ note.size) (h1 : ∀ j, j < k → at_ note j ≠ 10) (h2 : k < note.size → at_ note k = 10) : note.extract 0 k = ⟨(note.data.toList.takeWhile nB).toArray⟩ := by
  have hl : note.data.toList.length = note.size := Array.length_toList
  apply ByteArray.ext
  apply Array.toList_inj.1
  simp only [ByteArray.data_extract, Array.toList_extract, List.extract, List.drop_zero, Nat.sub_zero]
  have hat : ∀ j (h : j < note.size), at_ note j = bI (note.data.toList[j]'(by omega)) := fun j h => by
    rw [at_byte note j h]; unfold bI; simp; rfl
  have key : ∀ (l : List UInt8) (k : Nat), k ≤ l.length → (∀ j (h : j < k) (hh : j < l.length), nB l[j] = true) → (∀ h : k < l.length, nB l[k] = false) → l.take k = l.takeWhile nB := by
    intro l
    induction l with
    | nil => intro k hk _ _; simp
    | cons c r ih =>
      intro k hk g1 g2
      cases k with
      | zero =>
        have := g2 (by simp)
        rw [List.takeWhile_cons_of_neg (by simpa using this)]
        rfl
      | succ k =>
        have h0 := g1 0 (by omega) (by simp)
        rw [List.takeWhile_cons_of_pos (by simpa using h0), List.take_succ_cons, ih k (by simpa using hk) (fun j h hh => by have := g1 (j + 1) (by omega) (by simpa using hh); simpa using this) (fun h => by have := g2 (by simpa using h); simpa using this)]
  refine key note.data.toList k (by omega) (fun j h hh => ?_) (fun h => ?_)
  · have e := h1 j h
    rw [hat j (by omega)] at e
    unfold nB notNl
    simpa using e
  · have e := h2 (by omega)
    rw [hat k (by omega)] at e
    unfold nB notNl
    rw [e]
    rfl

set_option maxRecDepth 100000 in
set_option maxHeartbeats 4000000 in
theorem blank_any (k : Int) (hk : 0 ≤ k) (note : ByteArray) (hs : note.size ≤ 140737488351232) (w : World) :
    Calls Tryd.prog 51 #[.int .i64 k, .string note] w fun e w' => e = .returned (.string ⟨(blk k note).toArray⟩) ∧ Below w.heap.size w w' := by
  have hr : k.tmod 6 = k % 6 := Int.tmod_eq_emod_of_nonneg hk
  have h6 : k % 6 = 0 ∨ k % 6 = 1 ∨ k % 6 = 2 ∨ k % 6 = 3 ∨ k % 6 = 4 ∨ k % 6 = 5 := by omega
  obtain ⟨z, hz⟩ : ∃ z, z = (⟨(blk k note).toArray⟩ : ByteArray) := ⟨_, rfl⟩
  rw [← hz]
  have HZ : Hid (z = (⟨(blk k note).toArray⟩ : ByteArray)) := hz
  clear hz
  rcases h6 with h | h | h | h | h | h
  all_goals
    rw [h] at hr
  · have HR : Hid (z = ⟨#[32]⟩) := by show _ = _; rw [HZ.out]; unfold blk; rw [h]; rfl
    clear HZ h
    go_enter Tryd.func51, Tryd.ntmps51
    go_wp2
    go_ret
    exact ⟨by rw [HR.out]; rfl, Below.refl _ _⟩
  · have HR : Hid (z = ⟨#[10]⟩) := by show _ = _; rw [HZ.out]; unfold blk; rw [h]; rfl
    clear HZ h
    go_enter Tryd.func51, Tryd.ntmps51
    go_wp2
    go_ret
    exact ⟨by rw [HR.out]; rfl, Below.refl _ _⟩
  · have HR : Hid (z = ⟨#[9, 13]⟩) := by show _ = _; rw [HZ.out]; unfold blk; rw [h]; rfl
    clear HZ h
    go_enter Tryd.func51, Tryd.ntmps51
    go_wp2
    go_ret
    exact ⟨by rw [HR.out]; rfl, Below.refl _ _⟩
  · have HR : Hid (z = ⟨#[32, 32, 10, 32]⟩) := by show _ = _; rw [HZ.out]; unfold blk; rw [h]; rfl
    clear HZ h
    go_enter Tryd.func51, Tryd.ntmps51
    go_wp2
    go_ret
    exact ⟨by rw [HR.out]; rfl, Below.refl _ _⟩
  · have HR : Hid (∀ x : ByteArray, x = ⟨(note.data.toList.takeWhile nB).toArray⟩ → (⟨#[35]⟩ : ByteArray) ++ x ++ ⟨#[10]⟩ = z) := fun x hx => by
      rw [HZ.out, hx]
      unfold blk
      rw [h]
      apply ByteArray.ext
      simp [ByteArray.data_append]
    clear HZ h
    have HN : Hid (∀ k : Nat, k ≤ note.size → (∀ j, j < k → at_ note j ≠ 10) → (k < note.size → at_ note k = 10) → note.extract 0 k = ⟨(note.data.toList.takeWhile nB).toArray⟩) := fun k => note_take note k
    go_enter Tryd.func51, Tryd.ntmps51
    go_wp2
    go_loop [5] (fun x => ∃ k : Nat, x = .int .i64 k ∧ k ≤ note.size ∧ ∀ j, j < k → at_ note j ≠ 10) (fun x => note.size - (intOf x).toNat)
    case atStart => exact ⟨0, rfl, Nat.zero_le _, fun j hj => absurd hj (Nat.not_lt_zero _)⟩
    case round =>
      obtain ⟨k, rfl, hk1, hno⟩ := hrel
      by_cases hkl : k < note.size
      · have ik : ∀ u : World, (Instr.index 9 (.string note) (.int .i64 k)).run Tryd.prog u = .ok (.int .u8 (at_ note k)) u := byteW note k hkl Tryd.prog 9 (by kernel_rfl)
        cases hc : (at_ note k == 10)
        · have hm : ∀ j, j < k + 1 → at_ note j ≠ 10 := fun j hj => by
            rcases Nat.lt_succ_iff_lt_or_eq.1 hj with h | rfl
            · exact hno j h
            · simpa using hc
          generalize at_ note k = d at *
          go_wp2
          go_round
          case rel => exact ⟨k + 1, by go_num, by omega, hm⟩
          case measure => simp [intOf]; omega
        · have hx := HN.out k hk1 hno (fun _ => by simpa using hc)
          have hz := HR.out _ hx
          have hxs : (note.extract 0 k).size = k := by simp; omega
          have HX : Hid ((⟨#[35]⟩ : ByteArray) ++ note.extract 0 k ++ ⟨#[10]⟩ = z) := by show _ = _; rw [hx]; exact HR.out _ rfl
          clear hx hz HR HN
          generalize at_ note k = d at *
          go_wp2
          go_ret
          exact ⟨by rw [← HX.out]; rfl, Below.refl _ _⟩
      · obtain rfl : k = note.size := by omega
        have hx := HN.out note.size hk1 hno (fun h => absurd h (Nat.lt_irrefl _))
        have hxs : (note.extract 0 note.size).size = note.size := by simp
        have hen : note.extract 0 note.size = note := by simp
        have HX : Hid ((⟨#[35]⟩ : ByteArray) ++ note ++ ⟨#[10]⟩ = z) := by show _ = _; rw [← hen, hx]; exact HR.out _ rfl
        clear hx HR HN hen
        go_wp2
        go_ret
        exact ⟨by rw [← HX.out]; rfl, Below.refl _ _⟩
  · have HR : Hid (z = ⟨#[35, 10]⟩) := by show _ = _; rw [HZ.out]; unfold blk; rw [h]; rfl
    clear HZ h
    go_enter Tryd.func51, Tryd.ntmps51
    go_wp2
    go_ret
    exact ⟨by rw [HR.out]; rfl, Below.refl _ _⟩

set_option maxRecDepth 100000 in
set_option maxHeartbeats 4000000 in
theorem gap_any (zs : List Int) (ao : Option Addr) (cap : Nat) (hzl : zs.length ≤ 140737488351232) (note : ByteArray) (hs : note.size ≤ 140737488351232) (i : Nat) (hi : i ≤ 100000) (w : World) (A : IsInts w ao zs) :
    Calls Tryd.prog 30 #[.slice ao zs.length cap, .int .i64 i, .string note] w fun e w' => e = .returned (.string ⟨(gapL zs note i).toArray⟩) ∧ Below w.heap.size w w' := by
  obtain ⟨z, hz2⟩ : ∃ z, z = gapL zs note i := ⟨_, rfl⟩
  rw [← hz2]
  obtain ⟨n, hn⟩ : ∃ n, zs.length = n := ⟨_, rfl⟩
  rw [hn] at hzl ⊢
  have HZ : Hid (z = if i < n ∧ 0 ≤ zs.getD i 0 then blk (zs.getD i 0) note else []) := by show _ = _; rw [hz2, ← hn]; rfl
  clear hz2
  have h0 : ¬ (i : Int) < 0 := by omega
  by_cases hlt : i < n
  · have h1 : ¬ (n : Int) ≤ (i : Int) := by omega
    obtain ⟨g, o, rfl, x0⟩ := A i (by omega)
    have c := fun (hp : 0 ≤ zs.getD i 0) (X : World) => blank_any (zs.getD i 0) hp note hs X
    generalize zs.getD i 0 = v at *
    have hg := lt_of_cell x0
    by_cases hp : 0 ≤ v
    · have h2 : ¬ v < 0 := by omega
      have HR : Hid (z = blk v note) := by show _ = _; rw [HZ.out, if_pos ⟨hlt, hp⟩]
      clear HZ
      go_enter Tryd.func30, Tryd.ntmps30
      go_wp2_with (go_at_call 51; with_reducible refine (c hp _).mono ?_; rintro e u ⟨rfl, G⟩)
      go_ret
      exact ⟨by rw [HR.out]; rfl, G⟩
    · have h2 : v < 0 := by omega
      have HR : Hid (z = []) := by show _ = _; rw [HZ.out, if_neg (fun e => hp e.2)]
      clear HZ
      go_enter Tryd.func30, Tryd.ntmps30
      go_wp2
      go_ret
      exact ⟨by rw [HR.out]; rfl, Below.refl _ _⟩
  · have h1 : (n : Int) ≤ (i : Int) := by omega
    have HR : Hid (z = []) := by show _ = _; rw [HZ.out, if_neg (fun e => hlt e.1)]
    clear HZ
    go_enter Tryd.func30, Tryd.ntmps30
    go_wp2
    go_ret
    exact ⟨by rw [HR.out]; rfl, Below.refl _ _⟩

end Go.Proofs.YtkpnnofonocilaaDoor
